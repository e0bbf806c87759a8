/- The walk of NumTakes. -/
import Derived.Test.YtdiihnpnjgadeaaTaka
import Derived.Deep.RegionHeld3
import Derived.Deep.RegionWith
import Derived.Deep.DrawnRows
namespace Go.Proofs.Ytdiihnpnjgadeaa
open Go.RowKit

attribute [local go_sem ↓] Go.wp_at_zero Go.wp_at_succ

theorem cur_below {w w' : World} {g : Nat} {st : St} (hc : Cur w g st) (hb : Below w.heap.size w w') : Cur w' g st := by
  have hlt := cur_lt hc
  rcases st with _ | L
  · exact (hb.block g hlt).trans hc
  · obtain ⟨A, c, h, hr, h1, h2⟩ := hc
    exact ⟨A, c, (hb.block g hlt).trans h, (hr.below hb).more hb.size, h1, h2⟩

theorem round_end {w wr W w4 w5 : World} {A : Option Addr} {L : List UInt8} {c g gx : Nat} {st' : St} {Z0 : Option Addr} {n3 m3 k3 : Nat} {b3 : Bool} (hbw : Below w.heap.size w wr) (honW : Only wr W gx) (hon4 : Only W w4 g) (hb5 : Below w4.heap.size w4 w5)
    (hg : w.heap.size ≤ g) (hgx : w.heap.size ≤ gx) (hcur5 : Cur w5 g st') (hbox4 : Box w4 gx (.slice Z0 n3 m3) (.int .i64 (k3 : Int)) (.bool b3)) (hv3 : RefV A L c (.agg #[.slice Z0 n3 m3, .int .i64 (k3 : Int), .bool b3]) st') :
    TI A L c g gx st' w5 ∧ Below w.heap.size w w5 := by
  have z1 := hbw.size
  have z2 := honW.size
  have z3 := hon4.size
  exact ⟨⟨hcur5, Z0, n3, m3, k3, b3, (hb5.block gx hbox4.lt).trans hbox4, hv3⟩, (below_only (below_only hbw honW hgx z1) hon4 hg (by omega)).trans (hb5.mono (by omega))⟩

theorem below_drew {B : Nat} {w w' : World} (h : Below B w.drew w') : Below B w w' := ⟨h.os, h.tape, h.output, h.size, h.block⟩
theorem only_drew {g : Nat} {w w' : World} (h : Only w.drew w' g) : Only w w' g := ⟨h.os, h.tape, h.output, h.size, h.block⟩

/-- Behind the reference's call: bytes below the law's own memory stay. -/
theorem after_rb {w1 : World} {B gx : Nat} {A : Option Addr} {L : List UInt8} (h : RB w1 B A L) (hB : B ≤ gx) (hg : gx < w1.heap.size) (z0 z1 z2 : Value) (o : Obj) : RB ((((w1.setCell ⟨gx, 0, none⟩ z0).setCell ⟨gx, 1, none⟩ z1).setCell ⟨gx, 2, none⟩ z2).alloc o) B A L :=
  h.below ((below3 (Below.refl _ _) hB z0 z1 z2).alloc (by simp [World.setCell]; omega) o)

set_option maxRecDepth 100000 in
set_option maxHeartbeats 4000000 in
theorem takes_core (A A2 : Option Addr) (c c2 : Nat) (L : List UInt8) (Z : List Int) (w : World) (hr : RB w w.heap.size A L) (hi : RI w w.heap.size A2 Z) (hlc : L.length ≤ c) (hl : L.length ≤ 1000) (hz : Z.length ≤ 60)
    (hwf : ∀ z ∈ Z, -9223372036854775808 ≤ z ∧ z ≤ 9223372036854775807) :
    Calls Try.prog 6 #[.slice A L.length c, .slice A2 Z.length c2] w fun e w' => e = .returned (.bool true) ∧ Below w.heap.size w w' := by
  have hd1 : decide (1000 < (L.length : Int)) = false := by simp; omega
  have hd2 : decide (60 < (Z.length : Int)) = false := by simp; omega
  have HWF := Lib.hid hwf
  have HI := Lib.hid hi
  clear hwf hi
  go_enter Try.func6, Try.ntmps6
  go_wp2_with (first
    | (go_at_call 18; (with_reducible refine (from_any L A c _ hr (by omega)).mono ?_); rintro e w1 ⟨g, rfl, hg1, hcur1, hb1⟩)
    | (go_at_call 22; (with_reducible refine (refFrom_any _ _ _ _).mono ?_); rintro e w2 ⟨rfl, hb2⟩))
  have hgw : w.heap.size ≤ w2.heap.size := by have := hb1.size; have := hb2.size; omega
  have hcur0 : Cur (w2.alloc (.cells #[.slice A L.length c, .int .i64 0, .bool false] 42)) g (some L) := cur_below (cur_below hcur1 hb2) ((Below.refl _ _).alloc (Nat.le_refl _) _)
  have hbox0 : Box (w2.alloc (.cells #[.slice A L.length c, .int .i64 0, .bool false] 42)) w2.heap.size (.slice A L.length c) (.int .i64 ((0 : Nat) : Int)) (.bool false) := heap_alloc_new _ _
  have hti0 : TI A L c g w2.heap.size (some L) (w2.alloc (.cells #[.slice A L.length c, .int .i64 0, .bool false] 42)) := ⟨hcur0, _, _, _, _, _, hbox0, ⟨0, rfl, Nat.zero_le _, by simp⟩⟩
  have hbw0 : Below w.heap.size w (w2.alloc (.cells #[.slice A L.length c, .int .i64 0, .bool false] 42)) := (hb1.trans (hb2.mono (by have := hb1.size; omega))).alloc hgw _
  clear hcur0 hbox0 hb1 hb2 hcur1
  go_loopw [7] (fun i wr => ∃ (k : Nat) (st : St), k ≤ Z.length ∧ i = .int .i64 (k : Int) ∧ TI A L c g w2.heap.size st wr ∧ Below w.heap.size w wr) (fun i _ => Z.length - (intOf i).toNat)
  case atStart => exact ⟨0, some L, by omega, rfl, hti0, hbw0⟩
  case round =>
    clear hti0 hbw0
    obtain ⟨k, st, hk, rfl, hti, hbw⟩ := hrel
    by_cases hlt : k < Z.length
    · obtain ⟨hcur, Y0, n1, m1, k1, b1, hbox, hv⟩ := hti
      obtain ⟨b2, off2, rfl, hb2, hcc⟩ := HI.out (by omega)
      have hck := (hbw.cell (p := ⟨b2, off2 + k, none⟩) hb2).trans (hcc k hlt)
      clear hcc
      obtain ⟨hx0, hx1, hx2, hf0, hf1, hf2⟩ := hbox.cells
      have hgx := hbox.lt
      have hrr := hr.below hbw
      have hsz := hbw.size
      obtain ⟨z, hzz⟩ : ∃ z, z = Z[k] := ⟨_, rfl⟩
      rw [← hzz] at hck
      have hzb := HWF.out z (by rw [hzz]; exact List.getElem_mem hlt)
      clear hzz
      by_cases h1 : z = 1
      · subst h1
        obtain ⟨st', n', hst⟩ : ∃ st' n', stepNum st = (st', n') := ⟨_, _, rfl⟩
        have HN : Hid (∀ W, Cur W g st → Calls Try.prog 24 #[.pointer (some ⟨g, 0, none⟩)] W fun e w' => e = .returned (.int .i64 (n' : Int)) ∧ Cur w' g st' ∧ Only W w' g) := by
          intro W h; have h9 := num_any g st W h; rw [hst] at h9; exact h9
        have HR : Hid (∀ W, RB W w.heap.size A L → w.heap.size ≤ W.heap.size → Calls Try.prog 23 #[.agg #[.slice Y0 n1 m1, .int .i64 (k1 : Int), .bool b1]] W (GivesRefN A L c (st', n') W)) := by
          intro W h h2; have h9 := refNum_any A L c w.heap.size _ st W hv h h2 hlc (by omega); rw [hst] at h9; exact h9
        clear hst hv
        go_wp2_with (first
          | (go_at_call 23; ((with_reducible refine (HR.out _ hrr hsz).mono ?_)); rintro e w3 ⟨y0, y1, y2, he, hv3, hb3⟩; obtain ⟨Z0, n3, m3, k3, b3, rfl, rfl, rfl⟩ := refv_parts hv3; subst he; obtain ⟨hc3, hf3⟩ := bcell hb3; have hgx3 : w2.heap.size < w3.heap.size := (by have := hb3.size; omega); obtain ⟨hcurW, hboxW, honW⟩ := after_ref hcur hbox hb3 (.slice Z0 n3 m3) (.int .i64 (k3 : Int)) (.bool b3) (.cells #[.slice Z0 n3 m3, .int .i64 (k3 : Int), .bool b3] 42))
          | (go_at_call 24; (with_reducible refine (HN.out _ hcurW).mono ?_); rintro e w4 ⟨rfl, hcur4, hon4⟩; have hbox4 := box_only hcurW hboxW hon4; obtain ⟨hy0, hy1, hy2, _, _, _⟩ := hbox4.cells))
        have hgx4 := hbox4.lt
        have HB : Hid (∀ W, Cur W g st' → Calls Try.prog 21 #[.pointer (some ⟨g, 0, none⟩)] W fun e w' => e = .returned (.bool b3) ∧ W = w') := by
          intro W h; have h9 := bad_any g st' W h; rw [refv_bad hv3] at h9; exact h9
        have HL : Hid (∀ W, Calls Try.prog 30 #[.agg #[.slice Z0 n3 m3, .int .i64 (k3 : Int), .bool b3]] W fun e w' => e = .returned (.int .i64 (leftN st' : Int)) ∧ Below W.heap.size W w') := by
          intro W; exact refLeft_any A L c _ st' W hv3 (by omega)
        go_region_held3 (fun w' => w'.cell? ⟨w2.heap.size, 0, none⟩ = some (.slice Z0 n3 m3) ∧ w'.cell? ⟨w2.heap.size, 1, none⟩ = some (.int .i64 (k3 : Int)) ∧ w'.cell? ⟨w2.heap.size, 2, none⟩ = some (.bool b3))
          (first | go_keep | exact ⟨(hb5.cell (p := ⟨w2.heap.size, 0, none⟩) hgx4).trans hy0, (hb5.cell (p := ⟨w2.heap.size, 1, none⟩) hgx4).trans hy1, (hb5.cell (p := ⟨w2.heap.size, 2, none⟩) hgx4).trans hy2⟩)
          (first | (go_at_call 21; refine (HB.out _ ?_).mono ?_; (exact hcur4); rintro e w' ⟨rfl, rfl⟩) | (go_at_call 20; refine (left_any g st' _ ?_).mono ?_; (first | exact hcur5 | exact hcur4); rintro e w' ⟨rfl, rfl⟩) | (go_at_call 30; refine (HL.out _).mono ?_; rintro e w5 ⟨rfl, hb5⟩; have hcur5 : Cur w5 g st' := cur_below hcur4 (below_drew hb5)))
        go_wp2
        have HE := round_end hbw honW hon4 (below_drew hb5) hg1 hgw hcur5 hbox4 hv3
        clear hbw honW hon4 hb5 hcur5 hbox4 hv3 hcurW hboxW hcur4 hy0 hy1 hy2 hc3 hf3 hb3 hcur hbox hx0 hx1 hx2 hf0 hf1 hf2 hrr hck
        go_roundw
        case rel => exact ⟨k + 1, st', by omega, by go_num, HE.1, HE.2⟩
        case measure => simp [intOf]; omega
      have h1b : (z == 1) = false := by simpa using h1
      by_cases h2 : z = 2
      · subst h2
        obtain ⟨st', n', hst⟩ : ∃ st' n', stepByte st = (st', n') := ⟨_, _, rfl⟩
        have HN : Hid (∀ W, Cur W g st → Calls Try.prog 26 #[.pointer (some ⟨g, 0, none⟩)] W fun e w' => e = .returned (.int .i64 (n' : Int)) ∧ Cur w' g st' ∧ Only W w' g) := by
          intro W h; have h9 := byte_any g st W h; rw [hst] at h9; exact h9
        have HR : Hid (∀ W, RB W w.heap.size A L → w.heap.size ≤ W.heap.size → Calls Try.prog 25 #[.agg #[.slice Y0 n1 m1, .int .i64 (k1 : Int), .bool b1]] W (GivesRefN A L c (st', n') W)) := by
          intro W h h2; have h9 := refByte_any A L c w.heap.size _ st W hv h h2 hlc (by omega); rw [hst] at h9; exact h9
        clear hst hv
        go_wp2_with (first
          | (go_at_call 25; ((with_reducible refine (HR.out _ hrr hsz).mono ?_)); rintro e w3 ⟨y0, y1, y2, he, hv3, hb3⟩; obtain ⟨Z0, n3, m3, k3, b3, rfl, rfl, rfl⟩ := refv_parts hv3; subst he; obtain ⟨hc3, hf3⟩ := bcell hb3; have hgx3 : w2.heap.size < w3.heap.size := (by have := hb3.size; omega); obtain ⟨hcurW, hboxW, honW⟩ := after_ref hcur hbox hb3 (.slice Z0 n3 m3) (.int .i64 (k3 : Int)) (.bool b3) (.cells #[.slice Z0 n3 m3, .int .i64 (k3 : Int), .bool b3] 42))
          | (go_at_call 26; (with_reducible refine (HN.out _ hcurW).mono ?_); rintro e w4 ⟨rfl, hcur4, hon4⟩; have hbox4 := box_only hcurW hboxW hon4; obtain ⟨hy0, hy1, hy2, _, _, _⟩ := hbox4.cells))
        have hgx4 := hbox4.lt
        have HB : Hid (∀ W, Cur W g st' → Calls Try.prog 21 #[.pointer (some ⟨g, 0, none⟩)] W fun e w' => e = .returned (.bool b3) ∧ W = w') := by
          intro W h; have h9 := bad_any g st' W h; rw [refv_bad hv3] at h9; exact h9
        have HL : Hid (∀ W, Calls Try.prog 30 #[.agg #[.slice Z0 n3 m3, .int .i64 (k3 : Int), .bool b3]] W fun e w' => e = .returned (.int .i64 (leftN st' : Int)) ∧ Below W.heap.size W w') := by
          intro W; exact refLeft_any A L c _ st' W hv3 (by omega)
        go_region_held3 (fun w' => w'.cell? ⟨w2.heap.size, 0, none⟩ = some (.slice Z0 n3 m3) ∧ w'.cell? ⟨w2.heap.size, 1, none⟩ = some (.int .i64 (k3 : Int)) ∧ w'.cell? ⟨w2.heap.size, 2, none⟩ = some (.bool b3))
          (first | go_keep | exact ⟨(hb5.cell (p := ⟨w2.heap.size, 0, none⟩) hgx4).trans hy0, (hb5.cell (p := ⟨w2.heap.size, 1, none⟩) hgx4).trans hy1, (hb5.cell (p := ⟨w2.heap.size, 2, none⟩) hgx4).trans hy2⟩)
          (first | (go_at_call 21; refine (HB.out _ ?_).mono ?_; (exact hcur4); rintro e w' ⟨rfl, rfl⟩) | (go_at_call 20; refine (left_any g st' _ ?_).mono ?_; (first | exact hcur5 | exact hcur4); rintro e w' ⟨rfl, rfl⟩) | (go_at_call 30; refine (HL.out _).mono ?_; rintro e w5 ⟨rfl, hb5⟩; have hcur5 : Cur w5 g st' := cur_below hcur4 (below_drew hb5)))
        go_wp2
        have HE := round_end hbw honW hon4 (below_drew hb5) hg1 hgw hcur5 hbox4 hv3
        clear hbw honW hon4 hb5 hcur5 hbox4 hv3 hcurW hboxW hcur4 hy0 hy1 hy2 hc3 hf3 hb3 hcur hbox hx0 hx1 hx2 hf0 hf1 hf2 hrr hck
        go_roundw
        case rel => exact ⟨k + 1, st', by omega, by go_num, HE.1, HE.2⟩
        case measure => simp [intOf]; omega
      have h2b : (z == 2) = false := by simpa using h2
      by_cases h3 : z = 3
      · subst h3
        obtain ⟨st', l', hst⟩ : ∃ st' l', stepText st = (st', l') := ⟨_, _, rfl⟩
        have HN : Hid (∀ W, Cur W g st → Calls Try.prog 19 #[.pointer (some ⟨g, 0, none⟩)] W (GivesCur g (st', l') W)) := by
          intro W h; have h9 := ctext_any g st W h; rw [hst] at h9; exact h9
        have HR : Hid (∀ W, RB W w.heap.size A L → w.heap.size ≤ W.heap.size → Calls Try.prog 27 #[.agg #[.slice Y0 n1 m1, .int .i64 (k1 : Int), .bool b1]] W (GivesRefB A L c w.heap.size (st', l') W)) := by
          intro W h h2; have h9 := refTakeText_any A L c w.heap.size _ st W hv h h2 hlc (by omega); rw [hst] at h9; exact h9
        clear hst hv
        go_wp2_with (go_at_call 27; ((with_reducible refine (HR.out _ hrr hsz).mono ?_)); rintro e w3 ⟨y0, y1, y2, A3, c3, he, hv3, hrb3, hb3⟩; obtain ⟨Z0, n3, m3, k3, b3, rfl, rfl, rfl⟩ := refv_parts hv3; subst he; obtain ⟨hc3, hf3⟩ := bcell hb3; have hgx3 : w2.heap.size < w3.heap.size := (by have := hb3.size; omega); obtain ⟨hcurW, hboxW, honW⟩ := after_ref hcur hbox hb3 (.slice Z0 n3 m3) (.int .i64 (k3 : Int)) (.bool b3) (.cells #[.slice Z0 n3 m3, .int .i64 (k3 : Int), .bool b3] 42); have hrW := after_rb hrb3 hgw hgx3 (.slice Z0 n3 m3) (.int .i64 (k3 : Int)) (.bool b3) (.cells #[.slice Z0 n3 m3, .int .i64 (k3 : Int), .bool b3] 42))
        generalize ((((w3.setCell ⟨w2.heap.size, 0, none⟩ (.slice Z0 n3 m3)).setCell ⟨w2.heap.size, 1, none⟩ (.int .i64 (k3 : Int))).setCell ⟨w2.heap.size, 2, none⟩ (.bool b3)).alloc (.cells #[.slice Z0 n3 m3, .int .i64 (k3 : Int), .bool b3] 42)) = W at hcurW hboxW honW hrW ⊢
        have hszW : w.heap.size ≤ W.heap.size := by have := honW.size; omega
        have eW := aw_str (w := W.drew) (RB.more (RB.drew hrW) hszW) l'.length c3 rfl
        have eW1 := aw_str (w := W) (RB.more hrW hszW) l'.length c3 rfl
        go_region_with (first | (go_at_call 19; refine (HN.out _ ?_).mono ?_; (exact hcurW); rintro e w4 ⟨A4, c4, rfl, hr4, hcur4, hon4⟩; have hon4 := only_drew hon4; have hbox4 := box_only hcurW hboxW hon4; have hbl4 : Below w.heap.size W w4 := below_only (Below.refl _ _) hon4 hg1 hszW; have e43 := aw_str (RB.more (hrW.below hbl4) (Nat.le_trans hszW hon4.size)) l'.length c3 rfl; have e44 := aw_str hr4 l'.length c4 rfl))
        all_goals
          go_wp2_with fail
          obtain ⟨hy0, hy1, hy2, _, _, _⟩ := hbox4.cells
          clear eW eW1 e43 e44
          have hgx4 := hbox4.lt
          have HB : Hid (∀ W, Cur W g st' → Calls Try.prog 21 #[.pointer (some ⟨g, 0, none⟩)] W fun e w' => e = .returned (.bool b3) ∧ W = w') := by
            intro W h; have h9 := bad_any g st' W h; rw [refv_bad hv3] at h9; exact h9
          have HL : Hid (∀ W, Calls Try.prog 30 #[.agg #[.slice Z0 n3 m3, .int .i64 (k3 : Int), .bool b3]] W fun e w' => e = .returned (.int .i64 (leftN st' : Int)) ∧ Below W.heap.size W w') := by
            intro W; exact refLeft_any A L c _ st' W hv3 (by omega)
          go_region_held3 (fun w' => w'.cell? ⟨w2.heap.size, 0, none⟩ = some (.slice Z0 n3 m3) ∧ w'.cell? ⟨w2.heap.size, 1, none⟩ = some (.int .i64 (k3 : Int)) ∧ w'.cell? ⟨w2.heap.size, 2, none⟩ = some (.bool b3))
            (first | go_keep | exact ⟨(hb5.cell (p := ⟨w2.heap.size, 0, none⟩) hgx4).trans hy0, (hb5.cell (p := ⟨w2.heap.size, 1, none⟩) hgx4).trans hy1, (hb5.cell (p := ⟨w2.heap.size, 2, none⟩) hgx4).trans hy2⟩)
            (first | (go_at_call 21; refine (HB.out _ ?_).mono ?_; (exact hcur4); rintro e w' ⟨rfl, rfl⟩) | (go_at_call 20; refine (left_any g st' _ ?_).mono ?_; (first | exact hcur5 | exact hcur4); rintro e w' ⟨rfl, rfl⟩) | (go_at_call 30; refine (HL.out _).mono ?_; rintro e w5 ⟨rfl, hb5⟩; have hcur5 : Cur w5 g st' := cur_below hcur4 (below_drew hb5)))
          go_wp2
          have HE := round_end hbw honW hon4 (below_drew hb5) hg1 hgw hcur5 hbox4 hv3
          clear hbw honW hon4 hb5 hcur5 hbox4 hv3 hcurW hboxW hcur4 hy0 hy1 hy2 hc3 hf3 hb3 hcur hbox hx0 hx1 hx2 hf0 hf1 hf2 hrr hck
          go_roundw
          case rel => exact ⟨k + 1, st', by omega, by go_num, HE.1, HE.2⟩
          case measure => simp [intOf]; omega
      have h3b : (z == 3) = false := by simpa using h3
      obtain ⟨st', l', hst⟩ : ∃ st' l', stepTake (z.tmod 1000) st = (st', l') := ⟨_, _, rfl⟩
      have HN : Hid (∀ W, Cur W g st → Calls Try.prog 29 #[.pointer (some ⟨g, 0, none⟩), .int .i64 (z.tmod 1000)] W (GivesCur g (st', l') W)) := by
        intro W h; have h9 := take_any g (z.tmod 1000) st W h; rw [hst] at h9; exact h9
      have HR : Hid (∀ W, RB W w.heap.size A L → w.heap.size ≤ W.heap.size → Calls Try.prog 28 #[.agg #[.slice Y0 n1 m1, .int .i64 (k1 : Int), .bool b1], .int .i64 (z.tmod 1000)] W (GivesRefB A L c w.heap.size (st', l') W)) := by
        intro W h h2; have h9 := refTake_any A L c w.heap.size _ (z.tmod 1000) st W hv h h2 hlc (by omega); rw [hst] at h9; exact h9
      clear hst hv
      go_wp2_with (go_at_call 28; ((with_reducible refine (HR.out _ hrr hsz).mono ?_)); rintro e w3 ⟨y0, y1, y2, A3, c3, he, hv3, hrb3, hb3⟩; obtain ⟨Z0, n3, m3, k3, b3, rfl, rfl, rfl⟩ := refv_parts hv3; subst he; obtain ⟨hc3, hf3⟩ := bcell hb3; have hgx3 : w2.heap.size < w3.heap.size := (by have := hb3.size; omega); obtain ⟨hcurW, hboxW, honW⟩ := after_ref hcur hbox hb3 (.slice Z0 n3 m3) (.int .i64 (k3 : Int)) (.bool b3) (.cells #[.slice Z0 n3 m3, .int .i64 (k3 : Int), .bool b3] 42); have hrW := after_rb hrb3 hgw hgx3 (.slice Z0 n3 m3) (.int .i64 (k3 : Int)) (.bool b3) (.cells #[.slice Z0 n3 m3, .int .i64 (k3 : Int), .bool b3] 42))
      generalize ((((w3.setCell ⟨w2.heap.size, 0, none⟩ (.slice Z0 n3 m3)).setCell ⟨w2.heap.size, 1, none⟩ (.int .i64 (k3 : Int))).setCell ⟨w2.heap.size, 2, none⟩ (.bool b3)).alloc (.cells #[.slice Z0 n3 m3, .int .i64 (k3 : Int), .bool b3] 42)) = W at hcurW hboxW honW hrW ⊢
      have hszW : w.heap.size ≤ W.heap.size := by have := honW.size; omega
      have eW := aw_str (w := W.drew) (RB.more (RB.drew hrW) hszW) l'.length c3 rfl
      have eW1 := aw_str (w := W) (RB.more hrW hszW) l'.length c3 rfl
      go_region_with (first | (go_at_call 29; refine (HN.out _ ?_).mono ?_; (exact hcurW); rintro e w4 ⟨A4, c4, rfl, hr4, hcur4, hon4⟩; have hon4 := only_drew hon4; have hbox4 := box_only hcurW hboxW hon4; have hbl4 : Below w.heap.size W w4 := below_only (Below.refl _ _) hon4 hg1 hszW; have e43 := aw_str (RB.more (hrW.below hbl4) (Nat.le_trans hszW hon4.size)) l'.length c3 rfl; have e44 := aw_str hr4 l'.length c4 rfl))
      all_goals
        go_wp2_with fail
        obtain ⟨hy0, hy1, hy2, _, _, _⟩ := hbox4.cells
        clear eW eW1 e43 e44
        have hgx4 := hbox4.lt
        have HB : Hid (∀ W, Cur W g st' → Calls Try.prog 21 #[.pointer (some ⟨g, 0, none⟩)] W fun e w' => e = .returned (.bool b3) ∧ W = w') := by
          intro W h; have h9 := bad_any g st' W h; rw [refv_bad hv3] at h9; exact h9
        have HL : Hid (∀ W, Calls Try.prog 30 #[.agg #[.slice Z0 n3 m3, .int .i64 (k3 : Int), .bool b3]] W fun e w' => e = .returned (.int .i64 (leftN st' : Int)) ∧ Below W.heap.size W w') := by
          intro W; exact refLeft_any A L c _ st' W hv3 (by omega)
        go_region_held3 (fun w' => w'.cell? ⟨w2.heap.size, 0, none⟩ = some (.slice Z0 n3 m3) ∧ w'.cell? ⟨w2.heap.size, 1, none⟩ = some (.int .i64 (k3 : Int)) ∧ w'.cell? ⟨w2.heap.size, 2, none⟩ = some (.bool b3))
          (first | go_keep | exact ⟨(hb5.cell (p := ⟨w2.heap.size, 0, none⟩) hgx4).trans hy0, (hb5.cell (p := ⟨w2.heap.size, 1, none⟩) hgx4).trans hy1, (hb5.cell (p := ⟨w2.heap.size, 2, none⟩) hgx4).trans hy2⟩)
          (first | (go_at_call 21; refine (HB.out _ ?_).mono ?_; (exact hcur4); rintro e w' ⟨rfl, rfl⟩) | (go_at_call 20; refine (left_any g st' _ ?_).mono ?_; (first | exact hcur5 | exact hcur4); rintro e w' ⟨rfl, rfl⟩) | (go_at_call 30; refine (HL.out _).mono ?_; rintro e w5 ⟨rfl, hb5⟩; have hcur5 : Cur w5 g st' := cur_below hcur4 (below_drew hb5)))
        go_wp2
        have HE := round_end hbw honW hon4 (below_drew hb5) hg1 hgw hcur5 hbox4 hv3
        clear hbw honW hon4 hb5 hcur5 hbox4 hv3 hcurW hboxW hcur4 hy0 hy1 hy2 hc3 hf3 hb3 hcur hbox hx0 hx1 hx2 hf0 hf1 hf2 hrr hck
        go_roundw
        case rel => exact ⟨k + 1, st', by omega, by go_num, HE.1, HE.2⟩
        case measure => simp [intOf]; omega
    · have hge : (Z.length : Int) ≤ (k : Int) := by omega
      clear hti
      go_wp2_with (first
        | (go_at_call 24; refine (num_nil _).mono ?_; rintro e w' ⟨rfl, rfl⟩)
        | (go_at_call 26; refine (byte_nil _).mono ?_; rintro e w' ⟨rfl, rfl⟩)
        | (go_at_call 29; refine (take_nil _ _).mono ?_; rintro e w' ⟨rfl, rfl⟩)
        | (go_at_call 19; refine (ctext_nil _).mono ?_; rintro e w' ⟨rfl, rfl⟩)
        | (go_at_call 20; refine (left_nil _).mono ?_; rintro e w' ⟨rfl, rfl⟩)
        | (go_at_call 21; refine (bad_nil _).mono ?_; rintro e w' ⟨rfl, rfl⟩)
        | (go_at_call 7; refine (awake_any _).mono ?_; rintro e w9 ⟨rfl, hb9⟩))
      go_ret
      exact ⟨rfl, hbw.trans (hb9.mono hbw.size)⟩

end Go.Proofs.Ytdiihnpnjgadeaa
