/- Lemmas under the proofs of this place: DiskDo. No statement is proved here. -/
import Derived.Test.YtonnkibcnhjelaaGreatDoorBu37
import Derived.Deep.RegionHeld3
set_option linter.unusedVariables false
namespace Go.Proofs.YtonnkibcnhjelaaGreatDoor
open Go.RowKit
def stepD (d : Dk) (x : Dd) : Dk := Dk.step d x.kind x.n (dataL x) x.masks
def Did (K : Kps) (w0 : World) (g q : Nat) (d' : Dk) (w' : World) : Prop := ∃ F G B, Two K w0 w' g F d' q G B d'
section
variable {K : Kps} {w0 w w' : World} {g q : Nat} {F G B : Nat → Prop} {d e d' : Dk}
theorem Two.masks {Z : List Int} {A : Option Addr} (h : Two K w0 w g F d q G B e) (hM : RI w0 w0.heap.size A Z) : RI w w.heap.size A Z ∧ (0 < Z.length → ∀ ad, A = some ad → ¬ F ad.block) ∧ (0 < Z.length → ∀ ad, A = some ad → ¬ G ad.block) := by
  refine ⟨fun h0 => ?_, fun h0 ad e' hf => ?_, fun h0 ad e' hf => ?_⟩
  · obtain ⟨b, off, e', hlt, hc⟩ := hM h0
    exact ⟨b, off, e', Nat.lt_of_lt_of_le hlt h.p.below.size, fun k hk => (h.p.below.cell (p := ⟨b, off + k, none⟩) hlt).trans (hc k hk)⟩
  · obtain ⟨b, off, e2, hlt, _⟩ := hM h0
    rw [e'] at e2
    injection e2 with e2
    subst e2
    have := h.p.own _ hf
    simp at this
    omega
  · obtain ⟨b, off, e2, hlt, _⟩ := hM h0
    rw [e'] at e2
    injection e2 with e2
    subst e2
    have := h.go _ hf
    simp at this
    omega
end
theorem read_load (d : Dk) (i : Int) : (d.read i).1.load ≤ d.load + 1 := by
  unfold Dk.read
  split
  · exact Nat.le_succ _
  · split
    · exact Nat.le_succ _
    · show d.reads + 1 + d.writes + d.flushes + d.waits.length ≤ d.reads + d.writes + d.flushes + d.waits.length + 1
      omega
theorem Did.of {K : Kps} {w0 w w' : World} {g q : Nat} {F G B : Nat → Prop} {d d' : Dk} (h : Two K w0 w g F d' q G B d) (hd : RDeeds d' G B w w' q) : Did K w0 g q d' w' := by
  obtain ⟨G', B', hT⟩ := h.ref hd
  exact ⟨F, G', B', hT⟩
def DB (W : World) (g5 : Nat) (x : Dd) (dA : Option Addr) (dc : Nat) (mA : Option Addr) (mc : Nat) : Prop := Blk W g5 45 #[.int .i64 x.kind, .int .i64 x.n, .slice dA x.data.length dc, .bool x.odd, .slice mA x.masks.length mc]
theorem DB.c0 {W : World} {g5 : Nat} {x : Dd} {dA mA : Option Addr} {dc mc : Nat} (h : DB W g5 x dA dc mA mc) : W.cell? ⟨g5, 0, none⟩ = some (.int .i64 x.kind) := by rw [Blk.cell h]; rfl
theorem DB.c1 {W : World} {g5 : Nat} {x : Dd} {dA mA : Option Addr} {dc mc : Nat} (h : DB W g5 x dA dc mA mc) : W.cell? ⟨g5, 1, none⟩ = some (.int .i64 x.n) := by rw [Blk.cell h]; rfl
theorem DB.c2 {W : World} {g5 : Nat} {x : Dd} {dA mA : Option Addr} {dc mc : Nat} (h : DB W g5 x dA dc mA mc) : W.cell? ⟨g5, 2, none⟩ = some (.slice dA x.data.length dc) := by rw [Blk.cell h]; rfl
theorem DB.c3 {W : World} {g5 : Nat} {x : Dd} {dA mA : Option Addr} {dc mc : Nat} (h : DB W g5 x dA dc mA mc) : W.cell? ⟨g5, 3, none⟩ = some (.bool x.odd) := by rw [Blk.cell h]; rfl
theorem DB.c4 {W : World} {g5 : Nat} {x : Dd} {dA mA : Option Addr} {dc mc : Nat} (h : DB W g5 x dA dc mA mc) : W.cell? ⟨g5, 4, none⟩ = some (.slice mA x.masks.length mc) := by rw [Blk.cell h]; rfl
section
variable {K : Kps} {w0 w : World} {g q : Nat} {F G B : Nat → Prop} {d : Dk} (h : Two K w0 w g F d q G B d) (hl : d.load ≤ 90000) (x : Dd) (dA mA : Option Addr) (dc mc : Nat) (hv : DV w0 x dA dc mA mc) (hx : x.data.length ≤ 100000)
include h hl hv hx
set_option maxRecDepth 100000 in
set_option maxHeartbeats 4000000 in
theorem do_any : Calls Tryz.prog 12 #[.pointer (some ⟨g, 0, none⟩), .pointer (some ⟨q, 0, none⟩), deedV x dA dc mA mc] w fun e w' => e = .returned (.bool true) ∧ Did K w0 g q (stepD d x) w' := by
  have HV := Lib.hid hv
  have hFg : ¬ F w.heap.size := fun hf => by have := h.p.flt _ hf; omega
  have hGg : ¬ G w.heap.size := fun hf => by have := h.r.glt _ hf; omega
  have hbb : Below w.heap.size w (w.alloc (.cells #[.int .i64 x.kind, .int .i64 x.n, .slice dA x.data.length dc, .bool x.odd, .slice mA x.masks.length mc] 45)) := (Below.refl _ _).alloc (Nat.le_refl _) _
  have hDB : DB (w.alloc (.cells #[.int .i64 x.kind, .int .i64 x.n, .slice dA x.data.length dc, .bool x.odd, .slice mA x.masks.length mc] 45)) w.heap.size x dA dc mA mc := Blk.new w _ _
  have hT := h.more hbb
  have hX := hx
  by_cases k1 : x.kind = 1
  · obtain ⟨d', L, r, hq⟩ : ∃ d' L r, d.read x.n = (d', L, r) := ⟨_, _, _, rfl⟩
    have HQ : Hid (stepD d x = d') := by show _ = _; unfold stepD Dk.step; rw [if_pos k1, hq]
    have HP : Hid (∀ W, Two K w0 W g F d q G B d → Calls Tryz.prog 32 #[.pointer (some ⟨g, 0, none⟩), .int .i64 x.n] W fun e w' => (∃ A m c, e = .returned (.tuple #[.slice A m c, .int .i64 r]) ∧ Hid (m = L.length ∧ Kept w' F A L ∧ Kept w' G A L)) ∧ Two K w0 w' g F d' q G B d ∧ Turns W w' F F) := fun W hW =>
      (read_any hW.p.disk x.n (by omega)).mono fun e w' hh => by
        obtain ⟨A, c, he, ho, hd⟩ := hh
        rw [hq] at he ho hd
        exact ⟨⟨A, L.length, c, he, rfl, Kept.read ho hW.p.flt, Kept.read ho hW.r.glt⟩, hW.deeds hd, hd.2⟩
    have HR : Hid (∀ W (A0 : Option Addr), Two K w0 W g F d' q G B d → Kept W G A0 L → Calls Tryz.prog 33 #[.pointer (some ⟨q, 0, none⟩), .int .i64 x.n] W fun e w' => (∃ A m c, e = .returned (.tuple #[.slice A m c, .int .i64 r]) ∧ Hid (m = L.length ∧ RB w' w'.heap.size A L ∧ RB w' w'.heap.size A0 L)) ∧ Did K w0 g q d' w') := fun W A0 hW hk =>
      (rread_any hW.r x.n (by omega)).mono fun e w' hh => by
        obtain ⟨A, c, he, ho, hd⟩ := hh
        rw [hq] at he ho hd
        have hd' := hd.deeds
        exact ⟨⟨A, L.length, c, he, rfl, own_rb ho, hW.kept hd' hk⟩, Did.of hW hd'⟩
    have HTw := Lib.hid hT
    have HDB := Lib.hid hDB
    have HFg : Hid (¬ F w.heap.size ∧ w.heap.size = w.heap.size) := ⟨hFg, rfl⟩
    have kb1 : (x.kind == 1) = true := by rw [k1]; rfl
    unfold deedV
    clear h hl hv hx hX hT hDB hFg hGg hbb hq k1
    go_enter Tryz.func12, Tryz.ntmps12
    go_wp2_with (first
      | (go_at_call 32; (with_reducible refine (HP.out _ HTw.out).mono ?_); rintro e w1 ⟨⟨A1, m1, c1, rfl, hk1⟩, hT1, ht1⟩; have b1 := DB.c1 (Blk.turns HDB.out ht1 HFg.out.1))
      | (go_at_call 33; (with_reducible refine (HR.out _ A1 hT1 hk1.out.2.2).mono ?_); rintro e w2 ⟨⟨A2, m2, c2, rfl, hk2⟩, hT2⟩; have s1 := aw_str hk2.out.2.1 m2 c2 hk2.out.1; have s2 := aw_str hk2.out.2.2 m1 c1 hk1.out.1; have HT2 := Lib.hid hT2; clear hT1 hT2))
    go_ret
    rw [HQ.out]
    exact ⟨rfl, HT2.out⟩
  · have kb1 : (x.kind == 1) = false := by simpa using k1
    by_cases k2 : x.kind = 2
    · have kb2 : (x.kind == 2) = true := by rw [k2]; rfl
      obtain ⟨d', r, hq⟩ : ∃ d' r, d.write x.n (dataL x) = (d', r) := ⟨_, _, rfl⟩
      have HQ : Hid (stepD d x = d') := by show _ = _; unfold stepD Dk.step; rw [if_neg k1, if_pos k2, hq]
      have HDa : Hid (∀ W, Below w0.heap.size w0 W → Calls Tryz.prog 34 #[.agg #[.int .i64 x.kind, .int .i64 x.n, .slice dA x.data.length dc, .bool x.odd, .slice mA x.masks.length mc]] W fun e w' => (∃ A m c, e = .returned (.slice A m c) ∧ Hid (m = (dataL x).length ∧ m ≤ c ∧ c ≤ 9223372036854775807 ∧ RB w' w'.heap.size A (dataL x) ∧ (0 < (dataL x).length → ∀ ad, A = some ad → ad.block < w0.heap.size ∨ W.heap.size ≤ ad.block))) ∧ Below W.heap.size W w') := fun W hW =>
        (data_any hW x dA dc mA mc hv hx).mono fun e w' hh => by
          obtain ⟨⟨A, m, c, he, h1⟩, h2⟩ := hh
          exact ⟨⟨A, m, c, he, h1⟩, h2⟩
      have HP : Hid (∀ W W1 A m c, Two K w0 W g F d q G B d → Below W.heap.size W W1 → Hid (m = (dataL x).length ∧ m ≤ c ∧ c ≤ 9223372036854775807 ∧ RB W1 W1.heap.size A (dataL x) ∧ (0 < (dataL x).length → ∀ ad, A = some ad → ad.block < w0.heap.size ∨ W.heap.size ≤ ad.block)) → Calls Tryz.prog 27 #[.pointer (some ⟨g, 0, none⟩), .int .i64 x.n, .slice A m c] W1 fun e w' => e = .returned (.int .i64 r) ∧ ∃ F', Two K w0 w' g F' d' q G B d ∧ Turns W1 w' F F') := fun W W1 A m c hW hb hh => by
        obtain ⟨h1, h2, h3, h4, h5⟩ := hh.out
        have hW1 := hW.more hb
        refine (write_all hW1.p.disk x.n (by omega) (dataL x) A m c h1 h4 (fun h0 ad e hf => ?_) h2 h3).mono fun e w' hh => ?_
        · rcases h5 h0 ad e with h6 | h6
          · have := hW.p.own _ hf; omega
          · have := hW.p.flt _ hf; omega
        · obtain ⟨F', he, hp, ht⟩ := hh
          rw [hq] at he hp
          exact ⟨he, F', hW1.prog hp ht, ht⟩
      have HR : Hid (∀ W W1 F' A m c, Two K w0 W g F' d' q G B d → Below W.heap.size W W1 → Hid (m = (dataL x).length ∧ m ≤ c ∧ c ≤ 9223372036854775807 ∧ RB W1 W1.heap.size A (dataL x) ∧ (0 < (dataL x).length → ∀ ad, A = some ad → ad.block < w0.heap.size ∨ W.heap.size ≤ ad.block)) → Calls Tryz.prog 31 #[.pointer (some ⟨q, 0, none⟩), .int .i64 x.n, .slice A m c] W1 fun e w' => e = .returned (.int .i64 r) ∧ Did K w0 g q d' w' ∧ Hid (∃ G', Turns W1 w' G G')) := fun W W1 F' A m c hW hb hh => by
        obtain ⟨h1, h2, h3, h4, h5⟩ := hh.out
        have hW1 := hW.more hb
        refine (rwrite_any hW1.r x.n (by omega) (dataL x) A m c h1 h4).mono fun e w' hh => ?_
        obtain ⟨he, hd⟩ := hh
        rw [hq] at he hd
        obtain ⟨G', B', hr, ht, hb'⟩ := hd
        exact ⟨he, Did.of hW1 ⟨G', B', hr, ht, hb'⟩, G', ht⟩
      have HFive : Hid (∀ W, DB W w.heap.size x dA dc mA mc → W.cell? ⟨w.heap.size, 0, none⟩ = some (.int .i64 x.kind) ∧ W.cell? ⟨w.heap.size, 1, none⟩ = some (.int .i64 x.n) ∧ W.cell? ⟨w.heap.size, 2, none⟩ = some (.slice dA x.data.length dc) ∧ W.cell? ⟨w.heap.size, 3, none⟩ = some (.bool x.odd) ∧ W.cell? ⟨w.heap.size, 4, none⟩ = some (.slice mA x.masks.length mc)) := fun W hW => ⟨hW.c0, hW.c1, hW.c2, hW.c3, hW.c4⟩
      have HTw := Lib.hid hT
      have HDB := Lib.hid hDB
      have HFg : Hid (¬ F w.heap.size ∧ ¬ G w.heap.size) := ⟨hFg, hGg⟩
      unfold deedV
      clear h hl hv hx hX hT hDB hFg hGg hbb hq k1 k2
      go_enter Tryz.func12, Tryz.ntmps12
      go_wp2
      generalize (w.alloc (.cells #[.int .i64 x.kind, .int .i64 x.n, .slice dA x.data.length dc, .bool x.odd, .slice mA x.masks.length mc] 45)) = W0 at HTw HDB ⊢
      have t0 : Two K w0 W0.drew g F d q G B d := HTw.out.more (Below.refl _ _).drew
      have db0 : DB W0.drew w.heap.size x dA dc mA mc := HDB.out
      have HS0 := Lib.hid (HFive.out _ db0)
      go_region_held3 (fun w' => w'.cell? ⟨w.heap.size, 0, none⟩ = some (.int .i64 x.kind) ∧ w'.cell? ⟨w.heap.size, 1, none⟩ = some (.int .i64 x.n) ∧ w'.cell? ⟨w.heap.size, 2, none⟩ = some (.slice dA x.data.length dc) ∧ w'.cell? ⟨w.heap.size, 3, none⟩ = some (.bool x.odd) ∧ w'.cell? ⟨w.heap.size, 4, none⟩ = some (.slice mA x.masks.length mc))
        (first | exact HS0.out | exact HS1.out | exact HS2.out | exact HS3.out | exact HS4.out)
        (first
          | (go_at_call 31; (with_reducible refine (HR.out _ _ _ _ _ _ t2 hb3 hd3).mono ?_); rintro e w4 ⟨rfl, hD4, ht4⟩; have HD4 := Lib.hid hD4; obtain ⟨G4, ht4⟩ := ht4.out; have HS4 := Lib.hid (HFive.out w4 (Blk.turns db3 ht4 HFg.out.2)))
          | (go_at_call 34; (with_reducible refine (HDa.out _ t2.p.below).mono ?_); rintro e w3 ⟨⟨A3, m3, c3, rfl, hd3⟩, hb3⟩; have db3 : DB w3 w.heap.size x dA dc mA mc := Blk.below db2 hb3 (Blk.lt db2); have HS3 := Lib.hid (HFive.out w3 db3))
          | (go_at_call 27; (with_reducible refine (HP.out _ _ _ _ _ t0 hb1 hd1).mono ?_); rintro e w2 ⟨rfl, F2, t2, ht2⟩; have db2 : DB w2 w.heap.size x dA dc mA mc := Blk.turns db1 ht2 HFg.out.1; have HS2 := Lib.hid (HFive.out w2 db2))
          | (go_at_call 34; (with_reducible refine (HDa.out _ t0.p.below).mono ?_); rintro e w1 ⟨⟨A1, m1, c1, rfl, hd1⟩, hb1⟩; have db1 : DB w1 w.heap.size x dA dc mA mc := Blk.below db0 hb1 (Blk.lt db0); have HS1 := Lib.hid (HFive.out w1 db1)))
      go_wp2
      go_ret
      rw [HQ.out]
      exact ⟨rfl, HD4.out⟩
    · have kb2 : (x.kind == 2) = false := by simpa using k2
      by_cases k3 : x.kind = 3
      · have kb3 : (x.kind == 3) = true := by rw [k3]; rfl
        obtain ⟨d', r, hq⟩ : ∃ d' r, d.flush = (d', r) := ⟨_, _, rfl⟩
        have HQ : Hid (stepD d x = d') := by show _ = _; unfold stepD Dk.step; rw [if_neg k1, if_neg k2, if_pos k3, hq]
        have HP : Hid (∀ W, Two K w0 W g F d q G B d → Calls Tryz.prog 14 #[.pointer (some ⟨g, 0, none⟩)] W fun e w' => e = .returned (.int .i64 r) ∧ Two K w0 w' g F d' q G B d) := fun W hW =>
          (flush_any hW.p.disk (by omega)).mono fun e w' hh => by
            rw [hq] at hh
            exact ⟨hh.1, hW.deeds hh.2⟩
        have HR : Hid (∀ W, Two K w0 W g F d' q G B d → Calls Tryz.prog 35 #[.pointer (some ⟨q, 0, none⟩)] W fun e w' => e = .returned (.int .i64 r) ∧ Did K w0 g q d' w') := fun W hW =>
          (rflush_any hW.r (by omega)).mono fun e w' hh => by
            rw [hq] at hh
            exact ⟨hh.1, Did.of hW hh.2.deeds⟩
        have HTw := Lib.hid hT
        unfold deedV
        clear h hl hv hx hX hT hDB hFg hGg hbb hq k1 k2 k3
        go_enter Tryz.func12, Tryz.ntmps12
        go_wp2_with (first
          | (go_at_call 14; (with_reducible refine (HP.out _ HTw.out).mono ?_); rintro e w1 ⟨rfl, hT1⟩)
          | (go_at_call 35; (with_reducible refine (HR.out _ hT1).mono ?_); rintro e w2 ⟨rfl, hD2⟩; have HD2 := Lib.hid hD2; clear hT1 hD2))
        go_ret
        rw [HQ.out]
        exact ⟨rfl, HD2.out⟩
      · have kb3 : (x.kind == 3) = false := by simpa using k3
        by_cases k4 : x.kind = 4
        · have kb4 : (x.kind == 4) = true := by rw [k4]; rfl
          obtain ⟨d', r, hq⟩ : ∃ d' r, d.stop x.n = (d', r) := ⟨_, _, rfl⟩
          have HQ : Hid (stepD d x = d') := by show _ = _; unfold stepD Dk.step; rw [if_neg k1, if_neg k2, if_neg k3, if_pos k4, hq]
          have HP : Hid (∀ W, Two K w0 W g F d q G B d → Calls Tryz.prog 36 #[.pointer (some ⟨g, 0, none⟩), .int .i64 x.n] W fun e w' => e = .returned (.int .i64 r) ∧ Two K w0 w' g F d' q G B d ∧ Turns W w' F F) := fun W hW =>
            (stop_any hW.p.disk x.n hv.nin).mono fun e w' hh => by
              rw [hq] at hh
              exact ⟨hh.1, hW.deeds hh.2, hh.2.2⟩
          have HR : Hid (∀ W, Two K w0 W g F d' q G B d → Calls Tryz.prog 37 #[.pointer (some ⟨q, 0, none⟩), .int .i64 x.n] W fun e w' => e = .returned (.int .i64 r) ∧ Did K w0 g q d' w' ∧ Turns W w' G G) := fun W hW =>
            (rstop_any hW.r x.n hv.nin).mono fun e w' hh => by
              rw [hq] at hh
              exact ⟨hh.1, Did.of hW hh.2.deeds, hh.2.2⟩
          have HTw := Lib.hid hT
          have HDB := Lib.hid hDB
          have HFg : Hid (¬ F w.heap.size ∧ ¬ G w.heap.size) := ⟨hFg, hGg⟩
          unfold deedV
          clear h hl hv hx hX hT hDB hFg hGg hbb hq k1 k2 k3 k4
          go_enter Tryz.func12, Tryz.ntmps12
          go_wp2
          generalize (w.alloc (.cells #[.int .i64 x.kind, .int .i64 x.n, .slice dA x.data.length dc, .bool x.odd, .slice mA x.masks.length mc] 45)) = W0 at HTw HDB ⊢
          have t0 : Two K w0 W0.drew g F d q G B d := HTw.out.more (Below.refl _ _).drew
          have db0 : DB W0.drew w.heap.size x dA dc mA mc := HDB.out
          have HS0 := Lib.hid (DB.c1 db0)
          go_region_held3 (fun w' => w'.cell? ⟨w.heap.size, 1, none⟩ = some (.int .i64 x.n))
            (first | exact HS0.out | exact HS1.out | exact HS2.out)
            (first
              | (go_at_call 37; (with_reducible refine (HR.out _ t1).mono ?_); rintro e w2 ⟨rfl, hD2, ht2⟩; have HD2 := Lib.hid hD2; have HS2 := Lib.hid (DB.c1 (Blk.turns db1 ht2 HFg.out.2)))
              | (go_at_call 36; (with_reducible refine (HP.out _ t0).mono ?_); rintro e w1 ⟨rfl, t1, ht1⟩; have db1 : DB w1 w.heap.size x dA dc mA mc := Blk.turns db0 ht1 HFg.out.1; have HS1 := Lib.hid (DB.c1 db1)))
          go_wp2
          go_ret
          rw [HQ.out]
          exact ⟨rfl, HD2.out⟩
        · have kb4 : (x.kind == 4) = false := by simpa using k4
          by_cases k5 : x.kind = 5
          · have kb5 : (x.kind == 5) = true := by rw [k5]; rfl
            have HQ : Hid (stepD d x = d.crash x.masks) := by show _ = _; unfold stepD Dk.step; rw [if_neg k1, if_neg k2, if_neg k3, if_neg k4, if_pos k5]
            have HP : Hid (∀ W, Two K w0 W g F d q G B d → Calls Tryz.prog 15 #[.pointer (some ⟨g, 0, none⟩), .slice mA x.masks.length mc] W fun e w' => e = .returned (.tuple #[]) ∧ Two K w0 w' g F (d.crash x.masks) q G B d ∧ Turns W w' F F) := fun W hW => by
              obtain ⟨h1, h2, h3⟩ := hW.masks hv.ri
              refine (crash_any hW.p.disk x.masks mA x.masks.length mc rfl h1 h2).mono fun e w' hh => ?_
              exact ⟨hh.1, hW.deeds hh.2, hh.2.2⟩
            have HR : Hid (∀ W, Two K w0 W g F (d.crash x.masks) q G B d → Calls Tryz.prog 38 #[.pointer (some ⟨q, 0, none⟩), .slice mA x.masks.length mc] W fun e w' => e = .returned (.tuple #[]) ∧ Did K w0 g q (d.crash x.masks) w') := fun W hW => by
              obtain ⟨h1, h2, h3⟩ := hW.masks hv.ri
              refine (rcrash_any hW.r x.masks mA x.masks.length mc rfl h1 h3 (by omega)).mono fun e w' hh => ?_
              exact ⟨hh.1, Did.of hW hh.2⟩
            have HTw := Lib.hid hT
            have HDB := Lib.hid hDB
            have HFg : Hid (¬ F w.heap.size ∧ ¬ G w.heap.size) := ⟨hFg, hGg⟩
            unfold deedV
            clear h hl hv hx hX hT hDB hFg hGg hbb k1 k2 k3 k4 k5
            go_enter Tryz.func12, Tryz.ntmps12
            go_wp2_with (first
              | (go_at_call 15; (with_reducible refine (HP.out _ HTw.out).mono ?_); rintro e w1 ⟨rfl, hT1, ht1⟩; have b4 := DB.c4 (Blk.turns HDB.out ht1 HFg.out.1))
              | (go_at_call 38; (with_reducible refine (HR.out _ hT1).mono ?_); rintro e w2 ⟨rfl, hD2⟩; have HD2 := Lib.hid hD2; clear hT1 hD2))
            go_ret
            rw [HQ.out]
            exact ⟨rfl, HD2.out⟩
          · have kb5 : (x.kind == 5) = false := by simpa using k5
            have HQ : Hid (stepD d x = d) := by show _ = _; unfold stepD Dk.step; rw [if_neg k1, if_neg k2, if_neg k3, if_neg k4, if_neg k5]
            have HTw : Hid (Did K w0 g q d (w.alloc (.cells #[.int .i64 x.kind, .int .i64 x.n, .slice dA x.data.length dc, .bool x.odd, .slice mA x.masks.length mc] 45))) := ⟨F, G, B, hT⟩
            unfold deedV
            clear h hl hv hx hX hT hDB hFg hGg hbb k1 k2 k3 k4 k5
            go_enter Tryz.func12, Tryz.ntmps12
            go_wp2
            go_ret
            rw [HQ.out]
            exact ⟨rfl, HTw.out⟩
end
end Go.Proofs.YtonnkibcnhjelaaGreatDoor
