/- The walk of the program's Split of a text in sectors (layer 7). -/
import Derived.Test.YtepeoggacmaenaaSectPGet
import Derived.Test.YtepeoggacmaenaaSectPPut
import Derived.Test.YtepeoggacmaenaaSectRSplit
import Derived.Test.YtepeoggacmaenaaCurAt
set_option linter.unusedVariables false
set_option linter.unusedSimpArgs false
namespace Go.Proofs.Ytepeoggacmaenaa
open Go.RowKit

/-- The bytes of rows of sectors lie behind block g0. -/
def NewRows (g0 : Nat) (rows : List (Sd × Option Addr × Nat)) : Prop := ∀ x ∈ rows, ∀ ad, x.2.1 = some ad → g0 < ad.block
theorem NewRows.snoc {g0 : Nat} {rows : List (Sd × Option Addr × Nat)} (h : NewRows g0 rows) {x : Sd × Option Addr × Nat} (hx : ∀ ad, x.2.1 = some ad → g0 < ad.block) : NewRows g0 (rows ++ [x]) := fun y hy => by
  rcases List.mem_append.1 hy with h1 | h1
  · exact h y h1
  · rw [List.mem_singleton] at h1
    subst h1
    exact hx
/-- How far the text is cut, as it lies in world W. -/
theorem Cut.keep {W W' : World} {s : Sd} {t : List UInt8} {i : Nat} {rows : List (Sd × Option Addr × Nat)} (h : Cut W s t i rows) (hk : ∀ x ∈ rows, RB W W.heap.size x.2.1 x.1.data → RB W' W'.heap.size x.2.1 x.1.data) : Cut W' s t i rows :=
  ⟨h.1, h.2.1, h.2.2.1, fun x hx => hk x hx (h.2.2.2 x hx)⟩
theorem part_head (s : Sd) (t : List UInt8) (n i : Nat) : s.part t n i = ⟨(s.headAt n i).kind, (s.headAt n i).epoch, (s.headAt n i).number, (s.headAt n i).left, (t.drop (48 * i)).take 48⟩ := rfl
theorem rb_only {w w' : World} {B g : Nat} {A : Option Addr} {L : List UInt8} (h : RB w B A L) (hB : B ≤ w.heap.size) (ho : Only w w' g) (hn : ∀ ad, A = some ad → ad.block ≠ g) : RB w' B A L := Reads.only h hB ho hn
theorem CurB.below {B : Nat} {w w' : World} {g : Nat} {st : Option (List UInt8)} (h : CurB B w g st) (hB : B ≤ w.heap.size) (hb : Below w.heap.size w w') : CurB B w' g st :=
  h.keep (hb.block g h.lt) (fun p hp => hb.cell (by omega))
theorem CurB.only {B : Nat} {w w' : World} {g k : Nat} {st : Option (List UInt8)} (h : CurB B w g st) (hB : B ≤ w.heap.size) (ho : Only w w' k) (hg : g ≠ k) (hk : B ≤ k) : CurB B w' g st :=
  h.keep (ho.block g h.lt (by simp; omega)) (fun p hp => World.cell?_of_block (ho.block p.block (by omega) (by simp; omega)))
theorem five_cells (w : World) (v0 v1 v2 v3 v4 : Value) (t : TypeId) : ∀ j u, [v0, v1, v2, v3, v4][j]? = some u → (w.alloc (.cells #[v0, v1, v2, v3, v4] t)).cell? ((⟨w.heap.size, 0, none⟩ : Addr).add j) = some u := by
  obtain ⟨ad, e, _, hc⟩ := (five_new w v0 v1 v2 v3 v4 t).2 (by omega)
  injection e with e
  subst e
  exact hc
theorem own_only {w w' : World} {base g n : Nat} {e : TypeId} {size : Nat} {v : Value} {xs : List Value} (h : w.ownsRow base e size v n xs) (ho : Only w w' g) (hn : v.ownBlock ≠ some g) : w'.ownsRow base e size v n xs :=
  own_turns h (Turns.grown (F := fun k => k = g) ho (fun k e => by injection e with e; exact e.symm)) (fun k hk e => hn (by rw [hk, e]))
set_option maxRecDepth 100000 in
set_option maxHeartbeats 4000000 in
theorem ssplit_zero (s : Sd) (A : Option Addr) (c : Nat) (t : List UInt8) (n : Nat) (B : Option Addr) (cB : Nat) (w : World) (hn : n = t.length) (h : n = 0) :
    Calls Try.prog 13 #[secV s A c, .slice B n cB] w (GivesSL (splitS s t) w) := by
  subst h
  have HV : Hid (splitS s t = ([], 1)) := split_none (by rw [← hn]; rfl)
  have HN : Hid (∀ W, Calls Try.prog 17 #[.int .i64 0] W fun e w' => e = .returned (.int .i64 0) ∧ W = w') := fun W => sneed_any 0 (by omega) W
  have HB : Hid (∀ (v : Value), Below w.heap.size w (w.alloc (.cells #[.int .i64 s.kind, .int .i64 s.epoch, .int .i64 s.number, .int .i64 s.left, v] 24))) := fun v => (Below.refl _ _).alloc (Nat.le_refl _) _
  unfold secV
  clear hn
  go_enter Try.func13, Try.ntmps13
  go_wp2_with (go_at_call 17; (with_reducible refine (HN.out _).mono ?_); rintro e w1 ⟨rfl, rfl⟩)
  go_ret2
  exact ⟨none, 0, by rw [HV.out]; rfl, by rw [HV.out]; exact SL.nil, HB.out _⟩
set_option maxRecDepth 100000 in
set_option maxHeartbeats 8000000 in
theorem ssplit_in (s : Sd) (A : Option Addr) (c : Nat) (t : List UInt8) (n : Nat) (B : Option Addr) (cB : Nat) (w : World) (hn : n = t.length) (h : n ≠ 0) (hl : n ≤ 1000000) (hz : -9223372036854775808 ≤ s.number ∧ s.number ≤ 9223372036854775807) (hr : RB w w.heap.size B t) :
    Calls Try.prog 13 #[secV s A c, .slice B n cB] w (GivesSL (splitS s t) w) := by
  obtain ⟨N, hN⟩ : ∃ N, N = needN n := ⟨_, rfl⟩
  have hN2 : N = (n + 47) / 48 := hN
  have HN : Hid (∀ W, Calls Try.prog 17 #[.int .i64 (n : Int)] W fun e w' => e = .returned (.int .i64 (N : Int)) ∧ W = w') := fun W => by rw [hN]; exact sneed_any n (by omega) W
  have HNn : Hid (needN t.length = N ∧ t.length = n ∧ N = (n + 47) / 48) := ⟨by rw [hN, hn], hn.symm, hN2⟩
  obtain ⟨i0, hi0, hz0, hz1, hz2⟩ := info_parts Try.secInfo
  have d0 : ((N : Int) == 0) = false := by simp; omega
  have d1 : decide ((65536 : Int) < (N : Int)) = false := decide_eq_false (by omega)
  have d2 : decide ((N : Int) > 65536) = false := decide_eq_false (by omega)
  have d3 : decide (65536 < N) = false := decide_eq_false (by omega)
  have hN3 : N ≤ 20834 := by omega
  obtain ⟨kd, hkd⟩ : ∃ x, x = s.kind := ⟨_, rfl⟩
  obtain ⟨ep, hep⟩ : ∃ x, x = s.epoch := ⟨_, rfl⟩
  obtain ⟨nu, hnu⟩ : ∃ x, x = s.number := ⟨_, rfl⟩
  obtain ⟨lf, hlf⟩ : ∃ x, x = s.left := ⟨_, rfl⟩
  obtain ⟨m, hm⟩ : ∃ x, x = s.data.length := ⟨_, rfl⟩
  have HK : Hid (kd = s.kind ∧ ep = s.epoch ∧ nu = s.number) := ⟨hkd, hep, hnu⟩
  have HZ := Lib.hid hz
  have HAt : Hid (∀ (W : World) (i : Nat), i < N → (i ≠ 0 → (s.part t N 0).may = true) → Calls Try.prog 31 #[secV s A c, .int .i64 (i : Int), .int .i64 (N : Int)] W fun e w' => e = .returned (secV (s.headAt N i) none 0) ∧ Below W.heap.size W w') := fun W i hi h0 => by
    refine at_any s A c N i W hi (by omega) ?_ ?_
    · by_cases hi0 : i = 0
      · subst hi0; exact IntWalk.i64_in _ (by have := HZ.out; omega)
      · obtain ⟨_, _, _, _, h5, h6, _⟩ := (Sd.may_iff _).1 (h0 hi0)
        have h5 : 0 ≤ s.number + ((0 : Nat) : Int) := h5
        have h6 : s.number + ((0 : Nat) : Int) ≤ 2147483647 := h6
        exact IntWalk.i64_in _ (by omega)
    · intro hi0
      obtain ⟨h1, h2, _⟩ := (Sd.may_iff _).1 (h0 hi0)
      have h1 : 1 ≤ s.kind := h1
      have h2 : s.kind ≤ 255 := h2
      exact IntWalk.i64_in _ (by omega)
  have HFr : Hid (∀ W, Below w.heap.size w W → Calls Try.prog 28 #[.slice B n cB] W fun e w' => ∃ g, e = .returned (.pointer (some ⟨g, 0, none⟩)) ∧ W.heap.size ≤ g ∧ Hid (Cur w' g (some t)) ∧ Below W.heap.size W w') := fun W hb => by
    have := from_any t B cB W (rb_up7 hr hb) (by omega)
    rw [← hn] at this
    exact this
  unfold secV at HAt ⊢
  rw [← hkd, ← hep, ← hnu, ← hlf, ← hm] at HAt ⊢
  clear hn hN hN2 hnu hkd hep hlf hm hr hz
  have HW0 : Hid (∃ WA, WA = w.alloc (.cells #[.int .i64 kd, .int .i64 ep, .int .i64 nu, .int .i64 lf, .slice A m c] 24) ∧ Below w.heap.size w WA ∧ WA.heap.size = w.heap.size + 1 ∧ ∀ W, Below WA.heap.size WA W → W.cell? ⟨w.heap.size, 0, none⟩ = some (.int .i64 kd) ∧ W.cell? ⟨w.heap.size, 1, none⟩ = some (.int .i64 ep) ∧ W.cell? ⟨w.heap.size, 2, none⟩ = some (.int .i64 nu) ∧ W.cell? ⟨w.heap.size, 3, none⟩ = some (.int .i64 lf) ∧ W.cell? ⟨w.heap.size, 4, none⟩ = some (.slice A m c)) :=
    ⟨_, rfl, (Below.refl _ _).alloc (Nat.le_refl _) _, by simp, fun W hb => sec_at w _ _ _ _ A m c W hb⟩
  obtain ⟨WA, hWA, hbA, hsA, HCb⟩ := HW0.out
  have HWA := Lib.hid hWA
  have HBA := Lib.hid hbA
  have HCb := Lib.hid HCb
  have HSA := Lib.hid hsA
  have HF2 : Hid (Calls Try.prog 28 #[.slice B n cB] (w.alloc (.cells #[.int .i64 kd, .int .i64 ep, .int .i64 nu, .int .i64 lf, .slice A m c] 24)) fun e w' => ∃ g, e = .returned (.pointer (some ⟨g, 0, none⟩)) ∧ Hid (WA.heap.size ≤ g) ∧ Hid (Cur w' g (some t)) ∧ Hid (Below WA.heap.size WA w')) := by
    have h1 := HFr.out WA HBA.out
    rw [HWA.out] at h1 ⊢
    exact h1
  have a24 := fun w' => Try.aggSec w'
  have s24 := fun w' => Try.sizeSec w'
  clear hWA hbA HW0 hsA HFr
  go_enter Try.func13, Try.ntmps13
  go_wp2_with (first
    | (go_at_call 17; (with_reducible refine (HN.out _).mono ?_); rintro e w1 ⟨rfl, rfl⟩)
    | (go_at_call 28; (with_reducible refine HF2.out.mono ?_); rintro e w1 ⟨g, rfl, hgA, cu1, b1⟩)
    | (at_make; refine wpList_make_own _ rfl _ _ 34 rfl w1.heap.size 24 i0 _ 5 Try.underlying34 hi0 hz0 hz1 .i64 .i64 _ N rfl rfl (by omega) (by rw [hz2]; omega) (by unfold maxLen; omega) (Nat.le_refl _) ?_; intro w2 ho2 hg2))
  obtain ⟨g0, hg0⟩ : ∃ g0, g0 = w1.heap.size := ⟨_, rfl⟩
  rw [← hg0] at ho2 ⊢
  have hgg : g < g0 := by have := cu1.out.at_.lt; omega
  have hAg : WA.heap.size ≤ g := hgA.out
  have hb2 : Below WA.heap.size WA w2 := b1.out.grown hg2 b1.out.size (by simp)
  have hcu2 : CurB g0 w2 g (some (t.drop (48 * 0))) := by
    rw [Nat.mul_zero, List.drop_zero]
    have h1 := cu1.out.at_
    rw [← hg0] at h1
    exact h1.keep (hg2.block g (by omega) (by simp)) (fun p hp => World.cell?_of_block (hg2.block p.block (by omega) (by simp)))
  have HG := Lib.hid (And.intro hgg hAg)
  have HO2 := Lib.hid ho2
  have HB2 := Lib.hid hb2
  have HC2 := Lib.hid hcu2
  clear hgg hAg hb2 hcu2 hg2 ho2 cu1 b1 hgA hg0
  go_loopw [8, 9, 10, 25] (fun v _ _ x wr => ∃ i : Nat, i ≤ N ∧ x = .int .i64 (i : Int) ∧ v = .slice (some ⟨g0, 0, none⟩) i N ∧ ∃ rows, Hid (Cut wr s t i rows) ∧ Hid (NewRows g0 rows) ∧ Hid (wr.ownsRow g0 24 5 (.slice (some ⟨g0, 0, none⟩) i N) i (rowC rows)) ∧ Hid (CurB g0 wr g (some (t.drop (48 * i)))) ∧ Hid (Below WA.heap.size WA wr)) (fun _ _ _ x _ => N - (intOf x).toNat)
  case atStart => exact ⟨0, by omega, rfl, rfl, [], ⟨rfl, rfl, fun j hj => by omega, fun x hx => by cases hx⟩, (fun x hx => by cases hx), HO2.out, HC2.out, HB2.out⟩
  case round =>
    obtain ⟨i, hi, rfl, rfl, rows, HCt, HNw, HO, HCu, hbw⟩ := hrel
    by_cases hlt : i < N
    · have dl : decide ((i : Int) < (N : Int)) = true := decide_eq_true (by omega)
      have dl2 : decide (i < N) = true := decide_eq_true hlt
      obtain ⟨q0, hq0⟩ : ∃ q, q = 48 * i := ⟨_, rfl⟩
      obtain ⟨lft, hlft⟩ : ∃ q, q = n - q0 := ⟨_, rfl⟩
      obtain ⟨ql, hql⟩ : ∃ q, q = min 48 lft := ⟨_, rfl⟩
      obtain ⟨lz, hlz⟩ : ∃ q, q = N - 1 - i := ⟨_, rfl⟩
      obtain ⟨nz, hnz⟩ : ∃ z : Int, z = nu + (i : Int) := ⟨_, rfl⟩
      obtain ⟨kz, hkz⟩ : ∃ z : Int, z = if i = 0 then kd else kd + 1 := ⟨_, rfl⟩
      obtain ⟨D, hD⟩ : ∃ D, D = (t.drop q0).take 48 := ⟨_, rfl⟩
      have hq0n : q0 < n := by have := HNn.out.2.2; omega
      have htn := HNn.out.2.1
      have hDl : D.length = ql := by rw [hD, List.length_take, List.length_drop, htn, hql, hlft]
      have hDq : (t.drop q0).take ql = D := by
        rw [hD, hql, hlft]
        by_cases h48 : 48 ≤ n - q0
        · rw [Nat.min_eq_left h48]
        · rw [Nat.min_eq_right (by omega), List.take_of_length_le (by rw [List.length_drop]; omega), List.take_of_length_le (by rw [List.length_drop]; omega)]
      have hdr : (t.drop q0).drop ql = t.drop (48 * (i + 1)) := by
        rw [List.drop_drop]
        by_cases h48 : 48 ≤ n - q0
        · rw [show q0 + ql = 48 * (i + 1) by omega]
        · rw [List.drop_of_length_le (by omega), List.drop_of_length_le (by omega)]
      have HPt : Hid (s.part t N i = ⟨kz, ep, nz, (lz : Int), D⟩ ∧ D.length = ql ∧ True) := by
        obtain ⟨k1, k2, k3⟩ := HK.out
        refine ⟨?_, hDl, trivial⟩
        unfold Sd.part
        rw [hkz, hnz, hlz, hD, hq0, k1, k2, k3]
      have HA : Hid (∀ W, Calls Try.prog 31 #[.agg #[.int .i64 kd, .int .i64 ep, .int .i64 nu, .int .i64 lf, .slice A m c], .int .i64 (i : Int), .int .i64 (N : Int)] W fun e w' => e = .returned (.agg #[.int .i64 kz, .int .i64 ep, .int .i64 nz, .int .i64 (lz : Int), .slice none 0 0]) ∧ Below W.heap.size W w') := fun W => by
        have h1 := HAt.out W i hlt (fun h0 => by have := HCt.out.2.2.1 0 (by omega); rw [HNn.out.1] at this; exact this)
        have e1 : (.agg #[.int .i64 (s.headAt N i).kind, .int .i64 (s.headAt N i).epoch, .int .i64 (s.headAt N i).number, .int .i64 (s.headAt N i).left, .slice none (s.headAt N i).data.length 0] : Value) = .agg #[.int .i64 kz, .int .i64 ep, .int .i64 nz, .int .i64 (lz : Int), .slice none 0 0] := by
          obtain ⟨k1, k2, k3⟩ := HK.out
          unfold Sd.headAt
          rw [hkz, hnz, hlz, k1, k2, k3]
          rfl
        rw [e1] at h1
        exact h1
      have HL : Hid (∀ W, Hid (CurB g0 W g (some (t.drop q0))) → Hid (g0 ≤ W.heap.size) → Calls Try.prog 33 #[.pointer (some ⟨g, 0, none⟩)] W fun e w' => e = .returned (.int .i64 (lft : Int)) ∧ W = w') := fun W h hB => by
        have h1 := left_any g _ W (h.out.cur hB.out)
        simp only [leftN, List.length_drop, htn, ← hlft] at h1
        exact h1
      have HT : Hid (∀ W, Hid (CurB g0 W g (some (t.drop q0))) → Hid (g0 ≤ W.heap.size) → Calls Try.prog 32 #[.pointer (some ⟨g, 0, none⟩), .int .i64 (min 48 (lft : Int))] W fun e w' => ∃ A c, e = .returned (.slice A ql c) ∧ Hid (RB w' w'.heap.size A D) ∧ Hid (∀ ad, A = some ad → W.heap.size ≤ ad.block) ∧ Hid (CurB g0 w' g (some (t.drop (48 * (i + 1))))) ∧ Hid (Only W w' g)) := fun W h hB => by
        rw [show min (48 : Int) (lft : Int) = (ql : Int) by omega]
        have h1 := take_at g0 g (ql : Int) _ W h.out hB.out
        rw [step_ok (by rw [List.length_drop]; omega), hDq, hdr] at h1
        refine h1.mono fun e w' hh => ?_
        obtain ⟨A, c, he, h2, h3, h4, h5⟩ := hh
        simp only [hDl] at he
        exact ⟨A, c, he, h2, h3, h4, h5⟩
      have y7 : IntKind.i64.wrap ((i : Int) + 1) = (i : Int) + 1 := IntWalk.i64_in _ (by omega)
      have HMy0 : Hid (∀ (b : Bool) W (A : Option Addr) (c : Nat), (s.part t N i).may = b → Calls Try.prog 19 #[.agg #[.int .i64 kz, .int .i64 ep, .int .i64 nz, .int .i64 (lz : Int), .slice A ql c]] W fun e w' => e = .returned (.bool b) ∧ Below W.heap.size W w') := fun b W A c hb => by
        have h1 := maybe_any (s.part t N i) A c W
        rw [hb, HPt.out.1] at h1
        unfold secV at h1
        simp only [hDl] at h1
        exact h1
      obtain ⟨c0, c1, c2, c3, c4⟩ := HCb.out _ hbw.out
      have HB0 : Hid (g0 ≤ wr.heap.size) := by
        have := (own_lt HO.out (k := g0) rfl).1
        exact Nat.le_of_lt this
      rw [← hq0] at HCu
      clear hq0 hlft hlz hnz hkz hD hDl hDq hdr htn hq0n hql
      cases hbm : (s.part t N i).may with
      | false =>
        have HBm := Lib.hid hbm
        have HMy : Hid (∀ W (A : Option Addr) (c : Nat), Calls Try.prog 19 #[.agg #[.int .i64 kz, .int .i64 ep, .int .i64 nz, .int .i64 (lz : Int), .slice A ql c]] W fun e w' => e = .returned (.bool false) ∧ Below W.heap.size W w') := fun W A c => HMy0.out false W A c HBm.out
        clear hbm HMy0
        go_wp2_with (first
          | (go_at_call 31; (with_reducible refine (HA.out _).mono ?_); rintro e w3 ⟨rfl, hb3⟩; have o3 := only_below hb3 g; have cu3 : Hid (CurB g0 (w3.alloc (.cells #[.int .i64 kz, .int .i64 ep, .int .i64 nz, .int .i64 (lz : Int), .slice none 0 0] 24)) g (some (t.drop q0))) := (HCu.out.below HB0.out hb3).below (Nat.le_trans HB0.out hb3.size) ((Below.refl _ _).alloc (Nat.le_refl _) _); have z3 : Hid (g0 ≤ (w3.alloc (.cells #[.int .i64 kz, .int .i64 ep, .int .i64 nz, .int .i64 (lz : Int), .slice none 0 0] 24)).heap.size) := by { have := HB0.out; have := hb3.size; show g0 ≤ _; simp; omega }; have on3 := only_alloc o3 (.cells #[.int .i64 kz, .int .i64 ep, .int .i64 nz, .int .i64 (lz : Int), .slice none 0 0] 24); have bw3 := (hbw.out.trans (hb3.mono hbw.out.size)).alloc (Nat.le_trans hbw.out.size hb3.size) (.cells #[.int .i64 kz, .int .i64 ep, .int .i64 nz, .int .i64 (lz : Int), .slice none 0 0] 24))
          | (go_at_call 33; (with_reducible refine (HL.out _ cu3 z3).mono ?_); rintro e w' ⟨rfl, rfl⟩)
          | (go_at_call 32; (with_reducible refine (HT.out _ cu3 z3).mono ?_); rintro e w4 ⟨A4, c4, rfl, r4, nw4, cu4, o4⟩; have bk4 := Blk.only (Blk.new w3 24 #[.int .i64 kz, .int .i64 ep, .int .i64 nz, .int .i64 (lz : Int), .slice none 0 0]) o4.out (by have := HG.out.1; have := HB0.out; have := hb3.size; omega); have e4 := bk4.cell 4; have f4 := bk4.frozen 4; have bk4s : Hid (Blk (w4.setCell ⟨w3.heap.size, 4, none⟩ (.slice A4 ql c4)) w3.heap.size 24 #[.int .i64 kz, .int .i64 ep, .int .i64 nz, .int .i64 (lz : Int), .slice A4 ql c4]) := bk4.set_ 4 _; have v0 := bk4s.out.cell 0; have v1 := bk4s.out.cell 1; have v2 := bk4s.out.cell 2; have v3 := bk4s.out.cell 3; have v4 := bk4s.out.cell 4; have on4 := only_new (i := 4) (only_trans on3 o4.out) hb3.size (.slice A4 ql c4); have bw4 := (below_only bw3 o4.out HG.out.2 bw3.size).setCell (p := ⟨w3.heap.size, 4, none⟩) (Nat.le_trans hbw.out.size hb3.size) (.slice A4 ql c4))
          | (go_at_call 19; (with_reducible refine (HMy.out _ _ _).mono ?_); rintro e w5 ⟨rfl, hb5⟩; have bk5 := bk4s.out.below hb5 bk4s.out.lt; have x0 := bk5.cell 0; have x1 := bk5.cell 1; have x2 := bk5.cell 2; have x3 := bk5.cell 3; have x4 := bk5.cell 4; have on5 := only_alloc (only_more on4 hb5) (.cells #[.int .i64 kz, .int .i64 ep, .int .i64 nz, .int .i64 (lz : Int), .slice A4 ql c4] 24); have bw5 := bw4.trans (hb5.mono bw4.size); have ho5 := own_only HO.out on5 (by have := HG.out.1; simp [Value.ownBlock]; omega)))
        have HVs := split_bad (s := s) (by rw [HNn.out.2.1]; exact hl) (i := i) (by rw [HNn.out.1]; exact hlt) (by rw [HNn.out.1]; exact HBm.out)
        go_ret2
        exact ⟨none, 0, by rw [HVs]; rfl, by rw [HVs]; exact SL.nil, HBA.out.trans (bw5.mono HBA.out.size)⟩
      | true =>
        have HBm := Lib.hid hbm
        have HMy : Hid (∀ W (A : Option Addr) (c : Nat), Calls Try.prog 19 #[.agg #[.int .i64 kz, .int .i64 ep, .int .i64 nz, .int .i64 (lz : Int), .slice A ql c]] W fun e w' => e = .returned (.bool true) ∧ Below W.heap.size W w') := fun W A c => HMy0.out true W A c HBm.out
        clear hbm HMy0
        go_wp2_with (first
          | (go_at_call 31; (with_reducible refine (HA.out _).mono ?_); rintro e w3 ⟨rfl, hb3⟩; have o3 := only_below hb3 g; have cu3 : Hid (CurB g0 (w3.alloc (.cells #[.int .i64 kz, .int .i64 ep, .int .i64 nz, .int .i64 (lz : Int), .slice none 0 0] 24)) g (some (t.drop q0))) := (HCu.out.below HB0.out hb3).below (Nat.le_trans HB0.out hb3.size) ((Below.refl _ _).alloc (Nat.le_refl _) _); have z3 : Hid (g0 ≤ (w3.alloc (.cells #[.int .i64 kz, .int .i64 ep, .int .i64 nz, .int .i64 (lz : Int), .slice none 0 0] 24)).heap.size) := by { have := HB0.out; have := hb3.size; show g0 ≤ _; simp; omega }; have on3 := only_alloc o3 (.cells #[.int .i64 kz, .int .i64 ep, .int .i64 nz, .int .i64 (lz : Int), .slice none 0 0] 24); have bw3 := (hbw.out.trans (hb3.mono hbw.out.size)).alloc (Nat.le_trans hbw.out.size hb3.size) (.cells #[.int .i64 kz, .int .i64 ep, .int .i64 nz, .int .i64 (lz : Int), .slice none 0 0] 24))
          | (go_at_call 33; (with_reducible refine (HL.out _ cu3 z3).mono ?_); rintro e w' ⟨rfl, rfl⟩)
          | (go_at_call 32; (with_reducible refine (HT.out _ cu3 z3).mono ?_); rintro e w4 ⟨A4, c4, rfl, r4, nw4, cu4, o4⟩; have bk4 := Blk.only (Blk.new w3 24 #[.int .i64 kz, .int .i64 ep, .int .i64 nz, .int .i64 (lz : Int), .slice none 0 0]) o4.out (by have := HG.out.1; have := HB0.out; have := hb3.size; omega); have e4 := bk4.cell 4; have f4 := bk4.frozen 4; have bk4s : Hid (Blk (w4.setCell ⟨w3.heap.size, 4, none⟩ (.slice A4 ql c4)) w3.heap.size 24 #[.int .i64 kz, .int .i64 ep, .int .i64 nz, .int .i64 (lz : Int), .slice A4 ql c4]) := bk4.set_ 4 _; have v0 := bk4s.out.cell 0; have v1 := bk4s.out.cell 1; have v2 := bk4s.out.cell 2; have v3 := bk4s.out.cell 3; have v4 := bk4s.out.cell 4; have on4 := only_new (i := 4) (only_trans on3 o4.out) hb3.size (.slice A4 ql c4); have bw4 := (below_only bw3 o4.out HG.out.2 bw3.size).setCell (p := ⟨w3.heap.size, 4, none⟩) (Nat.le_trans hbw.out.size hb3.size) (.slice A4 ql c4))
          | (go_at_call 19; (with_reducible refine (HMy.out _ _ _).mono ?_); rintro e w5 ⟨rfl, hb5⟩; have bk5 := bk4s.out.below hb5 bk4s.out.lt; have x0 := bk5.cell 0; have x1 := bk5.cell 1; have x2 := bk5.cell 2; have x3 := bk5.cell 3; have x4 := bk5.cell 4; have on5 := only_alloc (only_more on4 hb5) (.cells #[.int .i64 kz, .int .i64 ep, .int .i64 nz, .int .i64 (lz : Int), .slice A4 ql c4] 24); have bw5 := bw4.trans (hb5.mono bw4.size); have ho5 := own_only HO.out on5 (by have := HG.out.1; simp [Value.ownBlock]; omega))
          | (at_builtin; refine wpList_append_fits _ rfl (.tmp 41) (.tmp 43) 34 rfl g0 24 i0 5 Try.underlying34 hi0 hz1 g0 i N (rowC rows) rfl ho5 ⟨w5.heap.size, 0, none⟩ 1 1 [.int .i64 kz, .int .i64 ep, .int .i64 nz, .int .i64 (lz : Int), .slice A4 ql c4] rfl rfl (five_cells w5 _ _ _ _ _ _) (rowC_five _ _ _ _ _ _ _) (by omega) ?_; intro w6 ho6 hg6))
        have gz := HB0.out
        have z35 : w3.heap.size + 1 ≤ w4.heap.size := by have := o4.out.size; simpa using this
        have z45 : w4.heap.size ≤ w5.heap.size := by have := hb5.size; simpa [World.setCell] using this
        have z33 := hb3.size
        have bw6 : Below WA.heap.size WA w6 := (bw5.alloc bw5.size (.cells #[.int .i64 kz, .int .i64 ep, .int .i64 nz, .int .i64 (lz : Int), .slice A4 ql c4] 24)).grown hg6 (by have := bw5.size; simp; omega) (fun j hj => by injection hj with hj; have := HG.out; omega)
        have hsn : rowC rows ++ [.int .i64 kz, .int .i64 ep, .int .i64 nz, .int .i64 (lz : Int), .slice A4 ql c4] = rowC (rows ++ [(s.part t (needN t.length) i, A4, c4)]) := by
          rw [rowC_snoc, HNn.out.1, HPt.out.1]
          unfold secC
          simp only [HPt.out.2.1]
        rw [hsn] at ho6
        have rn : RB w6 w6.heap.size A4 (s.part t (needN t.length) i).data := by
          rw [HNn.out.1, HPt.out.1]
          have h1 : RB (w4.setCell ⟨w3.heap.size, 4, none⟩ (.slice A4 ql c4)) w4.heap.size A4 D := rb_only r4.out (Nat.le_refl _) (only_set _ _ _ _) (fun ad e => by have := nw4.out ad e; simp at this; omega)
          have h2 : RB (w5.alloc (.cells #[.int .i64 kz, .int .i64 ep, .int .i64 nz, .int .i64 (lz : Int), .slice A4 ql c4] 24)) w4.heap.size A4 D := (h1.below (hb5.mono (by simp [World.setCell]))).alloc z45 _
          have h3 := rb_only h2 (by simp; omega) hg6 (fun ad e => by have := nw4.out ad e; simp at this; omega)
          exact h3.more (by have := hg6.size; simp at this; omega)
        have hct0 : Cut w6 s t i rows := HCt.out.keep fun x hx hrx => by
          have hne := HNw.out x hx
          have h1 := rb_only hrx (Nat.le_refl _) on5 (fun ad e => by have := hne ad e; have := HG.out.1; omega)
          have h2 := rb_only h1 on5.size hg6 (fun ad e => by have := hne ad e; omega)
          exact h2.more (Nat.le_trans on5.size hg6.size)
        have hct := hct0.snoc (A := A4) (c := c4) (by rw [HNn.out.1]; exact HBm.out) rn
        have hnw := HNw.out.snoc (x := (s.part t (needN t.length) i, A4, c4)) (fun ad e => by have := nw4.out ad e; simp at this; omega)
        have hcu6 : CurB g0 w6 g (some (t.drop (48 * (i + 1)))) := by
          have h1 := cu4.out.only (by omega) (only_set w4 w3.heap.size 4 (.slice A4 ql c4)) (by have := HG.out.1; omega) (by omega)
          have h2 := (h1.below (by simp [World.setCell]; omega) hb5).below (by omega) ((Below.refl _ _).alloc (Nat.le_refl _) (.cells #[.int .i64 kz, .int .i64 ep, .int .i64 nz, .int .i64 (lz : Int), .slice A4 ql c4] 24))
          exact h2.only (by simp; omega) hg6 (by have := HG.out.1; omega) (Nat.le_refl _)
        clear hct0 rn on3 on4 on5 bw3 bw4 bw5 ho5 hg6 hsn bk4 bk4s bk5 e4 f4 v0 v1 v2 v3 v4 x0 x1 x2 x3 x4
        refine ⟨⟨i + 1, by omega, by go_num, rfl, _, hct, hnw, ho6, hcu6, bw6⟩, ?_⟩
        simp [intOf]; omega
    · obtain rfl : i = N := by omega
      have dl : decide ((i : Int) < (i : Int)) = false := decide_eq_false (by omega)
      have hVs : splitS s t = ((List.range i).map (s.part t i), 0) := by
        have := split_ok (s := s) (by rw [HNn.out.2.1]; exact hl) (by rw [HNn.out.1]; have := HNn.out.2.2; omega) (fun j hj => HCt.out.2.2.1 j (by rw [HNn.out.1] at hj; exact hj))
        rw [HNn.out.1] at this
        exact this
      have hrows : rows.map (·.1) = (List.range i).map (s.part t i) := by have := HCt.out.2.1; rw [HNn.out.1] at this; exact this
      have hbf : Below w.heap.size w wr := HBA.out.trans (hbw.out.mono HBA.out.size)
      have HGv : Hid (GivesSL (splitS s t) w (.returned (.tuple #[.slice (some ⟨g0, 0, none⟩) i i, .int .i64 0])) wr) := by
        refine ⟨some ⟨g0, 0, none⟩, i, ?_, ?_, hbf⟩
        · rw [hVs]; simp
        · rw [hVs, ← hrows]
          exact SL.of_own HO.out HCt.out.1.symm HCt.out.2.2.2
      clear hVs hrows hbf HO HCt hbw HNw HCu
      go_wp2
      go_ret2
      exact HGv.out
/-- The program's Split. -/
theorem ssplit_any (s : Sd) (A : Option Addr) (c : Nat) (t : List UInt8) (B : Option Addr) (cB : Nat) (w : World) (hl : t.length ≤ 1000000) (hr : RB w w.heap.size B t) (hc : t.length ≤ cB) (hcm : cB ≤ 9223372036854775807) (hz : -9223372036854775808 ≤ s.number ∧ s.number ≤ 9223372036854775807) :
    Calls Try.prog 13 #[secV s A c, .slice B t.length cB] w (GivesSL (splitS s t) w) := by
  by_cases h0 : t.length = 0
  · exact ssplit_zero s A c t _ B cB w rfl h0
  · exact ssplit_in s A c t _ B cB w rfl h0 hl hz hr
end Go.Proofs.Ytepeoggacmaenaa
