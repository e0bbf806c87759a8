/- Lemmas under the proofs of this place: SectMem, SupPCheck, SupRPut. No statement is proved here. -/
import Derived.Test.YtkockhggnbfahaaBu06
import Derived.Test.YtkockhggnbfahaaBu18
import Derived.Test.YtkockhggnbfahaaBu08
import Derived.Test.YtkockhggnbfahaaBu09
section
set_option linter.unusedVariables false
namespace Go.Proofs.Ytkockhggnbfahaa
open Go.RowKit
def SL (w : World) (B : Nat) (A : Option Addr) (l : List Sd) : Prop :=
  0 < l.length → ∃ b off, A = some ⟨b, off, none⟩ ∧ b < B ∧ ∀ i (hi : i < l.length), ∃ dA dc, RB w B dA l[i].data ∧
    w.cell? ⟨b, off + i * 5, none⟩ = some (.int .i64 l[i].kind) ∧ w.cell? ⟨b, off + i * 5 + 1, none⟩ = some (.int .i64 l[i].epoch) ∧ w.cell? ⟨b, off + i * 5 + 2, none⟩ = some (.int .i64 l[i].number) ∧
    w.cell? ⟨b, off + i * 5 + 3, none⟩ = some (.int .i64 l[i].left) ∧ w.cell? ⟨b, off + i * 5 + 4, none⟩ = some (.slice dA l[i].data.length dc)
section
variable {w w' : World} {B : Nat} {A : Option Addr} {l : List Sd}
theorem SL.below (h : SL w B A l) (hb : Below B w w') : SL w' B A l := fun h0 => by
  obtain ⟨b, off, e, hlt, hc⟩ := h h0
  refine ⟨b, off, e, hlt, fun i hi => ?_⟩
  obtain ⟨dA, dc, h1, h2, h3, h4, h5, h6⟩ := hc i hi
  have k : ∀ j, w'.cell? ⟨b, j, none⟩ = w.cell? ⟨b, j, none⟩ := fun j => hb.cell (p := ⟨b, j, none⟩) hlt
  exact ⟨dA, dc, h1.below hb, by rw [k]; exact h2, by rw [k]; exact h3, by rw [k]; exact h4, by rw [k]; exact h5, by rw [k]; exact h6⟩
theorem SL.more {B' : Nat} (h : SL w B A l) (hb : B ≤ B') : SL w B' A l := fun h0 => by
  obtain ⟨b, off, e, hlt, hc⟩ := h h0
  refine ⟨b, off, e, Nat.lt_of_lt_of_le hlt hb, fun i hi => ?_⟩
  obtain ⟨dA, dc, h1, h2⟩ := hc i hi
  exact ⟨dA, dc, h1.more hb, h2⟩
theorem SL.up (h : SL w w.heap.size A l) (hb : Below w.heap.size w w') : SL w' w'.heap.size A l := (h.below hb).more hb.size
theorem SL.nil : SL w B A [] := fun h => absurd h (by simp)
end
def secC (x : Sd × Option Addr × Nat) : List Value := [.int .i64 x.1.kind, .int .i64 x.1.epoch, .int .i64 x.1.number, .int .i64 x.1.left, .slice x.2.1 x.1.data.length x.2.2]
def rowC (r : List (Sd × Option Addr × Nat)) : List Value := r.flatMap secC
theorem rowC_get (r : List (Sd × Option Addr × Nat)) (i : Nat) (hi : i < r.length) : (rowC r)[i * 5]? = some (.int .i64 (r[i]).1.kind) ∧ (rowC r)[i * 5 + 1]? = some (.int .i64 (r[i]).1.epoch) ∧ (rowC r)[i * 5 + 2]? = some (.int .i64 (r[i]).1.number) ∧ (rowC r)[i * 5 + 3]? = some (.int .i64 (r[i]).1.left) ∧ (rowC r)[i * 5 + 4]? = some (.slice (r[i]).2.1 (r[i]).1.data.length (r[i]).2.2) := by
  induction r generalizing i with
  | nil => simp at hi
  | cons x r ih =>
    have e : rowC (x :: r) = .int .i64 x.1.kind :: .int .i64 x.1.epoch :: .int .i64 x.1.number :: .int .i64 x.1.left :: .slice x.2.1 x.1.data.length x.2.2 :: rowC r := rfl
    rw [e]
    match i with
    | 0 => simp
    | i + 1 =>
      have := ih i (by simpa using hi)
      rw [show (i + 1) * 5 = i * 5 + 5 by omega, show i * 5 + 5 + 1 = i * 5 + 1 + 5 by omega, show i * 5 + 5 + 2 = i * 5 + 2 + 5 by omega, show i * 5 + 5 + 3 = i * 5 + 3 + 5 by omega, show i * 5 + 5 + 4 = i * 5 + 4 + 5 by omega]
      simpa using this
theorem SL.of_own {w : World} {base n c : Nat} {A : Option Addr} {r : List (Sd × Option Addr × Nat)} (h : w.ownsRow base 70 5 (.slice A n c) n (rowC r)) (hn : n = r.length) (hr : ∀ x ∈ r, RB w w.heap.size x.2.1 x.1.data) : SL w w.heap.size A (r.map (·.1)) := fun h0 => by
  subst hn
  rw [List.length_map] at h0
  rcases h.2 with ⟨_, h1⟩ | ⟨k, cap, cur, he, h2, h3, _⟩
  · omega
  · simp only [Value.slice.injEq] at he
    obtain ⟨rfl, -, rfl⟩ := he
    have hc := World.ownsRow.cells h (g := k) rfl
    have ea : ∀ j, (⟨k, 0, none⟩ : Addr).add j = ⟨k, j, none⟩ := fun j => by unfold Addr.add; split <;> simp_all
    refine ⟨k, 0, rfl, Blk.lt (t := 70) h3, fun i hi => ?_⟩
    rw [List.length_map] at hi
    obtain ⟨g0, g1, g2, g3, g4⟩ := rowC_get r i hi
    have c0 := hc _ _ g0
    have c1 := hc _ _ g1
    have c2 := hc _ _ g2
    have c3 := hc _ _ g3
    have c4 := hc _ _ g4
    rw [ea] at c0 c1 c2 c3 c4
    simp only [Nat.zero_add, List.getElem_map]
    exact ⟨r[i].2.1, r[i].2.2, hr _ (List.getElem_mem hi), c0, c1, c2, c3, c4⟩
def GivesS (r : Sd × Int) (w : World) (e : Ending) (w' : World) : Prop :=
  ∃ A c, e = .returned (.tuple #[secV r.1 A c, .int .i64 r.2]) ∧ RB w' w'.heap.size A r.1.data ∧ Below w.heap.size w w'
def RBc (w : World) (A : Option Addr) (L : List UInt8) (c : Nat) : Prop := RB w w.heap.size A L ∧ L.length ≤ c ∧ c ≤ 9223372036854775807
theorem rbc_none (w : World) : RBc w none [] 0 := ⟨RB.none_ _ _, Nat.le_refl _, by omega⟩
def GivesSc (r : Sd × Int) (w : World) (e : Ending) (w' : World) : Prop :=
  ∃ A c, e = .returned (.tuple #[secV r.1 A c, .int .i64 r.2]) ∧ RBc w' A r.1.data c ∧ Below w.heap.size w w'
theorem own_cap7 {w : World} {base c : Nat} {A : Option Addr} {L : List UInt8} (h : Own w base A L c) : RBc w A L c := by
  refine ⟨own_rb h, ?_⟩
  rcases h.2 with ⟨h1, h2⟩ | ⟨g, cap, cur, h1, _, _, h3, h4, _⟩
  · simp only [Value.slice.injEq] at h1
    omega
  · simp only [Value.slice.injEq] at h1
    unfold maxLen at h4
    omega
end Go.Proofs.Ytkockhggnbfahaa
end
section
set_option linter.unusedVariables false
set_option linter.unusedSimpArgs false
namespace Go.Proofs.Ytkockhggnbfahaa
open Go.RowKit
theorem within8_gives (n a b : Int) (v : Bool) (hv : (decide (a ≤ n) && decide (n ≤ b)) = v) (w : World) : Calls Try.prog 35 #[.int .i64 n, .int .i64 a, .int .i64 b] w fun e w' => e = .returned (.bool v) ∧ w = w' := by
  by_cases h : a ≤ n
  · have d : decide (a ≤ n) = true := decide_eq_true h
    rw [d, Bool.true_and] at hv
    subst hv
    go_enter Try.func35, Try.ntmps35
    go_wp2
    go_ret
    exact ⟨rfl, rfl⟩
  · have d : decide (a ≤ n) = false := decide_eq_false h
    rw [d, Bool.false_and] at hv
    subst hv
    go_enter Try.func35, Try.ntmps35
    go_wp2
    go_ret
    exact ⟨rfl, rfl⟩
theorem within8_yes {n a b : Int} (h : a ≤ n ∧ n ≤ b) (w : World) : Calls Try.prog 35 #[.int .i64 n, .int .i64 a, .int .i64 b] w fun e w' => e = .returned (.bool true) ∧ w = w' :=
  within8_gives n a b true (by rw [decide_eq_true h.1, decide_eq_true h.2]; rfl) w
theorem within8_no {n a b : Int} (h : ¬ (a ≤ n ∧ n ≤ b)) (w : World) : Calls Try.prog 35 #[.int .i64 n, .int .i64 a, .int .i64 b] w fun e w' => e = .returned (.bool false) ∧ w = w' :=
  within8_gives n a b false (by
    by_cases h1 : a ≤ n
    · rw [decide_eq_true h1, decide_eq_false (fun h2 => h ⟨h1, h2⟩)]; rfl
    · rw [decide_eq_false h1]; rfl) w
def manB (s : Pu) : Bool := decide ((s.first = 0 ∧ s.size = 0 ∧ s.owner = 0) ∨ (2 ≤ s.first ∧ s.first < s.blocks ∧ 1 ≤ s.size ∧ s.size ≤ 262144 ∧ 1 ≤ s.owner ∧ s.owner ≤ s.gen))
set_option maxRecDepth 100000 in
set_option maxHeartbeats 2000000 in
theorem man_any (s : Pu) (hb : 16 ≤ s.blocks ∧ s.blocks ≤ 1024) (w : World) : Calls Try.prog 36 #[supV s] w fun e w' => e = .returned (.bool (manB s)) ∧ Below w.heap.size w w' := by
  obtain ⟨g, b, l, fi, si, ow⟩ := s
  unfold supV
  simp only at hb
  have HS : Hid (manB ⟨g, b, l, fi, si, ow⟩ = decide ((fi = 0 ∧ si = 0 ∧ ow = 0) ∨ (2 ≤ fi ∧ fi < b ∧ 1 ≤ si ∧ si ≤ 262144 ∧ 1 ≤ ow ∧ ow ≤ g))) := rfl
  have HB : Hid (Below w.heap.size w (w.alloc (.cells #[.int .i64 g, .int .i64 b, .int .i64 l, .int .i64 fi, .int .i64 si, .int .i64 ow] 25))) := (Below.refl _ _).alloc (Nat.le_refl _) _
  have a23 := fun w' => Try.aggPart w'
  have s23 := fun w' => Try.sizePart w'
  have n23 := fun w' => Try.partZero w'
  have b1 : IntKind.i64.wrap (b - 1) = b - 1 := IntWalk.i64_in _ ⟨by omega, by omega⟩
  have HBL := Lib.hid hb
  clear hb
  simp only
  by_cases hz : fi = 0 ∧ si = 0 ∧ ow = 0
  · have HM : Hid (manB ⟨g, b, l, fi, si, ow⟩ = true) := by show _ = _; rw [HS.out]; exact decide_eq_true (Or.inl hz)
    have q0 := fun w' => Try.partEq fi si ow true w' (by simp [hz.1, hz.2.1, hz.2.2])
    clear hz HS
    go_enter Try.func36, Try.ntmps36
    go_wp2
    go_ret
    rw [HM.out]
    exact ⟨rfl, HB.out⟩
  have q0 := fun w' => Try.partEq fi si ow false w' (by rw [decide_eq_false_iff_not]; exact hz)
  by_cases h0 : 2 ≤ fi ∧ fi ≤ b - 1
  rotate_left
  · have HM : Hid (manB ⟨g, b, l, fi, si, ow⟩ = false) := by show _ = _; rw [HS.out]; exact decide_eq_false (by omega)
    have H0 : Hid (∀ W, Calls Try.prog 35 #[.int .i64 fi, .int .i64 2, .int .i64 (b - 1)] W fun e w' => e = .returned (.bool false) ∧ W = w') := fun W => within8_no h0 W
    clear HS hz h0
    go_enter Try.func36, Try.ntmps36
    go_wp2_with (first
      | (go_at_call 35; (with_reducible refine (H0.out _).mono ?_); rintro e w1 ⟨rfl, rfl⟩))
    go_ret
    rw [HM.out]
    exact ⟨rfl, HB.out⟩
  have H0 : Hid (∀ W, Calls Try.prog 35 #[.int .i64 fi, .int .i64 2, .int .i64 (b - 1)] W fun e w' => e = .returned (.bool true) ∧ W = w') := fun W => within8_yes h0 W
  by_cases h1 : 1 ≤ si ∧ si ≤ 262144
  rotate_left
  · have HM : Hid (manB ⟨g, b, l, fi, si, ow⟩ = false) := by show _ = _; rw [HS.out]; exact decide_eq_false (by omega)
    have H1 : Hid (∀ W, Calls Try.prog 35 #[.int .i64 si, .int .i64 1, .int .i64 262144] W fun e w' => e = .returned (.bool false) ∧ W = w') := fun W => within8_no h1 W
    clear HS hz h0 h1
    go_enter Try.func36, Try.ntmps36
    go_wp2_with (first
      | (go_at_call 35; (with_reducible refine (H1.out _).mono ?_); rintro e w1 ⟨rfl, rfl⟩)
      | (go_at_call 35; (with_reducible refine (H0.out _).mono ?_); rintro e w1 ⟨rfl, rfl⟩))
    go_ret
    rw [HM.out]
    exact ⟨rfl, HB.out⟩
  have H1 : Hid (∀ W, Calls Try.prog 35 #[.int .i64 si, .int .i64 1, .int .i64 262144] W fun e w' => e = .returned (.bool true) ∧ W = w') := fun W => within8_yes h1 W
  by_cases h2 : 1 ≤ ow ∧ ow ≤ g
  rotate_left
  · have HM : Hid (manB ⟨g, b, l, fi, si, ow⟩ = false) := by show _ = _; rw [HS.out]; exact decide_eq_false (by omega)
    have H2 : Hid (∀ W, Calls Try.prog 35 #[.int .i64 ow, .int .i64 1, .int .i64 g] W fun e w' => e = .returned (.bool false) ∧ W = w') := fun W => within8_no h2 W
    clear HS hz h0 h1 h2
    go_enter Try.func36, Try.ntmps36
    go_wp2_with (first
      | (go_at_call 35; (with_reducible refine (H2.out _).mono ?_); rintro e w1 ⟨rfl, rfl⟩)
      | (go_at_call 35; (with_reducible refine (H1.out _).mono ?_); rintro e w1 ⟨rfl, rfl⟩)
      | (go_at_call 35; (with_reducible refine (H0.out _).mono ?_); rintro e w1 ⟨rfl, rfl⟩))
    go_ret
    rw [HM.out]
    exact ⟨rfl, HB.out⟩
  have H2 : Hid (∀ W, Calls Try.prog 35 #[.int .i64 ow, .int .i64 1, .int .i64 g] W fun e w' => e = .returned (.bool true) ∧ W = w') := fun W => within8_yes h2 W
  have HM : Hid (manB ⟨g, b, l, fi, si, ow⟩ = true) := by show _ = _; rw [HS.out]; exact decide_eq_true (by omega)
  clear HS hz h0 h1 h2
  go_enter Try.func36, Try.ntmps36
  go_wp2_with (first
    | (go_at_call 35; (with_reducible refine (H2.out _).mono ?_); rintro e w1 ⟨rfl, rfl⟩)
    | (go_at_call 35; (with_reducible refine (H1.out _).mono ?_); rintro e w1 ⟨rfl, rfl⟩)
    | (go_at_call 35; (with_reducible refine (H0.out _).mono ?_); rintro e w1 ⟨rfl, rfl⟩))
  go_ret
  rw [HM.out]
  exact ⟨rfl, HB.out⟩
set_option maxRecDepth 100000 in
set_option maxHeartbeats 2000000 in
theorem scheck_any (s : Pu) (w : World) : Calls Try.prog 10 #[supV s] w fun e w' => e = .returned (.int .i64 (if s.may = true then 0 else 1)) ∧ Below w.heap.size w w' := by
  obtain ⟨g, b, l, fi, si, ow⟩ := s
  have HS : Hid (Pu.may ⟨g, b, l, fi, si, ow⟩ = decide (1 ≤ g ∧ g ≤ 2147483647 ∧ 16 ≤ b ∧ b ≤ 1024 ∧ 1 ≤ l ∧ l ≤ g ∧ ((fi = 0 ∧ si = 0 ∧ ow = 0) ∨ (2 ≤ fi ∧ fi < b ∧ 1 ≤ si ∧ si ≤ 262144 ∧ 1 ≤ ow ∧ ow ≤ g)))) := by show _ = _; unfold Pu.may; congr 1
  have HB : Hid (Below w.heap.size w (w.alloc (.cells #[.int .i64 g, .int .i64 b, .int .i64 l, .int .i64 fi, .int .i64 si, .int .i64 ow] 25))) := (Below.refl _ _).alloc (Nat.le_refl _) _
  have a25 := fun w' => Try.aggSup w'
  have s25 := fun w' => Try.sizeSup w'
  have y0 := fun w' => Try.notTrue w'
  have y1 := fun w' => Try.notFalse w'
  have HMn : Hid (16 ≤ b ∧ b ≤ 1024 → ∀ W, Calls Try.prog 36 #[.agg #[.int .i64 g, .int .i64 b, .int .i64 l, .int .i64 fi, .int .i64 si, .int .i64 ow]] W fun e w' => e = .returned (.bool (manB ⟨g, b, l, fi, si, ow⟩)) ∧ Below W.heap.size W w') := fun hb W => man_any ⟨g, b, l, fi, si, ow⟩ hb W
  unfold supV
  simp only
  obtain ⟨v, hv⟩ : ∃ v : Int, v = if Pu.may ⟨g, b, l, fi, si, ow⟩ = true then 0 else 1 := ⟨_, rfl⟩
  rw [← hv]
  have HV := Lib.hid hv
  clear hv
  by_cases h0 : 1 ≤ g ∧ g ≤ 2147483647
  rotate_left
  · have HM : Hid (v = 1) := by show _ = _; rw [HV.out, HS.out, decide_eq_false (by omega)]; rfl
    have H0 : Hid (∀ W, Calls Try.prog 35 #[.int .i64 g, .int .i64 1, .int .i64 2147483647] W fun e w' => e = .returned (.bool false) ∧ W = w') := fun W => within8_no h0 W
    clear HS HV HMn h0
    go_enter Try.func10, Try.ntmps10
    go_wp2_with (first
      | (go_at_call 35; (with_reducible refine (H0.out _).mono ?_); rintro e w1 ⟨rfl, rfl⟩))
    go_ret
    rw [HM.out]
    exact ⟨rfl, HB.out⟩
  have H0 : Hid (∀ W, Calls Try.prog 35 #[.int .i64 g, .int .i64 1, .int .i64 2147483647] W fun e w' => e = .returned (.bool true) ∧ W = w') := fun W => within8_yes h0 W
  by_cases h1 : 16 ≤ b ∧ b ≤ 1024
  rotate_left
  · have HM : Hid (v = 1) := by show _ = _; rw [HV.out, HS.out, decide_eq_false (by omega)]; rfl
    have H1 : Hid (∀ W, Calls Try.prog 35 #[.int .i64 b, .int .i64 16, .int .i64 1024] W fun e w' => e = .returned (.bool false) ∧ W = w') := fun W => within8_no h1 W
    clear HS HV HMn h0 h1
    go_enter Try.func10, Try.ntmps10
    go_wp2_with (first
      | (go_at_call 35; (with_reducible refine (H1.out _).mono ?_); rintro e w1 ⟨rfl, rfl⟩)
      | (go_at_call 35; (with_reducible refine (H0.out _).mono ?_); rintro e w1 ⟨rfl, rfl⟩))
    go_ret
    rw [HM.out]
    exact ⟨rfl, HB.out⟩
  have H1 : Hid (∀ W, Calls Try.prog 35 #[.int .i64 b, .int .i64 16, .int .i64 1024] W fun e w' => e = .returned (.bool true) ∧ W = w') := fun W => within8_yes h1 W
  by_cases h2 : 1 ≤ l ∧ l ≤ g
  rotate_left
  · have HM : Hid (v = 1) := by show _ = _; rw [HV.out, HS.out, decide_eq_false (by omega)]; rfl
    have H2 : Hid (∀ W, Calls Try.prog 35 #[.int .i64 l, .int .i64 1, .int .i64 g] W fun e w' => e = .returned (.bool false) ∧ W = w') := fun W => within8_no h2 W
    clear HS HV HMn h0 h1 h2
    go_enter Try.func10, Try.ntmps10
    go_wp2_with (first
      | (go_at_call 35; (with_reducible refine (H2.out _).mono ?_); rintro e w1 ⟨rfl, rfl⟩)
      | (go_at_call 35; (with_reducible refine (H1.out _).mono ?_); rintro e w1 ⟨rfl, rfl⟩)
      | (go_at_call 35; (with_reducible refine (H0.out _).mono ?_); rintro e w1 ⟨rfl, rfl⟩))
    go_ret
    rw [HM.out]
    exact ⟨rfl, HB.out⟩
  have H2 : Hid (∀ W, Calls Try.prog 35 #[.int .i64 l, .int .i64 1, .int .i64 g] W fun e w' => e = .returned (.bool true) ∧ W = w') := fun W => within8_yes h2 W
  have HMp := Lib.hid (HMn.out h1)
  clear HMn
  cases hm : manB ⟨g, b, l, fi, si, ow⟩ with
  | false =>
    have HMan : Hid (∀ W, Calls Try.prog 36 #[.agg #[.int .i64 g, .int .i64 b, .int .i64 l, .int .i64 fi, .int .i64 si, .int .i64 ow]] W fun e w' => e = .returned (.bool false) ∧ Below W.heap.size W w') := fun W => by rw [← hm]; exact HMp.out W
    have HM : Hid (v = 1) := by show _ = _; rw [HV.out, HS.out, decide_eq_false (fun hh => of_decide_eq_false hm hh.2.2.2.2.2.2)]; rfl
    clear HS HV HMp hm h0 h1 h2
    go_enter Try.func10, Try.ntmps10
    go_wp2_with (first
      | (go_at_call 35; (with_reducible refine (H2.out _).mono ?_); rintro e w1 ⟨rfl, rfl⟩)
      | (go_at_call 35; (with_reducible refine (H1.out _).mono ?_); rintro e w1 ⟨rfl, rfl⟩)
      | (go_at_call 35; (with_reducible refine (H0.out _).mono ?_); rintro e w1 ⟨rfl, rfl⟩)
      | (go_at_call 36; (with_reducible refine (HMan.out _).mono ?_); rintro e w1 ⟨rfl, hb1⟩; have b2 := chain7 HB.out hb1))
    go_ret
    rw [HM.out]
    exact ⟨rfl, b2⟩
  | true =>
    have HMan : Hid (∀ W, Calls Try.prog 36 #[.agg #[.int .i64 g, .int .i64 b, .int .i64 l, .int .i64 fi, .int .i64 si, .int .i64 ow]] W fun e w' => e = .returned (.bool true) ∧ Below W.heap.size W w') := fun W => by rw [← hm]; exact HMp.out W
    have HM : Hid (v = 0) := by show _ = _; rw [HV.out, HS.out, decide_eq_true ⟨h0.1, h0.2, h1.1, h1.2, h2.1, h2.2, of_decide_eq_true hm⟩]; rfl
    clear HS HV HMp hm h0 h1 h2
    go_enter Try.func10, Try.ntmps10
    go_wp2_with (first
      | (go_at_call 35; (with_reducible refine (H2.out _).mono ?_); rintro e w1 ⟨rfl, rfl⟩)
      | (go_at_call 35; (with_reducible refine (H1.out _).mono ?_); rintro e w1 ⟨rfl, rfl⟩)
      | (go_at_call 35; (with_reducible refine (H0.out _).mono ?_); rintro e w1 ⟨rfl, rfl⟩)
      | (go_at_call 36; (with_reducible refine (HMan.out _).mono ?_); rintro e w1 ⟨rfl, hb1⟩; have b2 := chain7 HB.out hb1))
    go_ret
    rw [HM.out]
    exact ⟨rfl, b2⟩
end Go.Proofs.Ytkockhggnbfahaa
end
section
set_option linter.unusedVariables false
namespace Go.Proofs.Ytkockhggnbfahaa
open Go.RowKit
theorem Try.secBuildU (g b : Int) (A : Option Addr) (m c : Nat) (w : World) : Sem.run Try.prog (Instr.build 70 #[(0, .int .i64 1), (1, .int .i64 g), (2, .int .i64 b), (4, .slice A m c)]) w = .ok (.agg #[.int .i64 1, .int .i64 g, .int .i64 b, .int .i64 0, .slice A m c]) w := by kernel_rfl
def fixK (v : List Nat) (k : Nat) : List UInt8 := (v.take k).flatMap (fixL 4)
theorem fixK_succ (v : List Nat) (k : Nat) (h : k < v.length) : fixK v (k + 1) = fixK v k ++ fixL 4 v[k] := by unfold fixK; rw [List.take_succ_eq_append_getElem h, List.flatMap_append]; simp
theorem fixK_length (v : List Nat) : ∀ k, k ≤ v.length → (fixK v k).length = 4 * k
  | 0, _ => rfl
  | k + 1, h => by rw [fixK_succ v k (by omega), List.length_append, fixK_length v k (by omega), fixL_length]; omega
theorem super_at (w W : World) (g b l f z o : Int) (hb : Below (w.alloc (.cells #[.int .i64 g, .int .i64 b, .int .i64 l, .int .i64 f, .int .i64 z, .int .i64 o] 25)).heap.size (w.alloc (.cells #[.int .i64 g, .int .i64 b, .int .i64 l, .int .i64 f, .int .i64 z, .int .i64 o] 25)) W) : W.cell? ⟨w.heap.size, 0, none⟩ = some (.int .i64 g) ∧ W.cell? ⟨w.heap.size, 1, none⟩ = some (.int .i64 b) ∧ W.cell? ⟨w.heap.size, 2, none⟩ = some (.int .i64 l) ∧ W.cell? ⟨w.heap.size, 3, none⟩ = some (.int .i64 f) ∧ W.cell? ⟨w.heap.size, 4, none⟩ = some (.int .i64 z) ∧ W.cell? ⟨w.heap.size, 5, none⟩ = some (.int .i64 o) := by
  have h0 : Blk W w.heap.size 25 #[.int .i64 g, .int .i64 b, .int .i64 l, .int .i64 f, .int .i64 z, .int .i64 o] := Blk.below (Blk.new w _ _) hb (by simp)
  exact ⟨by rw [h0.cell]; rfl, by rw [h0.cell]; rfl, by rw [h0.cell]; rfl, by rw [h0.cell]; rfl, by rw [h0.cell]; rfl, by rw [h0.cell]; rfl⟩
theorem own_below7 {w w' : World} {base n : Nat} {v : Value} {xs : List Value} (h : w.ownsRow base 5 1 v n xs) (hb : Below w.heap.size w w') : w'.ownsRow base 5 1 v n xs := by
  refine ⟨h.1, ?_⟩
  rcases h.2 with h1 | ⟨g, cap, cur, rfl, h2, h3, h4⟩
  · exact .inl h1
  · exact .inr ⟨g, cap, cur, rfl, h2, (hb.block g (Blk.lt (t := 5) h3)).trans h3, h4⟩
theorem rb4 {w : World} {A : Option Addr} {x : Nat} (h : RB w w.heap.size A (fixL 4 x)) : Reads w w.heap.size 1 A 4 (cells (fixL 4 x)) := by
  unfold RB at h
  rwa [fixL_length] at h
set_option maxRecDepth 100000 in
set_option maxHeartbeats 4000000 in
theorem rsput_no (s : Pu) (w : World) (h : s.may = false) :
    Calls Try.prog 8 #[supV s] w fun e w' => e = .returned (.tuple #[.slice none 0 0, .int .i64 1]) ∧ Below w.heap.size w w' := by
  have HM : Hid (∀ W, Calls Try.prog 23 #[supV s] W fun e w' => e = .returned (.bool false) ∧ Below W.heap.size W w') := fun W => by rw [← h]; exact rcheck_any s W
  have HB : Hid (Below w.heap.size w (w.alloc (.cells #[.int .i64 s.gen, .int .i64 s.blocks, .int .i64 s.log, .int .i64 s.first, .int .i64 s.size, .int .i64 s.owner] 25))) := (Below.refl _ _).alloc (Nat.le_refl _) _
  have a25 := fun w' => Try.aggSup w'
  have s25 := fun w' => Try.sizeSup w'
  have y0 := fun w' => Try.notTrue w'
  have y1 := fun w' => Try.notFalse w'
  unfold supV at HM ⊢
  clear h
  go_enter Try.func8, Try.ntmps8
  go_wp2_with (first
    | (go_at_call 23; (with_reducible refine (HM.out _).mono ?_); rintro e w1 ⟨rfl, hb1⟩))
  go_ret2
  exact ⟨rfl, chain7 HB.out hb1⟩
set_option maxRecDepth 100000 in
set_option maxHeartbeats 4000000 in
theorem rsput_yes (s : Pu) (w : World) (h : s.may = true) :
    Calls Try.prog 8 #[supV s] w (GivesBytes s.bytes w) := by
  have HM : Hid (∀ W, Calls Try.prog 23 #[supV s] W fun e w' => e = .returned (.bool true) ∧ Below W.heap.size W w') := fun W => by rw [← h]; exact rcheck_any s W
  have HPu : Hid (∀ W (A : Option Addr) (c : Nat), RB W W.heap.size A s.data → Below w.heap.size w W → Calls Try.prog 30 #[.agg #[.int .i64 1, .int .i64 s.gen, .int .i64 s.blocks, .int .i64 0, .slice A 16 c]] W fun e w' => ∃ A c, e = .returned (.tuple #[.slice A 64 c, .int .i64 0]) ∧ Hid (GivesBytes s.bytes w (.returned (.tuple #[.slice A 64 c, .int .i64 0])) w')) := fun W A c hr hb => by
    have h1 := rput_yes s.sec A c W (Pu.sec_may h) hr
    unfold secV at h1
    have e16 : s.sec.data.length = 16 := s.data_length
    rw [e16] at h1
    refine h1.mono fun e w' hh => ?_
    obtain ⟨A', c', he, ho, hb'⟩ := hh
    have e64 : s.sec.bytes.length = 64 := s.bytes_length
    rw [e64] at he
    exact ⟨A', c', he, A', c', by rw [s.bytes_length], Joins.ownsRow_le ho hb.size, chain7 hb hb'⟩
  obtain ⟨i0, hi0, hz0, hz1, hz2⟩ := info_parts Try.info5
  obtain ⟨h1, h2, h3, h4, h5, h6, h7⟩ := s.may_iff.1 h
  have hd : s.data = fixK [s.log.toNat, s.first.toNat, s.size.toNat, s.owner.toNat] 4 := by
    unfold Pu.data fixK; simp
  have HD := Lib.hid hd
  obtain ⟨g, b, l, f, z, o⟩ := s
  simp only at h1 h2 h3 h4 h5 h6 h7 hd HPu HD
  obtain ⟨l, rfl⟩ : ∃ k : Nat, l = (k : Int) := ⟨l.toNat, by omega⟩
  obtain ⟨f, rfl⟩ : ∃ k : Nat, f = (k : Int) := ⟨f.toNat, by omega⟩
  obtain ⟨z, rfl⟩ : ∃ k : Nat, z = (k : Int) := ⟨z.toNat, by omega⟩
  obtain ⟨o, rfl⟩ : ∃ k : Nat, o = (k : Int) := ⟨o.toNat, by omega⟩
  obtain ⟨v, hv⟩ : ∃ v, v = [l, f, z, o] := ⟨_, rfl⟩
  simp only [Int.toNat_natCast] at HD
  rw [← hv] at HD
  have hv4 : v.length = 4 := by rw [hv]; rfl
  have hvm : ∀ (k : Nat) (hk : k < v.length), v[k] ≤ 2147483647 := by
    subst hv
    intro k hk
    match k, hk with
    | 0, _ => show l ≤ _; omega
    | 1, _ => show f ≤ _; omega
    | 2, _ => show z ≤ _; omega
    | 3, _ => show o ≤ _; omega
  have HV : Hid (v = [l, f, z, o] ∧ v.length = 4 ∧ ∀ (k : Nat) (hk : k < v.length), v[k] ≤ 2147483647) := ⟨hv, hv4, hvm⟩
  have HF : Hid (∀ W (k : Nat) (hk : k < v.length), Calls Try.prog 29 #[.int .i64 (v[k] : Int), .int .i64 4] W fun e w' => ∃ A c, e = .returned (.tuple #[.slice A 4 c, .int .i64 0]) ∧ Hid (RB w' w'.heap.size A (fixL 4 v[k])) ∧ Below W.heap.size W w') := fun W k hk =>
    (refFix_any v[k] 4 W (hvm k hk) (by omega) (by omega)).mono fun e w' hh => by
      obtain ⟨A2, c2, he, ho, hb⟩ := hh.1 (by have := hvm k hk; have e : (256 : Nat) ^ 4 = 4294967296 := rfl; omega)
      rw [fixL_length] at he
      exact ⟨A2, c2, he, own_rb ho, hb⟩
  have HB : Hid (Below w.heap.size w (w.alloc (.cells #[.int .i64 g, .int .i64 b, .int .i64 (l : Int), .int .i64 (f : Int), .int .i64 (z : Int), .int .i64 (o : Int)] 25))) := (Below.refl _ _).alloc (Nat.le_refl _) _
  have HC := Lib.hid (fun W hb => super_at w W g b (l : Int) (f : Int) (z : Int) (o : Int) hb)
  have n69 := fun A m c w' => Try.secBuildU g b A m c w'
  have a25 := fun w' => Try.aggSup w'
  have s25 := fun w' => Try.sizeSup w'
  have y0 := fun w' => Try.notTrue w'
  have y1 := fun w' => Try.notFalse w'
  unfold supV at HM ⊢
  simp only at HM ⊢
  clear hd hv hv4 hvm h h1 h2 h3 h4 h5 h6 h7
  go_enter Try.func8, Try.ntmps8
  go_wp2_with (first
    | (go_at_call 23; (with_reducible refine (HM.out _).mono ?_); rintro e w1 ⟨rfl, hb1⟩; have b1 := chain7 HB.out hb1; obtain ⟨p0, p1, p2, p3, p4, p5⟩ := HC.out _ hb1))
  have hL0 : Blk (w1.alloc (.cells #[.int .i64 (l : Int), .int .i64 (f : Int), .int .i64 (z : Int), .int .i64 (o : Int)] 3)) w1.heap.size 3 #[.int .i64 (l : Int), .int .i64 (f : Int), .int .i64 (z : Int), .int .i64 (o : Int)] := Blk.new w1 _ _
  have b2 : Below w.heap.size w (w1.alloc (.cells #[.int .i64 (l : Int), .int .i64 (f : Int), .int .i64 (z : Int), .int .i64 (o : Int)] 3)) := b1.alloc b1.size _
  have kb2 := hb1.alloc hb1.size (.cells #[.int .i64 (l : Int), .int .i64 (f : Int), .int .i64 (z : Int), .int .i64 (o : Int)] 3)
  obtain ⟨r0, r1, -, -, -, -⟩ := HC.out _ kb2
  clear p0 p1 p2 p3 p4 p5
  generalize (w1.alloc (.cells #[.int .i64 (l : Int), .int .i64 (f : Int), .int .i64 (z : Int), .int .i64 (o : Int)] 3)) = W1 at hL0 b2 kb2 r0 r1 ⊢
  generalize w1.heap.size = gl at hL0 ⊢
  have HL0 := Lib.hid hL0
  have HKb := Lib.hid kb2
  clear hL0 kb2 hb1 b1
  go_loopw [5, 6, 7, 8] (fun u x _ _ wr => ∃ k : Nat, k ≤ 4 ∧ x = .int .i64 (k : Int) ∧ Hid (wr.ownsRow W1.heap.size 5 1 u (4 * k) (cells (fixK v k))) ∧ Hid (Below W1.heap.size W1 wr)) (fun _ x _ _ _ => 4 - (intOf x).toNat)
  case atStart => exact ⟨0, by omega, rfl, World.ownsRow_nil _ _ _ _, Below.refl _ _⟩
  case round =>
    obtain ⟨k, hk, rfl, HO, hb⟩ := hrel
    by_cases hlt : k < 4
    · have hk2 : k < v.length := by have := HV.out.2.1; omega
      obtain ⟨x, hx⟩ : ∃ x, x = v[k] := ⟨_, rfl⟩
      have hcl : wr.cell? ⟨gl, k, none⟩ = some (.int .i64 (x : Int)) := by
        have h0 := Blk.below HL0.out hb.out (Blk.lt HL0.out)
        rw [h0.cell, hx]
        have e := HV.out.1
        subst e
        match k, hk2 with
        | 0, _ => rfl
        | 1, _ => rfl
        | 2, _ => rfl
        | 3, _ => rfl
      have HFx := Lib.hid (HF.out wr k hk2)
      have HSn : Hid (fixK v (k + 1) = fixK v k ++ fixL 4 v[k]) := fixK_succ v k hk2
      rw [← hx] at HFx HSn
      have u0 : (0 : Int) ≤ (k : Int) := by omega
      have u1 : (k : Int) < 4 := by omega
      have d0 : decide ((k : Int) < 4) = true := decide_eq_true u1
      have hbo := hb.out
      clear hx
      go_wp2_with (first
        | (go_at_call 29; (with_reducible refine HFx.out.mono ?_); rintro e w3 ⟨A3, c3, rfl, r3, hb3⟩; have ho3 := own_below7 HO.out hb3; have hs3 : W1.heap.size ≤ w3.heap.size := Nat.le_trans hbo.size hb3.size; have q3 := rb4 r3.out)
        | (at_builtin; refine wpList_append_any _ rfl (.tmp 36) (.tmp 37) _ rfl W1.heap.size 5 i0 _ 1 1 Try.underlying26 hi0 hz0 hz1 hz2 rfl (by omega) u5 (4 * k) (cells (fixK v k)) rfl ho3 w3.heap.size A3 4 c3 (cells (fixL 4 x)) rfl q3 (cells_one _) (by simp only [maxLen]; omega) (by omega) hs3 ?_; intro v9 w9 ho9 hg9 hat9))
      have hO9 : w9.ownsRow W1.heap.size 5 1 v9 (4 * (k + 1)) (cells (fixK v (k + 1))) := by rw [HSn.out, cells_append, show 4 * (k + 1) = 4 * k + 4 by omega]; exact ho9
      have hb9 : Below W1.heap.size W1 w9 := (chain7 hbo hb3).grown hg9 hs3 (fun j hj => (HO.out.lt j hj).1)
      clear ho3 q3 ho9 hg9 hat9
      refine ⟨⟨k + 1, by omega, by go_num, hO9, hb9⟩, ?_⟩
      simp [intOf]; omega
    · obtain rfl : k = 4 := by omega
      obtain ⟨A9, c9, rfl⟩ := own_form HO.out
      have hfr : RB wr wr.heap.size A9 (fixK v 4) := by
        have hl : (fixK v 4).length = 16 := fixK_length v 4 (by have := HV.out.2.1; omega)
        refine Reads.of_own (base := W1.heap.size) (e := 5) (c := c9) ?_
        rw [hl]; exact HO.out
      have hbw := chain7 b2 hb.out
      obtain ⟨t0, t1, -, -, -, -⟩ := HC.out _ (chain7 HKb.out hb.out)
      have HPx := Lib.hid (HPu.out wr A9 c9 (by rw [HD.out]; exact hfr) hbw)
      have d0 : decide (((4 : Nat) : Int) < 4) = false := by decide
      clear hfr HO hb r0 r1
      go_wp2_with (first
        | (go_at_call 30; (with_reducible refine HPx.out.mono ?_); rintro e w5 ⟨A5, c5, rfl, hG⟩))
      go_ret2
      exact hG.out
end Go.Proofs.Ytkockhggnbfahaa
end
