/- Lemmas under the proofs of this place: SectPMay, SectMem, CrcOpen. No statement is proved here. -/
import Derived.Test.YtghenhacndaelaaBu15
import Derived.Test.YtghenhacndaelaaBu04
import Derived.Test.YtghenhacndaelaaBu10
import Derived.Test.YtghenhacndaelaaBu07
import Derived.Test.YtghenhacndaelaaBu16
import Derived.Test.YtghenhacndaelaaBu02
import Derived.Deep.RegionWith
import Derived.Deep.QuietTactic
import Derived.BigQuiet
import Derived.Lib.SmallJoins
set_option linter.unusedSimpArgs false
set_option linter.unusedVariables false
set_option maxRecDepth 100000
set_option maxHeartbeats 16000000
namespace Go.Proofs.Ytghenhacndaelaa
section
open Go.RowKit
theorem within_gives (n a b : Int) (v : Bool) (hv : (decide (a ≤ n) && decide (n ≤ b)) = v) (w : World) : Calls Try.prog 75 #[.int .i64 n, .int .i64 a, .int .i64 b] w fun e w' => e = .returned (.bool v) ∧ w = w' := by
  by_cases h : a ≤ n
  · have d : decide (a ≤ n) = true := decide_eq_true h
    rw [d, Bool.true_and] at hv
    subst hv
    go_enter Try.func75, Try.ntmps75
    go_wp2
    go_ret
    exact ⟨rfl, rfl⟩
  · have d : decide (a ≤ n) = false := decide_eq_false h
    rw [d, Bool.false_and] at hv
    subst hv
    go_enter Try.func75, Try.ntmps75
    go_wp2
    go_ret
    exact ⟨rfl, rfl⟩
theorem within_yes {n a b : Int} (h : a ≤ n ∧ n ≤ b) (w : World) : Calls Try.prog 75 #[.int .i64 n, .int .i64 a, .int .i64 b] w fun e w' => e = .returned (.bool true) ∧ w = w' :=
  within_gives n a b true (by rw [decide_eq_true h.1, decide_eq_true h.2]; rfl) w
theorem within_no {n a b : Int} (h : ¬ (a ≤ n ∧ n ≤ b)) (w : World) : Calls Try.prog 75 #[.int .i64 n, .int .i64 a, .int .i64 b] w fun e w' => e = .returned (.bool false) ∧ w = w' :=
  within_gives n a b false (by
    by_cases h1 : a ≤ n
    · rw [decide_eq_true h1, decide_eq_false (fun h2 => h ⟨h1, h2⟩)]; rfl
    · rw [decide_eq_false h1]; rfl) w
theorem maybe_any (s : Sd) (A : Option Addr) (c : Nat) (w : World) : Calls Try.prog 58 #[secV s A c] w fun e w' => e = .returned (.bool s.may) ∧ Below w.heap.size w w' := by
  obtain ⟨k, ep, n, l, D⟩ := s
  unfold secV
  obtain ⟨m, hm⟩ : ∃ m, m = D.length := ⟨_, rfl⟩
  have HS : Hid (Sd.may ⟨k, ep, n, l, D⟩ = (decide (1 ≤ k) && (decide (k ≤ 255) && (decide (0 ≤ ep) && (decide (ep ≤ 2147483647) && (decide (0 ≤ n) && (decide (n ≤ 2147483647) && (decide (0 ≤ l) && (decide (l ≤ 65535) && decide (m ≤ 48)))))))))) := by show _ = _; rw [hm]; rfl
  simp only
  rw [← hm]
  have HB : Hid (Below w.heap.size w (w.alloc (.cells #[.int .i64 k, .int .i64 ep, .int .i64 n, .int .i64 l, .slice A m c] 79))) := (Below.refl _ _).alloc (Nat.le_refl _) _
  clear hm
  by_cases h0 : 1 ≤ k ∧ k ≤ 255
  rotate_left
  · have HM : Hid (Sd.may ⟨k, ep, n, l, D⟩ = false) := by show _ = _; rw [HS.out]; simp; omega
    have H0 : Hid (∀ W, Calls Try.prog 75 #[.int .i64 k, .int .i64 1, .int .i64 255] W fun e w' => e = .returned (.bool false) ∧ W = w') := fun W => within_no h0 W
    clear HS h0
    go_enter Try.func58, Try.ntmps58
    go_wp2_with (first | (go_at_call 75; (with_reducible refine (H0.out _).mono ?_); rintro e w1 ⟨rfl, rfl⟩))
    go_ret
    rw [HM.out]
    exact ⟨rfl, HB.out⟩
  have H0 : Hid (∀ W, Calls Try.prog 75 #[.int .i64 k, .int .i64 1, .int .i64 255] W fun e w' => e = .returned (.bool true) ∧ W = w') := fun W => within_yes h0 W
  by_cases h1 : 0 ≤ ep ∧ ep ≤ 2147483647
  rotate_left
  · have HM : Hid (Sd.may ⟨k, ep, n, l, D⟩ = false) := by show _ = _; rw [HS.out]; simp; omega
    have H1 : Hid (∀ W, Calls Try.prog 75 #[.int .i64 ep, .int .i64 0, .int .i64 2147483647] W fun e w' => e = .returned (.bool false) ∧ W = w') := fun W => within_no h1 W
    clear HS h0 h1
    go_enter Try.func58, Try.ntmps58
    go_wp2_with (first
      | (go_at_call 75; (with_reducible refine (H0.out _).mono ?_); rintro e w1 ⟨rfl, rfl⟩)
      | (go_at_call 75; (with_reducible refine (H1.out _).mono ?_); rintro e w1 ⟨rfl, rfl⟩))
    go_ret
    rw [HM.out]
    exact ⟨rfl, HB.out⟩
  have H1 : Hid (∀ W, Calls Try.prog 75 #[.int .i64 ep, .int .i64 0, .int .i64 2147483647] W fun e w' => e = .returned (.bool true) ∧ W = w') := fun W => within_yes h1 W
  by_cases h2 : 0 ≤ n ∧ n ≤ 2147483647
  rotate_left
  · have HM : Hid (Sd.may ⟨k, ep, n, l, D⟩ = false) := by show _ = _; rw [HS.out]; simp; omega
    have H2 : Hid (∀ W, Calls Try.prog 75 #[.int .i64 n, .int .i64 0, .int .i64 2147483647] W fun e w' => e = .returned (.bool false) ∧ W = w') := fun W => within_no h2 W
    clear HS h0 h1 h2
    go_enter Try.func58, Try.ntmps58
    go_wp2_with (first
      | (go_at_call 75; (with_reducible refine (H0.out _).mono ?_); rintro e w1 ⟨rfl, rfl⟩)
      | (go_at_call 75; (with_reducible refine (H1.out _).mono ?_); rintro e w1 ⟨rfl, rfl⟩)
      | (go_at_call 75; (with_reducible refine (H2.out _).mono ?_); rintro e w1 ⟨rfl, rfl⟩))
    go_ret
    rw [HM.out]
    exact ⟨rfl, HB.out⟩
  have H2 : Hid (∀ W, Calls Try.prog 75 #[.int .i64 n, .int .i64 0, .int .i64 2147483647] W fun e w' => e = .returned (.bool true) ∧ W = w') := fun W => within_yes h2 W
  by_cases h3 : 0 ≤ l ∧ l ≤ 65535
  rotate_left
  · have HM : Hid (Sd.may ⟨k, ep, n, l, D⟩ = false) := by show _ = _; rw [HS.out]; simp; omega
    have H3 : Hid (∀ W, Calls Try.prog 75 #[.int .i64 l, .int .i64 0, .int .i64 65535] W fun e w' => e = .returned (.bool false) ∧ W = w') := fun W => within_no h3 W
    clear HS h0 h1 h2 h3
    go_enter Try.func58, Try.ntmps58
    go_wp2_with (first
      | (go_at_call 75; (with_reducible refine (H0.out _).mono ?_); rintro e w1 ⟨rfl, rfl⟩)
      | (go_at_call 75; (with_reducible refine (H1.out _).mono ?_); rintro e w1 ⟨rfl, rfl⟩)
      | (go_at_call 75; (with_reducible refine (H2.out _).mono ?_); rintro e w1 ⟨rfl, rfl⟩)
      | (go_at_call 75; (with_reducible refine (H3.out _).mono ?_); rintro e w1 ⟨rfl, rfl⟩))
    go_ret
    rw [HM.out]
    exact ⟨rfl, HB.out⟩
  have H3 : Hid (∀ W, Calls Try.prog 75 #[.int .i64 l, .int .i64 0, .int .i64 65535] W fun e w' => e = .returned (.bool true) ∧ W = w') := fun W => within_yes h3 W
  have HM : Hid (Sd.may ⟨k, ep, n, l, D⟩ = decide (m ≤ 48)) := by
    show _ = _
    rw [HS.out, decide_eq_true h0.1, decide_eq_true h0.2, decide_eq_true h1.1, decide_eq_true h1.2, decide_eq_true h2.1, decide_eq_true h2.2, decide_eq_true h3.1, decide_eq_true h3.2]
    rfl
  clear HS h0 h1 h2 h3
  by_cases h4 : m ≤ 48
  · have d4 : decide (m ≤ 48) = true := decide_eq_true h4
    have d5 : decide ((m : Int) ≤ 48) = true := decide_eq_true (by omega)
    go_enter Try.func58, Try.ntmps58
    go_wp2_with (first
      | (go_at_call 75; (with_reducible refine (H0.out _).mono ?_); rintro e w1 ⟨rfl, rfl⟩)
      | (go_at_call 75; (with_reducible refine (H1.out _).mono ?_); rintro e w1 ⟨rfl, rfl⟩)
      | (go_at_call 75; (with_reducible refine (H2.out _).mono ?_); rintro e w1 ⟨rfl, rfl⟩)
      | (go_at_call 75; (with_reducible refine (H3.out _).mono ?_); rintro e w1 ⟨rfl, rfl⟩))
    go_ret
    rw [HM.out, d4]
    exact ⟨rfl, HB.out⟩
  · have d4 : decide (m ≤ 48) = false := decide_eq_false h4
    have d5 : decide ((m : Int) ≤ 48) = false := decide_eq_false (by omega)
    go_enter Try.func58, Try.ntmps58
    go_wp2_with (first
      | (go_at_call 75; (with_reducible refine (H0.out _).mono ?_); rintro e w1 ⟨rfl, rfl⟩)
      | (go_at_call 75; (with_reducible refine (H1.out _).mono ?_); rintro e w1 ⟨rfl, rfl⟩)
      | (go_at_call 75; (with_reducible refine (H2.out _).mono ?_); rintro e w1 ⟨rfl, rfl⟩)
      | (go_at_call 75; (with_reducible refine (H3.out _).mono ?_); rintro e w1 ⟨rfl, rfl⟩))
    go_ret
    rw [HM.out, d4]
    exact ⟨rfl, HB.out⟩
end
section
open Go.RowKit
def SL (w : World) (B : Nat) (A : Option Addr) (l : List Sd) : Prop :=
  0 < l.length → ∃ b off, A = some ⟨b, off, none⟩ ∧ b < B ∧ ∀ i (hi : i < l.length), ∃ dA dc, RB w B dA l[i].data ∧
    w.cell? ⟨b, off + i * 5, none⟩ = some (.int .i64 l[i].kind) ∧ w.cell? ⟨b, off + i * 5 + 1, none⟩ = some (.int .i64 l[i].epoch) ∧ w.cell? ⟨b, off + i * 5 + 2, none⟩ = some (.int .i64 l[i].number) ∧
    w.cell? ⟨b, off + i * 5 + 3, none⟩ = some (.int .i64 l[i].left) ∧ w.cell? ⟨b, off + i * 5 + 4, none⟩ = some (.slice dA l[i].data.length dc)
section
variable {w w' : World} {B : Nat} {A : Option Addr} {l : List Sd}
theorem SL.nil : SL w B A [] := fun h => absurd h (by simp)
end
def secC (x : Sd × Option Addr × Nat) : List Value := [.int .i64 x.1.kind, .int .i64 x.1.epoch, .int .i64 x.1.number, .int .i64 x.1.left, .slice x.2.1 x.1.data.length x.2.2]
def rowC (r : List (Sd × Option Addr × Nat)) : List Value := r.flatMap secC
theorem rowC_get (r : List (Sd × Option Addr × Nat)) (i : Nat) (hi : i < r.length) : (rowC r)[i * 5]? = some (.int .i64 (r[i]).1.kind) ∧ (rowC r)[i * 5 + 1]? = some (.int .i64 (r[i]).1.epoch) ∧ (rowC r)[i * 5 + 2]? = some (.int .i64 (r[i]).1.number) ∧ (rowC r)[i * 5 + 3]? = some (.int .i64 (r[i]).1.left) ∧ (rowC r)[i * 5 + 4]? = some (.slice (r[i]).2.1 (r[i]).1.data.length (r[i]).2.2) := by
  induction r generalizing i with
  | nil => simp at hi
  | cons x r ih =>
    have e : rowC (x :: r) = .int .i64 x.1.kind :: .int .i64 x.1.epoch :: .int .i64 x.1.number :: .int .i64 x.1.left :: .slice x.2.1 x.1.data.length x.2.2 :: rowC r := rfl
    rw [e]
    match i with
    | 0 => simp
    | i + 1 =>
      have := ih i (by simpa using hi)
      rw [show (i + 1) * 5 = i * 5 + 5 by omega, show i * 5 + 5 + 1 = i * 5 + 1 + 5 by omega, show i * 5 + 5 + 2 = i * 5 + 2 + 5 by omega, show i * 5 + 5 + 3 = i * 5 + 3 + 5 by omega, show i * 5 + 5 + 4 = i * 5 + 4 + 5 by omega]
      simpa using this
theorem rowC_snoc (r : List (Sd × Option Addr × Nat)) (x : Sd × Option Addr × Nat) : rowC (r ++ [x]) = rowC r ++ secC x := by simp [rowC]
theorem SL.of_own {w : World} {base n c : Nat} {A : Option Addr} {r : List (Sd × Option Addr × Nat)} (h : w.ownsRow base 79 5 (.slice A n c) n (rowC r)) (hn : n = r.length) (hr : ∀ x ∈ r, RB w w.heap.size x.2.1 x.1.data) : SL w w.heap.size A (r.map (·.1)) := fun h0 => by
  subst hn
  rw [List.length_map] at h0
  rcases h.2 with ⟨_, h1⟩ | ⟨k, cap, cur, he, h2, h3, _⟩
  · omega
  · simp only [Value.slice.injEq] at he
    obtain ⟨rfl, -, rfl⟩ := he
    have hc := World.ownsRow.cells h (g := k) rfl
    have ea : ∀ j, (⟨k, 0, none⟩ : Addr).add j = ⟨k, j, none⟩ := fun j => by unfold Addr.add; split <;> simp_all
    refine ⟨k, 0, rfl, Blk.lt (t := 79) h3, fun i hi => ?_⟩
    rw [List.length_map] at hi
    obtain ⟨g0, g1, g2, g3, g4⟩ := rowC_get r i hi
    have c0 := hc _ _ g0
    have c1 := hc _ _ g1
    have c2 := hc _ _ g2
    have c3 := hc _ _ g3
    have c4 := hc _ _ g4
    rw [ea] at c0 c1 c2 c3 c4
    simp only [Nat.zero_add, List.getElem_map]
    exact ⟨r[i].2.1, r[i].2.2, hr _ (List.getElem_mem hi), c0, c1, c2, c3, c4⟩
def GivesSL (r : List Sd × Int) (w : World) (e : Ending) (w' : World) : Prop :=
  ∃ A c, e = .returned (.tuple #[.slice A r.1.length c, .int .i64 r.2]) ∧ SL w' w'.heap.size A r.1 ∧ Below w.heap.size w w'
end
section
open Go.RowKit
def GivesOpen : Option (List UInt8) → World → Ending → World → Prop
  | some M, w, e, w' => GivesBytes M w e w'
  | none, w, e, w' => e = .returned (.tuple #[.slice none 0 0, .int .i64 12]) ∧ Below w.heap.size w w'
theorem open_short (N : Nat) (A : Option Addr) (c : Nat) (w : World) (hl : N < 4) :
    Calls Try.prog 52 #[.slice A N c] w (GivesOpen none w) := by
  have hd2 : decide ((N : Int) - 4 < 0) = true := by simp; omega
  go_enter Try.func52, Try.ntmps52
  go_wp2
  go_quiet (fail)
  go_wp2
  go_ret2
  exact ⟨rfl, ⟨rfl, rfl, rfl, Nat.le_refl _, fun _ _ => rfl⟩⟩
theorem open_core (n : Nat) (A : Option Addr) (c : Nat) (P Q : List UInt8) (w : World) (hc : n + 4 ≤ c) (hcap : c ≤ 9223372036854775807) (b : Bool) (R : World → Ending → World → Prop)
    (HS : Hid (∀ W, Below w.heap.size w W → Calls Try.prog 69 #[.slice A n c] W fun e w' => e = .returned (.int .u32 (sumL P : Int)) ∧ W = w'))
    (HB : Hid (∀ W, Calls Try.prog 68 #[.int .u32 (sumL P : Int)] W (GivesOne Q W)))
    (HE : Hid (∀ W C d, Below w.heap.size w W → RB W W.heap.size C Q → Calls Try.prog 67 #[.slice (Option.map (fun x => x.add n) A) 4 (c - n), .slice C Q.length d] W fun e w' => e = .returned (.bool b) ∧ W = w'))
    (HC : Hid (∀ W, Below w.heap.size w W → Calls Try.prog 70 #[.slice A n c] W (GivesOne P W)))
    (HR : Hid (b = true → ∀ e w', GivesBytes P w e w' → R w e w')) (HR2 : Hid (b = false → ∀ w', Below w.heap.size w w' → R w (.returned (.tuple #[.slice none 0 0, .int .i64 12])) w')) :
    Calls Try.prog 52 #[.slice A (n + 4) c] w (R w) := by
  have hd2 : decide ((n : Int) < 0) = false := by simp
  have hn4 : (n : Int) ≤ (n : Int) + 4 := by omega
  have hnc : (n : Int) ≤ (c : Int) := by omega
  have hcn : ¬ c = n := by omega
  rcases b with _ | _
  all_goals
    go_enter Try.func52, Try.ntmps52
    go_wp2
    refine wp_region_any (by kernel_rfl) ?_
    change wpAny _ _ _ _ _ _ _ (World.drew _)
    refine wpAny_take (i := 0) (v := ?_) rfl (by kernel_rfl) (by kernel_rfl) (by kernel_rfl) (fun _ _ _ h => h) (Or.inl ⟨by kernel_rfl, ?_⟩) ?_
    rotate_left
    · intro w; go_simp; with_reducible rfl
    rotate_left
    refine wpAny_take (i := 1) (v := ?_) rfl (by kernel_rfl) (by kernel_rfl) (by kernel_rfl) (fun _ _ _ h => h) (Or.inl ⟨by kernel_rfl, ?_⟩) ?_
    rotate_left
    · intro w; go_simp; with_reducible rfl
    rotate_left
    refine wpAny_take (i := 2) (v := ?_) rfl (by kernel_rfl) (by kernel_rfl) (by kernel_rfl) (fun _ _ _ h => h) (Or.inl ⟨by kernel_rfl, ?_⟩) ?_
    rotate_left
    · intro w; go_simp; with_reducible rfl
    rotate_left
    refine wpAny_take (i := 3) (v := ?_) rfl (by kernel_rfl) (by kernel_rfl) (by kernel_rfl) (fun _ _ _ h => h) (Or.inl ⟨by kernel_rfl, ?_⟩) ?_
    rotate_left
    · intro w; go_simp; with_reducible rfl
    rotate_left
    refine wpAny_take (i := 4) (v := ?_) rfl (by kernel_rfl) (by kernel_rfl) (by kernel_rfl) (fun _ _ _ h => h) (Or.inl ⟨by kernel_rfl, ?_⟩) ?_
    rotate_left
    · intro w; go_simp; with_reducible rfl
    rotate_left
    refine wpAny_take (i := 5) (v := ?_) rfl (by kernel_rfl) (by kernel_rfl) (by kernel_rfl) (fun _ _ _ h => h) (Or.inl ⟨by kernel_rfl, ?_⟩) ?_
    rotate_left
    · intro w; go_simp; with_reducible rfl
    rotate_left
    refine wpAny_take (i := 6) (v := ?_) rfl (by kernel_rfl) (by kernel_rfl) (by kernel_rfl) (fun _ _ _ h => h) (Or.inl ⟨by kernel_rfl, ?_⟩) ?_
    rotate_left
    · intro w; go_simp; with_reducible rfl
    rotate_left
    refine wpAny_take (i := 7) (v := ?_) rfl (by kernel_rfl) (by kernel_rfl) (by kernel_rfl) (fun _ _ _ h => h) (Or.inl ⟨by kernel_rfl, ?_⟩) ?_
    rotate_left
    · intro w; go_simp; with_reducible rfl
    rotate_left
    refine wpAny_take (i := 8) (v := ?_) rfl (by kernel_rfl) (by kernel_rfl) (by kernel_rfl) (fun _ _ _ h => h) (Or.inl ⟨by kernel_rfl, ?_⟩) ?_
    rotate_left
    · intro w; go_simp; with_reducible rfl
    rotate_left
    refine wpAny_tail 9 (by kernel_rfl) (by kernel_rfl) ?_
    simp only [List.drop_succ_cons, List.drop_zero]
    go_wp2_with (first
      | (go_at_call 69; (with_reducible refine (HS.out _ (Below.refl _ _).drew).mono ?_); rintro e w' ⟨rfl, rfl⟩)
      | (go_at_call 68; (with_reducible refine (HB.out _).mono ?_); rintro e w1 ⟨A1, c1, rfl, ho1, hb1⟩; have hb2 : Below w.heap.size w w1 := below_drew hb1)
      | (go_at_call 67; (with_reducible refine (HE.out _ _ _ hb2 (own_rb ho1)).mono ?_); rintro e w' ⟨rfl, rfl⟩)
      | (go_at_call 70; (with_reducible refine (HC.out _ hb2).mono ?_); rintro e w2 ⟨A2, c2, rfl, ho2, hb3⟩))
  · exact HR2.out (by trivial) _ hb2
  · have ho3 : Own w2 w.heap.size A2 P c2 := Joins.ownsRow_le ho2 hb2.size
    have hb4 := hb2.trans (hb3.mono hb2.size)
    exact HR.out (by trivial) _ _ ⟨A2, c2, rfl, ho3, hb4⟩
theorem open_any (L : List UInt8) (A : Option Addr) (c B : Nat) (w : World) (hr : RB w B A L) (hlc : L.length ≤ c) (hc : c ≤ 9223372036854775807) (hl : L.length ≤ 1048576) :
    Calls Try.prog 52 #[.slice A L.length c] w (GivesOpen (openL L) w) := by
  have hr := rb_lt hr
  by_cases h4 : L.length < 4
  · have e : openL L = none := by unfold openL; rw [if_neg (by omega)]
    rw [e]
    exact open_short _ A c w h4
  · obtain ⟨n, hn⟩ : ∃ n, n = L.length - 4 := ⟨_, rfl⟩
    have hn4 : L.length = n + 4 := by omega
    have hp : (L.take n).length = n := by rw [List.length_take]; omega
    have hd : (L.drop n).length = 4 := by rw [List.length_drop]; omega
    have hrp : RB w w.heap.size A (L.take n) := rb_take hr n (by omega)
    have hrd : RB w w.heap.size (A.map (fun x => x.add n)) (L.drop n) := rb_cut1 hr (by omega) hlc (by omega)
    have hop : openL L = if L.drop n = le4 (sumL (L.take n)) then some (L.take n) else none := by
      unfold openL sealL
      rw [← hn]
      have hx : (L.take n ++ le4 (sumL (L.take n)) = L) ↔ (L.drop n = le4 (sumL (L.take n))) := by
        conv => lhs; rhs; rw [← List.take_append_drop n L]
        rw [List.append_cancel_left_eq]
        exact ⟨Eq.symm, Eq.symm⟩
      by_cases hy : L.drop n = le4 (sumL (L.take n))
      · rw [if_pos ⟨by omega, hx.2 hy⟩, if_pos hy]
      · rw [if_neg (fun h => hy (hx.1 h.2)), if_neg hy]
    rw [hn4]
    refine open_core n A c (L.take n) (le4 (sumL (L.take n))) w (by omega) hc (decide (L.drop n = le4 (sumL (L.take n)))) (GivesOpen (openL L)) (fun W hb => ?_) (fun W => ?_) (fun W C d hb hC => ?_) (fun W hb => ?_) (fun hb e w' h => ?_) (fun hb w' h => ?_)
    · have := sum_any (L.take n) A c _ W (hrp.below hb) (by omega)
      rwa [hp] at this
    · exact sumBytes_any _ W (sumL_lt _)
    · have := equal_any (L.drop n) (le4 (sumL (L.take n))) (A.map (fun x => x.add n)) C (c - n) d _ _ W (hrd.below hb) hC
      rwa [hd] at this
    · have := clone_any (L.take n) A c _ W (hrp.below hb) (by omega)
      rwa [hp] at this
    · rw [hop, if_pos (by simpa using hb)]
      exact h
    · rw [hop, if_neg (by simpa using hb)]
      exact ⟨rfl, h⟩
end
end Go.Proofs.Ytghenhacndaelaa
