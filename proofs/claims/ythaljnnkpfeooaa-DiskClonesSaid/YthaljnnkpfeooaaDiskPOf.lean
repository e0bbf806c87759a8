/- The walks of the program's of, Load, Blank, Stop, Image, Safe, Read (layer 6). -/
import Derived.Test.YthaljnnkpfeooaaDiskPSmall
import Derived.Test.YthaljnnkpfeooaaDiskMore
import Derived.Test.YthaljnnkpfeooaaLetters
set_option linter.unusedVariables false
namespace Go.Proofs.Ythaljnnkpfeooaa
open Go.RowKit

/-- A call that gives a disk of its own, and no error; or one alone. -/
def GivesDisk (D : Dk) (w w' : World) (g : Nat) (F : Nat → Prop) : Prop := PDisk w' g F D ∧ Below w.heap.size w w' ∧ ∀ k, F k → w.heap.size ≤ k

theorem Try.builtDisk (v u : Value) (a b n ca cb : Nat) (hv : v = .slice (some ⟨a, 0, none⟩) n ca) (hu : u = .slice (some ⟨b, 0, none⟩) n cb) : Try.prog.built 75 [(0, v), (1, u)] = some #[.slice (some ⟨a, 0, none⟩) n ca, .slice (some ⟨b, 0, none⟩) n cb, .slice none 0 0, .bool false, .bool false, .int .i64 0, .int .i64 0, .int .i64 0, .int .i64 0] := by
  subst hv hu
  kernel_rfl
/-- What a new disk's cells are is a disk. -/
theorem newDisk {w0 w1 w2 w3 : World} {L : List UInt8} {a b ca cb m g : Nat} (hm : L.length = 256 * m) (hf : 16 ≤ m) (hm2 : m ≤ 1024) (h1 : Arr w1 a L) (ha : w0.heap.size ≤ a) (hb1 : Below w0.heap.size w0 w1) (hca : L.length ≤ ca ∧ ca ≤ 9223372036854775807)
    (h2 : Arr w2 b L) (hb : w1.heap.size ≤ b) (hb2 : Below w1.heap.size w1 w2) (hcb : L.length ≤ cb ∧ cb ≤ 9223372036854775807)
    (hw : Hid (w3 = w2.alloc (.cells #[.slice (some ⟨a, 0, none⟩) L.length ca, .slice (some ⟨b, 0, none⟩) L.length cb, .slice none 0 0, .bool false, .bool false, .int .i64 0, .int .i64 0, .int .i64 0, .int .i64 0] 75))) (hg : Hid (g = w2.heap.size)) :
    GivesDisk (Dk.ofImage L) w0 w3 g (fun k => k = g ∨ k = a ∨ k = b) := by
  have e1 : L.length / 256 = m := by omega
  have hl : (Dk.ofImage L).safe = Dk.chunks m L := by unfold Dk.ofImage; rw [e1]
  have hfl : (Dk.ofImage L).safe.flatten = L := by rw [hl]; exact Dk.chunks_flatten m L hm
  have hlt1 := h1.lt
  have hlt2 := h2.lt
  have hs1 := hb1.size
  have hs2 := hb2.size
  have hs3 := letter_size hw
  have hg' := hg.out
  have hb3 : Below w2.heap.size w2 w3 := letter_below hw (Below.refl _ _) (Nat.le_refl _)
  refine ⟨⟨a, ca, b, cb, L.length, .slice none 0 0, false, 0, ?_⟩, (hb1.trans (hb2.mono hs1)).trans (hb3.mono (by omega)), fun k hk => by rcases hk with rfl | rfl | rfl <;> omega⟩
  refine ⟨letter_blk hw hg, ?_, hca, hcb, ?_, ?_, World.ownsRow_nil _ _ _ _, by omega, .inl rfl, .inr (.inl rfl), .inr (.inr rfl), fun k hk => by simp [Value.ownBlock] at hk, fun k hk => by rcases hk with rfl | rfl | rfl <;> omega, ?_, fun _ => rfl, fun _ h => absurd h (by show ¬ (0 : Int) ≤ -1; omega)⟩
  · rw [hl, Dk.chunks_length]; exact hm
  · rw [hfl]
    exact (h1.turns (Turns.of_below hb2 (fun _ => False)) (fun h => h)).turns (Turns.of_below hb3 (fun _ => False)) (fun h => h)
  · rw [Dk.image_calm _ rfl, hfl]
    exact h2.turns (Turns.of_below hb3 (fun _ => False)) (fun h => h)
  · refine ⟨⟨?_, fun x hx => by cases hx⟩, by rw [hl, Dk.chunks_length]; exact hf, by rw [hl, Dk.chunks_length]; exact hm2, ⟨Int.le_refl _, by show (-1 : Int) ≤ _; omega⟩⟩
    rw [hl]; exact Dk.chunks_fit m L hm

set_option maxRecDepth 100000 in
set_option maxHeartbeats 1000000 in
theorem of_any (L : List UInt8) (m : Nat) (A : Option Addr) (n c : Nat) (w : World) (hr : RB w w.heap.size A L) (hn : n = L.length) (hm : L.length = 256 * m) (hf : 16 ≤ m) (hm2 : m ≤ 1024) :
    Calls Try.prog 31 #[.slice A n c] w fun e w' => ∃ g F, e = .returned (.pointer (some ⟨g, 0, none⟩)) ∧ GivesDisk (Dk.ofImage L) w w' g F := by
  subst hn
  have HM : Hid (L.length = 256 * m ∧ 16 ≤ m ∧ m ≤ 1024) := ⟨hm, hf, hm2⟩
  have HC := Lib.hid (sclone_any L A c _ w hr (by omega))
  have HC2 : Hid (∀ w1, Below w.heap.size w w1 → Calls Try.prog 42 #[.slice A L.length c] w1 (GivesOne L w1)) := fun w1 hb => sclone_any L A c _ w1 (hr.below hb) (by omega)
  have u0 : 0 < L.length := by omega
  clear hr hm hf hm2
  go_enter Try.func31, Try.ntmps31
  go_wp2_with (first
    | (go_at_call 42; (with_reducible refine HC.out.mono ?_); rintro e w1 ⟨A1, c1, rfl, ho1, hb1⟩; obtain ⟨a, rfl, hA1, hl1, hm1, hg1⟩ := own_arr ho1 u0; clear HC)
    | (go_at_call 42; (with_reducible refine (HC2.out w1 hb1).mono ?_); rintro e w2 ⟨A2, c2, rfl, ho2, hb2⟩; obtain ⟨b, rfl, hA2, hl2, hm2, hg2⟩ := own_arr ho2 u0)
    | (refine wpList_buildTo rfl 75 _ rfl (some 7) rfl _ (Try.builtDisk _ _ a b L.length c1 c2 rfl rfl) ?_)
    | (refine wpList_box_letter rfl 75 _ rfl (some 8) rfl _ rfl ?_; intro g3 w3 hw3 hg3))
  go_ret
  exact ⟨g3, _, rfl, newDisk HM.out.1 HM.out.2.1 HM.out.2.2 hA1 hg1 hb1 ⟨hl1, hm1⟩ hA2 hg2 hb2 ⟨hl2, hm2⟩ hw3 hg3⟩

set_option maxRecDepth 100000 in
set_option maxHeartbeats 1000000 in
theorem load_any (L : List UInt8) (A : Option Addr) (c : Nat) (w : World) (hr : RB w w.heap.size A L) (hm : Dk.mayL L) :
    Calls Try.prog 15 #[.slice A L.length c] w fun e w' => ∃ g F, e = .returned (.tuple #[.pointer (some ⟨g, 0, none⟩), .int .i64 0]) ∧ GivesDisk (Dk.ofImage L) w w' g F := by
  obtain ⟨h1, h2, h3⟩ := hm
  obtain ⟨n, hn⟩ : ∃ n, n = L.length := ⟨_, rfl⟩
  rw [← hn] at h1 h2 h3 ⊢
  obtain ⟨m, hm⟩ : ∃ m, m = n / 256 := ⟨_, rfl⟩
  have HO := Lib.hid (of_any L m A n c w hr hn (by omega) (by omega) (by omega))
  have HF : Hid (∀ W, Calls Try.prog 30 #[.int .i64 (m : Int)] W fun e w' => e = .returned (.bool true) ∧ W = w') := fun W => by
    have := fits_any (m : Int) W
    rwa [decide_eq_true (by omega)] at this
  have n0 := fun w' => Try.notTrue w'
  have n1 := fun w' => Try.notFalse w'
  have u0 : (0 : Int) ≤ (n : Int) := by omega
  have u1 : (n : Int) ≤ 1000000 := by omega
  have e1 : (n : Int) % 256 = 0 := by omega
  have e2 : (n : Int).tmod 256 = 0 := by rw [Int.tmod_eq_emod_of_nonneg u0]; exact e1
  have e3 : (n : Int) / 256 = (m : Int) := by omega
  have e4 : (n : Int).tdiv 256 = (m : Int) := by rw [Int.tdiv_eq_ediv_of_nonneg u0]; exact e3
  clear hn hm hr h1 h2 h3
  go_enter Try.func15, Try.ntmps15
  go_wp2_with (first
    | (go_at_call 30; (with_reducible refine (HF.out _).mono ?_); rintro e w1 ⟨rfl, rfl⟩)
    | (go_at_call 31; (with_reducible refine HO.out.mono ?_); rintro e w1 ⟨g, F, rfl, hG⟩))
  go_ret2
  exact ⟨g, F, rfl, hG⟩
set_option maxRecDepth 100000 in
theorem load_bad (L : List UInt8) (A : Option Addr) (n c : Nat) (w : World) (hn : n = L.length) (hl : n ≤ 9223372036854775807) (hm : ¬ Dk.mayL L) :
    Calls Try.prog 15 #[.slice A n c] w fun e w' => e = .returned (.tuple #[.pointer none, .int .i64 11]) ∧ w = w' := by
  unfold Dk.mayL at hm
  rw [← hn] at hm
  have n0 := fun w' => Try.notTrue w'
  have n1 := fun w' => Try.notFalse w'
  obtain ⟨m, hmm⟩ : ∃ m, m = n / 256 := ⟨_, rfl⟩
  obtain ⟨r, hr⟩ : ∃ r, r = n % 256 := ⟨_, rfl⟩
  have u0 : (0 : Int) ≤ (n : Int) := by omega
  have u1 : (n : Int) ≤ 9223372036854775807 := by omega
  have e1 : (n : Int) % 256 = (r : Int) := by omega
  have e2 : (n : Int).tmod 256 = (r : Int) := by rw [Int.tmod_eq_emod_of_nonneg u0]; exact e1
  have e3 : (n : Int) / 256 = (m : Int) := by omega
  have e4 : (n : Int).tdiv 256 = (m : Int) := by rw [Int.tdiv_eq_ediv_of_nonneg u0]; exact e3
  have hc : ¬ (r = 0) ∨ (r = 0 ∧ ¬ (16 ≤ m ∧ m ≤ 1024)) := by omega
  clear hn hm hmm hr
  rcases hc with h | ⟨rfl, h⟩
  · have d0 : (((r : Int) != 0)) = true := by simp; omega
    go_enter Try.func15, Try.ntmps15
    go_wp2
    go_ret2
    exact ⟨rfl, rfl⟩
  · have HF : Hid (∀ W, Calls Try.prog 30 #[.int .i64 (m : Int)] W fun e w' => e = .returned (.bool false) ∧ W = w') := fun W => by
      have := fits_any (m : Int) W
      rwa [decide_eq_false (by omega)] at this
    clear h
    go_enter Try.func15, Try.ntmps15
    go_wp2_with (go_at_call 30; (with_reducible refine (HF.out _).mono ?_); rintro e w1 ⟨rfl, rfl⟩)
    go_ret2
    exact ⟨rfl, rfl⟩

set_option maxRecDepth 100000 in
set_option maxHeartbeats 1000000 in
theorem blank_any (m : Nat) (w : World) (h1 : 16 ≤ m) (h2 : m ≤ 1024) :
    Calls Try.prog 10 #[.int .i64 (m : Int)] w fun e w' => ∃ g F, e = .returned (.tuple #[.pointer (some ⟨g, 0, none⟩), .int .i64 0]) ∧ GivesDisk (Dk.blank m) w w' g F := by
  obtain ⟨i0, hi0, hz0, hz1, hz2⟩ := info_parts Try.info5
  have hby : i0.bytes = 1 := hz2
  have HF : Hid (∀ W, Calls Try.prog 30 #[.int .i64 (m : Int)] W fun e w' => e = .returned (.bool true) ∧ W = w') := fun W => by
    have := fits_any (m : Int) W
    rwa [decide_eq_true (by omega)] at this
  obtain ⟨n, hn⟩ : ∃ n, n = 256 * m := ⟨_, rfl⟩
  have HN := Lib.hid hn
  have n0 := fun w' => Try.notTrue w'
  have e1 : (m : Int) * 256 = (n : Int) := by omega
  have u0 : (0 : Int) ≤ (n : Int) := by omega
  have u1 : n ≤ 1000000 := by omega
  have u4 : IntKind.i64.wrap (n : Int) = (n : Int) := IntWalk.i64_in _ (by omega)
  have HO : Hid (∀ W A, RB W W.heap.size A (List.replicate n 0) → Calls Try.prog 31 #[.slice A n n] W fun e w' => ∃ g F, e = .returned (.pointer (some ⟨g, 0, none⟩)) ∧ GivesDisk (Dk.blank m) W w' g F) := fun W A hr => by
    have h := of_any (List.replicate n 0) m A n n W hr (by simp) (by simp [hn]) h1 h2
    rw [hn] at h ⊢
    rwa [Dk.ofImage_zero] at h
  clear hn h1 h2
  go_enter Try.func10, Try.ntmps10
  go_wp2_with (first
    | (go_at_call 30; (with_reducible refine (HF.out _).mono ?_); rintro e w1 ⟨rfl, rfl⟩)
    | (at_make; refine wpList_make_full _ rfl _ _ 33 rfl w.heap.size 5 i0 _ 1 Try.underlying33 hi0 hz0 hz1 .i64 .i64 _ _ n rfl rfl rfl rfl (by rw [hby]; omega) (by unfold maxLen; omega) (Nat.le_refl _) ?_; intro w2 ho2 hg2)
    | (go_at_call 31; (with_reducible refine (HO.out _ _ (made_rb ho2)).mono ?_); rintro e w3 ⟨g, F, rfl, hG⟩))
  go_ret2
  have b2 : Below w.heap.size w w2 := (Below.refl _ _).grown hg2 (Nat.le_refl _) (by simp)
  exact ⟨g, F, rfl, hG.1, b2.trans (hG.2.1.mono b2.size), fun k hk => Nat.le_trans b2.size (hG.2.2 k hk)⟩
set_option maxRecDepth 100000 in
theorem blank_bad (i : Int) (w : World) (h : i < 16 ∨ 1024 < i) :
    Calls Try.prog 10 #[.int .i64 i] w fun e w' => e = .returned (.tuple #[.pointer none, .int .i64 1]) ∧ w = w' := by
  have HF : Hid (∀ W, Calls Try.prog 30 #[.int .i64 i] W fun e w' => e = .returned (.bool false) ∧ W = w') := fun W => by
    have := fits_any i W
    rwa [decide_eq_false (by omega)] at this
  have n0 := fun w' => Try.notFalse w'
  clear h
  go_enter Try.func10, Try.ntmps10
  go_wp2_with (go_at_call 30; (with_reducible refine (HF.out _).mono ?_); rintro e w1 ⟨rfl, rfl⟩)
  go_ret2
  exact ⟨rfl, rfl⟩

end Go.Proofs.Ythaljnnkpfeooaa
