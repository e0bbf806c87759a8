/- Lemmas under the proofs of this place: SortZ, DiskPOf, CellPMay, CrcRSeal. No statement is proved here. -/
import Derived.Test.YtonnkibcnhjelaaGreatDoorBu00
import Derived.Test.YtonnkibcnhjelaaGreatDoorBu03
import Derived.Test.YtonnkibcnhjelaaGreatDoorBu06
import Derived.Test.YtonnkibcnhjelaaGreatDoorBu09
import Derived.Test.YtonnkibcnhjelaaGreatDoorBu02
import Derived.Test.YtonnkibcnhjelaaGreatDoorBu05
import Derived.Test.YtonnkibcnhjelaaGreatDoorBu12
import Derived.Test.YtonnkibcnhjelaaGreatDoorBu13
import Derived.Sort.EveryDepth
import Derived.Sort.Grow
import Derived.Lib.OwnBridge
import Derived.Lib.SortBridge
section
set_option linter.unusedVariables false
set_option linter.unusedSimpArgs false
namespace Go.Proofs.YtonnkibcnhjelaaGreatDoor
open Go.RowKit Go.Sort
def sortZ (K : List Int) : List Int := K.mergeSort fun x y => decide (x ≤ y)
theorem sortZ_length (K : List Int) : (sortZ K).length = K.length := List.length_mergeSort K
theorem sortZ_perm (K : List Int) : List.Perm (sortZ K) K := List.mergeSort_perm K _
theorem sortZ_up (K : List Int) : (sortZ K).Pairwise fun a b => a ≤ b := by
  have h := List.pairwise_mergeSort (le := fun x y : Int => decide (x ≤ y)) (fun a b c h1 h2 => by simp only [decide_eq_true_eq] at h1 h2 ⊢; omega) (fun a b => by simp only [Bool.or_eq_true, decide_eq_true_eq]; omega) K
  exact h.imp fun h => by simpa using h
theorem below_grow {B : Nat} {w0 w : World} (h : Below B w0 w) (hB : B ≤ w.heap.size) (os : Array Obj) : Below B w0 (grow w os) :=
  ⟨h.os, h.tape, h.output, by rw [size_grow]; have := h.size; omega, fun k hk => by rw [heap_grow_old w os (by omega)]; exact h.block k hk⟩
theorem zcells_enc (K : List Int) : zcells K = K.map (Value.int .i64) := rfl
theorem sortZ_own {w : World} {base n c : Nat} {A : Option Addr} {K : List Int} (h : w.ownsRow base 3 1 (.slice A n c) n (zcells K)) (hn : n ≤ 1000000) (hbs : base ≤ w.heap.size) :
    Calls Tryz.prog 63 #[.slice A n c] w fun e w' => e = .returned (.tuple #[]) ∧ RI w' w'.heap.size A (sortZ K) ∧ Below base w w' := by
  have hl : n = K.length := by have := h.1; rw [zcells_length] at this; omega
  by_cases h0 : n = 0
  · subst h0
    obtain rfl : K = [] := List.eq_nil_of_length_eq_zero hl.symm
    refine (Calls.mono (calls_of_every_depth fun D => AnyS.slices_Sort_int_none_in Tryz.laysSortZ D A c w) ?_)
    rintro e w' ⟨rfl, rfl⟩
    exact ⟨rfl, fun hh => absurd hh (by simp [sortZ]), Below.refl _ _⟩
  · have hv : Value.slice A n c ≠ .slice none 0 0 := fun e => by injection e with _ e2 _; exact h0 e2
    rw [zcells_enc] at h
    obtain ⟨g, cap, he, hbg, hgl, hncap, hcm, hlen, hH⟩ := Lib.holds_of_ownsRow h hv
    injection he with e1 e2 e3
    subst e1 e3
    have hs := Calls.mono (calls_of_every_depth fun D => AnyS.slices_Sort_int_in Tryz.laysSortZ D g 0 c K w hH hgl (by omega)) (R' := fun e w' => e = .returned (.tuple #[]) ∧ RI w' w'.heap.size (some ⟨g, 0, none⟩) (sortZ K) ∧ Below base w w') ?_
    · rw [hl]; exact hs
    · rintro e w' ⟨rfl, nn, os, rfl⟩
      have hsz : (putRow (Value.int .i64) (Sort.ahead w nn) g 0 (K.mergeSort fun x y => decide (x ≤ y)).toArray).heap.size = w.heap.size := by simp [putRow, mapBlock, Sort.ahead]
      have hc : ∀ j, j < K.length → w.cell? ⟨g, 0 + j, none⟩ = some (.int .i64 (K.getD j 0)) := fun j hj => by
        have := (hH j (by simpa using hj)).1
        simp only [Nat.zero_add] at this ⊢
        rw [this]
        simp [getElem!_pos, List.getD_eq_getElem?_getD, hj]
      refine ⟨rfl, fun hh => ⟨g, 0, rfl, by rw [size_grow, hsz]; omega, fun k hk => ?_⟩, below_grow (Lib.below_putRow (Below.refl _ _) hbg) (by rw [hsz]; exact hbs) os⟩
      have hk' : k < K.length := by rw [← sortZ_length K]; exact hk
      have h2 := Lib.cells_sorted_ints (W := w) (b := g) (off := 0) (q := nn) (n := K.length) (zs := K) (ys := sortZ K) (os := os) (Nat.le_refl _) (sortZ_length K) hc k (by simp [sortZ_length]; omega)
      rw [← Lib.sorted_world (Value.int .i64) w g 0 nn K.toArray (sortZ K) os hH (by simp [sortZ_length])] at h2
      simp only [Nat.zero_add] at h2 ⊢
      rw [show (K.mergeSort fun x y => decide (x ≤ y)) = sortZ K from rfl, h2]
      simp [List.getD_eq_getElem?_getD, List.getElem?_append, hk]
set_option maxRecDepth 100000 in
set_option maxHeartbeats 2000000 in
theorem cloneZ_any (K : List Int) (A : Option Addr) (n c : Nat) (w : World) (hn : n = K.length) (hA : RI w w.heap.size A K) (hl : n ≤ 1000000) :
    Calls Tryz.prog 62 #[.slice A n c] w fun e w' => ∃ A' c', e = .returned (.slice A' n c') ∧ w'.ownsRow w.heap.size 3 1 (.slice A' n c') n (zcells K) ∧ Below w.heap.size w w' := by
  obtain ⟨i0, hi0, hz0, hz1, hz2⟩ := info_parts Tryz.infoZ
  have hR : Reads w w.heap.size 1 A n (zcells K) := by
    have h2 := hA.rz
    unfold RZ at h2
    rwa [← hn] at h2
  have HK := Lib.hid hn
  cases A with
  | none =>
    have h0 : n = 0 := by
      rcases Nat.eq_zero_or_pos n with h | h
      · exact h
      · obtain ⟨b, off, e, _⟩ := hA (by omega)
        cases e
    have hn1 : (binOp .eql 38 (.slice none n c) (.slice none 0 0)).run Tryz.prog w = .ok (.bool true) w := Lib.run_eql_slice_nil w 38 3 none n c 0 0 Tryz.underlying38
    have H0 := Lib.hid h0
    clear hA hn h0 hR
    go_enter Tryz.func62, Tryz.ntmps62
    go_wp2
    go_ret
    have h0 := H0.out
    subst h0
    obtain rfl : K = [] := List.eq_nil_of_length_eq_zero HK.out.symm
    exact ⟨none, 0, rfl, World.ownsRow_nil _ _ _ _, Below.refl _ _⟩
  | some a =>
    have hn1 : (binOp .eql 38 (.slice (some a) n c) (.slice none 0 0)).run Tryz.prog w = .ok (.bool false) w := Lib.run_eql_slice_nil w 38 3 (some a) n c 0 0 Tryz.underlying38
    clear hA hn
    go_enter Tryz.func62, Tryz.ntmps62
    go_wp2_with (at_builtin; refine wpList_append_any _ rfl (.tmp 5) (.tmp 6) _ rfl w.heap.size 3 i0 _ 1 8 Tryz.underlying38 hi0 hz0 hz1 hz2 rfl (by omega) (.slice (some ⟨w.heap.size, 0, none⟩) 0 0) 0 [] rfl (World.ownsRow_made w #[] 0 (Nat.le_refl _) (by decide) rfl) w.heap.size (some a) n c (zcells K) rfl (hR.alloc (Nat.le_refl _) _) (zcells_one _) (by simp only [maxLen]; omega) (by omega) (by simp) ?_; intro v5 w5 ho5 hg5 hat5; obtain ⟨A5, c5, rfl⟩ := own_slice7 ho5; simp only [Nat.zero_add, List.nil_append] at ho5)
    have hb5 : Below w.heap.size w w5 := ((Below.refl _ _).alloc (Nat.le_refl _) _).grown hg5 (by simp) (fun j hj => by simp [Value.ownBlock] at hj; omega)
    go_ret
    exact ⟨A5, c5, by simp, ho5, hb5⟩
end Go.Proofs.YtonnkibcnhjelaaGreatDoor
end
section
set_option linter.unusedVariables false
namespace Go.Proofs.YtonnkibcnhjelaaGreatDoor
open Go.RowKit
def GivesDisk (D : Dk) (w w' : World) (g : Nat) (F : Nat → Prop) : Prop := PDisk w' g F D ∧ Below w.heap.size w w' ∧ ∀ k, F k → w.heap.size ≤ k
theorem Tryz.builtDisk (v u : Value) (a b n ca cb : Nat) (hv : v = .slice (some ⟨a, 0, none⟩) n ca) (hu : u = .slice (some ⟨b, 0, none⟩) n cb) : Tryz.prog.built 85 [(0, v), (1, u)] = some #[.slice (some ⟨a, 0, none⟩) n ca, .slice (some ⟨b, 0, none⟩) n cb, .slice none 0 0, .bool false, .bool false, .int .i64 0, .int .i64 0, .int .i64 0, .int .i64 0] := by
  subst hv hu
  kernel_rfl
theorem newDisk {w0 w1 w2 w3 : World} {L : List UInt8} {a b ca cb m g : Nat} (hm : L.length = 256 * m) (hf : 16 ≤ m) (hm2 : m ≤ 1024) (h1 : Arr w1 a L) (ha : w0.heap.size ≤ a) (hb1 : Below w0.heap.size w0 w1) (hca : L.length ≤ ca ∧ ca ≤ 9223372036854775807)
    (h2 : Arr w2 b L) (hb : w1.heap.size ≤ b) (hb2 : Below w1.heap.size w1 w2) (hcb : L.length ≤ cb ∧ cb ≤ 9223372036854775807)
    (hw : Hid (w3 = w2.alloc (.cells #[.slice (some ⟨a, 0, none⟩) L.length ca, .slice (some ⟨b, 0, none⟩) L.length cb, .slice none 0 0, .bool false, .bool false, .int .i64 0, .int .i64 0, .int .i64 0, .int .i64 0] 85))) (hg : Hid (g = w2.heap.size)) :
    GivesDisk (Dk.ofImage L) w0 w3 g (fun k => k = g ∨ k = a ∨ k = b) := by
  have e1 : L.length / 256 = m := by omega
  have hl : (Dk.ofImage L).safe = Dk.chunks m L := by unfold Dk.ofImage; rw [e1]
  have hfl : (Dk.ofImage L).safe.flatten = L := by rw [hl]; exact Dk.chunks_flatten m L hm
  have hlt1 := h1.lt
  have hlt2 := h2.lt
  have hs1 := hb1.size
  have hs2 := hb2.size
  have hs3 := letter_size hw
  have hg' := hg.out
  have hb3 : Below w2.heap.size w2 w3 := letter_below hw (Below.refl _ _) (Nat.le_refl _)
  refine ⟨⟨a, ca, b, cb, L.length, .slice none 0 0, false, 0, ?_⟩, (hb1.trans (hb2.mono hs1)).trans (hb3.mono (by omega)), fun k hk => by rcases hk with rfl | rfl | rfl <;> omega⟩
  refine ⟨letter_blk hw hg, ?_, hca, hcb, ?_, ?_, World.ownsRow_nil _ _ _ _, by omega, .inl rfl, .inr (.inl rfl), .inr (.inr rfl), fun k hk => by simp [Value.ownBlock] at hk, fun k hk => by rcases hk with rfl | rfl | rfl <;> omega, ?_, fun _ => rfl, fun _ h => absurd h (by show ¬ (0 : Int) ≤ -1; omega)⟩
  · rw [hl, Dk.chunks_length]; exact hm
  · rw [hfl]
    exact (h1.turns (Turns.of_below hb2 (fun _ => False)) (fun h => h)).turns (Turns.of_below hb3 (fun _ => False)) (fun h => h)
  · rw [Dk.image_calm _ rfl, hfl]
    exact h2.turns (Turns.of_below hb3 (fun _ => False)) (fun h => h)
  · refine ⟨⟨?_, fun x hx => by cases hx⟩, by rw [hl, Dk.chunks_length]; exact hf, by rw [hl, Dk.chunks_length]; exact hm2, ⟨Int.le_refl _, by show (-1 : Int) ≤ _; omega⟩⟩
    rw [hl]; exact Dk.chunks_fit m L hm
set_option maxRecDepth 100000 in
set_option maxHeartbeats 1000000 in
theorem of_any (L : List UInt8) (m : Nat) (A : Option Addr) (n c : Nat) (w : World) (hr : RB w w.heap.size A L) (hn : n = L.length) (hm : L.length = 256 * m) (hf : 16 ≤ m) (hm2 : m ≤ 1024) :
    Calls Tryz.prog 19 #[.slice A n c] w fun e w' => ∃ g F, e = .returned (.pointer (some ⟨g, 0, none⟩)) ∧ GivesDisk (Dk.ofImage L) w w' g F := by
  subst hn
  have HM : Hid (L.length = 256 * m ∧ 16 ≤ m ∧ m ≤ 1024) := ⟨hm, hf, hm2⟩
  have HC := Lib.hid (sclone_any L A c _ w hr (by omega))
  have HC2 : Hid (∀ w1, Below w.heap.size w w1 → Calls Tryz.prog 52 #[.slice A L.length c] w1 (GivesOne L w1)) := fun w1 hb => sclone_any L A c _ w1 (hr.below hb) (by omega)
  have u0 : 0 < L.length := by omega
  clear hr hm hf hm2
  go_enter Tryz.func19, Tryz.ntmps19
  go_wp2_with (first
    | (go_at_call 52; (with_reducible refine HC.out.mono ?_); rintro e w1 ⟨A1, c1, rfl, ho1, hb1⟩; obtain ⟨a, rfl, hA1, hl1, hm1, hg1⟩ := own_arr ho1 u0; clear HC)
    | (go_at_call 52; (with_reducible refine (HC2.out w1 hb1).mono ?_); rintro e w2 ⟨A2, c2, rfl, ho2, hb2⟩; obtain ⟨b, rfl, hA2, hl2, hm2, hg2⟩ := own_arr ho2 u0)
    | (refine wpList_buildTo rfl 85 _ rfl (some 7) rfl _ (Tryz.builtDisk _ _ a b L.length c1 c2 rfl rfl) ?_)
    | (refine wpList_box_letter rfl 85 _ rfl (some 8) rfl _ rfl ?_; intro g3 w3 hw3 hg3))
  go_ret
  exact ⟨g3, _, rfl, newDisk HM.out.1 HM.out.2.1 HM.out.2.2 hA1 hg1 hb1 ⟨hl1, hm1⟩ hA2 hg2 hb2 ⟨hl2, hm2⟩ hw3 hg3⟩
set_option maxRecDepth 100000 in
set_option maxHeartbeats 1000000 in
theorem blank_any (m : Nat) (w : World) (h1 : 16 ≤ m) (h2 : m ≤ 1024) :
    Calls Tryz.prog 5 #[.int .i64 (m : Int)] w fun e w' => ∃ g F, e = .returned (.tuple #[.pointer (some ⟨g, 0, none⟩), .int .i64 0]) ∧ GivesDisk (Dk.blank m) w w' g F := by
  obtain ⟨i0, hi0, hz0, hz1, hz2⟩ := info_parts Tryz.info5
  have hby : i0.bytes = 1 := hz2
  have HF : Hid (∀ W, Calls Tryz.prog 18 #[.int .i64 (m : Int)] W fun e w' => e = .returned (.bool true) ∧ W = w') := fun W => by
    have := fits_any (m : Int) W
    rwa [decide_eq_true (by omega)] at this
  obtain ⟨n, hn⟩ : ∃ n, n = 256 * m := ⟨_, rfl⟩
  have HN := Lib.hid hn
  have n0 := fun w' => Tryz.notTrue w'
  have e1 : (m : Int) * 256 = (n : Int) := by omega
  have u0 : (0 : Int) ≤ (n : Int) := by omega
  have u1 : n ≤ 1000000 := by omega
  have u4 : IntKind.i64.wrap (n : Int) = (n : Int) := IntWalk.i64_in _ (by omega)
  have HO : Hid (∀ W A, RB W W.heap.size A (List.replicate n 0) → Calls Tryz.prog 19 #[.slice A n n] W fun e w' => ∃ g F, e = .returned (.pointer (some ⟨g, 0, none⟩)) ∧ GivesDisk (Dk.blank m) W w' g F) := fun W A hr => by
    have h := of_any (List.replicate n 0) m A n n W hr (by simp) (by simp [hn]) h1 h2
    rw [hn] at h ⊢
    rwa [Dk.ofImage_zero] at h
  clear hn h1 h2
  go_enter Tryz.func5, Tryz.ntmps5
  go_wp2_with (first
    | (go_at_call 18; (with_reducible refine (HF.out _).mono ?_); rintro e w1 ⟨rfl, rfl⟩)
    | (at_make; refine wpList_make_full _ rfl _ _ 39 rfl w.heap.size 5 i0 _ 1 Tryz.underlying39 hi0 hz0 hz1 .i64 .i64 _ _ n rfl rfl rfl rfl (by rw [hby]; omega) (by unfold maxLen; omega) (Nat.le_refl _) ?_; intro w2 ho2 hg2)
    | (go_at_call 19; (with_reducible refine (HO.out _ _ (made_rb ho2)).mono ?_); rintro e w3 ⟨g, F, rfl, hG⟩))
  go_ret2
  have b2 : Below w.heap.size w w2 := (Below.refl _ _).grown hg2 (Nat.le_refl _) (by simp)
  exact ⟨g, F, rfl, hG.1, b2.trans (hG.2.1.mono b2.size), fun k hk => Nat.le_trans b2.size (hG.2.2 k hk)⟩
end Go.Proofs.YtonnkibcnhjelaaGreatDoor
end
section
set_option linter.unusedVariables false
set_option linter.unusedSimpArgs false
namespace Go.Proofs.YtonnkibcnhjelaaGreatDoor
open Go.RowKit
theorem cwithin_gives (n a b : Int) (v : Bool) (hv : (decide (a ≤ n) && decide (n ≤ b)) = v) (w : World) : Calls Tryz.prog 87 #[.int .i64 n, .int .i64 a, .int .i64 b] w fun e w' => e = .returned (.bool v) ∧ w = w' := by
  by_cases h : a ≤ n
  · have d : decide (a ≤ n) = true := decide_eq_true h
    rw [d, Bool.true_and] at hv
    subst hv
    go_enter Tryz.func87, Tryz.ntmps87
    go_wp2
    go_ret
    exact ⟨rfl, rfl⟩
  · have d : decide (a ≤ n) = false := decide_eq_false h
    rw [d, Bool.false_and] at hv
    subst hv
    go_enter Tryz.func87, Tryz.ntmps87
    go_wp2
    go_ret
    exact ⟨rfl, rfl⟩
theorem cwithin_yes {n a b : Int} (h : a ≤ n ∧ n ≤ b) (w : World) : Calls Tryz.prog 87 #[.int .i64 n, .int .i64 a, .int .i64 b] w fun e w' => e = .returned (.bool true) ∧ w = w' :=
  cwithin_gives n a b true (by rw [decide_eq_true h.1, decide_eq_true h.2]; rfl) w
theorem cwithin_no {n a b : Int} (h : ¬ (a ≤ n ∧ n ≤ b)) (w : World) : Calls Tryz.prog 87 #[.int .i64 n, .int .i64 a, .int .i64 b] w fun e w' => e = .returned (.bool false) ∧ w = w' :=
  cwithin_gives n a b false (by
    by_cases h1 : a ≤ n
    · rw [decide_eq_true h1, decide_eq_false (fun h2 => h ⟨h1, h2⟩)]; rfl
    · rw [decide_eq_false h1]; rfl) w
theorem cnoplace_gives (n : Int) (v : Bool) (hv : placeOk n = v) (w : World) : Calls Tryz.prog 57 #[.int .i64 n] w fun e w' => e = .returned (.bool (!v)) ∧ w = w' := by
  have nf := fun w' => Tryz.notFalse w'
  have nt := fun w' => Tryz.notTrue w'
  have H0 : Hid (∀ W, Calls Tryz.prog 87 #[.int .i64 n, .int .i64 1, .int .i64 65535] W fun e w' => e = .returned (.bool v) ∧ W = w') := fun W => cwithin_gives n 1 65535 v hv W
  clear hv
  cases v with
  | true =>
    go_enter Tryz.func57, Tryz.ntmps57
    go_wp2_with (go_at_call 87; (with_reducible refine (H0.out _).mono ?_); rintro e w1 ⟨rfl, rfl⟩)
    go_ret
    exact ⟨rfl, rfl⟩
  | false =>
    go_enter Tryz.func57, Tryz.ntmps57
    go_wp2_with (go_at_call 87; (with_reducible refine (H0.out _).mono ?_); rintro e w1 ⟨rfl, rfl⟩)
    go_ret
    exact ⟨rfl, rfl⟩
theorem cneed_any (n : Nat) (hn : n ≤ 1000000000) (w : World) : Calls Tryz.prog 55 #[.int .i64 (n : Int)] w fun e w' => e = .returned (.int .i64 (needC n : Int)) ∧ w = w' := by
  by_cases h : n = 0
  · subst h
    have d0 : decide (((0 : Nat) : Int) ≤ 0) = true := by decide
    go_enter Tryz.func55, Tryz.ntmps55
    go_wp2
    go_ret
    exact ⟨rfl, rfl⟩
  · have d0 : decide ((n : Int) ≤ 0) = false := decide_eq_false (by omega)
    have d1 : decide (n = 0) = false := decide_eq_false h
    have d2 : decide (n ≤ 0) = false := decide_eq_false (by omega)
    have u0 : (0 : Int) ≤ (n : Int) - 1 := by omega
    have e1 : IntKind.i64.wrap ((n : Int) - 1) = (n : Int) - 1 := IntWalk.i64_in _ (by omega)
    have e2 : ((n : Int) - 1).tdiv 242 = ((n : Int) - 1) / 242 := Int.tdiv_eq_ediv_of_nonneg u0
    have e4 : ((n : Int) - 1) / 242 + 1 = (needC n : Int) := by unfold needC; omega
    have e3 : IntKind.i64.wrap (((n : Int) - 1) / 242 + 1) = (needC n : Int) := by rw [IntWalk.i64_in _ (by omega), e4]
    have HE := Lib.hid e4
    clear e4
    go_enter Tryz.func55, Tryz.ntmps55
    go_wp2
    go_ret
    exact ⟨by first | rfl | rw [← HE.out], rfl⟩
set_option maxRecDepth 100000 in
set_option maxHeartbeats 2000000 in
theorem cmaybe_any (s : Ce) (A : Option Addr) (c : Nat) (w : World) : Calls Tryz.prog 61 #[ceV s A c] w fun e w' => e = .returned (.bool s.may) ∧ Below w.heap.size w w' := by
  obtain ⟨o, n, x, D⟩ := s
  unfold ceV
  obtain ⟨m, hm⟩ : ∃ m, m = D.length := ⟨_, rfl⟩
  have HS : Hid (Ce.may ⟨o, n, x, D⟩ = (decide (1 ≤ o) && (decide (o ≤ 2147483647) && (decide (0 ≤ n) && (decide (n ≤ 65535) && (decide (0 ≤ x) && (decide (x ≤ 65535) && (decide (1 ≤ m) && (decide (m ≤ 242)))))))))) := by show _ = _; rw [hm]; rfl
  simp only
  rw [← hm]
  have HB : Hid (Below w.heap.size w (w.alloc (.cells #[.int .i64 o, .int .i64 n, .int .i64 x, .slice A m c] 64))) := (Below.refl _ _).alloc (Nat.le_refl _) _
  clear hm
  by_cases h0 : 1 ≤ o ∧ o ≤ 2147483647
  rotate_left
  · have HM : Hid (Ce.may ⟨o, n, x, D⟩ = false) := by show _ = _; rw [HS.out]; simp; omega
    have H0 : Hid (∀ W, Calls Tryz.prog 87 #[.int .i64 o, .int .i64 1, .int .i64 2147483647] W fun e w' => e = .returned (.bool false) ∧ W = w') := fun W => cwithin_no h0 W
    clear HS h0
    go_enter Tryz.func61, Tryz.ntmps61
    go_wp2_with (first
      | (go_at_call 87; (with_reducible refine (H0.out _).mono ?_); rintro e w1 ⟨rfl, rfl⟩))
    go_ret
    rw [HM.out]
    exact ⟨rfl, HB.out⟩
  have H0 : Hid (∀ W, Calls Tryz.prog 87 #[.int .i64 o, .int .i64 1, .int .i64 2147483647] W fun e w' => e = .returned (.bool true) ∧ W = w') := fun W => cwithin_yes h0 W
  by_cases h1 : 0 ≤ n ∧ n ≤ 65535
  rotate_left
  · have HM : Hid (Ce.may ⟨o, n, x, D⟩ = false) := by show _ = _; rw [HS.out]; simp; omega
    have H1 : Hid (∀ W, Calls Tryz.prog 87 #[.int .i64 n, .int .i64 0, .int .i64 65535] W fun e w' => e = .returned (.bool false) ∧ W = w') := fun W => cwithin_no h1 W
    clear HS h0 h1
    go_enter Tryz.func61, Tryz.ntmps61
    go_wp2_with (first
      | (go_at_call 87; (with_reducible refine (H0.out _).mono ?_); rintro e w1 ⟨rfl, rfl⟩)
      | (go_at_call 87; (with_reducible refine (H1.out _).mono ?_); rintro e w1 ⟨rfl, rfl⟩))
    go_ret
    rw [HM.out]
    exact ⟨rfl, HB.out⟩
  have H1 : Hid (∀ W, Calls Tryz.prog 87 #[.int .i64 n, .int .i64 0, .int .i64 65535] W fun e w' => e = .returned (.bool true) ∧ W = w') := fun W => cwithin_yes h1 W
  by_cases h2 : 0 ≤ x ∧ x ≤ 65535
  rotate_left
  · have HM : Hid (Ce.may ⟨o, n, x, D⟩ = false) := by show _ = _; rw [HS.out]; simp; omega
    have H2 : Hid (∀ W, Calls Tryz.prog 87 #[.int .i64 x, .int .i64 0, .int .i64 65535] W fun e w' => e = .returned (.bool false) ∧ W = w') := fun W => cwithin_no h2 W
    clear HS h0 h1 h2
    go_enter Tryz.func61, Tryz.ntmps61
    go_wp2_with (first
      | (go_at_call 87; (with_reducible refine (H0.out _).mono ?_); rintro e w1 ⟨rfl, rfl⟩)
      | (go_at_call 87; (with_reducible refine (H1.out _).mono ?_); rintro e w1 ⟨rfl, rfl⟩)
      | (go_at_call 87; (with_reducible refine (H2.out _).mono ?_); rintro e w1 ⟨rfl, rfl⟩))
    go_ret
    rw [HM.out]
    exact ⟨rfl, HB.out⟩
  have H2 : Hid (∀ W, Calls Tryz.prog 87 #[.int .i64 x, .int .i64 0, .int .i64 65535] W fun e w' => e = .returned (.bool true) ∧ W = w') := fun W => cwithin_yes h2 W
  obtain ⟨v, hv⟩ : ∃ v, v = (decide (1 ≤ (m : Int)) && decide ((m : Int) ≤ 242)) := ⟨_, rfl⟩
  have H3 : Hid (∀ W, Calls Tryz.prog 87 #[.int .i64 (m : Int), .int .i64 1, .int .i64 242] W fun e w' => e = .returned (.bool v) ∧ W = w') := fun W => cwithin_gives _ _ _ v hv.symm W
  have HM : Hid (Ce.may ⟨o, n, x, D⟩ = v) := by
    show _ = _
    rw [HS.out, decide_eq_true h0.1, decide_eq_true h0.2, decide_eq_true h1.1, decide_eq_true h1.2, decide_eq_true h2.1, decide_eq_true h2.2, hv]
    simp only [Bool.true_and]
    congr 1
    · rw [decide_eq_decide]; omega
    · rw [decide_eq_decide]; omega
  clear HS h0 h1 h2 hv
  go_enter Tryz.func61, Tryz.ntmps61
  go_wp2_with (first
      | (go_at_call 87; (with_reducible refine (H0.out _).mono ?_); rintro e w1 ⟨rfl, rfl⟩)
      | (go_at_call 87; (with_reducible refine (H1.out _).mono ?_); rintro e w1 ⟨rfl, rfl⟩)
      | (go_at_call 87; (with_reducible refine (H2.out _).mono ?_); rintro e w1 ⟨rfl, rfl⟩)
      | (go_at_call 87; (with_reducible refine (H3.out _).mono ?_); rintro e w1 ⟨rfl, rfl⟩))
  go_ret
  rw [HM.out]
  exact ⟨rfl, HB.out⟩
def Ce.fits (s : Ce) (last : Bool) : Bool := if last then decide (s.next = 0) else decide (s.next ≠ 0) && decide (s.data.length = 242)
set_option maxRecDepth 100000 in
set_option maxHeartbeats 2000000 in
theorem cfits_any (s : Ce) (A : Option Addr) (c : Nat) (last : Bool) (w : World) : Calls Tryz.prog 97 #[ceV s A c, .bool last] w fun e w' => e = .returned (.bool (s.fits last)) ∧ Below w.heap.size w w' := by
  obtain ⟨o, n, x, D⟩ := s
  unfold ceV Ce.fits
  obtain ⟨m, hm⟩ : ∃ m, m = D.length := ⟨_, rfl⟩
  simp only
  rw [← hm]
  have HB : Hid (Below w.heap.size w (w.alloc (.cells #[.int .i64 o, .int .i64 n, .int .i64 x, .slice A m c] 64))) := (Below.refl _ _).alloc (Nat.le_refl _) _
  clear hm
  cases last with
  | true =>
    by_cases h : x = 0
    · subst h
      go_enter Tryz.func97, Tryz.ntmps97
      go_wp2
      go_ret
      exact ⟨rfl, HB.out⟩
    · have d0 : (x == 0) = false := by simp; exact h
      have HM : Hid ((if true = true then decide (x = 0) else decide (x ≠ 0) && decide (m = 242)) = false) := by show _ = _; rw [if_pos rfl]; exact decide_eq_false h
      rw [HM.out]
      clear h
      go_enter Tryz.func97, Tryz.ntmps97
      go_wp2
      go_ret
      exact ⟨rfl, HB.out⟩
  | false =>
    by_cases h : x = 0
    · subst h
      have HM : Hid ((if false = true then decide ((0 : Int) = 0) else decide ((0 : Int) ≠ 0) && decide (m = 242)) = false) := by show _ = _; rw [if_neg (by decide)]; simp
      rw [HM.out]
      go_enter Tryz.func97, Tryz.ntmps97
      go_wp2
      go_ret
      exact ⟨rfl, HB.out⟩
    · have d0 : (x == 0) = false := by simp; exact h
      have d1 : (x != 0) = true := by simp; exact h
      by_cases h2 : m = 242
      · have HM : Hid ((if false = true then decide (x = 0) else decide (x ≠ 0) && decide (m = 242)) = true) := by show _ = _; rw [if_neg (by decide)]; simp [h, h2]
        have d2 : ((m : Int) == 242) = true := by simp; omega
        rw [HM.out]
        clear h h2
        go_enter Tryz.func97, Tryz.ntmps97
        go_wp2
        go_ret
        exact ⟨rfl, HB.out⟩
      · have HM : Hid ((if false = true then decide (x = 0) else decide (x ≠ 0) && decide (m = 242)) = false) := by show _ = _; rw [if_neg (by decide)]; simp [h2]
        have d2 : ((m : Int) == 242) = false := by simp; omega
        rw [HM.out]
        clear h h2
        go_enter Tryz.func97, Tryz.ntmps97
        go_wp2
        go_ret
        exact ⟨rfl, HB.out⟩
end Go.Proofs.YtonnkibcnhjelaaGreatDoor
end
section
set_option linter.unusedVariables false
namespace Go.Proofs.YtonnkibcnhjelaaGreatDoor
open Go.RowKit
theorem le4_cells (n : Nat) (h : n < 4294967296) : (#[.int .u8 ((n : Int) % 256), .int .u8 ((n : Int) / 256 % 256), .int .u8 ((n : Int) / 65536 % 256), .int .u8 ((n : Int) / 16777216)] : Array Value) = (cells (le4 n)).toArray := by
  have e1 : ((n : Int) % 256) = ((UInt8.ofNat (n % 256)).toNat : Int) := by rw [ofNat_toNat _ (by omega)]; omega
  have e2 : ((n : Int) / 256 % 256) = ((UInt8.ofNat (n / 256 % 256)).toNat : Int) := by rw [ofNat_toNat _ (by omega)]; omega
  have e3 : ((n : Int) / 65536 % 256) = ((UInt8.ofNat (n / 65536 % 256)).toNat : Int) := by rw [ofNat_toNat _ (by omega)]; omega
  have e4 : ((n : Int) / 16777216) = ((UInt8.ofNat (n / 16777216)).toNat : Int) := by rw [ofNat_toNat _ (by omega)]; omega
  rw [e1, e2, e3, e4]
  rfl
theorem le4_new (n : Nat) (w : World) (h : n < 4294967296) : RB (w.alloc (.cells #[.int .u8 ((n : Int) % 256), .int .u8 ((n : Int) / 256 % 256), .int .u8 ((n : Int) / 65536 % 256), .int .u8 ((n : Int) / 16777216)] 5)) (w.heap.size + 1) (some ⟨w.heap.size, 0, none⟩) (le4 n) := by
  rw [le4_cells n h]
  exact rb_new w (le4 n)
set_option maxRecDepth 100000 in
set_option maxHeartbeats 1000000 in
theorem refSeal_any (L : List UInt8) (A : Option Addr) (c B : Nat) (w : World) (hr : RB w B A L) (hl : L.length ≤ 140737488351232) :
    Calls Tryz.prog 71 #[.slice A L.length c] w (GivesOne (sealL L) w) := by
  obtain ⟨i0, hi0, hz0, hz1, hz2⟩ := info_parts Tryz.info5
  have hr := rb_lt hr
  have hs := sumL_lt L
  have HS : ∀ W E, RB W E A L → Calls Tryz.prog 95 #[.slice A L.length c] W fun e w' => e = .returned (.int .u32 (sumL L : Int)) ∧ W = w' := fun W E h => refSum_any L A c E W h (by omega)
  obtain ⟨n, hn⟩ : ∃ n, n = sumL L := ⟨_, rfl⟩
  rw [← hn] at HS hs
  have HN : Hid (n = sumL L) := hn
  have HS2 := Lib.hid HS
  obtain ⟨M, hM⟩ : ∃ M, M = le4 n := ⟨_, rfl⟩
  have HM : Hid (L ++ M = sealL L) := by show _ = _; rw [hM, hn]; rfl
  have HF : Hid (∀ W : World, RB (W.alloc (.cells #[.int .u8 ((n : Int) % 256), .int .u8 ((n : Int) / 256 % 256), .int .u8 ((n : Int) / 65536 % 256), .int .u8 ((n : Int) / 16777216)] 5)) (W.heap.size + 1) (some ⟨W.heap.size, 0, none⟩) M) := by
    rw [hM]; exact fun W => le4_new n W hs
  have HM4 : Hid (∀ x : Option Addr, Value.slice x 4 4 = .slice x M.length 4) := by show ∀ x, _; intro x; rw [hM]; rfl
  have hm4 : M.length ≤ 4 := by rw [hM]; exact Nat.le_refl _
  clear hM
  clear hn HS
  go_enter Tryz.func71, Tryz.ntmps71
  go_wp2_with (first
    | (go_at_call 95; (with_reducible refine (HS2.out _ _ hr).mono ?_); rintro e w' ⟨rfl, rfl⟩)
    | (at_builtin; refine wpList_append_any _ rfl (.tmp 6) (.tmp 7) _ rfl w.heap.size 5 i0 _ 1 1 Tryz.underlying39 hi0 hz0 hz1 hz2 rfl (by omega) (.slice (some ⟨w.heap.size, 0, none⟩) 0 0) 0 [] rfl (World.ownsRow_made w #[] 0 (Nat.le_refl _) (by decide) rfl) w.heap.size A L.length c (cells L) rfl (hr.alloc (Nat.le_refl _) _) (cells_one _) (by simp only [maxLen]; omega) (by omega) (by simp) ?_; intro v5 w5 ho5 hg5 hat5; simp only [Nat.zero_add, List.nil_append] at ho5; have hb5 : Below w.heap.size w w5 := ((Below.refl _ _).alloc (Nat.le_refl _) _).grown hg5 (by simp) (by simp [Value.ownBlock]))
    | (at_builtin; refine wpList_append_any _ rfl (.tmp 8) (.tmp 23) _ rfl w.heap.size 5 i0 _ 1 1 Tryz.underlying39 hi0 hz0 hz1 hz2 rfl (by omega) _ L.length (cells L) rfl (ho5.alloc _) (w5.heap.size + 1) (some ⟨w5.heap.size, 0, none⟩) M.length 4 (cells M) (HM4.out _) (HF.out w5) (cells_one _) (by simp only [maxLen]; omega) (by omega) (by have := hb5.size; simp; omega) ?_; intro v6 w6 ho6 hg6 hat6; have hb6 : Below w.heap.size w w6 := (hb5.alloc hb5.size _).grown hg6 (by have := hb5.size; simp; omega) (fun k hk => (ho5.lt k hk).1)))
  rw [← cells_append, ← List.length_append, HM.out] at ho6
  obtain ⟨A6, c6, hv⟩ := own_form ho6
  go_ret
  exact ⟨A6, c6, by rw [hv]; rfl, by rw [hv] at ho6; exact ho6, hb6⟩
end Go.Proofs.YtonnkibcnhjelaaGreatDoor
end
