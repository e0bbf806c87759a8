/- The walks of the program's List, Count (layer 5). -/
import Derived.Test.YtibaaideleinhaaDoorBitsPLeast
import Derived.Test.YtibaaideleinhaaDoorBitsPOf
import Derived.Test.YtibaaideleinhaaDoorBitsMath
set_option linter.unusedVariables false
namespace Go.Proofs.YtibaaideleinhaaDoor
open Go.RowKit

theorem next_is (l : List Bool) (g : Nat) (i r : Int) (w : World) (hi : InI i) (h : SetAt w g l) (hl : l.length ≤ 4096) (e : firstB l i true = r) :
    Calls Tryd.prog 44 #[.pointer (some ⟨g, 0, none⟩), .int .i64 i] w fun e w' => e = .returned (.int .i64 r) ∧ Below w.heap.size w w' := by
  rw [← e]; exact bitsNext_any l g i w hi h hl

theorem Tryd.wordsRow : (match Tryd.prog.underlying 67 with | some d => d.isRow | none => false) = true := by kernel_rfl
theorem Tryd.wordsSize : (Tryd.prog.info? 67).map (·.size) = some 64 := by kernel_rfl
set_option maxRecDepth 100000 in
set_option maxHeartbeats 1000000 in
/-- Count turns nothing at all. -/
theorem bitsCount_same (l : List Bool) (g : Nat) (w : World) (h : SetAt w g l) (hl : l.length ≤ 4096) :
    Calls Tryd.prog 32 #[.pointer (some ⟨g, 0, none⟩)] w fun e w' => e = .returned (.int .i64 ((listB l).length : Int)) ∧ w' = w := by
  obtain ⟨_, _, ws, hW, hS⟩ := h
  obtain ⟨WA, hWA⟩ : ∃ WA, WA = (ws.map fun (x : Nat) => Value.int .u64 (x : Int)).toArray := ⟨_, rfl⟩
  have z0 := fun w' => Tryd.isNil g w'
  have HR := Lib.hid hS.words
  have sW : (ws.map fun (x : Nat) => Value.int .u64 (x : Int)).length = 64 := by simp [hS.2]
  have HE : Hid (∀ k, k < 64 → WA[k]? = some (.int .u64 ((ws.getD k 0 : Nat) : Int))) := fun k hk => by
    have hk2 : k < ws.length := by rw [hS.2]; exact hk
    rw [hWA]; simp [List.getD, List.getElem?_eq_getElem hk2]
  have HW := Lib.hid hW
  have HI : Hid (∀ (k : Nat) (v : Value) (W : World), k < 64 → WA[k]? = some v → (Instr.index 67 (.agg WA) (.int .i64 (k : Int))).run Tryd.prog W = .ok v W) := fun k v W hk hv =>
    run_index_row (n := 64) (e := 66) (k := k) Tryd.underlying67 (by kernel_rfl) (by intro d hd; rw [Tryd.underlying66] at hd; injection hd with hd; subst hd; rfl) (by kernel_rfl) rfl hk hv
  clear hW hS
  go_enter Tryd.func32, Tryd.ntmps32
  go_wp2_with (refine wpList_load_mid rfl 67 _ rfl g 1 rfl _ _ HR.out Tryd.underlying67 rfl (by rw [sW]; exact Tryd.wordsSize) ?_)
  rw [← hWA]
  have HWA := Lib.hid hWA
  clear hWA HR sW
  go_loopw [3, 12] (fun v i wr => ∃ k c : Nat, k ≤ 64 ∧ v = .int .i64 (c : Int) ∧ i = .int .i64 (k : Int) ∧ c ≤ 64 * k ∧ Hid (c = (listK l (64 * k)).length) ∧ w = wr) (fun _ i _ => 64 - (intOf i).toNat)
  case atStart => exact ⟨0, 0, by omega, rfl, rfl, by omega, rfl, rfl⟩
  case round =>
    obtain ⟨k, c, hk, rfl, rfl, hck, HC, rfl⟩ := hrel
    by_cases hlt : k < 64
    · obtain ⟨x, hx⟩ : ∃ x, x = ws.getD k 0 := ⟨_, rfl⟩
      obtain ⟨p, hp⟩ : ∃ p, p = pop x 64 := ⟨_, rfl⟩
      have hx64 : x < 18446744073709551616 := by rw [hx]; exact HW.out.2.1 _
      have hix : ∀ W, (Instr.index 67 (.agg WA) (.int .i64 (k : Int))).run Tryd.prog W = .ok (.int .u64 (x : Int)) W := fun W => HI.out k _ W hlt (by rw [hx]; exact HE.out k hlt)
      have HO : Hid (∀ V, Calls Tryd.prog 43 #[.int .u64 (x : Int)] V fun e w' => e = .returned (.int .i64 (p : Int)) ∧ V = w') := fun V => by
        rw [hp]; exact (ones_any x V hx64).mono fun _ _ h => ⟨h.1, h.2.symm⟩
      have hp64 : p ≤ 64 := by rw [hp]; exact pop_le x 64
      have HN : Hid (c + p = (listK l (64 * (k + 1))).length) := by
        show _ = _
        rw [HC.out, hp, show 64 * (k + 1) = 64 * k + 64 by omega]
        exact (listK_pop l (64 * k) x 64 fun i hi => by rw [hx]; exact HW.out.2.2 k i hlt hi).symm
      have u1 : (k : Int) < 64 := by omega
      clear hx hp
      go_wp2_with (go_at_call 43; (with_reducible refine (HO.out _).mono ?_); rintro e w' ⟨rfl, rfl⟩)
      refine ⟨⟨k + 1, c + p, by omega, by go_num, by go_num, by omega, HN, trivial⟩, ?_⟩
      simp [intOf]; omega
    · have HV : Hid (c = (listB l).length) := by
        show _ = _
        rw [HC.out, show 64 * k = 4096 by omega]
        rw [listK_skip l l.length 4096 hl fun i h1 _ => by simp [List.getD, List.getElem?_eq_none h1]]
        rfl
      have u1 : ¬ (k : Int) < 64 := by omega
      go_wp2
      go_ret
      exact ⟨by rw [← HV.out]; rfl, rfl⟩
theorem bitsCount_any (l : List Bool) (g : Nat) (w : World) (h : SetAt w g l) (hl : l.length ≤ 4096) :
    Calls Tryd.prog 32 #[.pointer (some ⟨g, 0, none⟩)] w fun e w' => e = .returned (.int .i64 ((listB l).length : Int)) ∧ Below w.heap.size w w' :=
  (bitsCount_same l g w h hl).mono fun e w' h => ⟨h.1, by rw [h.2]; exact Below.refl _ _⟩

/-- A measure for loops that go from number to number. -/
def mfL (N : Nat) (i : Int) : Nat := if i = -1 then 0 else N + 1 - i.toNat
theorem mfL_lt {N : Nat} {j : Nat} {q : Int} (h : j < N) (hq : q = -1 ∨ ((j : Int) < q ∧ q < (N : Int))) : mfL N q < mfL N (j : Int) := by
  unfold mfL
  rw [if_neg (show ¬ (j : Int) = -1 by omega)]
  split <;> omega

/-- A call that gives ints which lie in a block of their own. -/
def GivesIntsN (l : List Nat) (w : World) (e : Ending) (w' : World) : Prop := GivesInts l w e w' ∧ ∀ A n c, e = .returned (.slice A n c) → ∀ ad, A = some ad → w.heap.size ≤ ad.block
theorem GivesIntsN.own {l : List Nat} {w w' : World} {v : Value} {base : Nat} (h : w'.ownsRow base 3 1 v l.length (icells l)) (hb : Below w.heap.size w w') (hB : w.heap.size ≤ base) : GivesIntsN l w (.returned v) w' := by
  refine ⟨GivesInts.own h hb, fun A n c e ad ea => ?_⟩
  injection e with e
  subst ea
  rcases h.2 with ⟨h1, _⟩ | ⟨q, cap, cur, h1, h2, _⟩
  · rw [h1] at e; cases e
  · rw [h1] at e
    simp only [Value.slice.injEq, Option.some.injEq] at e
    obtain ⟨rfl, -, -⟩ := e
    exact Nat.le_trans hB h2
set_option maxRecDepth 100000 in
set_option maxHeartbeats 2000000 in
theorem bitsList_new (l : List Bool) (g : Nat) (w : World) (h : SetAt w g l) (hl : l.length ≤ 4096) :
    Calls Tryd.prog 33 #[.pointer (some ⟨g, 0, none⟩)] w (GivesIntsN (listB l) w) := by
  obtain ⟨i0, hi0, hz0, hz1, hz2⟩ := info_parts Tryd.infoInt
  obtain ⟨N, hN⟩ : ∃ N, N = l.length := ⟨_, rfl⟩
  obtain ⟨f0, hf0⟩ : ∃ f, f = firstB l 0 true := ⟨_, rfl⟩
  have HNx := Lib.hid (next_is l g 0 f0 w ⟨by omega, by omega⟩ h hl hf0.symm)
  have HF0 := Lib.hid hf0
  have HS := Lib.hid h
  have HL := Lib.hid hN
  have HL4 := Lib.hid hl
  clear hf0 h hN hl
  go_enter Tryd.func33, Tryd.ntmps33
  go_wp2_with (go_at_call 44; (with_reducible refine HNx.out.mono ?_); rintro e w2 ⟨rfl, hb2⟩; have HS2 : Hid (SetAt w2 g l) := HS.out.below hb2 HS.out.lt)
  have HG2 : Hid (g < w2.heap.size) := HS2.out.lt
  clear HNx HS
  go_loopw [3, 4] (fun v i wr => ∃ (k y : Nat) (f : Int), k ≤ N ∧ i = .int .i64 f ∧ Hid (f = firstB l (k : Int) true) ∧ Hid (y = (listK l k).length) ∧ y ≤ k ∧ wr.ownsRow w2.heap.size 3 1 v y (icells (listK l k)) ∧ Hid (SetAt wr g l) ∧ Below w2.heap.size w2 wr) (fun _ i _ => mfL N (intOf i))
  case atStart => exact ⟨0, 0, f0, by omega, rfl, HF0.out, rfl, by omega, World.ownsRow_nil _ _ _ _, HS2, Below.refl _ _⟩
  case round =>
    clear HF0 HS2
    obtain ⟨k, y, f, hk, rfl, HF, HY, hyk, hown, HS, hb⟩ := hrel
    have hl4 := HL4.out
    have hLN := HL.out
    rcases firstB_cases l (k : Int) true with ⟨h1, _⟩ | ⟨j, h1, h2, h3, _, _⟩
    · have hf : f = -1 := HF.out.trans h1
      have HE : Hid (listB l = listK l k) := listK_end l k (by omega) h1
      subst hf
      have HO := Lib.hid hown
      clear h1 hown hl4 hLN HF
      go_wp2
      go_ret
      refine GivesIntsN.own (base := w2.heap.size) ?_ (hb2.trans (hb.mono hb2.size)) hb2.size
      rw [HE.out, ← HY.out]; exact HO.out
    · have hf : f = (j : Int) := HF.out.trans h1
      subst hf
      obtain ⟨hj1, hj2, hj3⟩ := listK_next l k j h1
      have HE := Lib.hid hj3
      obtain ⟨q, hq⟩ : ∃ q, q = firstB l ((j + 1 : Nat) : Int) true := ⟨_, rfl⟩
      have HNx : Hid (∀ V, SetAt V g l → Calls Tryd.prog 44 #[.pointer (some ⟨g, 0, none⟩), .int .i64 ((j : Int) + 1)] V fun e w' => e = .returned (.int .i64 q) ∧ Below V.heap.size V w') := fun V hV => next_is l g ((j + 1 : Nat) : Int) q V ⟨by omega, by omega⟩ hV hl4 hq.symm
      have HQ := Lib.hid hq
      have v0 : (0 : Int) ≤ (j : Int) := by omega
      have v2 : ((j : Int) == -1) = false := by rw [beq_eq_false_iff_ne]; omega
      have v3 : ((j : Int) != -1) = true := by rw [bne_iff_ne]; omega
      have hj4 : j < N := by omega
      have hqj : q = -1 ∨ (j : Int) < q ∧ q < N := by
        rcases firstB_cases l ((j + 1 : Nat) : Int) true with ⟨h5, _⟩ | ⟨m, h5, h6, h7, _, _⟩
        · exact .inl (hq.trans h5)
        · right; rw [hq, h5]; omega
      have HQJ := Lib.hid hqj
      clear hq hqj h1 h2 h3 hj3 HF hLN
      obtain ⟨A8, c8, rfl⟩ := iown_form hown
      go_wp2_with (first
        | (at_builtin; refine wpList_append_own _ rfl (.tmp 13) (.tmp 15) _ rfl w2.heap.size 3 i0 _ 1 8 Tryd.underlying36 hi0 hz0 hz1 hz2 rfl (by omega) _ y (icells (listK l k)) rfl (hown.alloc _) ⟨wr.heap.size, 0, none⟩ 1 1 [Value.int .i64 (j : Int)] rfl rfl (cell_one_new _ _ _) (by intro u hu; rw [List.mem_singleton] at hu; subst hu; rfl) (by simp only [maxLen]; omega) (by omega) (by have := hb.size; simp; omega) ?_; intro v3 w3 ho3 hg3 hat3; have b3 : Below w2.heap.size w2 w3 := (hb.alloc hb.size _).grown hg3 (by have := hb.size; simp; omega) (fun q hq => (hown.lt q hq).1); have HS3 : Hid (SetAt w3 g l) := (HS.out.below ((Below.refl wr.heap.size wr).alloc (Nat.le_refl _) _) HS.out.lt).below (B := g + 1) ⟨hg3.os, hg3.tape, hg3.output, by have := hg3.size; have := HS.out.lt; simp at *; omega, fun i hi => hg3.block i (by have := HS.out.lt; simp; omega) (fun e => by have h5 := (hown.lt i e.symm).1; have := HG2.out; omega)⟩ (by omega))
        | (go_at_call 44; (with_reducible refine (HNx.out w3 HS3.out).mono ?_); rintro e w5 ⟨rfl, hb5⟩; have b5 : Below w2.heap.size w2 w5 := b3.trans (hb5.mono b3.size); have HS5 : Hid (SetAt w5 g l) := HS3.out.below hb5 HS3.out.lt))
      have e2 : icells (listK l k) ++ [Value.int .i64 (j : Int)] = icells (listK l (j + 1)) := by rw [HE.out, icells_append]; rfl
      rw [e2] at ho3
      refine ⟨⟨j + 1, y + 1, q, by omega, rfl, HQ.out, by show _ = _; rw [HE.out, HY.out, List.length_append]; rfl, by omega, World.ownsRow.kept ho3 (row := none) ⟨hb5.os, hb5.tape, hb5.output, hb5.size, fun i hi _ => hb5.block i hi⟩ (Classical.em _), HS5, b5⟩, ?_⟩
      exact mfL_lt hj4 HQJ.out
theorem bitsList_any (l : List Bool) (g : Nat) (w : World) (h : SetAt w g l) (hl : l.length ≤ 4096) :
    Calls Tryd.prog 33 #[.pointer (some ⟨g, 0, none⟩)] w (GivesInts (listB l) w) := (bitsList_new l g w h hl).mono fun _ _ h => h.1

set_option maxRecDepth 100000 in
theorem bitsCount_none (w : World) : Calls Tryd.prog 32 #[.pointer none] w fun e w' => e = .returned (.int .i64 0) ∧ Below w.heap.size w w' := by
  have n0 := fun w' => Tryd.nilIs w'
  go_enter Tryd.func32, Tryd.ntmps32
  go_wp2
  go_ret
  exact ⟨rfl, Below.refl _ _⟩

set_option maxRecDepth 100000 in
theorem bitsList_none (w : World) : Calls Tryd.prog 33 #[.pointer none] w (GivesInts [] w) := by
  have HN := Lib.hid (bitsNext_none 0 w)
  go_enter Tryd.func33, Tryd.ntmps33
  go_wp2_with (go_at_call 44; (with_reducible refine HN.out.mono ?_); rintro e w' ⟨rfl, hb⟩)
  go_loopw [3, 4] (fun v i wr => v = .slice none 0 0 ∧ i = .int .i64 (-1) ∧ w' = wr) (fun _ _ _ => 0)
  case atStart => exact ⟨rfl, rfl, rfl⟩
  case round =>
    obtain ⟨rfl, rfl, rfl⟩ := hrel
    go_wp2
    go_ret
    exact ⟨none, 0, rfl, Reads.none_, Nat.le_refl _, by decide, hb⟩

end Go.Proofs.YtibaaideleinhaaDoor
