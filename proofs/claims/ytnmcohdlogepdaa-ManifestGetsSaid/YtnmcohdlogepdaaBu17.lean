/- Lemmas under the proofs of this place: ManGive, ManPConcat, ManRTake. No statement is proved here. -/
import Derived.Test.YtnmcohdlogepdaaBu15
import Derived.Test.YtnmcohdlogepdaaBu08
import Derived.Test.YtnmcohdlogepdaaBu04
import Derived.Test.YtnmcohdlogepdaaBu02
import Derived.Test.YtnmcohdlogepdaaBu01
import Derived.Test.YtnmcohdlogepdaaBu13
import Derived.Test.YtnmcohdlogepdaaBu16
import Derived.Lib.SmallJoins
section
set_option linter.unusedVariables false
namespace Go.Proofs.Ytnmcohdlogepdaa
open Go.RowKit
def GivesMf (x : Mf × Int) (w : World) (e : Ending) (w' : World) : Prop := ∃ A c, e = .returned (.tuple #[mfV x.1 A c, .int .i64 x.2]) ∧ MfAt w' x.1 A c ∧ Below w.heap.size w w'
def GivesBy (x : List UInt8 × Int) (w : World) (e : Ending) (w' : World) : Prop := ∃ A c, e = .returned (.tuple #[.slice A x.1.length c, .int .i64 x.2]) ∧ RB w' w'.heap.size A x.1 ∧ Below w.heap.size w w'
def GivesMfN (x : Mf × Int) (w : World) (e : Ending) (w' : World) : Prop := ∃ A c, e = .returned (.tuple #[mfV x.1 A c, .int .i64 x.2]) ∧ MfAt w' x.1 A c ∧ Below w.heap.size w w' ∧ ∀ ad, A = some ad → w.heap.size ≤ ad.block
theorem GivesMfN.get {x : Mf × Int} {w w' : World} {e : Ending} (h : GivesMfN x w e w') : GivesMf x w e w' := by
  obtain ⟨A, c, he, hm, hb, _⟩ := h
  exact ⟨A, c, he, hm, hb⟩
def GivesOw (x : List UInt8 × Int) (w : World) (e : Ending) (w' : World) : Prop := ∃ A c, e = .returned (.tuple #[.slice A x.1.length c, .int .i64 x.2]) ∧ Own w' w.heap.size A x.1 c ∧ Below w.heap.size w w'
theorem GivesOw.by_ {x : List UInt8 × Int} {w w' : World} {e : Ending} (h : GivesOw x w e w') : GivesBy x w e w' := by
  obtain ⟨A, c, he, ho, hb⟩ := h
  exact ⟨A, c, he, own_rb ho, hb⟩
theorem ptl_blk {w : World} {g : Nat} {t : TypeId} {l : List Pt} (h : Blk w g t (ptCells l).toArray) : PtL w w.heap.size (some ⟨g, 0, none⟩) l := fun h0 => by
  refine ⟨g, 0, rfl, h.lt, fun i hi => ?_⟩
  obtain ⟨k0, k1, k2⟩ := ptCells_at l i hi
  rw [Nat.zero_add]
  exact ⟨by rw [h.cell, List.getElem?_toArray]; exact k0, by rw [h.cell, List.getElem?_toArray]; exact k1, by rw [h.cell, List.getElem?_toArray]; exact k2⟩
theorem own_made (w : World) (L : List UInt8) (h : L.length ≤ 1048576) : (w.alloc (.cells (cells L).toArray 5)).ownsRow w.heap.size 5 1 (.slice (some ⟨w.heap.size, 0, none⟩) L.length L.length) L.length (cells L) := by
  refine ⟨by rw [cells_length, Nat.mul_one], .inr ⟨w.heap.size, L.length, (cells L).toArray, rfl, Nat.le_refl _, ?_, Nat.le_refl _, by unfold maxLen; omega, by simp [cells_length], ?_⟩⟩
  · exact Blk.new w 5 (cells L).toArray
  · simp only [Nat.mul_one]
    exact List.take_of_length_le (by rw [cells_length]; exact Nat.le_refl _)
theorem rb_of_own {w : World} {base n c : Nat} {A : Option Addr} {L : List UInt8} (h : w.ownsRow base 5 1 (.slice A n c) n (cells L)) (hn : n = L.length) : RB w w.heap.size A L := by
  subst hn
  exact own_rb h
theorem seg_cells {w : World} {A : Option Addr} {l : List Pt} (h : PtL w w.heap.size A l) (i : Nat) (hi : i < l.length) : ∃ b off, A = some ⟨b, off, none⟩ ∧ ∀ W, Below w.heap.size w W → W.cell? ⟨b, off + i * 3, none⟩ = some (.int .i64 l[i].f) ∧ W.cell? ⟨b, off + i * 3 + 1, none⟩ = some (.int .i64 l[i].s) ∧ W.cell? ⟨b, off + i * 3 + 2, none⟩ = some (.int .i64 l[i].o) := by
  obtain ⟨b, off, e, hlt, hc⟩ := h (by omega)
  refine ⟨b, off, e, fun W hb => ?_⟩
  obtain ⟨k0, k1, k2⟩ := hc i hi
  exact ⟨(hb.cell (p := ⟨b, off + i * 3, none⟩) hlt).trans k0, (hb.cell (p := ⟨b, off + i * 3 + 1, none⟩) hlt).trans k1, (hb.cell (p := ⟨b, off + i * 3 + 2, none⟩) hlt).trans k2⟩
def manHead (n : Nat) : List UInt8 := [3, 109, 97, 110, UInt8.ofNat n]
theorem Mf.own_head (m : Mf) : m.own = manHead m.segs.length ++ (onesL m.segs ++ m.tail) := rfl
theorem man_head (n : Nat) (w : World) (h : n ≤ 8) : (w.alloc (.cells #[.int .u8 3, .int .u8 109, .int .u8 97, .int .u8 110, .int .u8 (n : Int)] 5)).ownsRow w.heap.size 5 1 (.slice (some ⟨w.heap.size, 0, none⟩) 5 5) 5 (cells (manHead n)) := by
  have h1 := own_made w (manHead n) (by show 5 ≤ _; omega)
  have e : (cells (manHead n)).toArray = #[.int .u8 3, .int .u8 109, .int .u8 97, .int .u8 110, .int .u8 (n : Int)] := by
    have e2 : (n : Int) = ((UInt8.ofNat n).toNat : Int) := by rw [ofNat_toNat _ (by omega)]
    rw [show (Value.int .u8 (n : Int)) = .int .u8 ((UInt8.ofNat n).toNat : Int) by rw [← e2]]
    rfl
  rw [e] at h1
  exact h1
end Go.Proofs.Ytnmcohdlogepdaa
end
section
set_option linter.unusedVariables false
set_option linter.unusedSimpArgs false
namespace Go.Proofs.Ytnmcohdlogepdaa
open Go.RowKit
theorem zzero_pts (k : Nat) : Builtin.zeroCells (Value.agg #[.int .i64 0, .int .i64 0, .int .i64 0]).cells k = (ptCells (List.replicate k Pt.z)).toArray := by
  apply Array.toList_inj.1
  apply List.ext_getElem?
  intro j
  by_cases hj : j < k * 3
  · obtain ⟨i, r, hr, rfl⟩ : ∃ i r, r < 3 ∧ j = i * 3 + r := ⟨j / 3, j % 3, by omega, by omega⟩
    obtain ⟨h0, h1, h2⟩ := ptCells_at (List.replicate k Pt.z) i (by simp; omega)
    have e : (i * 3 + r) % 3 = r := by omega
    have e3 : (Value.agg #[.int .i64 0, .int .i64 0, .int .i64 0]).cells = #[.int .i64 0, .int .i64 0, .int .i64 0] := rfl
    have hb : i * 3 + r < k * 3 := hj
    rw [e3]
    have h3 : r = 0 ∨ r = 1 ∨ r = 2 := by omega
    rcases h3 with rfl | rfl | rfl
    · rw [Nat.add_zero] at e hb ⊢; rw [h0]; simp [Builtin.zeroCells, e, hb, Pt.z]
    · rw [h1]; simp [Builtin.zeroCells, e, hb, Pt.z]
    · rw [h2]; simp [Builtin.zeroCells, e, hb, Pt.z]
  · rw [List.getElem?_eq_none, List.getElem?_eq_none]
    · rw [ptCells_len, List.length_replicate]; omega
    · simp [Builtin.zeroCells, Value.cells]; omega
theorem psl_to (A : Option Addr) (n c h : Nat) (j : Int) (hj : j = (h : Int)) (h1 : h ≤ c) (W : World) :
    (Instr.sliceAt 25 (.slice A n c) none (some (.int .i64 j)) none).run Try.prog W = .ok (.slice A h c) W := by
  subst hj
  have hu : Try.prog.underlying 25 = some (.slice (Try.prog.elem 25)) := by kernel_rfl
  have he : Try.prog.elem 25 = 27 := by kernel_rfl
  have hsz : (sizeOf 27).run Try.prog W = .ok 3 W := by kernel_rfl
  have e : (h : Int).toNat = h := by omega
  have e0 : (if c = 0 then A else A.map (·.add (0 * 3))) = A := by
    split
    · rfl
    · cases A with
      | none => rfl
      | some a => simp [Addr.add]
  rw [run_sliceAt_slice _ _ _ _ _ _ hu, run_slice_h _ _ _ _ _ hu .i64 (h : Int) (by omega) (by omega), he, hsz]
  simp only [Result.andThen_ok, e, sliced, Nat.sub_zero, e0]
theorem pown_empty {w : World} {base n c : Nat} {A : Option Addr} {xs : List Value} (h : w.ownsRow base 27 3 (.slice A n c) n xs) : w.ownsRow base 27 3 (.slice A 0 c) 0 [] := by
  refine ⟨rfl, ?_⟩
  rcases h.2 with ⟨h1, h0⟩ | ⟨g, cap, cur, he, h2, h3, h4, h5, h6, h7⟩
  · simp only [Value.slice.injEq] at h1
    obtain ⟨rfl, rfl, rfl⟩ := h1
    exact .inl ⟨rfl, rfl⟩
  · simp only [Value.slice.injEq] at he
    obtain ⟨rfl, -, rfl⟩ := he
    exact .inr ⟨g, c, cur, rfl, h2, h3, Nat.zero_le _, h5, h6, by simp⟩
set_option maxRecDepth 100000 in
set_option maxHeartbeats 2000000 in
theorem pgrow_any (n : Nat) (w : World) (hn : n ≤ 30000) :
    Calls Try.prog 43 #[.slice none 0 0, .int .i64 (n : Int)] w fun e w' => ∃ A c, e = .returned (.slice A 0 c) ∧ w'.ownsRow w.heap.size 27 3 (.slice A 0 c) 0 [] ∧ Below w.heap.size w w' := by
  obtain ⟨i0, hi0, hz0, hz1, hz2⟩ := info_parts Try.partInfo
  by_cases h : n = 0
  · subst h
    go_enter Try.func43, Try.ntmps43
    go_wp2
    go_ret
    exact ⟨none, 0, rfl, World.ownsRow_nil _ _ _ _, Below.refl _ _⟩
  · have d0 : decide (0 < (n : Int)) = true := decide_eq_true (by omega)
    have d1 : decide ((n : Int) > 0) = true := decide_eq_true (by omega)
    have d2 : decide (0 < n) = true := decide_eq_true (by omega)
    have d3 : decide ((n : Int) < 0) = false := decide_eq_false (by omega)
    have s0 : ∀ W, (Instr.sliceAt 25 (.slice none 0 0) none (some (.int .i64 0)) none).run Try.prog W = .ok (.slice none 0 0) W := fun W => by
      have := psl_to none 0 0 0 0 rfl (Nat.le_refl _) W
      simpa using this
    have HN : Hid (n ≠ 0) := h
    clear h
    go_enter Try.func43, Try.ntmps43
    go_wp2_with (at_builtin; refine wpList_append_make _ rfl (.tmp 20) (.tmp 21) 25 3 rfl w.heap.size 27 i0 _ 3 24 .i64 Try.underlying25 Try.underlying3 hi0 hz0 hz1 hz2 rfl (by omega) (.slice none 0 0) 0 [] rfl (World.ownsRow_nil _ _ _ _) n rfl (ptCells (List.replicate n Pt.z)) (zzero_pts n) (ptCells_one _) (by simp only [maxLen]; omega) (by omega) (Nat.le_refl _) ?_; intro v2 w2 ho2 hg2 hat2; obtain ⟨A2, c2, rfl⟩ := own_slice7 ho2; have s1 := psl_to A2 (0 + n) c2 0 0 rfl (Nat.zero_le _); have ho3 := pown_empty ho2)
    go_ret
    exact ⟨_, _, rfl, ho3, (Below.refl _ _).grown hg2 (Nat.le_refl _) (by simp [Value.ownBlock])⟩
def ptwo1 (a b k : Nat) : Nat := if k = 0 then 0 else if k = 1 then a else a + b
def ptwoL (X Y : List Pt) (k : Nat) : List Pt := if k = 0 then [] else if k = 1 then X else X ++ Y
set_option maxRecDepth 100000 in
set_option maxHeartbeats 4000000 in
theorem pconcat_any (X Y : List Pt) (a b : Nat) (A B : Option Addr) (cA cB g c : Nat) (w : World) (ha : a = X.length) (hb : b = Y.length) (hla : a ≤ 10000) (hlb : b ≤ 10000) (hg : g < w.heap.size)
    (h0 : w.cell? ⟨g, 0, none⟩ = some (.slice A a cA)) (h1 : w.cell? ⟨g, 1, none⟩ = some (.slice B b cB)) (hA : Reads w w.heap.size 3 A a (ptCells X)) (hB : Reads w w.heap.size 3 B b (ptCells Y)) :
    Calls Try.prog 19 #[.slice (some ⟨g, 0, none⟩) 2 2] w fun e w' => ∃ A c n, e = .returned (.slice A n c) ∧ n = a + b ∧ w'.ownsRow w.heap.size 27 3 (.slice A n c) n (ptCells (X ++ Y)) ∧ Below w.heap.size w w' := by
  obtain ⟨i0, hi0, hz0, hz1, hz2⟩ := info_parts Try.partInfo
  have HL := Lib.hid (And.intro ha hb)
  have HX := Lib.hid hA
  have HY := Lib.hid hB
  have H0 := Lib.hid h0
  have H1 := Lib.hid h1
  have HG := Lib.hid hg
  have z0 := h0
  have z1 := h1
  clear ha hb hA hB h0 h1 hg
  go_enter Try.func19, Try.ntmps19
  go_wp2
  go_loop [3, 11] (fun s i => ∃ k : Nat, k ≤ 2 ∧ i = .int .i64 (k : Int) ∧ s = .int .i64 (ptwo1 a b k : Int)) (fun _ i => 2 - (intOf i).toNat)
  case atStart => exact ⟨0, by omega, rfl, rfl⟩
  case round =>
    obtain ⟨k, hk, rfl, rfl⟩ := hrel
    by_cases hlt : k < 2
    · by_cases hk0 : k = 0
      · subst hk0
        have e0 : ptwo1 a b 0 = 0 := rfl
        rw [e0]
        clear e0
        go_wp2
        go_round
        case rel => exact ⟨1, by omega, rfl, by simp [ptwo1]⟩
        case measure => simp [intOf]
      · obtain rfl : k = 1 := by omega
        have e0 : ptwo1 a b 1 = a := rfl
        rw [e0]
        clear e0
        go_wp2
        go_round
        case rel => exact ⟨2, by omega, rfl, by simp [ptwo1]⟩
        case measure => simp [intOf]
    · obtain rfl : k = 2 := by omega
      have e0 : ptwo1 a b 2 = a + b := rfl
      obtain ⟨t, ht⟩ : ∃ t, t = a + b := ⟨_, rfl⟩
      rw [e0, ← ht]
      have HGr : Hid (Calls Try.prog 43 #[.slice none 0 0, .int .i64 (t : Int)] w fun e w' => ∃ A c, e = .returned (.slice A 0 c) ∧ w'.ownsRow w.heap.size 27 3 (.slice A 0 c) 0 [] ∧ Below w.heap.size w w') := pgrow_any t w (by omega)
      have HT := Lib.hid ht
      clear e0 ht
      go_wp2_with (go_at_call 43; (with_reducible refine HGr.out.mono ?_); rintro e w1 ⟨A1, c1, rfl, ho1, hb1⟩)
      have HO1 := Lib.hid ho1
      have HB1 := Lib.hid hb1
      clear ho1 hb1
      go_loopw [6, 27] (fun v i wr => ∃ k : Nat, k ≤ 2 ∧ i = .int .i64 (k : Int) ∧ ∃ (A : Option Addr) (q cc : Nat), v = .slice A q cc ∧ q ≤ 20000 ∧ Hid (q = ptwo1 a b k ∧ wr.ownsRow w.heap.size 27 3 (.slice A q cc) q (ptCells (ptwoL X Y k))) ∧ Hid (Below w.heap.size w wr)) (fun _ i _ => 2 - (intOf i).toNat)
      case atStart => exact ⟨0, by omega, rfl, A1, 0, c1, rfl, by omega, ⟨rfl, HO1.out⟩, HB1.out⟩
      case round =>
        obtain ⟨k, hk, rfl, A2, q, c2, rfl, hq, HO, HB⟩ := hrel
        by_cases hlt : k < 2
        · by_cases hk0 : k = 0
          · subst hk0
            obtain ⟨hq0, ho⟩ := HO.out
            obtain rfl : q = 0 := hq0
            have k0 := (HB.out.cell (p := ⟨g, 0, none⟩) HG.out).trans H0.out
            have hrd : Reads wr w.heap.size 3 A a (ptCells X) := HX.out.below HB.out
            clear z0 z1
            go_wp2_with (at_builtin; refine wpList_append_any _ rfl (.tmp 31) (.tmp 32) 25 rfl w.heap.size 27 i0 _ 3 24 Try.underlying25 hi0 hz0 hz1 hz2 rfl (by omega) (.slice A2 0 c2) 0 _ rfl ho w.heap.size A a cA (ptCells X) rfl hrd (ptCells_one _) (by simp only [maxLen]; omega) (by omega) HB.out.size ?_; intro v3 w3 ho3 hg3 hat3; obtain ⟨A3, c3, rfl⟩ := own_slice7 ho3)
            have hb3 : Below w.heap.size w w3 := HB.out.grown hg3 HB.out.size (fun j hj => (ho.lt j hj).1)
            go_roundw
            case rel =>
              refine ⟨1, by omega, rfl, A3, a, c3, rfl, by omega, ⟨by simp [ptwo1], ?_⟩, hb3⟩
              simpa [ptwoL, ptCells] using ho3
            case measure => simp [intOf]
          · obtain rfl : k = 1 := by omega
            obtain ⟨hq0, ho⟩ := HO.out
            have hq1 : q = a := hq0
            have k0 := (HB.out.cell (p := ⟨g, 1, none⟩) HG.out).trans H1.out
            have hrd : Reads wr w.heap.size 3 B b (ptCells Y) := HY.out.below HB.out
            have HQ := Lib.hid hq1
            clear z0 z1 hq0 hq1
            go_wp2_with (at_builtin; refine wpList_append_any _ rfl (.tmp 31) (.tmp 32) 25 rfl w.heap.size 27 i0 _ 3 24 Try.underlying25 hi0 hz0 hz1 hz2 rfl (by omega) (.slice A2 q c2) q _ rfl ho w.heap.size B b cB (ptCells Y) rfl hrd (ptCells_one _) (by simp only [maxLen]; omega) (by omega) HB.out.size ?_; intro v3 w3 ho3 hg3 hat3; obtain ⟨A3, c3, rfl⟩ := own_slice7 ho3)
            have hb3 : Below w.heap.size w w3 := HB.out.grown hg3 HB.out.size (fun j hj => (ho.lt j hj).1)
            go_roundw
            case rel =>
              refine ⟨2, by omega, rfl, A3, q + b, c3, rfl, by have := HQ.out; omega, ⟨by rw [HQ.out]; rfl, ?_⟩, hb3⟩
              have e1 : ptwoL X Y 2 = X ++ Y := rfl
              have e2 : ptwoL X Y 1 = X := rfl
              rw [e2] at ho3
              rw [e1, ptCells_append]
              exact ho3
            case measure => simp [intOf]
        · obtain rfl : k = 2 := by omega
          clear z0 z1
          go_wp2
          go_ret
          exact ⟨A2, c2, q, rfl, HO.out.1, HO.out.2, HB.out⟩
def PtN (w : World) (base : Nat) (A : Option Addr) (l : List Pt) (c : Nat) : Prop := w.ownsRow base 27 3 (.slice A l.length c) l.length (ptCells l)
theorem PtN.ptl {w : World} {base c : Nat} {A : Option Addr} {l : List Pt} (h : PtN w base A l c) : PtL w w.heap.size A l := by
  obtain ⟨A', c', e, hp⟩ := pt_own rfl h
  simp only [Value.slice.injEq] at e
  obtain ⟨rfl, -, -⟩ := e
  exact hp
theorem pown_cap {w : World} {base n c : Nat} {A : Option Addr} {xs : List Value} (h : w.ownsRow base 27 3 (.slice A n c) n xs) : n ≤ c ∧ c ≤ 9223372036854775807 := by
  rcases h.2 with ⟨h1, h0⟩ | ⟨g, cap, cur, he, h2, h3, h4, h5, h6, h7⟩
  · simp only [Value.slice.injEq] at h1
    obtain ⟨rfl, rfl, rfl⟩ := h1
    exact ⟨Nat.le_refl _, by omega⟩
  · simp only [Value.slice.injEq] at he
    obtain ⟨rfl, -, rfl⟩ := he
    unfold maxLen at h5
    exact ⟨h4, by omega⟩
theorem two_new (w : World) (A B : Option Addr) (a b cA cB : Nat) (t : TypeId) : (w.alloc (.cells #[.slice A a cA, .slice B b cB] t)).cell? ⟨w.heap.size, 0, none⟩ = some (.slice A a cA) ∧ (w.alloc (.cells #[.slice A a cA, .slice B b cB] t)).cell? ⟨w.heap.size, 1, none⟩ = some (.slice B b cB) := by
  have h := Blk.new w t #[.slice A a cA, .slice B b cB]
  exact ⟨by rw [h.cell]; rfl, by rw [h.cell]; rfl⟩
end Go.Proofs.Ytnmcohdlogepdaa
end
section
set_option linter.unusedVariables false
set_option linter.unusedSimpArgs false
namespace Go.Proofs.Ytnmcohdlogepdaa
open Go.RowKit
def GivesRefP (A : Option Addr) (M : List UInt8) (c : Nat) (r : St × Pt) (w : World) (e : Ending) (w' : World) : Prop :=
  ∃ x0 x1 x2, e = .returned (.tuple #[.agg #[x0, x1, x2], .agg #[.int .i64 r.2.f, .int .i64 r.2.s, .int .i64 r.2.o]]) ∧ RefV A M c (.agg #[x0, x1, x2]) r.1 ∧ Below w.heap.size w w'
theorem three_then {w w1 : World} {o p q : Obj} (h : Below (((w.alloc o).alloc p).alloc q).heap.size (((w.alloc o).alloc p).alloc q) w1) : Below w.heap.size w w1 :=
  ((((Below.refl _ _).alloc (Nat.le_refl _) o).alloc (by simp) p).alloc (by simp <;> omega) q).trans (h.mono (by simp <;> omega))
theorem var_then {w1 w2 : World} {o : Obj} (h : Below (w1.alloc o).heap.size (w1.alloc o) w2) : Below w1.heap.size w1 w2 ∧ w1.heap.size < w2.heap.size := by
  have h0 := (Below.refl w1.heap.size w1).alloc (Nat.le_refl _) o
  have h2 := h.size
  have h1 : (w1.alloc o).heap.size = w1.heap.size + 1 := by simp
  exact ⟨h0.trans (h.mono (by omega)), by omega⟩
theorem rb_var {w1 : World} {B : Nat} {A : Option Addr} {M : List UInt8} {o : Obj} (h : RB w1 B A M) (hB : B ≤ w1.heap.size) : RB (w1.alloc o) B A M := h.alloc hB o
theorem size_var {w1 : World} {B : Nat} {o : Obj} (hB : B ≤ w1.heap.size) : B ≤ (w1.alloc o).heap.size := by
  simp
  omega
def Res2 (w0 W : World) (g : Nat) : Prop := Below w0.heap.size w0 W ∧ g + 1 < W.heap.size ∧ Blk W g 51 #[.slice none 0 0, .int .i64 0, .bool false] ∧ Blk W (g + 1) 27 #[.int .i64 0, .int .i64 0, .int .i64 0]
theorem Res2.up {w0 W W' : World} {g : Nat} (h : Res2 w0 W g) (hb : Below W.heap.size W W') : Res2 w0 W' g :=
  ⟨h.1.trans (hb.mono h.1.size), Nat.lt_of_lt_of_le h.2.1 hb.size, h.2.2.1.below hb (by have := h.2.1; omega), h.2.2.2.below hb h.2.1⟩
theorem Res2.cells {w0 W : World} {g : Nat} (h : Res2 w0 W g) : (W.cell? ⟨g, 0, none⟩ = some (.slice none 0 0) ∧ W.cell? ⟨g, 1, none⟩ = some (.int .i64 0) ∧ W.cell? ⟨g, 2, none⟩ = some (.bool false)) ∧ (W.cell? ⟨g + 1, 0, none⟩ = some (.int .i64 0) ∧ W.cell? ⟨g + 1, 1, none⟩ = some (.int .i64 0) ∧ W.cell? ⟨g + 1, 2, none⟩ = some (.int .i64 0)) ∧ (∀ k, W.frozen? ⟨g, k, none⟩ = false) ∧ ∀ k, W.frozen? ⟨g + 1, k, none⟩ = false :=
  ⟨⟨by rw [h.2.2.1.cell]; rfl, by rw [h.2.2.1.cell]; rfl, by rw [h.2.2.1.cell]; rfl⟩, ⟨by rw [h.2.2.2.cell]; rfl, by rw [h.2.2.2.cell]; rfl, by rw [h.2.2.2.cell]; rfl⟩, fun k => h.2.2.1.frozen k, fun k => h.2.2.2.frozen k⟩
theorem res2_new (w : World) (o : Obj) : Res2 w (((w.alloc o).alloc (.cells #[.slice none 0 0, .int .i64 0, .bool false] 51)).alloc (.cells #[.int .i64 0, .int .i64 0, .int .i64 0] 27)) (w.heap.size + 1) := by
  refine ⟨(((Below.refl _ _).alloc (Nat.le_refl _) o).alloc (by simp) _).alloc (by simp <;> omega) _, by simp, ?_, ?_⟩
  · have h := (Blk.new (w.alloc o) 51 #[.slice none 0 0, .int .i64 0, .bool false]).alloc (.cells #[.int .i64 0, .int .i64 0, .int .i64 0] 27)
    rwa [show (w.alloc o).heap.size = w.heap.size + 1 by simp] at h
  · have h := Blk.new ((w.alloc o).alloc (.cells #[.slice none 0 0, .int .i64 0, .bool false] 51)) 27 #[.int .i64 0, .int .i64 0, .int .i64 0]
    rwa [show ((w.alloc o).alloc (.cells #[.slice none 0 0, .int .i64 0, .bool false] 51)).heap.size = w.heap.size + 1 + 1 by simp] at h
set_option maxRecDepth 100000 in
set_option maxHeartbeats 4000000 in
theorem rtake_any (A : Option Addr) (M : List UInt8) (c B : Nat) (v : Value) (st : St) (w : World) (h : RefV A M c v st) (hr : RB w B A M) (hB : B ≤ w.heap.size) (hc : M.length ≤ c) (hl : M.length ≤ 1048576) :
    Calls Try.prog 26 #[v] w (GivesRefP A M c (stepPt st) w) := by
  obtain ⟨s1, n1, e1⟩ : ∃ s n, stepNum st = (s, n) := ⟨_, _, rfl⟩
  obtain ⟨s2, n2, e2⟩ : ∃ s n, stepNum s1 = (s, n) := ⟨_, _, rfl⟩
  obtain ⟨s3, n3, e3⟩ : ∃ s n, stepNum s2 = (s, n) := ⟨_, _, rfl⟩
  have HE : Hid (stepPt st = (s3, ⟨(n1 : Int), (n2 : Int), (n3 : Int)⟩)) := by show _ = _; unfold stepPt; rw [e1]; simp only [e2, e3]
  have HT1 := Lib.hid (fun W (hrW : RB W B A M) (hBW : B ≤ W.heap.size) => by have := refNum_any A M c B v st W h hrW hBW hc hl; rw [e1] at this; exact this)
  have HT2 := Lib.hid (fun W x (hx : RefV A M c x s1) (hrW : RB W B A M) (hBW : B ≤ W.heap.size) => by have := refNum_any A M c B x s1 W hx hrW hBW hc hl; rw [e2] at this; exact this)
  have HT3 := Lib.hid (fun W x (hx : RefV A M c x s2) (hrW : RB W B A M) (hBW : B ≤ W.heap.size) => by have := refNum_any A M c B x s2 W hx hrW hBW hc hl; rw [e3] at this; exact this)
  have z0 := fun w' => Try.partBuild0 w'
  have hf := refv_form h
  clear e1 e2 e3
  obtain ⟨x0, x1, x2, rfl⟩ := hf
  obtain ⟨X0, m0, d0, k0, b0, rfl, rfl, rfl⟩ := refv_parts h
  have HR2 := Lib.hid (res2_new w (.cells #[.slice X0 m0 d0, .int .i64 (k0 : Int), .bool b0] 51))
  obtain ⟨gr, hgr⟩ : ∃ gr, gr = w.heap.size + 1 := ⟨_, rfl⟩
  rw [← hgr] at HR2
  have HGR := Lib.hid hgr
  clear h hgr
  go_enter Try.func26, Try.ntmps26
  go_wp2_with (first
    | (go_at_call 25; (with_reducible refine (HT3.out _ _ hv2 (rb_var r2 z2) (size_var z2)).mono ?_); rintro e w3 ⟨y0, y1, y2, he, hv3, hb3⟩; obtain ⟨Y3, m3, d3, k3, b3, rfl, rfl, rfl⟩ := refv_parts hv3; subst he; obtain ⟨g3, l3⟩ := var_then hb3; have R3 := R2.up g3; rw [HGR.out] at R3; obtain ⟨⟨p0, p1, p2⟩, ⟨p3, p4, p5⟩, fz1, fz2⟩ := R3.cells; have l4 : w.heap.size + 1 + 1 < w3.heap.size := R3.2.1; have l5 : w.heap.size + 1 < w3.heap.size := Nat.lt_trans (Nat.lt_succ_self _) l4)
    | (go_at_call 25; (with_reducible refine (HT2.out _ _ hv1 (rb_var r1 z1) (size_var z1)).mono ?_); rintro e w2 ⟨y0, y1, y2, he, hv2, hb2⟩; obtain ⟨Y2, m2, d2, k2, b2, rfl, rfl, rfl⟩ := refv_parts hv2; subst he; obtain ⟨g2, l2⟩ := var_then hb2; have R2 := R1.up g2; have r2 := r1.below (g2.mono z1); have z2 := Nat.le_trans z1 g2.size)
    | (go_at_call 25; (with_reducible refine (HT1.out _ (((hr.alloc hB _).alloc (by simp; omega) _).alloc (by simp <;> omega) _) (by simp <;> omega)).mono ?_); rintro e w1 ⟨y0, y1, y2, he, hv1, hb1⟩; obtain ⟨Y1, m1, d1, k1, b1, rfl, rfl, rfl⟩ := refv_parts hv1; subst he; have g1 := three_then hb1; have R1 := HR2.out.up hb1; have r1 := hr.below (g1.mono hB); have z1 := Nat.le_trans hB g1.size))
  obtain ⟨E, hE⟩ : ∃ E, E = ((((((w3.setCell ⟨w.heap.size + 1, 0, none⟩ (.slice Y3 m3 d3)).setCell ⟨w.heap.size + 1, 1, none⟩ (.int .i64 (k3 : Int))).setCell ⟨w.heap.size + 1, 2, none⟩ (.bool b3)).setCell ⟨w.heap.size + 1 + 1, 0, none⟩ (.int .i64 (n1 : Int))).setCell ⟨w.heap.size + 1 + 1, 1, none⟩ (.int .i64 (n2 : Int))).setCell ⟨w.heap.size + 1 + 1, 2, none⟩ (.int .i64 (n3 : Int))).alloc (.cells #[.slice Y3 m3 d3, .int .i64 (k3 : Int), .bool b3] 51) := ⟨_, rfl⟩
  have K1 := ((R3.2.2.1.set_ 0 (.slice Y3 m3 d3)).set_ 1 (.int .i64 (k3 : Int))).set_ 2 (.bool b3)
  have K1 := Blk.far (p := ⟨w.heap.size + 1 + 1, 2, none⟩) (Blk.far (p := ⟨w.heap.size + 1 + 1, 1, none⟩) (Blk.far (p := ⟨w.heap.size + 1 + 1, 0, none⟩) K1 (by simp) (.int .i64 (n1 : Int))) (by simp) (.int .i64 (n2 : Int))) (by simp) (.int .i64 (n3 : Int))
  have K2 := Blk.far (p := ⟨w.heap.size + 1, 2, none⟩) (Blk.far (p := ⟨w.heap.size + 1, 1, none⟩) (Blk.far (p := ⟨w.heap.size + 1, 0, none⟩) R3.2.2.2 (by simp) (.slice Y3 m3 d3)) (by simp) (.int .i64 (k3 : Int))) (by simp) (.bool b3)
  have K2 := ((K2.set_ 0 (.int .i64 (n1 : Int))).set_ 1 (.int .i64 (n2 : Int))).set_ 2 (.int .i64 (n3 : Int))
  have K1 := K1.alloc (.cells #[.slice Y3 m3 d3, .int .i64 (k3 : Int), .bool b3] 51)
  have K2 := K2.alloc (.cells #[.slice Y3 m3 d3, .int .i64 (k3 : Int), .bool b3] 51)
  have hb : Below w.heap.size w E := by
    rw [hE]
    exact (below3 (below3 R3.1 (by omega) _ _ _) (by omega) _ _ _).alloc (by have := R3.1.size; simpa [World.setCell] using this) _
  rw [← hE] at K1 K2 ⊢
  have r0 : E.cell? ⟨w.heap.size + 1, 0, none⟩ = some (.slice Y3 m3 d3) := by rw [K1.cell]; rfl
  have r1 : E.cell? ⟨w.heap.size + 1, 1, none⟩ = some (.int .i64 (k3 : Int)) := by rw [K1.cell]; rfl
  have r2 : E.cell? ⟨w.heap.size + 1, 2, none⟩ = some (.bool b3) := by rw [K1.cell]; rfl
  have r3 : E.cell? ⟨w.heap.size + 1 + 1, 0, none⟩ = some (.int .i64 (n1 : Int)) := by rw [K2.cell]; rfl
  have r4 : E.cell? ⟨w.heap.size + 1 + 1, 1, none⟩ = some (.int .i64 (n2 : Int)) := by rw [K2.cell]; rfl
  have r5 : E.cell? ⟨w.heap.size + 1 + 1, 2, none⟩ = some (.int .i64 (n3 : Int)) := by rw [K2.cell]; rfl
  refine bodyPost_ret (v := .tuple #[.agg #[.slice Y3 m3 d3, .int .i64 (k3 : Int), .bool b3], .agg #[.int .i64 (n1 : Int), .int .i64 (n2 : Int), .int .i64 (n3 : Int)]]) (by simp [results, Try.results26, go_sem, r0, r1, r2, r3, r4, r5]) rfl ?_
  rw [HE.out]
  exact ⟨_, _, _, rfl, hv3, hb⟩
end Go.Proofs.Ytnmcohdlogepdaa
end
