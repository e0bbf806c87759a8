/- The walk of awake: chapter 4's example, and others, hold. -/
import Derived.Test.YtmmilgjdngdnfaaDoorIdsProg
import Derived.Test.YtmmilgjdngdnfaaDoorIdsFew
set_option linter.unusedVariables false
namespace Go.Proofs.YtmmilgjdngdnfaaDoor
open Go.RowKit

def idA : Bs := List.replicate 32 1
def idB : Bs := List.replicate 32 2
def idC : Bs := List.replicate 32 10
theorem aw_right : rightB idA = true ∧ rightB [97] = false := by decide
theorem aw_rises : risesL [idA, idB] = true ∧ risesL [idB, idA] = false := by decide +kernel
theorem aw_of : ofL [idB, [120], idA, idB] = [idA, idB] := by decide +kernel
theorem aw_has : hasL [idA, idB] idB = true := by decide +kernel
theorem aw_union : (unionL [idA] [idB]).length = 2 := by decide +kernel
theorem aw_meet : (meetL [idA] [idB]).length = 0 := by decide +kernel
theorem aw_less : (lessL [idA, idB] [idB]).length = 1 := by decide +kernel
theorem aw_parse : parseL [48, 97] = none := by decide +kernel
theorem aw_hex : parseL (hexL idC) = some idC := by rw [parse_hex, if_pos (by decide)]
theorem aw_hexlen : (hexL idC).length = 64 := by decide +kernel
theorem aw_hexcut : (hexL idC).take 4 = [48, 97, 48, 97] := by decide +kernel
theorem aw_tag : tagL [idB, idA] = none ∧ ∃ o, tagL [idA, idB] = some o ∧ o.length = 32 := by
  refine ⟨?_, idL [idA, idB].flatten, ?_, idL_length _⟩
  · unfold tagL; rw [aw_rises.2]; rfl
  · unfold tagL; rw [aw_rises.1]; rfl
/-- Texts that were just made. -/
theorem ss_new (w : World) (Ls : List Bs) : SS (w.alloc (.cells (scells Ls).toArray 9)) (w.heap.size + 1) (some ⟨w.heap.size, 0, none⟩) Ls := by
  refine ⟨by simp [scells_length], fun h0 => ⟨_, rfl, by simp, fun j u hu => ?_⟩⟩
  have h := heap_alloc_new w (.cells (scells Ls).toArray 9)
  have e : (⟨w.heap.size, 0, none⟩ : Addr).add j = ⟨w.heap.size, j, none⟩ := by unfold Addr.add; split <;> simp_all
  rw [e, (blk_cell h j).1]
  simpa using hu
theorem alloc_below (w : World) (o : Obj) : Below w.heap.size w (w.alloc o) := (Below.refl _ _).alloc (Nat.le_refl _) o
/-- A call over texts that were just made, with its world's frame. -/
theorem tag_new (w : World) (C : Array Value) (n : Nat) (Ls : List Bs) (r : Value) (hT : Tab w) (hC : C = (scells Ls).toArray) (hn : n = Ls.length) (h1 : Ls.length ≤ 10) (hr : idErr (tagL Ls) = r) :
    Calls Tryd.prog 9 #[.slice (some ⟨w.heap.size, 0, none⟩) n n] (w.alloc (.cells C 9)) fun e w' => e = .returned r ∧ Below w.heap.size w w' := by
  subst hC hr
  have hb := alloc_below w (.cells (scells Ls).toArray 9)
  refine (idsTag_any Ls (some ⟨w.heap.size, 0, none⟩) n n (w.heap.size + 1) _ (hT.below hb) hn (ss_new w Ls) (by omega) (Nat.le_refl _) (by omega)).mono ?_
  rintro e w' ⟨rfl, h⟩
  exact ⟨rfl, hb.trans (h.mono hb.size)⟩
theorem rising_new (w : World) (C : Array Value) (n : Nat) (Ls : List Bs) (r : Bool) (hC : C = (scells Ls).toArray) (hn : n = Ls.length) (h1 : Ls.length ≤ 10) (hr : risesL Ls = r) :
    Calls Tryd.prog 11 #[.slice (some ⟨w.heap.size, 0, none⟩) n n] (w.alloc (.cells C 9)) fun e w' => e = .returned (.bool r) ∧ Below w.heap.size w w' := by
  subst hC hr
  have hb := alloc_below w (.cells (scells Ls).toArray 9)
  refine (idsRising_any Ls (some ⟨w.heap.size, 0, none⟩) n n (w.heap.size + 1) _ hn (ss_new w Ls) (by omega) (Nat.le_refl _) (by omega)).mono ?_
  rintro e w' ⟨rfl, h⟩
  exact ⟨rfl, hb.trans (h.mono hb.size)⟩
theorem has_new (w : World) (C : Array Value) (n : Nat) (Ls : List Bs) (x : Bs) (t : ByteArray) (r : Bool) (hC : C = (scells Ls).toArray) (hn : n = Ls.length) (h1 : Ls.length ≤ 10) (ht : text x = t) (hr : hasL Ls x = r) :
    Calls Tryd.prog 16 #[.slice (some ⟨w.heap.size, 0, none⟩) n n, .string t] (w.alloc (.cells C 9)) fun e w' => e = .returned (.bool r) ∧ Below w.heap.size w w' := by
  subst hC hr ht
  have hb := alloc_below w (.cells (scells Ls).toArray 9)
  refine (idsHas_any Ls x (some ⟨w.heap.size, 0, none⟩) n n (w.heap.size + 1) _ hn (ss_new w Ls) (by omega) (Nat.le_refl _) (by omega)).mono ?_
  rintro e w' ⟨rfl, h⟩
  exact ⟨rfl, hb.trans (h.mono hb.size)⟩
theorem of_new (w : World) (C : Array Value) (n : Nat) (Ls S : List Bs) (k : Nat) (hC : C = (scells Ls).toArray) (hn : n = Ls.length) (h1 : Ls.length ≤ 10) (hr : ofL Ls = S) (hk : S.length = k) :
    Calls Tryd.prog 14 #[.slice (some ⟨w.heap.size, 0, none⟩) n n] (w.alloc (.cells C 9)) fun e w' => ∃ A c, e = .returned (.slice A k c) ∧ Hid (SS w' w'.heap.size A S) ∧ Below w.heap.size w w' := by
  subst hC hr hk
  have hb := alloc_below w (.cells (scells Ls).toArray 9)
  refine (idsOf_any Ls (some ⟨w.heap.size, 0, none⟩) n n (w.heap.size + 1) _ hn (ss_new w Ls) (by omega) (Nat.le_refl _) (by omega)).mono ?_
  rintro e w' ⟨A, c, rfl, h2, _, _, h⟩
  exact ⟨A, c, rfl, h2, hb.trans (h.mono hb.size)⟩
theorem texts_new (w : World) (A : Option Addr) (k c : Nat) (C : Array Value) (S : List Bs) (hS : SS w w.heap.size A S) (hC : C = (scells S).toArray) (hk : k = S.length) (h1 : S.length ≤ 10) :
    Calls Tryd.prog 13 #[.slice A k c, .slice (some ⟨w.heap.size, 0, none⟩) k k] (w.alloc (.cells C 9)) fun e w' => e = .returned (.bool true) ∧ Below w.heap.size w w' := by
  subst hC
  have hb := alloc_below w (.cells (scells S).toArray 9)
  have h := texts_any S S A (some ⟨w.heap.size, 0, none⟩) k c k k (w.heap.size + 1) (w.alloc (.cells (scells S).toArray 9)) hk hk ((hS.below hb).more (by omega)) (ss_new w S) (by omega) (by omega)
  rw [decide_eq_true (show S = S from rfl)] at h
  refine h.mono ?_
  rintro e w' ⟨rfl, h⟩
  exact ⟨rfl, hb.trans (h.mono hb.size)⟩
/-- Two lists that were just made, one behind the other. -/
theorem two_new (f : Nat) (F : List Bs → List Bs → List Bs) (hF : ∀ (Ls Ms : List Bs) (A C : Option Addr) (n c m d B : Nat) (w : World) (HN : Hid (n = Ls.length)) (HM : Hid (m = Ms.length)) (hr : SS w B A Ls) (hr2 : SS w B C Ms) (hn : n ≤ 1000) (hm : m ≤ 1000) (hc : n ≤ c) (hcm : c ≤ 9223372036854775807) (hd : m ≤ d) (hdm : d ≤ 9223372036854775807), Calls Tryd.prog f #[.slice A n c, .slice C m d] w (GivesStrs (F Ls Ms) w))
    (w : World) (C D : Array Value) (n m k : Nat) (Ls Ms : List Bs) (hC : C = (scells Ls).toArray) (hD : D = (scells Ms).toArray) (hn : n = Ls.length) (hm : m = Ms.length) (h1 : Ls.length ≤ 10) (h2 : Ms.length ≤ 10) (hk : (F Ls Ms).length = k) :
    Calls Tryd.prog f #[.slice (some ⟨w.heap.size, 0, none⟩) n n, .slice (some ⟨w.heap.size + 1, 0, none⟩) m m] ((w.alloc (.cells C 9)).alloc (.cells D 9)) fun e w' => ∃ A c, e = .returned (.slice A k c) ∧ Below w.heap.size w w' := by
  subst hC hD hk
  have hb := alloc_below w (.cells (scells Ls).toArray 9)
  have hb2 : Below w.heap.size w ((w.alloc (.cells (scells Ls).toArray 9)).alloc (.cells (scells Ms).toArray 9)) := hb.alloc hb.size _
  have s1 := ss_new w Ls
  have s2 := ss_new (w.alloc (.cells (scells Ls).toArray 9)) Ms
  have z : (w.alloc (.cells (scells Ls).toArray 9)).heap.size = w.heap.size + 1 := by simp
  rw [z] at s2
  refine (hF Ls Ms (some ⟨w.heap.size, 0, none⟩) (some ⟨w.heap.size + 1, 0, none⟩) n n m m (w.heap.size + 2) _ hn hm ((s1.below ((Below.refl _ _).alloc (by simp) _)).more (by omega)) s2 (by omega) (by omega) (Nat.le_refl _) (by omega) (Nat.le_refl _) (by omega)).mono ?_
  rintro e w' ⟨A, c, rfl, _, _, _, h⟩
  exact ⟨A, c, rfl, hb2.trans (h.mono hb2.size)⟩

theorem chain {w V V' : World} (h : Below w.heap.size w V) (k : Below V.heap.size V V') : Below w.heap.size w V' := h.trans (k.mono h.size)
theorem text_take (L : Bs) (k : Nat) : (text L).extract 0 k = text (L.take k) := by
  apply ByteArray.ext
  rw [ByteArray.data_extract]
  show L.toArray.extract 0 k = (L.take k).toArray
  simp
theorem cut_text (L : Bs) (W : World) (k : Nat) (h : k ≤ L.length) : (Instr.sliceAt 9 (.string (text L)) none (some (.int .i64 (k : Int))) none).run Tryd.prog W = .ok (.string (text (L.take k))) W := by
  have hs := text_size L
  have e : (k : Int).toNat = k := by omega
  rw [run_sliceAt_string _ _ _ _ _ _ Tryd.underlying9, run_slice_string_h _ _ _ Tryd.underlying9 .i64 (k : Int) (by omega) (by omega), e, text_take]

set_option maxRecDepth 100000 in
set_option maxHeartbeats 4000000 in
theorem awake_any (w : World) (hT : Tab w) : Calls Tryd.prog 8 #[] w fun e w' => e = .returned (.bool true) ∧ Below w.heap.size w w' := by
  obtain ⟨ta, ha⟩ : ∃ t, t = text idA := ⟨_, rfl⟩
  obtain ⟨tb, hb⟩ : ∃ t, t = text idB := ⟨_, rfl⟩
  obtain ⟨tc, hc⟩ : ∃ t, t = text idC := ⟨_, rfl⟩
  obtain ⟨th, hh⟩ : ∃ t, t = text (hexL idC) := ⟨_, rfl⟩
  obtain ⟨o, ho, hol⟩ := aw_tag.2
  obtain ⟨to, hto⟩ : ∃ t, t = text o := ⟨_, rfl⟩
  have hts : to.size = 32 := by rw [hto, text_size]; exact hol
  have hhs : th.size = 64 := by rw [hh, text_size]; exact aw_hexlen
  have I1 : Hid (∀ V, Calls Tryd.prog 30 #[.int .u8 1] V fun e w' => e = .returned (.string ta) ∧ Below V.heap.size V w') := fun V => by rw [ha]; exact lawId_any 1 V
  have I2 : Hid (∀ V, Calls Tryd.prog 30 #[.int .u8 2] V fun e w' => e = .returned (.string tb) ∧ Below V.heap.size V w') := fun V => by rw [hb]; exact lawId_any 2 V
  have I3 : Hid (∀ V, Calls Tryd.prog 30 #[.int .u8 10] V fun e w' => e = .returned (.string tc) ∧ Below V.heap.size V w') := fun V => by rw [hc]; exact lawId_any 10 V
  have X1 : Hid (∀ V, Calls Tryd.prog 28 #[.string tc] V fun e w' => e = .returned (.string th) ∧ Below V.heap.size V w') := fun V => by rw [hc, hh]; exact idsHex_any idC V (by decide)
  have P1 : Hid (∀ V, Calls Tryd.prog 26 #[.string th] V fun e w' => e = .returned (.tuple #[.string tc, .int .i64 0]) ∧ Below V.heap.size V w') := fun V => by
    have := idsParse_any (hexL idC) V (by rw [aw_hexlen]; omega)
    rw [aw_hex] at this
    rw [hh, hc]; exact this
  have P2 : Hid (∀ V, Calls Tryd.prog 26 #[.string { data := #[48, 97] }] V fun e w' => e = .returned (.tuple #[.string { data := #[] }, .int .i64 5]) ∧ Below V.heap.size V w') := fun V => by
    have := idsParse_any [48, 97] V (by decide)
    rw [aw_parse] at this
    exact this
  have T1 : Hid (∀ V, Below w.heap.size w V → Calls Tryd.prog 9 #[.slice (some ⟨V.heap.size, 0, none⟩) 2 2] (V.alloc (.cells #[.string tb, .string ta] 9)) fun e w' => e = .returned (.tuple #[.string { data := #[] }, .int .i64 5]) ∧ Below V.heap.size V w') := fun V h =>
    tag_new V _ 2 [idB, idA] _ (hT.below h) (by rw [ha, hb]; rfl) rfl (by decide) (by rw [aw_tag.1]; rfl)
  have T2 : Hid (∀ V, Below w.heap.size w V → Calls Tryd.prog 9 #[.slice (some ⟨V.heap.size, 0, none⟩) 2 2] (V.alloc (.cells #[.string ta, .string tb] 9)) fun e w' => e = .returned (.tuple #[.string to, .int .i64 0]) ∧ Below V.heap.size V w') := fun V h =>
    tag_new V _ 2 [idA, idB] _ (hT.below h) (by rw [ha, hb]; rfl) rfl (by decide) (by rw [ho, hto]; rfl)
  have R1 : Hid (∀ V, Calls Tryd.prog 18 #[.string ta] V fun e w' => e = .returned (.bool true) ∧ Below V.heap.size V w') := fun V => by
    have := idsRight_any idA V
    rw [aw_right.1] at this; rw [ha]; exact this
  have R2 : Hid (∀ V, Calls Tryd.prog 18 #[.string { data := #[97] }] V fun e w' => e = .returned (.bool false) ∧ Below V.heap.size V w') := fun V => by
    have := idsRight_any [97] V
    rw [aw_right.2] at this; exact this
  have S1 : Hid (∀ V, Calls Tryd.prog 11 #[.slice (some ⟨V.heap.size, 0, none⟩) 2 2] (V.alloc (.cells #[.string ta, .string tb] 9)) fun e w' => e = .returned (.bool true) ∧ Below V.heap.size V w') := fun V =>
    rising_new V _ 2 [idA, idB] _ (by rw [ha, hb]; rfl) rfl (by decide) aw_rises.1
  have S2 : Hid (∀ V, Calls Tryd.prog 11 #[.slice (some ⟨V.heap.size, 0, none⟩) 2 2] (V.alloc (.cells #[.string tb, .string ta] 9)) fun e w' => e = .returned (.bool false) ∧ Below V.heap.size V w') := fun V =>
    rising_new V _ 2 [idB, idA] _ (by rw [ha, hb]; rfl) rfl (by decide) aw_rises.2
  have O1 : Hid (∀ V, Calls Tryd.prog 14 #[.slice (some ⟨V.heap.size, 0, none⟩) 4 4] (V.alloc (.cells #[.string tb, .string { data := #[120] }, .string ta, .string tb] 9)) fun e w' => ∃ A c, e = .returned (.slice A 2 c) ∧ Hid (SS w' w'.heap.size A [idA, idB]) ∧ Below V.heap.size V w') := fun V =>
    of_new V _ 4 [idB, [120], idA, idB] [idA, idB] 2 (by rw [ha, hb]; rfl) rfl (by decide) aw_of rfl
  have X2 : Hid (∀ (V : World) (A : Option Addr) (c : Nat), SS V V.heap.size A [idA, idB] → Calls Tryd.prog 13 #[.slice A 2 c, .slice (some ⟨V.heap.size, 0, none⟩) 2 2] (V.alloc (.cells #[.string ta, .string tb] 9)) fun e w' => e = .returned (.bool true) ∧ Below V.heap.size V w') := fun V A c h =>
    texts_new V A 2 c _ [idA, idB] h (by rw [ha, hb]; rfl) rfl (by decide)
  have H1 : Hid (∀ V, Calls Tryd.prog 16 #[.slice (some ⟨V.heap.size, 0, none⟩) 2 2, .string tb] (V.alloc (.cells #[.string ta, .string tb] 9)) fun e w' => e = .returned (.bool true) ∧ Below V.heap.size V w') := fun V =>
    has_new V _ 2 [idA, idB] idB tb _ (by rw [ha, hb]; rfl) rfl (by decide) hb.symm aw_has
  have U1 : Hid (∀ V, Calls Tryd.prog 20 #[.slice (some ⟨V.heap.size, 0, none⟩) 1 1, .slice (some ⟨V.heap.size + 1, 0, none⟩) 1 1] ((V.alloc (.cells #[.string ta] 9)).alloc (.cells #[.string tb] 9)) fun e w' => ∃ A c, e = .returned (.slice A 2 c) ∧ Below V.heap.size V w') := fun V =>
    two_new 20 unionL idsUnion_any V _ _ 1 1 2 [idA] [idB] (by rw [ha]; rfl) (by rw [hb]; rfl) rfl rfl (by decide) (by decide) aw_union
  have M1 : Hid (∀ V, Calls Tryd.prog 22 #[.slice (some ⟨V.heap.size, 0, none⟩) 1 1, .slice (some ⟨V.heap.size + 1, 0, none⟩) 1 1] ((V.alloc (.cells #[.string ta] 9)).alloc (.cells #[.string tb] 9)) fun e w' => ∃ A c, e = .returned (.slice A 0 c) ∧ Below V.heap.size V w') := fun V =>
    two_new 22 meetL idsMeet_any V _ _ 1 1 0 [idA] [idB] (by rw [ha]; rfl) (by rw [hb]; rfl) rfl rfl (by decide) (by decide) aw_meet
  have L1 : Hid (∀ V, Calls Tryd.prog 24 #[.slice (some ⟨V.heap.size, 0, none⟩) 2 2, .slice (some ⟨V.heap.size + 1, 0, none⟩) 1 1] ((V.alloc (.cells #[.string ta, .string tb] 9)).alloc (.cells #[.string tb] 9)) fun e w' => ∃ A c, e = .returned (.slice A 1 c) ∧ Below V.heap.size V w') := fun V =>
    two_new 24 lessL idsLess_any V _ _ 2 1 1 [idA, idB] [idB] (by rw [ha, hb]; rfl) (by rw [hb]; rfl) rfl rfl (by decide) (by decide) aw_less
  have C1 : ∀ V, (Instr.sliceAt 9 (.string th) none (some (.int .i64 4)) none).run Tryd.prog V = .ok (.string { data := #[48, 97, 48, 97] }) V := fun V => by
    have := cut_text (hexL idC) V 4 (by rw [aw_hexlen]; omega)
    rw [aw_hexcut] at this
    rw [hh]; exact this
  have b0 : Below w.heap.size w w := Below.refl _ _
  clear ha hb hc hh ho hol hto hT
  go_enter Tryd.func8, Tryd.ntmps8
  go_wp2_with (first
    | (go_at_call 30; (with_reducible refine (I1.out _).mono ?_); rintro e wq ⟨rfl, hq⟩; have bq := chain (by assumption) hq)
    | (go_at_call 30; (with_reducible refine (I2.out _).mono ?_); rintro e wq ⟨rfl, hq⟩; have bq := chain (by assumption) hq)
    | (go_at_call 30; (with_reducible refine (I3.out _).mono ?_); rintro e wq ⟨rfl, hq⟩; have bq := chain (by assumption) hq)
    | (go_at_call 28; (with_reducible refine (X1.out _).mono ?_); rintro e wq ⟨rfl, hq⟩; have bq := chain (by assumption) hq)
    | (go_at_call 26; (with_reducible refine (P1.out _).mono ?_); rintro e wq ⟨rfl, hq⟩; have bq := chain (by assumption) hq)
    | (go_at_call 26; (with_reducible refine (P2.out _).mono ?_); rintro e wq ⟨rfl, hq⟩; have bq := chain (by assumption) hq)
    | (go_at_call 9; (with_reducible refine (T1.out _ (by assumption)).mono ?_); rintro e wq ⟨rfl, hq⟩; have bq := chain (by assumption) hq)
    | (go_at_call 9; (with_reducible refine (T2.out _ (by assumption)).mono ?_); rintro e wq ⟨rfl, hq⟩; have bq := chain (by assumption) hq)
    | (go_at_call 18; (with_reducible refine (R1.out _).mono ?_); rintro e wq ⟨rfl, hq⟩; have bq := chain (by assumption) hq)
    | (go_at_call 18; (with_reducible refine (R2.out _).mono ?_); rintro e wq ⟨rfl, hq⟩; have bq := chain (by assumption) hq)
    | (go_at_call 11; (with_reducible refine (S1.out _).mono ?_); rintro e wq ⟨rfl, hq⟩; have bq := chain (by assumption) hq)
    | (go_at_call 11; (with_reducible refine (S2.out _).mono ?_); rintro e wq ⟨rfl, hq⟩; have bq := chain (by assumption) hq)
    | (go_at_call 14; (with_reducible refine (O1.out _).mono ?_); rintro e wo ⟨Ao, co, rfl, hso, hq⟩; have bq := chain (by assumption) hq)
    | (go_at_call 13; (with_reducible refine (X2.out _ _ _ hso.out).mono ?_); rintro e wq ⟨rfl, hq⟩; have bq := chain (by assumption) hq)
    | (go_at_call 16; (with_reducible refine (H1.out _).mono ?_); rintro e wq ⟨rfl, hq⟩; have bq := chain (by assumption) hq)
    | (go_at_call 20; (with_reducible refine (U1.out _).mono ?_); rintro e wq ⟨Au, cu, rfl, hq⟩; have bq := chain (by assumption) hq)
    | (go_at_call 22; (with_reducible refine (M1.out _).mono ?_); rintro e wq ⟨Am, cm, rfl, hq⟩; have bq := chain (by assumption) hq)
    | (go_at_call 24; (with_reducible refine (L1.out _).mono ?_); rintro e wq ⟨Al, cl, rfl, hq⟩; have bq := chain (by assumption) hq))
  go_ret
  exact ⟨rfl, by assumption⟩

end Go.Proofs.YtmmilgjdngdnfaaDoor
