/- The walk of awake: chapter 3's example, and others, hold. -/
import Derived.Test.YtdpamanndcnolaaDoorShaPSum
import Derived.Lib.SmallJoins
set_option linter.unusedVariables false
namespace Go.Proofs.YtdpamanndcnolaaDoor
open Go.RowKit Go.Joins

theorem id_abc : text (idL [97, 98, 99]) = ⟨#[186, 120, 22, 191, 143, 1, 207, 234, 65, 65, 64, 222, 93, 174, 34, 35, 176, 3, 97, 163, 150, 23, 122, 156, 180, 16, 255, 97, 242, 0, 21, 173]⟩ := by
  have h : idL [97, 98, 99] = [186, 120, 22, 191, 143, 1, 207, 234, 65, 65, 64, 222, 93, 174, 34, 35, 176, 3, 97, 163, 150, 23, 122, 156, 180, 16, 255, 97, 242, 0, 21, 173] := by decide +kernel
  rw [h]; rfl
theorem id_a : text (idL [97]) = ⟨#[202, 151, 129, 18, 202, 27, 189, 202, 250, 194, 49, 179, 154, 35, 220, 77, 167, 134, 239, 248, 20, 124, 78, 114, 185, 128, 119, 133, 175, 238, 72, 187]⟩ := by
  have h : idL [97] = [202, 151, 129, 18, 202, 27, 189, 202, 250, 194, 49, 179, 154, 35, 220, 77, 167, 134, 239, 248, 20, 124, 78, 114, 185, 128, 119, 133, 175, 238, 72, 187] := by decide +kernel
  rw [h]; rfl
/-- Add, of bytes that were just made. -/
theorem add_new (L M : List UInt8) (g n : Nat) (w : World) (C : Array Value) (fr : Nat × Nat) (h : HashAt w g L) (hg : g ≠ 0) (hT : Tab w) (hC : C = (cells M).toArray) (hn : n = M.length) (hl : L.length + M.length ≤ 1000000) :
    Calls Tryd.prog 10 #[.pointer (some ⟨g, 0, none⟩), .slice (some ⟨w.heap.size, 0, none⟩) n n] (w.alloc (.cells C 5 fr)) fun e w' => e = .returned (.tuple #[]) ∧ HashAt w' g (L ++ M) ∧ Only w w' g := by
  subst hC hn
  have hb : Below w.heap.size w (w.alloc (.cells (cells M).toArray 5 fr)) := (Below.refl _ _).alloc (Nat.le_refl _) _
  have hlt := h.lt
  refine (add_any L M g (some ⟨w.heap.size, 0, none⟩) M.length (w.alloc (.cells (cells M).toArray 5 fr)) (h.below hb h.lt) hg (hT.below hb) ((rb_newm w M fr).more (by simp)) (by intro ad e; injection e with e; subst e; show w.heap.size ≠ g; omega) hl (Nat.le_refl _) (by omega)).mono ?_
  rintro e w' ⟨rfl, h1, h2⟩
  exact ⟨rfl, h1, only_trans (only_below hb g) h2⟩
/-- ID, of bytes that were just made. -/
theorem id_new (M : List UInt8) (n : Nat) (w : World) (C : Array Value) (fr : Nat × Nat) (s : ByteArray) (hT : Tab w) (hC : C = (cells M).toArray) (hn : n = M.length) (hl : M.length ≤ 100000) (hs : text (idL M) = s) :
    Calls Tryd.prog 7 #[.slice (some ⟨w.heap.size, 0, none⟩) n n] (w.alloc (.cells C 5 fr)) fun e w' => e = .returned (.string s) ∧ Below w.heap.size w w' := by
  subst hC hs
  have hb : Below w.heap.size w (w.alloc (.cells (cells M).toArray 5 fr)) := (Below.refl _ _).alloc (Nat.le_refl _) _
  refine (id_any M (some ⟨w.heap.size, 0, none⟩) n n (w.heap.size + 1) (w.alloc (.cells (cells M).toArray 5 fr)) (rb_newm w M fr) (by simp) (hT.below hb) hn hl (by omega) (by omega)).mono ?_
  rintro e w' ⟨rfl, h1⟩
  exact ⟨rfl, hb.trans (h1.mono hb.size)⟩

set_option maxRecDepth 100000 in
set_option maxHeartbeats 1000000 in
theorem awake_any (w : World) (hT : Tab w) : Calls Tryd.prog 6 #[] w fun e w' => e = .returned (.bool true) ∧ Below w.heap.size w w' := by
  have HTb : Hid (Tab w) := hT
  have hT0 := hT.lt
  have HBg := Lib.hid (begin_any w)
  have HSm : Hid (∀ (V : World) (L : List UInt8) (t : ByteArray), HashAt V w.heap.size L → Below w.heap.size w V → L.length ≤ 100000 → text (idL L) = t → Calls Tryd.prog 11 #[.pointer (some ⟨w.heap.size, 0, none⟩)] V fun e w' => e = .returned (.string t) ∧ Below V.heap.size V w') := by
    intro V L t h hb hl ht
    rw [← ht]
    exact sum_any L w.heap.size V h (HTb.out.below hb) hl
  have hcv : ∀ (W : World) (g n c : Nat) (C : Array Value), g = W.heap.size → (convert 22 22 (.slice (some ⟨g, 0, none⟩) n c)).run Tryd.prog (W.alloc (.cells C 5)) = .ok (.slice (some ⟨g, 0, none⟩) n c) (W.alloc (.cells C 5 (C.size, C.size + 1))) := fun W g n c C h => run_convert_bytes_const_at W 22 5 C n c g h Tryd.underlying22 Tryd.underlying5
  clear hT
  go_enter Tryd.func6, Tryd.ntmps6
  go_wp2_with (first
    | (go_at_call 9; (with_reducible refine HBg.out.mono ?_); rintro e w1 ⟨rfl, hk1, hb1⟩; have HK1 := Lib.hid hk1; have HA1 := Lib.hid (add_new [] [97] w.heap.size 1 w1 #[.int .u8 97] (1, 2) hk1 (by omega) (HTb.out.below hb1) rfl rfl (by decide)); clear hk1)
    | (go_at_call 10; (with_reducible refine HA1.out.mono ?_); rintro e w2 ⟨rfl, hk2, ho2⟩; have HK2 := Lib.hid (show HashAt w2 w.heap.size [97] from hk2); have b2 : Below w.heap.size w w2 := below_only hb1 ho2 (Nat.le_refl _) hb1.size; clear hk2 ho2)
    | (go_at_call 11; (with_reducible refine (HSm.out w2 [97] _ HK2.out b2 (by decide) id_a).mono ?_); rintro e w3 ⟨rfl, hb3⟩; have b3 : Below w.heap.size w w3 := b2.trans (hb3.mono b2.size); have HK3 := Lib.hid (HK2.out.below hb3 HK2.out.lt); have HA3 := Lib.hid (add_new [97] [98, 99] w.heap.size 2 w3 #[.int .u8 98, .int .u8 99] (2, 3) HK3.out (by omega) (HTb.out.below b3) rfl rfl (by decide)))
    | (go_at_call 10; (with_reducible refine HA3.out.mono ?_); rintro e w4 ⟨rfl, hk4, ho4⟩; have HK4 := Lib.hid (show HashAt w4 w.heap.size [97, 98, 99] from hk4); have b4 : Below w.heap.size w w4 := below_only b3 ho4 (Nat.le_refl _) b3.size; have HI4 := Lib.hid (id_new [97, 98, 99] 3 w4 #[.int .u8 97, .int .u8 98, .int .u8 99] (3, 4) _ (HTb.out.below b4) rfl rfl (by decide) id_abc); clear hk4 ho4)
    | (go_at_call 7; (with_reducible refine HI4.out.mono ?_); rintro e w5 ⟨rfl, hb5⟩; have b5 : Below w.heap.size w w5 := b4.trans (hb5.mono b4.size); have HK5 := Lib.hid (HK4.out.below hb5 HK4.out.lt))
    | (go_at_call 11; (with_reducible refine (HSm.out w5 [97, 98, 99] _ HK5.out b5 (by decide) id_abc).mono ?_); rintro e w6 ⟨rfl, hb6⟩; have b6 : Below w.heap.size w w6 := b5.trans (hb6.mono b5.size); have HK6 := Lib.hid (HK5.out.below hb6 HK5.out.lt); have HZ6 : Hid (Calls Tryd.prog 12 #[.pointer (some ⟨w.heap.size, 0, none⟩)] w6 fun e w' => e = .returned (.int .i64 3) ∧ w6 = w') := size_any [97, 98, 99] w.heap.size w6 HK6.out (by decide); have HI6 := Lib.hid (id_new [97] 1 w6 #[.int .u8 97] (1, 2) _ (HTb.out.below b6) rfl rfl (by decide) id_a))
    | (go_at_call 12; (with_reducible refine HZ6.out.mono ?_); rintro e w' ⟨rfl, rfl⟩)
    | (go_at_call 7; (with_reducible refine HI6.out.mono ?_); rintro e w7 ⟨rfl, hb7⟩))
  go_ret
  exact ⟨rfl, b6.trans (hb7.mono b6.size)⟩

end Go.Proofs.YtdpamanndcnolaaDoor
