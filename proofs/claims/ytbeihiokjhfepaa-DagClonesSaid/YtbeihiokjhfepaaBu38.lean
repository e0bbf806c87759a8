/- Lemmas under the proofs of this place: DagTwo. No statement is proved here. -/
import Derived.Test.YtbeihiokjhfepaaBu33
import Derived.Test.YtbeihiokjhfepaaBu37
set_option linter.unusedSimpArgs false
set_option linter.unusedVariables false
namespace Go.Proofs.Ytbeihiokjhfepaa
open Go.RowKit
def makeF (g : Gr) (l : Gr) : Nat → Gr
  | 0 => g
  | k + 1 => (addG (makeF g l k) (l.getD k nd0).id (l.getD k nd0).preds).1
theorem makeF_ok {g : Gr} (ok : GrOk g) (l : Gr) : ∀ k, GrOk (makeF g l k)
  | 0 => ok
  | k + 1 => addG_ok (makeF_ok ok l k) _ _
theorem makeF_len (g l : Gr) : ∀ k, (makeF g l k).length ≤ g.length + k
  | 0 => Nat.le_refl _
  | k + 1 => by
    have h1 := (addG_le (makeF g l k) (l.getD k nd0).id (l.getD k nd0).preds).1
    have h2 := makeF_len g l k
    show (addG _ _ _).1.length ≤ _
    omega
theorem makeF_preds {g l : Gr} (hg : ∀ j, j < g.length → (g.getD j nd0).preds.length ≤ 1000) (hf : fewG l) : ∀ k, ∀ j, j < (makeF g l k).length → ((makeF g l k).getD j nd0).preds.length ≤ 1000
  | 0 => hg
  | k + 1 => fun j hj => by
    have ih := makeF_preds hg hf k
    by_cases h0 : (addG (makeF g l k) (l.getD k nd0).id (l.getD k nd0).preds).2 = 0
    · have h1 := addG_is h0
      have h2 : makeF g l (k + 1) = makeF g l k ++ [⟨(l.getD k nd0).id, (l.getD k nd0).preds⟩] := h1
      rw [h2] at hj ⊢
      rcases Nat.lt_or_ge j (makeF g l k).length with h3 | h3
      · rw [List.getD, List.getElem?_append_left h3]
        exact ih j h3
      · have hj2 : j = (makeF g l k).length := by simp at hj; omega
        subst hj2
        have h4 : ((makeF g l k ++ [(⟨(l.getD k nd0).id, (l.getD k nd0).preds⟩ : Nd)]).getD (makeF g l k).length nd0) = ⟨(l.getD k nd0).id, (l.getD k nd0).preds⟩ := by rw [List.getD, List.getElem?_append_right (Nat.le_refl _), Nat.sub_self]; rfl
        rw [h4]
        show (l.getD k nd0).preds.length ≤ 1000
        rcases Nat.lt_or_ge k l.length with h5 | h5
        · have := (hf.2 k h5).2.1
          omega
        · rw [List.getD, List.getElem?_eq_none h5]
          exact Nat.zero_le _
    · have h2 : makeF g l (k + 1) = makeF g l k := addG_no h0
      rw [h2] at hj ⊢
      exact ih j hj
theorem RH.sub {w0 w : World} {E E' : Nat → Prop} {A : Option Addr} {n : Nat} {g : Gr} (h : RH w0 w E A n g) (hs : ∀ k, E' k → E k) : RH w0 w E' A n g := ⟨h.row, h.len, fun ad e => ⟨fun hk => (h.far ad e).1 (hs _ hk), (h.far ad e).2⟩⟩
section
variable {w W W' : World} {p q R R2 : Nat} {F F2 F' E : Nat → Prop} {g g2 g' gv gv2 : Gr} {A A2 A' : Option Addr} {n c n2 c2 n' c' : Nat}
theorem XV.widen (h0 : XV w W R E A n c g) (hw : w.heap.size ≤ W.heap.size) (hb : Below W.heap.size W W') (hF : ∀ k, F2 k → W.heap.size ≤ k) : XV w W' R (fun k => E k ∨ F2 k) A n c g := by
  have h1 := h0.up hw hb
  refine ⟨⟨h1.rh.row, h1.rh.len, fun ad e => ⟨fun hk => ?_, (h1.rh.far ad e).2⟩⟩, h1.xv, fun hk => ?_, h1.bn⟩
  · rcases hk with hk | hk
    · exact (h1.rh.far ad e).1 hk
    · have := hF _ hk
      have := (h0.rh.far ad e).2
      omega
  · rcases hk with hk | hk
    · exact h1.fn hk
    · have := hF _ hk
      have := h0.xv.lt
      omega
theorem CA.set_ (h : CA w W p F q F2 g g2) (h1 : ¬ F R) (h2 : ¬ F2 R) (hb : w.heap.size ≤ R) {B : Option Addr} {m d : Nat} (K : Blk W R 27 #[.slice B m d]) (u : Value) : CA w (W.setCell ⟨R, 0, none⟩ u) p F q F2 g g2 := by
  have ht : Turns W (W.setCell ⟨R, 0, none⟩ u) (fun k => k = R) (fun k => k = R) := Turns.set_ (F := fun k => k = R) (g := R) rfl 0 _
  exact ⟨h.d1.set_ h1 hb K u, h.d2.set_ h2 hb K u, h.dis, fun k hk => h.g1 k (h.d1.dag.gp_same ht (fun k hk e => h1 (by rw [← e]; exact hk)) (fun k hk => h.d1.dag.gp_ne K hk) hk), fun k hk => h.g2 k (h.d2.dag.gp_same ht (fun k hk e => h2 (by rw [← e]; exact hk)) (fun k hk => h.d2.dag.gp_ne K hk) hk)⟩
structure CV (w W : World) (p : Nat) (F : Nat → Prop) (q : Nat) (F2 : Nat → Prop) (R R2 : Nat) (A : Option Addr) (n c : Nat) (A2 : Option Addr) (n2 c2 : Nat) (g g2 gv gv2 : Gr) : Prop where
  ca : CA w W p F q F2 g g2
  v1 : XV w W R (fun k => F k ∨ F2 k) A n c gv
  v2 : XV w W R2 (fun k => F k ∨ F2 k) A2 n2 c2 gv2
  ne : R ≠ R2
theorem CV.up (h : CV w W p F q F2 R R2 A n c A2 n2 c2 g g2 gv gv2) (hb : Below W.heap.size W W') : CV w W' p F q F2 R R2 A n c A2 n2 c2 g g2 gv gv2 := ⟨h.ca.up hb, h.v1.up h.ca.d1.below.size hb, h.v2.up h.ca.d1.below.size hb, h.ne⟩
theorem CV.turned1 (h : CV w W p F q F2 R R2 A n c A2 n2 c2 g g2 gv gv2) (hP : PDagN W W' p F' g') (ht : Turns W W' F F') : CV w W' p F' q F2 R R2 A n c A2 n2 c2 g' g2 gv gv2 :=
  ⟨h.ca.turned1 hP ht, h.v1.turned ht (fun _ h => .inl h) (fun _ h => h.elim .inr (fun h => .inl (.inr h))) h.ca.d1.own h.ca.d1.below.size, h.v2.turned ht (fun _ h => .inl h) (fun _ h => h.elim .inr (fun h => .inl (.inr h))) h.ca.d1.own h.ca.d1.below.size, h.ne⟩
theorem CV.turned2 (h : CV w W p F q F2 R R2 A n c A2 n2 c2 g g2 gv gv2) (hP : PDagN W W' q F' g') (ht : Turns W W' F2 F') : CV w W' p F q F' R R2 A n c A2 n2 c2 g g' gv gv2 :=
  ⟨h.ca.turned2 hP ht, h.v1.turned ht (fun _ h => .inr h) (fun _ h => h.elim (fun h => .inl (.inl h)) .inr) h.ca.d2.own h.ca.d1.below.size, h.v2.turned ht (fun _ h => .inr h) (fun _ h => h.elim (fun h => .inl (.inl h)) .inr) h.ca.d2.own h.ca.d1.below.size, h.ne⟩
theorem CV.store1 (h : CV w W p F q F2 R R2 A n c A2 n2 c2 g g2 gv gv2) (hb : Below W.heap.size W W') (hr : RH w W' (fun k => F k ∨ F2 k) A' n' g') : CV w (W'.setCell ⟨R, 0, none⟩ (.slice A' n' c')) p F q F2 R R2 A' n' c' A2 n2 c2 g g2 g' gv2 := by
  have h1 := h.up hb
  have hw := h1.ca.d1.below.size
  exact ⟨h1.ca.set_ (fun hk => h1.v1.fn (.inl hk)) (fun hk => h1.v1.fn (.inr hk)) h1.v1.bn h1.v1.xv _, XV.store hr h1.v1.xv h1.v1.fn h1.v1.bn hw, h1.v2.other h1.v1.xv (Ne.symm h1.ne) h1.v1.bn hw _, h1.ne⟩
theorem CV.store2 (h : CV w W p F q F2 R R2 A n c A2 n2 c2 g g2 gv gv2) (hb : Below W.heap.size W W') (hr : RH w W' (fun k => F k ∨ F2 k) A' n' g') : CV w (W'.setCell ⟨R2, 0, none⟩ (.slice A' n' c')) p F q F2 R R2 A n c A' n' c' g g2 gv g' := by
  have h1 := h.up hb
  have hw := h1.ca.d1.below.size
  exact ⟨h1.ca.set_ (fun hk => h1.v2.fn (.inl hk)) (fun hk => h1.v2.fn (.inr hk)) h1.v2.bn h1.v2.xv _, h1.v1.other h1.v2.xv h1.ne h1.v2.bn hw _, XV.store hr h1.v2.xv h1.v2.fn h1.v2.bn hw, h1.ne⟩
structure CY (w W : World) (p : Nat) (F : Nat → Prop) (q : Nat) (F2 : Nat → Prop) (R R2 : Nat) (A : Option Addr) (n c : Nat) (g : Gr) : Prop where
  ca : CA w W p F q F2 g g
  v1 : XV w W R (fun k => F k ∨ F2 k) A n c g
  y : Blk W R2 27 #[.slice none 0 0]
  fy : ¬ (F R2 ∨ F2 R2)
  ne : R ≠ R2
  by_ : w.heap.size ≤ R2
theorem CY.stored (h : CY w W p F q F2 R R2 A n c g) : CV w (W.setCell ⟨R2, 0, none⟩ (.slice A n c)) p F q F2 R R2 A n c A n c g g g g := by
  have hw := h.ca.d1.below.size
  exact ⟨h.ca.set_ (fun hk => h.fy (.inl hk)) (fun hk => h.fy (.inr hk)) h.by_ h.y _, h.v1.other h.y h.ne h.by_ hw _, XV.store h.v1.rh h.y h.fy h.by_ hw, h.ne⟩
theorem CY.ofA (h : AV w W R p F A n c g) (hP : PDagC W p W' q F2 g) (hF : ∀ k, F2 k → W.heap.size ≤ k) (hb : Below W.heap.size W W') : CY w (W'.alloc (.cells #[.slice none 0 0] 27)) p F q F2 R W'.heap.size A n c g := by
  have n1 : Below W'.heap.size W' (W'.alloc (.cells #[.slice none 0 0] 27)) := (Below.refl _ _).alloc (Nat.le_refl _) _
  have hc := CA.begin h.dh hP hF hb
  have hv := h.v.widen h.dh.below.size hb hF
  refine ⟨hc.up n1, hv.up hc.d1.below.size n1, Blk.new _ _ _, fun hk => ?_, fun e => ?_, hc.d1.below.size⟩
  · rcases hk with hk | hk
    · exact Nat.lt_irrefl _ (hc.d1.flt _ hk)
    · exact Nat.lt_irrefl _ (hc.d2.flt _ hk)
  · have := hv.xv.lt
    omega
theorem CY.ofB (h : AY w W R R2 p F A n c g) (hP : PDagC W p W' q F2 g) (hF : ∀ k, F2 k → W.heap.size ≤ k) (hb : Below W.heap.size W W') : CY w W' p F q F2 R R2 A n c g := by
  have hc := CA.begin h.dh hP hF hb
  have hv := h.v.widen h.dh.below.size hb hF
  refine ⟨hc, hv, h.y.below hb h.y.lt, fun hk => ?_, h.ne, h.by_⟩
  rcases hk with hk | hk
  · exact h.fy hk
  · have := hF _ hk
    have := h.y.lt
    omega
end
end Go.Proofs.Ytbeihiokjhfepaa
