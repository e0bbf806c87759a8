/- Lemmas under the proofs of this place: DagVar. No statement is proved here. -/
import Derived.Test.YtbeihiokjhfepaaBu32
set_option linter.unusedSimpArgs false
set_option linter.unusedVariables false
namespace Go.Proofs.Ytbeihiokjhfepaa
open Go.RowKit
structure XV (w0 W : World) (R : Nat) (E : Nat → Prop) (A : Option Addr) (n c : Nat) (g : Gr) : Prop where
  rh : RH w0 W E A n g
  xv : Blk W R 27 #[.slice A n c]
  fn : ¬ E R
  bn : w0.heap.size ≤ R
section
variable {w0 w W W' : World} {R R2 R6 p : Nat} {E E' F F' : Nat → Prop} {A A' : Option Addr} {n c n' c' : Nat} {g g' : Gr}
theorem XV.up (h : XV w0 W R E A n c g) (hw : w0.heap.size ≤ W.heap.size) (hb : Below W.heap.size W W') : XV w0 W' R E A n c g := ⟨h.rh.up hw hb, h.xv.below hb h.xv.lt, h.fn, h.bn⟩
theorem XV.turned (h : XV w0 W R E A n c g) (ht : Turns W W' F F') (hFE : ∀ k, F k → E k) (hE : ∀ k, E' k → E k ∨ F' k) (hF : ∀ k, F k → w0.heap.size ≤ k) (hb : w0.heap.size ≤ W.heap.size) : XV w0 W' R E' A n c g :=
  ⟨h.rh.turned ht hFE hE hF hb, h.xv.turns ht (fun hf => h.fn (hFE _ hf)), fun hk => by
    rcases hE _ hk with h1 | h1
    · exact h.fn h1
    · exact not_foot16 ht h.xv.lt (fun hf => h.fn (hFE _ hf)) h1, h.bn⟩
theorem XV.other (h : XV w0 W R E A n c g) {v : Value} (K2 : Blk W R2 27 #[v]) (hne : R ≠ R2) (b2 : w0.heap.size ≤ R2) (hw : w0.heap.size ≤ W.heap.size) (u : Value) : XV w0 (W.setCell ⟨R2, 0, none⟩ u) R E A n c g :=
  ⟨h.rh.set_ K2 b2 hw u, Blk.far h.xv (by show R ≠ R2; exact hne) _, h.fn, h.bn⟩
theorem XV.store {v : Value} (hr : RH w0 W E A n g) (K : Blk W R 27 #[v]) (fn : ¬ E R) (bn : w0.heap.size ≤ R) (hw : w0.heap.size ≤ W.heap.size) : XV w0 (W.setCell ⟨R, 0, none⟩ (.slice A n c)) R E A n c g :=
  ⟨hr.set_ K bn hw _, K.set_ 0 (.slice A n c), fn, bn⟩
theorem DH.set_ (h : DH w0 W p F g) (hf : ¬ F R) (hb : w0.heap.size ≤ R) {B : Option Addr} {m d : Nat} (K : Blk W R 27 #[.slice B m d]) (u : Value) : DH w0 (W.setCell ⟨R, 0, none⟩ u) p F g :=
  h.other (E := fun k => k = R) (E' := fun k => k = R) (Turns.set_ (F := fun k => k = R) (g := R) rfl 0 _) (fun k hk e => hf (by rw [← e]; exact hk)) (fun k hk => h.dag.gp_ne K hk) (fun k e => by rw [e]; exact hb)
structure AV (w0 W : World) (R p : Nat) (F : Nat → Prop) (A : Option Addr) (n c : Nat) (g : Gr) : Prop where
  dh : DH w0 W p F g
  v : XV w0 W R F A n c g
theorem AV.up (h : AV w0 W R p F A n c g) (hb : Below W.heap.size W W') : AV w0 W' R p F A n c g := ⟨h.dh.up hb, h.v.up h.dh.below.size hb⟩
theorem AV.begin (hP : PDag W p F []) (hF : ∀ k, F k → w.heap.size ≤ k) (hb : Below w.heap.size w W) : AV w (W.alloc (.cells #[.slice none 0 0] 27)) W.heap.size p F none 0 0 [] := by
  have n1 : Below W.heap.size W (W.alloc (.cells #[.slice none 0 0] 27)) := (Below.refl _ _).alloc (Nat.le_refl _) _
  refine ⟨⟨hP.below n1, hF, hb.trans (n1.mono hb.size)⟩, RH.nil _ _ _, Blk.new _ _ _, fun hk => ?_, hb.size⟩
  have := hP.flt _ hk
  omega
structure AY (w0 W : World) (R R6 p : Nat) (F : Nat → Prop) (A : Option Addr) (n c : Nat) (g : Gr) : Prop where
  dh : DH w0 W p F g
  v : XV w0 W R F A n c g
  y : Blk W R6 27 #[.slice none 0 0]
  fy : ¬ F R6
  ne : R ≠ R6
  by_ : w0.heap.size ≤ R6
theorem AY.up (h : AY w0 W R R6 p F A n c g) (hb : Below W.heap.size W W') : AY w0 W' R R6 p F A n c g := ⟨h.dh.up hb, h.v.up h.dh.below.size hb, h.y.below hb h.y.lt, h.fy, h.ne, h.by_⟩
theorem AV.alloc (h : AV w0 W R p F A n c g) : AY w0 (W.alloc (.cells #[.slice none 0 0] 27)) R W.heap.size p F A n c g := by
  have n1 : Below W.heap.size W (W.alloc (.cells #[.slice none 0 0] 27)) := (Below.refl _ _).alloc (Nat.le_refl _) _
  have h1 := h.up n1
  refine ⟨h1.dh, h1.v, Blk.new _ _ _, fun hk => ?_, fun e => ?_, h.dh.below.size⟩
  · have := h.dh.flt _ hk
    omega
  · have := h.v.xv.lt
    omega
structure AT (w0 W : World) (R p : Nat) (F : Nat → Prop) (A : Option Addr) (n c : Nat) (g g' : Gr) : Prop where
  dh : DH w0 W p F g
  v : XV w0 W R F A n c g'
theorem AT.up (h : AT w0 W R p F A n c g g') (hb : Below W.heap.size W W') : AT w0 W' R p F A n c g g' := ⟨h.dh.up hb, h.v.up h.dh.below.size hb⟩
theorem AT.turned (h : AT w0 W R p F A n c g g') (hp : PDagN W W' p F' g') (ht : Turns W W' F F') : AV w0 W' R p F' A n c g' :=
  ⟨h.dh.turned hp ht, h.v.turned ht (fun _ h => h) (fun _ h => .inr h) h.dh.own h.dh.below.size⟩
theorem AY.stored (h : AY w0 W R R6 p F A n c g) (hr : RH w0 W F A' n' g') : AT w0 ((W.setCell ⟨R6, 0, none⟩ (.slice A' n' c')).setCell ⟨R, 0, none⟩ (.slice A' n' c')) R p F A' n' c' g g' := by
  have hw := h.dh.below.size
  have h1 := h.dh.set_ h.fy h.by_ h.y (.slice A' n' c')
  have h2 := h.v.other h.y h.ne h.by_ hw (.slice A' n' c')
  have hr1 := hr.set_ h.y h.by_ hw (.slice A' n' c')
  have hw2 := h1.below.size
  exact ⟨h1.set_ h.v.fn h.v.bn h2.xv _, XV.store hr1 h2.xv h.v.fn h.v.bn hw2⟩
end
theorem makeK_preds {l : Gr} (hf : fewG l) : ∀ k, ∀ j, j < (makeK l k).length → ((makeK l k).getD j nd0).preds.length ≤ 1000
  | 0 => fun j hj => by cases hj
  | k + 1 => fun j hj => by
    have ih := makeK_preds hf k
    by_cases h0 : (addG (makeK l k) (l.getD k nd0).id (l.getD k nd0).preds).2 = 0
    · have h1 := addG_is h0
      have h2 : makeK l (k + 1) = makeK l k ++ [⟨(l.getD k nd0).id, (l.getD k nd0).preds⟩] := h1
      rw [h2] at hj ⊢
      rcases Nat.lt_or_ge j (makeK l k).length with h3 | h3
      · rw [List.getD, List.getElem?_append_left h3]
        exact ih j h3
      · have hj2 : j = (makeK l k).length := by simp at hj; omega
        subst hj2
        have h4 : ((makeK l k ++ [(⟨(l.getD k nd0).id, (l.getD k nd0).preds⟩ : Nd)]).getD (makeK l k).length nd0) = ⟨(l.getD k nd0).id, (l.getD k nd0).preds⟩ := by rw [List.getD, List.getElem?_append_right (Nat.le_refl _), Nat.sub_self]; rfl
        rw [h4]
        show (l.getD k nd0).preds.length ≤ 1000
        rcases Nat.lt_or_ge k l.length with h5 | h5
        · have := (hf.2 k h5).2.1
          omega
        · rw [List.getD, List.getElem?_eq_none h5]
          exact Nat.zero_le _
    · have h2 : makeK l (k + 1) = makeK l k := addG_no h0
      rw [h2] at hj ⊢
      exact ih j hj
end Go.Proofs.Ytbeihiokjhfepaa
