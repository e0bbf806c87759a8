/- Lemmas under the proofs of this place: DagPDfs, DagPOrderM, DagMem, IntApp. No statement is proved here. -/
import Derived.Test.YtbeihiokjhfepaaBu07
import Derived.Test.YtbeihiokjhfepaaBu04
import Derived.Test.YtbeihiokjhfepaaBu06
import Derived.Test.YtbeihiokjhfepaaBu02
import Derived.Shelf.SlSortCmp.Insertion
set_option linter.unusedSimpArgs false
set_option linter.unusedVariables false
namespace Go.Proofs.Ytbeihiokjhfepaa
section
abbrev on (l : List Bool) (j : Nat) : Prop := l.getD j false = true
theorem on_set {l : List Bool} {p : Nat} (hp : p < l.length) (j : Nat) : on (l.set p true) j ↔ on l j ∨ j = p := by
  unfold on
  rw [List.getD, List.getElem?_set]
  by_cases h : p = j
  · subst h
    rw [if_pos rfl, if_pos hp]
    simp
  · rw [if_neg h, ← List.getD]
    exact ⟨.inl, fun hh => hh.elim id (fun e => absurd e.symm h)⟩
theorem pred_anc {g : Gr} (ok : GrOk g) {p q : Nat} (hp : p < g.length) (hq : q ∈ predI g p) : Anc g (idAt g q) (idAt g p) := by
  unfold predI at hq
  obtain ⟨x, hx, rfl⟩ := List.mem_map.1 hq
  refine .one ?_
  show (g.getD (idxG g x) nd0).id ∈ predsG g (g.getD p nd0).id
  rw [preds_at ok.nodup hp, idx_id (Nat.lt_trans (ok.closed p hp x hx) hp)]
  exact hx
theorem anc_pred {g : Gr} (ok : GrOk g) {p : Nat} (hp : p < g.length) {x : Bs} (h : x ∈ predsG g (idAt g p)) : idxG g x ∈ predI g p := by
  unfold predI
  rw [show predsG g (idAt g p) = (g.getD p nd0).preds from preds_at ok.nodup hp] at h
  exact List.mem_map.2 ⟨x, h, rfl⟩
def MarkPre (g : Gr) (p : Nat) (l : List Bool) : Prop := ∀ j, on l j → j ≤ p → ∀ q ∈ predI g j, on l q
structure MarkI (g : Gr) (p : Nat) (l lk : List Bool) : Prop where
  len : lk.length = l.length
  up : ∀ j, on l j → on lk j
  self : on lk p
  new : ∀ j, on lk j → on l j ∨ j = p ∨ (j < g.length ∧ Anc g (idAt g j) (idAt g p) ∧ ∀ q ∈ predI g j, on lk q)
structure MarkP (g : Gr) (p : Nat) (l lk : List Bool) : Prop where
  len : lk.length = l.length
  up : ∀ j, on l j → on lk j
  self : on lk p
  new : ∀ j, on lk j → on l j ∨ (j < g.length ∧ (j = p ∨ Anc g (idAt g j) (idAt g p)) ∧ ∀ q ∈ predI g j, on lk q)
section
variable {g : Gr} {p q : Nat} {l lk l2 : List Bool}
theorem MarkI.start (hp : p < l.length) : MarkI g p l (l.set p true) :=
  ⟨List.length_set, fun j hj => (on_set hp j).2 (.inl hj), (on_set hp p).2 (.inr rfl), fun j hj => ((on_set hp j).1 hj).elim .inl fun e => .inr (.inl e)⟩
theorem MarkI.pre (h : MarkI g p l lk) (hl : MarkPre g p l) (hq : q < p) : MarkPre g q lk := fun j hj hle r hr => by
  rcases h.new j hj with h1 | h1 | ⟨_, _, h1⟩
  · exact h.up r (hl j h1 (by omega) r hr)
  · omega
  · exact h1 r hr
theorem MarkI.step (ok : GrOk g) (hp : p < g.length) (h : MarkI g p l lk) (hq : q ∈ predI g p) (k : MarkP g q lk l2) : MarkI g p l l2 :=
  ⟨k.len.trans h.len, fun j hj => k.up j (h.up j hj), k.up p h.self, fun j hj => by
    rcases k.new j hj with h1 | ⟨h1, h2, h3⟩
    · rcases h.new j h1 with h4 | h4 | ⟨h4, h5, h6⟩
      · exact .inl h4
      · exact .inr (.inl h4)
      · exact .inr (.inr ⟨h4, h5, fun r hr => k.up r (h6 r hr)⟩)
    · refine .inr (.inr ⟨h1, ?_, h3⟩)
      have h4 := pred_anc ok hp hq
      rcases h2 with rfl | h2
      · exact h4
      · exact h2.trans h4⟩
theorem MarkI.done (hp : p < g.length) (h : MarkI g p l lk) (ha : ∀ q ∈ predI g p, on lk q) : MarkP g p l lk :=
  ⟨h.len, h.up, h.self, fun j hj => by
    rcases h.new j hj with h1 | rfl | ⟨h1, h2, h3⟩
    · exact .inl h1
    · exact .inr ⟨hp, .inl rfl, ha⟩
    · exact .inr ⟨h1, .inr h2, h3⟩⟩
theorem MarkP.same (hp : on l p) : MarkP g p l l := ⟨rfl, fun _ h => h, hp, fun _ h => .inl h⟩
structure MarkL (g : Gr) (s : List Nat) (k : Nat) (l : List Bool) : Prop where
  len : l.length = g.length
  all : ∀ i, i < k → on l (s.getD i 0)
  new : ∀ j, on l j → j < g.length ∧ (∃ i, i < k ∧ (j = s.getD i 0 ∨ Anc g (idAt g j) (idAt g (s.getD i 0)))) ∧ ∀ q ∈ predI g j, on l q
theorem MarkL.start (g : Gr) (s : List Nat) : MarkL g s 0 (List.replicate g.length false) :=
  ⟨List.length_replicate, fun i hi => by omega, fun j hj => by
    unfold on at hj
    rw [List.getD, List.getElem?_replicate] at hj
    split at hj <;> simp at hj⟩
theorem MarkL.pre {s : List Nat} {k : Nat} (h : MarkL g s k l) (p : Nat) : MarkPre g p l := fun j hj _ => (h.new j hj).2.2
theorem MarkL.step {s : List Nat} {k : Nat} (h : MarkL g s k l) (m : MarkP g (s.getD k 0) l l2) : MarkL g s (k + 1) l2 :=
  ⟨m.len.trans h.len, fun i hi => by
    rcases Nat.lt_or_ge i k with h1 | h1
    · exact m.up _ (h.all i h1)
    · rw [show i = k by omega]; exact m.self, fun j hj => by
    rcases m.new j hj with h1 | ⟨h1, h2, h3⟩
    · obtain ⟨h4, ⟨i, h5, h6⟩, h7⟩ := h.new j h1
      exact ⟨h4, ⟨i, by omega, h6⟩, fun q hq => m.up q (h7 q hq)⟩
    · exact ⟨h1, ⟨k, by omega, h2⟩, h3⟩⟩
theorem anc_on (ok : GrOk g) (hc : ∀ j, on l j → j < g.length ∧ ∀ q ∈ predI g j, on l q) {x y : Bs} (h : Anc g x y) : y ∈ idsG g → on l (idxG g y) → on l (idxG g x) := by
  induction h with
  | one h1 =>
    intro hy ho
    refine (hc _ ho).2 _ ?_
    refine anc_pred ok (idx_lt.2 hy) ?_
    rw [idAt, idx_id (idx_lt.2 hy)]
    exact h1
  | more h1 h2 ih =>
    intro hy ho
    have hz := (Anc.one h2).mem ok
    refine ih hz.1 ((hc _ ho).2 _ (anc_pred ok (idx_lt.2 hy) ?_))
    rw [idAt, idx_id (idx_lt.2 hy)]
    exact h2
theorem MarkL.past (ok : GrOk g) {L : List Bs} (h : MarkL g (foundL g L) (foundL g L).length l) : sortB (toldL g ((List.range g.length).filter fun j => l.getD j false)) = pastG g L := by
  refine sort_chosen ok _ (past_up g L) fun x => ?_
  rw [past_mem ok]
  have hf : ∀ y ∈ L, y ∈ idsG g → on l (idxG g y) := fun y hy hyg => by
    have hm : idxG g y ∈ foundL g L := List.mem_map.2 ⟨y, List.mem_filter.2 ⟨hy, hasG_iff.2 hyg⟩, rfl⟩
    obtain ⟨i, hi, e⟩ := List.getElem_of_mem hm
    have h1 := h.all i hi
    rw [List.getD, List.getElem?_eq_getElem hi, Option.getD_some, e] at h1
    exact h1
  constructor
  · rintro ⟨hx, hw⟩
    have hxi := idx_lt.2 hx
    refine ⟨idxG g x, hxi, ?_, idx_id hxi⟩
    rcases hw with hw | ⟨y, hy, hw⟩
    · exact hf x hw hx
    · have hyg := (hw.mem ok).2
      exact anc_on ok (fun j hj => ⟨(h.new j hj).1, (h.new j hj).2.2⟩) hw hyg (hf y hy hyg)
  · rintro ⟨j, hj, ho, rfl⟩
    refine ⟨idsG_mem.2 ⟨j, hj, rfl⟩, ?_⟩
    obtain ⟨_, ⟨i, hi, h2⟩, _⟩ := h.new j ho
    have hm : (foundL g L).getD i 0 ∈ foundL g L := by rw [List.getD, List.getElem?_eq_getElem hi]; exact List.getElem_mem hi
    unfold foundL at hm
    obtain ⟨y, hy, e⟩ := List.mem_map.1 hm
    obtain ⟨hy1, hy2⟩ := List.mem_filter.1 hy
    have hyi := idx_lt.2 (hasG_iff.1 hy2)
    change idxG g y = (foundL g L).getD i 0 at e
    rw [← e] at h2
    have e3 : idAt g (idxG g y) = y := idx_id hyi
    rcases h2 with rfl | h2
    · exact .inl (by rw [e3]; exact hy1)
    · rw [e3] at h2
      exact .inr ⟨y, hy1, h2⟩
def SeekPre (g : Gr) (t p : Nat) (l : List Bool) : Prop := ∀ j, on l j → j ≤ p → ¬ Anc g (idAt g t) (idAt g j)
structure SeekI (g : Gr) (t p k : Nat) (l lk : List Bool) : Prop where
  len : lk.length = l.length
  no : ∀ i, i < k → (predI g p).getD i 0 ≠ t ∧ ¬ Anc g (idAt g t) (idAt g ((predI g p).getD i 0))
  new : ∀ j, on lk j → on l j ∨ j = p ∨ ¬ Anc g (idAt g t) (idAt g j)
structure SeekP (g : Gr) (t p : Nat) (l lk : List Bool) (b : Bool) : Prop where
  len : lk.length = l.length
  yes : b = true → Anc g (idAt g t) (idAt g p)
  no : b = false → ¬ Anc g (idAt g t) (idAt g p)
  new : b = false → ∀ j, on lk j → on l j ∨ ¬ Anc g (idAt g t) (idAt g j)
theorem predI_at {k : Nat} (hk : k < (predI g p).length) : (predI g p).getD k 0 ∈ predI g p := by
  rw [List.getD, List.getElem?_eq_getElem hk]
  exact List.getElem_mem hk
variable {t k : Nat}
theorem SeekI.start (hp : p < l.length) : SeekI g t p 0 l (l.set p true) :=
  ⟨List.length_set, fun i hi => by omega, fun j hj => ((on_set hp j).1 hj).elim .inl fun e => .inr (.inl e)⟩
theorem SeekI.pre (h : SeekI g t p k l lk) (hl : SeekPre g t p l) (hq : q < p) : SeekPre g t q lk := fun j hj hle => by
  rcases h.new j hj with h1 | h1 | h1
  · exact hl j h1 (by omega)
  · omega
  · exact h1
theorem SeekI.goal (ok : GrOk g) (hp : p < g.length) (h : SeekI g t p k l lk) (hk : k < (predI g p).length) (e : (predI g p).getD k 0 = t) : SeekP g t p l lk true :=
  ⟨h.len, fun _ => by rw [← e]; exact pred_anc ok hp (predI_at hk), (fun e => by cases e), (fun e => by cases e)⟩
theorem SeekI.found (ok : GrOk g) (hp : p < g.length) (h : SeekI g t p k l lk) (hk : k < (predI g p).length) (m : SeekP g t ((predI g p).getD k 0) lk l2 true) : SeekP g t p l l2 true :=
  ⟨m.len.trans h.len, fun _ => (m.yes rfl).trans (pred_anc ok hp (predI_at hk)), (fun e => by cases e), (fun e => by cases e)⟩
theorem SeekI.miss (h : SeekI g t p k l lk) (hne : (predI g p).getD k 0 ≠ t) (m : SeekP g t ((predI g p).getD k 0) lk l2 false) : SeekI g t p (k + 1) l l2 :=
  ⟨m.len.trans h.len, fun i hi => by
    rcases Nat.lt_or_ge i k with h1 | h1
    · exact h.no i h1
    · rw [show i = k by omega]; exact ⟨hne, m.no rfl⟩, fun j hj => by
    rcases m.new rfl j hj with h1 | h1
    · exact h.new j h1
    · exact .inr (.inr h1)⟩
theorem SeekI.skip (ok : GrOk g) (hp : p < g.length) (ht : t < g.length) (h : SeekI g t p k l lk) (hl : SeekPre g t p l) (hk : k < (predI g p).length) (hne : (predI g p).getD k 0 ≠ t) (hs : on lk ((predI g p).getD k 0) ∨ depI g ((predI g p).getD k 0) ≤ depI g t) : SeekI g t p (k + 1) l lk :=
  ⟨h.len, fun i hi => by
    rcases Nat.lt_or_ge i k with h1 | h1
    · exact h.no i h1
    · rw [show i = k by omega]
      have hq := predI_lt ok hp _ (predI_at hk)
      refine ⟨hne, ?_⟩
      rcases hs with hs | hs
      · exact h.pre hl hq _ hs (Nat.le_refl _)
      · intro ha
        have h2 := ha.depth ok
        rw [depth_id ok ht, depth_id ok (Nat.lt_trans hq hp)] at h2
        have h3 : depI g t < depI g ((predI g p).getD k 0) := h2
        omega, h.new⟩
theorem SeekI.done (ok : GrOk g) (hp : p < g.length) (h : SeekI g t p (predI g p).length l lk) : SeekP g t p l lk false := by
  have hn : ¬ Anc g (idAt g t) (idAt g p) := fun ha => by
    have hz : ∃ z, z ∈ predsG g (idAt g p) ∧ (idAt g t = z ∨ Anc g (idAt g t) z) := by
      cases ha with
      | one h1 => exact ⟨_, h1, .inl rfl⟩
      | more h1 h2 => exact ⟨_, h2, .inr h1⟩
    obtain ⟨z, hz1, hz2⟩ := hz
    have hm := anc_pred ok hp hz1
    obtain ⟨i, hi, e⟩ := List.getElem_of_mem hm
    have h1 := h.no i hi
    rw [List.getD, List.getElem?_eq_getElem hi, Option.getD_some, e] at h1
    have hzg : z ∈ idsG g := ((Anc.one hz1).mem ok).1
    have e3 : idAt g (idxG g z) = z := idx_id (idx_lt.2 hzg)
    rcases hz2 with hz2 | hz2
    · by_cases ht : t < g.length
      · exact h1.1 (by rw [← hz2]; exact idx_at ok.nodup ht)
      · have e4 : idAt g t = [] := by
          show (g.getD t nd0).id = []
          rw [List.getD, List.getElem?_eq_none (by omega)]
          rfl
        have := right_of ok hzg
        rw [← hz2, e4] at this
        cases this
    · exact h1.2 (by rw [e3]; exact hz2)
  exact ⟨h.len, (fun e => by cases e), fun _ => hn, fun _ j hj => by
    rcases h.new j hj with h1 | rfl | h1
    · exact .inl h1
    · exact .inr hn
    · exact .inr h1⟩
end
end
section
open Go.Sort
theorem pw_ext {α : Type} {R : α → α → Prop} (irr : ∀ a, ¬ R a a) (tr : ∀ a b c, R a b → R b c → R a c) : ∀ {l m : List α}, l.Pairwise R → m.Pairwise R → (∀ x, x ∈ l ↔ x ∈ m) → l = m
  | [], [], _, _, _ => rfl
  | [], b :: m, _, _, h => by have := (h b).2 List.mem_cons_self; cases this
  | a :: l, [], _, _, h => by have := (h a).1 List.mem_cons_self; cases this
  | a :: l, b :: m, hl, hm, h => by
    rw [List.pairwise_cons] at hl hm
    have hab : a = b := by
      rcases List.mem_cons.1 ((h a).1 List.mem_cons_self) with h1 | h1
      · exact h1
      · rcases List.mem_cons.1 ((h b).2 List.mem_cons_self) with h2 | h2
        · exact h2.symm
        · exact absurd (tr _ _ _ (hl.1 b h2) (hm.1 a h1)) (irr a)
    subst hab
    have ht : l = m := pw_ext irr tr hl.2 hm.2 fun x => by
      constructor
      · intro hx
        rcases List.mem_cons.1 ((h x).1 (List.mem_cons_of_mem _ hx)) with h1 | h1
        · subst h1; exact absurd (hl.1 x hx) (irr x)
        · exact h1
      · intro hx
        rcases List.mem_cons.1 ((h x).2 (List.mem_cons_of_mem _ hx)) with h1 | h1
        · subst h1; exact absurd (hm.1 x hx) (irr x)
        · exact h1
    rw [ht]
def OL (g : Gr) (a b : Bs) : Prop := depthG g a < depthG g b ∨ (depthG g a = depthG g b ∧ Op.bytesLess a b = true)
theorem OL.irr (g : Gr) (a : Bs) : ¬ OL g a a := fun h => by
  rcases h with h | ⟨_, h⟩
  · exact Nat.lt_irrefl _ h
  · rw [less_irrefl] at h; cases h
theorem OL.tr {g : Gr} (a b c : Bs) (h : OL g a b) (k : OL g b c) : OL g a c := by
  rcases h with h | ⟨h, h2⟩
  · rcases k with k | ⟨k, _⟩
    · exact .inl (Nat.lt_trans h k)
    · exact .inl (by omega)
  · rcases k with k | ⟨k, k2⟩
    · exact .inl (by omega)
    · exact .inr ⟨h.trans k, less_trans _ _ _ h2 k2⟩
theorem orderK_lex {g : Gr} (ok : GrOk g) : ∀ m, (orderK g m).Pairwise (OL g)
  | 0 => List.Pairwise.nil
  | m + 1 => by
    show (orderK g m ++ ofL (rowG g (m + 1))).Pairwise _
    refine List.pairwise_append.2 ⟨orderK_lex ok m, ?_, fun a ha b hb => ?_⟩
    · refine List.Pairwise.imp_of_mem (R := fun a b => Go.Op.bytesLess a b = true) (fun {a b} ha hb h => ?_) (ofL_up _)
      rw [row_mem ok (by omega)] at ha hb
      exact .inr ⟨by omega, h⟩
    · rw [orderK_mem ok] at ha
      rw [row_mem ok (by omega)] at hb
      exact .inl (by omega)
def cmpD (x y : Int) : Int := if x < y then -1 else if y < x then 1 else 0
def cmpB (x y : Bs) : Int := if Op.bytesLess x y = true then -1 else if Op.bytesLess y x = true then 1 else 0
def cfO (g : Gr) (i j : Nat) : Int := if cmpD (depI g i) (depI g j) = 0 then cmpB (idAt g i) (idAt g j) else cmpD (depI g i) (depI g j)
theorem cfO_neg (g : Gr) (i j : Nat) : cfO g i j < 0 ↔ depI g i < depI g j ∨ (depI g i = depI g j ∧ Op.bytesLess (idAt g i) (idAt g j) = true) := by
  unfold cfO cmpD cmpB
  rcases Nat.lt_trichotomy (depI g i) (depI g j) with h | h | h
  · have h1 : (depI g i : Int) < (depI g j : Int) := by omega
    simp [h1, h]
  · have h1 : ¬ (depI g i : Int) < (depI g j : Int) := by omega
    have h2 : ¬ (depI g j : Int) < (depI g i : Int) := by omega
    simp only [h1, h2, if_false, if_true]
    cases h3 : Op.bytesLess (idAt g i) (idAt g j) with
    | true => simp [h]
    | false =>
      cases h4 : Op.bytesLess (idAt g j) (idAt g i) with
      | true => simp [h]
      | false => simp [h]
  · have h1 : ¬ (depI g i : Int) < (depI g j : Int) := by omega
    have h2 : (depI g j : Int) < (depI g i : Int) := by omega
    have h5 : ¬ depI g i < depI g j := by omega
    have h6 : ¬ depI g i = depI g j := by omega
    simp [h1, h2, h5, h6]
abbrev cfF (g : Gr) (x y : Fin g.length) : Int := cfO g x.val y.val
theorem ltF (g : Gr) (x y : Fin g.length) : ltOf (cfF g) x y = true ↔ depI g x.val < depI g y.val ∨ (depI g x.val = depI g y.val ∧ Op.bytesLess (idAt g x.val) (idAt g y.val) = true) := by
  unfold ltOf
  rw [decide_eq_true_eq]
  exact cfO_neg g _ _
theorem ltF_no (g : Gr) (x y : Fin g.length) : ltOf (cfF g) x y = false ↔ depI g y.val ≤ depI g x.val ∧ (depI g x.val = depI g y.val → Op.bytesLess (idAt g x.val) (idAt g y.val) = false) := by
  rw [← Bool.not_eq_true, ltF]
  constructor
  · intro h
    refine ⟨Nat.le_of_not_lt fun e => h (.inl e), fun e => ?_⟩
    cases h2 : Op.bytesLess (idAt g x.val) (idAt g y.val) with
    | true => exact absurd (.inr ⟨e, h2⟩) h
    | false => rfl
  · rintro ⟨h1, h2⟩ (h | ⟨h, h3⟩)
    · omega
    · rw [h2 h] at h3; cases h3
theorem swoF (g : Gr) : SWO (ltOf (cfF g)) where
  irrefl x := (ltF_no g x x).2 ⟨Nat.le_refl _, fun _ => less_irrefl _⟩
  trans x y z h1 h2 := by
    rw [ltF] at *
    rcases h1 with h1 | ⟨h1, h3⟩
    · rcases h2 with h2 | ⟨h2, _⟩
      · exact .inl (by omega)
      · exact .inl (by omega)
    · rcases h2 with h2 | ⟨h2, h4⟩
      · exact .inl (by omega)
      · exact .inr ⟨by omega, less_trans _ _ _ h3 h4⟩
  ntrans x y z h1 h2 := by
    rw [ltF_no] at *
    refine ⟨by omega, fun e => ?_⟩
    have e1 : depI g x.val = depI g y.val := by omega
    have e2 : depI g y.val = depI g z.val := by omega
    have q1 := h1.2 e1
    have q2 := h2.2 e2
    cases h3 : Op.bytesLess (idAt g x.val) (idAt g z.val) with
    | false => rfl
    | true =>
      by_cases hxy : idAt g x.val = idAt g y.val
      · rw [hxy, q2] at h3; cases h3
      · rcases less_total _ _ hxy with h4 | h4
        · rw [q1] at h4; cases h4
        · rw [less_trans _ _ _ h4 h3] at q2; cases q2
theorem totF {g : Gr} (ok : GrOk g) (x y : Fin g.length) (h1 : ltOf (cfF g) x y = false) (h2 : ltOf (cfF g) y x = false) : x = y := by
  rw [ltF_no] at h1 h2
  have e : depI g x.val = depI g y.val := by omega
  have q1 := h1.2 e
  have q2 := h2.2 e.symm
  have hid : idAt g x.val = idAt g y.val := Classical.byContradiction fun hne => by
    rcases less_total _ _ hne with h4 | h4
    · rw [q1] at h4; cases h4
    · rw [q2] at h4; cases h4
  have h5 := idx_at ok.nodup x.isLt
  have h6 := idx_at ok.nodup y.isLt
  apply Fin.ext
  rw [← h5, ← h6]
  exact congrArg _ hid
def FL (g : Gr) : List (Fin g.length) := List.finRange g.length
theorem FL_len (g : Gr) : (FL g).length = g.length := List.length_finRange
theorem FL_val (g : Gr) : (FL g).map (fun i => i.val) = List.range g.length := by
  refine List.ext_getElem (by rw [List.length_map, FL_len, List.length_range]) fun i h1 h2 => ?_
  rw [List.getElem_map, List.getElem_range]
  unfold FL
  rw [List.getElem_finRange]
  rfl
abbrev srtF (g : Gr) : List (Fin g.length) := (FL g).mergeSort fun x y => !(ltOf (cfF g)) y x
def ordI (g : Gr) : List Nat := (srtF g).map fun i => i.val
theorem ordI_len (g : Gr) : (ordI g).length = g.length := by
  unfold ordI
  rw [List.length_map, List.length_mergeSort, FL_len]
theorem ordI_lt (g : Gr) : ∀ j ∈ ordI g, j < g.length := fun j hj => by
  unfold ordI at hj
  obtain ⟨x, _, rfl⟩ := List.mem_map.1 hj
  exact x.isLt
theorem ordI_told {g : Gr} (ok : GrOk g) : toldL g (ordI g) = orderG g := by
  have hp : (srtF g).Perm (FL g) := List.mergeSort_perm _ _
  have h1 : (srtF g).Pairwise fun a b => (!(ltOf (cfF g)) b a) = true := List.pairwise_mergeSort (le := fun x y => !(ltOf (cfF g)) y x)
    (fun a b c q1 q2 => by
      simp only [Bool.not_eq_true'] at q1 q2 ⊢
      exact (swoF g).ntrans c b a q2 q1)
    (fun a b => by
      cases h : ltOf (cfF g) b a with
      | false => simp
      | true =>
        have h2 : ltOf (cfF g) a b = false := by
          cases h3 : ltOf (cfF g) a b with
          | false => rfl
          | true => have := (swoF g).trans a b a h3 h; rw [(swoF g).irrefl] at this; cases this
        simp [h2]) (FL g)
  have hnd : (srtF g).Pairwise fun a b => a ≠ b := by
    have h2 : (FL g).Nodup := by
      have h3 : ((FL g).map (fun i => i.val)).Nodup := by rw [FL_val]; exact List.nodup_range
      rw [List.nodup_iff_pairwise_ne, List.pairwise_map] at h3
      exact List.nodup_iff_pairwise_ne.2 (h3.imp fun h e => h (by rw [e]))
    exact List.nodup_iff_pairwise_ne.1 (hp.nodup_iff.2 h2)
  have h4 : (toldL g (ordI g)).Pairwise (OL g) := by
    unfold toldL ordI
    rw [List.map_map, List.pairwise_map]
    refine (h1.and hnd).imp fun {a b} h => ?_
    have h5 : ltOf (cfF g) b a = false := by simpa using h.1
    have h6 : ltOf (cfF g) a b = true := by
      cases h7 : ltOf (cfF g) a b with
      | true => rfl
      | false => exact absurd (totF ok a b h7 h5) h.2
    rw [ltF] at h6
    show OL g (idAt g a.val) (idAt g b.val)
    unfold OL
    rw [depth_id ok a.isLt, depth_id ok b.isLt]
    exact h6
  refine pw_ext (OL.irr g) (fun a b c => OL.tr a b c) h4 (orderK_lex ok g.length) fun x => ?_
  rw [order_mem ok, told_mem, idsG_mem]
  constructor
  · rintro ⟨j, h5, h6⟩
    exact ⟨j, ordI_lt g j h5, h6⟩
  · rintro ⟨j, h5, h6⟩
    refine ⟨j, ?_, h6⟩
    unfold ordI
    refine List.mem_map.2 ⟨⟨j, h5⟩, hp.mem_iff.2 ?_, rfl⟩
    have h7 : j ∈ (FL g).map (fun i => i.val) := by rw [FL_val]; exact List.mem_range.2 h5
    obtain ⟨y, h8, h9⟩ := List.mem_map.1 h7
    have : y = ⟨j, h5⟩ := Fin.ext h9
    rw [← this]
    exact h8
end
section
open Go.RowKit
abbrev NdA := Nd × Option Addr × Nat
def ndC (x : NdA) : List Value := [.string (text x.1.id), .slice x.2.1 x.1.preds.length x.2.2]
def rowN (r : List NdA) : List Value := r.flatMap ndC
theorem rowN_length (r : List NdA) : (rowN r).length = r.length * 2 := by
  induction r with
  | nil => rfl
  | cons x r ih =>
    show (ndC x ++ rowN r).length = _
    rw [List.length_append, ih, List.length_cons]
    show 2 + _ = _
    omega
theorem rowN_one (r : List NdA) : ∀ u ∈ rowN r, u.oneCell' = true := fun u hu => by
  obtain ⟨x, hx, hu⟩ := List.mem_flatMap.1 hu
  simp only [ndC, List.mem_cons, List.not_mem_nil, or_false] at hu
  rcases hu with rfl | rfl <;> rfl
theorem rowN_get (r : List NdA) (i : Nat) (hi : i < r.length) : (rowN r)[i * 2]? = some (.string (text (r[i]).1.id)) ∧ (rowN r)[i * 2 + 1]? = some (.slice (r[i]).2.1 (r[i]).1.preds.length (r[i]).2.2) := by
  induction r generalizing i with
  | nil => simp at hi
  | cons x r ih =>
    have e : rowN (x :: r) = .string (text x.1.id) :: .slice x.2.1 x.1.preds.length x.2.2 :: rowN r := rfl
    rw [e]
    match i with
    | 0 => simp
    | i + 1 =>
      have := ih i (by simpa using hi)
      rw [show (i + 1) * 2 = i * 2 + 2 by omega, show i * 2 + 2 + 1 = i * 2 + 1 + 2 by omega]
      simpa using this
def NPreds (w : World) (B : Nat) (r : List NdA) : Prop := ∀ x ∈ r, SS w B x.2.1 x.1.preds ∧ x.1.preds.length ≤ x.2.2 ∧ x.2.2 ≤ 9223372036854775807
def NR (w : World) (B : Nat) (A : Option Addr) (r : List NdA) : Prop := Reads w B 2 A r.length (rowN r) ∧ NPreds w B r
def NL (w : World) (B : Nat) (A : Option Addr) (g : Gr) : Prop := ∃ r : List NdA, r.map (·.1) = g ∧ NR w B A r
section
variable {w w' : World} {B B' : Nat} {A : Option Addr} {r : List NdA} {g : Gr}
theorem NPreds.below (h : NPreds w B r) (hb : Below B w w') : NPreds w' B r := fun x hx => ⟨(h x hx).1.below hb, (h x hx).2⟩
theorem NPreds.more (h : NPreds w B r) (hb : B ≤ B') : NPreds w B' r := fun x hx => ⟨(h x hx).1.more hb, (h x hx).2⟩
theorem NPreds.snoc {x : NdA} (h : NPreds w B r) (hx : SS w B x.2.1 x.1.preds ∧ x.1.preds.length ≤ x.2.2 ∧ x.2.2 ≤ 9223372036854775807) : NPreds w B (r ++ [x]) := fun y hy => by
  rcases List.mem_append.1 hy with hy | hy
  · exact h y hy
  · rw [List.mem_singleton] at hy; rw [hy]; exact hx
theorem NR.below (h : NR w B A r) (hb : Below B w w') : NR w' B A r := ⟨h.1.below hb, h.2.below hb⟩
theorem NR.more (h : NR w B A r) (hb : B ≤ B') : NR w B' A r := ⟨h.1.more hb, h.2.more hb⟩
theorem NR.up (h : NR w w.heap.size A r) (hb : Below w.heap.size w w') : NR w' w'.heap.size A r := (h.below hb).more hb.size
theorem NL.below (h : NL w B A g) (hb : Below B w w') : NL w' B A g := by
  obtain ⟨r, e, h⟩ := h
  exact ⟨r, e, h.below hb⟩
theorem NL.more (h : NL w B A g) (hb : B ≤ B') : NL w B' A g := by
  obtain ⟨r, e, h⟩ := h
  exact ⟨r, e, h.more hb⟩
theorem NL.up (h : NL w w.heap.size A g) (hb : Below w.heap.size w w') : NL w' w'.heap.size A g := (h.below hb).more hb.size
theorem NL.nil (w : World) (B : Nat) (A : Option Addr) : NL w B A [] := ⟨[], rfl, ⟨rfl, fun h => by simp at h⟩, fun x hx => by cases hx⟩
theorem nd_at {g : Gr} (hr : r.map (·.1) = g) {i : Nat} (hi : i < r.length) : g.getD i nd0 = (r[i]).1 := by
  subst hr
  rw [List.getD, List.getElem?_map, List.getElem?_eq_getElem hi]
  rfl
theorem NL.at_ (h : NL w B A g) (hn : 0 < g.length) : ∃ b off, A = some ⟨b, off, none⟩ ∧ b < B ∧ ∀ i, i < g.length → ∃ pA pc, SS w B pA (g.getD i nd0).preds ∧ ((g.getD i nd0).preds.length ≤ pc ∧ pc ≤ 9223372036854775807) ∧
    w.cell? ⟨b, off + i * 2, none⟩ = some (.string (text (g.getD i nd0).id)) ∧ w.cell? ⟨b, off + i * 2 + 1, none⟩ = some (.slice pA (g.getD i nd0).preds.length pc) := by
  obtain ⟨r, hr, h1, h2⟩ := h
  have hl : r.length = g.length := by rw [← hr, List.length_map]
  obtain ⟨ad, e, hb, hc⟩ := h1.2 (by omega)
  obtain ⟨b, off, p⟩ := ad
  have c0 := hc 0 _ (by have := (rowN_get r 0 (by omega)).1; simpa using this)
  have e0 : (⟨b, off, p⟩ : Addr).add 0 = ⟨b, off, p⟩ := by simp [Addr.add]
  rw [e0] at c0
  have hp : p = none := World.cell?_spot c0
  subst hp
  have ea : ∀ j, (⟨b, off, none⟩ : Addr).add j = ⟨b, off + j, none⟩ := fun j => by unfold Addr.add; split <;> simp_all
  refine ⟨b, off, e, hb, fun i hi => ?_⟩
  have hir : i < r.length := by omega
  obtain ⟨g0, g1⟩ := rowN_get r i hir
  have c0 := hc _ _ g0
  have c1 := hc _ _ g1
  rw [ea] at c0 c1
  obtain ⟨s1, s2⟩ := h2 _ (List.getElem_mem hir)
  rw [nd_at hr hir]
  exact ⟨_, _, s1, s2, c0, by rw [Nat.add_assoc]; exact c1⟩
end
end
section
open Go.RowKit
def icells (l : List Nat) : List Value := l.map fun (n : Nat) => Value.int .i64 ((n : Nat) : Int)
theorem icells_length (l : List Nat) : (icells l).length = l.length := by simp [icells]
theorem icells_append (l m : List Nat) : icells (l ++ m) = icells l ++ icells m := by simp [icells]
theorem icells_get (l : List Nat) (k : Nat) (h : k < l.length) : (icells l)[k]? = some (.int .i64 (l.getD k 0 : Nat)) := by
  simp [icells, List.getD, List.getElem?_eq_getElem h]
def NS (w : World) (B : Nat) (A : Option Addr) (l : List Nat) : Prop := Reads w B 1 A l.length (icells l)
theorem NS.at_ {w : World} {B : Nat} {A : Option Addr} {l : List Nat} (h : NS w B A l) (hn : 0 < l.length) : ∃ b off, A = some ⟨b, off, none⟩ ∧ b < B ∧ ∀ k, k < l.length → w.cell? ⟨b, off + k, none⟩ = some (.int .i64 (l.getD k 0 : Nat)) := by
  obtain ⟨ad, e, hb, hc⟩ := h.2 hn
  have h0 := hc 0 _ (icells_get l 0 hn)
  obtain ⟨b, off, p⟩ := ad
  have e0 : (⟨b, off, p⟩ : Addr).add 0 = ⟨b, off, p⟩ := by simp [Addr.add]
  rw [e0] at h0
  have hp : p = none := World.cell?_spot h0
  subst hp
  refine ⟨b, off, e, hb, fun k hk => ?_⟩
  have := hc k _ (icells_get l k hk)
  have ea : (⟨b, off, none⟩ : Addr).add k = ⟨b, off + k, none⟩ := by unfold Addr.add; split <;> simp_all
  rwa [ea] at this
theorem NS.below {w w' : World} {B : Nat} {A : Option Addr} {l : List Nat} (h : NS w B A l) (hb : Below B w w') : NS w' B A l := Reads.below h hb
theorem NS.more {w : World} {B B' : Nat} {A : Option Addr} {l : List Nat} (h : NS w B A l) (hB : B ≤ B') : NS w B' A l := Reads.more h hB
theorem own_ns {w : World} {base : Nat} {A : Option Addr} {l : List Nat} {c : Nat} (h : w.ownsRow base 3 1 (.slice A l.length c) l.length (icells l)) : NS w w.heap.size A l := Reads.of_own h
theorem Try.infoI16 : (Try.prog.info? 3).map (fun i => (i.zero, i.size, i.bytes)) = some (some (.int .i64 0), 1, 8) := by kernel_rfl
theorem iown_form {w : World} {base : Nat} {v : Value} {n : Nat} {xs : List Value} (h : w.ownsRow base 3 1 v n xs) : ∃ A c, v = .slice A n c := by
  rcases h.2 with ⟨rfl, rfl⟩ | ⟨g, cap, cur, rfl, _⟩
  · exact ⟨none, 0, rfl⟩
  · exact ⟨_, _, rfl⟩
theorem iown_kept {w w' : World} {base n : Nat} {v : Value} {xs : List Value} (h : w.ownsRow base 3 1 v n xs) (hb : Below w.heap.size w w') : w'.ownsRow base 3 1 v n xs :=
  World.ownsRow.kept h (row := none) ⟨hb.os, hb.tape, hb.output, hb.size, fun i hi _ => hb.block i hi⟩ (Classical.em _)
theorem append_ione {ops : Array Oper} {rest : List Oper} {o : Oper} {a : Act} {Q : Exit → Act → World → Prop} (hgd : o.guard = none) (s x : Operand)
    (ho : o.op = .call { callee := .builtin .append, args := #[s, x], argTypes := #[64, 64] })
    {wr : World} {A : Option Addr} {q c B : Nat} {l : List Nat} {z : Nat} {v : Int} (hs : a.eval s = .slice A q c) (hS : wr.ownsRow B 3 1 (.slice A q c) q (icells l)) (ht : v = (z : Int)) (hx : a.eval x = .slice (some ⟨wr.heap.size, 0, none⟩) 1 1) (hlen : q + 1 ≤ 100000) (hB : B ≤ wr.heap.size)
    (h : ∀ A' c' w1, Hid (w1.ownsRow B 3 1 (.slice A' (q + 1) c') (q + 1) (icells (l ++ [z]))) → Hid (Below B wr w1) → wpList Try.prog ops Q rest (a.put o.dst (.slice A' (q + 1) c')) w1) :
    wpList Try.prog ops Q (o :: rest) a (wr.alloc (.cells #[.int .i64 v] 3)) := by
  obtain ⟨i0, hi0, hz0, hz1, hz2⟩ := info_parts Try.infoI16
  have hb0 : Below B wr (wr.alloc (.cells #[.int .i64 v] 3)) := (Below.refl _ _).alloc hB _
  refine wpList_append_own _ hgd s x 64 ho B 3 i0 _ 1 8 Try.underlying64 hi0 hz0 hz1 hz2 rfl (by omega) _ q (icells l) hs (hS.alloc _) ⟨wr.heap.size, 0, none⟩ 1 1 [Value.int .i64 v] hx rfl (cell_one_new _ _ _) (by intro u hu; rw [List.mem_singleton] at hu; subst hu; rfl) (by simp only [maxLen]; omega) (by omega) (by simp; omega) ?_
  intro v' w1 ho1 hg1 _
  obtain ⟨A', c', rfl⟩ := iown_form ho1
  refine h A' c' w1 ?_ (hb0.grown hg1 (by simp; omega) fun k hk => (hS.lt k hk).1)
  show w1.ownsRow _ _ _ _ _ _
  rw [icells_append]
  subst ht
  exact ho1
def GivesNats (l : List Nat) (w : World) (e : Ending) (w' : World) : Prop := ∃ A c, e = .returned (.slice A l.length c) ∧ Hid (NS w' w'.heap.size A l) ∧ Hid (Below w.heap.size w w')
end
end Go.Proofs.Ytbeihiokjhfepaa
