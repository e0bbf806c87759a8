/- Lemmas under the proofs of this place: DagPlain, Mem, Foot. No statement is proved here. -/
import Derived.Test.YtbeihiokjhfepaaBu02
import Derived.Test.YtbeihiokjhfepaaRows
import Derived.Test.YtbeihiokjhfepaaBu00
import Derived.WalkKit
import Derived.WalkSpells
import Derived.WalkLawsBesides
import Derived.Lib.Hide
import Derived.Laws.CopyOwn
import Derived.Still
import Derived.Lib.Index
import Init.Data.List.Lemmas
set_option linter.unusedSimpArgs false
set_option linter.unusedVariables false
namespace Go.Proofs.Ytbeihiokjhfepaa
section
structure Nd where
  id : Bs
  preds : List Bs
deriving DecidableEq
def nd0 : Nd := ⟨[], []⟩
abbrev Gr := List Nd
def idsG (g : Gr) : List Bs := g.map (·.id)
def hasG (g : Gr) (x : Bs) : Bool := hasL (idsG g) x
def idxG (g : Gr) (x : Bs) : Nat := (idsG g).idxOf x
def predsG (g : Gr) (x : Bs) : List Bs := (g.getD (idxG g x) nd0).preds
structure GrOk (g : Gr) : Prop where
  right : ∀ k, k < g.length → rightB (g.getD k nd0).id = true
  rise : ∀ k, k < g.length → risesL (g.getD k nd0).preds = true
  nodup : (idsG g).Nodup
  closed : ∀ k, k < g.length → ∀ p ∈ (g.getD k nd0).preds, idxG g p < k
def addG (g : Gr) (x : Bs) (p : List Bs) : Gr × Int :=
  if rightB x = true ∧ risesL p = true then
    if hasG g x = true then (g, 7)
    else if p.all (hasG g) = true then (if 4096 ≤ g.length then (g, 2) else (g ++ [⟨x, p⟩], 0))
    else (g, 14)
  else (g, 1)
def kidsG (g : Gr) (x : Bs) : List Bs := ofL ((g.filter fun n => hasL n.preds x).map (·.id))
def headsG (g : Gr) : List Bs := ofL ((g.filter fun n => (kidsG g n.id).isEmpty).map (·.id))
def topK (acc : List Nat) (g : Gr) (l : List Bs) : Nat → Nat
  | 0 => 0
  | k + 1 => max (topK acc g l k) (acc.getD (idxG g (l.getD k [])) 0)
def depthsK (g : Gr) : Nat → List Nat
  | 0 => []
  | k + 1 => depthsK g k ++ [topK (depthsK g k) g (g.getD k nd0).preds (g.getD k nd0).preds.length + 1]
def depthsG (g : Gr) : List Nat := depthsK g g.length
def depthG (g : Gr) (x : Bs) : Nat := (depthsG g).getD (idxG g x) 0
def rowI (g : Gr) (n : Nat) (k : Nat) : List Bs := ((List.range k).filter fun i => (depthsG g).getD i 0 == n).map fun i => (g.getD i nd0).id
def rowG (g : Gr) (n : Nat) : List Bs := rowI g n g.length
def orderK (g : Gr) : Nat → List Bs
  | 0 => []
  | m + 1 => orderK g m ++ ofL (rowG g (m + 1))
def orderG (g : Gr) : List Bs := orderK g g.length
def pastK (g : Gr) (l : List Bs) : Nat → List Bs × List Bs
  | 0 => ([], l)
  | j + 1 => if hasL (pastK g l j).2 (g.getD (g.length - 1 - j) nd0).id = true then ((pastK g l j).1 ++ [(g.getD (g.length - 1 - j) nd0).id], (pastK g l j).2 ++ (g.getD (g.length - 1 - j) nd0).preds) else pastK g l j
def pastG (g : Gr) (l : List Bs) : List Bs := ofL (pastK g l g.length).1
def aheadG (g : Gr) (a b : Bs) : Bool := decide (a ≠ b) && hasG g a && hasG g b && hasL (pastG g [b]) a
theorem getD_at {g : Gr} {k : Nat} (h : k < g.length) : g.getD k nd0 = g[k] := by rw [List.getD, List.getElem?_eq_getElem h]; rfl
theorem idsG_len (g : Gr) : (idsG g).length = g.length := by simp [idsG]
theorem idsG_at {g : Gr} {k : Nat} (h : k < g.length) : (idsG g)[k]'(by rw [idsG_len]; exact h) = (g.getD k nd0).id := by rw [getD_at h]; simp [idsG]
theorem idsG_mem {g : Gr} {x : Bs} : x ∈ idsG g ↔ ∃ k, k < g.length ∧ (g.getD k nd0).id = x := by
  constructor
  · intro h
    obtain ⟨k, hk, e⟩ := List.getElem_of_mem h
    rw [idsG_len] at hk
    exact ⟨k, hk, by rw [← idsG_at hk]; exact e⟩
  · rintro ⟨k, hk, rfl⟩
    rw [← idsG_at hk]
    exact List.getElem_mem _
theorem idx_le (g : Gr) (x : Bs) : idxG g x ≤ g.length := by
  have h := List.idxOf_le_length (a := x) (l := idsG g)
  rwa [idsG_len] at h
theorem idx_lt {g : Gr} {x : Bs} : idxG g x < g.length ↔ x ∈ idsG g := by
  unfold idxG
  rw [← idsG_len g]
  exact List.idxOf_lt_length_iff
theorem idx_id {g : Gr} {x : Bs} (h : idxG g x < g.length) : (g.getD (idxG g x) nd0).id = x := by
  rw [← idsG_at h]
  exact List.getElem_idxOf _
theorem idx_no {g : Gr} {x : Bs} (h : x ∉ idsG g) : idxG g x = g.length := by
  have h1 := idx_le g x
  have h2 : ¬ idxG g x < g.length := fun e => h (idx_lt.1 e)
  omega
theorem idx_at {g : Gr} (hd : (idsG g).Nodup) {k : Nat} (h : k < g.length) : idxG g (g.getD k nd0).id = k := by
  unfold idxG
  rw [← idsG_at h]
  exact List.Nodup.idxOf_getElem hd _ _
theorem idx_first {g : Gr} {x : Bs} {k : Nat} (hk : k < g.length) (e : (g.getD k nd0).id = x) (hf : ∀ j, j < k → (g.getD j nd0).id ≠ x) : idxG g x = k := by
  have hx : idxG g x < g.length := idx_lt.2 (idsG_mem.2 ⟨k, hk, e⟩)
  have h1 := idx_id hx
  rcases Nat.lt_trichotomy (idxG g x) k with h | h | h
  · exact absurd h1 (hf _ h)
  · exact h
  · exfalso
    have h2 : (idsG g).idxOf x ≤ k := by
      refine Nat.le_of_not_lt fun hlt => ?_
      have h3 := List.not_of_lt_findIdx (xs := idsG g) (p := (· == x)) (i := k) (by unfold List.idxOf at hlt; exact hlt)
      rw [idsG_at hk, e] at h3
      simp at h3
    unfold idxG at h
    omega
theorem idx_none {g : Gr} {x : Bs} (hf : ∀ j, j < g.length → (g.getD j nd0).id ≠ x) : idxG g x = g.length := idx_no fun h => by
  obtain ⟨k, hk, e⟩ := idsG_mem.1 h
  exact hf k hk e
theorem hasG_iff {g : Gr} {x : Bs} : hasG g x = true ↔ x ∈ idsG g := hasL_iff _ _
theorem hasG_idx {g : Gr} {x : Bs} : hasG g x = decide (idxG g x < g.length) := by
  rw [Bool.eq_iff_iff, hasG_iff, decide_eq_true_eq, idx_lt]
theorem preds_no {g : Gr} {x : Bs} (h : x ∉ idsG g) : predsG g x = [] := by
  unfold predsG
  rw [idx_no h, List.getD, List.getElem?_eq_none (Nat.le_refl _)]
  rfl
theorem preds_at {g : Gr} (hd : (idsG g).Nodup) {k : Nat} (h : k < g.length) : predsG g (g.getD k nd0).id = (g.getD k nd0).preds := by
  unfold predsG
  rw [idx_at hd h]
theorem GrOk.nil : GrOk [] := ⟨fun k h => by simp at h, fun k h => by simp at h, by simp [idsG], fun k h => by simp at h⟩
theorem idx_app {g : Gr} {x : Bs} (n : Nd) (h : x ∈ idsG g) : idxG (g ++ [n]) x = idxG g x := by
  unfold idxG idsG
  rw [List.map_append, List.idxOf_append, if_pos (by exact h)]
theorem addG_ok {g : Gr} (h : GrOk g) (x : Bs) (p : List Bs) : GrOk (addG g x p).1 := by
  unfold addG
  split
  · rename_i h1
    split
    · exact h
    · rename_i h2
      split
      · rename_i h3
        split
        · exact h
        · rw [List.all_eq_true] at h3
          have hx : x ∉ idsG g := fun e => h2 (hasG_iff.2 e)
          have hl : ∀ k, k < g.length → (g ++ [(⟨x, p⟩ : Nd)]).getD k nd0 = g.getD k nd0 := fun k hk => by
            rw [List.getD, List.getElem?_append_left hk, List.getD]
          have hz : (g ++ [(⟨x, p⟩ : Nd)]).getD g.length nd0 = ⟨x, p⟩ := by
            rw [List.getD, List.getElem?_append_right (Nat.le_refl _)]
            simp
          have hc : ∀ k, k < (g ++ [(⟨x, p⟩ : Nd)]).length → k < g.length ∨ k = g.length := fun k hk => by
            rw [List.length_append] at hk
            simp only [List.length_cons, List.length_nil] at hk
            omega
          refine ⟨fun k hk => ?_, fun k hk => ?_, ?_, fun k hk q hq => ?_⟩
          · rcases hc k hk with h4 | h4
            · rw [hl k h4]; exact h.right k h4
            · rw [h4, hz]; exact h1.1
          · rcases hc k hk with h4 | h4
            · rw [hl k h4]; exact h.rise k h4
            · rw [h4, hz]; exact h1.2
          · show ((g ++ [(⟨x, p⟩ : Nd)]).map (·.id)).Nodup
            rw [List.map_append, List.nodup_append]
            refine ⟨h.nodup, by simp, ?_⟩
            intro a ha b hb e
            simp at hb
            subst hb e
            exact hx ha
          · rcases hc k hk with h4 | h4
            · rw [hl k h4] at hq
              have h5 := h.closed k h4 q hq
              rw [idx_app _ (idx_lt.1 (Nat.lt_trans h5 h4))]
              exact h5
            · rw [h4, hz] at hq
              have h5 := hasG_iff.1 (h3 q hq)
              rw [idx_app _ h5, h4]
              exact idx_lt.2 h5
      · exact h
  · exact h
inductive Anc (g : Gr) : Bs → Bs → Prop
  | one {x y : Bs} : x ∈ predsG g y → Anc g x y
  | more {x z y : Bs} : Anc g x z → z ∈ predsG g y → Anc g x y
theorem Anc.trans {g : Gr} {x y z : Bs} (h : Anc g x y) (k : Anc g y z) : Anc g x z := by
  induction k with
  | one h1 => exact .more h h1
  | more _ h1 ih => exact .more ih h1
theorem Anc.head {g : Gr} {x y : Bs} (h : Anc g x y) : ∃ z, x ∈ predsG g z ∧ (z = y ∨ Anc g z y) := by
  induction h with
  | one h1 => exact ⟨_, h1, .inl rfl⟩
  | more _ h1 ih =>
    obtain ⟨z, h2, h3⟩ := ih
    refine ⟨z, h2, .inr ?_⟩
    rcases h3 with rfl | h3
    · exact .one h1
    · exact .more h3 h1
theorem preds_in {g : Gr} {x y : Bs} (h : x ∈ predsG g y) : y ∈ idsG g := by
  refine Classical.byContradiction fun e => ?_
  rw [preds_no e] at h
  cases h
theorem preds_idx {g : Gr} (ok : GrOk g) {x y : Bs} (h : x ∈ predsG g y) : idxG g x < idxG g y := ok.closed _ (idx_lt.2 (preds_in h)) x h
theorem Anc.idx {g : Gr} (ok : GrOk g) {x y : Bs} (h : Anc g x y) : idxG g x < idxG g y ∧ idxG g y < g.length := by
  induction h with
  | one h1 => exact ⟨preds_idx ok h1, idx_lt.2 (preds_in h1)⟩
  | more _ h1 ih => exact ⟨Nat.lt_trans ih.1 (preds_idx ok h1), idx_lt.2 (preds_in h1)⟩
theorem Anc.mem {g : Gr} (ok : GrOk g) {x y : Bs} (h : Anc g x y) : x ∈ idsG g ∧ y ∈ idsG g := by
  have h1 := h.idx ok
  exact ⟨idx_lt.1 (by omega), idx_lt.1 h1.2⟩
theorem Anc.ne {g : Gr} (ok : GrOk g) {x y : Bs} (h : Anc g x y) : x ≠ y := fun e => by
  have h1 := h.idx ok
  rw [e] at h1
  omega
def WantG (g : Gr) (l : List Bs) (x : Bs) : Prop := x ∈ l ∨ ∃ y, y ∈ l ∧ Anc g x y
theorem pastK_spec {g : Gr} (ok : GrOk g) (l : List Bs) : ∀ j, j ≤ g.length →
    (∀ x, x ∈ (pastK g l j).1 ↔ ∃ i, g.length - j ≤ i ∧ i < g.length ∧ (g.getD i nd0).id = x ∧ WantG g l x) ∧
    (∀ x, x ∈ (pastK g l j).2 ↔ x ∈ l ∨ ∃ i, g.length - j ≤ i ∧ i < g.length ∧ WantG g l (g.getD i nd0).id ∧ x ∈ (g.getD i nd0).preds)
  | 0, _ => ⟨fun x => ⟨fun h => (by cases h), fun ⟨i, h1, h2, _⟩ => by omega⟩, fun x => ⟨fun h => .inl h, fun h => by
      rcases h with h | ⟨i, h1, h2, _⟩
      · exact h
      · omega⟩⟩
  | j + 1, hj => by
    obtain ⟨ih1, ih2⟩ := pastK_spec ok l j (by omega)
    obtain ⟨k, hk⟩ : ∃ k, k = g.length - 1 - j := ⟨_, rfl⟩
    have hkl : k < g.length := by omega
    have hw : hasL (pastK g l j).2 (g.getD k nd0).id = true ↔ WantG g l (g.getD k nd0).id := by
      rw [hasL_iff, ih2]
      constructor
      · rintro (h | ⟨i, h1, h2, h3, h4⟩)
        · exact .inl h
        · have h5 : Anc g (g.getD k nd0).id (g.getD i nd0).id := .one (by rw [preds_at ok.nodup h2]; exact h4)
          rcases h3 with h3 | ⟨y, h3, h6⟩
          · exact .inr ⟨_, h3, h5⟩
          · exact .inr ⟨y, h3, h5.trans h6⟩
      · rintro (h | ⟨y, h1, h2⟩)
        · exact .inl h
        · obtain ⟨z, h3, h4⟩ := h2.head
          have h5 := idx_lt.2 (preds_in h3)
          have h6 := preds_idx ok h3
          rw [idx_at ok.nodup hkl] at h6
          refine .inr ⟨idxG g z, by omega, h5, ?_, h3⟩
          rw [idx_id h5]
          rcases h4 with rfl | h4
          · exact .inl h1
          · exact .inr ⟨y, h1, h4⟩
    show (∀ x, x ∈ (if hasL (pastK g l j).2 (g.getD (g.length - 1 - j) nd0).id = true then ((pastK g l j).1 ++ [(g.getD (g.length - 1 - j) nd0).id], (pastK g l j).2 ++ (g.getD (g.length - 1 - j) nd0).preds) else pastK g l j).1 ↔ _) ∧ (∀ x, x ∈ (if hasL (pastK g l j).2 (g.getD (g.length - 1 - j) nd0).id = true then ((pastK g l j).1 ++ [(g.getD (g.length - 1 - j) nd0).id], (pastK g l j).2 ++ (g.getD (g.length - 1 - j) nd0).preds) else pastK g l j).2 ↔ _)
    rw [← hk]
    have hs : ∀ i, g.length - (j + 1) ≤ i ↔ g.length - j ≤ i ∨ i = k := fun i => by omega
    by_cases hc : hasL (pastK g l j).2 (g.getD k nd0).id = true
    · rw [if_pos hc]
      have hW := hw.1 hc
      refine ⟨fun x => ?_, fun x => ?_⟩
      · simp only [List.mem_append, List.mem_singleton, ih1]
        constructor
        · rintro (⟨i, h1, h2⟩ | h)
          · exact ⟨i, (hs i).2 (.inl h1), h2⟩
          · exact ⟨k, (hs k).2 (.inr rfl), hkl, h.symm, by rw [h]; exact hW⟩
        · rintro ⟨i, h1, h2, h3, h4⟩
          rcases (hs i).1 h1 with h5 | h5
          · exact .inl ⟨i, h5, h2, h3, h4⟩
          · subst h5; exact .inr h3.symm
      · simp only [List.mem_append, ih2]
        constructor
        · rintro ((h | ⟨i, h1, h2⟩) | h)
          · exact .inl h
          · exact .inr ⟨i, (hs i).2 (.inl h1), h2⟩
          · exact .inr ⟨k, (hs k).2 (.inr rfl), hkl, hW, h⟩
        · rintro (h | ⟨i, h1, h2, h3, h4⟩)
          · exact .inl (.inl h)
          · rcases (hs i).1 h1 with h5 | h5
            · exact .inl (.inr ⟨i, h5, h2, h3, h4⟩)
            · subst h5; exact .inr h4
    · rw [if_neg hc]
      have hW : ¬ WantG g l (g.getD k nd0).id := fun e => hc (hw.2 e)
      refine ⟨fun x => ?_, fun x => ?_⟩
      · rw [ih1]
        constructor
        · rintro ⟨i, h1, h2⟩
          exact ⟨i, (hs i).2 (.inl h1), h2⟩
        · rintro ⟨i, h1, h2, h3, h4⟩
          rcases (hs i).1 h1 with h5 | h5
          · exact ⟨i, h5, h2, h3, h4⟩
          · subst h5; rw [h3] at hW; exact absurd h4 hW
      · rw [ih2]
        constructor
        · rintro (h | ⟨i, h1, h2⟩)
          · exact .inl h
          · exact .inr ⟨i, (hs i).2 (.inl h1), h2⟩
        · rintro (h | ⟨i, h1, h2, h3, h4⟩)
          · exact .inl h
          · rcases (hs i).1 h1 with h5 | h5
            · exact .inr ⟨i, h5, h2, h3, h4⟩
            · subst h5; exact absurd h3 hW
theorem right_of {g : Gr} (ok : GrOk g) {x : Bs} (h : x ∈ idsG g) : rightB x = true := by
  obtain ⟨k, hk, e⟩ := idsG_mem.1 h
  rw [← e]
  exact ok.right k hk
theorem past_mem {g : Gr} (ok : GrOk g) (l : List Bs) (x : Bs) : x ∈ pastG g l ↔ x ∈ idsG g ∧ WantG g l x := by
  unfold pastG
  rw [ofL_mem, (pastK_spec ok l _ (Nat.le_refl _)).1]
  constructor
  · rintro ⟨⟨i, h1, h2, h3, h4⟩, h5⟩
    exact ⟨idsG_mem.2 ⟨i, h2, h3⟩, h4⟩
  · rintro ⟨h1, h2⟩
    obtain ⟨k, hk, e⟩ := idsG_mem.1 h1
    exact ⟨⟨k, by omega, hk, e, h2⟩, right_of ok h1⟩
theorem past_up (g : Gr) (l : List Bs) : Up (pastG g l) := ofL_up _
theorem ahead_iff {g : Gr} (ok : GrOk g) (a b : Bs) : aheadG g a b = true ↔ Anc g a b := by
  unfold aheadG
  simp only [Bool.and_eq_true, decide_eq_true_eq, hasG_iff, hasL_iff, past_mem ok]
  constructor
  · rintro ⟨⟨⟨h1, h2⟩, h3⟩, h4, h5⟩
    rcases h5 with h5 | ⟨y, h5, h6⟩
    · rw [List.mem_singleton] at h5; exact absurd h5 h1
    · rw [List.mem_singleton] at h5; rwa [h5] at h6
  · intro h
    obtain ⟨h1, h2⟩ := h.mem ok
    exact ⟨⟨⟨h.ne ok, h1⟩, h2⟩, h1, .inr ⟨b, List.mem_singleton.2 rfl, h⟩⟩
theorem past_closed {g : Gr} (ok : GrOk g) (l : List Bs) {x p : Bs} (hx : x ∈ pastG g l) (hp : p ∈ predsG g x) : p ∈ pastG g l := by
  rw [past_mem ok] at hx ⊢
  have h1 : Anc g p x := .one hp
  refine ⟨(h1.mem ok).1, ?_⟩
  rcases hx.2 with h | ⟨y, h, h2⟩
  · exact .inr ⟨x, h, h1⟩
  · exact .inr ⟨y, h, h1.trans h2⟩
theorem less_past {g : Gr} (ok : GrOk g) (l : List Bs) {x : Bs} (hx : x ∈ pastG g l) : lessL (predsG g x) (pastG g l) = [] := by
  refine List.eq_nil_iff_forall_not_mem.2 fun p hp => ?_
  rw [lessL_mem] at hp
  exact hp.1.2 (past_closed ok l hx hp.1.1)
theorem depthsK_len (g : Gr) : ∀ k, (depthsK g k).length = k
  | 0 => rfl
  | k + 1 => by
    show (depthsK g k ++ [_]).length = _
    rw [List.length_append, depthsK_len g k]
    rfl
theorem depthsK_take (g : Gr) : ∀ k i, i < k → (depthsK g k).getD i 0 = (depthsK g (i + 1)).getD i 0
  | 0, i, h => by omega
  | k + 1, i, h => by
    rcases Nat.lt_or_ge i k with h1 | h1
    · rw [← depthsK_take g k i h1]
      show (depthsK g k ++ [_]).getD i 0 = _
      rw [List.getD, List.getElem?_append_left (by rw [depthsK_len]; exact h1), List.getD]
    · rw [show i = k by omega]
theorem topK_le (acc : List Nat) (g : Gr) (l : List Bs) : ∀ k j, j < k → acc.getD (idxG g (l.getD j [])) 0 ≤ topK acc g l k
  | 0, j, h => by omega
  | k + 1, j, h => by
    show _ ≤ max _ _
    rcases Nat.lt_or_ge j k with h1 | h1
    · have := topK_le acc g l k j h1
      omega
    · rw [show j = k by omega]
      omega
theorem topK_bound (acc : List Nat) (g : Gr) (l : List Bs) (m : Nat) (h : ∀ i, acc.getD i 0 ≤ m) : ∀ k, topK acc g l k ≤ m
  | 0 => Nat.zero_le _
  | k + 1 => by
    show max _ _ ≤ m
    have h1 := topK_bound acc g l m h k
    have h2 := h (idxG g (l.getD k []))
    omega
theorem depths_at (g : Gr) {i : Nat} (h : i < g.length) : (depthsG g).getD i 0 = topK (depthsK g i) g (g.getD i nd0).preds (g.getD i nd0).preds.length + 1 := by
  unfold depthsG
  rw [depthsK_take g _ i h]
  show (depthsK g i ++ [_]).getD i 0 = _
  rw [List.getD, List.getElem?_append_right (by rw [depthsK_len]; exact Nat.le_refl _), depthsK_len]
  simp
theorem depthsK_small (g : Gr) : ∀ k i, (depthsK g k).getD i 0 ≤ k
  | 0, i => by simp [depthsK]
  | k + 1, i => by
    show (depthsK g k ++ [_]).getD i 0 ≤ _
    rcases Nat.lt_trichotomy i k with h | h | h
    · rw [List.getD, List.getElem?_append_left (by rw [depthsK_len]; exact h)]
      have := depthsK_small g k i
      rw [List.getD] at this
      omega
    · rw [List.getD, List.getElem?_append_right (by rw [depthsK_len]; omega), depthsK_len, h]
      simp only [Nat.sub_self, List.getElem?_cons_zero, Option.getD_some]
      have := topK_bound (depthsK g k) g (g.getD k nd0).preds k (fun j => depthsK_small g k j) (g.getD k nd0).preds.length
      omega
    · rw [List.getD, List.getElem?_eq_none (by rw [List.length_append, depthsK_len]; simp; omega)]
      exact Nat.zero_le _
theorem depth_le (g : Gr) (i : Nat) : (depthsG g).getD i 0 ≤ g.length := depthsK_small g _ i
theorem depth_pos (g : Gr) {i : Nat} (h : i < g.length) : 1 ≤ (depthsG g).getD i 0 := by rw [depths_at g h]; omega
theorem depth_no {g : Gr} {x : Bs} (h : x ∉ idsG g) : depthG g x = 0 := by
  unfold depthG depthsG
  rw [idx_no h, List.getD, List.getElem?_eq_none (by rw [depthsK_len]; exact Nat.le_refl _)]
  rfl
theorem depth_preds {g : Gr} (ok : GrOk g) {x y : Bs} (h : x ∈ predsG g y) : depthG g x < depthG g y := by
  have hy := idx_lt.2 (preds_in h)
  have hi := preds_idx ok h
  unfold depthG
  rw [depths_at g hy]
  obtain ⟨j, hj, e⟩ := List.getElem_of_mem h
  have h1 := topK_le (depthsK g (idxG g y)) g (g.getD (idxG g y) nd0).preds (g.getD (idxG g y) nd0).preds.length j hj
  have e2 : (g.getD (idxG g y) nd0).preds.getD j [] = x := by
    show (predsG g y).getD j [] = x
    rw [List.getD, List.getElem?_eq_getElem hj]
    exact e
  rw [e2] at h1
  have h3 : (depthsG g).getD (idxG g x) 0 = (depthsK g (idxG g y)).getD (idxG g x) 0 := by
    unfold depthsG
    rw [depthsK_take g _ _ (Nat.lt_trans hi hy), depthsK_take g _ _ hi]
  rw [h3]
  omega
theorem Anc.depth {g : Gr} (ok : GrOk g) {x y : Bs} (h : Anc g x y) : depthG g x < depthG g y := by
  induction h with
  | one h1 => exact depth_preds ok h1
  | more _ h1 ih => exact Nat.lt_trans ih (depth_preds ok h1)
theorem depth_id {g : Gr} (ok : GrOk g) {i : Nat} (h : i < g.length) : depthG g (g.getD i nd0).id = (depthsG g).getD i 0 := by
  unfold depthG
  rw [idx_at ok.nodup h]
theorem row_mem {g : Gr} (ok : GrOk g) {n : Nat} (hn : 0 < n) (x : Bs) : x ∈ ofL (rowG g n) ↔ x ∈ idsG g ∧ depthG g x = n := by
  rw [ofL_mem]
  unfold rowG rowI
  simp only [List.mem_map, List.mem_filter, List.mem_range, beq_iff_eq]
  constructor
  · rintro ⟨⟨i, ⟨h1, h2⟩, rfl⟩, h3⟩
    exact ⟨idsG_mem.2 ⟨i, h1, rfl⟩, by rw [depth_id ok h1]; exact h2⟩
  · rintro ⟨h1, h2⟩
    obtain ⟨i, hi, rfl⟩ := idsG_mem.1 h1
    exact ⟨⟨i, ⟨hi, by rw [← depth_id ok hi]; exact h2⟩, rfl⟩, ok.right i hi⟩
theorem orderK_mem {g : Gr} (ok : GrOk g) (x : Bs) : ∀ m, x ∈ orderK g m ↔ x ∈ idsG g ∧ 1 ≤ depthG g x ∧ depthG g x ≤ m
  | 0 => ⟨fun h => (by cases h), fun h => by omega⟩
  | m + 1 => by
    show x ∈ orderK g m ++ ofL (rowG g (m + 1)) ↔ _
    rw [List.mem_append, orderK_mem ok x m, row_mem ok (by omega)]
    constructor
    · rintro (⟨h1, h2, h3⟩ | ⟨h1, h2⟩)
      · exact ⟨h1, h2, by omega⟩
      · exact ⟨h1, by omega, by omega⟩
    · rintro ⟨h1, h2, h3⟩
      by_cases h : depthG g x = m + 1
      · exact .inr ⟨h1, h⟩
      · exact .inl ⟨h1, h2, by omega⟩
theorem order_mem {g : Gr} (ok : GrOk g) (x : Bs) : x ∈ orderG g ↔ x ∈ idsG g := by
  unfold orderG
  rw [orderK_mem ok]
  constructor
  · exact fun h => h.1
  · intro h
    obtain ⟨i, hi, rfl⟩ := idsG_mem.1 h
    rw [depth_id ok hi]
    exact ⟨h, depth_pos g hi, depth_le g i⟩
theorem orderK_by {g : Gr} (ok : GrOk g) : ∀ m, (orderK g m).Pairwise fun a b => depthG g a ≤ depthG g b ∧ a ≠ b
  | 0 => List.Pairwise.nil
  | m + 1 => by
    show (orderK g m ++ ofL (rowG g (m + 1))).Pairwise _
    refine List.pairwise_append.2 ⟨orderK_by ok m, ?_, fun a ha b hb => ?_⟩
    · refine List.Pairwise.imp_of_mem (R := fun a b => Go.Op.bytesLess a b = true) (fun {a b} ha hb h => ?_) (ofL_up _)
      rw [row_mem ok (by omega)] at ha hb
      exact ⟨by omega, less_ne h⟩
    · rw [orderK_mem ok] at ha
      rw [row_mem ok (by omega)] at hb
      exact ⟨by omega, fun e => by rw [e] at ha; omega⟩
theorem order_nodup {g : Gr} (ok : GrOk g) : (orderG g).Nodup := (orderK_by ok _).imp fun h => h.2
theorem order_len {g : Gr} (ok : GrOk g) : (orderG g).length = g.length := by
  have h1 := (order_nodup ok).length_le_of_subset (l₂ := idsG g) (fun x hx => (order_mem ok x).1 hx)
  have h2 := ok.nodup.length_le_of_subset (l₂ := orderG g) (fun x hx => (order_mem ok x).2 hx)
  rw [idsG_len] at h1 h2
  omega
theorem order_behind {g : Gr} (ok : GrOk g) {i : Nat} (hi : i < (orderG g).length) {p : Bs} (hp : p ∈ predsG g (orderG g)[i]) : p ∈ (orderG g).take i := by
  have h1 : Anc g p (orderG g)[i] := .one hp
  have h2 := (order_mem ok p).2 (h1.mem ok).1
  obtain ⟨j, hj, e⟩ := List.getElem_of_mem h2
  have hd := h1.depth ok
  rcases Nat.lt_trichotomy j i with h | h | h
  · rw [List.mem_take_iff_getElem]
    exact ⟨j, by omega, e⟩
  · subst h
    rw [e] at hd
    omega
  · have h3 := List.pairwise_iff_getElem.1 (orderK_by ok g.length) i j hi hj h
    have h4 : depthG g (orderG g)[i] ≤ depthG g (orderG g)[j] := h3.1
    rw [e] at h4
    omega
theorem order_once {g : Gr} (ok : GrOk g) {i : Nat} (hi : i < (orderG g).length) : (orderG g)[i] ∉ (orderG g).take i := fun h => by
  rw [List.mem_take_iff_getElem] at h
  obtain ⟨j, hj, e⟩ := h
  have hji : j < i := by omega
  exact (List.pairwise_iff_getElem.1 (orderK_by ok g.length) j i (Nat.lt_trans hji hi) hi hji).2 e
end
section
open Go.RowKit
theorem Try.info5 : (Try.prog.info? 5).map (fun i => (i.zero, i.size, i.bytes)) = some (some (.int .u8 0), 1, 1) := by kernel_rfl
def Own (w : World) (base : Nat) (A : Option Addr) (L : List UInt8) (c : Nat) : Prop := w.ownsRow base 5 1 (.slice A L.length c) L.length (cells L)
def GivesBytes (L : List UInt8) (w : World) (e : Ending) (w' : World) : Prop :=
  ∃ A c, e = .returned (.tuple #[.slice A L.length c, .int .i64 0]) ∧ Own w' w.heap.size A L c ∧ Below w.heap.size w w'
theorem own_form {w : World} {base : Nat} {v : Value} {n : Nat} {xs : List Value} (h : w.ownsRow base 5 1 v n xs) : ∃ A c, v = .slice A n c := by
  rcases h.2 with ⟨rfl, rfl⟩ | ⟨g, cap, cur, rfl, _⟩
  · exact ⟨none, 0, rfl⟩
  · exact ⟨_, _, rfl⟩
theorem append_byte {ops : Array Oper} {rest : List Oper} {o : Oper} {a : Act} {Q : Exit → Act → World → Prop} (hgd : o.guard = none) (s x : Operand)
    (ho : o.op = .call { callee := .builtin .append, args := #[s, x], argTypes := #[86, 86] })
    {B : Nat} {w0 wr : World} {v : Value} {P : List UInt8} {z : Int} (b : UInt8) (hs : a.eval s = v) (hown : wr.ownsRow B 5 1 v P.length (cells P)) (hb : Below B w0 wr) (hB : B ≤ w0.heap.size)
    (hz : z = (b.toNat : Int)) (hx : a.eval x = .slice (some ⟨wr.heap.size, 0, none⟩) 1 1) (hlen : P.length + 1 ≤ 1048576)
    (h : ∀ v' w1, w1.ownsRow B 5 1 v' (P ++ [b]).length (cells (P ++ [b])) → Below B w0 w1 → wpList Try.prog ops Q rest (a.put o.dst v') w1) :
    wpList Try.prog ops Q (o :: rest) a (wr.alloc (.cells #[.int .u8 z] 5)) := by
  obtain ⟨i0, hi0, hz0, hz1, hz2⟩ := info_parts Try.info5
  subst hz
  refine wpList_append_own _ hgd s x 86 ho B 5 i0 _ 1 1 Try.underlying86 hi0 hz0 hz1 hz2 rfl (by decide) v P.length (cells P) hs (hown.alloc _) ⟨wr.heap.size, 0, none⟩ 1 1 (cells [b]) hx rfl (cell_one_new _ _ _) (cells_one _)
    (by unfold maxLen; omega) (by omega) (by have := hb.size; simp; omega) ?_
  intro v' w1 hown' hgrow _
  have e : (P ++ [b]).length = P.length + 1 := by simp
  refine h v' w1 (by rw [e, cells_append]; exact hown') ?_
  exact ((hb.alloc (Nat.le_trans hB hb.size) _)).grown hgrow (by have := hb.size; simp; omega) (fun k hk => (hown.lt k hk).1)
theorem run_str {P : Program} {w : World} {B : Nat} {A : Option Addr} {L : List UInt8} (src e dst : TypeId) (hs : P.underlying src = some (.slice e)) (he : P.underlying e = some (.int .u8)) (hd : P.underlying dst = some .string)
    (h : RB w B A L) (n c : Nat) (hn : n = L.length) : (convert src dst (.slice A n c)).run P w = .ok (.string (text L)) w := by
  subst hn
  rcases A with _ | ad
  · have hL : L = [] := by
      rcases L with _ | ⟨x, L⟩
      · rfl
      · obtain ⟨ad, h, _⟩ := h.2 (by simp)
        cases h
    subst hL
    exact run_convert_bytes_nil w src e hs he 0 c dst hd
  · have hl : (loadCells ad L.length).run P w = .ok ((L.map fun b => (b.toNat : Int)).map (Value.int .u8)).toArray w := by
      have := run_loadCells_list (P := P) w ad (cells L) (fun j v hj => by
        rcases Nat.eq_zero_or_pos L.length with h0 | h0
        · have hL : L = [] := List.eq_nil_of_length_eq_zero h0
          subst hL; simp [cells] at hj
        · obtain ⟨ad', h1, _, hc⟩ := h.2 h0
          injection h1 with h1
          subst h1
          exact hc j v hj)
      have e : (L.map fun b => (b.toNat : Int)).map (Value.int .u8) = cells L := by simp [cells]
      rw [e]
      simpa [cells_length] using this
    rw [run_convert_bytes_string w src dst e _ _ c hs he hd, run_bytesToString w ad _ c _ hl, foldl_push_bytes]
    have e2 : (L.map fun b => (b.toNat : Int)).map (fun n => UInt8.ofNat n.toNat) = L := by
      rw [List.map_map]
      conv => rhs; rw [← List.map_id L]
      apply List.map_congr_left
      intro b _
      simp
    rw [e2]
    simp [text, ByteArray.empty, ByteArray.emptyWithCapacity]
    rfl
theorem own_rb {w : World} {base : Nat} {A : Option Addr} {L : List UInt8} {c : Nat} (h : Own w base A L c) : RB w w.heap.size A L := Reads.of_own h
theorem aw_str {w : World} {A : Option Addr} {L : List UInt8} (h : RB w w.heap.size A L) (n c : Nat) (hn : n = L.length) : (convert 86 9 (.slice A n c)).run Try.prog w = .ok (.string ⟨L.toArray⟩) w :=
  run_str 86 5 9 Try.underlying86 Try.underlying5 Try.underlying9 h n c hn
def GivesR (r : List UInt8 × Nat) (w : World) (e : Ending) (w' : World) : Prop :=
  ∃ A c, e = .returned (.tuple #[.slice A r.1.length c, .int .i64 (r.2 : Int)]) ∧ RB w' w'.heap.size A r.1 ∧ Below w.heap.size w w'
theorem GivesR.bytes {L : List UInt8} {w w' : World} {e : Ending} (h : GivesBytes L w e w') : GivesR (L, 0) w e w' := by
  obtain ⟨A, c, he, ho, hb⟩ := h
  exact ⟨A, c, he, own_rb ho, hb⟩
theorem text_toList (L : List UInt8) : (text L).toList = L := by
  rw [Lib.toList_data]
  rfl
theorem text_eq (L M : List UInt8) : ((text L).toList == (text M).toList) = decide (L = M) := by
  rw [text_toList, text_toList, Bool.eq_iff_iff]
  simp
end
section
open Go.RowKit
structure Turns (w w' : World) (F F' : Nat → Prop) : Prop where
  os : w'.os = w.os
  tape : w'.tape = w.tape
  output : w'.output = w.output
  size : w.heap.size ≤ w'.heap.size
  block : ∀ k, k < w.heap.size → ¬ F k → w'.heap[k]? = w.heap[k]?
  foot : ∀ k, F' k → F k ∨ w.heap.size ≤ k
section
variable {a b w w' : World} {F F' F'' : Nat → Prop}
theorem Turns.refl (w : World) (F : Nat → Prop) : Turns w w F F := ⟨rfl, rfl, rfl, Nat.le_refl _, fun _ _ _ => rfl, fun _ h => .inl h⟩
theorem Turns.trans {c : World} (h : Turns a b F F') (k : Turns b c F' F'') : Turns a c F F'' :=
  ⟨k.os.trans h.os, k.tape.trans h.tape, k.output.trans h.output, Nat.le_trans h.size k.size,
   fun i hi hn => (k.block i (Nat.lt_of_lt_of_le hi h.size) (fun hf => by rcases h.foot i hf with h1 | h1; exact hn h1; omega)).trans (h.block i hi hn),
   fun i hi => by
    rcases k.foot i hi with h1 | h1
    · exact h.foot i h1
    · exact .inr (Nat.le_trans h.size h1)⟩
theorem Turns.of_below (h : Below w.heap.size w w') (F : Nat → Prop) : Turns w w' F F := ⟨h.os, h.tape, h.output, h.size, fun k hk _ => h.block k hk, fun _ h => .inl h⟩
theorem Turns.below {B : Nat} (h : Turns w w' F F') (hF : ∀ k, F k → B ≤ k) (hB : B ≤ w.heap.size) : Below B w w' :=
  ⟨h.os, h.tape, h.output, h.size, fun k hk => h.block k (Nat.lt_of_lt_of_le hk hB) (fun hf => by have := hF k hf; omega)⟩
theorem Turns.set_ {g : Nat} (hg : F g) (i : Nat) (u : Value) : Turns w (w.setCell ⟨g, i, none⟩ u) F F :=
  ⟨rfl, rfl, rfl, by simp [World.setCell], fun k _ hk => heap_setCell_other w ⟨g, i, none⟩ k u (fun e => hk (by subst e; exact hg)), fun _ h => .inl h⟩
theorem Turns.row {g : Nat} (hg : F g) (cs : Array Value) : Turns w (w.setRow g cs) F F :=
  ⟨rfl, rfl, rfl, by simp [World.setRow], fun k _ hk => setRow_other w g k cs (fun e => hk (by subst e; exact hg)), fun _ h => .inl h⟩
theorem Turns.grown {row : Option Nat} (h : w.grownBy w' row) (hr : ∀ k, row = some k → F k) : Turns w w' F F :=
  ⟨h.os, h.tape, h.output, h.size, fun k hk hn => h.block k hk (fun e => hn (hr k e.symm)), fun _ h => .inl h⟩
theorem Turns.alloc (o : Obj) (F : Nat → Prop) : Turns w (w.alloc o) F F := Turns.of_below ((Below.refl _ _).alloc (Nat.le_refl _) o) F
theorem Turns.drew (F : Nat → Prop) : Turns w w.drew F F := Turns.of_below ((Below.refl _ _).drew) F
theorem Turns.drewN (n : Nat) (F : Nat → Prop) : Turns w (w.drewN n) F F := ⟨rfl, rfl, rfl, Nat.le_refl _, fun _ _ _ => rfl, fun _ h => .inl h⟩
theorem Turns.foot_ (h : Turns w w' F F') (hf : ∀ k, F'' k → F' k ∨ w.heap.size ≤ k) : Turns w w' F F'' :=
  ⟨h.os, h.tape, h.output, h.size, h.block, fun k hk => by
    rcases hf k hk with h1 | h1
    · exact h.foot k h1
    · exact .inr h1⟩
theorem Turns.only {g : Nat} (h : Turns w w' F F') (hF : ∀ k, F k → k = g) : Only w w' g :=
  ⟨h.os, h.tape, h.output, h.size, fun k hk hn => h.block k hk (fun hf => hn (by rw [hF k hf]))⟩
theorem Turns.cell {p : Addr} (h : Turns w w' F F') (hp : p.block < w.heap.size) (hn : ¬ F p.block) : w'.cell? p = w.cell? p := World.cell?_of_block (h.block _ hp hn)
theorem Turns.frozen {p : Addr} (h : Turns w w' F F') (hp : p.block < w.heap.size) (hn : ¬ F p.block) : w'.frozen? p = w.frozen? p := World.frozen?_of_block (h.block _ hp hn)
theorem Blk.turns {g : Nat} {t : TypeId} {cs : Array Value} (h : Blk w g t cs) (ht : Turns w w' F F') (hn : ¬ F g) : Blk w' g t cs := (ht.block g h.lt hn).trans h
theorem Reads.turns {B size n : Nat} {A : Option Addr} {xs : List Value} (h : Reads w B size A n xs) (hB : B ≤ w.heap.size) (ht : Turns w w' F F') (hn : ∀ ad, A = some ad → ¬ F ad.block) : Reads w' B size A n xs :=
  ⟨h.1, fun h0 => by
    obtain ⟨ad, e, hb, hc⟩ := h.2 h0
    refine ⟨ad, e, hb, fun j u hu => ?_⟩
    rw [ht.cell (p := ad.add j) (by rw [block_of_add]; omega) (by rw [block_of_add]; exact hn ad e)]
    exact hc j u hu⟩
theorem own_turns {base : Nat} {e : TypeId} {size n : Nat} {v : Value} {xs : List Value} (h : w.ownsRow base e size v n xs) (ht : Turns w w' F F') (hn : ∀ k, v.ownBlock = some k → ¬ F k) : w'.ownsRow base e size v n xs := by
  refine ⟨h.1, ?_⟩
  rcases h.2 with h1 | ⟨g, cap, cur, rfl, h2, h3, h4⟩
  · exact .inl h1
  · exact .inr ⟨g, cap, cur, rfl, h2, (ht.block g (Blk.lt (t := e) h3) (hn g rfl)).trans h3, h4⟩
theorem own_lt {base : Nat} {e : TypeId} {size n : Nat} {v : Value} {xs : List Value} (h : w.ownsRow base e size v n xs) {k : Nat} (hk : v.ownBlock = some k) : k < w.heap.size ∧ ∃ cs, Blk w k e cs := by
  rcases h.2 with ⟨rfl, _⟩ | ⟨g, cap, cur, rfl, h2, h3, h4⟩
  · cases hk
  · have : g = k := by simpa [Value.ownBlock] using hk
    subst this
    exact ⟨Blk.lt (t := e) h3, cur, h3⟩
end
end
end Go.Proofs.Ytbeihiokjhfepaa
