/- What is taken of a pool, and given back: how many are taken (layer 11). Plain mathematics; nothing of the program. -/
import Derived.Test.YtibaaideleinhaaDoorPoolPlain
set_option linter.unusedVariables false
namespace Go.Proofs.YtibaaideleinhaaDoor
namespace Pl

/-- Blocks of the pool, no two the same, all free (to be taken), or all taken (to be given back). -/
structure Good (p : Pl) (l : List Int) (q : Bool) : Prop where
  th : ∀ i, i < l.length → p.th (l.getD i 0) = true
  hs : ∀ i, i < l.length → p.has (l.getD i 0) = !q
  nd : ∀ i k, i < k → k < l.length → l.getD i 0 ≠ l.getD k 0
def idx (p : Pl) (l : List Int) (i : Nat) : Nat := (l.getD i 0 - p.lo).toNat
section
variable {p : Pl} {l : List Int} {q : Bool}
theorem Good.idx_lt (h : Good p l q) {i : Nat} (hi : i < l.length) : p.idx l i < p.tk.length ∧ l.getD i 0 = p.lo + (p.idx l i : Int) := by
  have h1 := th_iff.1 (h.th i hi)
  unfold idx
  omega
theorem Good.at0 (h : Good p l q) {i : Nat} (hi : i < l.length) : p.tk.getD (p.idx l i) false = !q := by
  have h1 := h.hs i hi
  unfold has at h1
  rw [h.th i hi, Bool.true_and] at h1
  exact h1
theorem Good.ne (h : Good p l q) {i k : Nat} (hik : i < k) (hk : k < l.length) : p.idx l i ≠ p.idx l k := fun e => by
  have h1 := (h.idx_lt (Nat.lt_trans hik hk)).2
  have h2 := (h.idx_lt hk).2
  exact h.nd i k hik hk (by rw [h1, h2, e])
theorem getD_set_ne (t : List Bool) (i j : Nat) (v : Bool) (h : i ≠ j) : (t.set i v).getD j false = t.getD j false := by
  rw [List.getD_eq_getElem?_getD, List.getD_eq_getElem?_getD, List.getElem?_set_ne h]
theorem getD_set_eq (t : List Bool) (i : Nat) (v : Bool) (h : i < t.length) : (t.set i v).getD i false = v := by
  rw [List.getD_eq_getElem?_getD, List.getElem?_set_self h]; rfl
theorem Good.same (h : Good p l q) {k : Nat} (hk : k < l.length) : ∀ j, j ≤ k → (p.turnK l q j).getD (p.idx l k) false = p.tk.getD (p.idx l k) false
  | 0, _ => rfl
  | j + 1, hj => by
    show ((p.turnK l q j).set (p.idx l j) q).getD _ _ = _
    rw [getD_set_ne _ _ _ _ (h.ne (by omega) hk), Good.same h hk j (by omega)]
/-- Ahead of its turn a block is as it was. -/
theorem Good.ahead (h : Good p l q) {k : Nat} (hk : k < l.length) : (p.turnK l q k).getD (p.idx l k) false = !q := by
  rw [h.same hk k (Nat.le_refl _), h.at0 hk]
/-- Behind its turn it is turned. -/
theorem Good.behind (h : Good p l q) {i : Nat} (hi : i < l.length) : ∀ k, i < k → k ≤ l.length → (p.turnK l q k).getD (p.idx l i) false = q
  | 0, h0, _ => by omega
  | k + 1, hik, hk => by
    show ((p.turnK l q k).set (p.idx l k) q).getD _ _ = _
    by_cases e : i = k
    · subst e
      exact getD_set_eq _ _ _ (by rw [turnK_length]; exact (h.idx_lt hi).1)
    · rw [getD_set_ne _ _ _ _ (fun e2 => h.ne (i := i) (k := k) (by omega) (by omega) e2.symm)]
      exact Good.behind h hi k (by omega) (by omega)
theorem count_on (t : List Bool) (i : Nat) (h : i < t.length) (hv : t.getD i false = false) : (t.set i true).count true = t.count true + 1 := by
  have e : t[i] = false := by
    have h2 := hv
    rw [List.getD_eq_getElem?_getD, List.getElem?_eq_getElem h] at h2
    simpa using h2
  rw [List.count_set h, e]
  simp
theorem count_off (t : List Bool) (i : Nat) (h : i < t.length) (hv : t.getD i false = true) : (t.set i false).count true + 1 = t.count true := by
  have e : t[i] = true := by
    have h2 := hv
    rw [List.getD_eq_getElem?_getD, List.getElem?_eq_getElem h] at h2
    simpa using h2
  have hp : 0 < t.count true := List.count_pos_iff.2 (e ▸ List.getElem_mem h)
  rw [List.count_set h, e]
  simp
  omega
theorem Good.count_t (h : Good p l true) : ∀ k, k ≤ l.length → (p.turnK l true k).count true = p.tk.count true + k
  | 0, _ => rfl
  | k + 1, hk => by
    show ((p.turnK l true k).set (p.idx l k) true).count true = _
    rw [count_on _ _ (by rw [turnK_length]; exact (h.idx_lt (by omega)).1) (h.ahead (by omega)), Good.count_t h k (by omega)]
    omega
theorem Good.count_f (h : Good p l false) : ∀ k, k ≤ l.length → (p.turnK l false k).count true + k = p.tk.count true
  | 0, _ => rfl
  | k + 1, hk => by
    show ((p.turnK l false k).set (p.idx l k) false).count true + (k + 1) = _
    have h1 := count_off (p.turnK l false k) (p.idx l k) (by rw [turnK_length]; exact (h.idx_lt (by omega)).1) (h.ahead (by omega))
    have h2 := Good.count_f h k (by omega)
    omega
end
theorem listK_count (p : Pl) (q : Bool) : ∀ k, k ≤ p.tk.length → (p.listK q k).length = (p.tk.take k).count q
  | 0, _ => by simp [listK]
  | k + 1, hk => by
    have ih := listK_count p q k (by omega)
    have hg : p.tk.getD k false = p.tk[k] := by rw [List.getD_eq_getElem?_getD, List.getElem?_eq_getElem (by omega)]; rfl
    rw [listK, List.take_succ_eq_append_getElem (by omega), List.count_append, hg]
    by_cases h : p.tk[k] = q
    · rw [if_pos h, List.length_append, ih, h]; simp
    · rw [if_neg h, ih]
      simp [h]
theorem list_count (p : Pl) (q : Bool) : (p.list q).length = p.tk.count q := by
  have := p.listK_count q p.tk.length (Nat.le_refl _)
  rwa [List.take_length] at this
theorem free_good (p : Pl) (n : Nat) : Good p ((p.list false).take n) true := by
  have hm : ∀ i, i < ((p.list false).take n).length → ((p.list false).take n).getD i 0 ∈ p.list false := fun i hi => by
    rw [List.getD_eq_getElem?_getD, List.getElem?_eq_getElem hi]
    exact List.mem_of_mem_take (List.getElem_mem hi)
  have hp : ((p.list false).take n).Pairwise (· < ·) := (p.list_sorted false).take
  refine ⟨fun i hi => list_th (hm i hi), fun i hi => ?_, fun i k hik hk => ?_⟩
  · obtain ⟨j, hj, e, hq⟩ := (p.list_mem false _).1 (hm i hi)
    unfold has
    rw [list_th (hm i hi), e]
    have e2 : (p.lo + (j : Int) - p.lo).toNat = j := by omega
    rw [e2, hq]
    rfl
  · have h1 := List.pairwise_iff_getElem.1 hp i k (by omega) hk hik
    rw [List.getD_eq_getElem?_getD, List.getElem?_eq_getElem (show i < _ by omega), List.getD_eq_getElem?_getD, List.getElem?_eq_getElem hk]
    show _ ≠ _
    simp only [Option.getD_some]
    omega
theorem take_ok {p : Pl} {z : Int} (h : (p.take z).2.2 = 0) : Good p (p.take z).2.1 true ∧ (p.take z).1 = p.turned (p.take z).2.1 true := by
  unfold take at h ⊢
  split at h
  · cases h
  · rename_i h1
    split at h
    · cases h
    · rename_i h2
      rw [if_neg h1, if_neg h2]
      exact ⟨p.free_good _, rfl⟩
theorem take_no {p : Pl} {z : Int} (h : (p.take z).2.2 ≠ 0) : (p.take z).2.1 = [] ∧ (p.take z).1 = p := by
  unfold take at h ⊢
  split at h
  · rename_i h1; rw [if_pos h1]; exact ⟨rfl, rfl⟩
  · rename_i h1
    split at h
    · rename_i h2; rw [if_neg h1, if_pos h2]; exact ⟨rfl, rfl⟩
    · exact absurd rfl h
theorem Good.turned {p : Pl} {l : List Int} (h : Good p l true) : Good (p.turned l true) l false := by
  have hl := turned_length p l true
  refine ⟨fun i hi => ?_, fun i hi => ?_, h.nd⟩
  · have h1 := th_iff.1 (h.th i hi)
    rw [th_iff, hl]
    exact h1
  · have h1 : (p.turned l true).th (l.getD i 0) = true := by have h1 := th_iff.1 (h.th i hi); rw [th_iff, hl]; exact h1
    unfold has
    rw [h1, Bool.true_and]
    exact h.behind hi l.length hi (Nat.le_refl _)
theorem Good.odd0 {p : Pl} {l : List Int} {q : Bool} {e : Int} (h : Good p l q) : p.odd l (!q) e = 0 := by
  unfold odd
  have h1 : (List.range l.length).all (fun i => p.th (l.getD i 0)) = true := by
    simp only [List.all_eq_true, List.mem_range]
    exact fun i hi => h.th i hi
  have h2 : (List.range l.length).all (p.oddAt l (!q)) = true := by
    simp only [List.all_eq_true, List.mem_range]
    intro i hi
    unfold oddAt
    rw [h.hs i hi]
    simp only [BEq.rfl, Bool.true_and, List.all_eq_true, List.mem_range, Bool.not_eq_true', decide_eq_false_iff_not]
    exact fun k hk => h.nd k i hk hi
  rw [h1, h2]
  rfl
theorem give_good {p : Pl} {l : List Int} (h : Good p l false) : p.give l = (p.turned l false, 0) := by
  unfold give
  have h0 : p.odd l true 6 = 0 := h.odd0
  rw [if_pos h0]
end Pl
end Go.Proofs.YtibaaideleinhaaDoor
