/- The walk of the reference's put (layer 5). -/
import Derived.Test.YtppjeakgabakeaaDoorBitsOf
set_option linter.unusedVariables false
namespace Go.Proofs.YtppjeakgabakeaaDoor
open Go.RowKit

/-- A row of bools of the call's own, of at least one: the block that it lies in. -/
theorem own_bblk {w : World} {base n : Nat} {v : Value} {l : List Bool} (h : w.ownsRow base 4 1 v n (bcells l)) (hn : 0 < n) : ∃ g c cur, v = .slice (some ⟨g, 0, none⟩) n c ∧ base ≤ g ∧ Blk w g 4 cur ∧ n ≤ c ∧ c ≤ 9223372036854775807 ∧ cur.size = c ∧ cur.toList.take n = bcells l := by
  rcases h.2 with ⟨_, h0⟩ | ⟨g, cap, cur, hv, hb, hh, hc, hm, hs, ht⟩
  · omega
  · exact ⟨g, cap, cur, hv, hb, hh, hc, hm, by omega, by rw [← ht, Nat.mul_one]⟩
theorem blk_bs {w : World} {g n : Nat} {cur : Array Value} {l : List Bool} (h : Blk w g 4 cur) (hl : n = l.length) (ht : cur.toList.take n = bcells l) : BS w w.heap.size (some ⟨g, 0, none⟩) l := by
  refine ⟨by rw [bcells_length]; omega, fun h0 => ⟨_, rfl, h.lt, fun j u hu => ?_⟩⟩
  have ea : (⟨g, 0, none⟩ : Addr).add j = ⟨g, j, none⟩ := by unfold Addr.add; split <;> simp_all
  rw [ea, h.cell]
  rw [← ht, List.getElem?_take] at hu
  split at hu
  · simpa using hu
  · cases hu
theorem bs_far {w : World} {g B : Nat} {l : List Bool} (h : BS w B (some ⟨g, 0, none⟩) l) {p : Addr} (hp : g ≠ p.block) (u : Value) : BS (w.setCell p u) B (some ⟨g, 0, none⟩) l := by
  refine ⟨h.1, fun hn => ?_⟩
  obtain ⟨ad, e, hb, hc⟩ := h.2 hn
  refine ⟨ad, e, hb, fun j v hj => ?_⟩
  have hg : (ad.add j).block = g := by rw [block_of_add]; injection e with e; rw [← e]
  exact (World.cell?_of_block (w := w) (Below.heap_setCell w p u _ (by rw [hg]; exact hp))).trans (hc j v hj)
theorem take_set_bcells {cur : Array Value} {n i : Nat} {l : List Bool} (q : Bool) (ht : cur.toList.take n = bcells l) : (cur.setIfInBounds i (.bool q)).toList.take n = bcells (l.set i q) := by
  rw [Array.toList_setIfInBounds, List.take_set, ht]
  simp [bcells, List.map_set]

set_option maxRecDepth 100000 in
set_option maxHeartbeats 1000000 in
theorem refPut_any (l : List Bool) (A : Option Addr) (n c B : Nat) (i : Nat) (q : Bool) (w : World) (HN : Hid (n = l.length)) (hr : BS w B A l) (hn : n ≤ 1000000) (hi : i < n) :
    Calls Tryd.prog 26 #[.agg #[.slice A n c], .int .i64 (i : Int), .bool q] w fun e w' => ∃ g c', e = .returned (.agg #[.slice (some ⟨g, 0, none⟩) n c']) ∧ w.heap.size ≤ g ∧ BS w' w'.heap.size (some ⟨g, 0, none⟩) (l.set i q) ∧ n ≤ c' ∧ c' ≤ 9223372036854775807 ∧ Below w.heap.size w w' := by
  obtain ⟨i0, hi0, hz0, hz1, hz2⟩ := info_parts Tryd.infoBool
  have hby : i0.bytes = 1 := hz2
  have HR : Hid (BS w w.heap.size A l) := hr.lt
  have HL : Hid (l.length = n) := HN.out.symm
  have u0 : (0 : Int) ≤ (i : Int) := by omega
  have u1 : (i : Int) < (n : Int) := by omega
  have HBd := fun A' c' w' => Tryd.buildSet _ w' A' n c' rfl
  have K0 : Hid (Blk (((w.alloc (.cells #[.slice A n c] 29)).alloc (.cells #[.slice none 0 0] 29)).alloc (.cells #[] 4)) (w.heap.size + 1) 29 #[.slice none 0 0]) := by
    show Blk _ _ _ _
    have h := (Blk.new (w.alloc (.cells #[.slice A n c] 29)) 29 #[.slice none 0 0]).alloc (.cells #[] 4)
    have e : (w.alloc (.cells #[.slice A n c] 29)).heap.size = w.heap.size + 1 := by simp
    rwa [e] at h
  have Z0 : Hid (w.heap.size ≤ (((w.alloc (.cells #[.slice A n c] 29)).alloc (.cells #[.slice none 0 0] 29)).alloc (.cells #[] 4)).heap.size) := by
    show _ ≤ _
    simp <;> omega
  have B0 : Hid (Below w.heap.size w (((w.alloc (.cells #[.slice A n c] 29)).alloc (.cells #[.slice none 0 0] 29)).alloc (.cells #[] 4))) := by
    show Below _ _ _
    exact (((Below.refl w.heap.size w).alloc (Nat.le_refl _) _).alloc (by simp) _).alloc (by simp <;> omega) _
  have c0 : (((w.alloc (.cells #[.slice A n c] 29)).alloc (.cells #[.slice none 0 0] 29)).alloc (.cells #[] 4)).cell? ⟨w.heap.size, 0, none⟩ = some (.slice A n c) := (((Blk.new w _ _).alloc _).alloc _).cell 0
  clear hr
  go_enter Tryd.func26, Tryd.ntmps26
  go_wp2_with (first
    | (at_builtin; refine wpList_append_any _ rfl (.tmp 8) (.tmp 10) _ rfl (w.heap.size + 2) 4 i0 _ 1 1 Tryd.underlying27 hi0 hz0 hz1 hz2 rfl (by omega) (.slice (some ⟨w.heap.size + 2, 0, none⟩) 0 0) 0 [] rfl (by simpa using World.ownsRow_made ((w.alloc (.cells #[.slice A n c] 29)).alloc (.cells #[.slice none 0 0] 29)) (e := 4) (size := 1) (base := w.heap.size + 2) #[] 0 (by simp) (by decide) rfl) w.heap.size A n c (bcells l) rfl (by have h := HR.out.below B0.out; unfold BS at h; rw [HL.out] at h; exact h) (bcells_one _) (by simp only [maxLen]; omega) (by omega) (by simp) ?_; intro v1 w1 ho1 hg1 hat1; simp only [Nat.zero_add, List.nil_append] at ho1; obtain ⟨g, c', cur, rfl, hgb, K1, hc1, hc2, hsz, htk⟩ := own_bblk ho1 (by omega); have K2 := K0.out.grown hg1 (by simp [Value.ownBlock]); have b1 := B0.out.grown hg1 Z0.out (by simp [Value.ownBlock]); obtain ⟨x, hx⟩ : ∃ x, cur[i]? = some x := ⟨_, Array.getElem?_eq_getElem (by omega)⟩; have ci := (K1.cell i).trans hx; have fi := K1.frozen i; have hne : w.heap.size + 1 ≠ g := (by omega); have K3 := K2.far (p := ⟨g, i, none⟩) hne (.bool q); have k0 := K3.cell 0; have k1 := K3.frozen 0)
    | (refine wpList_store_rowTo rfl 29 _ _ rfl rfl (w.heap.size + 1) #[.slice (some ⟨g, 0, none⟩) n c'] rfl rfl _ _ (K2.far (p := ⟨g, i, none⟩) hne _) (by kernel_rfl) rfl (by rfl) ?_))
  have K4 := K3.set_ 0 (.slice (some ⟨g, 0, none⟩) n c')
  have k4 : ((w1.setCell ⟨g, i, none⟩ (.bool q)).setCell ⟨w.heap.size + 1, 0, none⟩ (.slice (some ⟨g, 0, none⟩) n c')).cell? ⟨w.heap.size + 1, 0, none⟩ = some (.slice (some ⟨g, 0, none⟩) n c') := K4.cell 0
  have K5 := (K1.set_ i (.bool q)).far (p := ⟨w.heap.size + 1, 0, none⟩) (fun e => hne e.symm) (.slice (some ⟨g, 0, none⟩) n c')
  have b2 : Below w.heap.size w ((w1.setCell ⟨g, i, none⟩ (.bool q)).setCell ⟨w.heap.size + 1, 0, none⟩ (.slice (some ⟨g, 0, none⟩) n c')) := (b1.setCell (p := ⟨g, i, none⟩) (show w.heap.size ≤ g by omega) _).setCell (p := ⟨w.heap.size + 1, 0, none⟩) (show w.heap.size ≤ w.heap.size + 1 by omega) _
  refine bodyPost_ret (v := .agg #[.slice (some ⟨g, 0, none⟩) n c']) (by simp [results, Tryd.results26, go_sem, k4]) rfl ⟨_, _, rfl, by omega, ?_, hc1, hc2, b2⟩
  exact blk_bs K5 (by rw [List.length_set]; exact HL.out.symm) (take_set_bcells q htk)

end Go.Proofs.YtppjeakgabakeaaDoor
