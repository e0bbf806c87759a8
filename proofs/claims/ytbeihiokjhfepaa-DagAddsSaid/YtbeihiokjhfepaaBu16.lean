/- Lemmas under the proofs of this place: DagPKid, DagPPlace, DagRKids. No statement is proved here. -/
import Derived.Test.YtbeihiokjhfepaaBu15
import Derived.Test.YtbeihiokjhfepaaBu13
import Derived.Test.YtbeihiokjhfepaaBu11
import Derived.Deep.RegionHeldLaw
set_option linter.unusedSimpArgs false
set_option linter.unusedVariables false
set_option maxRecDepth 100000
set_option maxHeartbeats 16000000
namespace Go.Proofs.Ytbeihiokjhfepaa
section
open Go.RowKit Go.Maps Go.ChangeMaps
theorem own_set {w : World} {base size b n c j : Nat} {e : TypeId} {xs : List Value} (h : w.ownsRow base e size (.slice (some ⟨b, 0, none⟩) n c) n xs) (u : Value) : (w.setCell ⟨b, j, none⟩ u).ownsRow base e size (.slice (some ⟨b, 0, none⟩) n c) n (xs.set j u) := by
  refine ⟨by rw [List.length_set]; exact h.1, ?_⟩
  rcases h.2 with ⟨h1, _⟩ | ⟨g, cap, cur, h1, h2, h3, h4, h5, h6, h7⟩
  · cases h1
  · simp only [Value.slice.injEq, Option.some.injEq, Addr.mk.injEq, and_true, true_and] at h1
    obtain ⟨rfl, rfl⟩ := h1
    refine .inr ⟨b, c, cur.setIfInBounds j u, rfl, h2, Blk.set_ (t := e) h3 j u, h4, h5, by rw [Array.size_setIfInBounds]; exact h6, ?_⟩
    rw [Array.toList_setIfInBounds, List.take_set, h7]
theorem own_ne2 {w : World} {b1 b2 s1 s2 n1 n2 : Nat} {e1 e2 : TypeId} {v1 v2 : Value} {xs ys : List Value} (h : w.ownsRow b1 e1 s1 v1 n1 xs) (h' : w.ownsRow b2 e2 s2 v2 n2 ys) (hne : e1 ≠ e2) {k : Nat} (hk : v1.ownBlock = some k) : v2.ownBlock ≠ some k := by
  obtain ⟨_, cs, hb⟩ := own_lt h hk
  exact own_blk_ne h' hb (fun e => hne e.symm)
theorem addr_own {A : Option Addr} {n c k : Nat} (h : (Value.slice A n c).ownBlock = some k) : ∃ ad, A = some ad ∧ ad.block = k := by
  cases A with
  | none => cases h
  | some ad => exact ⟨ad, rfl, by simpa [Value.ownBlock] using h⟩
section
variable {w w1 w' : World} {p : Nat} {F E E' : Nat → Prop} {A : Option Addr} {n c : Nat} {mv : Value} {I : List Bs} {r : List NdP} {g : Gr}
theorem MapV.ne (h : MapV w mv I) {b k : Nat} (hb : mv = .map (some b)) {t : TypeId} {cs : Array Value} (hk : Blk w k t cs) : b ≠ k := fun e => by
  obtain ⟨es, clock, h1, _⟩ := h.block hb
  subst e
  have h2 : w.heap[b]? = some (.cells cs t (0, 0)) := hk
  rw [h1] at h2
  cases h2
theorem getD_set (r : List NdP) (q : Nat) (x : NdP) {i : Nat} (hi : i < r.length) : (r.set q x).getD i nP = if q = i then x else r.getD i nP := by
  rw [List.getD, List.getElem?_set]
  by_cases h : q = i
  · subst h
    rw [if_pos rfl, if_pos rfl, if_pos hi]
    rfl
  · rw [if_neg h, if_neg h, List.getD]
theorem PMI.kid (h : PMI w p F A n c mv I r) {q : Nat} (hq : q < r.length) {b z : Nat} {A' : Option Addr} {c' : Nat} (hA : A = some ⟨b, 0, none⟩)
    (ho : w1.ownsRow 0 3 1 (.slice A' ((r.getD q nP).ks.length + 1) c') ((r.getD q nP).ks.length + 1) (icells ((r.getD q nP).ks ++ [z])))
    (hg : w.grownBy w1 (Value.slice (r.getD q nP).kA (r.getD q nP).ks.length (r.getD q nP).kc).ownBlock)
    (hat : (Value.slice A' ((r.getD q nP).ks.length + 1) c').ownBlock = (Value.slice (r.getD q nP).kA (r.getD q nP).ks.length (r.getD q nP).kc).ownBlock ∨ ∃ k, (Value.slice A' ((r.getD q nP).ks.length + 1) c').ownBlock = some k ∧ w.heap.size ≤ k) :
    PMI (w1.setCell ⟨b, q * 4 + 2, none⟩ (.slice A' ((r.getD q nP).ks.length + 1) c')) p (fun k => F k ∨ (Value.slice A' ((r.getD q nP).ks.length + 1) c').ownBlock = some k) A n c mv I (r.set q ((r.getD q nP).kid A' c' ((r.getD q nP).ks ++ [z]))) ∧
    Turns w (w1.setCell ⟨b, q * 4 + 2, none⟩ (.slice A' ((r.getD q nP).ks.length + 1) c')) F (fun k => F k ∨ (Value.slice A' ((r.getD q nP).ks.length + 1) c').ownBlock = some k) := by
  have hm := getD_mem hq
  have hK := h.kids _ hm
  obtain ⟨x, hx⟩ : ∃ x, x = r.getD q nP := ⟨_, rfl⟩
  rw [← hx] at hm hK ho hg hat ⊢
  obtain ⟨kv, hkv⟩ : ∃ kv, kv = Value.slice x.kA x.ks.length x.kc := ⟨_, rfl⟩
  obtain ⟨nv, hnv⟩ : ∃ nv, nv = Value.slice A' (x.ks.length + 1) c' := ⟨_, rfl⟩
  obtain ⟨w2, hw2⟩ : ∃ w2, w2 = w1.setCell ⟨b, q * 4 + 2, none⟩ (.slice A' (x.ks.length + 1) c') := ⟨_, rfl⟩
  have hbF : F b := h.rF ⟨b, 0, none⟩ hA
  have hrow := h.row
  rw [hA] at hrow
  obtain ⟨hbl, csb, hcb⟩ := own_lt hrow (k := b) rfl
  have hKF : ∀ k, kv.ownBlock = some k → F k := fun k hk => by
    rw [hkv] at hk
    obtain ⟨ad, e1, e2⟩ := addr_own hk
    rw [← e2]
    exact h.kF x hm ad e1
  rw [← hkv] at hg hat hK
  rw [← hnv] at hat ho ⊢
  have t1 : Turns w w1 F F := Turns.grown hg fun k hk => hKF k hk
  have tq : Turns w w2 F F := by rw [hw2]; exact t1.trans (Turns.set_ hbF _ _)
  have hnew : ∀ k, nv.ownBlock = some k → F k ∨ w.heap.size ≤ k := fun k hk => by
    rcases hat with e | ⟨j, e, hj⟩
    · exact .inl (hKF k (by rw [← e]; exact hk))
    · rw [hk] at e
      injection e with e
      exact .inr (by omega)
  have tF : Turns w w2 F (fun k => F k ∨ nv.ownBlock = some k) := tq.foot_ fun k hk => by
    rcases hk with hk | hk
    · exact .inl hk
    · exact hnew k hk
  have hsz : w2.heap.size = w1.heap.size := by rw [hw2]; simp [World.setCell]
  rw [show w1.setCell ⟨b, q * 4 + 2, none⟩ nv = w2 by rw [hw2, hnv]]
  refine ⟨⟨?_, by rw [List.length_set]; exact h.len, ?_, ?_, ?_, ?_, ?_, ?_, fun ad e => .inl (h.rF ad e), .inl h.pF, ?_, fun b e => .inl (h.mF b e), ?_⟩, tF⟩
  ·
    have h1 : Blk w1 p _ _ := h.blk.grown hg (fun e => own_blk_ne hK h.blk (by decide) e.symm)
    rw [hw2]
    exact h1.far (p := ⟨b, q * 4 + 2, none⟩) (fun e => own_blk_ne hrow h.blk (by decide) (congrArg some (Eq.symm e))) _
  ·
    have h1 : w1.ownsRow 0 71 4 (.slice A n c) n (rowP r) := h.row.kept hg (by
      rw [hA]
      exact .inr fun e => own_ne2 hrow hK (by decide) (k := b) rfl e.symm)
    rw [hA] at h1 ⊢
    have h2 := own_set h1 (j := q * 4 + 2) (u := .slice A' (x.ks.length + 1) c')
    have h3 := rowP_set r q hq A' c' (x.ks ++ [z])
    rw [← hx, List.length_append, List.length_singleton] at h3
    rw [h3] at h2
    rw [hw2]
    exact h2
  · intro y hy
    obtain ⟨i, hi, rfl⟩ := mem_getD hy
    rw [List.length_set] at hi
    rw [getD_set _ _ _ hi]
    have hp : ∀ y ∈ r, NS w2 w2.heap.size y.pA y.ps := fun y hy => (Reads.turns (h.preds y hy) (Nat.le_refl _) tq (fun ad e => (h.pfar y hy ad e).1)).more tq.size
    split
    · exact hp x hm
    · exact hp _ (getD_mem hi)
  · intro y hy
    obtain ⟨i, hi, rfl⟩ := mem_getD hy
    rw [List.length_set] at hi
    rw [getD_set _ _ _ hi]
    have hp : ∀ y ∈ r, ∀ ad, y.pA = some ad → ¬ (F ad.block ∨ nv.ownBlock = some ad.block) ∧ ad.block < w2.heap.size := fun y hy ad e => by
      obtain ⟨f1, f2⟩ := h.pfar y hy ad e
      refine ⟨fun hk => ?_, Nat.lt_of_lt_of_le f2 tq.size⟩
      rcases hk with hk | hk
      · exact f1 hk
      · rcases hnew _ hk with h3 | h3
        · exact f1 h3
        · omega
    split
    · exact hp x hm
    · exact hp _ (getD_mem hi)
  · intro y hy
    obtain ⟨i, hi, rfl⟩ := mem_getD hy
    rw [List.length_set] at hi
    rw [getD_set _ _ _ hi]
    split
    · rename_i hqi
      show w2.ownsRow 0 3 1 (.slice A' (x.ks ++ [z]).length c') (x.ks ++ [z]).length (icells (x.ks ++ [z]))
      rw [List.length_append, List.length_singleton, ← hnv]
      have h5 : some b ≠ nv.ownBlock := fun e => own_ne2 ho (h.row.kept hg (by rw [hA]; exact .inr fun e => own_ne2 hrow hK (by decide) (k := b) rfl e.symm)) (by decide) (k := b) e.symm (by rw [hA]; rfl)
      rw [hw2]
      exact own_turns ho (Turns.set_ (F := fun k => k = b) rfl _ _) fun k hk e => h5 (by rw [← e]; exact hk.symm)
    · rename_i hqi
      have hmi := getD_mem hi
      have hKi := h.kids _ hmi
      have h4 : (Value.slice (r.getD i nP).kA (r.getD i nP).ks.length (r.getD i nP).kc).ownBlock = none ∨ (Value.slice (r.getD i nP).kA (r.getD i nP).ks.length (r.getD i nP).kc).ownBlock ≠ kv.ownBlock := by
        cases hka : (r.getD i nP).kA with
        | none => exact .inl rfl
        | some ad =>
          refine .inr fun e => ?_
          rw [hkv] at e
          obtain ⟨bd, e1, e2⟩ := addr_own (k := ad.block) (A := x.kA) (n := x.ks.length) (c := x.kc) e.symm
          rw [hx] at e1
          rcases Nat.lt_or_gt_of_ne hqi with hl | hl
          · exact h.kne q i hl hi bd ad e1 hka e2
          · exact h.kne i q hl hq ad bd hka e1 e2.symm
      have h1 := hKi.kept hg h4
      rw [hw2]
      refine own_turns h1 (Turns.set_ (F := fun k => k = b) rfl _ _) fun k hk e => ?_
      subst e
      exact own_ne2 hKi hrow (by decide) hk rfl
  · intro y hy ad e
    obtain ⟨i, hi, rfl⟩ := mem_getD hy
    rw [List.length_set] at hi
    rw [getD_set _ _ _ hi] at e
    split at e
    · refine .inr ?_
      rw [hnv]
      show Value.ownBlock (.slice A' _ _) = _
      have e' : A' = some ad := e
      rw [e']
      rfl
    · exact .inl (h.kF _ (getD_mem hi) ad e)
  · intro i j hij hj ad bd e1 e2
    rw [List.length_set] at hj
    rw [getD_set _ _ _ (by omega)] at e1
    rw [getD_set _ _ _ hj] at e2
    have hnA : ∀ ad, (x.kid A' c' (x.ks ++ [z])).kA = some ad → nv.ownBlock = some ad.block := fun ad e => by
      have e' : A' = some ad := e
      rw [hnv, e']
      rfl
    split at e1
    · rename_i hqi
      subst hqi
      rw [if_neg (by omega)] at e2
      have h1 := hnA ad e1
      have hbd := h.kF _ (getD_mem hj) bd e2
      rcases hat with e | ⟨k, e, hk⟩
      · rw [h1, hkv] at e
        obtain ⟨cd, e3, e4⟩ := addr_own e.symm
        rw [hx] at e3
        rw [← e4]
        exact h.kne _ _ hij hj cd bd e3 e2
      · rw [h1] at e
        injection e with e
        have := h.flt _ hbd
        omega
    · rename_i hqi
      split at e2
      · rename_i hqj
        subst hqj
        have h1 := hnA bd e2
        have hbd := h.kF _ (getD_mem (by omega)) ad e1
        rcases hat with e | ⟨k, e, hk⟩
        · rw [h1, hkv] at e
          obtain ⟨cd, e3, e4⟩ := addr_own e.symm
          rw [hx] at e3
          rw [← e4]
          exact h.kne _ _ hij hj ad cd e1 e3
        · rw [h1] at e
          injection e with e
          have := h.flt _ hbd
          omega
      · exact h.kne i j hij hj ad bd e1 e2
  · intro k hk
    rcases hk with hk | hk
    · exact Nat.lt_of_lt_of_le (h.flt k hk) tq.size
    · rw [hsz]
      exact (ho.lt k hk).2
  · refine h.map.keep fun mb hb => ?_
    rw [hw2]
    have h1 : w1.heap[mb]? = w.heap[mb]? := hg.block mb (h.map.block hb).lt fun e => by
      obtain ⟨_, cs, hc⟩ := own_lt hK e.symm
      exact h.map.ne hb hc rfl
    rw [Below.heap_setCell w1 ⟨b, q * 4 + 2, none⟩ _ mb (fun e => h.map.ne hb hcb e)]
    exact h1
theorem PMI.node (h : PMI w p F A n c mv I r) (x : NdP) {A' : Option Addr} {c' : Nat} (hx : x.kA = none ∧ x.ks = [] ∧ x.kc = 0) (hp : NS w w.heap.size x.pA x.ps) (hpf : ∀ ad, x.pA = some ad → ¬ F ad.block ∧ ad.block < w.heap.size)
    (ho : w1.ownsRow 0 71 4 (.slice A' (n + 1) c') (n + 1) (rowP (r ++ [x]))) (hg : w.grownBy w1 (Value.slice A n c).ownBlock)
    (hat : (Value.slice A' (n + 1) c').ownBlock = (Value.slice A n c).ownBlock ∨ ∃ k, (Value.slice A' (n + 1) c').ownBlock = some k ∧ w.heap.size ≤ k) :
    PMI (w1.setCell ⟨p, 0, none⟩ (.slice A' (n + 1) c')) p (fun k => F k ∨ (Value.slice A' (n + 1) c').ownBlock = some k) A' (n + 1) c' mv I (r ++ [x]) ∧
    Turns w (w1.setCell ⟨p, 0, none⟩ (.slice A' (n + 1) c')) F (fun k => F k ∨ (Value.slice A' (n + 1) c').ownBlock = some k) := by
  obtain ⟨nv, hnv⟩ : ∃ nv, nv = Value.slice A' (n + 1) c' := ⟨_, rfl⟩
  obtain ⟨w2, hw2⟩ : ∃ w2, w2 = w1.setCell ⟨p, 0, none⟩ (.slice A' (n + 1) c') := ⟨_, rfl⟩
  have hRF : ∀ k, (Value.slice A n c).ownBlock = some k → F k := fun k hk => by
    obtain ⟨ad, e1, e2⟩ := addr_own hk
    rw [← e2]
    exact h.rF ad e1
  have t1 : Turns w w1 F F := Turns.grown hg fun k hk => hRF k hk
  have tq : Turns w w2 F F := by rw [hw2]; exact t1.trans (Turns.set_ h.pF _ _)
  rw [← hnv] at hat ho ⊢
  have hnew : ∀ k, nv.ownBlock = some k → F k ∨ w.heap.size ≤ k := fun k hk => by
    rcases hat with e | ⟨j, e, hj⟩
    · exact .inl (hRF k (by rw [← e]; exact hk))
    · rw [hk] at e
      injection e with e
      exact .inr (by omega)
  have tF : Turns w w2 F (fun k => F k ∨ nv.ownBlock = some k) := tq.foot_ fun k hk => by
    rcases hk with hk | hk
    · exact .inl hk
    · exact hnew k hk
  have hsz : w2.heap.size = w1.heap.size := by rw [hw2]; simp [World.setCell]
  have hB1 : Blk w1 p 61 #[.slice A n c, mv] := h.blk.grown hg (fun e => own_blk_ne h.row h.blk (by decide) e.symm)
  have hmem : ∀ y, y ∈ r ++ [x] → y ∈ r ∨ y = x := fun y hy => by
    rcases List.mem_append.1 hy with h1 | h1
    · exact .inl h1
    · exact .inr (List.mem_singleton.1 h1)
  rw [show w1.setCell ⟨p, 0, none⟩ nv = w2 by rw [hw2, hnv]]
  refine ⟨⟨?_, by rw [List.length_append, h.len]; rfl, ?_, ?_, ?_, ?_, ?_, ?_, ?_, .inl h.pF, ?_, fun b e => .inl (h.mF b e), ?_⟩, tF⟩
  · rw [hw2]
    have h1 := hB1.set_ 0 (.slice A' (n + 1) c')
    rw [List.setIfInBounds_toArray] at h1
    exact h1
  · rw [hw2, ← hnv]
    exact own_turns ho (Turns.set_ (F := fun k => k = p) rfl _ _) fun k hk e => own_blk_ne ho hB1 (by decide) (by rw [← e]; exact hk)
  · intro y hy
    rcases hmem y hy with hy | rfl
    · exact (Reads.turns (h.preds y hy) (Nat.le_refl _) tq (fun ad e => (h.pfar y hy ad e).1)).more tq.size
    · exact (Reads.turns hp (Nat.le_refl _) tq (fun ad e => (hpf ad e).1)).more tq.size
  · intro y hy ad e
    have f : ¬ F ad.block ∧ ad.block < w.heap.size := by
      rcases hmem y hy with hy | rfl
      · exact h.pfar y hy ad e
      · exact hpf ad e
    refine ⟨fun hk => ?_, Nat.lt_of_lt_of_le f.2 tq.size⟩
    rcases hk with hk | hk
    · exact f.1 hk
    · rcases hnew _ hk with h3 | h3
      · exact f.1 h3
      · have := f.2
        omega
  · intro y hy
    rcases hmem y hy with hy | rfl
    · have hK := h.kids y hy
      have h4 : (Value.slice y.kA y.ks.length y.kc).ownBlock = none ∨ (Value.slice y.kA y.ks.length y.kc).ownBlock ≠ (Value.slice A n c).ownBlock := by
        cases hka : (Value.slice y.kA y.ks.length y.kc).ownBlock with
        | none => exact .inl rfl
        | some k => exact .inr fun e => own_ne2 hK h.row (by decide) hka e.symm
      have h1 := hK.kept hg h4
      rw [hw2]
      exact own_turns h1 (Turns.set_ (F := fun k => k = p) rfl _ _) fun k hk e => own_blk_ne hK h.blk (by decide) (by rw [← e]; exact hk)
    · rw [hx.1, hx.2.1, hx.2.2]
      exact World.ownsRow_nil _ _ _ _
  · intro y hy ad e
    rcases hmem y hy with hy | rfl
    · exact .inl (h.kF y hy ad e)
    · rw [hx.1] at e; cases e
  · intro i j hij hj ad bd e1 e2
    rw [List.length_append, List.length_singleton] at hj
    have hl : ∀ i, i < r.length → (r ++ [x]).getD i nP = r.getD i nP := fun i hi => by rw [List.getD, List.getElem?_append_left hi, List.getD]
    rw [hl i (by omega)] at e1
    rcases Nat.lt_or_ge j r.length with hj2 | hj2
    · rw [hl j hj2] at e2
      exact h.kne i j hij hj2 ad bd e1 e2
    · have e3 : (r ++ [x]).getD j nP = x := by
        rw [List.getD, List.getElem?_append_right hj2, show j - r.length = 0 by omega]
        rfl
      rw [e3, hx.1] at e2
      cases e2
  · intro ad e
    refine .inr ?_
    rw [hnv, e]
    rfl
  · intro k hk
    rcases hk with hk | hk
    · exact Nat.lt_of_lt_of_le (h.flt k hk) tq.size
    · rw [hsz]
      exact (ho.lt k hk).2
  · refine h.map.keep fun mb hb => ?_
    rw [hw2]
    have h1 : w1.heap[mb]? = w.heap[mb]? := hg.block mb (h.map.block hb).lt fun e => by
      obtain ⟨_, cs, hc⟩ := own_lt h.row e.symm
      exact h.map.ne hb hc rfl
    rw [Below.heap_setCell w1 ⟨p, 0, none⟩ _ mb (fun e => h.map.ne hb h.blk e)]
    exact h1
theorem PMI.mapNew (h : PMI w p F A n c mv I r) (hmv : mv = .map none) : PMI ((w.alloc (.map #[] 0)).setCell ⟨p, 1, none⟩ (.map (some w.heap.size))) p (fun k => F k ∨ k = w.heap.size) A n c (.map (some w.heap.size)) [] r ∧
    Turns w ((w.alloc (.map #[] 0)).setCell ⟨p, 1, none⟩ (.map (some w.heap.size))) F (fun k => F k ∨ k = w.heap.size) := by
  obtain ⟨w2, hw2⟩ : ∃ w2, w2 = (w.alloc (.map #[] 0)).setCell ⟨p, 1, none⟩ (.map (some w.heap.size)) := ⟨_, rfl⟩
  have tq : Turns w w2 F F := by rw [hw2]; exact (Turns.alloc _ _).trans (Turns.set_ h.pF _ _)
  have tP : Turns w w2 (fun k => k = p) (fun k => k = p) := by rw [hw2]; exact (Turns.alloc _ _).trans (Turns.set_ (F := fun k => k = p) rfl _ _)
  have hsz : w2.heap.size = w.heap.size + 1 := by rw [hw2]; simp [World.setCell]
  rw [← hw2]
  refine ⟨⟨?_, h.len, ?_, fun y hy => (Reads.turns (h.preds y hy) (Nat.le_refl _) tq (fun ad e => (h.pfar y hy ad e).1)).more tq.size, fun y hy ad e => ⟨fun hk => ?_, Nat.lt_of_lt_of_le (h.pfar y hy ad e).2 tq.size⟩, fun y hy => ?_, fun y hy ad e => .inl (h.kF y hy ad e), h.kne, fun ad e => .inl (h.rF ad e), .inl h.pF, fun k hk => ?_, fun b e => ?_, ?_⟩, tq.foot_ fun k hk => ?_⟩
  · rw [hw2]
    have h1 := (h.blk.alloc (.map #[] 0)).set_ 1 (.map (some w.heap.size))
    rw [List.setIfInBounds_toArray] at h1
    exact h1
  · exact own_turns h.row tP fun k hk e => own_blk_ne h.row h.blk (by decide) (by rw [← e]; exact hk)
  · rcases hk with hk | hk
    · exact (h.pfar y hy ad e).1 hk
    · have := (h.pfar y hy ad e).2
      omega
  · exact own_turns (h.kids y hy) tP fun k hk e => own_blk_ne (h.kids y hy) h.blk (by decide) (by rw [← e]; exact hk)
  · rcases hk with hk | hk
    · exact Nat.lt_of_lt_of_le (h.flt k hk) tq.size
    · omega
  · injection e with e
    injection e with e
    exact .inr e.symm
  · refine .inr ⟨_, rfl, #[], 0, ?_, rfl⟩
    rw [hw2, Below.heap_setCell _ ⟨p, 1, none⟩ _ w.heap.size (fun e => by have := h.blk.lt; have e2 : w.heap.size = p := e; omega)]
    exact (MapKept.heap_alloc w _).1
  · rcases hk with hk | hk
    · exact .inl hk
    · exact .inr (by omega)
theorem PMI.mapPut {b : Nat} {J : List Bs} (h : PMI w p F A n c (.map (some b)) I r) (hm : MapAt w1 b J) (ho : Only w w1 b) : PMI w1 p F A n c (.map (some b)) J r ∧ Turns w w1 F F := by
  have hbF : F b := h.mF b rfl
  have tq : Turns w w1 F F := ⟨ho.os, ho.tape, ho.output, ho.size, fun k hk hn => ho.block k hk (fun e => hn (by injection e with e; rw [e]; exact hbF)), fun k hk => .inl hk⟩
  have tB : Turns w w1 (fun k => k = b) (fun k => k = b) := ⟨ho.os, ho.tape, ho.output, ho.size, fun k hk hn => ho.block k hk (fun e => hn (by injection e)), fun k hk => .inl hk⟩
  have hr : ∀ {size m : Nat} {e : TypeId} {v : Value} {xs : List Value}, w.ownsRow 0 e size v m xs → w1.ownsRow 0 e size v m xs := fun hh => own_turns hh tB fun k hk e => by
    obtain ⟨_, cs, hc⟩ := own_lt hh hk
    exact h.map.ne (b := b) rfl hc e.symm
  exact ⟨⟨h.blk.turns tB (fun e => h.map.ne (b := b) rfl h.blk e.symm), h.len, hr h.row, fun y hy => (Reads.turns (h.preds y hy) (Nat.le_refl _) tq (fun ad e => (h.pfar y hy ad e).1)).more tq.size, fun y hy ad e => ⟨(h.pfar y hy ad e).1, Nat.lt_of_lt_of_le (h.pfar y hy ad e).2 tq.size⟩,
    fun y hy => hr (h.kids y hy), h.kF, h.kne, h.rF, h.pF, fun k hk => Nat.lt_of_lt_of_le (h.flt k hk) tq.size, h.mF, .inr ⟨b, rfl, hm⟩⟩, tq⟩
end
end
section
open Go.RowKit
def plN (g : Gr) (x : Bs) : Nat := if x ∈ idsG g then idxG g x else 0
theorem plN_in {g : Gr} {x : Bs} (h : x ∈ idsG g) : plN g x = idxG g x := if_pos h
theorem hasG_dec (g : Gr) (x : Bs) : hasG g x = decide (x ∈ idsG g) := by
  rw [Bool.eq_iff_iff, hasG_iff, decide_eq_true_eq]
theorem place_any {w : World} {p n c : Nat} {g : Gr} {A : Option Addr} {mv : Value} (h : PV w p g A n c mv) (x : Bs) :
    Calls Try.prog 49 #[.pointer (some ⟨p, 0, none⟩), .string (text x)] w fun e w' => e = .returned (.tuple #[.int .i64 (plN g x : Int), .bool (hasG g x)]) ∧ Below w.heap.size w w' := by
  have hl := mapv_look h.map x
  have c1 := h.c1
  rw [← hasG_dec] at hl
  obtain ⟨y, hy⟩ : ∃ y, y = plN g x := ⟨_, rfl⟩
  rw [show (if x ∈ idsG g then (idsG g).idxOf x else 0) = y from hy.symm] at hl
  rw [← hy]
  obtain ⟨t, ht⟩ : ∃ t, t = text x := ⟨_, rfl⟩
  rw [← ht] at hl ⊢
  obtain ⟨bo, hbo⟩ : ∃ bo, bo = hasG g x := ⟨_, rfl⟩
  rw [← hbo] at hl ⊢
  clear hy ht hbo h
  go_enter Try.func49, Try.ntmps49
  go_wp2
  go_ret2
  exact ⟨rfl, Below.refl _ _⟩
theorem place_none (x : ByteArray) (w : World) : Calls Try.prog 49 #[.pointer none, .string x] w fun e w' => e = .returned (.tuple #[.int .i64 0, .bool false]) ∧ Below w.heap.size w w' := by
  go_enter Try.func49, Try.ntmps49
  go_wp2
  go_ret2
  exact ⟨rfl, Below.refl _ _⟩
theorem phas_any {w : World} {p n c : Nat} {g : Gr} {A : Option Addr} {mv : Value} (h : PV w p g A n c mv) (x : Bs) :
    Calls Try.prog 18 #[.pointer (some ⟨p, 0, none⟩), .string (text x)] w fun e w' => e = .returned (.bool (hasG g x)) ∧ Below w.heap.size w w' := by
  have HP := Lib.hid (place_any h x)
  obtain ⟨t, ht⟩ : ∃ t, t = text x := ⟨_, rfl⟩
  rw [← ht] at HP ⊢
  clear ht h
  go_enter Try.func18, Try.ntmps18
  go_wp2_with (go_at_call 49; (with_reducible refine HP.out.mono ?_); rintro e w1 ⟨rfl, b1⟩)
  go_ret
  exact ⟨rfl, b1⟩
theorem phas_none (x : ByteArray) (w : World) : Calls Try.prog 18 #[.pointer none, .string x] w fun e w' => e = .returned (.bool false) ∧ Below w.heap.size w w' := by
  have HP := Lib.hid (place_none x w)
  go_enter Try.func18, Try.ntmps18
  go_wp2_with (go_at_call 49; (with_reducible refine HP.out.mono ?_); rintro e w1 ⟨rfl, b1⟩)
  go_ret
  exact ⟨rfl, b1⟩
theorem plen_any {w : World} {p n c : Nat} {g : Gr} {A : Option Addr} {mv : Value} (h : PV w p g A n c mv) :
    Calls Try.prog 30 #[.pointer (some ⟨p, 0, none⟩)] w fun e w' => e = .returned (.int .i64 ((g.length : Nat) : Int)) ∧ Below w.heap.size w w' := by
  have c0 := h.c0
  rw [← h.len]
  clear h
  go_enter Try.func30, Try.ntmps30
  go_wp2
  go_ret
  exact ⟨rfl, Below.refl _ _⟩
theorem plen_none (w : World) : Calls Try.prog 30 #[.pointer none] w fun e w' => e = .returned (.int .i64 0) ∧ Below w.heap.size w w' := by
  go_enter Try.func30, Try.ntmps30
  go_wp2
  go_ret
  exact ⟨rfl, Below.refl _ _⟩
theorem PV.one {w : World} {p n c : Nat} {g : Gr} {A : Option Addr} {mv : Value} (h : PV w p g A n c mv) {i : Nat} (hi : i < g.length) : ∃ b off, A = some ⟨b, off, none⟩ ∧ b < w.heap.size ∧ NA w b (off + i * 4) g i := by
  obtain ⟨b, off, e, hb, hc⟩ := h.at_ (by omega)
  exact ⟨b, off, e, hb, hc i hi⟩
theorem pdepth_any {w : World} {p n c : Nat} {g : Gr} {A : Option Addr} {mv : Value} (h : PV w p g A n c mv) (x : Bs) :
    Calls Try.prog 20 #[.pointer (some ⟨p, 0, none⟩), .string (text x)] w fun e w' => e = .returned (.int .i64 ((depthG g x : Nat) : Int)) ∧ Below w.heap.size w w' := by
  have HP := Lib.hid (place_any h x)
  obtain ⟨t, ht⟩ : ∃ t, t = text x := ⟨_, rfl⟩
  rw [← ht] at HP ⊢
  by_cases hm : x ∈ idsG g
  · have hi := idx_lt.2 hm
    rw [plN_in hm, hasG_iff.2 hm] at HP
    obtain ⟨b, off, rfl, hb, -, -, -, cd⟩ := h.one hi
    have c0 := h.c0
    have hp := h.lt
    have hd : depthG g x = depI g (idxG g x) := rfl
    rw [hd]
    have HL : Hid (idxG g x < n) := by show _ < _; rw [h.len]; exact hi
    obtain ⟨k, hk⟩ : ∃ k, k = idxG g x := ⟨_, rfl⟩
    rw [← hk] at cd HP HL ⊢
    obtain ⟨dd, hdd⟩ : ∃ dd, dd = depI g k := ⟨_, rfl⟩
    rw [← hdd] at cd ⊢
    have u0 : (0 : Int) ≤ (k : Int) := by omega
    have u1 : (k : Int) < (n : Int) := by have := HL.out; omega
    have HC0 : Hid (∀ W, Below w.heap.size w W → W.cell? ⟨p, 0, none⟩ = some (.slice (some ⟨b, off, none⟩) n c) ∧ W.cell? ⟨b, off + k * 4 + 3, none⟩ = some (.int .i64 (dd : Int))) := fun W hW => ⟨(hW.cell (p := ⟨p, 0, none⟩) hp).trans c0, (hW.cell (p := ⟨b, off + k * 4 + 3, none⟩) hb).trans cd⟩
    clear hd hdd hk hm hi h ht c0 cd hp hb
    go_enter Try.func20, Try.ntmps20
    go_wp2_with (go_at_call 49; (with_reducible refine HP.out.mono ?_); rintro e w1 ⟨rfl, b1⟩; obtain ⟨c0, c3⟩ := HC0.out _ b1)
    go_ret
    exact ⟨rfl, b1⟩
  · have hf : hasG g x = false := by rw [hasG_dec]; exact decide_eq_false hm
    rw [hf] at HP
    rw [depth_no hm]
    clear hm hf h ht
    go_enter Try.func20, Try.ntmps20
    go_wp2_with (go_at_call 49; (with_reducible refine HP.out.mono ?_); rintro e w1 ⟨rfl, b1⟩)
    go_ret
    exact ⟨rfl, b1⟩
theorem pdepth_none (x : ByteArray) (w : World) : Calls Try.prog 20 #[.pointer none, .string x] w fun e w' => e = .returned (.int .i64 0) ∧ Below w.heap.size w w' := by
  have HP := Lib.hid (place_none x w)
  go_enter Try.func20, Try.ntmps20
  go_wp2_with (go_at_call 49; (with_reducible refine HP.out.mono ?_); rintro e w1 ⟨rfl, b1⟩)
  go_ret
  exact ⟨rfl, b1⟩
theorem pempty_any (w : World) : Calls Try.prog 8 #[] w fun e w' => ∃ (p : Nat) (F : Nat → Prop), e = .returned (.pointer (some ⟨p, 0, none⟩)) ∧ Hid (PDag w' p F []) ∧ Hid (∀ k, F k → w.heap.size ≤ k) ∧ Hid (Below w.heap.size w w') := by
  go_enter Try.func8, Try.ntmps8
  go_wp2
  go_ret
  refine ⟨w.heap.size, fun k => k = w.heap.size, rfl, ?_, (fun k hk => Nat.le_of_eq (show k = w.heap.size from hk).symm), (Below.refl _ _).alloc (Nat.le_refl _) _⟩
  refine ⟨none, 0, 0, .map none, [], ⟨Blk.new _ _ _, rfl, ⟨rfl, .inl ⟨rfl, rfl⟩⟩, (fun x hx => by cases hx), (fun x hx => by cases hx), (fun x hx => by cases hx), (fun x hx => by cases hx), (fun i j _ hj => by simp at hj), (fun ad e => by cases e), rfl, (fun k hk => by rw [show k = w.heap.size from hk]; simp), (fun b e => by cases e), .inl ⟨rfl, rfl⟩⟩, ⟨rfl, (fun i hi => by simp at hi), (fun i hi => by simp at hi), (fun i hi => by simp at hi), (fun i hi => by simp at hi)⟩⟩
end
section
open Go.RowKit
def selK (p : Nd → Bool) (g : Gr) (k : Nat) : List Bs := ((g.take k).filter p).map (·.id)
theorem selK_succ (p : Nd → Bool) (g : Gr) (k : Nat) (h : k < g.length) : selK p g (k + 1) = selK p g k ++ if p (g.getD k nd0) = true then [(g.getD k nd0).id] else [] := by
  unfold selK
  rw [List.take_succ_eq_append_getElem h, List.filter_append, List.map_append, getD_at h]
  congr 1
  cases hp : p g[k] <;> simp [hp]
theorem selK_all (p : Nd → Bool) (g : Gr) : selK p g g.length = (g.filter p).map (·.id) := by
  unfold selK
  rw [List.take_length]
theorem selK_len (p : Nd → Bool) (g : Gr) (k : Nat) : (selK p g k).length ≤ k := by
  unfold selK
  rw [List.length_map]
  have h1 := List.length_filter_le p (g.take k)
  rw [List.length_take] at h1
  omega
theorem rkids_any (g : Gr) (x : Bs) (A : Option Addr) (n c : Nat) (w : World) (hn : n = g.length) (h : NL w w.heap.size A g) (hl : n ≤ 5000) (hp : ∀ k, k < g.length → (g.getD k nd0).preds.length ≤ 1000000) :
    Calls Try.prog 25 #[.agg #[.slice A n c], .string (text x)] w (GivesStrs (kidsG g x) w) := by
  have HR : Hid (0 < g.length → ∃ b off, A = some ⟨b, off, none⟩ ∧ b < w.heap.size ∧ ∀ i, i < g.length → ∃ pA pc, SS w w.heap.size pA (g.getD i nd0).preds ∧ ((g.getD i nd0).preds.length ≤ pc ∧ pc ≤ 9223372036854775807) ∧ w.cell? ⟨b, off + i * 2, none⟩ = some (.string (text (g.getD i nd0).id)) ∧ w.cell? ⟨b, off + i * 2 + 1, none⟩ = some (.slice pA (g.getD i nd0).preds.length pc)) := fun hh => h.at_ hh
  have HN := Lib.hid hn
  have HPl := Lib.hid hp
  have HHas : Hid (∀ (l : List Bs) (B m : Nat) (pA : Option Addr) (pc : Nat) W, m = l.length → SS W B pA l → m ≤ 1000000 → Calls Try.prog 29 #[.slice pA m pc, .string (text x)] W fun e w' => e = .returned (.bool (hasL l x)) ∧ W = w') := fun l B m pA pc W h1 h2 h3 => refHas_any l x pA m pc B W h1 h2 h3
  have HOf : Hid (∀ (l : List Bs) (m : Nat) (X : Option Addr) (d : Nat) W, m = l.length → SS W W.heap.size X l → m ≤ 10000 → Calls Try.prog 48 #[.slice X m d] W (GivesStrs (ofL l) W)) := fun l m X d W h1 h2 h3 => refOf_any l X m d _ W h1 h2 h3
  obtain ⟨t, ht⟩ : ∃ t, t = text x := ⟨_, rfl⟩
  rw [← ht] at HHas ⊢
  have HK : Hid (ofL (selK (fun nd => hasL nd.preds x) g n) = kidsG g x) := by
    show _ = _
    rw [hn, selK_all]
    rfl
  obtain ⟨KG, hKG⟩ : ∃ K, K = kidsG g x := ⟨_, rfl⟩
  rw [← hKG] at HK ⊢
  obtain ⟨sel, hsel⟩ : ∃ s, s = selK (fun nd => hasL nd.preds x) g := ⟨_, rfl⟩
  have HSu : Hid (∀ k, k < g.length → sel (k + 1) = sel k ++ if hasL (g.getD k nd0).preds x = true then [(g.getD k nd0).id] else []) := fun k hk => by rw [hsel]; exact selK_succ _ g k hk
  have HS0 : Hid (sel 0 = []) := by show _ = _; rw [hsel]; rfl
  have HSl : Hid (∀ k, (sel k).length ≤ k) := fun k => by rw [hsel]; exact selK_len _ g k
  rw [← hsel] at HK
  clear hn h ht hp hKG hsel
  obtain ⟨wb, hwb⟩ : ∃ wb, wb = w.alloc (.cells #[.slice A n c] 27) := ⟨_, rfl⟩
  have HV : Hid (DgV w wb A n c) := hwb
  have HWb := Lib.hid hwb
  clear hwb
  go_enter Try.func25, Try.ntmps25
  go_wp2
  rw [← HWb.out]
  go_loopw [5, 6] (fun v i wr => ∃ (k y : Nat) (X : Option Addr) (cc : Nat), k ≤ n ∧ v = .slice X y cc ∧ i = .int .i64 (k : Int) ∧ y ≤ k ∧ Hid (wr.ownsRow wb.heap.size 9 1 (.slice X y cc) y (scells (sel k))) ∧ Hid (Below wb.heap.size wb wr)) (fun _ i _ => n - (intOf i).toNat)
  case atStart => exact ⟨0, 0, none, 0, Nat.zero_le _, rfl, rfl, Nat.le_refl _, by rw [HS0.out]; exact ⟨rfl, .inl ⟨rfl, rfl⟩⟩, Below.refl _ _⟩
  case round =>
    obtain ⟨k, y, X, cc, hk, rfl, rfl, hy, HO, HB⟩ := hrel
    obtain ⟨c0, cl, cf⟩ := HV.out.cell HB.out
    have hB := below16 HV.out.below HB.out
    have HB2 := Lib.hid hB
    by_cases hlt : k < n
    · have hkg : k < g.length := by have := HN.out; omega
      have d0 : decide ((k : Int) < (n : Int)) = true := decide_eq_true (by omega)
      obtain ⟨b, off, rfl, hb, hc⟩ := HR.out (by omega)
      obtain ⟨pA, pc, hs, -, hc0, hc1⟩ := hc k hkg
      rw [← hB.cell (p := ⟨b, off + k * 2, none⟩) hb] at hc0
      rw [← hB.cell (p := ⟨b, off + k * 2 + 1, none⟩) hb] at hc1
      have hpl := HPl.out k hkg
      have hSu := HSu.out k hkg
      obtain ⟨l, hll⟩ : ∃ l, l = (g.getD k nd0).preds := ⟨_, rfl⟩
      obtain ⟨z, hz⟩ : ∃ l, l = (g.getD k nd0).id := ⟨_, rfl⟩
      rw [← hll] at hs hc1 hpl hSu
      rw [← hz] at hc0 hSu
      obtain ⟨m, hm⟩ : ∃ m, m = l.length := ⟨_, rfl⟩
      rw [← hm] at hc1 hpl
      obtain ⟨s, hs1⟩ : ∃ s, s = text z := ⟨_, rfl⟩
      rw [← hs1] at hc0
      have HS1 := Lib.hid hs1
      have HH := Lib.hid (HHas.out l w.heap.size m pA pc wr hm (hs.below (hB.mono (Nat.le_refl _))) hpl)
      have u0 : (0 : Int) ≤ (k : Int) := by omega
      have u1 : (k : Int) < (n : Int) := by omega
      have HSu2 := Lib.hid hSu
      obtain ⟨bo, hbo⟩ : ∃ bo, bo = hasL l x := ⟨_, rfl⟩
      rw [← hbo] at HH HSu2
      have HPb := HB.out.size
      have HC : Hid (∀ W, Below w.heap.size w W → W.cell? ⟨b, off + k * 2, none⟩ = some (.string s)) := fun W hW => by
        rw [hW.cell (p := ⟨b, off + k * 2, none⟩) hb, ← hB.cell (p := ⟨b, off + k * 2, none⟩) hb]
        exact hc0
      clear hll hz hm hs1 hs hc HR hkg hB hSu hbo hb
      cases bo with
      | false =>
        go_wp2_with (go_at_call 29; (with_reducible refine HH.out.mono ?_); rintro e w1 ⟨rfl, rfl⟩)
        go_roundw
        case rel => exact ⟨k + 1, y, X, cc, by omega, rfl, by go_num, by omega, by rw [HSu2.out, if_neg (by simp), List.append_nil]; exact HO.out, HB.out⟩
        case measure => simp [intOf]; omega
      | true =>
        go_wp2_with (first
          | (go_at_call 29; (with_reducible refine HH.out.mono ?_); rintro e w1 ⟨rfl, rfl⟩)
          | (at_builtin; refine append_sone rfl (.tmp 22) (.tmp 29) rfl rfl HO.out HS1.out rfl (by omega) HPb ?_; intro X7 cc7 w7 ho7 hb7))
        go_roundw
        case rel => exact ⟨k + 1, y + 1, X7, cc7, by omega, rfl, by go_num, by omega, by rw [HSu2.out, if_pos (by trivial)]; exact ho7.out, HB.out.trans hb7.out⟩
        case measure => simp [intOf]; omega
    · have d0 : decide ((k : Int) < (n : Int)) = false := decide_eq_false (by omega)
      have hkn : k = n := by omega
      subst hkn
      have hyl : y = (sel k).length := by
        have h1 := HO.out.1
        rw [scells_length] at h1
        omega
      have HOf2 := Lib.hid (HOf.out (sel k) y X cc wr hyl (by have h := HO.out; rw [hyl] at h; exact own_ss h) (by omega))
      rw [HK.out] at HOf2
      clear hB hyl HR HOf
      go_wp2_with (go_at_call 48; (with_reducible refine HOf2.out.mono ?_); rintro e w1 ⟨A3, c3, rfl, hS3, hl3, hc3, hb3⟩)
      go_ret
      exact ⟨A3, c3, rfl, hS3, hl3, hc3, below16 HB2.out hb3⟩
theorem rheads_any (g : Gr) (A : Option Addr) (n c : Nat) (w : World) (hn : n = g.length) (h : NL w w.heap.size A g) (hl : n ≤ 5000) (hp : ∀ k, k < g.length → (g.getD k nd0).preds.length ≤ 1000000) :
    Calls Try.prog 42 #[.agg #[.slice A n c]] w (GivesStrs (headsG g) w) := by
  have HR : Hid (0 < g.length → ∃ b off, A = some ⟨b, off, none⟩ ∧ b < w.heap.size ∧ ∀ i, i < g.length → ∃ pA pc, SS w w.heap.size pA (g.getD i nd0).preds ∧ ((g.getD i nd0).preds.length ≤ pc ∧ pc ≤ 9223372036854775807) ∧ w.cell? ⟨b, off + i * 2, none⟩ = some (.string (text (g.getD i nd0).id)) ∧ w.cell? ⟨b, off + i * 2 + 1, none⟩ = some (.slice pA (g.getD i nd0).preds.length pc)) := fun hh => h.at_ hh
  have HN := Lib.hid hn
  have HPl := Lib.hid hp
  have HKi : Hid (∀ (z : Bs) W, Below w.heap.size w W → Calls Try.prog 25 #[.agg #[.slice A n c], .string (text z)] W (GivesStrs (kidsG g z) W)) := fun z W hW => rkids_any g z A n c W hn (h.up hW) hl hp
  have HOf : Hid (∀ (l : List Bs) (m : Nat) (X : Option Addr) (d : Nat) W, m = l.length → SS W W.heap.size X l → m ≤ 10000 → Calls Try.prog 48 #[.slice X m d] W (GivesStrs (ofL l) W)) := fun l m X d W h1 h2 h3 => refOf_any l X m d _ W h1 h2 h3
  have HK : Hid (ofL (selK (fun nd => (kidsG g nd.id).isEmpty) g n) = headsG g) := by
    show _ = _
    rw [hn, selK_all]
    rfl
  obtain ⟨KG, hKG⟩ : ∃ K, K = headsG g := ⟨_, rfl⟩
  rw [← hKG] at HK ⊢
  obtain ⟨sel, hsel⟩ : ∃ s, s = selK (fun nd => (kidsG g nd.id).isEmpty) g := ⟨_, rfl⟩
  have HSu : Hid (∀ k, k < g.length → sel (k + 1) = sel k ++ if (kidsG g (g.getD k nd0).id).isEmpty = true then [(g.getD k nd0).id] else []) := fun k hk => by rw [hsel]; exact selK_succ _ g k hk
  have HS0 : Hid (sel 0 = []) := by show _ = _; rw [hsel]; rfl
  have HSl : Hid (∀ k, (sel k).length ≤ k) := fun k => by rw [hsel]; exact selK_len _ g k
  rw [← hsel] at HK
  clear hn h hp hKG hsel
  obtain ⟨wb, hwb⟩ : ∃ wb, wb = w.alloc (.cells #[.slice A n c] 27) := ⟨_, rfl⟩
  have HV : Hid (DgV w wb A n c) := hwb
  have HWb := Lib.hid hwb
  clear hwb
  go_enter Try.func42, Try.ntmps42
  go_wp2
  rw [← HWb.out]
  go_loopw [3, 4] (fun v i wr => ∃ (k y : Nat) (X : Option Addr) (cc : Nat), k ≤ n ∧ v = .slice X y cc ∧ i = .int .i64 (k : Int) ∧ y ≤ k ∧ Hid (wr.ownsRow wb.heap.size 9 1 (.slice X y cc) y (scells (sel k))) ∧ Hid (Below wb.heap.size wb wr)) (fun _ i _ => n - (intOf i).toNat)
  case atStart => exact ⟨0, 0, none, 0, Nat.zero_le _, rfl, rfl, Nat.le_refl _, by rw [HS0.out]; exact ⟨rfl, .inl ⟨rfl, rfl⟩⟩, Below.refl _ _⟩
  case round =>
    obtain ⟨k, y, X, cc, hk, rfl, rfl, hy, HO, HB⟩ := hrel
    obtain ⟨c0, cl, cf⟩ := HV.out.cell HB.out
    have hB := below16 HV.out.below HB.out
    have HB2 := Lib.hid hB
    by_cases hlt : k < n
    · have hkg : k < g.length := by have := HN.out; omega
      have d0 : decide ((k : Int) < (n : Int)) = true := decide_eq_true (by omega)
      obtain ⟨b, off, rfl, hb, hc⟩ := HR.out (by omega)
      obtain ⟨pA, pc, -, -, hc0, -⟩ := hc k hkg
      have hSu := HSu.out k hkg
      obtain ⟨z, hz⟩ : ∃ l, l = (g.getD k nd0).id := ⟨_, rfl⟩
      rw [← hz] at hc0 hSu
      obtain ⟨s, hs1⟩ : ∃ s, s = text z := ⟨_, rfl⟩
      rw [← hs1] at hc0
      have HS1 := Lib.hid hs1
      obtain ⟨lk, hlk⟩ : ∃ l, l = kidsG g z := ⟨_, rfl⟩
      obtain ⟨ln, hln⟩ : ∃ l, l = lk.length := ⟨_, rfl⟩
      have HKi2 : Hid (∀ W, Below w.heap.size w W → Calls Try.prog 25 #[.agg #[.slice (some ⟨b, off, none⟩) n c], .string s] W fun e w' => ∃ A3 c3, e = .returned (.slice A3 ln c3) ∧ Hid (Below W.heap.size W w')) := fun W hW => by
        have h2 := HKi.out z W hW
        rw [← hs1] at h2
        refine h2.mono fun e w' hh => ?_
        obtain ⟨A3, c3, q1, q2, q3, q4, q5⟩ := hh
        exact ⟨A3, c3, by rw [q1, hln, hlk], q5⟩
      have u0 : (0 : Int) ≤ (k : Int) := by omega
      have u1 : (k : Int) < (n : Int) := by omega
      have HSu2 := Lib.hid hSu
      obtain ⟨bo, hbo⟩ : ∃ bo, bo = lk.isEmpty := ⟨_, rfl⟩
      rw [← hlk, ← hbo] at HSu2
      have e0 : (((ln : Nat) : Int) == 0) = bo := by
        rw [hbo, hln]
        rcases lk with _ | ⟨q, lk⟩
        · rfl
        · simp
          omega
      have e1 : decide (((ln : Nat) : Int) = 0) = bo := by rw [← e0]; rfl
      have HPb := HB.out.size
      have HC : Hid (∀ W, Below w.heap.size w W → W.cell? ⟨b, off + k * 2, none⟩ = some (.string s)) := fun W hW => (hW.cell (p := ⟨b, off + k * 2, none⟩) hb).trans hc0
      have HSt : Hid (∀ W, Below wb.heap.size wb W → W.cell? ⟨w.heap.size, 0, none⟩ = some (.slice (some ⟨b, off, none⟩) n c) ∧ W.cell? ⟨b, off + k * 2, none⟩ = some (.string s)) := fun W hW => ⟨(HV.out.cell hW).1, HC.out W (below16 HV.out.below hW)⟩
      have hc0 := HC.out _ hB
      clear hz hs1 hc HR hkg hB hSu hbo hb hln hlk
      have P0 : Below wb.heap.size wb wr.drew := HB.out.drew
      have h0 := HSt.out _ P0
      cases bo with
      | false =>
        go_wp2
        go_region_held_law (fun w' => w'.cell? ⟨w.heap.size, 0, none⟩ = some (.slice (some ⟨b, off, none⟩) n c) ∧ w'.cell? ⟨b, off + k * 2, none⟩ = some (.string s))
          (exact HSt.out _ (by assumption))
          (first
            | (go_at_call 25; (with_reducible refine (HKi2.out _ (below16 HV.out.below P0)).mono ?_); rintro e x1 ⟨A3, c3, rfl, b1⟩; have P1 : Below wb.heap.size wb x1 := below16 P0 b1.out; have z1 := P1.size))
        go_wp2
        go_roundw
        case rel => exact ⟨k + 1, y, X, cc, by omega, rfl, by go_num, by omega, by rw [HSu2.out, if_neg (by simp), List.append_nil]; exact sown_kept HO.out (show Below wr.heap.size wr x1 from ⟨b1.out.os, b1.out.tape, b1.out.output, b1.out.size, b1.out.block⟩), P1⟩
        case measure => simp [intOf]; omega
      | true =>
        go_wp2
        go_region_held_law (fun w' => w'.cell? ⟨w.heap.size, 0, none⟩ = some (.slice (some ⟨b, off, none⟩) n c) ∧ w'.cell? ⟨b, off + k * 2, none⟩ = some (.string s))
          (exact HSt.out _ (by assumption))
          (first
            | (go_at_call 25; (with_reducible refine (HKi2.out _ (below16 HV.out.below P0)).mono ?_); rintro e x1 ⟨A3, c3, rfl, b1⟩; have P1 : Below wb.heap.size wb x1 := below16 P0 b1.out; have z1 := P1.size))
        obtain ⟨c0, cl, cf⟩ := HV.out.cell P1
        have hc1 := (HSt.out _ P1).2
        have HO1 := Lib.hid (sown_kept HO.out (show Below wr.heap.size wr x1 from ⟨b1.out.os, b1.out.tape, b1.out.output, b1.out.size, b1.out.block⟩))
        go_wp2_with (at_builtin; refine append_sone rfl (.tmp 22) (.tmp 29) rfl rfl HO1.out HS1.out rfl (by omega) z1 ?_; intro X7 cc7 w7 ho7 hb7)
        go_roundw
        case rel => exact ⟨k + 1, y + 1, X7, cc7, by omega, rfl, by go_num, by omega, by rw [HSu2.out, if_pos (by trivial)]; exact ho7.out, P1.trans hb7.out⟩
        case measure => simp [intOf]; omega
    · have d0 : decide ((k : Int) < (n : Int)) = false := decide_eq_false (by omega)
      have hkn : k = n := by omega
      subst hkn
      have hyl : y = (sel k).length := by
        have h1 := HO.out.1
        rw [scells_length] at h1
        omega
      have HOf2 := Lib.hid (HOf.out (sel k) y X cc wr hyl (by have h := HO.out; rw [hyl] at h; exact own_ss h) (by omega))
      rw [HK.out] at HOf2
      clear hB hyl HR HOf
      go_wp2_with (go_at_call 48; (with_reducible refine HOf2.out.mono ?_); rintro e w1 ⟨A3, c3, rfl, hS3, hl3, hc3, hb3⟩)
      go_ret
      exact ⟨A3, c3, rfl, hS3, hl3, hc3, below16 HB2.out hb3⟩
end
end Go.Proofs.Ytbeihiokjhfepaa
