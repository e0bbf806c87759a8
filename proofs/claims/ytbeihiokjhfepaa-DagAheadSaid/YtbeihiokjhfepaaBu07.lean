/- Lemmas under the proofs of this place: DagPPlain, Gen7, IdsRefA. No statement is proved here. -/
import Derived.Test.YtbeihiokjhfepaaBu04
import Derived.Test.YtbeihiokjhfepaaBu06
import Derived.Test.YtbeihiokjhfepaaBu03
set_option linter.unusedSimpArgs false
set_option linter.unusedVariables false
set_option maxRecDepth 100000
set_option maxHeartbeats 16000000
namespace Go.Proofs.Ytbeihiokjhfepaa
section
abbrev idAt (g : Gr) (i : Nat) : Bs := (g.getD i nd0).id
def predI (g : Gr) (i : Nat) : List Nat := (g.getD i nd0).preds.map (idxG g)
def kidI (g : Gr) (i : Nat) : List Nat := (List.range g.length).filter fun j => hasL (g.getD j nd0).preds (idAt g i)
def depI (g : Gr) (i : Nat) : Nat := (depthsG g).getD i 0
def toldL (g : Gr) (l : List Nat) : List Bs := l.map (idAt g)
def foundL (g : Gr) (l : List Bs) : List Nat := (l.filter (hasG g)).map (idxG g)
abbrev sortB (l : List Bs) : List Bs := l.mergeSort fun x y => decide (x ≤ y)
theorem sort_up {l : List Bs} (hd : l.Nodup) : Up (sortB l) := by
  have h1 : (sortB l).Pairwise fun a b => leB a b = true := List.pairwise_mergeSort (le := leB) leB_trans leB_total l
  have h2 : (sortB l).Nodup := (List.mergeSort_perm l _).nodup_iff.2 hd
  exact (h1.and h2).imp fun h => leB_lt h.1 (Ne.symm h.2)
theorem sort_is {l r : List Bs} (hd : l.Nodup) (hu : Up r) (hm : ∀ x, x ∈ r ↔ x ∈ l) : sortB l = r := up_ext (sort_up hd) hu fun x => by
  rw [hm]
  exact List.mem_mergeSort
theorem sortB_length (l : List Bs) : (sortB l).length = l.length := List.length_mergeSort l
theorem toldL_length (g : Gr) (l : List Nat) : (toldL g l).length = l.length := by simp [toldL]
theorem told_nodup {g : Gr} (ok : GrOk g) {l : List Nat} (hd : l.Nodup) (hl : ∀ j ∈ l, j < g.length) : (toldL g l).Nodup := by
  unfold toldL
  rw [List.nodup_iff_pairwise_ne, List.pairwise_map]
  refine List.Pairwise.imp_of_mem (fun {a b} ha hb h e => h ?_) (List.nodup_iff_pairwise_ne.1 hd)
  rw [← idx_at ok.nodup (hl a ha), ← idx_at ok.nodup (hl b hb)]
  exact congrArg _ e
theorem told_mem {g : Gr} {l : List Nat} {x : Bs} : x ∈ toldL g l ↔ ∃ j, j ∈ l ∧ idAt g j = x := by simp [toldL]
theorem predI_lt {g : Gr} (ok : GrOk g) {i : Nat} (hi : i < g.length) : ∀ j ∈ predI g i, j < i := fun j hj => by
  unfold predI at hj
  rw [List.mem_map] at hj
  obtain ⟨p, hp, rfl⟩ := hj
  exact ok.closed i hi p hp
theorem predI_length (g : Gr) (i : Nat) : (predI g i).length = (g.getD i nd0).preds.length := by simp [predI]
theorem told_preds {g : Gr} (ok : GrOk g) {i : Nat} (hi : i < g.length) : toldL g (predI g i) = (g.getD i nd0).preds := by
  unfold toldL predI
  rw [List.map_map]
  conv => rhs; rw [← List.map_id (g.getD i nd0).preds]
  refine List.map_congr_left fun p hp => ?_
  exact idx_id (Nat.lt_trans (ok.closed i hi p hp) hi)
theorem preds_up {g : Gr} (ok : GrOk g) {i : Nat} (hi : i < g.length) : Up (g.getD i nd0).preds := ((risesL_iff _).1 (ok.rise i hi)).2
theorem up_nodup {l : List Bs} (h : Up l) : l.Nodup := List.nodup_iff_pairwise_ne.2 (List.Pairwise.imp (fun h => less_ne h) h)
theorem sort_preds {g : Gr} (ok : GrOk g) {i : Nat} (hi : i < g.length) : sortB (toldL g (predI g i)) = (g.getD i nd0).preds := by
  rw [told_preds ok hi]
  exact sort_is (up_nodup (preds_up ok hi)) (preds_up ok hi) fun _ => Iff.rfl
theorem filter_nodup (n : Nat) (p : Nat → Bool) : ((List.range n).filter p).Nodup := List.Pairwise.filter p List.nodup_range
theorem filter_lt (n : Nat) (p : Nat → Bool) : ∀ j ∈ (List.range n).filter p, j < n := fun j hj => List.mem_range.1 (List.mem_filter.1 hj).1
theorem right_at {g : Gr} (ok : GrOk g) {j : Nat} (hj : j < g.length) : rightB (idAt g j) = true := ok.right j hj
theorem sort_chosen {g : Gr} (ok : GrOk g) (p : Nat → Bool) {r : List Bs} (hu : Up r) (hm : ∀ x, x ∈ r ↔ ∃ j, j < g.length ∧ p j = true ∧ idAt g j = x) : sortB (toldL g ((List.range g.length).filter p)) = r := by
  refine sort_is (told_nodup ok (filter_nodup _ _) (filter_lt _ _)) hu fun x => ?_
  rw [hm, told_mem]
  constructor
  · rintro ⟨j, h1, h2, h3⟩
    exact ⟨j, List.mem_filter.2 ⟨List.mem_range.2 h1, h2⟩, h3⟩
  · rintro ⟨j, h1, h2⟩
    obtain ⟨h3, h4⟩ := List.mem_filter.1 h1
    exact ⟨j, List.mem_range.1 h3, h4, h2⟩
theorem gmem {g : Gr} {n : Nd} : n ∈ g ↔ ∃ j, j < g.length ∧ g.getD j nd0 = n := by
  constructor
  · intro h
    obtain ⟨j, hj, e⟩ := List.getElem_of_mem h
    exact ⟨j, hj, by rw [getD_at hj]; exact e⟩
  · rintro ⟨j, hj, rfl⟩
    rw [getD_at hj]
    exact List.getElem_mem _
theorem sort_kids {g : Gr} (ok : GrOk g) (i : Nat) : sortB (toldL g (kidI g i)) = kidsG g (idAt g i) := by
  refine sort_chosen ok _ (ofL_up _) fun x => ?_
  unfold kidsG
  rw [ofL_mem, List.mem_map]
  constructor
  · rintro ⟨⟨n, h1, h2⟩, h3⟩
    obtain ⟨h4, h5⟩ := List.mem_filter.1 h1
    obtain ⟨j, hj, rfl⟩ := gmem.1 h4
    exact ⟨j, hj, h5, h2⟩
  · rintro ⟨j, hj, h1, h2⟩
    refine ⟨⟨g.getD j nd0, List.mem_filter.2 ⟨gmem.2 ⟨j, hj, rfl⟩, h1⟩, h2⟩, ?_⟩
    rw [← h2]
    exact right_at ok hj
theorem kids_lenP {g : Gr} (ok : GrOk g) (i : Nat) : (kidsG g (idAt g i)).length = (kidI g i).length := by rw [← sort_kids ok, sortB_length, toldL_length]
theorem kidI_le (g : Gr) (i : Nat) : (kidI g i).length ≤ g.length := by
  have h1 := List.length_filter_le (fun j => hasL (g.getD j nd0).preds (idAt g i)) (List.range g.length)
  rw [List.length_range] at h1
  exact h1
theorem sort_heads {g : Gr} (ok : GrOk g) : sortB (toldL g ((List.range g.length).filter fun j => decide ((kidI g j).length = 0))) = headsG g := by
  refine sort_chosen ok _ (ofL_up _) fun x => ?_
  unfold headsG
  rw [ofL_mem, List.mem_map]
  have he : ∀ j, (kidsG g (idAt g j)).isEmpty = true ↔ (kidI g j).length = 0 := fun j => by
    rw [List.isEmpty_iff, ← List.length_eq_zero_iff, kids_lenP ok]
  constructor
  · rintro ⟨⟨n, h1, h2⟩, h3⟩
    obtain ⟨h4, h5⟩ := List.mem_filter.1 h1
    obtain ⟨j, hj, rfl⟩ := gmem.1 h4
    exact ⟨j, hj, decide_eq_true ((he j).1 h5), h2⟩
  · rintro ⟨j, hj, h1, h2⟩
    refine ⟨⟨g.getD j nd0, List.mem_filter.2 ⟨gmem.2 ⟨j, hj, rfl⟩, (he j).2 (of_decide_eq_true h1)⟩, h2⟩, ?_⟩
    rw [← h2]
    exact right_at ok hj
section
variable {g : Gr} {x : Bs} {ps : List Bs}
theorem app_at {n : Nd} {i : Nat} (hi : i < g.length) : (g ++ [n]).getD i nd0 = g.getD i nd0 := by rw [List.getD, List.getElem?_append_left hi, List.getD]
theorem app_new {n : Nd} : (g ++ [n]).getD g.length nd0 = n := by
  rw [List.getD, List.getElem?_append_right (Nat.le_refl _), Nat.sub_self]
  rfl
theorem pred_in (ok : GrOk g) {i : Nat} (hi : i < g.length) {p : Bs} (hp : p ∈ (g.getD i nd0).preds) : p ∈ idsG g := idx_lt.1 (Nat.lt_trans (ok.closed i hi p hp) hi)
theorem predI_app (ok : GrOk g) {n : Nd} {i : Nat} (hi : i < g.length) : predI (g ++ [n]) i = predI g i := by
  unfold predI
  rw [app_at hi]
  exact List.map_congr_left fun p hp => idx_app n (pred_in ok hi hp)
theorem predI_new (hp : ∀ p ∈ ps, p ∈ idsG g) : predI (g ++ [⟨x, ps⟩]) g.length = ps.map (idxG g) := by
  unfold predI
  rw [app_new]
  exact List.map_congr_left fun p h => idx_app _ (hp p h)
theorem found_all (hp : ∀ p ∈ ps, p ∈ idsG g) : foundL g ps = ps.map (idxG g) := by
  unfold foundL
  rw [List.filter_eq_self.2 fun p h => hasG_iff.2 (hp p h)]
theorem found_len (g : Gr) (ps : List Bs) : (foundL g ps).length ≤ ps.length := by
  unfold foundL
  rw [List.length_map]
  exact List.length_filter_le _ _
theorem found_few (g : Gr) (ps : List Bs) : (foundL g ps).length < ps.length ↔ ps.all (hasG g) = false := by
  unfold foundL
  rw [List.length_map]
  induction ps with
  | nil => simp
  | cons a l ih =>
    have h := List.length_filter_le (hasG g) l
    cases hh : hasG g a with
    | true =>
      rw [List.filter_cons_of_pos hh, List.length_cons, List.length_cons, List.all_cons, hh, Bool.true_and, ← ih]
      omega
    | false =>
      rw [List.filter_cons_of_neg (by rw [hh]; decide), List.length_cons, List.all_cons, hh, Bool.false_and]
      simp
      omega
theorem found_lt (g : Gr) (ps : List Bs) : ∀ j ∈ foundL g ps, j < g.length := fun j hj => by
  unfold foundL at hj
  obtain ⟨p, hp, rfl⟩ := List.mem_map.1 hj
  exact idx_lt.2 (hasG_iff.1 (List.mem_filter.1 hp).2)
theorem mem_places (hp : ∀ p ∈ ps, p ∈ idsG g) (ok : GrOk g) {i : Nat} (hi : i < g.length) : i ∈ ps.map (idxG g) ↔ hasL ps (idAt g i) = true := by
  rw [List.mem_map, hasL_iff]
  constructor
  · rintro ⟨p, h1, rfl⟩
    show (g.getD (idxG g p) nd0).id ∈ ps
    rw [idx_id (idx_lt.2 (hp p h1))]
    exact h1
  · exact fun h => ⟨_, h, idx_at ok.nodup hi⟩
theorem kidI_app (ok : GrOk g) (hp : ∀ p ∈ ps, p ∈ idsG g) {i : Nat} (hi : i < g.length) : kidI (g ++ [⟨x, ps⟩]) i = kidI g i ++ if i ∈ ps.map (idxG g) then [g.length] else [] := by
  unfold kidI
  rw [List.length_append, List.length_singleton, List.range_succ, List.filter_append, idAt, app_at hi]
  congr 1
  · refine List.filter_congr fun j hj => ?_
    rw [app_at (List.mem_range.1 hj)]
  · rw [List.filter_cons, app_new]
    by_cases h : i ∈ ps.map (idxG g)
    · rw [if_pos h, if_pos ((mem_places hp ok hi).1 h)]
      rfl
    · rw [if_neg h, if_neg (fun e => h ((mem_places hp ok hi).2 e))]
      rfl
theorem kidI_new (ok : GrOk g) (hx : x ∉ idsG g) (hp : ∀ p ∈ ps, p ∈ idsG g) : kidI (g ++ [⟨x, ps⟩]) g.length = [] := by
  unfold kidI
  refine List.filter_eq_nil_iff.2 fun j hj => ?_
  rw [idAt, app_new, hasL_iff]
  rw [List.length_append, List.length_singleton, List.mem_range] at hj
  rcases Nat.lt_or_ge j g.length with h | h
  · rw [app_at h]
    exact fun e => hx (pred_in ok h e)
  · rw [show j = g.length by omega, app_new]
    exact fun e => hx (hp x e)
theorem topK_app {n : Nd} (acc : List Nat) {l : List Bs} (hl : ∀ p ∈ l, p ∈ idsG g) : ∀ k, k ≤ l.length → topK acc (g ++ [n]) l k = topK acc g l k
  | 0, _ => rfl
  | k + 1, hk => by
    show max _ _ = max _ _
    rw [topK_app acc hl k (by omega), idx_app n (hl _ (by rw [List.getD, List.getElem?_eq_getElem (by omega)]; exact List.getElem_mem _))]
theorem depthsK_app (ok : GrOk g) {n : Nd} : ∀ k, k ≤ g.length → depthsK (g ++ [n]) k = depthsK g k
  | 0, _ => rfl
  | k + 1, hk => by
    show depthsK (g ++ [n]) k ++ [_] = depthsK g k ++ [_]
    rw [depthsK_app ok k (by omega), app_at (by omega), topK_app _ (fun p hp => pred_in ok (by omega) hp) _ (Nat.le_refl _)]
theorem depI_app (ok : GrOk g) {n : Nd} {i : Nat} (hi : i < g.length) : depI (g ++ [n]) i = depI g i := by
  unfold depI depthsG
  rw [List.length_append, List.length_singleton]
  show (depthsK (g ++ [n]) g.length ++ [_]).getD i 0 = _
  rw [depthsK_app ok _ (Nat.le_refl _), List.getD, List.getElem?_append_left (by rw [depthsK_len]; exact hi), List.getD]
def topI (g : Gr) (l : List Nat) : Nat → Nat
  | 0 => 0
  | k + 1 => max (topI g l k) (depI g (l.getD k 0))
theorem topI_is (g : Gr) (ps : List Bs) : ∀ k, k ≤ ps.length → topK (depthsG g) g ps k = topI g (ps.map (idxG g)) k
  | 0, _ => rfl
  | k + 1, hk => by
    show max _ _ = max _ _
    rw [topI_is g ps k (by omega)]
    congr 1
    unfold depI
    congr 1
    rw [List.getD, List.getD, List.getElem?_map, List.getElem?_eq_getElem (by omega)]
    rfl
theorem depI_new (ok : GrOk g) (hp : ∀ p ∈ ps, p ∈ idsG g) : depI (g ++ [⟨x, ps⟩]) g.length = topI g (ps.map (idxG g)) ps.length + 1 := by
  unfold depI depthsG
  rw [List.length_append, List.length_singleton]
  show (depthsK (g ++ [⟨x, ps⟩]) g.length ++ [topK (depthsK (g ++ [⟨x, ps⟩]) g.length) (g ++ [⟨x, ps⟩]) ((g ++ [(⟨x, ps⟩ : Nd)]).getD g.length nd0).preds ((g ++ [(⟨x, ps⟩ : Nd)]).getD g.length nd0).preds.length + 1]).getD g.length 0 = _
  rw [depthsK_app ok _ (Nat.le_refl _), app_new, List.getD, List.getElem?_append_right (by rw [depthsK_len]; exact Nat.le_refl _), depthsK_len, Nat.sub_self]
  simp only [List.getElem?_cons_zero, Option.getD_some]
  rw [topK_app _ hp _ (Nat.le_refl _)]
  exact congrArg (· + 1) (topI_is g ps _ (Nat.le_refl _))
theorem places_nodup (ok : GrOk g) (hu : Up ps) (hp : ∀ p ∈ ps, p ∈ idsG g) : (ps.map (idxG g)).Nodup := by
  rw [List.nodup_iff_pairwise_ne, List.pairwise_map]
  refine List.Pairwise.imp_of_mem (fun {a b} ha hb h e => less_ne h ?_) hu
  have h1 := idx_id (idx_lt.2 (hp a ha))
  rw [e, idx_id (idx_lt.2 (hp b hb))] at h1
  exact h1.symm
end
end
section
open Go.RowKit
theorem own_slice7 {w : World} {base : Nat} {e : TypeId} {size n : Nat} {v : Value} {xs : List Value} (h : w.ownsRow base e size v n xs) : ∃ A c, v = .slice A n c := by
  rcases h.2 with ⟨rfl, h0⟩ | ⟨g, cap, cur, rfl, h2, _⟩
  · exact ⟨none, 0, by rw [h0]⟩
  · exact ⟨_, _, rfl⟩
end
section
open Go.RowKit
theorem refRight_any (L : Bs) (w : World) : Calls Try.prog 35 #[.string (text L)] w fun e w' => e = .returned (.bool (rightB L)) ∧ w = w' := by
  have hs := text_size L
  obtain ⟨t, ht⟩ : ∃ t, t = text L := ⟨_, rfl⟩
  rw [← ht] at hs ⊢
  have HB : Hid (rightB L = decide ((L.length : Int) = 32)) := by
    show _ = _
    unfold rightB
    rw [Bool.eq_iff_iff]; simp; omega
  clear ht
  go_enter Try.func35, Try.ntmps35
  go_wp2
  go_ret
  refine ⟨?_, rfl⟩
  rw [HB.out]
  rfl
theorem texts_any (Ls Ms : List Bs) (A C : Option Addr) (n c m d B : Nat) (w : World) (HN : Hid (n = Ls.length)) (HM : Hid (m = Ms.length)) (hr : SS w B A Ls) (hr2 : SS w B C Ms) (hn : n ≤ 1000000) (hm : m ≤ 1000000) :
    Calls Try.prog 15 #[.slice A n c, .slice C m d] w fun e w' => e = .returned (.bool (decide (Ls = Ms))) ∧ Below w.heap.size w w' := by
  have HR : Hid (0 < Ls.length → ∃ b off, A = some ⟨b, off, none⟩ ∧ b < B ∧ ∀ k, k < Ls.length → w.cell? ⟨b, off + k, none⟩ = some (.string (text (Ls.getD k [])))) := fun h => hr.at_ h
  have HR2 : Hid (0 < Ms.length → ∃ b off, C = some ⟨b, off, none⟩ ∧ b < B ∧ ∀ k, k < Ms.length → w.cell? ⟨b, off + k, none⟩ = some (.string (text (Ms.getD k [])))) := fun h => hr2.at_ h
  clear hr hr2
  by_cases hnm : n = m
  · subst hnm
    go_enter Try.func15, Try.ntmps15
    go_wp2
    go_loopw [5] (fun i wr => ∃ k : Nat, k ≤ n ∧ i = .int .i64 (k : Int) ∧ Hid (∀ j, j < k → Ls.getD j [] = Ms.getD j []) ∧ Hid (∀ p, wr.cell? p = w.cell? p) ∧ Below w.heap.size w wr) (fun i _ => n - (intOf i).toNat)
    case atStart => exact ⟨0, by omega, rfl, by intro j hj; omega, fun _ => rfl, Below.refl _ _⟩
    case round =>
      obtain ⟨k, hk, rfl, HF, hw, hb⟩ := hrel
      by_cases hlt : k < n
      · have hkL : k < Ls.length := by have := HN.out; omega
        have hkM : k < Ms.length := by have := HM.out; omega
        obtain ⟨b, off, rfl, _, hc⟩ := HR.out (by omega)
        obtain ⟨b2, off2, rfl, _, hc2⟩ := HR2.out (by omega)
        obtain ⟨s, hs⟩ : ∃ s, s = text (Ls.getD k []) := ⟨_, rfl⟩
        obtain ⟨t, ht⟩ : ∃ t, t = text (Ms.getD k []) := ⟨_, rfl⟩
        have hck := hc k hkL
        have hck2 := hc2 k hkM
        rw [← hs, ← hw.out] at hck
        rw [← ht, ← hw.out] at hck2
        have u0 : (0 : Int) ≤ (k : Int) := by omega
        have u1 : (k : Int) < (n : Int) := by omega
        by_cases he : Ls.getD k [] = Ms.getD k []
        · have heq : (s.toList == t.toList) = true := by rw [hs, ht, text_eq]; exact decide_eq_true he
          have HH : Hid (∀ j, j < k + 1 → Ls.getD j [] = Ms.getD j []) := fun j hj => by
            rcases Nat.lt_or_ge j k with h | h
            · exact HF.out j h
            · rw [show j = k by omega]; exact he
          clear hs ht hc hc2 HR HR2 he HF hkL hkM
          go_wp2
          go_quiet (fail)
          go_wp2
          refine ⟨⟨k + 1, by omega, by go_num, HH, fun p => hw.out p, ⟨hb.os, hb.tape, hb.output, hb.size, hb.block⟩⟩, ?_⟩
          simp [intOf]; omega
        · have heq : (s.toList == t.toList) = false := by rw [hs, ht, text_eq]; exact decide_eq_false he
          have HH : Hid (decide (Ls = Ms) = false) := by
            show _ = _
            exact decide_eq_false fun e => he (by rw [e])
          clear hs ht hc hc2 HR HR2 he HF hkL hkM
          go_wp2
          go_quiet (fail)
          go_wp2
          go_ret
          exact ⟨by rw [HH.out]; rfl, ⟨hb.os, hb.tape, hb.output, hb.size, hb.block⟩⟩
      · have HH : Hid (decide (Ls = Ms) = true) := by
          show _ = _
          refine decide_eq_true (List.ext_getElem (by have := HN.out; have := HM.out; omega) fun j h1 h2 => ?_)
          have := HF.out j (by have := HN.out; omega)
          rw [List.getD, List.getElem?_eq_getElem h1, List.getD, List.getElem?_eq_getElem h2] at this
          exact this
        clear HF HR HR2
        go_wp2
        go_ret
        exact ⟨by rw [HH.out]; rfl, hb⟩
  · have hne : (n : Int) ≠ (m : Int) := by omega
    have HH : Hid (decide (Ls = Ms) = false) := by
      show _ = _
      exact decide_eq_false fun e => hnm (by rw [HN.out, HM.out, e])
    go_enter Try.func15, Try.ntmps15
    go_wp2
    go_ret
    exact ⟨by rw [HH.out]; rfl, Below.refl _ _⟩
theorem risesK_stop (l : List Bs) (k : Nat) (h : k ≤ l.length) (hf : risesK l k = false) : risesL l = false := by
  cases hb : risesL l with
  | false => rfl
  | true =>
    have h1 := (risesL_iff l).1 hb
    have : risesK l k = true := (risesK_all l k h).2 ⟨fun x hx => h1.1 x (List.mem_of_mem_take hx), List.Pairwise.sublist (List.take_sublist _ _) h1.2⟩
    rw [hf] at this; cases this
theorem refRising_any (Ls : List Bs) (A : Option Addr) (n c B : Nat) (w : World) (HN : Hid (n = Ls.length)) (hr : SS w B A Ls) (hn : n ≤ 1000000) :
    Calls Try.prog 36 #[.slice A n c] w fun e w' => e = .returned (.bool (risesL Ls)) ∧ Below w.heap.size w w' := by
  have HR : Hid (0 < Ls.length → ∃ b off, A = some ⟨b, off, none⟩ ∧ b < B ∧ ∀ k, k < Ls.length → w.cell? ⟨b, off + k, none⟩ = some (.string (text (Ls.getD k [])))) := fun h => hr.at_ h
  clear hr
  go_enter Try.func36, Try.ntmps36
  go_wp2
  go_loopw [3] (fun i wr => ∃ k : Nat, k ≤ n ∧ i = .int .i64 (k : Int) ∧ Hid (risesK Ls k = true) ∧ Hid (∀ p, wr.cell? p = w.cell? p) ∧ Below w.heap.size w wr) (fun i _ => n - (intOf i).toNat)
  case atStart => exact ⟨0, by omega, rfl, rfl, fun _ => rfl, Below.refl _ _⟩
  case round =>
    obtain ⟨k, hk, rfl, HF, hw, hb⟩ := hrel
    by_cases hlt : k < n
    · have hkL : k < Ls.length := by have := HN.out; omega
      obtain ⟨b, off, rfl, _, hc⟩ := HR.out (by omega)
      obtain ⟨y, hy⟩ : ∃ y, y = Ls.getD k [] := ⟨_, rfl⟩
      obtain ⟨s, hs⟩ : ∃ s, s = text y := ⟨_, rfl⟩
      have hck := hc k hkL
      rw [← hy, ← hs, ← hw.out] at hck
      have HRt : Hid (∀ V, Calls Try.prog 35 #[.string s] V fun e w' => e = .returned (.bool (rightB y)) ∧ V = w') := fun V => by rw [hs]; exact refRight_any y V
      have u0 : (0 : Int) ≤ (k : Int) := by omega
      have u1 : (k : Int) < (n : Int) := by omega
      have HS : Hid (risesK Ls (k + 1) = (rightB y && (k == 0 || Op.bytesLess (Ls.getD (k - 1) []) y))) := by show _ = _; rw [risesK, HF.out, ← hy, Bool.true_and]
      cases hrt : rightB y with
      | false =>
        have HH : Hid (risesL Ls = false) := risesK_stop Ls (k + 1) (by omega) (by rw [HS.out, hrt]; rfl)
        rw [hrt] at HRt
        clear hy hs hc HR hrt hkL HF
        go_wp2
        go_quiet (with_reducible exact quiet_same HRt)
        go_wp2
        go_ret
        exact ⟨by rw [HH.out]; rfl, ⟨hb.os, hb.tape, hb.output, hb.size, hb.block⟩⟩
      | true =>
        rw [hrt] at HRt
        by_cases hk0 : k = 0
        · have HH : Hid (risesK Ls (k + 1) = true) := by show _ = _; rw [HS.out, hrt, hk0]; rfl
          have d0 : decide (0 < (k : Int)) = false := decide_eq_false (by omega)
          have d1 : decide (0 < k) = false := decide_eq_false (by omega)
          clear hy hs hc HR hrt hkL HF hk0
          go_wp2
          go_quiet (with_reducible exact quiet_same HRt)
          go_wp2
          refine ⟨⟨k + 1, by omega, by go_num, HH, fun p => hw.out p, ⟨hb.os, hb.tape, hb.output, hb.size, hb.block⟩⟩, ?_⟩
          simp [intOf]; omega
        · obtain ⟨z, hz⟩ : ∃ z, z = Ls.getD (k - 1) [] := ⟨_, rfl⟩
          obtain ⟨t, ht⟩ : ∃ t, t = text z := ⟨_, rfl⟩
          have hcp := hc (k - 1) (by omega)
          rw [← hz, ← ht, ← hw.out] at hcp
          have ek : IntKind.i64.wrap ((k : Int) - 1) = ((k - 1 : Nat) : Int) := (IntWalk.i64_in _ (by omega)).trans (by omega)
          have u2 : ((k - 1 : Nat) : Int) < (n : Int) := by omega
          have u3 : (0 : Int) < (k : Int) := by omega
          have d0 : decide (0 < (k : Int)) = true := decide_eq_true (by omega)
          have d1 : decide (0 < k) = true := decide_eq_true (by omega)
          cases hls : Op.bytesLess z y with
          | false =>
            have HH : Hid (risesL Ls = false) := risesK_stop Ls (k + 1) (by omega) (by rw [HS.out, hrt, ← hz, hls]; simp [hk0])
            have hge : ∀ ty, binOp .geq ty (.string t) (.string s) = pure (.bool true) := fun ty => by simp [binOp, Op.stringOp, ht, hs, text_toList, hls]
            clear hy hs hz ht hc HR hrt hkL HF hls
            go_wp2
            go_quiet (with_reducible exact quiet_same HRt)
            go_wp2
            go_ret
            exact ⟨by rw [HH.out]; rfl, ⟨hb.os, hb.tape, hb.output, hb.size, hb.block⟩⟩
          | true =>
            have HH : Hid (risesK Ls (k + 1) = true) := by show _ = _; rw [HS.out, hrt, ← hz, hls]; simp
            have hge : ∀ ty, binOp .geq ty (.string t) (.string s) = pure (.bool false) := fun ty => by simp [binOp, Op.stringOp, ht, hs, text_toList, hls]
            clear hy hs hz ht hc HR hrt hkL HF hls
            go_wp2
            go_quiet (with_reducible exact quiet_same HRt)
            go_wp2
            refine ⟨⟨k + 1, by omega, by go_num, HH, fun p => hw.out p, ⟨hb.os, hb.tape, hb.output, hb.size, hb.block⟩⟩, ?_⟩
            simp [intOf]; omega
    · have HH : Hid (risesL Ls = true) := by
        show _ = _
        have := HF.out
        rwa [show k = Ls.length by have := HN.out; omega] at this
      clear HF HR
      go_wp2
      go_ret
      exact ⟨by rw [HH.out]; rfl, hb⟩
end
end Go.Proofs.Ytbeihiokjhfepaa
