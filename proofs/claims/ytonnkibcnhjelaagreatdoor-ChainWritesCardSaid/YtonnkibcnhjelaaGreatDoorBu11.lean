/- Lemmas under the proofs of this place: Skip, ChainBackM. No statement is proved here. -/
import Derived.Test.YtonnkibcnhjelaaGreatDoorBu07
import Derived.Test.YtonnkibcnhjelaaGreatDoorBu06
section
set_option linter.unusedVariables false
namespace Go.Proofs.YtonnkibcnhjelaaGreatDoor
open Go.RowKit
theorem any_skip {P : Program} {ops : Array Oper} {Q : Exit → Act → World → Prop} {md : Region.Mode} {S : World → Prop} {T : Nat → Bool} {i fuel : Nat} {oi : Oper} {listed listed' : Array Bool} {a a' : Act} {w : World} (hi : ops[i]? = some oi) (hs : Region.noSelect ops = true) (hf : Region.free md ops listed i = true) (hr : (Region.ready md ops listed).contains i = true)
    (hT : T i = false) (hwt : waits_ md ops T i = true) (hw : Region.wanted oi (yielded ops a.tmps) = false) (hS : S w) (ha : a.put oi.dst undef = a') (hl : listed.setIfInBounds i true = listed') (hQ : ∀ c a w, Q (.panic c) (a.put oi.dst undef) w → Q (.panic c) a w)
    (h : wpAnyT P md ops Q S T fuel listed' a' w) : wpAnyT P md ops Q S T (fuel + 1) listed a w := by
  subst ha hl
  exact wpAnyT_first hi hwt hT (Region.noSelect_spec hs) hQ fuel listed a w (Region.free_spec hi hf) (by simpa using hr) (.inr ⟨hw, rfl⟩) hS h
theorem skip_d {P : Program} {ops : Array Oper} {Q : Exit → Act → World → Prop} {md : Region.Mode} {S : World → Prop} {T : Nat → Bool} {i fuel : Nat} {oi : Oper} {listed : Array Bool} {a : Act} {w : World} (d : Nat) (hi : ops[i]? = some oi) (hd : oi.dst = some d) (hs : Region.noSelect ops = true) (hf : Region.free md ops listed i = true) (hr : (Region.ready md ops listed).contains i = true)
    (hT : T i = false) (hwt : waits_ md ops T i = true) (hw : Region.wanted oi (yielded ops a.tmps) = false) (hS : S w) (hQ : ∀ c a w, Q (.panic c) (a.put oi.dst undef) w → Q (.panic c) a w)
    (h : wpAnyT P md ops Q S T fuel (listed.setIfInBounds i true) (a.put (some d) undef) w) : wpAnyT P md ops Q S T (fuel + 1) listed a w :=
  any_skip hi hs hf hr hT hwt hw hS (by rw [hd]) rfl hQ h
theorem take_d {P : Program} {ops : Array Oper} {Q : Exit → Act → World → Prop} {md : Region.Mode} {S : World → Prop} {T : Nat → Bool} {i fuel : Nat} {oi : Oper} {listed : Array Bool} {a : Act} {w : World} (v : Value) (d : Nat) (hi : ops[i]? = some oi) (hd : oi.dst = some d) (hs : Region.noSelect ops = true) (hf : Region.free md ops listed i = true) (hr : (Region.ready md ops listed).contains i = true)
    (hT : T i = false) (hwt : waits_ md ops T i = true) (hw : Region.wanted oi (yielded ops a.tmps) = true) (hy : ∀ w, S w → (execOp a.eval oi).run P w = .ok (.value v) w) (hS : S w) (hQ : ∀ c a w, Q (.panic c) (a.put oi.dst v) w → Q (.panic c) a w)
    (h : wpAnyT P md ops Q S T fuel (listed.setIfInBounds i true) (a.put (some d) v) w) : wpAnyT P md ops Q S T (fuel + 1) listed a w :=
  any_take v hi hs hf hr hT hwt hw hy hS (by rw [hd]) rfl hQ h
end Go.Proofs.YtonnkibcnhjelaaGreatDoor
end
section
set_option linter.unusedVariables false
namespace Go.Proofs.YtonnkibcnhjelaaGreatDoor
theorem write_ok {d : Dk} {i : Int} {b : List UInt8} (h : (d.write i b).2 = 0) : 0 ≤ i ∧ i.toNat < d.safe.length ∧ (d.write i b).1.safe = d.safe ∧ (d.write i b).1.waits = d.waits ++ [(i.toNat, b)] ∧ d.off = false := by
  unfold Dk.write at h ⊢
  by_cases h1 : d.off = true
  · rw [if_pos h1] at h; simp at h
  · rw [if_neg h1] at h ⊢
    by_cases h2 : (!d.there i) = true
    · rw [if_pos h2] at h; simp at h
    · rw [if_neg h2] at h ⊢
      have ht : d.there i = true := by simpa using h2
      unfold Dk.there at ht
      have ht := of_decide_eq_true ht
      by_cases h3 : b.length ≠ 256
      · rw [if_pos h3] at h; simp at h
      · rw [if_neg h3] at h ⊢
        obtain ⟨c1, c2, c3, c4, c5⟩ := deed_counts { d with waits := d.waits ++ [(i.toNat, b)] }
        cases hd : Dk.deed { d with waits := d.waits ++ [(i.toNat, b)] } with
        | mk e v =>
          rw [hd] at h c4 c5
          cases v with
          | false => simp at h
          | true => exact ⟨ht.1, by omega, c5, c4, by simpa using h1⟩
theorem write_now {d : Dk} {i : Int} {b : List UInt8} (h : (d.write i b).2 = 0) (n : Nat) : (d.write i b).1.now n = if n = i.toNat then b else d.now n := by
  obtain ⟨_, _, h3, h4, _⟩ := write_ok h
  unfold Dk.now
  rw [h3, h4, Dk.lastOf_append]
  by_cases hn : n = i.toNat
  · rw [if_pos hn, if_pos hn.symm]; rfl
  · rw [if_neg hn, if_neg (fun e => hn e.symm)]
theorem wrote_now {d : Dk} {o : Int} {ps : List Int} {t : List UInt8} (hp : placesOk ps d.safe.length = true) : ∀ i, i ≤ ps.length → (wroteN d o ps t i).2 = 0 → (wroteN d o ps t i).1.safe = d.safe ∧ ∀ j, j < i → (wroteN d o ps t i).1.now (ps.getD j 0).toNat = (cutAt o ps t j).bytes
  | 0, _, _ => ⟨rfl, fun j hj => by omega⟩
  | i + 1, hi, h => by
    have h0 : (wroteN d o ps t i).2 = 0 := by
      apply Classical.byContradiction
      intro hne
      have e1 := wroteN_stop (d := d) (o := o) (ps := ps) (t := t) (i := i) hne
      have e : (cellW o ps t).take (i + 1) = (cellW o ps t).take i ++ [(ps.getD i 0, (cutAt o ps t i).bytes)] := cellW_take o ps t i (by omega)
      unfold wroteN at h hne
      rw [e, writeL_stop _ _ _ hne] at h
      exact hne h
    have e := wroteN_succ (d := d) (o := o) (ps := ps) (t := t) (i := i) (by omega) h0
    rw [e] at h ⊢
    obtain ⟨ih1, ih2⟩ := wrote_now hp i (by omega) h0
    obtain ⟨_, _, w3, _, _⟩ := write_ok h
    refine ⟨w3.trans ih1, fun j hj => ?_⟩
    rw [write_now h]
    have pi := placeAt_iff.1 (placesOk_iff.1 hp i (by omega))
    by_cases hji : j = i
    · subst hji; rw [if_pos rfl]
    · have pj := placeAt_iff.1 (placesOk_iff.1 hp j (by omega))
      have hne := pi.2.2 j (by omega)
      rw [if_neg (by omega)]
      exact ih2 j (by omega)
theorem calm_write {n : Nat} {b : List UInt8} {d : Dk} (h : Dk.calm n b d) (i : Int) (c : List UInt8) (hne : i ≠ (n : Int)) : Dk.calm n b (d.write i c).1 := by
  have := Dk.calm_step h 2 i c [] (by omega)
  simpa [Dk.step] using this
theorem calm_writeL {n : Nat} {b : List UInt8} : ∀ (l : List (Int × List UInt8)) {d : Dk}, Dk.calm n b d → (∀ x ∈ l, x.1 ≠ (n : Int)) → Dk.calm n b (writeL d l).1
  | [], d, h, _ => h
  | x :: l, d, h, hl => by
    have h1 := calm_write h x.1 x.2 (hl x (List.mem_cons_self ..))
    show Dk.calm n b (if (d.write x.1 x.2).2 = 0 then writeL (d.write x.1 x.2).1 l else d.write x.1 x.2).1
    by_cases hz : (d.write x.1 x.2).2 = 0
    · rw [if_pos hz]; exact calm_writeL l h1 (fun y hy => hl y (List.mem_cons_of_mem _ hy))
    · rw [if_neg hz]; exact h1
theorem calm_chWrite {n : Nat} {b : List UInt8} {d : Dk} (h : Dk.calm n b d) (o : Int) (ps : List Int) (t : List UInt8) (hne : ∀ j, j < ps.length → ps.getD j 0 ≠ (n : Int)) : Dk.calm n b (chWrite d o ps t).1 := by
  have hw : Dk.calm n b (writeL d (cellW o ps t)).1 := calm_writeL _ h (fun x hx => by
    unfold cellW at hx
    obtain ⟨i, hi, rfl⟩ := List.mem_map.1 hx
    exact hne i (List.mem_range.1 hi))
  unfold chWrite
  split
  · exact h
  · split
    · exact h
    · split <;> exact hw
theorem readCells_there {d : Dk} {o : Int} {ps : List Int} {t : List UInt8} (hoff : d.off = false) (hp : placesOk ps d.safe.length = true) (hk : ∀ i, i < ps.length → cutOk o ps t i = true) (hn : ∀ i, i < ps.length → d.now (ps.getD i 0).toNat = (cutAt o ps t i).bytes) :
    ∀ k i, i + k = ps.length → readCells d o k i (ps.getD i 0) = ((List.range' i k).map (cutAt o ps t), ps.drop i, 0)
  | 0, i, h => by
    show ([], [], (0 : Int)) = _
    rw [List.drop_of_length_le (by omega)]
    rfl
  | k + 1, i, h => by
    have pi := placeAt_iff.1 (placesOk_iff.1 hp i (by omega))
    have hc := hk i (by omega)
    unfold cutOk at hc
    rw [Bool.and_eq_true] at hc
    have hg : getC (d.now (ps.getD i 0).toNat) = (cutAt o ps t i, 0) := by rw [hn i (by omega)]; exact getC_put _ hc.1
    have ih := readCells_there hoff hp hk hn k (i + 1) (by omega)
    have hx : (cutAt o ps t i).next = ps.getD (i + 1) 0 := rfl
    have ho : (cutAt o ps t i).owner = o := rfl
    have hu : (cutAt o ps t i).number = (i : Int) := rfl
    unfold readCells
    rw [if_neg (by rw [hoff]; simp), if_neg (by omega)]
    simp only
    rw [hg]
    simp only
    rw [if_neg (by rw [ho, hu]; simp), hx, ih]
    simp only
    rw [if_neg (by simp)]
    have e : ps.drop i = ps.getD i 0 :: ps.drop (i + 1) := by
      rw [List.drop_eq_getElem_cons (show i < ps.length by omega), List.getD_eq_getElem?_getD, List.getElem?_eq_getElem (by omega)]; rfl
    rw [e, List.range'_succ, List.map_cons]
theorem chRead_back {d : Dk} {o p : Int} {ps qs : List Int} {t u : List UInt8} (masks : List Int) (h : (chWrite d o ps t).2.2 = 0) (hf : (chWrite d o ps t).1.flush.2 = 0) (hl : d.safe.length = 16) (hne : ∀ i, i < ps.length → ∀ k, k < qs.length → ps.getD i 0 ≠ qs.getD k 0) :
    chRead ((chWrite (chWrite d o ps t).1.flush.1 p qs u).1.crash masks) (chWrite d o ps t).2.1 = (t, ps, 0) := by
  have hcut : (cutC o ps t).2 = 0 := by
    apply Classical.byContradiction
    intro hc
    unfold chWrite at h
    rw [if_pos hc] at h
    exact hc h
  have hpl : placesOk ps d.safe.length = true := by
    apply Classical.byContradiction
    intro hc
    unfold chWrite at h
    rw [if_neg (by omega), if_pos (by simpa using hc)] at h
    simp at h
  have hw : (writeL d (cellW o ps t)).2 = 0 := by
    apply Classical.byContradiction
    intro hc
    unfold chWrite at h
    rw [if_neg (by omega), if_neg (by rw [hpl]; simp), if_neg hc] at h
    exact hc h
  have he : chWrite d o ps t = ((writeL d (cellW o ps t)).1, ⟨ps.getD 0 0, t.length, o⟩, 0) := by
    unfold chWrite
    rw [if_neg (by omega), if_neg (by rw [hpl]; simp), if_pos hw]
  rw [he] at hf ⊢
  simp only at hf ⊢
  obtain ⟨c1, c2, c3, c4, c5⟩ := cutC_inv hcut
  rw [← wroteN_all] at hw hf ⊢
  obtain ⟨n1, n2⟩ := wrote_now hpl ps.length (Nat.le_refl _) hw
  obtain ⟨D, hD⟩ : ∃ D, D = (chWrite (wroteN d o ps t ps.length).1.flush.1 p qs u).1.crash masks := ⟨_, rfl⟩
  have hcalm : ∀ i, i < ps.length → Dk.calm (ps.getD i 0).toNat (cutAt o ps t i).bytes (chWrite (wroteN d o ps t ps.length).1.flush.1 p qs u).1 := fun i hi => by
    have pi := placeAt_iff.1 (placesOk_iff.1 hpl i hi)
    have h1 := Dk.calm_flush (n := (ps.getD i 0).toNat) (d := (wroteN d o ps t ps.length).1) (by rw [n1]; omega) hf
    rw [n2 i hi] at h1
    exact calm_chWrite h1 p qs u (fun k hk => by have := hne i hi k hk; omega)
  have hoff : D.off = false := by rw [hD]; rfl
  have h0 := hcalm 0 c3
  have hDl : D.safe.length = 16 := by
    rw [hD]
    show (Dk.crashed masks _ _ 0).length = 16
    rw [Dk.crashed_length]
    have l1 : (wroteN d o ps t ps.length).1.flush.1.safe.length = 16 := by
      unfold Dk.flush
      split
      · rw [n1, hl]
      · have k5 := (deed_counts (wroteN d o ps t ps.length).1).2.2.2.2
        split
        · rename_i e' hd'
          rw [hd'] at k5
          rw [k5, n1, hl]
        · rename_i e' hd'
          rw [hd'] at k5
          show (Dk.laid e'.safe e'.waits).length = 16
          rw [Dk.laid_length, k5, n1, hl]
    unfold chWrite
    split
    · exact l1
    · split
      · exact l1
      · split
        · rw [(writeL_load _ _).2]; exact l1
        · rw [(writeL_load _ _).2]; exact l1
  have hnow : ∀ i, i < ps.length → D.now (ps.getD i 0).toNat = (cutAt o ps t i).bytes := fun i hi => by
    have h1 := Dk.calm_step (hcalm i hi) 5 0 [] masks (by omega)
    have h2 : Dk.calm (ps.getD i 0).toNat (cutAt o ps t i).bytes D := by rw [hD]; simpa [Dk.step] using h1
    exact Dk.calm_now h2
  rw [hl] at hpl
  have hplD : placesOk ps D.safe.length = true := by rw [hDl]; exact hpl
  have hr := readCells_there hoff hplD c4 hnow ps.length 0 (by omega)
  have p0 := placeAt_iff.1 (placesOk_iff.1 hpl 0 c3)
  have k0 := c4 0 c3
  unfold cutOk at k0
  rw [Bool.and_eq_true, Ce.may_iff] at k0
  have ho1 : 1 ≤ o := k0.1.1
  have ho2 : o ≤ 2147483647 := k0.1.2.1
  have en : needC t.length = (t.length + 241) / 242 := rfl
  have hmay : Pt.may ⟨ps.getD 0 0, t.length, o⟩ (D.safe.length : Int) = true := by
    unfold Pt.may
    simp only [Bool.and_eq_true, decide_eq_true_eq]
    rw [hDl]
    exact ⟨by omega, by omega, by omega, by omega, ho1, ho2⟩
  unfold chRead
  rw [← hD, if_neg (by rw [hmay]; simp)]
  simp only
  rw [show needC (t.length : Int).toNat = ps.length by rw [Int.toNat_natCast]; exact c2.symm, hr]
  simp only
  rw [if_neg (by simp)]
  have hj := join_cut hcut
  rw [c5, List.range_eq_range'] at hj
  rw [hj]
  simp only
  rw [if_pos trivial, List.drop_zero]
theorem readCells_reads (d : Dk) (r : Nat) (o : Int) : ∀ (k i : Nat) (at_ : Int), readCells { d with reads := r } o k i at_ = readCells d o k i at_
  | 0, _, _ => rfl
  | k + 1, i, at_ => by
    unfold readCells
    simp only [readCells_reads d r o k]
    rfl
theorem chRead_reads (d : Dk) (r : Nat) (p : Pt) : chRead { d with reads := r } p = chRead d p := by
  unfold chRead
  simp only [readCells_reads]
end Go.Proofs.YtonnkibcnhjelaaGreatDoor
end
