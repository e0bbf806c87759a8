/- Lemmas under the proofs of this place: SubRB, CurAt, ChainAwM, ChainRPlaces. No statement is proved here. -/
import Derived.Test.YtonnkibcnhjelaaGreatDoorBu09
import Derived.Test.YtonnkibcnhjelaaGreatDoorBu10
import Derived.Test.YtonnkibcnhjelaaGreatDoorBu11
import Derived.Test.YtonnkibcnhjelaaGreatDoorBu06
import Derived.Test.YtonnkibcnhjelaaGreatDoorBu02
import Derived.Deep.RegionWith
section
set_option linter.unusedVariables false
namespace Go.Proofs.YtonnkibcnhjelaaGreatDoor
open Go.RowKit
theorem sub_rb {w : World} {B b0 o c : Nat} {M : List UInt8} (h : RB w B (some ⟨b0, o, none⟩) M) (k q : Nat) (hk : k + q ≤ M.length) (hc : M.length < c) : RB w B (some ⟨b0, o + k, none⟩) ((M.drop k).take q) := by
  have h2 := rb_cut1 h (k := k) (c := c) (by omega) (by omega) (by omega)
  simp only [Option.map_some, add_at] at h2
  exact rb_take h2 q (by rw [List.length_drop]; omega)
end Go.Proofs.YtonnkibcnhjelaaGreatDoor
end
section
set_option linter.unusedVariables false
set_option linter.unusedSimpArgs false
namespace Go.Proofs.YtonnkibcnhjelaaGreatDoor
open Go.RowKit
def CurB (B : Nat) (w : World) (g : Nat) : Option (List UInt8) → Prop
  | none => w.heap[g]? = some (.cells #[.slice none 0 0, .bool true] 194 (0, 0))
  | some L => ∃ A c, w.heap[g]? = some (.cells #[.slice A L.length c, .bool false] 194 (0, 0)) ∧ RB w B A L ∧ L.length ≤ c ∧ L.length ≤ 1048576
theorem CurB.cur {B : Nat} {w : World} {g : Nat} {st : Option (List UInt8)} (h : CurB B w g st) (hB : B ≤ w.heap.size) : Cur w g st := by
  rcases st with _ | L
  · exact h
  · obtain ⟨A, c, h1, h2, h3, h4⟩ := h
    exact ⟨A, c, h1, h2.more hB, h3, h4⟩
theorem Cur.at_ {w : World} {g : Nat} {st : Option (List UInt8)} (h : Cur w g st) : CurB w.heap.size w g st := by
  rcases st with _ | L
  · exact h
  · obtain ⟨A, c, h1, h2, h3, h4⟩ := h
    exact ⟨A, c, h1, h2, h3, h4⟩
theorem CurB.lt {B : Nat} {w : World} {g : Nat} {st : Option (List UInt8)} (h : CurB B w g st) : g < w.heap.size := by
  rcases st with _ | L
  · exact Blk.lt (t := 194) h
  · obtain ⟨A, c, h1, _⟩ := h
    exact Blk.lt (t := 194) h1
theorem CurB.keep {B : Nat} {w w' : World} {g : Nat} {st : Option (List UInt8)} (h : CurB B w g st) (hg : w'.heap[g]? = w.heap[g]?) (hk : ∀ p : Addr, p.block < B → w'.cell? p = w.cell? p) : CurB B w' g st := by
  rcases st with _ | L
  · exact hg.trans h
  · obtain ⟨A, c, h1, h2, h3, h4⟩ := h
    exact ⟨A, c, hg.trans h1, Reads.keep h2 hk, h3, h4⟩
theorem cur_cutB {w : World} {B g : Nat} {A : Option Addr} {L : List UInt8} {c k : Nat} (HG : Hid (w.heap[g]? = some (.cells #[.slice A L.length c, .bool false] 194 (0, 0)))) (hr : RB w B A L) (hc : L.length ≤ c) (hl : L.length ≤ 1048576)
    (hk : k ≤ L.length) (A' : Option Addr) (c' : Nat) (h1 : c = k → A' = A) (h2 : c ≠ k → A' = A.map (·.add k)) (hc' : c' = c - k) :
    CurB B (w.setCell ⟨g, 0, none⟩ (.slice A' (L.length - k) c')) g (some (L.drop k)) := by
  subst hc'
  have hA : A' = if c = k then A else A.map (·.add (k * 1)) := by
    rw [Nat.mul_one]
    by_cases h : c = k
    · rw [if_pos h]; exact h1 h
    · rw [if_neg h]; exact h2 h
  refine ⟨A', c - k, ?_, ?_, by rw [List.length_drop]; omega, by rw [List.length_drop]; omega⟩
  · rw [List.length_drop]
    exact Blk.set_ HG.out 0 (.slice A' (L.length - k) (c - k))
  · rw [hA]
    exact rb_far (rb_cut hr hk hc) HG.out (cur_cells _ _ _ _) _
theorem own_new {w : World} {base c : Nat} {A : Option Addr} {L : List UInt8} (h : Own w base A L c) : ∀ ad, A = some ad → base ≤ ad.block := fun ad e => by
  subst e
  rcases h.2 with ⟨h1, _⟩ | ⟨k, cap, cur, h1, h2, _⟩
  · simp at h1
  · simp only [Value.slice.injEq, Option.some.injEq] at h1
    rw [h1.1]
    exact h2
def GivesAt (B g : Nat) (r : St × List UInt8) (w : World) (e : Ending) (w' : World) : Prop :=
  ∃ A c, e = .returned (.slice A r.2.length c) ∧ RB w' w'.heap.size A r.2 ∧ (∀ ad, A = some ad → w.heap.size ≤ ad.block) ∧ CurB B w' g r.1 ∧ Only w w' g
set_option maxHeartbeats 1000000 in
theorem take_at (B g : Nat) (n : Int) (st : St) (w : World) (h0 : CurB B w g st) (hB : B ≤ w.heap.size) :
    Calls Tryz.prog 124 #[.pointer (some ⟨g, 0, none⟩), .int .i64 n] w (GivesAt B g (stepTake n st) w) := by
  have h := h0.cur hB
  have hb := bad_any g _ w h
  have hfl := fail_any g _ w h
  rcases st with _ | L
  · have h' := Lib.hid h0
    clear h h0
    go_enter Tryz.func124, Tryz.ntmps124
    go_wp2_with (go_at_call 126; refine hb.mono ?_; rintro e w' ⟨rfl, rfl⟩)
    go_ret
    exact ⟨none, 0, rfl, RB.none_ _ _, (fun _ e => nomatch e), h'.out, only_refl _ _⟩
  · obtain ⟨A, c, hg, hrB, hc, hl⟩ := h0
    have hr := hrB.more hB
    have HrB := Lib.hid hrB
    clear h hrB
    have hc0 : w.cell? ⟨g, 0, none⟩ = some (.slice A L.length c) := (blk_cell hg 0).1
    have hf0 : w.frozen? ⟨g, 0, none⟩ = false := (blk_cell hg 0).2
    have HG := Lib.hid hg
    clear hg
    by_cases hn : n < 0 ∨ (L.length : Int) < n
    · have HS : Hid (stepTake n (some L) = (none, [])) := by show _ = _; simp only [stepTake]; rw [if_pos hn]
      rcases hn with hn | hn
      · have hd : decide (n < 0) = true := by simp [hn]
        go_enter Tryz.func124, Tryz.ntmps124
        go_wp2_with (first
          | (go_at_call 126; refine hb.mono ?_; rintro e w' ⟨rfl, rfl⟩)
          | (go_at_call 130; refine hfl.mono ?_; rintro e w' ⟨rfl, hcur, honly, hsz⟩))
        go_ret
        rw [HS.out]
        exact ⟨none, 0, rfl, RB.none_ _ _, (fun _ e => nomatch e), hcur, honly⟩
      · have hd : decide (n < 0) = false := by simp; omega
        have hd2 : decide ((L.length : Int) < n) = true := by simp [hn]
        go_enter Tryz.func124, Tryz.ntmps124
        go_wp2_with (first
          | (go_at_call 126; refine hb.mono ?_; rintro e w' ⟨rfl, rfl⟩)
          | (go_at_call 130; refine hfl.mono ?_; rintro e w' ⟨rfl, hcur, honly, hsz⟩))
        go_ret
        rw [HS.out]
        exact ⟨none, 0, rfl, RB.none_ _ _, (fun _ e => nomatch e), hcur, honly⟩
    · have hd : decide (n < 0) = false := by simp; omega
      have hd2 : decide ((L.length : Int) < n) = false := by simp; omega
      obtain ⟨k, rfl⟩ : ∃ k : Nat, n = (k : Int) := ⟨n.toNat, by omega⟩
      have hkl : k ≤ L.length := by omega
      have HS : Hid (stepTake (k : Int) (some L) = (some (L.drop k), L.take k)) := by show _ = _; simp only [stepTake]; rw [if_neg hn]; simp
      clear hn
      go_enter Tryz.func124, Tryz.ntmps124
      have hlt : g < w.heap.size := Blk.lt HG.out
      have HLK : Hid ((L.take k).length = k) := by show _ = _; rw [List.length_take]; omega
      have hrt : RB w w.heap.size A (L.take k) := by
        refine ⟨by rw [cells_length]; simp, fun h0 => ?_⟩
        obtain ⟨ad, e, hb', hcc⟩ := hr.2 (by rw [List.length_take] at h0; omega)
        refine ⟨ad, e, hb', fun j u hu => hcc j u ?_⟩
        rw [← cells_take, List.getElem?_take] at hu
        split at hu
        · exact hu
        · cases hu
      go_wp2_with (first
        | (go_at_call 126; refine hb.mono ?_; rintro e w' ⟨rfl, rfl⟩)
        | (go_at_call 127; refine (copied_any (L.take k) k _ _ _ (by rw [List.length_take]; omega) hrt (by rw [List.length_take]; omega)).mono ?_; rintro e w1 ⟨A1, c1, he1, hown1, hb1⟩; rw [HLK.out] at he1; subst he1; have hc1 := (hb1.cell (p := ⟨g, 0, none⟩) hlt).trans hc0; have hf1 := (hb1.frozen (p := ⟨g, 0, none⟩) hlt).trans hf0))
      all_goals
        have HG1 : Hid (w1.heap[g]? = some (.cells #[.slice A L.length c, .bool false] 194 (0, 0))) := Blk.below HG.out hb1 hlt
        have hr1 : RB w1 B A L := HrB.out.below (hb1.mono hB)
        have hcur := fun A' c' a b d => cur_cutB HG1 hr1 hc hl hkl A' c' a b d
        have ho1 : RB w1 w1.heap.size A1 (L.take k) := own_rb hown1
        go_ret
        rw [HS.out]
        refine ⟨A1, c1, by show _ = Ending.returned (.slice A1 (L.take k).length c1); rw [HLK.out]; rfl, ?_, (fun ad e => own_new hown1 ad e), hcur _ _ (fun hx => by first | rfl | (exact absurd hx (by assumption))) (fun hx => by first | rfl | (exact absurd (by assumption) hx)) (by omega), only_trans (only_below hb1 g) (only_set _ _ _ _)⟩
        have hz : ∀ u, (w1.setCell ⟨g, 0, none⟩ u).heap.size = w1.heap.size := fun u => by simp [World.setCell]
        rw [hz]
        exact rb_far ho1 HG1.out (cur_cells _ _ _ _) _
end Go.Proofs.YtonnkibcnhjelaaGreatDoor
end
section
set_option linter.unusedVariables false
namespace Go.Proofs.YtonnkibcnhjelaaGreatDoor
theorem chWrite_load (d : Dk) (o : Int) (ps : List Int) (t : List UInt8) : (chWrite d o ps t).1.load ≤ d.load + 2 * ps.length := by
  have := (writeL_load (cellW o ps t) d).1
  rw [cellW_length] at this
  unfold chWrite
  split
  · show d.load ≤ _; omega
  · split
    · show d.load ≤ _; omega
    · split
      · exact this
      · exact this
theorem write_on10 {d : Dk} (h1 : d.off = false) (h2 : d.left = -1) {i : Int} (hi : 0 ≤ i) (hi2 : i < (d.safe.length : Int)) {b : List UInt8} (hb : b.length = 256) :
    (d.write i b).2 = 0 ∧ (d.write i b).1.off = false ∧ (d.write i b).1.left = -1 ∧ (d.write i b).1.safe = d.safe := by
  have ht : d.there i = true := by unfold Dk.there; exact decide_eq_true ⟨hi, hi2⟩
  have hd : Dk.deed { d with waits := d.waits ++ [(i.toNat, b)] } = ({ d with waits := d.waits ++ [(i.toNat, b)] }, true) := by
    unfold Dk.deed
    simp only [h2]
    rw [if_neg (by decide), if_neg (by decide)]
  have e : d.write i b = ({ d with waits := d.waits ++ [(i.toNat, b)], writes := d.writes + 1 }, 0) := by
    unfold Dk.write
    rw [if_neg (by rw [h1]; simp), if_neg (by rw [ht]; simp), if_neg (by omega), hd]
  rw [e]
  exact ⟨rfl, h1, h2, rfl⟩
theorem writeL_on10 : ∀ (l : List (Int × List UInt8)) {d : Dk}, d.off = false → d.left = -1 → (∀ x ∈ l, 0 ≤ x.1 ∧ x.1 < (d.safe.length : Int) ∧ x.2.length = 256) →
    (writeL d l).2 = 0 ∧ (writeL d l).1.off = false ∧ (writeL d l).1.left = -1 ∧ (writeL d l).1.safe = d.safe
  | [], d, h1, h2, _ => ⟨rfl, h1, h2, rfl⟩
  | x :: l, d, h1, h2, h => by
    obtain ⟨k1, k2, k3⟩ := h x (by simp)
    obtain ⟨e1, e2, e3, e4⟩ := write_on10 h1 h2 k1 k2 k3
    have e : writeL d (x :: l) = writeL (d.write x.1 x.2).1 l := by show (if _ then _ else _) = _; rw [if_pos e1]
    rw [e]
    obtain ⟨f1, f2, f3, f4⟩ := writeL_on10 l e2 e3 (fun y hy => by rw [e4]; exact h y (by simp [hy]))
    exact ⟨f1, f2, f3, f4.trans e4⟩
theorem chWrite_on10 {d : Dk} {o : Int} {ps : List Int} {t : List UInt8} (h1 : d.off = false) (h2 : d.left = -1) (hc : (cutC o ps t).2 = 0) (hp : placesOk ps d.safe.length = true) :
    (chWrite d o ps t).2 = (⟨ps.getD 0 0, t.length, o⟩, 0) ∧ (chWrite d o ps t).1.off = false ∧ (chWrite d o ps t).1.left = -1 ∧ (chWrite d o ps t).1.safe = d.safe ∧ ∀ j, j < ps.length → (chWrite d o ps t).1.now (ps.getD j 0).toNat = (cutAt o ps t j).bytes := by
  have hw := writeL_on10 (cellW o ps t) h1 h2 (fun x hx => by
    unfold cellW at hx
    obtain ⟨i, hi, rfl⟩ := List.mem_map.1 hx
    have p := placeAt_iff.1 (placesOk_iff.1 hp i (List.mem_range.1 hi))
    refine ⟨by omega, by omega, Ce.bytes_length _ ?_⟩
    show ((t.drop _).take 242).length ≤ 242
    rw [List.length_take]
    omega)
  have he : chWrite d o ps t = ((writeL d (cellW o ps t)).1, ⟨ps.getD 0 0, t.length, o⟩, 0) := by
    unfold chWrite
    rw [if_neg (by omega), if_neg (by rw [hp]; simp), if_pos hw.1]
  have hn := wrote_now hp ps.length (Nat.le_refl _) (by rw [wroteN_all]; exact hw.1)
  rw [wroteN_all] at hn
  rw [he]
  exact ⟨rfl, hw.2.1, hw.2.2.1, hw.2.2.2, hn.2⟩
theorem chRead_now {D : Dk} {o : Int} {ps : List Int} {t : List UInt8} (hoff : D.off = false) (hcut : (cutC o ps t).2 = 0) (hpl : placesOk ps D.safe.length = true) (hnow : ∀ i, i < ps.length → D.now (ps.getD i 0).toNat = (cutAt o ps t i).bytes) :
    chRead D ⟨ps.getD 0 0, t.length, o⟩ = (t, ps, 0) := by
  obtain ⟨c1, c2, c3, c4, c5⟩ := cutC_inv hcut
  have hr := readCells_there hoff hpl c4 hnow ps.length 0 (by omega)
  have p0 := placeAt_iff.1 (placesOk_iff.1 hpl 0 c3)
  have k0 := c4 0 c3
  unfold cutOk at k0
  rw [Bool.and_eq_true, Ce.may_iff] at k0
  have ho1 : 1 ≤ o := k0.1.1
  have ho2 : o ≤ 2147483647 := k0.1.2.1
  have en : needC t.length = (t.length + 241) / 242 := rfl
  have hmay : Pt.may ⟨ps.getD 0 0, t.length, o⟩ (D.safe.length : Int) = true := by
    unfold Pt.may
    simp only [Bool.and_eq_true, decide_eq_true_eq]
    exact ⟨by omega, by omega, by omega, by omega, ho1, ho2⟩
  unfold chRead
  rw [if_neg (by rw [hmay]; simp)]
  simp only
  rw [show needC (t.length : Int).toNat = ps.length by rw [Int.toNat_natCast]; exact c2.symm, hr]
  simp only
  rw [if_neg (by simp)]
  have hj := join_cut hcut
  rw [c5, List.range_eq_range'] at hj
  rw [hj]
  simp only
  rw [if_pos trivial, List.drop_zero]
def awT : List UInt8 := List.replicate 299 0 ++ [7]
theorem awT_length : awT.length = 300 := by decide +kernel
def awD : Dk := (chWrite (Dk.blank 16) 3 [9, 5] awT).1
theorem awT_cut : (cutC 3 [9, 5] awT).2 = 0 := by decide +kernel
theorem aw_on : (chWrite (Dk.blank 16) 3 [9, 5] awT).2 = (⟨9, 300, 3⟩, 0) ∧ awD.off = false ∧ awD.safe.length = 16 ∧ ∀ j, j < 2 → awD.now (([9, 5] : List Int).getD j 0).toNat = (cutAt 3 [9, 5] awT j).bytes := by
  obtain ⟨e1, e2, e3, e4, e5⟩ := chWrite_on10 (d := Dk.blank 16) (o := 3) (ps := [9, 5]) (t := awT) rfl rfl awT_cut (by decide)
  rw [awT_length, show ((300 : Nat) : Int) = 300 from rfl, show (([9, 5] : List Int).getD 0 0) = 9 from rfl] at e1
  exact ⟨e1, by unfold awD; exact e2, by unfold awD; rw [e4]; rfl, by unfold awD; exact e5⟩
theorem aw_load : awD.load ≤ 4 := chWrite_load (Dk.blank 16) 3 [9, 5] awT
theorem aw_p : placesOk [9, 5] (awD.safe.length : Int) = true := by rw [aw_on.2.2.1]; decide
theorem aw_n : ∀ i, i < ([9, 5] : List Int).length → awD.now (([9, 5] : List Int).getD i 0).toNat = (cutAt 3 [9, 5] awT i).bytes := aw_on.2.2.2
theorem aw_q : chRead awD ⟨([9, 5] : List Int).getD 0 0, awT.length, 3⟩ = (awT, [9, 5], 0) := chRead_now aw_on.2.1 awT_cut aw_p aw_n
theorem aw_q3 : chRead awD ⟨9, 300, 3⟩ = (awT, [9, 5], 0) := by
  have h := aw_q
  have e : (awT.length : Int) = 300 := by rw [awT_length]; rfl
  rw [e] at h
  exact h
theorem aw_a : getC (awD.now (5 : Int).toNat) = (cutAt 3 [9, 5] awT 1, 0) := by
  have hk := (cutC_inv awT_cut).2.2.2.1 1 (by decide)
  unfold cutOk at hk
  rw [Bool.and_eq_true] at hk
  have h1 := aw_n 1 (by decide)
  rw [show (([9, 5] : List Int).getD 1 0).toNat = (5 : Int).toNat from rfl] at h1
  rw [h1]
  exact getC_put _ hk.1
theorem aw_b : readCells awD 3 1 0 5 = ([], [], 13) := by
  unfold readCells
  rw [if_neg (by rw [aw_on.2.1]; simp), if_neg (by rw [aw_on.2.2.1]; omega)]
  simp only
  rw [aw_a]
  simp only
  rw [if_pos (by right; right; unfold cutAt; simp)]
theorem chRead_bad {d : Dk} {p : Pt} {k : Nat} {e : Int} (hm : p.may d.safe.length = true) (hk : needC p.size.toNat = k) (hr : readCells d p.owner k 0 p.first = ([], [], e)) (he : e ≠ 0) : chRead d p = ([], [], e) := by
  unfold chRead
  rw [if_neg (by rw [hm]; simp), hk]
  simp only
  rw [hr, if_pos he]
theorem aw_r2 (r : Nat) : chRead { awD with reads := r } ⟨5, 58, 3⟩ = ([], [], 13) :=
  (chRead_reads awD r _).trans (chRead_bad (k := 1) (by rw [aw_on.2.2.1]; unfold Pt.may; simp) (by decide) aw_b (by decide))
theorem aw_r3 (r : Nat) : chRead { awD with reads := r } ⟨1, 1, 1⟩ = ([], [], 1) := by
  rw [chRead_reads]
  unfold chRead
  rw [aw_on.2.2.1, if_pos (by decide)]
theorem aw_w2 (d : Dk) : chWrite d 3 [9, 9] awT = (d, .zero, 1) := by
  unfold chWrite
  rw [if_neg (by decide +kernel), if_pos]
  refine placesOk_no (j := 1) (by decide) ?_
  unfold placeAt
  simp
theorem aw_w3 (d : Dk) : chWrite d 3 [9] awT = (d, .zero, 1) := by
  have h : (cutC 3 [9] awT).2 = 1 := by decide +kernel
  unfold chWrite
  rw [h, if_pos (by decide)]
end Go.Proofs.YtonnkibcnhjelaaGreatDoor
end
section
set_option linter.unusedVariables false
namespace Go.Proofs.YtonnkibcnhjelaaGreatDoor
open Go.RowKit
set_option maxRecDepth 100000 in
set_option maxHeartbeats 4000000 in
theorem rplaces_any (ps : List Int) (n : Int) (N : Nat) (A : Option Addr) (c : Nat) (w : World) (hN : N = ps.length) (hA : RI w w.heap.size A ps) (hs : N ≤ 1000000) :
    Calls Tryz.prog 29 #[.slice A N c, .int .i64 n] w fun e w' => e = .returned (.bool (placesOk ps n)) ∧ Below w.heap.size w w' := by
  have HNo : Hid (∀ j, j < N → placeAt ps n j = false → placesOk ps n = false) := fun j hj h => placesOk_no (by omega) h
  have HYes : Hid ((∀ j, j < N → placeAt ps n j = true) → placesOk ps n = true) := fun h => placesOk_iff.2 (fun j hj => h j (by omega))
  have HC : Hid (∀ W, Below w.heap.size w W → ∀ k, k < N → ∃ b off, A = some ⟨b, off, none⟩ ∧ W.cell? ⟨b, off + k, none⟩ = some (.int .i64 (ps.getD k 0))) := fun W hb k hk => by
    obtain ⟨b, off, e, hlt, hc⟩ := hA (by omega)
    refine ⟨b, off, e, ?_⟩
    rw [(hb.cell (p := ⟨b, off + k, none⟩) hlt).trans (hc k (by omega)), List.getD_eq_getElem?_getD, List.getElem?_eq_getElem (by omega)]; rfl
  clear hN hA
  go_enter Tryz.func29, Tryz.ntmps29
  go_wp2
  go_loopw [5, 6] (fun x _ wr => ∃ i : Nat, i ≤ N ∧ x = .int .i64 (i : Int) ∧ Hid (∀ j, j < i → placeAt ps n j = true) ∧ Hid (Below w.heap.size w wr)) (fun x _ _ => N - (intOf x).toNat)
  case atStart => exact ⟨0, by omega, rfl, fun j hj => by omega, Below.refl _ _⟩
  case round =>
    obtain ⟨i, hi, rfl, HI, hb⟩ := hrel
    by_cases hlt : i < N
    · have d0 : decide ((i : Int) < (N : Int)) = true := decide_eq_true (by omega)
      have d1 : decide (i < N) = true := decide_eq_true hlt
      obtain ⟨pb, po, rfl, hpi⟩ := HC.out _ hb.out i hlt
      obtain ⟨pi, hpv⟩ : ∃ z : Int, z = ps.getD i 0 := ⟨_, rfl⟩
      rw [← hpv] at hpi
      have y7 : IntKind.i64.wrap ((i : Int) + 1) = (i : Int) + 1 := IntWalk.i64_in _ (by omega)
      have Hpv := Lib.hid hpv
      clear hpv
      by_cases h1 : pi < 2
      · have e0 : decide (pi < 2) = true := decide_eq_true h1
        go_wp2
        go_ret
        rw [HNo.out i hlt (by rw [← Bool.not_eq_true, placeAt_iff, ← Hpv.out]; omega)]
        exact ⟨rfl, hb.out⟩
      · have e0 : decide (pi < 2) = false := decide_eq_false h1
        by_cases h2 : n ≤ pi
        · have e1 : decide (n ≤ pi) = true := decide_eq_true h2
          have e2 : decide (pi ≥ n) = true := decide_eq_true h2
          go_wp2
          go_ret
          rw [HNo.out i hlt (by rw [← Bool.not_eq_true, placeAt_iff, ← Hpv.out]; omega)]
          exact ⟨rfl, hb.out⟩
        · have e1 : decide (n ≤ pi) = false := decide_eq_false h2
          have e2 : decide (pi ≥ n) = false := decide_eq_false h2
          go_wp2
          obtain ⟨wo, rfl⟩ : ∃ wo : World, wo = wr := ⟨_, rfl⟩
          go_loopw [6] (fun x wr => ∃ k : Nat, k ≤ i ∧ x = .int .i64 (k : Int) ∧ Hid (∀ j, j < k → ps.getD j 0 ≠ pi) ∧ Hid (Below w.heap.size w wr)) (fun x _ => i - (intOf x).toNat)
          case atStart => exact ⟨0, by omega, rfl, fun j hj => by omega, hb⟩
          case round =>
            obtain ⟨k, hk, rfl, HJ, hbk⟩ := hrel
            by_cases hkt : k < i
            · have k0 : decide ((k : Int) < (i : Int)) = true := decide_eq_true (by omega)
              have k1 : decide (k < i) = true := decide_eq_true hkt
              obtain ⟨_, _, e9, hpk⟩ := HC.out _ hbk.out k (by omega)
              obtain ⟨_, _, e8, hpi2⟩ := HC.out _ hbk.out i hlt
              simp only [Option.some.injEq, Addr.mk.injEq, and_true] at e9 e8
              obtain ⟨rfl, rfl⟩ := e9
              obtain ⟨rfl, rfl⟩ := e8
              rw [← Hpv.out] at hpi2
              obtain ⟨pk, hpkv⟩ : ∃ z : Int, z = ps.getD k 0 := ⟨_, rfl⟩
              rw [← hpkv] at hpk
              have Hpk := Lib.hid hpkv
              clear hpkv
              have y8 : IntKind.i64.wrap ((k : Int) + 1) = (k : Int) + 1 := IntWalk.i64_in _ (by omega)
              by_cases heq : pk = pi
              · have q0 : (pk == pi) = true := by simpa using heq
                have q1 : decide (pk = pi) = true := decide_eq_true heq
                have HNo2 : Hid (placesOk ps n = false) := HNo.out i hlt (by
                  rw [← Bool.not_eq_true, placeAt_iff]
                  rintro ⟨_, _, h3⟩
                  exact h3 k hkt (by rw [← Hpk.out, ← Hpv.out]; exact heq))
                clear heq
                go_wp2
                go_region
                go_wp2
                go_ret
                rw [HNo2.out]
                exact ⟨rfl, hbk.out.drew⟩
              · have q0 : (pk == pi) = false := by simpa using heq
                have q1 : decide (pk = pi) = false := decide_eq_false heq
                have HJ2 : Hid (∀ j, j < k + 1 → ps.getD j 0 ≠ pi) := fun j hj => by
                  by_cases hjk : j < k
                  · exact HJ.out j hjk
                  · obtain rfl : j = k := by omega
                    rw [← Hpk.out]; exact heq
                clear heq
                go_wp2
                go_region
                go_wp2
                go_roundw
                case rel => exact ⟨k + 1, by omega, by go_num, HJ2, hbk.out.drew⟩
                case measure => simp [intOf]; omega
            · have k0 : decide ((k : Int) < (i : Int)) = false := decide_eq_false (by omega)
              have k1 : decide (k < i) = false := decide_eq_false hkt
              obtain rfl : k = i := by omega
              have HI2 : Hid (∀ j, j < k + 1 → placeAt ps n j = true) := fun j hj => by
                by_cases hjk : j < k
                · exact HI.out j hjk
                · obtain rfl : j = k := by omega
                  rw [placeAt_iff, ← Hpv.out]
                  exact ⟨by omega, by omega, HJ.out⟩
              go_wp2
              go_roundw
              case rel => exact ⟨k + 1, by omega, by go_num, HI2, hbk⟩
              case measure => simp [intOf]; omega
    · have d0 : decide ((i : Int) < (N : Int)) = false := decide_eq_false (by omega)
      have d1 : decide (i < N) = false := decide_eq_false hlt
      obtain rfl : i = N := by omega
      go_wp2
      go_ret
      rw [HYes.out HI.out]
      exact ⟨rfl, hb.out⟩
end Go.Proofs.YtonnkibcnhjelaaGreatDoor
end
