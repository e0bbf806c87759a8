/- Lemmas under the proofs of this place: CellRCut. No statement is proved here. -/
import Derived.Test.YtonnkibcnhjelaaGreatDoorBu17
import Derived.Test.YtonnkibcnhjelaaGreatDoorBu02
import Derived.Test.YtonnkibcnhjelaaGreatDoorBu04
import Derived.Deep.CutRange
set_option linter.unusedVariables false
namespace Go.Proofs.YtonnkibcnhjelaaGreatDoor
open Go.RowKit
theorem Tryz.cellInfo : (Tryz.prog.info? 64).map (fun i => (i.zero, i.size, i.bytes)) = some (some (.agg #[.int .i64 0, .int .i64 0, .int .i64 0, .slice none 0 0]), 4, 48) := by kernel_rfl
theorem four_new (W : World) (v0 v1 v2 v3 : Value) (t : TypeId) : Reads (W.alloc (.cells #[v0, v1, v2, v3] t)) (W.heap.size + 1) 4 (some ⟨W.heap.size, 0, none⟩) 1 [v0, v1, v2, v3] := by
  refine ⟨by simp, fun h0 => ⟨_, rfl, by simp, fun j u hu => ?_⟩⟩
  have h := heap_alloc_new W (.cells #[v0, v1, v2, v3] t)
  have e : (⟨W.heap.size, 0, none⟩ : Addr).add j = ⟨W.heap.size, j, none⟩ := by unfold Addr.add; split <;> simp_all
  rw [e, (blk_cell h j).1]
  simpa using hu
theorem ceC_one (o n x : Int) (A : Option Addr) (m c : Nat) : ∀ u ∈ [Value.int .i64 o, .int .i64 n, .int .i64 x, .slice A m c], u.oneCell' = true := fun u hu => by
  simp only [List.mem_cons, List.not_mem_nil, or_false] at hu
  rcases hu with rfl | rfl | rfl | rfl <;> rfl
theorem cut_long {o : Int} {ps : List Int} {t : List UInt8} (h : 262144 < t.length) : cutC o ps t = ([], 3) := by unfold cutC; rw [if_pos h]
theorem cut_few {o : Int} {ps : List Int} {t : List UInt8} (h : ¬ 262144 < t.length) (h2 : ps.length ≠ needC t.length ∨ ps.length = 0) : cutC o ps t = ([], 1) := by unfold cutC; rw [if_neg h, if_pos h2]
theorem cut_bad {o : Int} {ps : List Int} {t : List UInt8} (h : ¬ 262144 < t.length) (h2 : ps.length = needC t.length) (h3 : 0 < ps.length) {i : Nat} (hi : i < ps.length) (hk : cutOk o ps t i = false) : cutC o ps t = ([], 1) := by
  unfold cutC
  rw [if_neg h, if_neg (by omega), if_neg]
  intro hh
  have := List.all_eq_true.1 hh i (List.mem_range.2 hi)
  rw [hk] at this
  cases this
theorem cut_ok {o : Int} {ps : List Int} {t : List UInt8} (h : ¬ 262144 < t.length) (h2 : ps.length = needC t.length) (h3 : 0 < ps.length) (hk : ∀ i, i < ps.length → cutOk o ps t i = true) : cutC o ps t = ((List.range ps.length).map (cutAt o ps t), 0) := by
  unfold cutC
  rw [if_neg h, if_neg (by omega), if_pos]
  exact List.all_eq_true.2 fun i hi => hk i (List.mem_range.1 hi)
def CutTo (W : World) (tb : Nat) (o : Int) (ps : List Int) (t : List UInt8) (i : Nat) (rows : List (Ce × Option Addr × Nat)) : Prop :=
  rows.length = i ∧ rows.map (·.1) = (List.range i).map (cutAt o ps t) ∧ (∀ j, j < i → cutOk o ps t j = true) ∧ ∀ x ∈ rows, RB W W.heap.size x.2.1 x.1.data ∧ (∀ ad, x.2.1 = some ad → ad.block = tb) ∧ x.1.data.length ≤ x.2.2 ∧ x.2.2 ≤ 9223372036854775807
theorem CutTo.snoc {W : World} {tb : Nat} {o : Int} {ps : List Int} {t : List UInt8} {i : Nat} {rows : List (Ce × Option Addr × Nat)} (h : CutTo W tb o ps t i rows) (hm : cutOk o ps t i = true) {A : Option Addr} {c : Nat} (hr : RB W W.heap.size A (cutAt o ps t i).data) (ha : ∀ ad, A = some ad → ad.block = tb) (hd : (cutAt o ps t i).data.length ≤ c ∧ c ≤ 9223372036854775807) : CutTo W tb o ps t (i + 1) (rows ++ [(cutAt o ps t i, A, c)]) := by
  refine ⟨by simp [h.1], by rw [List.map_append, h.2.1, List.range_succ, List.map_append]; rfl, fun j hj => ?_, fun x hx => ?_⟩
  · by_cases h1 : j < i
    · exact h.2.2.1 j h1
    · have : j = i := by omega
      rw [this]; exact hm
  · rcases List.mem_append.1 hx with h1 | h1
    · exact h.2.2.2 x h1
    · rw [List.mem_singleton] at h1
      subst h1
      exact ⟨hr, ha, hd⟩
set_option maxRecDepth 100000 in
set_option maxHeartbeats 4000000 in
theorem rccut_long (o : Int) (ps : List Int) (t : List UInt8) (np n : Nat) (A B : Option Addr) (cA cB : Nat) (w : World) (hn : n = t.length) (h : 262144 < n) :
    Calls Tryz.prog 28 #[.int .i64 o, .slice A np cA, .slice B n cB] w (GivesCLIn (cutC o ps t) B w) := by
  have HV : Hid (cutC o ps t = ([], 3)) := cut_long (by omega)
  have d0 : decide ((262144 : Int) < (n : Int)) = true := decide_eq_true (by omega)
  have d1 : decide ((n : Int) > 262144) = true := decide_eq_true (by omega)
  have d2 : decide (262144 < n) = true := decide_eq_true h
  clear hn h
  go_enter Tryz.func28, Tryz.ntmps28
  go_wp2
  go_ret2
  exact GivesCLIn.none_ HV.out (Below.refl _ _)
set_option maxRecDepth 100000 in
set_option maxHeartbeats 4000000 in
theorem rccut_few (o : Int) (ps : List Int) (t : List UInt8) (np n : Nat) (A B : Option Addr) (cA cB : Nat) (w : World) (hp : np = ps.length) (hn : n = t.length) (h : ¬ 262144 < n) (h2 : np ≠ needC n ∨ np = 0) :
    Calls Tryz.prog 28 #[.int .i64 o, .slice A np cA, .slice B n cB] w (GivesCLIn (cutC o ps t) B w) := by
  have HV : Hid (cutC o ps t = ([], 1)) := cut_few (by omega) (by rw [← hp, ← hn]; exact h2)
  have d0 : decide ((262144 : Int) < (n : Int)) = false := decide_eq_false (by omega)
  have d1 : decide ((n : Int) > 262144) = false := decide_eq_false (by omega)
  have d2 : decide (262144 < n) = false := decide_eq_false h
  obtain ⟨N, hN⟩ : ∃ N, N = needC n := ⟨_, rfl⟩
  rw [← hN] at h2
  have HN : Hid (∀ W, Calls Tryz.prog 68 #[.int .i64 (n : Int)] W fun e w' => e = .returned (.int .i64 (N : Int)) ∧ W = w') := fun W => by rw [hN]; exact rcneed_any n (by omega) W
  clear hn h hp hN
  by_cases h3 : np = N
  · subst h3
    have h4 : np = 0 := by omega
    subst h4
    have e0 : (((0 : Nat) : Int) != ((0 : Nat) : Int)) = false := by simp
    go_enter Tryz.func28, Tryz.ntmps28
    go_wp2_with (go_at_call 68; (with_reducible refine (HN.out _).mono ?_); rintro e w1 ⟨rfl, rfl⟩)
    go_ret2
    exact GivesCLIn.none_ HV.out (Below.refl _ _)
  · have e0 : ((np : Int) != (N : Int)) = true := by simp; omega
    have e1 : ((np : Int) == (N : Int)) = false := by simp; omega
    have e2 : (np == N) = false := by simp; omega
    clear h2 h3
    go_enter Tryz.func28, Tryz.ntmps28
    go_wp2_with (go_at_call 68; (with_reducible refine (HN.out _).mono ?_); rintro e w1 ⟨rfl, rfl⟩)
    go_ret2
    exact GivesCLIn.none_ HV.out (Below.refl _ _)
set_option maxRecDepth 100000 in
set_option maxHeartbeats 8000000 in
theorem rccut_in (o : Int) (ps : List Int) (t : List UInt8) (N n : Nat) (A B : Option Addr) (cA cB : Nat) (w : World) (hp : N = ps.length) (hn : n = t.length) (h : ¬ 262144 < n) (h2 : N = needC n) (h3 : 0 < N)
    (hA : RI w w.heap.size A ps) (hr : RB w w.heap.size B t) (hc : n ≤ cB) (hcm : cB ≤ 9223372036854775807) :
    Calls Tryz.prog 28 #[.int .i64 o, .slice A N cA, .slice B n cB] w (GivesCLIn (cutC o ps t) B w) := by
  have hN2 : N = (n + 241) / 242 := h2
  have HN : Hid (∀ W, Calls Tryz.prog 68 #[.int .i64 (n : Int)] W fun e w' => e = .returned (.int .i64 (N : Int)) ∧ W = w') := fun W => by rw [h2]; exact rcneed_any n (by omega) W
  have HNn : Hid (N = ps.length ∧ n = t.length ∧ N = (n + 241) / 242 ∧ ps.length = needC t.length ∧ ¬ 262144 < t.length ∧ n ≤ cB ∧ cB ≤ 9223372036854775807) := ⟨hp, hn, hN2, by rw [← hp, ← hn, h2], by omega, hc, hcm⟩
  obtain ⟨i0, hi0, hz0, hz1, hz2⟩ := info_parts Tryz.cellInfo
  obtain ⟨b0, b1, rfl, _, _⟩ := hr.at_ (by omega)
  obtain ⟨pb, po, rfl, hpl, hpc⟩ := hA (by omega)
  have d0 : decide ((262144 : Int) < (n : Int)) = false := decide_eq_false (by omega)
  have d1 : decide ((n : Int) > 262144) = false := decide_eq_false (by omega)
  have d2 : decide (262144 < n) = false := decide_eq_false h
  have d3 : ((N : Int) == 0) = false := by simp; omega
  have d4 : ((N : Int) != (N : Int)) = false := by simp
  have HRt := Lib.hid hr
  have HPc : Hid (∀ W, Below w.heap.size w W → ∀ k, k < N → W.cell? ⟨pb, po + k, none⟩ = some (.int .i64 (ps.getD k 0))) := fun W hb k hk => by
    rw [(hb.cell (p := ⟨pb, po + k, none⟩) hpl).trans (hpc k (by omega)), List.getD_eq_getElem?_getD, List.getElem?_eq_getElem (by omega)]; rfl
  have a24 := fun w' => Tryz.aggCell w'
  have s24 := fun w' => Tryz.sizeCell w'
  have hN3 : N ≤ 1100 := by omega
  clear hp hn h h2 hA hr hc hcm hN2 hpc hpl
  go_enter Tryz.func28, Tryz.ntmps28
  go_wp2_with (go_at_call 68; (with_reducible refine (HN.out _).mono ?_); rintro e w1 ⟨rfl, rfl⟩)
  go_loopw [8, 9, 10, 11, 12] (fun v x _ _ _ wr => ∃ i : Nat, i ≤ N ∧ x = .int .i64 (i : Int) ∧ ∃ rows, Hid (CutTo w b0 o ps t i rows) ∧ Hid (wr.ownsRow w.heap.size 64 4 v i (rowE rows)) ∧ Hid (Below w.heap.size w wr)) (fun _ x _ _ _ _ => N - (intOf x).toNat)
  case atStart => exact ⟨0, by omega, rfl, [], ⟨rfl, rfl, fun j hj => by omega, fun x hx => by cases hx⟩, World.ownsRow_nil _ _ _ _, Below.refl _ _⟩
  case round =>
    obtain ⟨i, hi, rfl, rows, HCt, HO, hbw⟩ := hrel
    by_cases hlt : i < N
    · have dl : decide ((i : Int) < (N : Int)) = true := decide_eq_true (by omega)
      have dl2 : decide (i < N) = true := decide_eq_true hlt
      obtain ⟨q0, hq0⟩ : ∃ q, q = 242 * i := ⟨_, rfl⟩
      obtain ⟨q2, hq2⟩ : ∃ q, q = 242 * (i + 1) := ⟨_, rfl⟩
      obtain ⟨qe, hqe⟩ : ∃ q, q = min q2 n := ⟨_, rfl⟩
      obtain ⟨px, hpx⟩ : ∃ z : Int, z = ps.getD (i + 1) 0 := ⟨_, rfl⟩
      obtain ⟨pi, hpi⟩ : ∃ z : Int, z = ps.getD i 0 := ⟨_, rfl⟩
      have hq0n : q0 < n := by have := HNn.out.2.2.1; omega
      have y0 : (242 : Int) * (i : Int) = (q0 : Int) := by omega
      have y1 : (242 : Int) * ((i : Int) + 1) = (q2 : Int) := by omega
      have y2 : IntKind.i64.wrap (q0 : Int) = (q0 : Int) := IntWalk.i64_in _ (by omega)
      have y3 : IntKind.i64.wrap (q2 : Int) = (q2 : Int) := IntWalk.i64_in _ (by omega)
      have y7 : IntKind.i64.wrap ((i : Int) + 1) = (i : Int) + 1 := IntWalk.i64_in _ (by omega)
      have c0 : wr.cell? ⟨pb, po + i, none⟩ = some (.int .i64 pi) := by rw [hpi]; exact HPc.out _ hbw.out i hlt
      have HQ : Hid (q0 = 242 * i ∧ q2 = 242 * (i + 1) ∧ qe = min q2 n ∧ px = ps.getD (i + 1) 0 ∧ pi = ps.getD i 0) := ⟨hq0, hq2, hqe, hpx, hpi⟩
      clear hq0 hq2 hqe hpx hpi
      go_upto_if 39 with (fail)
      go_cut [10] from 27 to 81 (fun s10 wx => s10 = .int .i64 (qe : Int) ∧ wx = wr)
      case first =>
        by_cases hE : n < q2
        · have e0 : decide ((n : Int) < (q2 : Int)) = true := decide_eq_true (by omega)
          have e1 : decide ((q2 : Int) > (n : Int)) = true := decide_eq_true (by omega)
          have e2 : decide (n < q2) = true := decide_eq_true (by omega)
          obtain rfl : qe = n := by have := HQ.out.2.2.1; omega
          go_wp2
          go_meet
          exact ⟨rfl, rfl⟩
        · have e0 : decide ((n : Int) < (q2 : Int)) = false := decide_eq_false (by omega)
          have e1 : decide ((q2 : Int) > (n : Int)) = false := decide_eq_false (by omega)
          have e2 : decide (n < q2) = false := decide_eq_false (by omega)
          obtain rfl : qe = q2 := by have := HQ.out.2.2.1; omega
          go_wp2
          go_meet
          exact ⟨rfl, rfl⟩
      case rest =>
        obtain ⟨rfl, hw⟩ := hcut
        subst hw
        go_upto_if 46 with (fail)
        go_cut [11] from 27 to 81 (fun s11 wx => s11 = .int .i64 px ∧ wx = wc)
        case first =>
          by_cases hX : i + 1 < N
          · have e0 : decide ((i : Int) + 1 < (N : Int)) = true := decide_eq_true (by omega)
            have e2 : decide (i + 1 < N) = true := decide_eq_true hX
            have c1 : wc.cell? ⟨pb, po + (i + 1), none⟩ = some (.int .i64 px) := by rw [HQ.out.2.2.2.1]; exact HPc.out _ hbw.out (i + 1) hX
            go_wp2
            go_meet
            exact ⟨rfl, rfl⟩
          · have e0 : decide ((i : Int) + 1 < (N : Int)) = false := decide_eq_false (by omega)
            have e2 : decide (i + 1 < N) = false := decide_eq_false hX
            obtain rfl : px = 0 := by
              rw [HQ.out.2.2.2.1, List.getD_eq_getElem?_getD, List.getElem?_eq_none (by have := HNn.out.1; omega)]; rfl
            go_wp2
            go_meet
            exact ⟨rfl, rfl⟩
        case rest =>
          obtain ⟨rfl, hw⟩ := hcut
          subst hw
          obtain ⟨ql, hql⟩ : ∃ q, q = qe - q0 := ⟨_, rfl⟩
          have Hql := Lib.hid hql
          have hqle : q0 ≤ qe ∧ qe ≤ n := by have := HQ.out.2.1; have := HQ.out.1; have := HQ.out.2.2.1; omega
          have ks := fun W => sl_both b0 b1 n cB q0 qe (q0 : Int) (qe : Int) rfl rfl hqle.1 (by have := HNn.out.2.2.2.2.2.1; omega) (by have := HNn.out.2.2.2.2.2.1; omega) W
          rw [← hql] at ks
          have n4 := fun A m c w' => Tryz.cellBuild4 o (i : Int) px A m c w'
          have HDt : Hid ((t.drop (242 * i)).take 242 = (t.drop q0).take ql ∧ ((t.drop q0).take ql).length = ql) := by
            obtain ⟨g1, g2, g3, _, _⟩ := HQ.out
            obtain ⟨_, f2, _⟩ := HNn.out
            refine ⟨?_, by rw [List.length_take, List.length_drop]; omega⟩
            rw [← g1]
            by_cases h242 : n < q2
            · rw [List.take_of_length_le (by rw [List.length_drop]; omega), List.take_of_length_le (by rw [List.length_drop]; omega)]
            · rw [show ql = 242 by omega]
          have HAt : Hid (cutAt o ps t i = ⟨o, (i : Int), px, (t.drop q0).take ql⟩) := by
            show _ = _
            unfold cutAt
            rw [HDt.out.1, HQ.out.2.2.2.1]
          have HRB : Hid (RB w w.heap.size (some ⟨b0, b1 + q0, none⟩) ((t.drop q0).take ql)) := by
            have htn := HNn.out.2.1
            have h2 := rb_cut1 HRt.out (k := q0) (c := t.length + 1) (by omega) (by omega) (by omega)
            simp only [Option.map_some, add_at] at h2
            exact rb_take h2 ql (by rw [List.length_drop]; have := HNn.out.2.1; have := HQ.out; omega)
          obtain ⟨bm, hbm⟩ : ∃ x, x = (cutAt o ps t i).may := ⟨_, rfl⟩
          have HMay : Hid (∀ W, Calls Tryz.prog 69 #[.agg #[.int .i64 o, .int .i64 (i : Int), .int .i64 px, .slice (some ⟨b0, b1 + q0, none⟩) ql (cB - q0)]] W fun e w' => e = .returned (.bool bm) ∧ Below W.heap.size W w') := fun W => by
            have h1 := rcmay_any (cutAt o ps t i) (some ⟨b0, b1 + q0, none⟩) (cB - q0) W
            rw [← hbm, HAt.out] at h1
            unfold ceV at h1
            simp only [HDt.out.2] at h1
            exact h1
          have HBm : Hid (cutOk o ps t i = (bm && placeOk pi)) := by show _ = _; unfold cutOk; rw [hbm, HQ.out.2.2.2.2]
          have hbN := hbw.out.alloc hbw.out.size (.cells #[.int .i64 o, .int .i64 (i : Int), .int .i64 px, .slice (some ⟨b0, b1 + q0, none⟩) ql (cB - q0)] 64)
          have HT := Lib.hid (fun W hb => cell_at wc W o (i : Int) px (some ⟨b0, b1 + q0, none⟩) ql (cB - q0) hb)
          have HOw : Hid (∀ W, Below wc.heap.size wc W → W.ownsRow w.heap.size 64 4 u8 i (rowE rows)) := fun W hb => own_turns HO.out (Turns.of_below hb (fun _ => False)) (fun _ _ h => h)
          have hbr : Below wc.heap.size wc (wc.alloc (.cells #[.int .i64 o, .int .i64 (i : Int), .int .i64 px, .slice (some ⟨b0, b1 + q0, none⟩) ql (cB - q0)] 64)) := (Below.refl _ _).alloc (Nat.le_refl _) _
          clear hql hbm hqle
          have HBad : Hid (cutOk o ps t i = false → cutC o ps t = ([], 1)) := fun hk => by
            obtain ⟨f1, f2, f3, f4, f5, _⟩ := HNn.out
            exact cut_bad f5 f4 (by omega) (by omega) hk
          rcases bm with _ | _
          · go_wp2_with ((go_at_call 69; (with_reducible refine (HMay.out _).mono ?_); rintro e w6 ⟨rfl, hb6⟩; have b6 := chain7 (by first | exact hbN | exact hbN.drew) hb6; have c6 : w6.cell? ⟨pb, po + i, none⟩ = some (.int .i64 pi) := (by rw [HQ.out.2.2.2.2]; exact HPc.out _ b6 i hlt)))
            have HV := HBad.out (by rw [HBm.out]; rfl)
            go_ret2
            exact GivesCLIn.none_ HV b6
          · by_cases hp1 : pi < 1
            · have e0 : decide (pi < 1) = true := decide_eq_true hp1
              go_wp2_with ((go_at_call 69; (with_reducible refine (HMay.out _).mono ?_); rintro e w6 ⟨rfl, hb6⟩; have b6 := chain7 (by first | exact hbN | exact hbN.drew) hb6; have c6 : w6.cell? ⟨pb, po + i, none⟩ = some (.int .i64 pi) := (by rw [HQ.out.2.2.2.2]; exact HPc.out _ b6 i hlt)))
              have HV := HBad.out (by rw [HBm.out]; unfold placeOk; rw [decide_eq_false (show ¬ 1 ≤ pi by omega)]; rfl)
              go_ret2
              exact GivesCLIn.none_ HV b6
            · have e0 : decide (pi < 1) = false := decide_eq_false hp1
              by_cases hp2 : 65535 < pi
              · have e1 : decide ((65535 : Int) < pi) = true := decide_eq_true hp2
                have e2 : decide (pi > 65535) = true := decide_eq_true hp2
                go_wp2_with ((go_at_call 69; (with_reducible refine (HMay.out _).mono ?_); rintro e w6 ⟨rfl, hb6⟩; have b6 := chain7 (by first | exact hbN | exact hbN.drew) hb6; have c6 : w6.cell? ⟨pb, po + i, none⟩ = some (.int .i64 pi) := (by rw [HQ.out.2.2.2.2]; exact HPc.out _ b6 i hlt)))
                have HV := HBad.out (by rw [HBm.out]; unfold placeOk; rw [decide_eq_false (show ¬ pi ≤ 65535 by omega), Bool.and_false]; rfl)
                go_ret2
                exact GivesCLIn.none_ HV b6
              · have e1 : decide ((65535 : Int) < pi) = false := decide_eq_false hp2
                have e2 : decide (pi > 65535) = false := decide_eq_false hp2
                have hok : cutOk o ps t i = true := by rw [HBm.out]; unfold placeOk; rw [decide_eq_true (show 1 ≤ pi by omega), decide_eq_true (show pi ≤ 65535 by omega)]; rfl
                have Hok := Lib.hid hok
                clear hok
                go_wp2_with (first
                  | (go_at_call 69; (with_reducible refine (HMay.out _).mono ?_); rintro e w6 ⟨rfl, hb6⟩; have b6 := chain7 (by first | exact hbN | exact hbN.drew) hb6; have c6 : w6.cell? ⟨pb, po + i, none⟩ = some (.int .i64 pi) := (by rw [HQ.out.2.2.2.2]; exact HPc.out _ b6 i hlt); obtain ⟨t0, t1, t2, t3⟩ := HT.out _ (chain7 (by first | exact Below.refl _ _ | exact (Below.refl _ _).drew) hb6); have ho6 := HOw.out _ (chain7 (by first | exact hbr | exact hbr.drew) hb6); have hn6 := four_new w6 (.int .i64 o) (.int .i64 (i : Int)) (.int .i64 px) (.slice (some ⟨b0, b1 + q0, none⟩) ql (cB - q0)) 64)
                  | (at_builtin; refine wpList_append_any _ rfl (.tmp 78) (.tmp 80) _ rfl w.heap.size 64 i0 _ 4 48 Tryz.underlying58 hi0 hz0 hz1 hz2 rfl (by omega) u8 i (rowE rows) rfl (ho6.alloc _) (w6.heap.size + 1) (some ⟨w6.heap.size, 0, none⟩) 1 1 [.int .i64 o, .int .i64 (i : Int), .int .i64 px, .slice (some ⟨b0, b1 + q0, none⟩) ql (cB - q0)] rfl hn6 (ceC_one _ _ _ _ _ _) (by simp only [maxLen]; omega) (by omega) (by have := b6.size; simp; omega) ?_; intro v9 w9 ho9 hg9 hat9))
                have hb9 : Below w.heap.size w w9 := (b6.alloc b6.size _).grown hg9 (by have := b6.size; simp; omega) (fun j hj => (ho6.lt j hj).1)
                have hsn : rowE rows ++ [.int .i64 o, .int .i64 (i : Int), .int .i64 px, .slice (some ⟨b0, b1 + q0, none⟩) ql (cB - q0)] = rowE (rows ++ [(cutAt o ps t i, some ⟨b0, b1 + q0, none⟩, cB - q0)]) := by
                  rw [rowE_snoc, HAt.out]
                  unfold ceC
                  simp only [HDt.out.2]
                rw [hsn] at ho9
                have hct := HCt.out.snoc Hok.out (A := some ⟨b0, b1 + q0, none⟩) (c := cB - q0) (by rw [HAt.out]; exact HRB.out) (fun ad e => by injection e with e; rw [← e]) (by rw [HAt.out]; show ((t.drop q0).take ql).length ≤ cB - q0 ∧ _; rw [HDt.out.2]; have := HNn.out.2.2.2.2.2; have := HQ.out.2.2.1; have := Hql.out; omega)
                clear ho6 hg9 hat9 hn6 t0 t1 t2 t3 hb6
                go_roundw
                case rel => exact ⟨i + 1, by omega, by go_num, _, hct, ho9, hb9⟩
                case measure => simp [intOf]; omega
    · have dl : decide ((i : Int) < (N : Int)) = false := decide_eq_false (by omega)
      have dl2 : decide (i < N) = false := decide_eq_false hlt
      obtain rfl : i = N := by omega
      obtain ⟨f1, f2, f3, f4, f5, _⟩ := HNn.out
      have HV : Hid (cutC o ps t = ((List.range ps.length).map (cutAt o ps t), 0)) := cut_ok f5 f4 (by omega) (fun j hj => HCt.out.2.2.1 j (by omega))
      have Hf1 := Lib.hid f1
      clear f1 f2 f3 f4 f5
      go_wp2
      obtain ⟨Ao, co, hvo⟩ := own_slice7 HO.out
      go_ret2
      have e2 := HCt.out.2.1
      rw [Hf1.out] at e2
      refine ⟨Ao, co, ?_, ?_, hbw.out⟩
      · rw [HV.out]
        rw [hvo]
        simp [← Hf1.out]
      · rw [HV.out]
        show CLIn _ _ Ao ((List.range ps.length).map (cutAt o ps t))
        rw [← e2]
        have ho := HO.out
        rw [hvo] at ho
        exact CLIn.of_own ho HCt.out.1.symm (fun x hx => (((HCt.out.2.2.2 x hx).1).below hbw.out).more hbw.out.size) (fun x hx ad e => .inl ⟨_, rfl, (HCt.out.2.2.2 x hx).2.1 ad e⟩) (fun x hx => (HCt.out.2.2.2 x hx).2.2) (fun k hk => .inr hk)
theorem rccut_lies (o : Int) (ps : List Int) (t : List UInt8) (A B : Option Addr) (cA cB : Nat) (w : World) (hs : t.length ≤ 1000000) (hA : RI w w.heap.size A ps) (hr : RB w w.heap.size B t) (hc : t.length ≤ cB) (hcm : cB ≤ 9223372036854775807) :
    Calls Tryz.prog 28 #[.int .i64 o, .slice A ps.length cA, .slice B t.length cB] w (GivesCLIn (cutC o ps t) B w) := by
  by_cases h : 262144 < t.length
  · exact rccut_long o ps t _ _ A B cA cB w rfl h
  · by_cases h2 : ps.length ≠ needC t.length ∨ ps.length = 0
    · exact rccut_few o ps t _ _ A B cA cB w rfl rfl h h2
    · exact rccut_in o ps t _ _ A B cA cB w rfl rfl h (by omega) (by omega) hA hr hc hcm
end Go.Proofs.YtonnkibcnhjelaaGreatDoor
