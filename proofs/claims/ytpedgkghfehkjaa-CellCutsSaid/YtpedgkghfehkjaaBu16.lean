/- Lemmas under the proofs of this place: CellRCut, CellRPut, CrcROpen. No statement is proved here. -/
import Derived.Test.YtpedgkghfehkjaaBu14
import Derived.Test.YtpedgkghfehkjaaBu02
import Derived.Test.YtpedgkghfehkjaaBu03
import Derived.Test.YtpedgkghfehkjaaBu11
import Derived.Test.YtpedgkghfehkjaaBu12
import Derived.Test.YtpedgkghfehkjaaBu15
import Derived.Deep.CutRange
import Derived.Lib.SmallJoins
import Derived.Deep.RegionHeldLaw
section
set_option linter.unusedVariables false
namespace Go.Proofs.Ytpedgkghfehkjaa
open Go.RowKit
theorem Try.cellInfo : (Try.prog.info? 24).map (fun i => (i.zero, i.size, i.bytes)) = some (some (.agg #[.int .i64 0, .int .i64 0, .int .i64 0, .slice none 0 0]), 4, 48) := by kernel_rfl
theorem four_new (W : World) (v0 v1 v2 v3 : Value) (t : TypeId) : Reads (W.alloc (.cells #[v0, v1, v2, v3] t)) (W.heap.size + 1) 4 (some ⟨W.heap.size, 0, none⟩) 1 [v0, v1, v2, v3] := by
  refine ⟨by simp, fun h0 => ⟨_, rfl, by simp, fun j u hu => ?_⟩⟩
  have h := heap_alloc_new W (.cells #[v0, v1, v2, v3] t)
  have e : (⟨W.heap.size, 0, none⟩ : Addr).add j = ⟨W.heap.size, j, none⟩ := by unfold Addr.add; split <;> simp_all
  rw [e, (blk_cell h j).1]
  simpa using hu
theorem ceC_one (o n x : Int) (A : Option Addr) (m c : Nat) : ∀ u ∈ [Value.int .i64 o, .int .i64 n, .int .i64 x, .slice A m c], u.oneCell' = true := fun u hu => by
  simp only [List.mem_cons, List.not_mem_nil, or_false] at hu
  rcases hu with rfl | rfl | rfl | rfl <;> rfl
theorem cut_long {o : Int} {ps : List Int} {t : List UInt8} (h : 262144 < t.length) : cutC o ps t = ([], 3) := by unfold cutC; rw [if_pos h]
theorem cut_few {o : Int} {ps : List Int} {t : List UInt8} (h : ¬ 262144 < t.length) (h2 : ps.length ≠ needC t.length ∨ ps.length = 0) : cutC o ps t = ([], 1) := by unfold cutC; rw [if_neg h, if_pos h2]
theorem cut_bad {o : Int} {ps : List Int} {t : List UInt8} (h : ¬ 262144 < t.length) (h2 : ps.length = needC t.length) (h3 : 0 < ps.length) {i : Nat} (hi : i < ps.length) (hk : cutOk o ps t i = false) : cutC o ps t = ([], 1) := by
  unfold cutC
  rw [if_neg h, if_neg (by omega), if_neg]
  intro hh
  have := List.all_eq_true.1 hh i (List.mem_range.2 hi)
  rw [hk] at this
  cases this
theorem cut_ok {o : Int} {ps : List Int} {t : List UInt8} (h : ¬ 262144 < t.length) (h2 : ps.length = needC t.length) (h3 : 0 < ps.length) (hk : ∀ i, i < ps.length → cutOk o ps t i = true) : cutC o ps t = ((List.range ps.length).map (cutAt o ps t), 0) := by
  unfold cutC
  rw [if_neg h, if_neg (by omega), if_pos]
  exact List.all_eq_true.2 fun i hi => hk i (List.mem_range.1 hi)
def CutTo (W : World) (tb : Nat) (o : Int) (ps : List Int) (t : List UInt8) (i : Nat) (rows : List (Ce × Option Addr × Nat)) : Prop :=
  rows.length = i ∧ rows.map (·.1) = (List.range i).map (cutAt o ps t) ∧ (∀ j, j < i → cutOk o ps t j = true) ∧ ∀ x ∈ rows, RB W W.heap.size x.2.1 x.1.data ∧ (∀ ad, x.2.1 = some ad → ad.block = tb) ∧ x.1.data.length ≤ x.2.2 ∧ x.2.2 ≤ 9223372036854775807
theorem CutTo.snoc {W : World} {tb : Nat} {o : Int} {ps : List Int} {t : List UInt8} {i : Nat} {rows : List (Ce × Option Addr × Nat)} (h : CutTo W tb o ps t i rows) (hm : cutOk o ps t i = true) {A : Option Addr} {c : Nat} (hr : RB W W.heap.size A (cutAt o ps t i).data) (ha : ∀ ad, A = some ad → ad.block = tb) (hd : (cutAt o ps t i).data.length ≤ c ∧ c ≤ 9223372036854775807) : CutTo W tb o ps t (i + 1) (rows ++ [(cutAt o ps t i, A, c)]) := by
  refine ⟨by simp [h.1], by rw [List.map_append, h.2.1, List.range_succ, List.map_append]; rfl, fun j hj => ?_, fun x hx => ?_⟩
  · by_cases h1 : j < i
    · exact h.2.2.1 j h1
    · have : j = i := by omega
      rw [this]; exact hm
  · rcases List.mem_append.1 hx with h1 | h1
    · exact h.2.2.2 x h1
    · rw [List.mem_singleton] at h1
      subst h1
      exact ⟨hr, ha, hd⟩
set_option maxRecDepth 100000 in
set_option maxHeartbeats 4000000 in
theorem rccut_long (o : Int) (ps : List Int) (t : List UInt8) (np n : Nat) (A B : Option Addr) (cA cB : Nat) (w : World) (hn : n = t.length) (h : 262144 < n) :
    Calls Try.prog 13 #[.int .i64 o, .slice A np cA, .slice B n cB] w (GivesCLIn (cutC o ps t) B w) := by
  have HV : Hid (cutC o ps t = ([], 3)) := cut_long (by omega)
  have d0 : decide ((262144 : Int) < (n : Int)) = true := decide_eq_true (by omega)
  have d1 : decide ((n : Int) > 262144) = true := decide_eq_true (by omega)
  have d2 : decide (262144 < n) = true := decide_eq_true h
  clear hn h
  go_enter Try.func13, Try.ntmps13
  go_wp2
  go_ret2
  exact GivesCLIn.none_ HV.out (Below.refl _ _)
set_option maxRecDepth 100000 in
set_option maxHeartbeats 4000000 in
theorem rccut_few (o : Int) (ps : List Int) (t : List UInt8) (np n : Nat) (A B : Option Addr) (cA cB : Nat) (w : World) (hp : np = ps.length) (hn : n = t.length) (h : ¬ 262144 < n) (h2 : np ≠ needC n ∨ np = 0) :
    Calls Try.prog 13 #[.int .i64 o, .slice A np cA, .slice B n cB] w (GivesCLIn (cutC o ps t) B w) := by
  have HV : Hid (cutC o ps t = ([], 1)) := cut_few (by omega) (by rw [← hp, ← hn]; exact h2)
  have d0 : decide ((262144 : Int) < (n : Int)) = false := decide_eq_false (by omega)
  have d1 : decide ((n : Int) > 262144) = false := decide_eq_false (by omega)
  have d2 : decide (262144 < n) = false := decide_eq_false h
  obtain ⟨N, hN⟩ : ∃ N, N = needC n := ⟨_, rfl⟩
  rw [← hN] at h2
  have HN : Hid (∀ W, Calls Try.prog 17 #[.int .i64 (n : Int)] W fun e w' => e = .returned (.int .i64 (N : Int)) ∧ W = w') := fun W => by rw [hN]; exact rcneed_any n (by omega) W
  clear hn h hp hN
  by_cases h3 : np = N
  · subst h3
    have h4 : np = 0 := by omega
    subst h4
    have e0 : (((0 : Nat) : Int) != ((0 : Nat) : Int)) = false := by simp
    go_enter Try.func13, Try.ntmps13
    go_wp2_with (go_at_call 17; (with_reducible refine (HN.out _).mono ?_); rintro e w1 ⟨rfl, rfl⟩)
    go_ret2
    exact GivesCLIn.none_ HV.out (Below.refl _ _)
  · have e0 : ((np : Int) != (N : Int)) = true := by simp; omega
    have e1 : ((np : Int) == (N : Int)) = false := by simp; omega
    have e2 : (np == N) = false := by simp; omega
    clear h2 h3
    go_enter Try.func13, Try.ntmps13
    go_wp2_with (go_at_call 17; (with_reducible refine (HN.out _).mono ?_); rintro e w1 ⟨rfl, rfl⟩)
    go_ret2
    exact GivesCLIn.none_ HV.out (Below.refl _ _)
set_option maxRecDepth 100000 in
set_option maxHeartbeats 8000000 in
theorem rccut_in (o : Int) (ps : List Int) (t : List UInt8) (N n : Nat) (A B : Option Addr) (cA cB : Nat) (w : World) (hp : N = ps.length) (hn : n = t.length) (h : ¬ 262144 < n) (h2 : N = needC n) (h3 : 0 < N)
    (hA : RI w w.heap.size A ps) (hr : RB w w.heap.size B t) (hc : n ≤ cB) (hcm : cB ≤ 9223372036854775807) :
    Calls Try.prog 13 #[.int .i64 o, .slice A N cA, .slice B n cB] w (GivesCLIn (cutC o ps t) B w) := by
  have hN2 : N = (n + 241) / 242 := h2
  have HN : Hid (∀ W, Calls Try.prog 17 #[.int .i64 (n : Int)] W fun e w' => e = .returned (.int .i64 (N : Int)) ∧ W = w') := fun W => by rw [h2]; exact rcneed_any n (by omega) W
  have HNn : Hid (N = ps.length ∧ n = t.length ∧ N = (n + 241) / 242 ∧ ps.length = needC t.length ∧ ¬ 262144 < t.length ∧ n ≤ cB ∧ cB ≤ 9223372036854775807) := ⟨hp, hn, hN2, by rw [← hp, ← hn, h2], by omega, hc, hcm⟩
  obtain ⟨i0, hi0, hz0, hz1, hz2⟩ := info_parts Try.cellInfo
  obtain ⟨b0, b1, rfl, _, _⟩ := hr.at_ (by omega)
  obtain ⟨pb, po, rfl, hpl, hpc⟩ := hA (by omega)
  have d0 : decide ((262144 : Int) < (n : Int)) = false := decide_eq_false (by omega)
  have d1 : decide ((n : Int) > 262144) = false := decide_eq_false (by omega)
  have d2 : decide (262144 < n) = false := decide_eq_false h
  have d3 : ((N : Int) == 0) = false := by simp; omega
  have d4 : ((N : Int) != (N : Int)) = false := by simp
  have HRt := Lib.hid hr
  have HPc : Hid (∀ W, Below w.heap.size w W → ∀ k, k < N → W.cell? ⟨pb, po + k, none⟩ = some (.int .i64 (ps.getD k 0))) := fun W hb k hk => by
    rw [(hb.cell (p := ⟨pb, po + k, none⟩) hpl).trans (hpc k (by omega)), List.getD_eq_getElem?_getD, List.getElem?_eq_getElem (by omega)]; rfl
  have a24 := fun w' => Try.aggCell w'
  have s24 := fun w' => Try.sizeCell w'
  have hN3 : N ≤ 1100 := by omega
  clear hp hn h h2 hA hr hc hcm hN2 hpc hpl
  go_enter Try.func13, Try.ntmps13
  go_wp2_with (go_at_call 17; (with_reducible refine (HN.out _).mono ?_); rintro e w1 ⟨rfl, rfl⟩)
  go_loopw [8, 9, 10, 11, 12] (fun v x _ _ _ wr => ∃ i : Nat, i ≤ N ∧ x = .int .i64 (i : Int) ∧ ∃ rows, Hid (CutTo w b0 o ps t i rows) ∧ Hid (wr.ownsRow w.heap.size 24 4 v i (rowE rows)) ∧ Hid (Below w.heap.size w wr)) (fun _ x _ _ _ _ => N - (intOf x).toNat)
  case atStart => exact ⟨0, by omega, rfl, [], ⟨rfl, rfl, fun j hj => by omega, fun x hx => by cases hx⟩, World.ownsRow_nil _ _ _ _, Below.refl _ _⟩
  case round =>
    obtain ⟨i, hi, rfl, rows, HCt, HO, hbw⟩ := hrel
    by_cases hlt : i < N
    · have dl : decide ((i : Int) < (N : Int)) = true := decide_eq_true (by omega)
      have dl2 : decide (i < N) = true := decide_eq_true hlt
      obtain ⟨q0, hq0⟩ : ∃ q, q = 242 * i := ⟨_, rfl⟩
      obtain ⟨q2, hq2⟩ : ∃ q, q = 242 * (i + 1) := ⟨_, rfl⟩
      obtain ⟨qe, hqe⟩ : ∃ q, q = min q2 n := ⟨_, rfl⟩
      obtain ⟨px, hpx⟩ : ∃ z : Int, z = ps.getD (i + 1) 0 := ⟨_, rfl⟩
      obtain ⟨pi, hpi⟩ : ∃ z : Int, z = ps.getD i 0 := ⟨_, rfl⟩
      have hq0n : q0 < n := by have := HNn.out.2.2.1; omega
      have y0 : (242 : Int) * (i : Int) = (q0 : Int) := by omega
      have y1 : (242 : Int) * ((i : Int) + 1) = (q2 : Int) := by omega
      have y2 : IntKind.i64.wrap (q0 : Int) = (q0 : Int) := IntWalk.i64_in _ (by omega)
      have y3 : IntKind.i64.wrap (q2 : Int) = (q2 : Int) := IntWalk.i64_in _ (by omega)
      have y7 : IntKind.i64.wrap ((i : Int) + 1) = (i : Int) + 1 := IntWalk.i64_in _ (by omega)
      have c0 : wr.cell? ⟨pb, po + i, none⟩ = some (.int .i64 pi) := by rw [hpi]; exact HPc.out _ hbw.out i hlt
      have HQ : Hid (q0 = 242 * i ∧ q2 = 242 * (i + 1) ∧ qe = min q2 n ∧ px = ps.getD (i + 1) 0 ∧ pi = ps.getD i 0) := ⟨hq0, hq2, hqe, hpx, hpi⟩
      clear hq0 hq2 hqe hpx hpi
      go_upto_if 39 with (fail)
      go_cut [10] from 27 to 81 (fun s10 wx => s10 = .int .i64 (qe : Int) ∧ wx = wr)
      case first =>
        by_cases hE : n < q2
        · have e0 : decide ((n : Int) < (q2 : Int)) = true := decide_eq_true (by omega)
          have e1 : decide ((q2 : Int) > (n : Int)) = true := decide_eq_true (by omega)
          have e2 : decide (n < q2) = true := decide_eq_true (by omega)
          obtain rfl : qe = n := by have := HQ.out.2.2.1; omega
          go_wp2
          go_meet
          exact ⟨rfl, rfl⟩
        · have e0 : decide ((n : Int) < (q2 : Int)) = false := decide_eq_false (by omega)
          have e1 : decide ((q2 : Int) > (n : Int)) = false := decide_eq_false (by omega)
          have e2 : decide (n < q2) = false := decide_eq_false (by omega)
          obtain rfl : qe = q2 := by have := HQ.out.2.2.1; omega
          go_wp2
          go_meet
          exact ⟨rfl, rfl⟩
      case rest =>
        obtain ⟨rfl, hw⟩ := hcut
        subst hw
        go_upto_if 46 with (fail)
        go_cut [11] from 27 to 81 (fun s11 wx => s11 = .int .i64 px ∧ wx = wc)
        case first =>
          by_cases hX : i + 1 < N
          · have e0 : decide ((i : Int) + 1 < (N : Int)) = true := decide_eq_true (by omega)
            have e2 : decide (i + 1 < N) = true := decide_eq_true hX
            have c1 : wc.cell? ⟨pb, po + (i + 1), none⟩ = some (.int .i64 px) := by rw [HQ.out.2.2.2.1]; exact HPc.out _ hbw.out (i + 1) hX
            go_wp2
            go_meet
            exact ⟨rfl, rfl⟩
          · have e0 : decide ((i : Int) + 1 < (N : Int)) = false := decide_eq_false (by omega)
            have e2 : decide (i + 1 < N) = false := decide_eq_false hX
            obtain rfl : px = 0 := by
              rw [HQ.out.2.2.2.1, List.getD_eq_getElem?_getD, List.getElem?_eq_none (by have := HNn.out.1; omega)]; rfl
            go_wp2
            go_meet
            exact ⟨rfl, rfl⟩
        case rest =>
          obtain ⟨rfl, hw⟩ := hcut
          subst hw
          obtain ⟨ql, hql⟩ : ∃ q, q = qe - q0 := ⟨_, rfl⟩
          have Hql := Lib.hid hql
          have hqle : q0 ≤ qe ∧ qe ≤ n := by have := HQ.out.2.1; have := HQ.out.1; have := HQ.out.2.2.1; omega
          have ks := fun W => sl_both b0 b1 n cB q0 qe (q0 : Int) (qe : Int) rfl rfl hqle.1 (by have := HNn.out.2.2.2.2.2.1; omega) (by have := HNn.out.2.2.2.2.2.1; omega) W
          rw [← hql] at ks
          have n4 := fun A m c w' => Try.cellBuild4 o (i : Int) px A m c w'
          have HDt : Hid ((t.drop (242 * i)).take 242 = (t.drop q0).take ql ∧ ((t.drop q0).take ql).length = ql) := by
            obtain ⟨g1, g2, g3, _, _⟩ := HQ.out
            obtain ⟨_, f2, _⟩ := HNn.out
            refine ⟨?_, by rw [List.length_take, List.length_drop]; omega⟩
            rw [← g1]
            by_cases h242 : n < q2
            · rw [List.take_of_length_le (by rw [List.length_drop]; omega), List.take_of_length_le (by rw [List.length_drop]; omega)]
            · rw [show ql = 242 by omega]
          have HAt : Hid (cutAt o ps t i = ⟨o, (i : Int), px, (t.drop q0).take ql⟩) := by
            show _ = _
            unfold cutAt
            rw [HDt.out.1, HQ.out.2.2.2.1]
          have HRB : Hid (RB w w.heap.size (some ⟨b0, b1 + q0, none⟩) ((t.drop q0).take ql)) := by
            have htn := HNn.out.2.1
            have h2 := rb_cut1 HRt.out (k := q0) (c := t.length + 1) (by omega) (by omega) (by omega)
            simp only [Option.map_some, add_at] at h2
            exact rb_take h2 ql (by rw [List.length_drop]; have := HNn.out.2.1; have := HQ.out; omega)
          obtain ⟨bm, hbm⟩ : ∃ x, x = (cutAt o ps t i).may := ⟨_, rfl⟩
          have HMay : Hid (∀ W, Calls Try.prog 22 #[.agg #[.int .i64 o, .int .i64 (i : Int), .int .i64 px, .slice (some ⟨b0, b1 + q0, none⟩) ql (cB - q0)]] W fun e w' => e = .returned (.bool bm) ∧ Below W.heap.size W w') := fun W => by
            have h1 := rcmay_any (cutAt o ps t i) (some ⟨b0, b1 + q0, none⟩) (cB - q0) W
            rw [← hbm, HAt.out] at h1
            unfold ceV at h1
            simp only [HDt.out.2] at h1
            exact h1
          have HBm : Hid (cutOk o ps t i = (bm && placeOk pi)) := by show _ = _; unfold cutOk; rw [hbm, HQ.out.2.2.2.2]
          have hbN := hbw.out.alloc hbw.out.size (.cells #[.int .i64 o, .int .i64 (i : Int), .int .i64 px, .slice (some ⟨b0, b1 + q0, none⟩) ql (cB - q0)] 24)
          have HT := Lib.hid (fun W hb => cell_at wc W o (i : Int) px (some ⟨b0, b1 + q0, none⟩) ql (cB - q0) hb)
          have HOw : Hid (∀ W, Below wc.heap.size wc W → W.ownsRow w.heap.size 24 4 u8 i (rowE rows)) := fun W hb => own_turns HO.out (Turns.of_below hb (fun _ => False)) (fun _ _ h => h)
          have hbr : Below wc.heap.size wc (wc.alloc (.cells #[.int .i64 o, .int .i64 (i : Int), .int .i64 px, .slice (some ⟨b0, b1 + q0, none⟩) ql (cB - q0)] 24)) := (Below.refl _ _).alloc (Nat.le_refl _) _
          clear hql hbm hqle
          have HBad : Hid (cutOk o ps t i = false → cutC o ps t = ([], 1)) := fun hk => by
            obtain ⟨f1, f2, f3, f4, f5, _⟩ := HNn.out
            exact cut_bad f5 f4 (by omega) (by omega) hk
          rcases bm with _ | _
          · go_wp2_with ((go_at_call 22; (with_reducible refine (HMay.out _).mono ?_); rintro e w6 ⟨rfl, hb6⟩; have b6 := chain7 (by first | exact hbN | exact hbN.drew) hb6; have c6 : w6.cell? ⟨pb, po + i, none⟩ = some (.int .i64 pi) := (by rw [HQ.out.2.2.2.2]; exact HPc.out _ b6 i hlt)))
            have HV := HBad.out (by rw [HBm.out]; rfl)
            go_ret2
            exact GivesCLIn.none_ HV b6
          · by_cases hp1 : pi < 1
            · have e0 : decide (pi < 1) = true := decide_eq_true hp1
              go_wp2_with ((go_at_call 22; (with_reducible refine (HMay.out _).mono ?_); rintro e w6 ⟨rfl, hb6⟩; have b6 := chain7 (by first | exact hbN | exact hbN.drew) hb6; have c6 : w6.cell? ⟨pb, po + i, none⟩ = some (.int .i64 pi) := (by rw [HQ.out.2.2.2.2]; exact HPc.out _ b6 i hlt)))
              have HV := HBad.out (by rw [HBm.out]; unfold placeOk; rw [decide_eq_false (show ¬ 1 ≤ pi by omega)]; rfl)
              go_ret2
              exact GivesCLIn.none_ HV b6
            · have e0 : decide (pi < 1) = false := decide_eq_false hp1
              by_cases hp2 : 65535 < pi
              · have e1 : decide ((65535 : Int) < pi) = true := decide_eq_true hp2
                have e2 : decide (pi > 65535) = true := decide_eq_true hp2
                go_wp2_with ((go_at_call 22; (with_reducible refine (HMay.out _).mono ?_); rintro e w6 ⟨rfl, hb6⟩; have b6 := chain7 (by first | exact hbN | exact hbN.drew) hb6; have c6 : w6.cell? ⟨pb, po + i, none⟩ = some (.int .i64 pi) := (by rw [HQ.out.2.2.2.2]; exact HPc.out _ b6 i hlt)))
                have HV := HBad.out (by rw [HBm.out]; unfold placeOk; rw [decide_eq_false (show ¬ pi ≤ 65535 by omega), Bool.and_false]; rfl)
                go_ret2
                exact GivesCLIn.none_ HV b6
              · have e1 : decide ((65535 : Int) < pi) = false := decide_eq_false hp2
                have e2 : decide (pi > 65535) = false := decide_eq_false hp2
                have hok : cutOk o ps t i = true := by rw [HBm.out]; unfold placeOk; rw [decide_eq_true (show 1 ≤ pi by omega), decide_eq_true (show pi ≤ 65535 by omega)]; rfl
                have Hok := Lib.hid hok
                clear hok
                go_wp2_with (first
                  | (go_at_call 22; (with_reducible refine (HMay.out _).mono ?_); rintro e w6 ⟨rfl, hb6⟩; have b6 := chain7 (by first | exact hbN | exact hbN.drew) hb6; have c6 : w6.cell? ⟨pb, po + i, none⟩ = some (.int .i64 pi) := (by rw [HQ.out.2.2.2.2]; exact HPc.out _ b6 i hlt); obtain ⟨t0, t1, t2, t3⟩ := HT.out _ (chain7 (by first | exact Below.refl _ _ | exact (Below.refl _ _).drew) hb6); have ho6 := HOw.out _ (chain7 (by first | exact hbr | exact hbr.drew) hb6); have hn6 := four_new w6 (.int .i64 o) (.int .i64 (i : Int)) (.int .i64 px) (.slice (some ⟨b0, b1 + q0, none⟩) ql (cB - q0)) 24)
                  | (at_builtin; refine wpList_append_any _ rfl (.tmp 78) (.tmp 80) _ rfl w.heap.size 24 i0 _ 4 48 Try.underlying35 hi0 hz0 hz1 hz2 rfl (by omega) u8 i (rowE rows) rfl (ho6.alloc _) (w6.heap.size + 1) (some ⟨w6.heap.size, 0, none⟩) 1 1 [.int .i64 o, .int .i64 (i : Int), .int .i64 px, .slice (some ⟨b0, b1 + q0, none⟩) ql (cB - q0)] rfl hn6 (ceC_one _ _ _ _ _ _) (by simp only [maxLen]; omega) (by omega) (by have := b6.size; simp; omega) ?_; intro v9 w9 ho9 hg9 hat9))
                have hb9 : Below w.heap.size w w9 := (b6.alloc b6.size _).grown hg9 (by have := b6.size; simp; omega) (fun j hj => (ho6.lt j hj).1)
                have hsn : rowE rows ++ [.int .i64 o, .int .i64 (i : Int), .int .i64 px, .slice (some ⟨b0, b1 + q0, none⟩) ql (cB - q0)] = rowE (rows ++ [(cutAt o ps t i, some ⟨b0, b1 + q0, none⟩, cB - q0)]) := by
                  rw [rowE_snoc, HAt.out]
                  unfold ceC
                  simp only [HDt.out.2]
                rw [hsn] at ho9
                have hct := HCt.out.snoc Hok.out (A := some ⟨b0, b1 + q0, none⟩) (c := cB - q0) (by rw [HAt.out]; exact HRB.out) (fun ad e => by injection e with e; rw [← e]) (by rw [HAt.out]; show ((t.drop q0).take ql).length ≤ cB - q0 ∧ _; rw [HDt.out.2]; have := HNn.out.2.2.2.2.2; have := HQ.out.2.2.1; have := Hql.out; omega)
                clear ho6 hg9 hat9 hn6 t0 t1 t2 t3 hb6
                go_roundw
                case rel => exact ⟨i + 1, by omega, by go_num, _, hct, ho9, hb9⟩
                case measure => simp [intOf]; omega
    · have dl : decide ((i : Int) < (N : Int)) = false := decide_eq_false (by omega)
      have dl2 : decide (i < N) = false := decide_eq_false hlt
      obtain rfl : i = N := by omega
      obtain ⟨f1, f2, f3, f4, f5, _⟩ := HNn.out
      have HV : Hid (cutC o ps t = ((List.range ps.length).map (cutAt o ps t), 0)) := cut_ok f5 f4 (by omega) (fun j hj => HCt.out.2.2.1 j (by omega))
      have Hf1 := Lib.hid f1
      clear f1 f2 f3 f4 f5
      go_wp2
      obtain ⟨Ao, co, hvo⟩ := own_slice7 HO.out
      go_ret2
      have e2 := HCt.out.2.1
      rw [Hf1.out] at e2
      refine ⟨Ao, co, ?_, ?_, hbw.out⟩
      · rw [HV.out]
        rw [hvo]
        simp [← Hf1.out]
      · rw [HV.out]
        show CLIn _ _ Ao ((List.range ps.length).map (cutAt o ps t))
        rw [← e2]
        have ho := HO.out
        rw [hvo] at ho
        exact CLIn.of_own ho HCt.out.1.symm (fun x hx => (((HCt.out.2.2.2 x hx).1).below hbw.out).more hbw.out.size) (fun x hx ad e => .inl ⟨_, rfl, (HCt.out.2.2.2 x hx).2.1 ad e⟩) (fun x hx => (HCt.out.2.2.2 x hx).2.2) (fun k hk => .inr hk)
theorem rccut_lies (o : Int) (ps : List Int) (t : List UInt8) (A B : Option Addr) (cA cB : Nat) (w : World) (hs : t.length ≤ 1000000) (hA : RI w w.heap.size A ps) (hr : RB w w.heap.size B t) (hc : t.length ≤ cB) (hcm : cB ≤ 9223372036854775807) :
    Calls Try.prog 13 #[.int .i64 o, .slice A ps.length cA, .slice B t.length cB] w (GivesCLIn (cutC o ps t) B w) := by
  by_cases h : 262144 < t.length
  · exact rccut_long o ps t _ _ A B cA cB w rfl h
  · by_cases h2 : ps.length ≠ needC t.length ∨ ps.length = 0
    · exact rccut_few o ps t _ _ A B cA cB w rfl rfl h h2
    · exact rccut_in o ps t _ _ A B cA cB w rfl rfl h (by omega) (by omega) hA hr hc hcm
theorem rccut_any (o : Int) (ps : List Int) (t : List UInt8) (A B : Option Addr) (cA cB : Nat) (w : World) (hs : t.length ≤ 1000000) (hA : RI w w.heap.size A ps) (hr : RB w w.heap.size B t) (hc : t.length ≤ cB) (hcm : cB ≤ 9223372036854775807) :
    Calls Try.prog 13 #[.int .i64 o, .slice A ps.length cA, .slice B t.length cB] w (GivesCL (cutC o ps t) w) := (rccut_lies o ps t A B cA cB w hs hA hr hc hcm).mono fun _ _ h => h.weak
end Go.Proofs.Ytpedgkghfehkjaa
end
section
set_option linter.unusedVariables false
namespace Go.Proofs.Ytpedgkghfehkjaa
open Go.RowKit
def shortL (zs : List Nat) (k : Nat) : List UInt8 := (zs.take k).flatMap (fixL 2)
theorem shortL_succ (zs : List Nat) (k : Nat) (h : k < zs.length) : shortL zs (k + 1) = shortL zs k ++ fixL 2 zs[k] := by
  unfold shortL
  rw [List.take_succ_eq_append_getElem h, List.flatMap_append]
  simp
theorem ints_new (W : World) (a b c : Int) (t : TypeId) (k : Nat) (hk : k < 3) : ∀ W', Below (W.alloc (.cells #[.int .i64 a, .int .i64 b, .int .i64 c] t)).heap.size (W.alloc (.cells #[.int .i64 a, .int .i64 b, .int .i64 c] t)) W' → W'.cell? ⟨W.heap.size, k, none⟩ = some (.int .i64 ([a, b, c][k]'hk)) := fun W' hb => by
  have h0 : Blk W' W.heap.size t #[.int .i64 a, .int .i64 b, .int .i64 c] := Blk.below (Blk.new W _ _) hb (by simp)
  rw [h0.cell]
  match k, hk with
  | 0, _ => rfl
  | 1, _ => rfl
  | 2, _ => rfl
set_option maxRecDepth 100000 in
set_option maxHeartbeats 4000000 in
theorem rcput_no (s : Ce) (A : Option Addr) (c : Nat) (w : World) (h : s.may = false) :
    Calls Try.prog 8 #[ceV s A c] w fun e w' => e = .returned (.tuple #[.slice none 0 0, .int .i64 1]) ∧ Below w.heap.size w w' := by
  have HM : Hid (∀ W, Calls Try.prog 22 #[ceV s A c] W fun e w' => e = .returned (.bool false) ∧ Below W.heap.size W w') := fun W => by rw [← h]; exact rcmay_any s A c W
  have HB : Hid (Below w.heap.size w (w.alloc (.cells #[.int .i64 s.owner, .int .i64 s.number, .int .i64 s.next, .slice A s.data.length c] 24))) := (Below.refl _ _).alloc (Nat.le_refl _) _
  have a24 := fun w' => Try.aggCell w'
  have s24 := fun w' => Try.sizeCell w'
  unfold ceV at HM ⊢
  clear h
  go_enter Try.func8, Try.ntmps8
  go_wp2_with (first
    | (go_at_call 22; (with_reducible refine (HM.out _).mono ?_); rintro e w1 ⟨rfl, hb1⟩))
  go_ret2
  exact ⟨rfl, chain7 HB.out hb1⟩
set_option maxRecDepth 100000 in
set_option maxHeartbeats 4000000 in
theorem rcput_yes (s : Ce) (A : Option Addr) (c : Nat) (w : World) (h : s.may = true) (hr : RB w w.heap.size A s.data) :
    Calls Try.prog 8 #[ceV s A c] w (GivesBytes s.bytes w) := by
  have HM : Hid (∀ W, Calls Try.prog 22 #[ceV s A c] W fun e w' => e = .returned (.bool true) ∧ Below W.heap.size W w') := fun W => by rw [← h]; exact rcmay_any s A c W
  obtain ⟨h1, h2, h3, h4, h5, h6, h7, h8⟩ := s.may_iff.1 h
  clear h
  obtain ⟨oz, nz, xz, D⟩ := s
  simp only at h1 h2 h3 h4 h5 h6 h7 h8 hr
  obtain ⟨o, rfl⟩ : ∃ k : Nat, oz = (k : Int) := ⟨oz.toNat, by omega⟩
  obtain ⟨n, rfl⟩ : ∃ k : Nat, nz = (k : Int) := ⟨nz.toNat, by omega⟩
  obtain ⟨x, rfl⟩ : ∃ k : Nat, xz = (k : Int) := ⟨xz.toNat, by omega⟩
  obtain ⟨m, hm⟩ : ∃ m, m = D.length := ⟨_, rfl⟩
  obtain ⟨X, hX⟩ : ∃ X, X = fixL 4 o := ⟨_, rfl⟩
  have lX : X.length = 4 := by rw [hX, fixL_length]
  have hm242 : m ≤ 242 := by omega
  have HBd : Hid (Ce.body ⟨(o : Int), (n : Int), (x : Int), D⟩ = X ++ shortL [n, x, m] 3 ++ D ++ List.replicate (242 - m) 0) := by
    show _ = _
    unfold Ce.body Ce.head shortL
    simp only [Int.toNat_natCast, hX, hm]
    simp
  have HF1 : Hid (∀ W, Calls Try.prog 23 #[.int .i64 (o : Int), .int .i64 4] W fun e w' => ∃ A c, e = .returned (.tuple #[.slice A 4 c, .int .i64 0]) ∧ Hid (w'.ownsRow W.heap.size 5 1 (.slice A 4 c) 4 (cells X)) ∧ Below W.heap.size W w') := fun W =>
    (refFix_any o 4 W (by omega) (by omega) (by omega)).mono fun e w' hh => by
      obtain ⟨A2, c2, he, ho, hb⟩ := hh.1 (by omega)
      rw [← hX, lX] at he
      unfold Own at ho
      rw [← hX, lX] at ho
      exact ⟨A2, c2, he, ho, hb⟩
  have HF2 : Hid (∀ W (k : Nat) (z : Int), ∀ hk : k < 3, z = (([n, x, m][k]'hk : Nat) : Int) → Calls Try.prog 23 #[.int .i64 z, .int .i64 2] W fun e w' => ∃ A c, e = .returned (.tuple #[.slice A 2 c, .int .i64 0]) ∧ Hid (RB w' w'.heap.size A (fixL 2 ([n, x, m][k]'hk))) ∧ Below W.heap.size W w') := fun W k z hk hz => by
    have hs : ([n, x, m][k]'hk) ≤ 65535 := by
      match k, hk with
      | 0, _ => show n ≤ _; omega
      | 1, _ => show x ≤ _; omega
      | 2, _ => show m ≤ _; omega
    subst hz
    refine (refFix_any _ 2 W (by omega) (by omega) (by omega)).mono fun e w' hh => ?_
    obtain ⟨A2, c2, he, ho, hb⟩ := hh.1 (by omega)
    rw [fixL_length] at he
    exact ⟨A2, c2, he, own_rb ho, hb⟩
  have HB : Hid (Below w.heap.size w (w.alloc (.cells #[.int .i64 (o : Int), .int .i64 (n : Int), .int .i64 (x : Int), .slice A m c] 24))) := (Below.refl _ _).alloc (Nat.le_refl _) _
  have HC := Lib.hid (fun W hb => cell_at w W (o : Int) (n : Int) (x : Int) A m c hb)
  have a24 := fun w' => Try.aggCell w'
  have s24 := fun w' => Try.sizeCell w'
  have HD := Lib.hid hr
  have Hm := Lib.hid hm
  unfold ceV at HM ⊢
  simp only at HM ⊢
  rw [← hm] at HM ⊢
  clear hm hr hX lX h1 h2 h3 h4 h5 h6 h7 h8
  go_enter Try.func8, Try.ntmps8
  go_wp2_with (first
    | (go_at_call 22; (with_reducible refine (HM.out _).mono ?_); rintro e w1 ⟨rfl, hb1⟩; obtain ⟨p0, p1, p2, p3⟩ := HC.out _ hb1)
    | (go_at_call 23; (with_reducible refine (HF1.out _).mono ?_); rintro e w2 ⟨A2, c2, rfl, r2, hb2⟩; have hb2' := hb2; have hb2 := chain7 hb1 hb2; clear p0 p1 p2 p3; obtain ⟨p0, p1, p2, p3⟩ := HC.out _ hb2))
  have hsz1 : w.heap.size < w1.heap.size := Nat.lt_of_lt_of_le (by simp) hb1.size
  obtain ⟨WL, hWL⟩ : ∃ WL, WL = w2.alloc (.cells #[.int .i64 (n : Int), .int .i64 (x : Int), .int .i64 (m : Int)] 3) := ⟨_, rfl⟩
  obtain ⟨lb, hlb⟩ : ∃ lb, lb = w2.heap.size := ⟨_, rfl⟩
  have hLs : lb < WL.heap.size := by rw [hWL, hlb]; simp
  have HLc : Hid (∀ k (hk : k < 3), WL.cell? ⟨lb, k, none⟩ = some (.int .i64 (([n, x, m][k]'hk : Nat) : Int))) := fun k hk => by
    rw [hWL, hlb]
    have := ints_new w2 (n : Int) (x : Int) (m : Int) 3 k hk _ (Below.refl _ _)
    rw [this]
    match k, hk with
    | 0, _ => rfl
    | 1, _ => rfl
    | 2, _ => rfl
  have HO : Hid (WL.ownsRow w1.heap.size 5 1 (.slice A2 4 c2) 4 (cells X)) := by rw [hWL]; exact r2.out.alloc _
  have HAp : Hid ((Value.slice A2 4 c2).ownBlock ≠ some lb) := fun he => by
    have := r2.out.lt lb he
    omega
  have HB1 : Hid (Below w1.heap.size w1 WL) := by rw [hWL]; exact hb2'.alloc hb2'.size _
  have HBw : Hid (Below w.heap.size w w1) := chain7 HB.out hb1
  have HWp : Hid (w1.cell? ⟨w.heap.size, 3, none⟩ = some (.slice A m c)) := (HC.out _ hb1).2.2.2
  have HD1 : Hid (RB w1 w1.heap.size A D) := rb_up7 HD.out HBw.out
  rw [← hWL, ← hlb]
  have HL := Lib.hid (show WL.heap.size = WL.heap.size from rfl)
  clear hWL hlb r2 hb2' p0 p1 p2 p3 HB HC HD hb1 hb2
  go_loopw [4, 7, 8, 9] (fun v i _ _ wr => ∃ k : Nat, k ≤ 3 ∧ i = .int .i64 (k : Int) ∧ ∃ (A' : Option Addr) (c' q : Nat), v = .slice A' q c' ∧ Hid (q = 4 + 2 * k) ∧ Hid (wr.ownsRow w1.heap.size 5 1 (.slice A' q c') q (cells (X ++ shortL [n, x, m] k))) ∧ Hid (Below w1.heap.size w1 wr ∧ lb < wr.heap.size ∧ (Value.slice A' q c').ownBlock ≠ some lb ∧ ∀ k (hk : k < 3), wr.cell? ⟨lb, k, none⟩ = some (.int .i64 (([n, x, m][k]'hk : Nat) : Int)))) (fun _ i _ _ _ => 3 - (intOf i).toNat)
  case atStart => exact ⟨0, by omega, rfl, A2, c2, 4, rfl, rfl, (by have := HO.out; rw [show X ++ shortL [n, x, m] 0 = X by simp [shortL]]; exact this), HB1.out, hLs, HAp.out, HLc.out⟩
  case round =>
    obtain ⟨k, hk, rfl, A', c', q, rfl, hq, HOw, HI⟩ := hrel
    by_cases hlt : k < 3
    · have d0 : decide ((k : Int) < 3) = true := decide_eq_true (by omega)
      have d1 : decide (k < 3) = true := decide_eq_true hlt
      obtain ⟨z, hz⟩ : ∃ z : Nat, z = [n, x, m][k]'hlt := ⟨_, rfl⟩
      obtain ⟨i1, i2, i3, i4⟩ := HI.out
      have c0 : wr.cell? ⟨lb, k, none⟩ = some (.int .i64 (z : Int)) := by rw [hz]; exact i4 k hlt
      have HF : Hid (∀ W, Calls Try.prog 23 #[.int .i64 (z : Int), .int .i64 2] W fun e w' => ∃ A c, e = .returned (.tuple #[.slice A 2 c, .int .i64 0]) ∧ Hid (RB w' w'.heap.size A (fixL 2 z)) ∧ Below W.heap.size W w') := fun W => by
        have := HF2.out W k (z : Int) hlt (by rw [hz])
        rw [← hz] at this
        exact this
      have Hz : Hid (shortL [n, x, m] (k + 1) = shortL [n, x, m] k ++ fixL 2 z) := by rw [hz]; exact shortL_succ [n, x, m] k hlt
      have hq11 : q + 2 ≤ 1048576 := by have := hq.out; omega
      obtain ⟨q2, hq2⟩ : ∃ q2, q + 2 = q2 := ⟨_, rfl⟩
      have Hq2 := Lib.hid hq2
      clear hz hq2 i1 i2 i3 i4
      go_wp2_with (first
        | (go_at_call 23; (with_reducible refine (HF.out _).mono ?_); rintro e w3 ⟨A3, c3, rfl, r3, hb3⟩; have o3 := own_kept HOw.out hb3; have b3 := HI.out.1.trans (hb3.mono HI.out.1.size))
        | (at_builtin; refine append_far rfl (.tmp 39) (.tmp 40) rfl rfl o3 b3 (Nat.le_refl _) rfl r3.out rfl hq11 Hq2.out ?_; intro A4 c4 w4 o4 b4 s4 f4 a4))
      obtain ⟨i1, i2, i3, i4⟩ := HI.out
      have hl2 : lb < w3.heap.size := Nat.lt_of_lt_of_le i2 hb3.size
      go_roundw
      case rel => exact ⟨k + 1, by omega, by go_num, A4, c4, q2, rfl, (by show q2 = 4 + 2 * (k + 1); have := hq.out; have := Hq2.out; omega), (by rw [Hz.out, ← List.append_assoc]; exact o4), b4, Nat.lt_of_lt_of_le hl2 s4, a4 lb hl2 i3, fun k hk => f4 _ _ ((hb3.cell (p := ⟨lb, k, none⟩) i2).trans (i4 k hk)) i3⟩
      case measure => simp [intOf]; omega
    · obtain rfl : k = 3 := by omega
      obtain rfl : q = 10 := hq.out
      have p3 : wr.cell? ⟨w.heap.size, 3, none⟩ = some (.slice A m c) := (HI.out.1.cell (p := ⟨w.heap.size, 3, none⟩) hsz1).trans HWp.out
      have rD : RB wr w1.heap.size A D := HD1.out.below HI.out.1
      have hm11 : 10 + m ≤ 1048576 := by omega
      obtain ⟨q3, hq3⟩ : ∃ q3, 10 + m = q3 := ⟨_, rfl⟩
      have Hq3 := Lib.hid hq3
      obtain ⟨P, hP⟩ : ∃ P, P = X ++ shortL [n, x, m] 3 ++ D := ⟨_, rfl⟩
      have HP : Hid (Ce.body ⟨(o : Int), (n : Int), (x : Int), D⟩ = P ++ List.replicate (242 - m) 0) := by rw [hP]; exact HBd.out
      have hq252 : q3 ≤ 252 := by omega
      have hP2 := Lib.hid hP
      obtain ⟨wo, rfl⟩ : ∃ wo : World, wo = wr := ⟨_, rfl⟩
      clear hq3 hP hm242
      go_wp2_with (first
        | (at_builtin; refine append_rb rfl (.tmp 42) (.tmp 44) rfl rfl HOw.out HI.out.1 (Nat.le_refl _) rfl rD Hm.out hm11 Hq3.out ?_; intro A4 c4 w4 o4 b4))
      rw [← hP2.out] at o4
      have O4 := Lib.hid o4
      have B4 := Lib.hid b4
      clear o4 b4 p3 rD
      go_loopw [4] (fun v wr => ∃ (L : List UInt8) (A : Option Addr) (c q : Nat), v = .slice A q c ∧ q ≤ 252 ∧ Hid (q = L.length ∧ q3 ≤ q ∧ L = P ++ List.replicate (q - q3) 0) ∧ Hid (wr.ownsRow w1.heap.size 5 1 (.slice A q c) L.length (cells L)) ∧ Hid (Below w1.heap.size w1 wr)) (fun v _ => 252 - slLen v)
      case atStart =>
        have hl : P.length = q3 := by
          have := O4.out.1
          simpa [cells_length] using this
        exact ⟨P, A4, c4, q3, rfl, hq252, ⟨hl.symm, Nat.le_refl _, by rw [Nat.sub_self]; simp⟩, (by rw [hl]; exact O4), B4⟩
      case round =>
        obtain ⟨L, A9, c9, q, rfl, hq, HJ, HW, HBe⟩ := hrel
        by_cases hlt : q < 252
        · have d0 : decide ((q : Int) < 252) = true := decide_eq_true (by omega)
          have d1 : decide (q < 252) = true := decide_eq_true hlt
          go_wp2_with (at_builtin; refine append_byte rfl _ _ rfl 0 rfl HW.out HBe.out (Nat.le_refl _) rfl rfl (by have := HJ.out.1; omega) ?_; intro v' w9 ho9 hb9)
          obtain ⟨i1, i2, i3⟩ := HJ.out
          obtain ⟨A0, c0, rfl⟩ := own_form ho9
          have hln : (L ++ [0]).length = q + 1 := by rw [List.length_append, List.length_singleton, ← i1]
          have hls : L ++ [0] = P ++ List.replicate (q + 1 - q3) 0 := by rw [show q + 1 - q3 = q - q3 + 1 by omega, List.replicate_succ', ← List.append_assoc, ← i3]
          go_roundw
          case rel => exact ⟨L ++ [0], A0, c0, (L ++ [0]).length, rfl, by omega, ⟨rfl, by omega, by rw [hln]; exact hls⟩, Lib.hid ho9, Lib.hid hb9⟩
          case measure => simp only [slLen]; omega
        · obtain ⟨i1, i2, i3⟩ := HJ.out
          obtain rfl : q = 252 := by omega
          have hbody : L = Ce.body ⟨(o : Int), (n : Int), (x : Int), D⟩ := by rw [i3, HP.out, show 252 - q3 = 242 - m by have := Hq3.out; omega]
          have hL60 : L.length = 252 := i1.symm
          have hrb : RB wr wr.heap.size A9 L := by
            have := HW.out
            rw [hL60] at this
            refine Reads.of_own (base := w1.heap.size) (e := 5) (c := c9) ?_
            rw [hL60]; exact this
          have hbw : Below w.heap.size w wr := chain7 HBw.out HBe.out
          have HSe : Hid (Calls Try.prog 24 #[.slice A9 252 c9] wr fun e w' => ∃ A c, e = .returned (.slice A 256 c) ∧ Hid (GivesBytes (Ce.bytes ⟨(o : Int), (n : Int), (x : Int), D⟩) w (.returned (.tuple #[.slice A 256 c, .int .i64 0])) w')) := by
            have h1 := refSeal_any L A9 c9 wr.heap.size wr hrb (by omega)
            rw [hL60] at h1
            refine h1.mono fun e w' hh => ?_
            obtain ⟨A, c, he, ho, hb⟩ := hh
            have e1 : sealL L = Ce.bytes ⟨(o : Int), (n : Int), (x : Int), D⟩ := by rw [hbody]; rfl
            have e2 : (sealL L).length = 256 := by rw [sealL_length, hL60]
            rw [e2] at he
            refine ⟨A, c, he, A, c, by rw [← e1, e2], ?_, chain7 hbw hb⟩
            rw [← e1]
            exact Joins.ownsRow_le ho hbw.size
          have d0 : decide ((252 : Int) < 252) = false := by decide
          clear hbody hL60 hrb hbw i1 i2 i3 HJ HW HBe hlt
          go_wp2_with (go_at_call 24; (with_reducible refine HSe.out.mono ?_); rintro e w9 ⟨A0, c0, rfl, hG⟩)
          go_ret2
          exact hG.out
end Go.Proofs.Ytpedgkghfehkjaa
end
section
set_option linter.unusedVariables false
namespace Go.Proofs.Ytpedgkghfehkjaa
open Go.RowKit
def GivesView : Option (List UInt8) → World → Ending → World → Prop
  | some M, w, e, w' => ∃ A c, e = .returned (.tuple #[.slice A M.length c, .int .i64 0]) ∧ RB w' w'.heap.size A M ∧ Below w.heap.size w w'
  | none, w, e, w' => e = .returned (.tuple #[.slice none 0 0, .int .i64 12]) ∧ Below w.heap.size w w'
set_option maxRecDepth 100000 in
set_option maxHeartbeats 1000000 in
theorem refOpen_short (N : Nat) (A : Option Addr) (c : Nat) (w : World) (hl : N < 4) :
    Calls Try.prog 28 #[.slice A N c] w (GivesView none w) := by
  have hd2 : decide ((N : Int) - 4 < 0) = true := by simp; omega
  go_enter Try.func28, Try.ntmps28
  go_wp2
  go_quiet (fail)
  go_wp2
  go_ret2
  exact ⟨rfl, ⟨rfl, rfl, rfl, Nat.le_refl _, fun _ _ => rfl⟩⟩
set_option maxRecDepth 100000 in
set_option maxHeartbeats 1000000 in
theorem refOpen_core (n : Nat) (A : Option Addr) (c : Nat) (L S : List UInt8) (w : World) (hc : n + 4 ≤ c) (hcap : c ≤ 9223372036854775807) (b : Bool) (hr : RB w w.heap.size A L) (HL : Hid (n + 4 = L.length)) (R : World → Ending → World → Prop)
    (HS : Hid (∀ W, Below w.heap.size w W → Calls Try.prog 24 #[.slice A n c] W (GivesOne S W)))
    (hb : (S == L) = b)
    (HR : Hid (b = true → ∀ w', Below w.heap.size w w' → R w (.returned (.tuple #[.slice A n c, .int .i64 0])) w')) (HR2 : Hid (b = false → ∀ w', Below w.heap.size w w' → R w (.returned (.tuple #[.slice none 0 0, .int .i64 12])) w')) :
    Calls Try.prog 28 #[.slice A (n + 4) c] w (R w) := by
  have hd2 : decide ((n : Int) < 0) = false := by simp
  have hnc : (n : Int) ≤ (c : Int) := by omega
  have e1 := aw_str (w := w.drew) hr.drew (n + 4) c HL.out
  rcases b with _ | _
  all_goals
    go_enter Try.func28, Try.ntmps28
    go_wp2
    go_region_held_law (fun w' => (convert 22 9 (.slice A (n + 4) c)).run Try.prog w' = .ok (.string ⟨L.toArray⟩) w') (assumption) (first | (go_at_call 24; (with_reducible refine (HS.out _ (Below.refl _ _).drew).mono ?_); rintro e w1 ⟨A1, c1, rfl, ho1, hb1⟩; have hb2 : Below w.heap.size w w1 := below_drew hb1; have e2 := aw_str (own_rb ho1) S.length c1 rfl; have e3 := aw_str ((hr.below hb2).more hb2.size) (n + 4) c HL.out))
    all_goals
      go_wp2
      first | exact HR.out (by trivial) _ hb2 | exact HR2.out (by trivial) _ hb2
theorem refOpen_any (L : List UInt8) (A : Option Addr) (c B : Nat) (w : World) (hr : RB w B A L) (hlc : L.length ≤ c) (hc : c ≤ 9223372036854775807) (hl : L.length ≤ 1048576) :
    Calls Try.prog 28 #[.slice A L.length c] w (GivesView (openL L) w) := by
  have hr := rb_lt hr
  by_cases h4 : L.length < 4
  · have e : openL L = none := by unfold openL; rw [if_neg (by omega)]
    rw [e]
    exact refOpen_short _ A c w h4
  · obtain ⟨n, hn⟩ : ∃ n, n = L.length - 4 := ⟨_, rfl⟩
    have hn4 : L.length = n + 4 := by omega
    have hp : (L.take n).length = n := by rw [List.length_take]; omega
    have hrp : RB w w.heap.size A (L.take n) := rb_take hr n (by omega)
    have hop : openL L = if sealL (L.take n) = L then some (L.take n) else none := by
      unfold openL
      rw [← hn]
      by_cases hy : sealL (L.take n) = L
      · rw [if_pos ⟨by omega, hy⟩, if_pos hy]
      · rw [if_neg (fun h => hy h.2), if_neg hy]
    rw [hn4]
    refine refOpen_core n A c L (sealL (L.take n)) w (by omega) hc (sealL (L.take n) == L) hr hn4.symm (GivesView (openL L)) (fun W hb => ?_) rfl (fun hb w' h => ?_) (fun hb w' h => ?_)
    · have := refSeal_any (L.take n) A c _ W (hrp.below hb) (by omega)
      rwa [hp] at this
    · rw [hop, if_pos (by simpa using hb)]
      exact ⟨A, c, by rw [hp], (hrp.below h).more h.size, h⟩
    · rw [hop, if_neg (by simpa using hb)]
      exact ⟨rfl, h⟩
end Go.Proofs.Ytpedgkghfehkjaa
end
