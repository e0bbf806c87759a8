/- Lemmas under the proofs of this place: ManPPut. No statement is proved here. -/
import Derived.Test.YtnmcohdlogepdaaBu20
import Derived.Test.YtnmcohdlogepdaaBu12
set_option linter.unusedVariables false
set_option linter.unusedSimpArgs false
namespace Go.Proofs.Ytnmcohdlogepdaa
open Go.RowKit
theorem rb_frozen (w : World) (L : List UInt8) (fz : Nat × Nat) : RB (w.alloc (.cells (cells L).toArray 5 fz)) (w.alloc (.cells (cells L).toArray 5 fz)).heap.size (some ⟨w.heap.size, 0, none⟩) L := by
  have h : (w.alloc (.cells (cells L).toArray 5 fz)).heap[w.heap.size]? = some (.cells (cells L).toArray 5 fz) := heap_alloc_new w _
  refine ⟨by rw [cells_length, Nat.mul_one], fun h0 => ⟨_, rfl, by simp, fun j u hu => ?_⟩⟩
  rw [addM, Nat.zero_add, cell_of_row _ _ _ _ _ _ h, List.getElem?_toArray]
  exact hu
theorem Mf.own_eq (m : Mf) (h : m.check = 0) : m.own = ([3, 109, 97, 110] ++ (putL m.segs.length ++ onesL m.segs)) ++ (putL m.snaps.length ++ onesL m.snaps) := by
  obtain ⟨h8, _, _⟩ := Mf.check_ok h
  unfold Mf.own Mf.tail Mf.snaps
  rw [putL_ofNat _ (by omega)]
  split
  · rw [show ([] : List Pt).length = 0 from rfl, putL_small 0 (by omega)]
    simp [onesL]
  · rw [show [m.snap].length = 1 from rfl, putL_small 1 (by omega)]
    simp [onesL]
set_option maxRecDepth 100000 in
set_option maxHeartbeats 4000000 in
theorem mput_own (m : Mf) (A : Option Addr) (c : Nat) (w : World) (h : MfAt w m A c) : Calls Try.prog 8 #[mfV m A c] w (GivesOw (Mf.put m) w) := by
  obtain ⟨n, hn⟩ : ∃ n, n = m.segs.length := ⟨_, rfl⟩
  obtain ⟨f, hf⟩ : ∃ n, n = m.snap.f := ⟨_, rfl⟩
  obtain ⟨s, hs⟩ : ∃ n, n = m.snap.s := ⟨_, rfl⟩
  obtain ⟨o, ho⟩ : ∃ n, n = m.snap.o := ⟨_, rfl⟩
  have HC := Lib.hid (fun W (hb : Below w.heap.size w W) => mcheck_any m A c W (h.up hb))
  have HMW := Lib.hid (man_at w)
  have HB : Hid (Below w.heap.size w (w.alloc (.cells #[.slice A n c, .int .i64 f, .int .i64 s, .int .i64 o] 29))) := (Below.refl _ _).alloc (Nat.le_refl _) _
  have a29 := fun w' => Try.manAgg w'
  have s29 := fun w' => Try.manSize w'
  unfold mfV at HC ⊢
  rw [← hn, ← hf, ← hs, ← ho] at HC ⊢
  by_cases hk : m.check = 0
  · rw [hk] at HC
    have hok := Mf.check_ok hk
    have hn8 : n ≤ 8 := by rw [hn]; exact hok.1
    have HPut : Hid (Mf.put m = (sealL m.own, 0)) := by show _ = _; unfold Mf.put; rw [if_pos hk]
    have HT : Hid (∀ W B, RB W W.heap.size B [109, 97, 110] → Calls Try.prog 28 #[.slice B 3 3] W fun e w' => ∃ A' c', e = .returned (.tuple #[.slice A' 4 c', .int .i64 0]) ∧ Hid (w'.ownsRow W.heap.size 5 1 (.slice A' 4 c') 4 (cells [3, 109, 97, 110])) ∧ Below W.heap.size W w') := fun W B hr => by
      refine (text_yes [109, 97, 110] B 3 W.heap.size W hr (by decide)).mono fun e w' hh => ?_
      obtain ⟨A', c', he, ho', hb'⟩ := hh
      have e1 : putL ([109, 97, 110] : List UInt8).length ++ [109, 97, 110] = [3, 109, 97, 110] := by
        rw [show ([109, 97, 110] : List UInt8).length = 3 from rfl, putL_small 3 (by omega)]
        rfl
      rw [e1] at he ho'
      exact ⟨A', c', he, ho', hb'⟩
    have HSn : Hid (∀ W, Calls Try.prog 30 #[.agg #[.slice A n c, .int .i64 f, .int .i64 s, .int .i64 o]] W fun e w' => ∃ B k d, e = .returned (.slice B k d) ∧ Hid (k = m.snaps.length ∧ PtL w' w'.heap.size B m.snaps ∧ ∀ ad, B = some ad → W.heap.size ≤ ad.block) ∧ Below W.heap.size W w') := fun W => by
      have := msnaps_any m A c W
      unfold mfV at this
      rw [← hn, ← hf, ← hs, ← ho] at this
      refine this.mono fun e w' hh => ?_
      obtain ⟨B, d, he, hp, hb, hnew⟩ := hh
      exact ⟨B, _, d, he, ⟨rfl, hp.out, hnew⟩, hb⟩
    have HA1 : Hid (∀ W base A1 c1, Below w.heap.size w W → w.heap.size ≤ base → base ≤ W.heap.size → W.ownsRow base 5 1 (.slice A1 4 c1) 4 (cells [3, 109, 97, 110]) → Calls Try.prog 29 #[.slice A1 4 c1, .slice A n c] W fun e w' => ∃ A' q' c', e = .returned (.slice A' q' c') ∧ q' ≤ 129 ∧ Hid (w'.ownsRow base 5 1 (.slice A' q' c') q' (cells ([3, 109, 97, 110] ++ (putL m.segs.length ++ onesL m.segs)))) ∧ Hid (Below base W w')) := fun W base A1 c1 hb hB0 hB ho => by
      have hp : PtL W W.heap.size A m.segs := (h.up hb).segs
      refine (appparts_any m.segs n [3, 109, 97, 110] base 4 c1 c A1 A W hn (fun p hp => hok.2.1 _ (Mf.segs_parts hp)) hn8 hp (fun h0 ad e he => ?_) ho (by omega) hB).mono fun e w' hh => ?_
      · obtain ⟨b, off, e2, hlt, _⟩ := h.segs h0
        rw [e] at e2
        injection e2 with e2
        have := (ho.lt _ he).1
        rw [e2] at this
        simp only at this
        omega
      · obtain ⟨A', q', c', he, hq', ho', hg'⟩ := hh
        rw [← hn]
        exact ⟨A', q', c', he, by omega, ho', hg'.out.below (Below.refl _ _) hB fun k hk => (ho.lt k hk).1⟩
    have HA2 : Hid (∀ (W0 W : World) base A1 q1 c1 B k d, q1 ≤ 129 → base ≤ W0.heap.size → (k = m.snaps.length ∧ PtL W W.heap.size B m.snaps ∧ ∀ ad, B = some ad → W0.heap.size ≤ ad.block) → Below W0.heap.size W0 W → W0.ownsRow base 5 1 (.slice A1 q1 c1) q1 (cells ([3, 109, 97, 110] ++ (putL m.segs.length ++ onesL m.segs))) → Calls Try.prog 29 #[.slice A1 q1 c1, .slice B k d] W fun e w' => ∃ A' q' c', e = .returned (.slice A' q' c') ∧ q' ≤ 200 ∧ Hid (w'.ownsRow base 5 1 (.slice A' q' c') q' (cells m.own)) ∧ Hid (Below base W w')) := fun W0 W base A1 q1 c1 B k d hq hB hs hb ho => by
      obtain ⟨hk1, hp, hnew⟩ := hs
      have hsl := m.snaps_len
      have ho' : W.ownsRow base 5 1 (.slice A1 q1 c1) q1 (cells ([3, 109, 97, 110] ++ (putL m.segs.length ++ onesL m.segs))) := own_kept ho hb
      refine (appparts_any m.snaps k ([3, 109, 97, 110] ++ (putL m.segs.length ++ onesL m.segs)) base q1 c1 d A1 B W hk1 (fun p hp => hok.2.1 _ (by rw [m.parts_eq]; exact List.mem_append_right _ hp)) (by omega) hp (fun h0 ad e he => ?_) ho' (by omega) (Nat.le_trans hB hb.size)).mono fun e w' hh => ?_
      · have := hnew _ e
        have := (ho.lt _ he).2
        omega
      · obtain ⟨A', q', c', he, hq', ho2, hg'⟩ := hh
        refine ⟨A', q', c', he, by omega, ?_, hg'.out.below (Below.refl _ _) (Nat.le_trans hB hb.size) fun k hk => (ho.lt k hk).1⟩
        have h2 := ho2.out
        rwa [hk1, ← m.own_eq hk] at h2
    have HSe : Hid (∀ W base A1 q1 c1, w.heap.size ≤ base → base ≤ W.heap.size → q1 ≤ 200 → Below w.heap.size w W → W.ownsRow base 5 1 (.slice A1 q1 c1) q1 (cells m.own) → Calls Try.prog 31 #[.slice A1 q1 c1] W fun e w' => ∃ A' q' c', e = .returned (.slice A' q' c') ∧ Hid (GivesOw (sealL m.own, 0) w (.returned (.tuple #[.slice A' q' c', .int .i64 0])) w')) := fun W base A1 q1 c1 hB0 hB hq hb ho => by
      have hl : q1 = m.own.length := by have := ho.1; rw [cells_length] at this; omega
      subst hl
      refine (seal_any m.own A1 c1 W.heap.size W (Reads.of_own ho) (by omega)).mono fun e w' hh => ?_
      obtain ⟨A', c', he, ho', hb'⟩ := hh
      exact ⟨A', _, c', he, A', c', rfl, Joins.ownsRow_le ho' hb.size, chainM hb hb'⟩
    clear h hn hf hs ho hok
    have hcv : ∀ (W : World) (g n c : Nat) (C : Array Value), g = W.heap.size → (convert 22 22 (.slice (some ⟨g, 0, none⟩) n c)).run Try.prog (W.alloc (.cells C 5)) = .ok (.slice (some ⟨g, 0, none⟩) n c) (W.alloc (.cells C 5 (C.size, C.size + 1))) := fun W g n c C hg => Joins.run_convert_bytes_const_at W 22 5 C n c g hg Try.underlying22 Try.underlying5
    go_enter Try.func8, Try.ntmps8
    go_wp2_with (first
      | (go_at_call 11; (with_reducible refine (HC.out _ HB.out).mono ?_); rintro e w1 ⟨rfl, b1⟩; obtain ⟨q0, q1, q2, q3⟩ := HMW.out w1 A n c f s o b1; have HFr : Hid (RB (w1.alloc (.cells #[.int .u8 109, .int .u8 97, .int .u8 110] 5 (3, 4))) (w1.alloc (.cells #[.int .u8 109, .int .u8 97, .int .u8 110] 5 (3, 4))).heap.size (some ⟨w1.heap.size, 0, none⟩) [109, 97, 110]) := rb_frozen w1 [109, 97, 110] (3, 4))
      | (go_at_call 28; (with_reducible refine (HT.out _ _ HFr.out).mono ?_); rintro e w2 ⟨A2, c2, rfl, H2, b2⟩; have H2b := Lib.hid (Joins.ownsRow_le (base' := w1.heap.size) H2.out (by simp)); have b2' : Below w1.heap.size w1 w2 := chainM ((Below.refl _ _).alloc (Nat.le_refl _) _) b2; obtain ⟨q0, q1, q2, q3⟩ := HMW.out w2 A n c f s o (chainM b1 b2'))
      | (go_at_call 30; (with_reducible refine (HSn.out _).mono ?_); rintro e w4 ⟨B4, k4, d4, rfl, H4, b4⟩)
      | (go_at_call 29; have hy := Lib.hid (HA2.out w3 w4 w1.heap.size A3 m3 c3 B4 k4 d4 hm3 b3.size H4.out b4 H3.out); (with_reducible refine hy.out.mono ?_); rintro e w5 ⟨A5, m5, c5, rfl, hm5, H5, B5⟩; have b5 : Below w1.heap.size w1 w5 := (b3.trans (b4.mono b3.size)).trans B5.out)
      | (go_at_call 29; have hx := Lib.hid (HA1.out w2 w1.heap.size A2 c2 (chainM (chainM HB.out b1) b2') (chainM HB.out b1).size b2'.size H2b.out); (with_reducible refine hx.out.mono ?_); rintro e w3 ⟨A3, m3, c3, rfl, hm3, H3, B3⟩; have b3 : Below w1.heap.size w1 w3 := b2'.trans B3.out; obtain ⟨q0, q1, q2, q3⟩ := HMW.out w3 A n c f s o (chainM b1 b3))
      | (go_at_call 31; have hz := Lib.hid (HSe.out w5 w1.heap.size A5 m5 c5 (chainM HB.out b1).size b5.size hm5 (chainM (chainM HB.out b1) b5) H5.out); (with_reducible refine hz.out.mono ?_); rintro e w6 ⟨A6, m6, c6, rfl, HG⟩))
    go_ret2
    rw [HPut.out]
    exact HG.out
  · have HPut : Hid (Mf.put m = ([], m.check)) := by show _ = _; unfold Mf.put; rw [if_neg hk]
    obtain ⟨ck, hck⟩ : ∃ x, x = m.check := ⟨_, rfl⟩
    rw [← hck] at HC HPut hk
    have d0 : decide (ck ≠ 0) = true := decide_eq_true hk
    have d1 : (ck == 0) = false := by rw [beq_eq_false_iff_ne]; exact hk
    have d2 : (ck != 0) = true := by rw [bne_iff_ne]; exact hk
    clear hck h hn hf hs ho
    go_enter Try.func8, Try.ntmps8
    go_wp2_with (go_at_call 11; (with_reducible refine (HC.out _ HB.out).mono ?_); rintro e w1 ⟨rfl, b1⟩; obtain ⟨q0, q1, q2, q3⟩ := HMW.out w1 A n c f s o b1)
    go_ret2
    rw [HPut.out]
    exact ⟨none, 0, rfl, World.ownsRow_nil _ _ _ _, chainM HB.out b1⟩
end Go.Proofs.Ytnmcohdlogepdaa
