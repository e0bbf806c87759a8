/- Lemmas under the proofs of this place: SectPJoin. No statement is proved here. -/
import Derived.Test.YtghenhacndaelaaBu20
import Derived.Test.YtghenhacndaelaaBu19
import Derived.Test.YtghenhacndaelaaBu24
import Derived.Test.YtghenhacndaelaaBu12
set_option linter.unusedSimpArgs false
set_option linter.unusedVariables false
set_option maxRecDepth 100000
set_option maxHeartbeats 16000000
namespace Go.Proofs.Ytghenhacndaelaa
open Go.RowKit
def Sd.good (x : Sd) (n i : Nat) (s : Sd) : Bool := s.may && (s.same (x.headAt n i) && s.fills)
theorem Sd.same_iff (a b : Sd) : a.same b = true ↔ a.kind = b.kind ∧ a.epoch = b.epoch ∧ a.number = b.number ∧ a.left = b.left := by
  unfold Sd.same
  simp only [Bool.and_eq_true, decide_eq_true_eq]
theorem Sd.fills_iff (s : Sd) : s.fills = true ↔ (0 < s.left → s.data.length = 48) ∧ (¬ 0 < s.left → 0 < s.data.length) := by
  unfold Sd.fills
  by_cases h : 0 < s.left
  · rw [if_pos h]; simp [h]
  · rw [if_neg h]; simp [h]
theorem flat_at : ∀ (i : Nat) (l : List Sd), (∀ j (hj : j < l.length), j < i → l[j].data.length = 48) → i ≤ l.length → (l.flatMap (·.data)).drop (48 * i) = (l.drop i).flatMap (·.data)
  | 0, l, _, _ => by simp
  | i + 1, [], _, h => by simp at h
  | i + 1, x :: r, h48, h => by
    have h0 : x.data.length = 48 := h48 0 (by simp) (by omega)
    have ih := flat_at i r (fun j hj hji => h48 (j + 1) (by simp; omega) (by omega)) (by simpa using h)
    rw [List.flatMap_cons, show 48 * (i + 1) = 48 + 48 * i by omega, ← List.drop_drop, ← h0, List.drop_left, h0, ih]
    rfl
section
variable {x : Sd} {r : List Sd}
theorem join_good (h : ∀ i (hi : i < (x :: r).length), x.good (x :: r).length i (x :: r)[i] = true) : joinS (x :: r) = ((x :: r).flatMap (·.data), true) := by
  obtain ⟨l, hl⟩ : ∃ l, l = x :: r := ⟨_, rfl⟩
  rw [← hl] at h ⊢
  obtain ⟨n, hn⟩ : ∃ n, n = l.length := ⟨_, rfl⟩
  have h' : ∀ m, m = l.length → ∀ i (hi : i < l.length), x.good m i l[i] = true := fun m hm => by subst hm; exact h
  have h := h' n hn
  have hg : ∀ i (hi : i < n), l[i].may = true ∧ l[i].kind = (x.headAt n i).kind ∧ l[i].epoch = (x.headAt n i).epoch ∧ l[i].number = (x.headAt n i).number ∧ l[i].left = ((n - 1 - i : Nat) : Int) ∧ (i < n - 1 → l[i].data.length = 48) ∧ 0 < l[i].data.length ∧ l[i].data.length ≤ 48 := fun i hi => by
    have h1 := h i (by omega)
    unfold Sd.good at h1
    simp only [Bool.and_eq_true] at h1
    obtain ⟨h1, h2, h3⟩ := h1
    obtain ⟨s1, s2, s3, s4⟩ := (Sd.same_iff _ _).1 h2
    have s4 : l[i].left = ((n - 1 - i : Nat) : Int) := s4
    obtain ⟨f1, f2⟩ := (Sd.fills_iff _).1 h3
    have m9 := ((Sd.may_iff _).1 h1).2.2.2.2.2.2.2.2
    refine ⟨h1, s1, s2, s3, s4, fun hi2 => f1 (by omega), ?_, m9⟩
    by_cases h0 : 0 < l[i].left
    · have := f1 h0; omega
    · exact f2 h0
  have hn1 : 0 < n := by rw [hn, hl]; simp
  have hx : l[0]'(by omega) = x := by simp [hl]
  have h65 : n ≤ 65536 := by
    have h1 := hg 0 hn1
    have h2 := ((Sd.may_iff _).1 h1.1).2.2.2.2.2.2.2.1
    have h3 := h1.2.2.2.2.1
    omega
  obtain ⟨T, hT⟩ : ∃ T, T = l.flatMap (·.data) := ⟨_, rfl⟩
  have hdr : ∀ i, i < n → (T.drop (48 * i)) = (l.drop i).flatMap (·.data) := fun i hi => by
    rw [hT]
    exact flat_at i l (fun j hj hji => (hg j (by omega)).2.2.2.2.2.1 (by omega)) (by omega)
  have hat : ∀ i (hi : i < n), (T.drop (48 * i)).take 48 = l[i].data := fun i hi => by
    rw [hdr i hi, List.drop_eq_getElem_cons (by omega), List.flatMap_cons]
    by_cases h1 : i < n - 1
    · have := (hg i hi).2.2.2.2.2.1 h1
      rw [← this, List.take_left]
    · rw [List.drop_of_length_le (by omega), List.flatMap_nil, List.append_nil, List.take_of_length_le (hg i hi).2.2.2.2.2.2.2]
  have hlen : T.length = 48 * (n - 1) + (l[n - 1]'(by omega)).data.length := by
    have h1 := hdr (n - 1) (by omega)
    rw [List.drop_eq_getElem_cons (l := l) (i := n - 1) (by omega), List.flatMap_cons, List.drop_of_length_le (l := l) (by omega), List.flatMap_nil, List.append_nil] at h1
    have h2 := congrArg List.length h1
    rw [List.length_drop] at h2
    have h3 : 0 < (l[n - 1]'(by omega)).data.length := (hg (n - 1) (by omega)).2.2.2.2.2.2.1
    omega
  have hne : needN T.length = n := by
    have h1 := hg (n - 1) (by omega)
    unfold needN
    omega
  have hpart : ∀ i (hi : i < n), x.part T n i = l[i] := fun i hi => by
    obtain ⟨_, g1, g2, g3, g4, _⟩ := hg i hi
    rw [part_head, hat i hi, ← g1, ← g2, ← g3]
    have g5 : (x.headAt n i).left = l[i].left := g4.symm
    rw [g5]
  have hs : splitS x T = (l, 0) := by
    unfold splitS
    rw [hne, if_neg (by omega), if_neg (by omega), if_pos]
    · congr 1
      apply List.ext_getElem
      · simp [hn]
      · intro i h1 h2
        simp only [List.getElem_map, List.getElem_range]
        exact hpart i (by omega)
    · refine List.all_eq_true.2 fun i hi => ?_
      have hi := List.mem_range.1 hi
      rw [hpart i hi]
      exact (hg i hi).1
  rw [hl] at hs hT ⊢
  unfold joinS
  simp only
  rw [← hT, if_pos hs]
theorem join_odd {i : Nat} (hi : i < (x :: r).length) (h : x.good (x :: r).length i (x :: r)[i] = false) : joinS (x :: r) = ([], false) := by
  unfold joinS
  simp only
  rw [if_neg]
  intro hs
  obtain ⟨l, hl⟩ : ∃ l, l = x :: r := ⟨_, rfl⟩
  obtain ⟨T, hT⟩ : ∃ T, T = (x :: r).flatMap (·.data) := ⟨_, rfl⟩
  rw [← hT, ← hl] at hs
  simp only [← hl] at hi h
  unfold splitS at hs
  by_cases h0 : needN T.length = 0
  · rw [if_pos h0] at hs
    simp at hs
  rw [if_neg h0] at hs
  by_cases h1 : 65536 < needN T.length
  · rw [if_pos h1] at hs
    simp at hs
  rw [if_neg h1] at hs
  by_cases h2 : (List.range (needN T.length)).all (fun i => (x.part T (needN T.length) i).may) = true
  rotate_left
  · rw [if_neg h2] at hs
    simp at hs
  rw [if_pos h2] at hs
  obtain ⟨N, hN⟩ : ∃ N, N = needN T.length := ⟨_, rfl⟩
  rw [← hN] at hs h0 h2
  have hs := congrArg Prod.fst hs
  simp only at hs
  have hn : l.length = N := by rw [← hs]; simp
  have hli : l[i] = x.part T N i := by
    have : l[i]? = some (x.part T N i) := by
      rw [← hs, List.getElem?_map, List.getElem?_range (by omega)]
      rfl
    rw [List.getElem?_eq_getElem hi] at this
    injection this
  have hm : (x.part T N i).may = true := List.all_eq_true.1 h2 i (List.mem_range.2 (by omega))
  have hg : x.good N i (x.part T N i) = true := by
    unfold Sd.good
    rw [hm, Bool.true_and, Bool.and_eq_true]
    refine ⟨(Sd.same_iff _ _).2 ⟨rfl, rfl, rfl, rfl⟩, (Sd.fills_iff _).2 ?_⟩
    have e1 : (x.part T N i).left = ((N - 1 - i : Nat) : Int) := rfl
    have e2 : (x.part T N i).data.length = min 48 (T.length - 48 * i) := by
      show ((T.drop (48 * i)).take 48).length = _
      rw [List.length_take, List.length_drop]
    have e3 : N = (T.length + 47) / 48 := hN
    rw [e1, e2]
    exact ⟨fun _ => by omega, fun _ => by omega⟩
  rw [hli, hn, hg] at h
  cases h
end
theorem idx_first {o : Oper} {a : Act} {w : World} (b off n c : Nat) (x y : Operand) (ho : o.op = .indexAddr 87 x y) (hx : a.eval x = .slice (some ⟨b, off, none⟩) n c) (hy : a.eval y = .int .i64 0) (hi : 0 < n) :
    (execOp a.eval o).run Try.prog w = .ok (.value (.pointer (some ⟨b, off, none⟩))) w := by
  have h2 : (0 : Int) < (n : Int) := by omega
  have hu : (underlying 87).run Try.prog w = .ok (.slice 79) w := by kernel_rfl
  have hs : (sizeOf 79).run Try.prog w = .ok 5 w := by kernel_rfl
  unfold execOp
  simp [ho, hx, hy, Instr.indexAt, asIntOf, hu, hs, hi, h2, Addr.add]
theorem range5 {w : World} {b off : Nat} {v0 v1 v2 v3 v4 : Value} (h0 : w.cell? ⟨b, off, none⟩ = some v0) (h1 : w.cell? ⟨b, off + 1, none⟩ = some v1) (h2 : w.cell? ⟨b, off + 2, none⟩ = some v2) (h3 : w.cell? ⟨b, off + 3, none⟩ = some v3) (h4 : w.cell? ⟨b, off + 4, none⟩ = some v4) : w.rangeAt b off [v0, v1, v2, v3, v4] := by
  intro j v hj
  match j with
  | 0 => simp at hj; rw [← hj]; exact h0
  | 1 => simp at hj; rw [← hj]; exact h1
  | 2 => simp at hj; rw [← hj]; exact h2
  | 3 => simp at hj; rw [← hj]; exact h3
  | 4 => simp at hj; rw [← hj]; exact h4
  | j + 5 => simp at hj
theorem SL.at_ {w : World} {B b off : Nat} {l : List Sd} (h : SL w B (some ⟨b, off, none⟩) l) (i : Nat) (hi : i < l.length) : b < B ∧ ∃ dA dc, RB w B dA l[i].data ∧
    w.cell? ⟨b, off + i * 5, none⟩ = some (.int .i64 l[i].kind) ∧ w.cell? ⟨b, off + i * 5 + 1, none⟩ = some (.int .i64 l[i].epoch) ∧ w.cell? ⟨b, off + i * 5 + 2, none⟩ = some (.int .i64 l[i].number) ∧
    w.cell? ⟨b, off + i * 5 + 3, none⟩ = some (.int .i64 l[i].left) ∧ w.cell? ⟨b, off + i * 5 + 4, none⟩ = some (.slice dA l[i].data.length dc) := by
  obtain ⟨b', off', e, hb, hc⟩ := h (by omega)
  injection e with e
  injection e with e1 e2
  subst e1 e2
  exact ⟨hb, hc i hi⟩
theorem sjoin_nil (A : Option Addr) (c : Nat) (w : World) : Calls Try.prog 51 #[.slice A 0 c] w (GivesJo (joinS []) w) := by
  go_enter Try.func51, Try.ntmps51
  go_wp2
  go_loopw [4, 5, 6, 9] (fun v _ _ x wr => v = .slice none 0 0 ∧ x = .int .i64 0 ∧ wr = w) (fun _ _ _ _ _ => 0)
  case atStart => exact ⟨rfl, rfl, rfl⟩
  case round =>
    obtain ⟨rfl, rfl, rfl⟩ := hrel
    go_wp2
    go_ret2
    exact ⟨none, 0, rfl, World.ownsRow_nil _ _ _ _, Below.refl _ _⟩
theorem sjoin_some (l : List Sd) (n b off : Nat) (c : Nat) (w : World) (hn : n = l.length) (h0 : 0 < n) (hS : SL w w.heap.size (some ⟨b, off, none⟩) l) (hl : n ≤ 20000) (hd : ∀ x ∈ l, x.data.length ≤ 1000) :
    Calls Try.prog 51 #[.slice (some ⟨b, off, none⟩) n c] w (GivesJo (joinS l) w) := by
  obtain ⟨x, r, rfl⟩ : ∃ x r, l = x :: r := by
    cases l with
    | nil => simp at hn; omega
    | cons x r => exact ⟨x, r, rfl⟩
  obtain ⟨i0, hi0, hz0, hz1, hz2⟩ := info_parts Try.info5
  obtain ⟨hbw, dB, bc, rB, q0, q1, q2, q3, q4⟩ := hS.at_ 0 (by omega)
  simp only [Nat.zero_mul, Nat.add_zero, List.getElem_cons_zero] at rB q0 q1 q2 q3 q4
  obtain ⟨k0, hk0⟩ : ∃ z, z = x.kind := ⟨_, rfl⟩
  obtain ⟨e0, he0⟩ : ∃ z, z = x.epoch := ⟨_, rfl⟩
  obtain ⟨n0, hn0⟩ : ∃ z, z = x.number := ⟨_, rfl⟩
  obtain ⟨l0, hl0⟩ : ∃ z, z = x.left := ⟨_, rfl⟩
  obtain ⟨bl, hbl⟩ : ∃ z, z = x.data.length := ⟨_, rfl⟩
  rw [← hk0] at q0
  rw [← he0] at q1
  rw [← hn0] at q2
  rw [← hl0] at q3
  rw [← hbl] at q4
  have HK := Lib.hid (And.intro hk0 (And.intro he0 (And.intro hn0 (And.intro hl0 hbl))))
  have HQ := Lib.hid (And.intro q0 (And.intro q1 (And.intro q2 (And.intro q3 q4))))
  have HS := Lib.hid hS
  have HN := Lib.hid hn
  have HD := Lib.hid hd
  have HBw := Lib.hid hbw
  have a24 := fun w' => Try.aggSec w'
  have s24 := fun w' => Try.sizeSec w'
  clear hS hn hd q0 q1 q2 q3 q4 hk0 he0 hn0 hl0 hbl rB hbw
  go_enter Try.func51, Try.ntmps51
  go_wp2
  go_loopw [4, 5, 6, 9] (fun v _ _ y wr => ∃ i : Nat, i ≤ n ∧ y = .int .i64 (i : Int) ∧ ∃ (A : Option Addr) (q k : Nat), v = .slice A q k ∧ q ≤ 1000 * i ∧ ∃ P : List UInt8, Hid (q = P.length ∧ P = ((x :: r).take i).flatMap (·.data) ∧ ∀ j (hj : j < (x :: r).length), j < i → x.good n j (x :: r)[j] = true) ∧ Hid (wr.ownsRow w.heap.size 5 1 (.slice A q k) q (cells P)) ∧ Hid (Below w.heap.size w wr)) (fun _ _ _ y _ => n - (intOf y).toNat)
  case atStart => exact ⟨0, by omega, rfl, none, 0, 0, rfl, by omega, [], ⟨rfl, by simp, fun j _ hj => by omega⟩, World.ownsRow_nil _ _ _ _, Below.refl _ _⟩
  case round =>
    obtain ⟨i, hi, rfl, A, q, k, rfl, hq, P, HP, HO, HB⟩ := hrel
    by_cases hlt : i < n
    · have dl : decide ((i : Int) < (n : Int)) = true := decide_eq_true (by omega)
      have dl2 : decide (i < n) = true := decide_eq_true hlt
      have hil : i < (x :: r).length := by rw [← HN.out]; exact hlt
      obtain ⟨s, hs⟩ : ∃ s, s = (x :: r)[i] := ⟨_, rfl⟩
      have hd48 : s.data.length ≤ 1000 := by rw [hs]; exact HD.out _ (List.getElem_mem hil)
      obtain ⟨hbw, dA, dc, rA, p0, p1, p2, p3, p4⟩ := HS.out.at_ i hil
      rw [← hs] at rA p0 p1 p2 p3 p4
      obtain ⟨kd, hkd⟩ : ∃ z, z = s.kind := ⟨_, rfl⟩
      obtain ⟨ep, hep⟩ : ∃ z, z = s.epoch := ⟨_, rfl⟩
      obtain ⟨nu, hnu⟩ : ∃ z, z = s.number := ⟨_, rfl⟩
      obtain ⟨lf, hlf⟩ : ∃ z, z = s.left := ⟨_, rfl⟩
      obtain ⟨dl', hdl⟩ : ∃ z, z = s.data.length := ⟨_, rfl⟩
      rw [← hkd] at p0
      rw [← hep] at p1
      rw [← hnu] at p2
      rw [← hlf] at p3
      rw [← hdl] at p4
      have u0 := (HB.out.cell (p := ⟨b, off + i * 5, none⟩) hbw).trans p0
      have u1 := (HB.out.cell (p := ⟨b, off + i * 5 + 1, none⟩) hbw).trans p1
      have u2 := (HB.out.cell (p := ⟨b, off + i * 5 + 2, none⟩) hbw).trans p2
      have u3 := (HB.out.cell (p := ⟨b, off + i * 5 + 3, none⟩) hbw).trans p3
      have u4 := (HB.out.cell (p := ⟨b, off + i * 5 + 4, none⟩) hbw).trans p4
      have HSd : Hid (s = ⟨kd, ep, nu, lf, s.data⟩ ∧ dl' = s.data.length ∧ s = (x :: r)[i]'hil) := ⟨by rw [hkd, hep, hnu, hlf], hdl, hs⟩
      have HRA : Hid (∀ W, Below w.heap.size w W → Reads W W.heap.size 1 dA dl' (cells s.data)) := fun W hb => by
        have h2 := rb_up7 rA hb
        unfold RB at h2
        rw [← hdl] at h2
        exact h2
      have HDl : Hid (dl' ≤ 1000) := by show dl' ≤ 1000; rw [hdl]; exact hd48
      obtain ⟨kz, hkz⟩ : ∃ z : Int, z = if i = 0 then k0 else k0 + 1 := ⟨_, rfl⟩
      obtain ⟨nz, hnz⟩ : ∃ z : Int, z = n0 + (i : Int) := ⟨_, rfl⟩
      obtain ⟨lz, hlz⟩ : ∃ z, z = n - 1 - i := ⟨_, rfl⟩
      have HHd : Hid (x.headAt n i = ⟨kz, e0, nz, (lz : Int), []⟩) := by
        show _ = _
        unfold Sd.headAt
        rw [hkz, hnz, hlz, HK.out.1, HK.out.2.1, HK.out.2.2.1]
      have HMy : Hid (∀ W, Calls Try.prog 58 #[.agg #[.int .i64 kd, .int .i64 ep, .int .i64 nu, .int .i64 lf, .slice dA dl' dc]] W fun e w' => e = .returned (.bool s.may) ∧ Below W.heap.size W w') := fun W => by
        have h1 := maybe_any s dA dc W
        unfold secV at h1
        rw [← hkd, ← hep, ← hnu, ← hlf, ← hdl] at h1
        exact h1
      have HFi : Hid (∀ W, Calls Try.prog 66 #[.agg #[.int .i64 kd, .int .i64 ep, .int .i64 nu, .int .i64 lf, .slice dA dl' dc]] W fun e w' => e = .returned (.bool s.fills) ∧ Below W.heap.size W w') := fun W => by
        have h1 := fills_any s dA dc W
        unfold secV at h1
        rw [← hkd, ← hep, ← hnu, ← hlf, ← hdl] at h1
        exact h1
      have HSm : Hid (∀ W, Calls Try.prog 65 #[.agg #[.int .i64 kd, .int .i64 ep, .int .i64 nu, .int .i64 lf, .slice dA dl' dc], .agg #[.int .i64 kz, .int .i64 e0, .int .i64 nz, .int .i64 (lz : Int), .slice none 0 0]] W fun e w' => e = .returned (.bool (s.same (x.headAt n i))) ∧ Below W.heap.size W w') := fun W => by
        have h1 := same_any s (x.headAt n i) dA none dc 0 W
        rw [HHd.out] at h1 ⊢
        unfold secV at h1
        rw [← hkd, ← hep, ← hnu, ← hlf, ← hdl] at h1
        exact h1
      have HAt : Hid (x.may = true → ∀ W, Calls Try.prog 55 #[.agg #[.int .i64 k0, .int .i64 e0, .int .i64 n0, .int .i64 l0, .slice dB bl bc], .int .i64 (i : Int), .int .i64 (n : Int)] W fun e w' => e = .returned (.agg #[.int .i64 kz, .int .i64 e0, .int .i64 nz, .int .i64 (lz : Int), .slice none 0 0]) ∧ Below W.heap.size W w') := fun hm W => by
        obtain ⟨m1, m2, _, _, m5, m6, _⟩ := (Sd.may_iff _).1 hm
        have h1 := at_any x dB bc n i W hlt (by omega) (IntWalk.i64_in _ (by omega)) (fun _ => IntWalk.i64_in _ (by omega))
        rw [HHd.out] at h1
        unfold secV at h1
        rw [← HK.out.1, ← HK.out.2.1, ← HK.out.2.2.1, ← HK.out.2.2.2.1, ← HK.out.2.2.2.2] at h1
        exact h1
      have HC : Hid (∀ W, Below (wr.alloc (.cells #[.int .i64 kd, .int .i64 ep, .int .i64 nu, .int .i64 lf, .slice dA dl' dc] 79)).heap.size (wr.alloc (.cells #[.int .i64 kd, .int .i64 ep, .int .i64 nu, .int .i64 lf, .slice dA dl' dc] 79)) W → W.cell? ⟨wr.heap.size, 0, none⟩ = some (.int .i64 kd) ∧ W.cell? ⟨wr.heap.size, 1, none⟩ = some (.int .i64 ep) ∧ W.cell? ⟨wr.heap.size, 2, none⟩ = some (.int .i64 nu) ∧ W.cell? ⟨wr.heap.size, 3, none⟩ = some (.int .i64 lf) ∧ W.cell? ⟨wr.heap.size, 4, none⟩ = some (.slice dA dl' dc) ∧ W.cell? ⟨b, off, none⟩ = some (.int .i64 k0) ∧ W.cell? ⟨b, off + 1, none⟩ = some (.int .i64 e0) ∧ W.cell? ⟨b, off + 2, none⟩ = some (.int .i64 n0) ∧ W.cell? ⟨b, off + 3, none⟩ = some (.int .i64 l0) ∧ W.cell? ⟨b, off + 4, none⟩ = some (.slice dB bl bc)) := fun W hb => by
        obtain ⟨t0, t1, t2, t3, t4⟩ := sec_at wr kd ep nu lf dA dl' dc W hb
        have hbW : Below w.heap.size w W := HB.out.trans ((((Below.refl _ _).alloc (Nat.le_refl _) _).trans (hb.mono (by simp))).mono HB.out.size)
        obtain ⟨z0, z1, z2, z3, z4⟩ := HQ.out
        exact ⟨t0, t1, t2, t3, t4, (hbW.cell (p := ⟨b, off, none⟩) hbw).trans z0, (hbW.cell (p := ⟨b, off + 1, none⟩) hbw).trans z1, (hbW.cell (p := ⟨b, off + 2, none⟩) hbw).trans z2, (hbW.cell (p := ⟨b, off + 3, none⟩) hbw).trans z3, (hbW.cell (p := ⟨b, off + 4, none⟩) hbw).trans z4⟩
      have hB0 : Hid (∀ W, Below (wr.alloc (.cells #[.int .i64 kd, .int .i64 ep, .int .i64 nu, .int .i64 lf, .slice dA dl' dc] 79)).heap.size (wr.alloc (.cells #[.int .i64 kd, .int .i64 ep, .int .i64 nu, .int .i64 lf, .slice dA dl' dc] 79)) W → Below wr.heap.size wr W) := fun W hb => ((Below.refl _ _).alloc (Nat.le_refl _) _).trans (hb.mono (by simp))
      have hm0 : s.may = true → x.may = true := fun hm => by
        by_cases hi0 : i = 0
        · subst hi0
          rw [hs] at hm
          exact hm
        · have := HP.out.2.2 0 (by omega) (by omega)
          unfold Sd.good at this
          simp only [Bool.and_eq_true] at this
          exact this.1
      have hgood : ∀ v1 v2 v3, s.may = v1 → s.same (x.headAt n i) = v2 → s.fills = v3 → Hid (x.good n i s = (v1 && (v2 && v3))) := fun v1 v2 v3 h1 h2 h3 => by
        show _ = _
        unfold Sd.good
        rw [h1, h2, h3]
      have HOdd : Hid (x.good n i s = false → joinS (x :: r) = ([], false)) := fun h => by
        refine join_odd hil ?_
        rw [← hs, ← HN.out]
        exact h
      clear p0 p1 p2 p3 p4 rA hkd hep hnu hlf hdl hkz hnz hlz hd48 hbw
      have y7 : IntKind.i64.wrap ((i : Int) + 1) = (i : Int) + 1 := IntWalk.i64_in _ (by omega)
      have dz : decide (0 < n) = true := decide_eq_true h0
      rcases (show s.may = false ∨ s.may = true by cases s.may <;> simp) with h1 | h1
      · have HGd := hgood false _ _ h1 rfl rfl
        rw [h1] at HMy
        have HR : Hid (∀ W, Below (wr.alloc (.cells #[.int .i64 kd, .int .i64 ep, .int .i64 nu, .int .i64 lf, .slice dA dl' dc] 79)).heap.size (wr.alloc (.cells #[.int .i64 kd, .int .i64 ep, .int .i64 nu, .int .i64 lf, .slice dA dl' dc] 79)) W → W.rangeAt wr.heap.size 0 [.int .i64 kd, .int .i64 ep, .int .i64 nu, .int .i64 lf, .slice dA dl' dc] ∧ W.rangeAt b off [.int .i64 k0, .int .i64 e0, .int .i64 n0, .int .i64 l0, .slice dB bl bc]) := fun W hb => by
          obtain ⟨t0, t1, t2, t3, t4, t5, t6, t7, t8, t9⟩ := HC.out W hb
          exact ⟨range5 t0 t1 t2 t3 t4, range5 t5 t6 t7 t8 t9⟩
        clear h1 hm0 hgood HAt
        go_wp2
        have b0 : Below (wr.alloc (.cells #[.int .i64 kd, .int .i64 ep, .int .i64 nu, .int .i64 lf, .slice dA dl' dc] 79)).heap.size (wr.alloc (.cells #[.int .i64 kd, .int .i64 ep, .int .i64 nu, .int .i64 lf, .slice dA dl' dc] 79)) (wr.alloc (.cells #[.int .i64 kd, .int .i64 ep, .int .i64 nu, .int .i64 lf, .slice dA dl' dc] 79)).drew := (Below.refl _ _).drew
        have hS0 := HR.out _ b0
        refine region_T (fun W => W.rangeAt wr.heap.size 0 [.int .i64 kd, .int .i64 ep, .int .i64 nu, .int .i64 lf, .slice dA dl' dc] ∧ W.rangeAt b off [.int .i64 k0, .int .i64 e0, .int .i64 n0, .int .i64 l0, .slice dB bl bc]) (fun _ => false) (by kernel_rfl) ?_
        refine any_asT rfl (listed' := #[false, false, false, false, false, false, false, false, false, false, false, false, false, false, false, false, false, false, false, false]) (by kernel_rfl) ?_
        refine take_d (i := 0) (.agg #[.int .i64 kd, .int .i64 ep, .int .i64 nu, .int .i64 lf, .slice dA dl' dc]) 14 rfl (by kernel_rfl) (by kernel_rfl) (by kernel_rfl) (by kernel_rfl) rfl (by kernel_rfl) (by kernel_rfl) (fun W hW => load_run 79 (.tmp 6) wr.heap.size 0 [.int .i64 kd, .int .i64 ep, .int .i64 nu, .int .i64 lf, .slice dA dl' dc] _ (by kernel_rfl) (by kernel_rfl) hW.1 Try.underlying79 rfl (by kernel_rfl) #[.int .i64 kd, .int .i64 ep, .int .i64 nu, .int .i64 lf, .slice dA dl' dc] rfl) hS0 (fun _ _ _ h => h) ?_
        simp only [Act.put, List.setIfInBounds_toArray, List.set_cons_zero, List.set_cons_succ]
        refine any_comes (i := 1) (by kernel_rfl) (op_enter 58 #[.agg #[.int .i64 kd, .int .i64 ep, .int .i64 nu, .int .i64 lf, .slice dA dl' dc]] (some 15) rfl (by kernel_rfl) (by kernel_rfl) (by kernel_rfl) ((HMy.out _).mono ?_))
        rintro e w1 ⟨rfl, m1⟩
        have b1 := b0.trans (m1.mono b0.size)
        have hS1 := HR.out _ b1
        refine ⟨_, rfl, hS1, ?_⟩
        simp only [Act.put, List.setIfInBounds_toArray, List.set_cons_zero, List.set_cons_succ]
        refine take_d (i := 2) (.bool true) 16 rfl (by kernel_rfl) (by kernel_rfl) (by kernel_rfl) (by kernel_rfl) rfl (by kernel_rfl) (by kernel_rfl) (fun W hW => by kernel_rfl) hS1 (fun _ _ _ h => h) ?_
        simp only [Act.put, List.setIfInBounds_toArray, List.set_cons_zero, List.set_cons_succ]
        refine take_d (i := 3) (.bool true) 17 rfl (by kernel_rfl) (by kernel_rfl) (by kernel_rfl) (by kernel_rfl) rfl (by kernel_rfl) (by kernel_rfl) (fun W hW => by kernel_rfl) hS1 (fun _ _ _ h => h) ?_
        simp only [Act.put, List.setIfInBounds_toArray, List.set_cons_zero, List.set_cons_succ]
        refine skip_d (i := 4) 18 rfl (by kernel_rfl) (by kernel_rfl) (by kernel_rfl) (by kernel_rfl) rfl (by kernel_rfl) (by kernel_rfl) hS1 (fun _ _ _ h => h) ?_
        simp only [Act.put, List.setIfInBounds_toArray, List.set_cons_zero, List.set_cons_succ]
        refine skip_d (i := 5) 19 rfl (by kernel_rfl) (by kernel_rfl) (by kernel_rfl) (by kernel_rfl) rfl (by kernel_rfl) (by kernel_rfl) hS1 (fun _ _ _ h => h) ?_
        simp only [Act.put, List.setIfInBounds_toArray, List.set_cons_zero, List.set_cons_succ]
        refine skip_d (i := 6) 20 rfl (by kernel_rfl) (by kernel_rfl) (by kernel_rfl) (by kernel_rfl) rfl (by kernel_rfl) (by kernel_rfl) hS1 (fun _ _ _ h => h) ?_
        simp only [Act.put, List.setIfInBounds_toArray, List.set_cons_zero, List.set_cons_succ]
        refine skip_d (i := 7) 21 rfl (by kernel_rfl) (by kernel_rfl) (by kernel_rfl) (by kernel_rfl) rfl (by kernel_rfl) (by kernel_rfl) hS1 (fun _ _ _ h => h) ?_
        simp only [Act.put, List.setIfInBounds_toArray, List.set_cons_zero, List.set_cons_succ]
        refine skip_d (i := 8) 22 rfl (by kernel_rfl) (by kernel_rfl) (by kernel_rfl) (by kernel_rfl) rfl (by kernel_rfl) (by kernel_rfl) hS1 (fun _ _ _ h => h) ?_
        simp only [Act.put, List.setIfInBounds_toArray, List.set_cons_zero, List.set_cons_succ]
        refine skip_d (i := 9) 23 rfl (by kernel_rfl) (by kernel_rfl) (by kernel_rfl) (by kernel_rfl) rfl (by kernel_rfl) (by kernel_rfl) hS1 (fun _ _ _ h => h) ?_
        simp only [Act.put, List.setIfInBounds_toArray, List.set_cons_zero, List.set_cons_succ]
        refine skip_d (i := 10) 24 rfl (by kernel_rfl) (by kernel_rfl) (by kernel_rfl) (by kernel_rfl) rfl (by kernel_rfl) (by kernel_rfl) hS1 (fun _ _ _ h => h) ?_
        simp only [Act.put, List.setIfInBounds_toArray, List.set_cons_zero, List.set_cons_succ]
        refine skip_d (i := 11) 25 rfl (by kernel_rfl) (by kernel_rfl) (by kernel_rfl) (by kernel_rfl) rfl (by kernel_rfl) (by kernel_rfl) hS1 (fun _ _ _ h => h) ?_
        simp only [Act.put, List.setIfInBounds_toArray, List.set_cons_zero, List.set_cons_succ]
        refine skip_d (i := 12) 26 rfl (by kernel_rfl) (by kernel_rfl) (by kernel_rfl) (by kernel_rfl) rfl (by kernel_rfl) (by kernel_rfl) hS1 (fun _ _ _ h => h) ?_
        simp only [Act.put, List.setIfInBounds_toArray, List.set_cons_zero, List.set_cons_succ]
        refine skip_d (i := 13) 27 rfl (by kernel_rfl) (by kernel_rfl) (by kernel_rfl) (by kernel_rfl) rfl (by kernel_rfl) (by kernel_rfl) hS1 (fun _ _ _ h => h) ?_
        simp only [Act.put, List.setIfInBounds_toArray, List.set_cons_zero, List.set_cons_succ]
        refine take_d (i := 14) (.bool true) 28 rfl (by kernel_rfl) (by kernel_rfl) (by kernel_rfl) (by kernel_rfl) rfl (by kernel_rfl) (by kernel_rfl) (fun W hW => by kernel_rfl) hS1 (fun _ _ _ h => h) ?_
        simp only [Act.put, List.setIfInBounds_toArray, List.set_cons_zero, List.set_cons_succ]
        refine take_d (i := 15) (.bool true) 29 rfl (by kernel_rfl) (by kernel_rfl) (by kernel_rfl) (by kernel_rfl) rfl (by kernel_rfl) (by kernel_rfl) (fun W hW => by kernel_rfl) hS1 (fun _ _ _ h => h) ?_
        simp only [Act.put, List.setIfInBounds_toArray, List.set_cons_zero, List.set_cons_succ]
        refine skip_d (i := 16) 30 rfl (by kernel_rfl) (by kernel_rfl) (by kernel_rfl) (by kernel_rfl) rfl (by kernel_rfl) (by kernel_rfl) hS1 (fun _ _ _ h => h) ?_
        simp only [Act.put, List.setIfInBounds_toArray, List.set_cons_zero, List.set_cons_succ]
        refine skip_d (i := 17) 31 rfl (by kernel_rfl) (by kernel_rfl) (by kernel_rfl) (by kernel_rfl) rfl (by kernel_rfl) (by kernel_rfl) hS1 (fun _ _ _ h => h) ?_
        simp only [Act.put, List.setIfInBounds_toArray, List.set_cons_zero, List.set_cons_succ]
        refine skip_d (i := 18) 32 rfl (by kernel_rfl) (by kernel_rfl) (by kernel_rfl) (by kernel_rfl) rfl (by kernel_rfl) (by kernel_rfl) hS1 (fun _ _ _ h => h) ?_
        simp only [Act.put, List.setIfInBounds_toArray, List.set_cons_zero, List.set_cons_succ]
        refine take_d (i := 19) (.bool true) 33 rfl (by kernel_rfl) (by kernel_rfl) (by kernel_rfl) (by kernel_rfl) rfl (by kernel_rfl) (by kernel_rfl) (fun W hW => by kernel_rfl) hS1 (fun _ _ _ h => h) ?_
        simp only [Act.put, List.setIfInBounds_toArray, List.set_cons_zero, List.set_cons_succ]
        refine ⟨by kernel_rfl, ?_⟩
        all_goals
          have hbf := HB.out.trans ((hB0.out _ b1).mono HB.out.size)
          have HV := Lib.hid (HOdd.out (by rw [HGd.out]; rfl))
          go_wp2
          go_ret2
          exact ⟨none, 0, by rw [HV.out]; rfl, by rw [HV.out]; exact World.ownsRow_nil _ _ _ _, hbf⟩
      rcases (show s.same (x.headAt n i) = false ∨ s.same (x.headAt n i) = true by cases s.same (x.headAt n i) <;> simp) with h2 | h2
      · have HGd := hgood true false _ h1 h2 rfl
        rw [h1] at HMy
        have HAt := Lib.hid (HAt.out (hm0 h1))
        rw [h2] at HSm
        have HR : Hid (∀ W, Below (wr.alloc (.cells #[.int .i64 kd, .int .i64 ep, .int .i64 nu, .int .i64 lf, .slice dA dl' dc] 79)).heap.size (wr.alloc (.cells #[.int .i64 kd, .int .i64 ep, .int .i64 nu, .int .i64 lf, .slice dA dl' dc] 79)) W → W.rangeAt wr.heap.size 0 [.int .i64 kd, .int .i64 ep, .int .i64 nu, .int .i64 lf, .slice dA dl' dc] ∧ W.rangeAt b off [.int .i64 k0, .int .i64 e0, .int .i64 n0, .int .i64 l0, .slice dB bl bc]) := fun W hb => by
          obtain ⟨t0, t1, t2, t3, t4, t5, t6, t7, t8, t9⟩ := HC.out W hb
          exact ⟨range5 t0 t1 t2 t3 t4, range5 t5 t6 t7 t8 t9⟩
        clear h1 hm0 hgood h2
        go_wp2
        have b0 : Below (wr.alloc (.cells #[.int .i64 kd, .int .i64 ep, .int .i64 nu, .int .i64 lf, .slice dA dl' dc] 79)).heap.size (wr.alloc (.cells #[.int .i64 kd, .int .i64 ep, .int .i64 nu, .int .i64 lf, .slice dA dl' dc] 79)) (wr.alloc (.cells #[.int .i64 kd, .int .i64 ep, .int .i64 nu, .int .i64 lf, .slice dA dl' dc] 79)).drew := (Below.refl _ _).drew
        have hS0 := HR.out _ b0
        refine region_T (fun W => W.rangeAt wr.heap.size 0 [.int .i64 kd, .int .i64 ep, .int .i64 nu, .int .i64 lf, .slice dA dl' dc] ∧ W.rangeAt b off [.int .i64 k0, .int .i64 e0, .int .i64 n0, .int .i64 l0, .slice dB bl bc]) (fun _ => false) (by kernel_rfl) ?_
        refine any_asT rfl (listed' := #[false, false, false, false, false, false, false, false, false, false, false, false, false, false, false, false, false, false, false, false]) (by kernel_rfl) ?_
        refine take_d (i := 0) (.agg #[.int .i64 kd, .int .i64 ep, .int .i64 nu, .int .i64 lf, .slice dA dl' dc]) 14 rfl (by kernel_rfl) (by kernel_rfl) (by kernel_rfl) (by kernel_rfl) rfl (by kernel_rfl) (by kernel_rfl) (fun W hW => load_run 79 (.tmp 6) wr.heap.size 0 [.int .i64 kd, .int .i64 ep, .int .i64 nu, .int .i64 lf, .slice dA dl' dc] _ (by kernel_rfl) (by kernel_rfl) hW.1 Try.underlying79 rfl (by kernel_rfl) #[.int .i64 kd, .int .i64 ep, .int .i64 nu, .int .i64 lf, .slice dA dl' dc] rfl) hS0 (fun _ _ _ h => h) ?_
        simp only [Act.put, List.setIfInBounds_toArray, List.set_cons_zero, List.set_cons_succ]
        refine any_comes (i := 1) (by kernel_rfl) (op_enter 58 #[.agg #[.int .i64 kd, .int .i64 ep, .int .i64 nu, .int .i64 lf, .slice dA dl' dc]] (some 15) rfl (by kernel_rfl) (by kernel_rfl) (by kernel_rfl) ((HMy.out _).mono ?_))
        rintro e w1 ⟨rfl, m1⟩
        have b1 := b0.trans (m1.mono b0.size)
        have hS1 := HR.out _ b1
        refine ⟨_, rfl, hS1, ?_⟩
        simp only [Act.put, List.setIfInBounds_toArray, List.set_cons_zero, List.set_cons_succ]
        refine take_d (i := 2) (.bool false) 16 rfl (by kernel_rfl) (by kernel_rfl) (by kernel_rfl) (by kernel_rfl) rfl (by kernel_rfl) (by kernel_rfl) (fun W hW => by kernel_rfl) hS1 (fun _ _ _ h => h) ?_
        simp only [Act.put, List.setIfInBounds_toArray, List.set_cons_zero, List.set_cons_succ]
        refine take_d (i := 3) (.bool false) 17 rfl (by kernel_rfl) (by kernel_rfl) (by kernel_rfl) (by kernel_rfl) rfl (by kernel_rfl) (by kernel_rfl) (fun W hW => by kernel_rfl) hS1 (fun _ _ _ h => h) ?_
        simp only [Act.put, List.setIfInBounds_toArray, List.set_cons_zero, List.set_cons_succ]
        refine take_d (i := 4) (.agg #[.int .i64 kd, .int .i64 ep, .int .i64 nu, .int .i64 lf, .slice dA dl' dc]) 18 rfl (by kernel_rfl) (by kernel_rfl) (by kernel_rfl) (by kernel_rfl) rfl (by kernel_rfl) (by kernel_rfl) (fun W hW => load_run 79 (.tmp 6) wr.heap.size 0 [.int .i64 kd, .int .i64 ep, .int .i64 nu, .int .i64 lf, .slice dA dl' dc] _ (by kernel_rfl) (by kernel_rfl) hW.1 Try.underlying79 rfl (by kernel_rfl) #[.int .i64 kd, .int .i64 ep, .int .i64 nu, .int .i64 lf, .slice dA dl' dc] rfl) hS1 (fun _ _ _ h => h) ?_
        simp only [Act.put, List.setIfInBounds_toArray, List.set_cons_zero, List.set_cons_succ]
        refine take_d (i := 5) (.slice (some ⟨b, off, none⟩) n c) 19 rfl (by kernel_rfl) (by kernel_rfl) (by kernel_rfl) (by kernel_rfl) rfl (by kernel_rfl) (by kernel_rfl) (fun W hW => by kernel_rfl) hS1 (fun _ _ _ h => h) ?_
        simp only [Act.put, List.setIfInBounds_toArray, List.set_cons_zero, List.set_cons_succ]
        refine take_d (i := 6) (.pointer (some ⟨b, off, none⟩)) 20 rfl (by kernel_rfl) (by kernel_rfl) (by kernel_rfl) (by kernel_rfl) rfl (by kernel_rfl) (by kernel_rfl) (fun W hW => idx_first b off n c (.tmp 19) (.const (.int .i64 0)) (by kernel_rfl) (by kernel_rfl) (by kernel_rfl) h0) hS1 (fun _ _ _ h => h) ?_
        simp only [Act.put, List.setIfInBounds_toArray, List.set_cons_zero, List.set_cons_succ]
        refine take_d (i := 7) (.agg #[.int .i64 k0, .int .i64 e0, .int .i64 n0, .int .i64 l0, .slice dB bl bc]) 21 rfl (by kernel_rfl) (by kernel_rfl) (by kernel_rfl) (by kernel_rfl) rfl (by kernel_rfl) (by kernel_rfl) (fun W hW => load_run 79 (.tmp 20) b off [.int .i64 k0, .int .i64 e0, .int .i64 n0, .int .i64 l0, .slice dB bl bc] _ (by kernel_rfl) (by kernel_rfl) hW.2 Try.underlying79 rfl (by kernel_rfl) #[.int .i64 k0, .int .i64 e0, .int .i64 n0, .int .i64 l0, .slice dB bl bc] rfl) hS1 (fun _ _ _ h => h) ?_
        simp only [Act.put, List.setIfInBounds_toArray, List.set_cons_zero, List.set_cons_succ]
        refine take_d (i := 8) (.int .i64 (i : Int)) 22 rfl (by kernel_rfl) (by kernel_rfl) (by kernel_rfl) (by kernel_rfl) rfl (by kernel_rfl) (by kernel_rfl) (fun W hW => by kernel_rfl) hS1 (fun _ _ _ h => h) ?_
        simp only [Act.put, List.setIfInBounds_toArray, List.set_cons_zero, List.set_cons_succ]
        refine take_d (i := 9) (.slice (some ⟨b, off, none⟩) n c) 23 rfl (by kernel_rfl) (by kernel_rfl) (by kernel_rfl) (by kernel_rfl) rfl (by kernel_rfl) (by kernel_rfl) (fun W hW => by kernel_rfl) hS1 (fun _ _ _ h => h) ?_
        simp only [Act.put, List.setIfInBounds_toArray, List.set_cons_zero, List.set_cons_succ]
        refine take_d (i := 10) (.int .i64 (n : Int)) 24 rfl (by kernel_rfl) (by kernel_rfl) (by kernel_rfl) (by kernel_rfl) rfl (by kernel_rfl) (by kernel_rfl) (fun W hW => by kernel_rfl) hS1 (fun _ _ _ h => h) ?_
        simp only [Act.put, List.setIfInBounds_toArray, List.set_cons_zero, List.set_cons_succ]
        refine any_comes (i := 11) (by kernel_rfl) (op_enter 55 #[.agg #[.int .i64 k0, .int .i64 e0, .int .i64 n0, .int .i64 l0, .slice dB bl bc], .int .i64 (i : Int), .int .i64 (n : Int)] (some 25) rfl (by kernel_rfl) (by kernel_rfl) (by kernel_rfl) ((HAt.out _).mono ?_))
        rintro e w2 ⟨rfl, m2⟩
        have b2 := b1.trans (m2.mono b1.size)
        have hS2 := HR.out _ b2
        refine ⟨_, rfl, hS2, ?_⟩
        simp only [Act.put, List.setIfInBounds_toArray, List.set_cons_zero, List.set_cons_succ]
        refine any_comes (i := 12) (by kernel_rfl) (op_enter 65 #[.agg #[.int .i64 kd, .int .i64 ep, .int .i64 nu, .int .i64 lf, .slice dA dl' dc], .agg #[.int .i64 kz, .int .i64 e0, .int .i64 nz, .int .i64 (lz : Int), .slice none 0 0]] (some 26) rfl (by kernel_rfl) (by kernel_rfl) (by kernel_rfl) ((HSm.out _).mono ?_))
        rintro e w3 ⟨rfl, m3⟩
        have b3 := b2.trans (m3.mono b2.size)
        have hS3 := HR.out _ b3
        refine ⟨_, rfl, hS3, ?_⟩
        simp only [Act.put, List.setIfInBounds_toArray, List.set_cons_zero, List.set_cons_succ]
        refine take_d (i := 13) (.bool true) 27 rfl (by kernel_rfl) (by kernel_rfl) (by kernel_rfl) (by kernel_rfl) rfl (by kernel_rfl) (by kernel_rfl) (fun W hW => by kernel_rfl) hS3 (fun _ _ _ h => h) ?_
        simp only [Act.put, List.setIfInBounds_toArray, List.set_cons_zero, List.set_cons_succ]
        refine take_d (i := 14) (.bool true) 28 rfl (by kernel_rfl) (by kernel_rfl) (by kernel_rfl) (by kernel_rfl) rfl (by kernel_rfl) (by kernel_rfl) (fun W hW => by kernel_rfl) hS3 (fun _ _ _ h => h) ?_
        simp only [Act.put, List.setIfInBounds_toArray, List.set_cons_zero, List.set_cons_succ]
        refine take_d (i := 15) (.bool true) 29 rfl (by kernel_rfl) (by kernel_rfl) (by kernel_rfl) (by kernel_rfl) rfl (by kernel_rfl) (by kernel_rfl) (fun W hW => by kernel_rfl) hS3 (fun _ _ _ h => h) ?_
        simp only [Act.put, List.setIfInBounds_toArray, List.set_cons_zero, List.set_cons_succ]
        refine skip_d (i := 16) 30 rfl (by kernel_rfl) (by kernel_rfl) (by kernel_rfl) (by kernel_rfl) rfl (by kernel_rfl) (by kernel_rfl) hS3 (fun _ _ _ h => h) ?_
        simp only [Act.put, List.setIfInBounds_toArray, List.set_cons_zero, List.set_cons_succ]
        refine skip_d (i := 17) 31 rfl (by kernel_rfl) (by kernel_rfl) (by kernel_rfl) (by kernel_rfl) rfl (by kernel_rfl) (by kernel_rfl) hS3 (fun _ _ _ h => h) ?_
        simp only [Act.put, List.setIfInBounds_toArray, List.set_cons_zero, List.set_cons_succ]
        refine skip_d (i := 18) 32 rfl (by kernel_rfl) (by kernel_rfl) (by kernel_rfl) (by kernel_rfl) rfl (by kernel_rfl) (by kernel_rfl) hS3 (fun _ _ _ h => h) ?_
        simp only [Act.put, List.setIfInBounds_toArray, List.set_cons_zero, List.set_cons_succ]
        refine take_d (i := 19) (.bool true) 33 rfl (by kernel_rfl) (by kernel_rfl) (by kernel_rfl) (by kernel_rfl) rfl (by kernel_rfl) (by kernel_rfl) (fun W hW => by kernel_rfl) hS3 (fun _ _ _ h => h) ?_
        simp only [Act.put, List.setIfInBounds_toArray, List.set_cons_zero, List.set_cons_succ]
        refine ⟨by kernel_rfl, ?_⟩
        all_goals
          have hbf := HB.out.trans ((hB0.out _ b3).mono HB.out.size)
          have HV := Lib.hid (HOdd.out (by rw [HGd.out]; rfl))
          go_wp2
          go_ret2
          exact ⟨none, 0, by rw [HV.out]; rfl, by rw [HV.out]; exact World.ownsRow_nil _ _ _ _, hbf⟩
      rcases (show s.fills = false ∨ s.fills = true by cases s.fills <;> simp) with h3 | h3
      · have HGd := hgood true true false h1 h2 h3
        rw [h1] at HMy
        have HAt := Lib.hid (HAt.out (hm0 h1))
        rw [h2] at HSm
        rw [h3] at HFi
        have HR : Hid (∀ W, Below (wr.alloc (.cells #[.int .i64 kd, .int .i64 ep, .int .i64 nu, .int .i64 lf, .slice dA dl' dc] 79)).heap.size (wr.alloc (.cells #[.int .i64 kd, .int .i64 ep, .int .i64 nu, .int .i64 lf, .slice dA dl' dc] 79)) W → W.rangeAt wr.heap.size 0 [.int .i64 kd, .int .i64 ep, .int .i64 nu, .int .i64 lf, .slice dA dl' dc] ∧ W.rangeAt b off [.int .i64 k0, .int .i64 e0, .int .i64 n0, .int .i64 l0, .slice dB bl bc]) := fun W hb => by
          obtain ⟨t0, t1, t2, t3, t4, t5, t6, t7, t8, t9⟩ := HC.out W hb
          exact ⟨range5 t0 t1 t2 t3 t4, range5 t5 t6 t7 t8 t9⟩
        clear h1 hm0 hgood h2 h3
        go_wp2
        have b0 : Below (wr.alloc (.cells #[.int .i64 kd, .int .i64 ep, .int .i64 nu, .int .i64 lf, .slice dA dl' dc] 79)).heap.size (wr.alloc (.cells #[.int .i64 kd, .int .i64 ep, .int .i64 nu, .int .i64 lf, .slice dA dl' dc] 79)) (wr.alloc (.cells #[.int .i64 kd, .int .i64 ep, .int .i64 nu, .int .i64 lf, .slice dA dl' dc] 79)).drew := (Below.refl _ _).drew
        have hS0 := HR.out _ b0
        refine region_T (fun W => W.rangeAt wr.heap.size 0 [.int .i64 kd, .int .i64 ep, .int .i64 nu, .int .i64 lf, .slice dA dl' dc] ∧ W.rangeAt b off [.int .i64 k0, .int .i64 e0, .int .i64 n0, .int .i64 l0, .slice dB bl bc]) (fun _ => false) (by kernel_rfl) ?_
        refine any_asT rfl (listed' := #[false, false, false, false, false, false, false, false, false, false, false, false, false, false, false, false, false, false, false, false]) (by kernel_rfl) ?_
        refine take_d (i := 0) (.agg #[.int .i64 kd, .int .i64 ep, .int .i64 nu, .int .i64 lf, .slice dA dl' dc]) 14 rfl (by kernel_rfl) (by kernel_rfl) (by kernel_rfl) (by kernel_rfl) rfl (by kernel_rfl) (by kernel_rfl) (fun W hW => load_run 79 (.tmp 6) wr.heap.size 0 [.int .i64 kd, .int .i64 ep, .int .i64 nu, .int .i64 lf, .slice dA dl' dc] _ (by kernel_rfl) (by kernel_rfl) hW.1 Try.underlying79 rfl (by kernel_rfl) #[.int .i64 kd, .int .i64 ep, .int .i64 nu, .int .i64 lf, .slice dA dl' dc] rfl) hS0 (fun _ _ _ h => h) ?_
        simp only [Act.put, List.setIfInBounds_toArray, List.set_cons_zero, List.set_cons_succ]
        refine any_comes (i := 1) (by kernel_rfl) (op_enter 58 #[.agg #[.int .i64 kd, .int .i64 ep, .int .i64 nu, .int .i64 lf, .slice dA dl' dc]] (some 15) rfl (by kernel_rfl) (by kernel_rfl) (by kernel_rfl) ((HMy.out _).mono ?_))
        rintro e w1 ⟨rfl, m1⟩
        have b1 := b0.trans (m1.mono b0.size)
        have hS1 := HR.out _ b1
        refine ⟨_, rfl, hS1, ?_⟩
        simp only [Act.put, List.setIfInBounds_toArray, List.set_cons_zero, List.set_cons_succ]
        refine take_d (i := 2) (.bool false) 16 rfl (by kernel_rfl) (by kernel_rfl) (by kernel_rfl) (by kernel_rfl) rfl (by kernel_rfl) (by kernel_rfl) (fun W hW => by kernel_rfl) hS1 (fun _ _ _ h => h) ?_
        simp only [Act.put, List.setIfInBounds_toArray, List.set_cons_zero, List.set_cons_succ]
        refine take_d (i := 3) (.bool false) 17 rfl (by kernel_rfl) (by kernel_rfl) (by kernel_rfl) (by kernel_rfl) rfl (by kernel_rfl) (by kernel_rfl) (fun W hW => by kernel_rfl) hS1 (fun _ _ _ h => h) ?_
        simp only [Act.put, List.setIfInBounds_toArray, List.set_cons_zero, List.set_cons_succ]
        refine take_d (i := 4) (.agg #[.int .i64 kd, .int .i64 ep, .int .i64 nu, .int .i64 lf, .slice dA dl' dc]) 18 rfl (by kernel_rfl) (by kernel_rfl) (by kernel_rfl) (by kernel_rfl) rfl (by kernel_rfl) (by kernel_rfl) (fun W hW => load_run 79 (.tmp 6) wr.heap.size 0 [.int .i64 kd, .int .i64 ep, .int .i64 nu, .int .i64 lf, .slice dA dl' dc] _ (by kernel_rfl) (by kernel_rfl) hW.1 Try.underlying79 rfl (by kernel_rfl) #[.int .i64 kd, .int .i64 ep, .int .i64 nu, .int .i64 lf, .slice dA dl' dc] rfl) hS1 (fun _ _ _ h => h) ?_
        simp only [Act.put, List.setIfInBounds_toArray, List.set_cons_zero, List.set_cons_succ]
        refine take_d (i := 5) (.slice (some ⟨b, off, none⟩) n c) 19 rfl (by kernel_rfl) (by kernel_rfl) (by kernel_rfl) (by kernel_rfl) rfl (by kernel_rfl) (by kernel_rfl) (fun W hW => by kernel_rfl) hS1 (fun _ _ _ h => h) ?_
        simp only [Act.put, List.setIfInBounds_toArray, List.set_cons_zero, List.set_cons_succ]
        refine take_d (i := 6) (.pointer (some ⟨b, off, none⟩)) 20 rfl (by kernel_rfl) (by kernel_rfl) (by kernel_rfl) (by kernel_rfl) rfl (by kernel_rfl) (by kernel_rfl) (fun W hW => idx_first b off n c (.tmp 19) (.const (.int .i64 0)) (by kernel_rfl) (by kernel_rfl) (by kernel_rfl) h0) hS1 (fun _ _ _ h => h) ?_
        simp only [Act.put, List.setIfInBounds_toArray, List.set_cons_zero, List.set_cons_succ]
        refine take_d (i := 7) (.agg #[.int .i64 k0, .int .i64 e0, .int .i64 n0, .int .i64 l0, .slice dB bl bc]) 21 rfl (by kernel_rfl) (by kernel_rfl) (by kernel_rfl) (by kernel_rfl) rfl (by kernel_rfl) (by kernel_rfl) (fun W hW => load_run 79 (.tmp 20) b off [.int .i64 k0, .int .i64 e0, .int .i64 n0, .int .i64 l0, .slice dB bl bc] _ (by kernel_rfl) (by kernel_rfl) hW.2 Try.underlying79 rfl (by kernel_rfl) #[.int .i64 k0, .int .i64 e0, .int .i64 n0, .int .i64 l0, .slice dB bl bc] rfl) hS1 (fun _ _ _ h => h) ?_
        simp only [Act.put, List.setIfInBounds_toArray, List.set_cons_zero, List.set_cons_succ]
        refine take_d (i := 8) (.int .i64 (i : Int)) 22 rfl (by kernel_rfl) (by kernel_rfl) (by kernel_rfl) (by kernel_rfl) rfl (by kernel_rfl) (by kernel_rfl) (fun W hW => by kernel_rfl) hS1 (fun _ _ _ h => h) ?_
        simp only [Act.put, List.setIfInBounds_toArray, List.set_cons_zero, List.set_cons_succ]
        refine take_d (i := 9) (.slice (some ⟨b, off, none⟩) n c) 23 rfl (by kernel_rfl) (by kernel_rfl) (by kernel_rfl) (by kernel_rfl) rfl (by kernel_rfl) (by kernel_rfl) (fun W hW => by kernel_rfl) hS1 (fun _ _ _ h => h) ?_
        simp only [Act.put, List.setIfInBounds_toArray, List.set_cons_zero, List.set_cons_succ]
        refine take_d (i := 10) (.int .i64 (n : Int)) 24 rfl (by kernel_rfl) (by kernel_rfl) (by kernel_rfl) (by kernel_rfl) rfl (by kernel_rfl) (by kernel_rfl) (fun W hW => by kernel_rfl) hS1 (fun _ _ _ h => h) ?_
        simp only [Act.put, List.setIfInBounds_toArray, List.set_cons_zero, List.set_cons_succ]
        refine any_comes (i := 11) (by kernel_rfl) (op_enter 55 #[.agg #[.int .i64 k0, .int .i64 e0, .int .i64 n0, .int .i64 l0, .slice dB bl bc], .int .i64 (i : Int), .int .i64 (n : Int)] (some 25) rfl (by kernel_rfl) (by kernel_rfl) (by kernel_rfl) ((HAt.out _).mono ?_))
        rintro e w2 ⟨rfl, m2⟩
        have b2 := b1.trans (m2.mono b1.size)
        have hS2 := HR.out _ b2
        refine ⟨_, rfl, hS2, ?_⟩
        simp only [Act.put, List.setIfInBounds_toArray, List.set_cons_zero, List.set_cons_succ]
        refine any_comes (i := 12) (by kernel_rfl) (op_enter 65 #[.agg #[.int .i64 kd, .int .i64 ep, .int .i64 nu, .int .i64 lf, .slice dA dl' dc], .agg #[.int .i64 kz, .int .i64 e0, .int .i64 nz, .int .i64 (lz : Int), .slice none 0 0]] (some 26) rfl (by kernel_rfl) (by kernel_rfl) (by kernel_rfl) ((HSm.out _).mono ?_))
        rintro e w3 ⟨rfl, m3⟩
        have b3 := b2.trans (m3.mono b2.size)
        have hS3 := HR.out _ b3
        refine ⟨_, rfl, hS3, ?_⟩
        simp only [Act.put, List.setIfInBounds_toArray, List.set_cons_zero, List.set_cons_succ]
        refine take_d (i := 13) (.bool false) 27 rfl (by kernel_rfl) (by kernel_rfl) (by kernel_rfl) (by kernel_rfl) rfl (by kernel_rfl) (by kernel_rfl) (fun W hW => by kernel_rfl) hS3 (fun _ _ _ h => h) ?_
        simp only [Act.put, List.setIfInBounds_toArray, List.set_cons_zero, List.set_cons_succ]
        refine take_d (i := 14) (.bool false) 28 rfl (by kernel_rfl) (by kernel_rfl) (by kernel_rfl) (by kernel_rfl) rfl (by kernel_rfl) (by kernel_rfl) (fun W hW => by kernel_rfl) hS3 (fun _ _ _ h => h) ?_
        simp only [Act.put, List.setIfInBounds_toArray, List.set_cons_zero, List.set_cons_succ]
        refine take_d (i := 15) (.bool false) 29 rfl (by kernel_rfl) (by kernel_rfl) (by kernel_rfl) (by kernel_rfl) rfl (by kernel_rfl) (by kernel_rfl) (fun W hW => by kernel_rfl) hS3 (fun _ _ _ h => h) ?_
        simp only [Act.put, List.setIfInBounds_toArray, List.set_cons_zero, List.set_cons_succ]
        refine take_d (i := 16) (.agg #[.int .i64 kd, .int .i64 ep, .int .i64 nu, .int .i64 lf, .slice dA dl' dc]) 30 rfl (by kernel_rfl) (by kernel_rfl) (by kernel_rfl) (by kernel_rfl) rfl (by kernel_rfl) (by kernel_rfl) (fun W hW => load_run 79 (.tmp 6) wr.heap.size 0 [.int .i64 kd, .int .i64 ep, .int .i64 nu, .int .i64 lf, .slice dA dl' dc] _ (by kernel_rfl) (by kernel_rfl) hW.1 Try.underlying79 rfl (by kernel_rfl) #[.int .i64 kd, .int .i64 ep, .int .i64 nu, .int .i64 lf, .slice dA dl' dc] rfl) hS3 (fun _ _ _ h => h) ?_
        simp only [Act.put, List.setIfInBounds_toArray, List.set_cons_zero, List.set_cons_succ]
        refine any_comes (i := 17) (by kernel_rfl) (op_enter 66 #[.agg #[.int .i64 kd, .int .i64 ep, .int .i64 nu, .int .i64 lf, .slice dA dl' dc]] (some 31) rfl (by kernel_rfl) (by kernel_rfl) (by kernel_rfl) ((HFi.out _).mono ?_))
        rintro e w4 ⟨rfl, m4⟩
        have b4 := b3.trans (m4.mono b3.size)
        have hS4 := HR.out _ b4
        refine ⟨_, rfl, hS4, ?_⟩
        simp only [Act.put, List.setIfInBounds_toArray, List.set_cons_zero, List.set_cons_succ]
        refine take_d (i := 18) (.bool true) 32 rfl (by kernel_rfl) (by kernel_rfl) (by kernel_rfl) (by kernel_rfl) rfl (by kernel_rfl) (by kernel_rfl) (fun W hW => by kernel_rfl) hS4 (fun _ _ _ h => h) ?_
        simp only [Act.put, List.setIfInBounds_toArray, List.set_cons_zero, List.set_cons_succ]
        refine take_d (i := 19) (.bool true) 33 rfl (by kernel_rfl) (by kernel_rfl) (by kernel_rfl) (by kernel_rfl) rfl (by kernel_rfl) (by kernel_rfl) (fun W hW => by kernel_rfl) hS4 (fun _ _ _ h => h) ?_
        simp only [Act.put, List.setIfInBounds_toArray, List.set_cons_zero, List.set_cons_succ]
        refine ⟨by kernel_rfl, ?_⟩
        all_goals
          have hbf := HB.out.trans ((hB0.out _ b4).mono HB.out.size)
          have HV := Lib.hid (HOdd.out (by rw [HGd.out]; rfl))
          go_wp2
          go_ret2
          exact ⟨none, 0, by rw [HV.out]; rfl, by rw [HV.out]; exact World.ownsRow_nil _ _ _ _, hbf⟩
      · have HGd := hgood true true true h1 h2 h3
        rw [h1] at HMy
        have HAt := Lib.hid (HAt.out (hm0 h1))
        rw [h2] at HSm
        rw [h3] at HFi
        have HR : Hid (∀ W, Below (wr.alloc (.cells #[.int .i64 kd, .int .i64 ep, .int .i64 nu, .int .i64 lf, .slice dA dl' dc] 79)).heap.size (wr.alloc (.cells #[.int .i64 kd, .int .i64 ep, .int .i64 nu, .int .i64 lf, .slice dA dl' dc] 79)) W → W.rangeAt wr.heap.size 0 [.int .i64 kd, .int .i64 ep, .int .i64 nu, .int .i64 lf, .slice dA dl' dc] ∧ W.rangeAt b off [.int .i64 k0, .int .i64 e0, .int .i64 n0, .int .i64 l0, .slice dB bl bc]) := fun W hb => by
          obtain ⟨t0, t1, t2, t3, t4, t5, t6, t7, t8, t9⟩ := HC.out W hb
          exact ⟨range5 t0 t1 t2 t3 t4, range5 t5 t6 t7 t8 t9⟩
        clear h1 hm0 hgood h2 h3
        go_wp2
        have b0 : Below (wr.alloc (.cells #[.int .i64 kd, .int .i64 ep, .int .i64 nu, .int .i64 lf, .slice dA dl' dc] 79)).heap.size (wr.alloc (.cells #[.int .i64 kd, .int .i64 ep, .int .i64 nu, .int .i64 lf, .slice dA dl' dc] 79)) (wr.alloc (.cells #[.int .i64 kd, .int .i64 ep, .int .i64 nu, .int .i64 lf, .slice dA dl' dc] 79)).drew := (Below.refl _ _).drew
        have hS0 := HR.out _ b0
        refine region_T (fun W => W.rangeAt wr.heap.size 0 [.int .i64 kd, .int .i64 ep, .int .i64 nu, .int .i64 lf, .slice dA dl' dc] ∧ W.rangeAt b off [.int .i64 k0, .int .i64 e0, .int .i64 n0, .int .i64 l0, .slice dB bl bc]) (fun _ => false) (by kernel_rfl) ?_
        refine any_asT rfl (listed' := #[false, false, false, false, false, false, false, false, false, false, false, false, false, false, false, false, false, false, false, false]) (by kernel_rfl) ?_
        refine take_d (i := 0) (.agg #[.int .i64 kd, .int .i64 ep, .int .i64 nu, .int .i64 lf, .slice dA dl' dc]) 14 rfl (by kernel_rfl) (by kernel_rfl) (by kernel_rfl) (by kernel_rfl) rfl (by kernel_rfl) (by kernel_rfl) (fun W hW => load_run 79 (.tmp 6) wr.heap.size 0 [.int .i64 kd, .int .i64 ep, .int .i64 nu, .int .i64 lf, .slice dA dl' dc] _ (by kernel_rfl) (by kernel_rfl) hW.1 Try.underlying79 rfl (by kernel_rfl) #[.int .i64 kd, .int .i64 ep, .int .i64 nu, .int .i64 lf, .slice dA dl' dc] rfl) hS0 (fun _ _ _ h => h) ?_
        simp only [Act.put, List.setIfInBounds_toArray, List.set_cons_zero, List.set_cons_succ]
        refine any_comes (i := 1) (by kernel_rfl) (op_enter 58 #[.agg #[.int .i64 kd, .int .i64 ep, .int .i64 nu, .int .i64 lf, .slice dA dl' dc]] (some 15) rfl (by kernel_rfl) (by kernel_rfl) (by kernel_rfl) ((HMy.out _).mono ?_))
        rintro e w1 ⟨rfl, m1⟩
        have b1 := b0.trans (m1.mono b0.size)
        have hS1 := HR.out _ b1
        refine ⟨_, rfl, hS1, ?_⟩
        simp only [Act.put, List.setIfInBounds_toArray, List.set_cons_zero, List.set_cons_succ]
        refine take_d (i := 2) (.bool false) 16 rfl (by kernel_rfl) (by kernel_rfl) (by kernel_rfl) (by kernel_rfl) rfl (by kernel_rfl) (by kernel_rfl) (fun W hW => by kernel_rfl) hS1 (fun _ _ _ h => h) ?_
        simp only [Act.put, List.setIfInBounds_toArray, List.set_cons_zero, List.set_cons_succ]
        refine take_d (i := 3) (.bool false) 17 rfl (by kernel_rfl) (by kernel_rfl) (by kernel_rfl) (by kernel_rfl) rfl (by kernel_rfl) (by kernel_rfl) (fun W hW => by kernel_rfl) hS1 (fun _ _ _ h => h) ?_
        simp only [Act.put, List.setIfInBounds_toArray, List.set_cons_zero, List.set_cons_succ]
        refine take_d (i := 4) (.agg #[.int .i64 kd, .int .i64 ep, .int .i64 nu, .int .i64 lf, .slice dA dl' dc]) 18 rfl (by kernel_rfl) (by kernel_rfl) (by kernel_rfl) (by kernel_rfl) rfl (by kernel_rfl) (by kernel_rfl) (fun W hW => load_run 79 (.tmp 6) wr.heap.size 0 [.int .i64 kd, .int .i64 ep, .int .i64 nu, .int .i64 lf, .slice dA dl' dc] _ (by kernel_rfl) (by kernel_rfl) hW.1 Try.underlying79 rfl (by kernel_rfl) #[.int .i64 kd, .int .i64 ep, .int .i64 nu, .int .i64 lf, .slice dA dl' dc] rfl) hS1 (fun _ _ _ h => h) ?_
        simp only [Act.put, List.setIfInBounds_toArray, List.set_cons_zero, List.set_cons_succ]
        refine take_d (i := 5) (.slice (some ⟨b, off, none⟩) n c) 19 rfl (by kernel_rfl) (by kernel_rfl) (by kernel_rfl) (by kernel_rfl) rfl (by kernel_rfl) (by kernel_rfl) (fun W hW => by kernel_rfl) hS1 (fun _ _ _ h => h) ?_
        simp only [Act.put, List.setIfInBounds_toArray, List.set_cons_zero, List.set_cons_succ]
        refine take_d (i := 6) (.pointer (some ⟨b, off, none⟩)) 20 rfl (by kernel_rfl) (by kernel_rfl) (by kernel_rfl) (by kernel_rfl) rfl (by kernel_rfl) (by kernel_rfl) (fun W hW => idx_first b off n c (.tmp 19) (.const (.int .i64 0)) (by kernel_rfl) (by kernel_rfl) (by kernel_rfl) h0) hS1 (fun _ _ _ h => h) ?_
        simp only [Act.put, List.setIfInBounds_toArray, List.set_cons_zero, List.set_cons_succ]
        refine take_d (i := 7) (.agg #[.int .i64 k0, .int .i64 e0, .int .i64 n0, .int .i64 l0, .slice dB bl bc]) 21 rfl (by kernel_rfl) (by kernel_rfl) (by kernel_rfl) (by kernel_rfl) rfl (by kernel_rfl) (by kernel_rfl) (fun W hW => load_run 79 (.tmp 20) b off [.int .i64 k0, .int .i64 e0, .int .i64 n0, .int .i64 l0, .slice dB bl bc] _ (by kernel_rfl) (by kernel_rfl) hW.2 Try.underlying79 rfl (by kernel_rfl) #[.int .i64 k0, .int .i64 e0, .int .i64 n0, .int .i64 l0, .slice dB bl bc] rfl) hS1 (fun _ _ _ h => h) ?_
        simp only [Act.put, List.setIfInBounds_toArray, List.set_cons_zero, List.set_cons_succ]
        refine take_d (i := 8) (.int .i64 (i : Int)) 22 rfl (by kernel_rfl) (by kernel_rfl) (by kernel_rfl) (by kernel_rfl) rfl (by kernel_rfl) (by kernel_rfl) (fun W hW => by kernel_rfl) hS1 (fun _ _ _ h => h) ?_
        simp only [Act.put, List.setIfInBounds_toArray, List.set_cons_zero, List.set_cons_succ]
        refine take_d (i := 9) (.slice (some ⟨b, off, none⟩) n c) 23 rfl (by kernel_rfl) (by kernel_rfl) (by kernel_rfl) (by kernel_rfl) rfl (by kernel_rfl) (by kernel_rfl) (fun W hW => by kernel_rfl) hS1 (fun _ _ _ h => h) ?_
        simp only [Act.put, List.setIfInBounds_toArray, List.set_cons_zero, List.set_cons_succ]
        refine take_d (i := 10) (.int .i64 (n : Int)) 24 rfl (by kernel_rfl) (by kernel_rfl) (by kernel_rfl) (by kernel_rfl) rfl (by kernel_rfl) (by kernel_rfl) (fun W hW => by kernel_rfl) hS1 (fun _ _ _ h => h) ?_
        simp only [Act.put, List.setIfInBounds_toArray, List.set_cons_zero, List.set_cons_succ]
        refine any_comes (i := 11) (by kernel_rfl) (op_enter 55 #[.agg #[.int .i64 k0, .int .i64 e0, .int .i64 n0, .int .i64 l0, .slice dB bl bc], .int .i64 (i : Int), .int .i64 (n : Int)] (some 25) rfl (by kernel_rfl) (by kernel_rfl) (by kernel_rfl) ((HAt.out _).mono ?_))
        rintro e w2 ⟨rfl, m2⟩
        have b2 := b1.trans (m2.mono b1.size)
        have hS2 := HR.out _ b2
        refine ⟨_, rfl, hS2, ?_⟩
        simp only [Act.put, List.setIfInBounds_toArray, List.set_cons_zero, List.set_cons_succ]
        refine any_comes (i := 12) (by kernel_rfl) (op_enter 65 #[.agg #[.int .i64 kd, .int .i64 ep, .int .i64 nu, .int .i64 lf, .slice dA dl' dc], .agg #[.int .i64 kz, .int .i64 e0, .int .i64 nz, .int .i64 (lz : Int), .slice none 0 0]] (some 26) rfl (by kernel_rfl) (by kernel_rfl) (by kernel_rfl) ((HSm.out _).mono ?_))
        rintro e w3 ⟨rfl, m3⟩
        have b3 := b2.trans (m3.mono b2.size)
        have hS3 := HR.out _ b3
        refine ⟨_, rfl, hS3, ?_⟩
        simp only [Act.put, List.setIfInBounds_toArray, List.set_cons_zero, List.set_cons_succ]
        refine take_d (i := 13) (.bool false) 27 rfl (by kernel_rfl) (by kernel_rfl) (by kernel_rfl) (by kernel_rfl) rfl (by kernel_rfl) (by kernel_rfl) (fun W hW => by kernel_rfl) hS3 (fun _ _ _ h => h) ?_
        simp only [Act.put, List.setIfInBounds_toArray, List.set_cons_zero, List.set_cons_succ]
        refine take_d (i := 14) (.bool false) 28 rfl (by kernel_rfl) (by kernel_rfl) (by kernel_rfl) (by kernel_rfl) rfl (by kernel_rfl) (by kernel_rfl) (fun W hW => by kernel_rfl) hS3 (fun _ _ _ h => h) ?_
        simp only [Act.put, List.setIfInBounds_toArray, List.set_cons_zero, List.set_cons_succ]
        refine take_d (i := 15) (.bool false) 29 rfl (by kernel_rfl) (by kernel_rfl) (by kernel_rfl) (by kernel_rfl) rfl (by kernel_rfl) (by kernel_rfl) (fun W hW => by kernel_rfl) hS3 (fun _ _ _ h => h) ?_
        simp only [Act.put, List.setIfInBounds_toArray, List.set_cons_zero, List.set_cons_succ]
        refine take_d (i := 16) (.agg #[.int .i64 kd, .int .i64 ep, .int .i64 nu, .int .i64 lf, .slice dA dl' dc]) 30 rfl (by kernel_rfl) (by kernel_rfl) (by kernel_rfl) (by kernel_rfl) rfl (by kernel_rfl) (by kernel_rfl) (fun W hW => load_run 79 (.tmp 6) wr.heap.size 0 [.int .i64 kd, .int .i64 ep, .int .i64 nu, .int .i64 lf, .slice dA dl' dc] _ (by kernel_rfl) (by kernel_rfl) hW.1 Try.underlying79 rfl (by kernel_rfl) #[.int .i64 kd, .int .i64 ep, .int .i64 nu, .int .i64 lf, .slice dA dl' dc] rfl) hS3 (fun _ _ _ h => h) ?_
        simp only [Act.put, List.setIfInBounds_toArray, List.set_cons_zero, List.set_cons_succ]
        refine any_comes (i := 17) (by kernel_rfl) (op_enter 66 #[.agg #[.int .i64 kd, .int .i64 ep, .int .i64 nu, .int .i64 lf, .slice dA dl' dc]] (some 31) rfl (by kernel_rfl) (by kernel_rfl) (by kernel_rfl) ((HFi.out _).mono ?_))
        rintro e w4 ⟨rfl, m4⟩
        have b4 := b3.trans (m4.mono b3.size)
        have hS4 := HR.out _ b4
        refine ⟨_, rfl, hS4, ?_⟩
        simp only [Act.put, List.setIfInBounds_toArray, List.set_cons_zero, List.set_cons_succ]
        refine take_d (i := 18) (.bool false) 32 rfl (by kernel_rfl) (by kernel_rfl) (by kernel_rfl) (by kernel_rfl) rfl (by kernel_rfl) (by kernel_rfl) (fun W hW => by kernel_rfl) hS4 (fun _ _ _ h => h) ?_
        simp only [Act.put, List.setIfInBounds_toArray, List.set_cons_zero, List.set_cons_succ]
        refine take_d (i := 19) (.bool false) 33 rfl (by kernel_rfl) (by kernel_rfl) (by kernel_rfl) (by kernel_rfl) rfl (by kernel_rfl) (by kernel_rfl) (fun W hW => by kernel_rfl) hS4 (fun _ _ _ h => h) ?_
        simp only [Act.put, List.setIfInBounds_toArray, List.set_cons_zero, List.set_cons_succ]
        refine ⟨by kernel_rfl, ?_⟩
        all_goals
          have hbf := HB.out.trans ((hB0.out _ b4).mono HB.out.size)
          have ho4 := own_kept HO.out (hB0.out _ b4)
          have r4 := HRA.out _ hbf
          obtain ⟨t0, t1, t2, t3, t4, -, -, -, -, -⟩ := HC.out _ b4
          go_wp2_with (at_builtin; refine wpList_append_any _ rfl (.tmp 34) (.tmp 36) 38 rfl w.heap.size 5 i0 _ 1 1 Try.underlying38 hi0 hz0 hz1 hz2 rfl (by omega) (.slice A q k) q (cells P) rfl ho4 w4.heap.size dA dl' dc (cells s.data) rfl r4 (cells_one _) (by have := HDl.out; simp only [maxLen]; omega) (by have := HDl.out; omega) hbf.size ?_; intro v5 w5 ho5 hg5 hat5)
          obtain ⟨A5, c5, rfl⟩ := own_form ho5
          have b5 := hbf.grown hg5 hbf.size (fun j hj => (ho4.lt j hj).1)
          have hP5 : q + dl' = (P ++ s.data).length ∧ P ++ s.data = ((x :: r).take (i + 1)).flatMap (·.data) ∧ ∀ j (hj : j < (x :: r).length), j < i + 1 → x.good n j (x :: r)[j] = true := by
            obtain ⟨g1, g2, g3⟩ := HP.out
            refine ⟨by rw [List.length_append, HSd.out.2.1, g1], ?_, fun j hj hji => ?_⟩
            · rw [List.take_succ_eq_append_getElem hil, List.flatMap_append, g2, ← HSd.out.2.2]
              simp
            · by_cases hj1 : j < i
              · exact g3 j hj hj1
              · obtain rfl : j = i := by omega
                rw [← HSd.out.2.2, HGd.out]
                rfl
          have ho5' : Hid (w5.ownsRow w.heap.size 5 1 (.slice A5 (q + dl') c5) (q + dl') (cells (P ++ s.data))) := by rw [cells_append]; exact ho5
          have hq5 : q + dl' ≤ 1000 * (i + 1) := by have := HDl.out; omega
          clear ho5 hg5 hat5 ho4 r4 t0 t1 t2 t3 t4 hS0 hS1 hS2 hS3
          refine ⟨⟨i + 1, by omega, by go_num, A5, q + dl', c5, rfl, hq5, P ++ s.data, hP5, ho5', b5⟩, ?_⟩
          simp [intOf]; omega
    · obtain rfl : i = n := by omega
      have dl : decide ((i : Int) < (i : Int)) = false := decide_eq_false (by omega)
      have d5 : decide ((0 : Int) < (i : Int)) = true := decide_eq_true (by omega)
      have d6 : decide ((i : Int) > 0) = true := decide_eq_true (by omega)
      have hV : joinS (x :: r) = ((x :: r).flatMap (·.data), true) := join_good fun j hj => by
        have h9 := HP.out.2.2 j hj (by rw [HN.out]; exact hj)
        have h8 := HN.out
        rw [h8] at h9
        exact h9
      have hP : P = (x :: r).flatMap (·.data) := by
        rw [HP.out.2.1, List.take_of_length_le (by rw [← HN.out]; exact Nat.le_refl _)]
      have HG : Hid (GivesJo (joinS (x :: r)) w (.returned (.tuple #[.slice A q k, .bool true])) wr) := by
        refine ⟨A, k, ?_, ?_, HB.out⟩
        · rw [hV, ← hP, HP.out.1]
        · rw [hV, ← hP]
          have := HO.out
          rw [HP.out.1] at this
          exact this
      clear hV hP HP HO HB
      go_wp2
      go_ret2
      exact HG.out
theorem sjoin_own (l : List Sd) (A : Option Addr) (c : Nat) (w : World) (hS : SL w w.heap.size A l) (hl : l.length ≤ 20000) (hd : ∀ x ∈ l, x.data.length ≤ 1000) :
    Calls Try.prog 51 #[.slice A l.length c] w (GivesJo (joinS l) w) := by
  by_cases h : l.length = 0
  · obtain rfl : l = [] := List.eq_nil_of_length_eq_zero h
    exact sjoin_nil A c w
  · obtain ⟨b, off, rfl, _, _⟩ := hS (by omega)
    exact sjoin_some l _ b off c w rfl (by omega) hS hl hd
end Go.Proofs.Ytghenhacndaelaa
