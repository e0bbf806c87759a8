/- Lemmas under the proofs of this place: DiskHas, SectPJoin, SectRGetB, DiskRFlush. No statement is proved here. -/
import Derived.Test.YtghenhacndaelaaGreatBu18
import Derived.Test.YtghenhacndaelaaGreatBu14
import Derived.Test.YtghenhacndaelaaGreatBu08
import Derived.Test.YtghenhacndaelaaGreatBu15
import Derived.Test.YtghenhacndaelaaGreatBu17
import Derived.Deep.RegionHeld3
set_option linter.unusedSimpArgs false
set_option linter.unusedVariables false
set_option maxRecDepth 100000
set_option maxHeartbeats 16000000
namespace Go.Proofs.YtghenhacndaelaaGreat
section
open Go.RowKit
structure Has (w0 w : World) (g : Nat) (F : Nat → Prop) (d : Dk) : Prop where
  disk : PDisk w g F d
  below : Below w0.heap.size w0 w
  own : ∀ k, F k → w0.heap.size ≤ k
section
variable {w0 w w' : World} {g : Nat} {F F' : Nat → Prop} {d d' : Dk}
theorem Has.turned (h : Has w0 w g F d) (hp : PDisk w' g F' d') (ht : Turns w w' F F') : Has w0 w' g F' d' :=
  ⟨hp, h.below.trans (ht.below h.own h.below.size), fun k hk => by
    rcases ht.foot k hk with h1 | h1
    · exact h.own k h1
    · exact Nat.le_trans h.below.size h1⟩
theorem Has.deeds (h : Has w0 w g F d) (hd : Deeds d' F w w' g) : Has w0 w' g F d' := h.turned hd.1 hd.2
theorem Has.more (h : Has w0 w g F d) (hb : Below w.heap.size w w') : Has w0 w' g F d := h.turned (h.disk.below hb) (Turns.of_below hb F)
theorem Has.gives {D : Dk} (hb : Below w0.heap.size w0 w) (h : GivesDisk D w w' g F) : Has w0 w' g F D :=
  ⟨h.1, hb.trans (h.2.1.mono hb.size), fun k hk => Nat.le_trans hb.size (h.2.2 k hk)⟩
theorem Has.flt (h : Has w0 w g F d) : ∀ k, F k → k < w.heap.size := h.disk.flt
theorem chain6 {w0 w w' : World} (h : Below w0.heap.size w0 w) (k : Below w.heap.size w w') : Below w0.heap.size w0 w' := h.trans (k.mono h.size)
end
def Kept (w : World) (F : Nat → Prop) (A : Option Addr) (L : List UInt8) : Prop := RB w w.heap.size A L ∧ ∀ ad, A = some ad → ¬ F ad.block ∧ ad.block < w.heap.size
theorem Kept.turns {w w' : World} {F F' : Nat → Prop} {A : Option Addr} {L : List UInt8} (h : Kept w F A L) (ht : Turns w w' F F') : Kept w' F' A L := by
  refine ⟨(Reads.turns h.1 (Nat.le_refl _) ht (fun ad e => (h.2 ad e).1)).more ht.size, fun ad e => ⟨fun hf => ?_, Nat.lt_of_lt_of_le (h.2 ad e).2 ht.size⟩⟩
  rcases ht.foot _ hf with h1 | h1
  · exact (h.2 ad e).1 h1
  · have := (h.2 ad e).2; omega
theorem Kept.below {w w' : World} {F : Nat → Prop} {A : Option Addr} {L : List UInt8} (h : Kept w F A L) (hb : Below w.heap.size w w') : Kept w' F A L := h.turns (Turns.of_below hb F)
theorem Kept.no {w : World} {F : Nat → Prop} {A : Option Addr} {L : List UInt8} (h : Kept w F A L) : ∀ ad, A = some ad → ¬ F ad.block := fun ad e => (h.2 ad e).1
end
section
open Go.RowKit
def Sd.good (x : Sd) (n i : Nat) (s : Sd) : Bool := s.may && (s.same (x.headAt n i) && s.fills)
theorem Sd.same_iff (a b : Sd) : a.same b = true ↔ a.kind = b.kind ∧ a.epoch = b.epoch ∧ a.number = b.number ∧ a.left = b.left := by
  unfold Sd.same
  simp only [Bool.and_eq_true, decide_eq_true_eq]
theorem Sd.fills_iff (s : Sd) : s.fills = true ↔ (0 < s.left → s.data.length = 48) ∧ (¬ 0 < s.left → 0 < s.data.length) := by
  unfold Sd.fills
  by_cases h : 0 < s.left
  · rw [if_pos h]; simp [h]
  · rw [if_neg h]; simp [h]
theorem flat_at : ∀ (i : Nat) (l : List Sd), (∀ j (hj : j < l.length), j < i → l[j].data.length = 48) → i ≤ l.length → (l.flatMap (·.data)).drop (48 * i) = (l.drop i).flatMap (·.data)
  | 0, l, _, _ => by simp
  | i + 1, [], _, h => by simp at h
  | i + 1, x :: r, h48, h => by
    have h0 : x.data.length = 48 := h48 0 (by simp) (by omega)
    have ih := flat_at i r (fun j hj hji => h48 (j + 1) (by simp; omega) (by omega)) (by simpa using h)
    rw [List.flatMap_cons, show 48 * (i + 1) = 48 + 48 * i by omega, ← List.drop_drop, ← h0, List.drop_left, h0, ih]
    rfl
section
variable {x : Sd} {r : List Sd}
theorem join_good (h : ∀ i (hi : i < (x :: r).length), x.good (x :: r).length i (x :: r)[i] = true) : joinS (x :: r) = ((x :: r).flatMap (·.data), true) := by
  obtain ⟨l, hl⟩ : ∃ l, l = x :: r := ⟨_, rfl⟩
  rw [← hl] at h ⊢
  obtain ⟨n, hn⟩ : ∃ n, n = l.length := ⟨_, rfl⟩
  have h' : ∀ m, m = l.length → ∀ i (hi : i < l.length), x.good m i l[i] = true := fun m hm => by subst hm; exact h
  have h := h' n hn
  have hg : ∀ i (hi : i < n), l[i].may = true ∧ l[i].kind = (x.headAt n i).kind ∧ l[i].epoch = (x.headAt n i).epoch ∧ l[i].number = (x.headAt n i).number ∧ l[i].left = ((n - 1 - i : Nat) : Int) ∧ (i < n - 1 → l[i].data.length = 48) ∧ 0 < l[i].data.length ∧ l[i].data.length ≤ 48 := fun i hi => by
    have h1 := h i (by omega)
    unfold Sd.good at h1
    simp only [Bool.and_eq_true] at h1
    obtain ⟨h1, h2, h3⟩ := h1
    obtain ⟨s1, s2, s3, s4⟩ := (Sd.same_iff _ _).1 h2
    have s4 : l[i].left = ((n - 1 - i : Nat) : Int) := s4
    obtain ⟨f1, f2⟩ := (Sd.fills_iff _).1 h3
    have m9 := ((Sd.may_iff _).1 h1).2.2.2.2.2.2.2.2
    refine ⟨h1, s1, s2, s3, s4, fun hi2 => f1 (by omega), ?_, m9⟩
    by_cases h0 : 0 < l[i].left
    · have := f1 h0; omega
    · exact f2 h0
  have hn1 : 0 < n := by rw [hn, hl]; simp
  have hx : l[0]'(by omega) = x := by simp [hl]
  have h65 : n ≤ 65536 := by
    have h1 := hg 0 hn1
    have h2 := ((Sd.may_iff _).1 h1.1).2.2.2.2.2.2.2.1
    have h3 := h1.2.2.2.2.1
    omega
  obtain ⟨T, hT⟩ : ∃ T, T = l.flatMap (·.data) := ⟨_, rfl⟩
  have hdr : ∀ i, i < n → (T.drop (48 * i)) = (l.drop i).flatMap (·.data) := fun i hi => by
    rw [hT]
    exact flat_at i l (fun j hj hji => (hg j (by omega)).2.2.2.2.2.1 (by omega)) (by omega)
  have hat : ∀ i (hi : i < n), (T.drop (48 * i)).take 48 = l[i].data := fun i hi => by
    rw [hdr i hi, List.drop_eq_getElem_cons (by omega), List.flatMap_cons]
    by_cases h1 : i < n - 1
    · have := (hg i hi).2.2.2.2.2.1 h1
      rw [← this, List.take_left]
    · rw [List.drop_of_length_le (by omega), List.flatMap_nil, List.append_nil, List.take_of_length_le (hg i hi).2.2.2.2.2.2.2]
  have hlen : T.length = 48 * (n - 1) + (l[n - 1]'(by omega)).data.length := by
    have h1 := hdr (n - 1) (by omega)
    rw [List.drop_eq_getElem_cons (l := l) (i := n - 1) (by omega), List.flatMap_cons, List.drop_of_length_le (l := l) (by omega), List.flatMap_nil, List.append_nil] at h1
    have h2 := congrArg List.length h1
    rw [List.length_drop] at h2
    have h3 : 0 < (l[n - 1]'(by omega)).data.length := (hg (n - 1) (by omega)).2.2.2.2.2.2.1
    omega
  have hne : needN T.length = n := by
    have h1 := hg (n - 1) (by omega)
    unfold needN
    omega
  have hpart : ∀ i (hi : i < n), x.part T n i = l[i] := fun i hi => by
    obtain ⟨_, g1, g2, g3, g4, _⟩ := hg i hi
    rw [part_head, hat i hi, ← g1, ← g2, ← g3]
    have g5 : (x.headAt n i).left = l[i].left := g4.symm
    rw [g5]
  have hs : splitS x T = (l, 0) := by
    unfold splitS
    rw [hne, if_neg (by omega), if_neg (by omega), if_pos]
    · congr 1
      apply List.ext_getElem
      · simp [hn]
      · intro i h1 h2
        simp only [List.getElem_map, List.getElem_range]
        exact hpart i (by omega)
    · refine List.all_eq_true.2 fun i hi => ?_
      have hi := List.mem_range.1 hi
      rw [hpart i hi]
      exact (hg i hi).1
  rw [hl] at hs hT ⊢
  unfold joinS
  simp only
  rw [← hT, if_pos hs]
theorem join_odd {i : Nat} (hi : i < (x :: r).length) (h : x.good (x :: r).length i (x :: r)[i] = false) : joinS (x :: r) = ([], false) := by
  unfold joinS
  simp only
  rw [if_neg]
  intro hs
  obtain ⟨l, hl⟩ : ∃ l, l = x :: r := ⟨_, rfl⟩
  obtain ⟨T, hT⟩ : ∃ T, T = (x :: r).flatMap (·.data) := ⟨_, rfl⟩
  rw [← hT, ← hl] at hs
  simp only [← hl] at hi h
  unfold splitS at hs
  by_cases h0 : needN T.length = 0
  · rw [if_pos h0] at hs
    simp at hs
  rw [if_neg h0] at hs
  by_cases h1 : 65536 < needN T.length
  · rw [if_pos h1] at hs
    simp at hs
  rw [if_neg h1] at hs
  by_cases h2 : (List.range (needN T.length)).all (fun i => (x.part T (needN T.length) i).may) = true
  rotate_left
  · rw [if_neg h2] at hs
    simp at hs
  rw [if_pos h2] at hs
  obtain ⟨N, hN⟩ : ∃ N, N = needN T.length := ⟨_, rfl⟩
  rw [← hN] at hs h0 h2
  have hs := congrArg Prod.fst hs
  simp only at hs
  have hn : l.length = N := by rw [← hs]; simp
  have hli : l[i] = x.part T N i := by
    have : l[i]? = some (x.part T N i) := by
      rw [← hs, List.getElem?_map, List.getElem?_range (by omega)]
      rfl
    rw [List.getElem?_eq_getElem hi] at this
    injection this
  have hm : (x.part T N i).may = true := List.all_eq_true.1 h2 i (List.mem_range.2 (by omega))
  have hg : x.good N i (x.part T N i) = true := by
    unfold Sd.good
    rw [hm, Bool.true_and, Bool.and_eq_true]
    refine ⟨(Sd.same_iff _ _).2 ⟨rfl, rfl, rfl, rfl⟩, (Sd.fills_iff _).2 ?_⟩
    have e1 : (x.part T N i).left = ((N - 1 - i : Nat) : Int) := rfl
    have e2 : (x.part T N i).data.length = min 48 (T.length - 48 * i) := by
      show ((T.drop (48 * i)).take 48).length = _
      rw [List.length_take, List.length_drop]
    have e3 : N = (T.length + 47) / 48 := hN
    rw [e1, e2]
    exact ⟨fun _ => by omega, fun _ => by omega⟩
  rw [hli, hn, hg] at h
  cases h
end
theorem idx_first {o : Oper} {a : Act} {w : World} (b off n c : Nat) (x y : Operand) (ho : o.op = .indexAddr 43 x y) (hx : a.eval x = .slice (some ⟨b, off, none⟩) n c) (hy : a.eval y = .int .i64 0) (hi : 0 < n) :
    (execOp a.eval o).run Tryz.prog w = .ok (.value (.pointer (some ⟨b, off, none⟩))) w := by
  have h2 : (0 : Int) < (n : Int) := by omega
  have hu : (underlying 43).run Tryz.prog w = .ok (.slice 49) w := by kernel_rfl
  have hs : (sizeOf 49).run Tryz.prog w = .ok 5 w := by kernel_rfl
  unfold execOp
  simp [ho, hx, hy, Instr.indexAt, asIntOf, hu, hs, hi, h2, Addr.add]
theorem range5 {w : World} {b off : Nat} {v0 v1 v2 v3 v4 : Value} (h0 : w.cell? ⟨b, off, none⟩ = some v0) (h1 : w.cell? ⟨b, off + 1, none⟩ = some v1) (h2 : w.cell? ⟨b, off + 2, none⟩ = some v2) (h3 : w.cell? ⟨b, off + 3, none⟩ = some v3) (h4 : w.cell? ⟨b, off + 4, none⟩ = some v4) : w.rangeAt b off [v0, v1, v2, v3, v4] := by
  intro j v hj
  match j with
  | 0 => simp at hj; rw [← hj]; exact h0
  | 1 => simp at hj; rw [← hj]; exact h1
  | 2 => simp at hj; rw [← hj]; exact h2
  | 3 => simp at hj; rw [← hj]; exact h3
  | 4 => simp at hj; rw [← hj]; exact h4
  | j + 5 => simp at hj
theorem SL.at_ {w : World} {B b off : Nat} {l : List Sd} (h : SL w B (some ⟨b, off, none⟩) l) (i : Nat) (hi : i < l.length) : b < B ∧ ∃ dA dc, RB w B dA l[i].data ∧
    w.cell? ⟨b, off + i * 5, none⟩ = some (.int .i64 l[i].kind) ∧ w.cell? ⟨b, off + i * 5 + 1, none⟩ = some (.int .i64 l[i].epoch) ∧ w.cell? ⟨b, off + i * 5 + 2, none⟩ = some (.int .i64 l[i].number) ∧
    w.cell? ⟨b, off + i * 5 + 3, none⟩ = some (.int .i64 l[i].left) ∧ w.cell? ⟨b, off + i * 5 + 4, none⟩ = some (.slice dA l[i].data.length dc) := by
  obtain ⟨b', off', e, hb, hc⟩ := h (by omega)
  injection e with e
  injection e with e1 e2
  subst e1 e2
  exact ⟨hb, hc i hi⟩
theorem sjoin_nil (A : Option Addr) (c : Nat) (w : World) : Calls Tryz.prog 83 #[.slice A 0 c] w (GivesJo (joinS []) w) := by
  go_enter Tryz.func83, Tryz.ntmps83
  go_wp2
  go_loopw [4, 5, 6, 9] (fun v _ _ x wr => v = .slice none 0 0 ∧ x = .int .i64 0 ∧ wr = w) (fun _ _ _ _ _ => 0)
  case atStart => exact ⟨rfl, rfl, rfl⟩
  case round =>
    obtain ⟨rfl, rfl, rfl⟩ := hrel
    go_wp2
    go_ret2
    exact ⟨none, 0, rfl, World.ownsRow_nil _ _ _ _, Below.refl _ _⟩
theorem sjoin_some (l : List Sd) (n b off : Nat) (c : Nat) (w : World) (hn : n = l.length) (h0 : 0 < n) (hS : SL w w.heap.size (some ⟨b, off, none⟩) l) (hl : n ≤ 20000) (hd : ∀ x ∈ l, x.data.length ≤ 1000) :
    Calls Tryz.prog 83 #[.slice (some ⟨b, off, none⟩) n c] w (GivesJo (joinS l) w) := by
  obtain ⟨x, r, rfl⟩ : ∃ x r, l = x :: r := by
    cases l with
    | nil => simp at hn; omega
    | cons x r => exact ⟨x, r, rfl⟩
  obtain ⟨i0, hi0, hz0, hz1, hz2⟩ := info_parts Tryz.info5
  obtain ⟨hbw, dB, bc, rB, q0, q1, q2, q3, q4⟩ := hS.at_ 0 (by omega)
  simp only [Nat.zero_mul, Nat.add_zero, List.getElem_cons_zero] at rB q0 q1 q2 q3 q4
  obtain ⟨k0, hk0⟩ : ∃ z, z = x.kind := ⟨_, rfl⟩
  obtain ⟨e0, he0⟩ : ∃ z, z = x.epoch := ⟨_, rfl⟩
  obtain ⟨n0, hn0⟩ : ∃ z, z = x.number := ⟨_, rfl⟩
  obtain ⟨l0, hl0⟩ : ∃ z, z = x.left := ⟨_, rfl⟩
  obtain ⟨bl, hbl⟩ : ∃ z, z = x.data.length := ⟨_, rfl⟩
  rw [← hk0] at q0
  rw [← he0] at q1
  rw [← hn0] at q2
  rw [← hl0] at q3
  rw [← hbl] at q4
  have HK := Lib.hid (And.intro hk0 (And.intro he0 (And.intro hn0 (And.intro hl0 hbl))))
  have HQ := Lib.hid (And.intro q0 (And.intro q1 (And.intro q2 (And.intro q3 q4))))
  have HS := Lib.hid hS
  have HN := Lib.hid hn
  have HD := Lib.hid hd
  have HBw := Lib.hid hbw
  have a24 := fun w' => Tryz.aggSec w'
  have s24 := fun w' => Tryz.sizeSec w'
  clear hS hn hd q0 q1 q2 q3 q4 hk0 he0 hn0 hl0 hbl rB hbw
  go_enter Tryz.func83, Tryz.ntmps83
  go_wp2
  go_loopw [4, 5, 6, 9] (fun v _ _ y wr => ∃ i : Nat, i ≤ n ∧ y = .int .i64 (i : Int) ∧ ∃ (A : Option Addr) (q k : Nat), v = .slice A q k ∧ q ≤ 1000 * i ∧ ∃ P : List UInt8, Hid (q = P.length ∧ P = ((x :: r).take i).flatMap (·.data) ∧ ∀ j (hj : j < (x :: r).length), j < i → x.good n j (x :: r)[j] = true) ∧ Hid (wr.ownsRow w.heap.size 5 1 (.slice A q k) q (cells P)) ∧ Hid (Below w.heap.size w wr)) (fun _ _ _ y _ => n - (intOf y).toNat)
  case atStart => exact ⟨0, by omega, rfl, none, 0, 0, rfl, by omega, [], ⟨rfl, by simp, fun j _ hj => by omega⟩, World.ownsRow_nil _ _ _ _, Below.refl _ _⟩
  case round =>
    obtain ⟨i, hi, rfl, A, q, k, rfl, hq, P, HP, HO, HB⟩ := hrel
    by_cases hlt : i < n
    · have dl : decide ((i : Int) < (n : Int)) = true := decide_eq_true (by omega)
      have dl2 : decide (i < n) = true := decide_eq_true hlt
      have hil : i < (x :: r).length := by rw [← HN.out]; exact hlt
      obtain ⟨s, hs⟩ : ∃ s, s = (x :: r)[i] := ⟨_, rfl⟩
      have hd48 : s.data.length ≤ 1000 := by rw [hs]; exact HD.out _ (List.getElem_mem hil)
      obtain ⟨hbw, dA, dc, rA, p0, p1, p2, p3, p4⟩ := HS.out.at_ i hil
      rw [← hs] at rA p0 p1 p2 p3 p4
      obtain ⟨kd, hkd⟩ : ∃ z, z = s.kind := ⟨_, rfl⟩
      obtain ⟨ep, hep⟩ : ∃ z, z = s.epoch := ⟨_, rfl⟩
      obtain ⟨nu, hnu⟩ : ∃ z, z = s.number := ⟨_, rfl⟩
      obtain ⟨lf, hlf⟩ : ∃ z, z = s.left := ⟨_, rfl⟩
      obtain ⟨dl', hdl⟩ : ∃ z, z = s.data.length := ⟨_, rfl⟩
      rw [← hkd] at p0
      rw [← hep] at p1
      rw [← hnu] at p2
      rw [← hlf] at p3
      rw [← hdl] at p4
      have u0 := (HB.out.cell (p := ⟨b, off + i * 5, none⟩) hbw).trans p0
      have u1 := (HB.out.cell (p := ⟨b, off + i * 5 + 1, none⟩) hbw).trans p1
      have u2 := (HB.out.cell (p := ⟨b, off + i * 5 + 2, none⟩) hbw).trans p2
      have u3 := (HB.out.cell (p := ⟨b, off + i * 5 + 3, none⟩) hbw).trans p3
      have u4 := (HB.out.cell (p := ⟨b, off + i * 5 + 4, none⟩) hbw).trans p4
      have HSd : Hid (s = ⟨kd, ep, nu, lf, s.data⟩ ∧ dl' = s.data.length ∧ s = (x :: r)[i]'hil) := ⟨by rw [hkd, hep, hnu, hlf], hdl, hs⟩
      have HRA : Hid (∀ W, Below w.heap.size w W → Reads W W.heap.size 1 dA dl' (cells s.data)) := fun W hb => by
        have h2 := rb_up7 rA hb
        unfold RB at h2
        rw [← hdl] at h2
        exact h2
      have HDl : Hid (dl' ≤ 1000) := by show dl' ≤ 1000; rw [hdl]; exact hd48
      obtain ⟨kz, hkz⟩ : ∃ z : Int, z = if i = 0 then k0 else k0 + 1 := ⟨_, rfl⟩
      obtain ⟨nz, hnz⟩ : ∃ z : Int, z = n0 + (i : Int) := ⟨_, rfl⟩
      obtain ⟨lz, hlz⟩ : ∃ z, z = n - 1 - i := ⟨_, rfl⟩
      have HHd : Hid (x.headAt n i = ⟨kz, e0, nz, (lz : Int), []⟩) := by
        show _ = _
        unfold Sd.headAt
        rw [hkz, hnz, hlz, HK.out.1, HK.out.2.1, HK.out.2.2.1]
      have HMy : Hid (∀ W, Calls Tryz.prog 90 #[.agg #[.int .i64 kd, .int .i64 ep, .int .i64 nu, .int .i64 lf, .slice dA dl' dc]] W fun e w' => e = .returned (.bool s.may) ∧ Below W.heap.size W w') := fun W => by
        have h1 := maybe_any s dA dc W
        unfold secV at h1
        rw [← hkd, ← hep, ← hnu, ← hlf, ← hdl] at h1
        exact h1
      have HFi : Hid (∀ W, Calls Tryz.prog 100 #[.agg #[.int .i64 kd, .int .i64 ep, .int .i64 nu, .int .i64 lf, .slice dA dl' dc]] W fun e w' => e = .returned (.bool s.fills) ∧ Below W.heap.size W w') := fun W => by
        have h1 := fills_any s dA dc W
        unfold secV at h1
        rw [← hkd, ← hep, ← hnu, ← hlf, ← hdl] at h1
        exact h1
      have HSm : Hid (∀ W, Calls Tryz.prog 99 #[.agg #[.int .i64 kd, .int .i64 ep, .int .i64 nu, .int .i64 lf, .slice dA dl' dc], .agg #[.int .i64 kz, .int .i64 e0, .int .i64 nz, .int .i64 (lz : Int), .slice none 0 0]] W fun e w' => e = .returned (.bool (s.same (x.headAt n i))) ∧ Below W.heap.size W w') := fun W => by
        have h1 := same_any s (x.headAt n i) dA none dc 0 W
        rw [HHd.out] at h1 ⊢
        unfold secV at h1
        rw [← hkd, ← hep, ← hnu, ← hlf, ← hdl] at h1
        exact h1
      have HAt : Hid (x.may = true → ∀ W, Calls Tryz.prog 87 #[.agg #[.int .i64 k0, .int .i64 e0, .int .i64 n0, .int .i64 l0, .slice dB bl bc], .int .i64 (i : Int), .int .i64 (n : Int)] W fun e w' => e = .returned (.agg #[.int .i64 kz, .int .i64 e0, .int .i64 nz, .int .i64 (lz : Int), .slice none 0 0]) ∧ Below W.heap.size W w') := fun hm W => by
        obtain ⟨m1, m2, _, _, m5, m6, _⟩ := (Sd.may_iff _).1 hm
        have h1 := at_any x dB bc n i W hlt (by omega) (IntWalk.i64_in _ (by omega)) (fun _ => IntWalk.i64_in _ (by omega))
        rw [HHd.out] at h1
        unfold secV at h1
        rw [← HK.out.1, ← HK.out.2.1, ← HK.out.2.2.1, ← HK.out.2.2.2.1, ← HK.out.2.2.2.2] at h1
        exact h1
      have HC : Hid (∀ W, Below (wr.alloc (.cells #[.int .i64 kd, .int .i64 ep, .int .i64 nu, .int .i64 lf, .slice dA dl' dc] 49)).heap.size (wr.alloc (.cells #[.int .i64 kd, .int .i64 ep, .int .i64 nu, .int .i64 lf, .slice dA dl' dc] 49)) W → W.cell? ⟨wr.heap.size, 0, none⟩ = some (.int .i64 kd) ∧ W.cell? ⟨wr.heap.size, 1, none⟩ = some (.int .i64 ep) ∧ W.cell? ⟨wr.heap.size, 2, none⟩ = some (.int .i64 nu) ∧ W.cell? ⟨wr.heap.size, 3, none⟩ = some (.int .i64 lf) ∧ W.cell? ⟨wr.heap.size, 4, none⟩ = some (.slice dA dl' dc) ∧ W.cell? ⟨b, off, none⟩ = some (.int .i64 k0) ∧ W.cell? ⟨b, off + 1, none⟩ = some (.int .i64 e0) ∧ W.cell? ⟨b, off + 2, none⟩ = some (.int .i64 n0) ∧ W.cell? ⟨b, off + 3, none⟩ = some (.int .i64 l0) ∧ W.cell? ⟨b, off + 4, none⟩ = some (.slice dB bl bc)) := fun W hb => by
        obtain ⟨t0, t1, t2, t3, t4⟩ := sec_at wr kd ep nu lf dA dl' dc W hb
        have hbW : Below w.heap.size w W := HB.out.trans ((((Below.refl _ _).alloc (Nat.le_refl _) _).trans (hb.mono (by simp))).mono HB.out.size)
        obtain ⟨z0, z1, z2, z3, z4⟩ := HQ.out
        exact ⟨t0, t1, t2, t3, t4, (hbW.cell (p := ⟨b, off, none⟩) hbw).trans z0, (hbW.cell (p := ⟨b, off + 1, none⟩) hbw).trans z1, (hbW.cell (p := ⟨b, off + 2, none⟩) hbw).trans z2, (hbW.cell (p := ⟨b, off + 3, none⟩) hbw).trans z3, (hbW.cell (p := ⟨b, off + 4, none⟩) hbw).trans z4⟩
      have hB0 : Hid (∀ W, Below (wr.alloc (.cells #[.int .i64 kd, .int .i64 ep, .int .i64 nu, .int .i64 lf, .slice dA dl' dc] 49)).heap.size (wr.alloc (.cells #[.int .i64 kd, .int .i64 ep, .int .i64 nu, .int .i64 lf, .slice dA dl' dc] 49)) W → Below wr.heap.size wr W) := fun W hb => ((Below.refl _ _).alloc (Nat.le_refl _) _).trans (hb.mono (by simp))
      have hm0 : s.may = true → x.may = true := fun hm => by
        by_cases hi0 : i = 0
        · subst hi0
          rw [hs] at hm
          exact hm
        · have := HP.out.2.2 0 (by omega) (by omega)
          unfold Sd.good at this
          simp only [Bool.and_eq_true] at this
          exact this.1
      have hgood : ∀ v1 v2 v3, s.may = v1 → s.same (x.headAt n i) = v2 → s.fills = v3 → Hid (x.good n i s = (v1 && (v2 && v3))) := fun v1 v2 v3 h1 h2 h3 => by
        show _ = _
        unfold Sd.good
        rw [h1, h2, h3]
      have HOdd : Hid (x.good n i s = false → joinS (x :: r) = ([], false)) := fun h => by
        refine join_odd hil ?_
        rw [← hs, ← HN.out]
        exact h
      clear p0 p1 p2 p3 p4 rA hkd hep hnu hlf hdl hkz hnz hlz hd48 hbw
      have y7 : IntKind.i64.wrap ((i : Int) + 1) = (i : Int) + 1 := IntWalk.i64_in _ (by omega)
      have dz : decide (0 < n) = true := decide_eq_true h0
      rcases (show s.may = false ∨ s.may = true by cases s.may <;> simp) with h1 | h1
      · have HGd := hgood false _ _ h1 rfl rfl
        rw [h1] at HMy
        have HR : Hid (∀ W, Below (wr.alloc (.cells #[.int .i64 kd, .int .i64 ep, .int .i64 nu, .int .i64 lf, .slice dA dl' dc] 49)).heap.size (wr.alloc (.cells #[.int .i64 kd, .int .i64 ep, .int .i64 nu, .int .i64 lf, .slice dA dl' dc] 49)) W → W.rangeAt wr.heap.size 0 [.int .i64 kd, .int .i64 ep, .int .i64 nu, .int .i64 lf, .slice dA dl' dc] ∧ W.rangeAt b off [.int .i64 k0, .int .i64 e0, .int .i64 n0, .int .i64 l0, .slice dB bl bc]) := fun W hb => by
          obtain ⟨t0, t1, t2, t3, t4, t5, t6, t7, t8, t9⟩ := HC.out W hb
          exact ⟨range5 t0 t1 t2 t3 t4, range5 t5 t6 t7 t8 t9⟩
        clear h1 hm0 hgood HAt
        go_wp2
        have b0 : Below (wr.alloc (.cells #[.int .i64 kd, .int .i64 ep, .int .i64 nu, .int .i64 lf, .slice dA dl' dc] 49)).heap.size (wr.alloc (.cells #[.int .i64 kd, .int .i64 ep, .int .i64 nu, .int .i64 lf, .slice dA dl' dc] 49)) (wr.alloc (.cells #[.int .i64 kd, .int .i64 ep, .int .i64 nu, .int .i64 lf, .slice dA dl' dc] 49)).drew := (Below.refl _ _).drew
        have hS0 := HR.out _ b0
        refine region_T (fun W => W.rangeAt wr.heap.size 0 [.int .i64 kd, .int .i64 ep, .int .i64 nu, .int .i64 lf, .slice dA dl' dc] ∧ W.rangeAt b off [.int .i64 k0, .int .i64 e0, .int .i64 n0, .int .i64 l0, .slice dB bl bc]) (fun _ => false) (by kernel_rfl) ?_
        refine any_asT rfl (listed' := #[false, false, false, false, false, false, false, false, false, false, false, false, false, false, false, false, false, false, false, false]) (by kernel_rfl) ?_
        refine take_d (i := 0) (.agg #[.int .i64 kd, .int .i64 ep, .int .i64 nu, .int .i64 lf, .slice dA dl' dc]) 14 rfl (by kernel_rfl) (by kernel_rfl) (by kernel_rfl) (by kernel_rfl) rfl (by kernel_rfl) (by kernel_rfl) (fun W hW => load_run 49 (.tmp 6) wr.heap.size 0 [.int .i64 kd, .int .i64 ep, .int .i64 nu, .int .i64 lf, .slice dA dl' dc] _ (by kernel_rfl) (by kernel_rfl) hW.1 Tryz.underlying49 rfl (by kernel_rfl) #[.int .i64 kd, .int .i64 ep, .int .i64 nu, .int .i64 lf, .slice dA dl' dc] rfl) hS0 (fun _ _ _ h => h) ?_
        simp only [Act.put, List.setIfInBounds_toArray, List.set_cons_zero, List.set_cons_succ]
        refine any_comes (i := 1) (by kernel_rfl) (op_enter 90 #[.agg #[.int .i64 kd, .int .i64 ep, .int .i64 nu, .int .i64 lf, .slice dA dl' dc]] (some 15) rfl (by kernel_rfl) (by kernel_rfl) (by kernel_rfl) ((HMy.out _).mono ?_))
        rintro e w1 ⟨rfl, m1⟩
        have b1 := b0.trans (m1.mono b0.size)
        have hS1 := HR.out _ b1
        refine ⟨_, rfl, hS1, ?_⟩
        simp only [Act.put, List.setIfInBounds_toArray, List.set_cons_zero, List.set_cons_succ]
        refine take_d (i := 2) (.bool true) 16 rfl (by kernel_rfl) (by kernel_rfl) (by kernel_rfl) (by kernel_rfl) rfl (by kernel_rfl) (by kernel_rfl) (fun W hW => by kernel_rfl) hS1 (fun _ _ _ h => h) ?_
        simp only [Act.put, List.setIfInBounds_toArray, List.set_cons_zero, List.set_cons_succ]
        refine take_d (i := 3) (.bool true) 17 rfl (by kernel_rfl) (by kernel_rfl) (by kernel_rfl) (by kernel_rfl) rfl (by kernel_rfl) (by kernel_rfl) (fun W hW => by kernel_rfl) hS1 (fun _ _ _ h => h) ?_
        simp only [Act.put, List.setIfInBounds_toArray, List.set_cons_zero, List.set_cons_succ]
        refine skip_d (i := 4) 18 rfl (by kernel_rfl) (by kernel_rfl) (by kernel_rfl) (by kernel_rfl) rfl (by kernel_rfl) (by kernel_rfl) hS1 (fun _ _ _ h => h) ?_
        simp only [Act.put, List.setIfInBounds_toArray, List.set_cons_zero, List.set_cons_succ]
        refine skip_d (i := 5) 19 rfl (by kernel_rfl) (by kernel_rfl) (by kernel_rfl) (by kernel_rfl) rfl (by kernel_rfl) (by kernel_rfl) hS1 (fun _ _ _ h => h) ?_
        simp only [Act.put, List.setIfInBounds_toArray, List.set_cons_zero, List.set_cons_succ]
        refine skip_d (i := 6) 20 rfl (by kernel_rfl) (by kernel_rfl) (by kernel_rfl) (by kernel_rfl) rfl (by kernel_rfl) (by kernel_rfl) hS1 (fun _ _ _ h => h) ?_
        simp only [Act.put, List.setIfInBounds_toArray, List.set_cons_zero, List.set_cons_succ]
        refine skip_d (i := 7) 21 rfl (by kernel_rfl) (by kernel_rfl) (by kernel_rfl) (by kernel_rfl) rfl (by kernel_rfl) (by kernel_rfl) hS1 (fun _ _ _ h => h) ?_
        simp only [Act.put, List.setIfInBounds_toArray, List.set_cons_zero, List.set_cons_succ]
        refine skip_d (i := 8) 22 rfl (by kernel_rfl) (by kernel_rfl) (by kernel_rfl) (by kernel_rfl) rfl (by kernel_rfl) (by kernel_rfl) hS1 (fun _ _ _ h => h) ?_
        simp only [Act.put, List.setIfInBounds_toArray, List.set_cons_zero, List.set_cons_succ]
        refine skip_d (i := 9) 23 rfl (by kernel_rfl) (by kernel_rfl) (by kernel_rfl) (by kernel_rfl) rfl (by kernel_rfl) (by kernel_rfl) hS1 (fun _ _ _ h => h) ?_
        simp only [Act.put, List.setIfInBounds_toArray, List.set_cons_zero, List.set_cons_succ]
        refine skip_d (i := 10) 24 rfl (by kernel_rfl) (by kernel_rfl) (by kernel_rfl) (by kernel_rfl) rfl (by kernel_rfl) (by kernel_rfl) hS1 (fun _ _ _ h => h) ?_
        simp only [Act.put, List.setIfInBounds_toArray, List.set_cons_zero, List.set_cons_succ]
        refine skip_d (i := 11) 25 rfl (by kernel_rfl) (by kernel_rfl) (by kernel_rfl) (by kernel_rfl) rfl (by kernel_rfl) (by kernel_rfl) hS1 (fun _ _ _ h => h) ?_
        simp only [Act.put, List.setIfInBounds_toArray, List.set_cons_zero, List.set_cons_succ]
        refine skip_d (i := 12) 26 rfl (by kernel_rfl) (by kernel_rfl) (by kernel_rfl) (by kernel_rfl) rfl (by kernel_rfl) (by kernel_rfl) hS1 (fun _ _ _ h => h) ?_
        simp only [Act.put, List.setIfInBounds_toArray, List.set_cons_zero, List.set_cons_succ]
        refine skip_d (i := 13) 27 rfl (by kernel_rfl) (by kernel_rfl) (by kernel_rfl) (by kernel_rfl) rfl (by kernel_rfl) (by kernel_rfl) hS1 (fun _ _ _ h => h) ?_
        simp only [Act.put, List.setIfInBounds_toArray, List.set_cons_zero, List.set_cons_succ]
        refine take_d (i := 14) (.bool true) 28 rfl (by kernel_rfl) (by kernel_rfl) (by kernel_rfl) (by kernel_rfl) rfl (by kernel_rfl) (by kernel_rfl) (fun W hW => by kernel_rfl) hS1 (fun _ _ _ h => h) ?_
        simp only [Act.put, List.setIfInBounds_toArray, List.set_cons_zero, List.set_cons_succ]
        refine take_d (i := 15) (.bool true) 29 rfl (by kernel_rfl) (by kernel_rfl) (by kernel_rfl) (by kernel_rfl) rfl (by kernel_rfl) (by kernel_rfl) (fun W hW => by kernel_rfl) hS1 (fun _ _ _ h => h) ?_
        simp only [Act.put, List.setIfInBounds_toArray, List.set_cons_zero, List.set_cons_succ]
        refine skip_d (i := 16) 30 rfl (by kernel_rfl) (by kernel_rfl) (by kernel_rfl) (by kernel_rfl) rfl (by kernel_rfl) (by kernel_rfl) hS1 (fun _ _ _ h => h) ?_
        simp only [Act.put, List.setIfInBounds_toArray, List.set_cons_zero, List.set_cons_succ]
        refine skip_d (i := 17) 31 rfl (by kernel_rfl) (by kernel_rfl) (by kernel_rfl) (by kernel_rfl) rfl (by kernel_rfl) (by kernel_rfl) hS1 (fun _ _ _ h => h) ?_
        simp only [Act.put, List.setIfInBounds_toArray, List.set_cons_zero, List.set_cons_succ]
        refine skip_d (i := 18) 32 rfl (by kernel_rfl) (by kernel_rfl) (by kernel_rfl) (by kernel_rfl) rfl (by kernel_rfl) (by kernel_rfl) hS1 (fun _ _ _ h => h) ?_
        simp only [Act.put, List.setIfInBounds_toArray, List.set_cons_zero, List.set_cons_succ]
        refine take_d (i := 19) (.bool true) 33 rfl (by kernel_rfl) (by kernel_rfl) (by kernel_rfl) (by kernel_rfl) rfl (by kernel_rfl) (by kernel_rfl) (fun W hW => by kernel_rfl) hS1 (fun _ _ _ h => h) ?_
        simp only [Act.put, List.setIfInBounds_toArray, List.set_cons_zero, List.set_cons_succ]
        refine ⟨by kernel_rfl, ?_⟩
        all_goals
          have hbf := HB.out.trans ((hB0.out _ b1).mono HB.out.size)
          have HV := Lib.hid (HOdd.out (by rw [HGd.out]; rfl))
          go_wp2
          go_ret2
          exact ⟨none, 0, by rw [HV.out]; rfl, by rw [HV.out]; exact World.ownsRow_nil _ _ _ _, hbf⟩
      rcases (show s.same (x.headAt n i) = false ∨ s.same (x.headAt n i) = true by cases s.same (x.headAt n i) <;> simp) with h2 | h2
      · have HGd := hgood true false _ h1 h2 rfl
        rw [h1] at HMy
        have HAt := Lib.hid (HAt.out (hm0 h1))
        rw [h2] at HSm
        have HR : Hid (∀ W, Below (wr.alloc (.cells #[.int .i64 kd, .int .i64 ep, .int .i64 nu, .int .i64 lf, .slice dA dl' dc] 49)).heap.size (wr.alloc (.cells #[.int .i64 kd, .int .i64 ep, .int .i64 nu, .int .i64 lf, .slice dA dl' dc] 49)) W → W.rangeAt wr.heap.size 0 [.int .i64 kd, .int .i64 ep, .int .i64 nu, .int .i64 lf, .slice dA dl' dc] ∧ W.rangeAt b off [.int .i64 k0, .int .i64 e0, .int .i64 n0, .int .i64 l0, .slice dB bl bc]) := fun W hb => by
          obtain ⟨t0, t1, t2, t3, t4, t5, t6, t7, t8, t9⟩ := HC.out W hb
          exact ⟨range5 t0 t1 t2 t3 t4, range5 t5 t6 t7 t8 t9⟩
        clear h1 hm0 hgood h2
        go_wp2
        have b0 : Below (wr.alloc (.cells #[.int .i64 kd, .int .i64 ep, .int .i64 nu, .int .i64 lf, .slice dA dl' dc] 49)).heap.size (wr.alloc (.cells #[.int .i64 kd, .int .i64 ep, .int .i64 nu, .int .i64 lf, .slice dA dl' dc] 49)) (wr.alloc (.cells #[.int .i64 kd, .int .i64 ep, .int .i64 nu, .int .i64 lf, .slice dA dl' dc] 49)).drew := (Below.refl _ _).drew
        have hS0 := HR.out _ b0
        refine region_T (fun W => W.rangeAt wr.heap.size 0 [.int .i64 kd, .int .i64 ep, .int .i64 nu, .int .i64 lf, .slice dA dl' dc] ∧ W.rangeAt b off [.int .i64 k0, .int .i64 e0, .int .i64 n0, .int .i64 l0, .slice dB bl bc]) (fun _ => false) (by kernel_rfl) ?_
        refine any_asT rfl (listed' := #[false, false, false, false, false, false, false, false, false, false, false, false, false, false, false, false, false, false, false, false]) (by kernel_rfl) ?_
        refine take_d (i := 0) (.agg #[.int .i64 kd, .int .i64 ep, .int .i64 nu, .int .i64 lf, .slice dA dl' dc]) 14 rfl (by kernel_rfl) (by kernel_rfl) (by kernel_rfl) (by kernel_rfl) rfl (by kernel_rfl) (by kernel_rfl) (fun W hW => load_run 49 (.tmp 6) wr.heap.size 0 [.int .i64 kd, .int .i64 ep, .int .i64 nu, .int .i64 lf, .slice dA dl' dc] _ (by kernel_rfl) (by kernel_rfl) hW.1 Tryz.underlying49 rfl (by kernel_rfl) #[.int .i64 kd, .int .i64 ep, .int .i64 nu, .int .i64 lf, .slice dA dl' dc] rfl) hS0 (fun _ _ _ h => h) ?_
        simp only [Act.put, List.setIfInBounds_toArray, List.set_cons_zero, List.set_cons_succ]
        refine any_comes (i := 1) (by kernel_rfl) (op_enter 90 #[.agg #[.int .i64 kd, .int .i64 ep, .int .i64 nu, .int .i64 lf, .slice dA dl' dc]] (some 15) rfl (by kernel_rfl) (by kernel_rfl) (by kernel_rfl) ((HMy.out _).mono ?_))
        rintro e w1 ⟨rfl, m1⟩
        have b1 := b0.trans (m1.mono b0.size)
        have hS1 := HR.out _ b1
        refine ⟨_, rfl, hS1, ?_⟩
        simp only [Act.put, List.setIfInBounds_toArray, List.set_cons_zero, List.set_cons_succ]
        refine take_d (i := 2) (.bool false) 16 rfl (by kernel_rfl) (by kernel_rfl) (by kernel_rfl) (by kernel_rfl) rfl (by kernel_rfl) (by kernel_rfl) (fun W hW => by kernel_rfl) hS1 (fun _ _ _ h => h) ?_
        simp only [Act.put, List.setIfInBounds_toArray, List.set_cons_zero, List.set_cons_succ]
        refine take_d (i := 3) (.bool false) 17 rfl (by kernel_rfl) (by kernel_rfl) (by kernel_rfl) (by kernel_rfl) rfl (by kernel_rfl) (by kernel_rfl) (fun W hW => by kernel_rfl) hS1 (fun _ _ _ h => h) ?_
        simp only [Act.put, List.setIfInBounds_toArray, List.set_cons_zero, List.set_cons_succ]
        refine take_d (i := 4) (.agg #[.int .i64 kd, .int .i64 ep, .int .i64 nu, .int .i64 lf, .slice dA dl' dc]) 18 rfl (by kernel_rfl) (by kernel_rfl) (by kernel_rfl) (by kernel_rfl) rfl (by kernel_rfl) (by kernel_rfl) (fun W hW => load_run 49 (.tmp 6) wr.heap.size 0 [.int .i64 kd, .int .i64 ep, .int .i64 nu, .int .i64 lf, .slice dA dl' dc] _ (by kernel_rfl) (by kernel_rfl) hW.1 Tryz.underlying49 rfl (by kernel_rfl) #[.int .i64 kd, .int .i64 ep, .int .i64 nu, .int .i64 lf, .slice dA dl' dc] rfl) hS1 (fun _ _ _ h => h) ?_
        simp only [Act.put, List.setIfInBounds_toArray, List.set_cons_zero, List.set_cons_succ]
        refine take_d (i := 5) (.slice (some ⟨b, off, none⟩) n c) 19 rfl (by kernel_rfl) (by kernel_rfl) (by kernel_rfl) (by kernel_rfl) rfl (by kernel_rfl) (by kernel_rfl) (fun W hW => by kernel_rfl) hS1 (fun _ _ _ h => h) ?_
        simp only [Act.put, List.setIfInBounds_toArray, List.set_cons_zero, List.set_cons_succ]
        refine take_d (i := 6) (.pointer (some ⟨b, off, none⟩)) 20 rfl (by kernel_rfl) (by kernel_rfl) (by kernel_rfl) (by kernel_rfl) rfl (by kernel_rfl) (by kernel_rfl) (fun W hW => idx_first b off n c (.tmp 19) (.const (.int .i64 0)) (by kernel_rfl) (by kernel_rfl) (by kernel_rfl) h0) hS1 (fun _ _ _ h => h) ?_
        simp only [Act.put, List.setIfInBounds_toArray, List.set_cons_zero, List.set_cons_succ]
        refine take_d (i := 7) (.agg #[.int .i64 k0, .int .i64 e0, .int .i64 n0, .int .i64 l0, .slice dB bl bc]) 21 rfl (by kernel_rfl) (by kernel_rfl) (by kernel_rfl) (by kernel_rfl) rfl (by kernel_rfl) (by kernel_rfl) (fun W hW => load_run 49 (.tmp 20) b off [.int .i64 k0, .int .i64 e0, .int .i64 n0, .int .i64 l0, .slice dB bl bc] _ (by kernel_rfl) (by kernel_rfl) hW.2 Tryz.underlying49 rfl (by kernel_rfl) #[.int .i64 k0, .int .i64 e0, .int .i64 n0, .int .i64 l0, .slice dB bl bc] rfl) hS1 (fun _ _ _ h => h) ?_
        simp only [Act.put, List.setIfInBounds_toArray, List.set_cons_zero, List.set_cons_succ]
        refine take_d (i := 8) (.int .i64 (i : Int)) 22 rfl (by kernel_rfl) (by kernel_rfl) (by kernel_rfl) (by kernel_rfl) rfl (by kernel_rfl) (by kernel_rfl) (fun W hW => by kernel_rfl) hS1 (fun _ _ _ h => h) ?_
        simp only [Act.put, List.setIfInBounds_toArray, List.set_cons_zero, List.set_cons_succ]
        refine take_d (i := 9) (.slice (some ⟨b, off, none⟩) n c) 23 rfl (by kernel_rfl) (by kernel_rfl) (by kernel_rfl) (by kernel_rfl) rfl (by kernel_rfl) (by kernel_rfl) (fun W hW => by kernel_rfl) hS1 (fun _ _ _ h => h) ?_
        simp only [Act.put, List.setIfInBounds_toArray, List.set_cons_zero, List.set_cons_succ]
        refine take_d (i := 10) (.int .i64 (n : Int)) 24 rfl (by kernel_rfl) (by kernel_rfl) (by kernel_rfl) (by kernel_rfl) rfl (by kernel_rfl) (by kernel_rfl) (fun W hW => by kernel_rfl) hS1 (fun _ _ _ h => h) ?_
        simp only [Act.put, List.setIfInBounds_toArray, List.set_cons_zero, List.set_cons_succ]
        refine any_comes (i := 11) (by kernel_rfl) (op_enter 87 #[.agg #[.int .i64 k0, .int .i64 e0, .int .i64 n0, .int .i64 l0, .slice dB bl bc], .int .i64 (i : Int), .int .i64 (n : Int)] (some 25) rfl (by kernel_rfl) (by kernel_rfl) (by kernel_rfl) ((HAt.out _).mono ?_))
        rintro e w2 ⟨rfl, m2⟩
        have b2 := b1.trans (m2.mono b1.size)
        have hS2 := HR.out _ b2
        refine ⟨_, rfl, hS2, ?_⟩
        simp only [Act.put, List.setIfInBounds_toArray, List.set_cons_zero, List.set_cons_succ]
        refine any_comes (i := 12) (by kernel_rfl) (op_enter 99 #[.agg #[.int .i64 kd, .int .i64 ep, .int .i64 nu, .int .i64 lf, .slice dA dl' dc], .agg #[.int .i64 kz, .int .i64 e0, .int .i64 nz, .int .i64 (lz : Int), .slice none 0 0]] (some 26) rfl (by kernel_rfl) (by kernel_rfl) (by kernel_rfl) ((HSm.out _).mono ?_))
        rintro e w3 ⟨rfl, m3⟩
        have b3 := b2.trans (m3.mono b2.size)
        have hS3 := HR.out _ b3
        refine ⟨_, rfl, hS3, ?_⟩
        simp only [Act.put, List.setIfInBounds_toArray, List.set_cons_zero, List.set_cons_succ]
        refine take_d (i := 13) (.bool true) 27 rfl (by kernel_rfl) (by kernel_rfl) (by kernel_rfl) (by kernel_rfl) rfl (by kernel_rfl) (by kernel_rfl) (fun W hW => by kernel_rfl) hS3 (fun _ _ _ h => h) ?_
        simp only [Act.put, List.setIfInBounds_toArray, List.set_cons_zero, List.set_cons_succ]
        refine take_d (i := 14) (.bool true) 28 rfl (by kernel_rfl) (by kernel_rfl) (by kernel_rfl) (by kernel_rfl) rfl (by kernel_rfl) (by kernel_rfl) (fun W hW => by kernel_rfl) hS3 (fun _ _ _ h => h) ?_
        simp only [Act.put, List.setIfInBounds_toArray, List.set_cons_zero, List.set_cons_succ]
        refine take_d (i := 15) (.bool true) 29 rfl (by kernel_rfl) (by kernel_rfl) (by kernel_rfl) (by kernel_rfl) rfl (by kernel_rfl) (by kernel_rfl) (fun W hW => by kernel_rfl) hS3 (fun _ _ _ h => h) ?_
        simp only [Act.put, List.setIfInBounds_toArray, List.set_cons_zero, List.set_cons_succ]
        refine skip_d (i := 16) 30 rfl (by kernel_rfl) (by kernel_rfl) (by kernel_rfl) (by kernel_rfl) rfl (by kernel_rfl) (by kernel_rfl) hS3 (fun _ _ _ h => h) ?_
        simp only [Act.put, List.setIfInBounds_toArray, List.set_cons_zero, List.set_cons_succ]
        refine skip_d (i := 17) 31 rfl (by kernel_rfl) (by kernel_rfl) (by kernel_rfl) (by kernel_rfl) rfl (by kernel_rfl) (by kernel_rfl) hS3 (fun _ _ _ h => h) ?_
        simp only [Act.put, List.setIfInBounds_toArray, List.set_cons_zero, List.set_cons_succ]
        refine skip_d (i := 18) 32 rfl (by kernel_rfl) (by kernel_rfl) (by kernel_rfl) (by kernel_rfl) rfl (by kernel_rfl) (by kernel_rfl) hS3 (fun _ _ _ h => h) ?_
        simp only [Act.put, List.setIfInBounds_toArray, List.set_cons_zero, List.set_cons_succ]
        refine take_d (i := 19) (.bool true) 33 rfl (by kernel_rfl) (by kernel_rfl) (by kernel_rfl) (by kernel_rfl) rfl (by kernel_rfl) (by kernel_rfl) (fun W hW => by kernel_rfl) hS3 (fun _ _ _ h => h) ?_
        simp only [Act.put, List.setIfInBounds_toArray, List.set_cons_zero, List.set_cons_succ]
        refine ⟨by kernel_rfl, ?_⟩
        all_goals
          have hbf := HB.out.trans ((hB0.out _ b3).mono HB.out.size)
          have HV := Lib.hid (HOdd.out (by rw [HGd.out]; rfl))
          go_wp2
          go_ret2
          exact ⟨none, 0, by rw [HV.out]; rfl, by rw [HV.out]; exact World.ownsRow_nil _ _ _ _, hbf⟩
      rcases (show s.fills = false ∨ s.fills = true by cases s.fills <;> simp) with h3 | h3
      · have HGd := hgood true true false h1 h2 h3
        rw [h1] at HMy
        have HAt := Lib.hid (HAt.out (hm0 h1))
        rw [h2] at HSm
        rw [h3] at HFi
        have HR : Hid (∀ W, Below (wr.alloc (.cells #[.int .i64 kd, .int .i64 ep, .int .i64 nu, .int .i64 lf, .slice dA dl' dc] 49)).heap.size (wr.alloc (.cells #[.int .i64 kd, .int .i64 ep, .int .i64 nu, .int .i64 lf, .slice dA dl' dc] 49)) W → W.rangeAt wr.heap.size 0 [.int .i64 kd, .int .i64 ep, .int .i64 nu, .int .i64 lf, .slice dA dl' dc] ∧ W.rangeAt b off [.int .i64 k0, .int .i64 e0, .int .i64 n0, .int .i64 l0, .slice dB bl bc]) := fun W hb => by
          obtain ⟨t0, t1, t2, t3, t4, t5, t6, t7, t8, t9⟩ := HC.out W hb
          exact ⟨range5 t0 t1 t2 t3 t4, range5 t5 t6 t7 t8 t9⟩
        clear h1 hm0 hgood h2 h3
        go_wp2
        have b0 : Below (wr.alloc (.cells #[.int .i64 kd, .int .i64 ep, .int .i64 nu, .int .i64 lf, .slice dA dl' dc] 49)).heap.size (wr.alloc (.cells #[.int .i64 kd, .int .i64 ep, .int .i64 nu, .int .i64 lf, .slice dA dl' dc] 49)) (wr.alloc (.cells #[.int .i64 kd, .int .i64 ep, .int .i64 nu, .int .i64 lf, .slice dA dl' dc] 49)).drew := (Below.refl _ _).drew
        have hS0 := HR.out _ b0
        refine region_T (fun W => W.rangeAt wr.heap.size 0 [.int .i64 kd, .int .i64 ep, .int .i64 nu, .int .i64 lf, .slice dA dl' dc] ∧ W.rangeAt b off [.int .i64 k0, .int .i64 e0, .int .i64 n0, .int .i64 l0, .slice dB bl bc]) (fun _ => false) (by kernel_rfl) ?_
        refine any_asT rfl (listed' := #[false, false, false, false, false, false, false, false, false, false, false, false, false, false, false, false, false, false, false, false]) (by kernel_rfl) ?_
        refine take_d (i := 0) (.agg #[.int .i64 kd, .int .i64 ep, .int .i64 nu, .int .i64 lf, .slice dA dl' dc]) 14 rfl (by kernel_rfl) (by kernel_rfl) (by kernel_rfl) (by kernel_rfl) rfl (by kernel_rfl) (by kernel_rfl) (fun W hW => load_run 49 (.tmp 6) wr.heap.size 0 [.int .i64 kd, .int .i64 ep, .int .i64 nu, .int .i64 lf, .slice dA dl' dc] _ (by kernel_rfl) (by kernel_rfl) hW.1 Tryz.underlying49 rfl (by kernel_rfl) #[.int .i64 kd, .int .i64 ep, .int .i64 nu, .int .i64 lf, .slice dA dl' dc] rfl) hS0 (fun _ _ _ h => h) ?_
        simp only [Act.put, List.setIfInBounds_toArray, List.set_cons_zero, List.set_cons_succ]
        refine any_comes (i := 1) (by kernel_rfl) (op_enter 90 #[.agg #[.int .i64 kd, .int .i64 ep, .int .i64 nu, .int .i64 lf, .slice dA dl' dc]] (some 15) rfl (by kernel_rfl) (by kernel_rfl) (by kernel_rfl) ((HMy.out _).mono ?_))
        rintro e w1 ⟨rfl, m1⟩
        have b1 := b0.trans (m1.mono b0.size)
        have hS1 := HR.out _ b1
        refine ⟨_, rfl, hS1, ?_⟩
        simp only [Act.put, List.setIfInBounds_toArray, List.set_cons_zero, List.set_cons_succ]
        refine take_d (i := 2) (.bool false) 16 rfl (by kernel_rfl) (by kernel_rfl) (by kernel_rfl) (by kernel_rfl) rfl (by kernel_rfl) (by kernel_rfl) (fun W hW => by kernel_rfl) hS1 (fun _ _ _ h => h) ?_
        simp only [Act.put, List.setIfInBounds_toArray, List.set_cons_zero, List.set_cons_succ]
        refine take_d (i := 3) (.bool false) 17 rfl (by kernel_rfl) (by kernel_rfl) (by kernel_rfl) (by kernel_rfl) rfl (by kernel_rfl) (by kernel_rfl) (fun W hW => by kernel_rfl) hS1 (fun _ _ _ h => h) ?_
        simp only [Act.put, List.setIfInBounds_toArray, List.set_cons_zero, List.set_cons_succ]
        refine take_d (i := 4) (.agg #[.int .i64 kd, .int .i64 ep, .int .i64 nu, .int .i64 lf, .slice dA dl' dc]) 18 rfl (by kernel_rfl) (by kernel_rfl) (by kernel_rfl) (by kernel_rfl) rfl (by kernel_rfl) (by kernel_rfl) (fun W hW => load_run 49 (.tmp 6) wr.heap.size 0 [.int .i64 kd, .int .i64 ep, .int .i64 nu, .int .i64 lf, .slice dA dl' dc] _ (by kernel_rfl) (by kernel_rfl) hW.1 Tryz.underlying49 rfl (by kernel_rfl) #[.int .i64 kd, .int .i64 ep, .int .i64 nu, .int .i64 lf, .slice dA dl' dc] rfl) hS1 (fun _ _ _ h => h) ?_
        simp only [Act.put, List.setIfInBounds_toArray, List.set_cons_zero, List.set_cons_succ]
        refine take_d (i := 5) (.slice (some ⟨b, off, none⟩) n c) 19 rfl (by kernel_rfl) (by kernel_rfl) (by kernel_rfl) (by kernel_rfl) rfl (by kernel_rfl) (by kernel_rfl) (fun W hW => by kernel_rfl) hS1 (fun _ _ _ h => h) ?_
        simp only [Act.put, List.setIfInBounds_toArray, List.set_cons_zero, List.set_cons_succ]
        refine take_d (i := 6) (.pointer (some ⟨b, off, none⟩)) 20 rfl (by kernel_rfl) (by kernel_rfl) (by kernel_rfl) (by kernel_rfl) rfl (by kernel_rfl) (by kernel_rfl) (fun W hW => idx_first b off n c (.tmp 19) (.const (.int .i64 0)) (by kernel_rfl) (by kernel_rfl) (by kernel_rfl) h0) hS1 (fun _ _ _ h => h) ?_
        simp only [Act.put, List.setIfInBounds_toArray, List.set_cons_zero, List.set_cons_succ]
        refine take_d (i := 7) (.agg #[.int .i64 k0, .int .i64 e0, .int .i64 n0, .int .i64 l0, .slice dB bl bc]) 21 rfl (by kernel_rfl) (by kernel_rfl) (by kernel_rfl) (by kernel_rfl) rfl (by kernel_rfl) (by kernel_rfl) (fun W hW => load_run 49 (.tmp 20) b off [.int .i64 k0, .int .i64 e0, .int .i64 n0, .int .i64 l0, .slice dB bl bc] _ (by kernel_rfl) (by kernel_rfl) hW.2 Tryz.underlying49 rfl (by kernel_rfl) #[.int .i64 k0, .int .i64 e0, .int .i64 n0, .int .i64 l0, .slice dB bl bc] rfl) hS1 (fun _ _ _ h => h) ?_
        simp only [Act.put, List.setIfInBounds_toArray, List.set_cons_zero, List.set_cons_succ]
        refine take_d (i := 8) (.int .i64 (i : Int)) 22 rfl (by kernel_rfl) (by kernel_rfl) (by kernel_rfl) (by kernel_rfl) rfl (by kernel_rfl) (by kernel_rfl) (fun W hW => by kernel_rfl) hS1 (fun _ _ _ h => h) ?_
        simp only [Act.put, List.setIfInBounds_toArray, List.set_cons_zero, List.set_cons_succ]
        refine take_d (i := 9) (.slice (some ⟨b, off, none⟩) n c) 23 rfl (by kernel_rfl) (by kernel_rfl) (by kernel_rfl) (by kernel_rfl) rfl (by kernel_rfl) (by kernel_rfl) (fun W hW => by kernel_rfl) hS1 (fun _ _ _ h => h) ?_
        simp only [Act.put, List.setIfInBounds_toArray, List.set_cons_zero, List.set_cons_succ]
        refine take_d (i := 10) (.int .i64 (n : Int)) 24 rfl (by kernel_rfl) (by kernel_rfl) (by kernel_rfl) (by kernel_rfl) rfl (by kernel_rfl) (by kernel_rfl) (fun W hW => by kernel_rfl) hS1 (fun _ _ _ h => h) ?_
        simp only [Act.put, List.setIfInBounds_toArray, List.set_cons_zero, List.set_cons_succ]
        refine any_comes (i := 11) (by kernel_rfl) (op_enter 87 #[.agg #[.int .i64 k0, .int .i64 e0, .int .i64 n0, .int .i64 l0, .slice dB bl bc], .int .i64 (i : Int), .int .i64 (n : Int)] (some 25) rfl (by kernel_rfl) (by kernel_rfl) (by kernel_rfl) ((HAt.out _).mono ?_))
        rintro e w2 ⟨rfl, m2⟩
        have b2 := b1.trans (m2.mono b1.size)
        have hS2 := HR.out _ b2
        refine ⟨_, rfl, hS2, ?_⟩
        simp only [Act.put, List.setIfInBounds_toArray, List.set_cons_zero, List.set_cons_succ]
        refine any_comes (i := 12) (by kernel_rfl) (op_enter 99 #[.agg #[.int .i64 kd, .int .i64 ep, .int .i64 nu, .int .i64 lf, .slice dA dl' dc], .agg #[.int .i64 kz, .int .i64 e0, .int .i64 nz, .int .i64 (lz : Int), .slice none 0 0]] (some 26) rfl (by kernel_rfl) (by kernel_rfl) (by kernel_rfl) ((HSm.out _).mono ?_))
        rintro e w3 ⟨rfl, m3⟩
        have b3 := b2.trans (m3.mono b2.size)
        have hS3 := HR.out _ b3
        refine ⟨_, rfl, hS3, ?_⟩
        simp only [Act.put, List.setIfInBounds_toArray, List.set_cons_zero, List.set_cons_succ]
        refine take_d (i := 13) (.bool false) 27 rfl (by kernel_rfl) (by kernel_rfl) (by kernel_rfl) (by kernel_rfl) rfl (by kernel_rfl) (by kernel_rfl) (fun W hW => by kernel_rfl) hS3 (fun _ _ _ h => h) ?_
        simp only [Act.put, List.setIfInBounds_toArray, List.set_cons_zero, List.set_cons_succ]
        refine take_d (i := 14) (.bool false) 28 rfl (by kernel_rfl) (by kernel_rfl) (by kernel_rfl) (by kernel_rfl) rfl (by kernel_rfl) (by kernel_rfl) (fun W hW => by kernel_rfl) hS3 (fun _ _ _ h => h) ?_
        simp only [Act.put, List.setIfInBounds_toArray, List.set_cons_zero, List.set_cons_succ]
        refine take_d (i := 15) (.bool false) 29 rfl (by kernel_rfl) (by kernel_rfl) (by kernel_rfl) (by kernel_rfl) rfl (by kernel_rfl) (by kernel_rfl) (fun W hW => by kernel_rfl) hS3 (fun _ _ _ h => h) ?_
        simp only [Act.put, List.setIfInBounds_toArray, List.set_cons_zero, List.set_cons_succ]
        refine take_d (i := 16) (.agg #[.int .i64 kd, .int .i64 ep, .int .i64 nu, .int .i64 lf, .slice dA dl' dc]) 30 rfl (by kernel_rfl) (by kernel_rfl) (by kernel_rfl) (by kernel_rfl) rfl (by kernel_rfl) (by kernel_rfl) (fun W hW => load_run 49 (.tmp 6) wr.heap.size 0 [.int .i64 kd, .int .i64 ep, .int .i64 nu, .int .i64 lf, .slice dA dl' dc] _ (by kernel_rfl) (by kernel_rfl) hW.1 Tryz.underlying49 rfl (by kernel_rfl) #[.int .i64 kd, .int .i64 ep, .int .i64 nu, .int .i64 lf, .slice dA dl' dc] rfl) hS3 (fun _ _ _ h => h) ?_
        simp only [Act.put, List.setIfInBounds_toArray, List.set_cons_zero, List.set_cons_succ]
        refine any_comes (i := 17) (by kernel_rfl) (op_enter 100 #[.agg #[.int .i64 kd, .int .i64 ep, .int .i64 nu, .int .i64 lf, .slice dA dl' dc]] (some 31) rfl (by kernel_rfl) (by kernel_rfl) (by kernel_rfl) ((HFi.out _).mono ?_))
        rintro e w4 ⟨rfl, m4⟩
        have b4 := b3.trans (m4.mono b3.size)
        have hS4 := HR.out _ b4
        refine ⟨_, rfl, hS4, ?_⟩
        simp only [Act.put, List.setIfInBounds_toArray, List.set_cons_zero, List.set_cons_succ]
        refine take_d (i := 18) (.bool true) 32 rfl (by kernel_rfl) (by kernel_rfl) (by kernel_rfl) (by kernel_rfl) rfl (by kernel_rfl) (by kernel_rfl) (fun W hW => by kernel_rfl) hS4 (fun _ _ _ h => h) ?_
        simp only [Act.put, List.setIfInBounds_toArray, List.set_cons_zero, List.set_cons_succ]
        refine take_d (i := 19) (.bool true) 33 rfl (by kernel_rfl) (by kernel_rfl) (by kernel_rfl) (by kernel_rfl) rfl (by kernel_rfl) (by kernel_rfl) (fun W hW => by kernel_rfl) hS4 (fun _ _ _ h => h) ?_
        simp only [Act.put, List.setIfInBounds_toArray, List.set_cons_zero, List.set_cons_succ]
        refine ⟨by kernel_rfl, ?_⟩
        all_goals
          have hbf := HB.out.trans ((hB0.out _ b4).mono HB.out.size)
          have HV := Lib.hid (HOdd.out (by rw [HGd.out]; rfl))
          go_wp2
          go_ret2
          exact ⟨none, 0, by rw [HV.out]; rfl, by rw [HV.out]; exact World.ownsRow_nil _ _ _ _, hbf⟩
      · have HGd := hgood true true true h1 h2 h3
        rw [h1] at HMy
        have HAt := Lib.hid (HAt.out (hm0 h1))
        rw [h2] at HSm
        rw [h3] at HFi
        have HR : Hid (∀ W, Below (wr.alloc (.cells #[.int .i64 kd, .int .i64 ep, .int .i64 nu, .int .i64 lf, .slice dA dl' dc] 49)).heap.size (wr.alloc (.cells #[.int .i64 kd, .int .i64 ep, .int .i64 nu, .int .i64 lf, .slice dA dl' dc] 49)) W → W.rangeAt wr.heap.size 0 [.int .i64 kd, .int .i64 ep, .int .i64 nu, .int .i64 lf, .slice dA dl' dc] ∧ W.rangeAt b off [.int .i64 k0, .int .i64 e0, .int .i64 n0, .int .i64 l0, .slice dB bl bc]) := fun W hb => by
          obtain ⟨t0, t1, t2, t3, t4, t5, t6, t7, t8, t9⟩ := HC.out W hb
          exact ⟨range5 t0 t1 t2 t3 t4, range5 t5 t6 t7 t8 t9⟩
        clear h1 hm0 hgood h2 h3
        go_wp2
        have b0 : Below (wr.alloc (.cells #[.int .i64 kd, .int .i64 ep, .int .i64 nu, .int .i64 lf, .slice dA dl' dc] 49)).heap.size (wr.alloc (.cells #[.int .i64 kd, .int .i64 ep, .int .i64 nu, .int .i64 lf, .slice dA dl' dc] 49)) (wr.alloc (.cells #[.int .i64 kd, .int .i64 ep, .int .i64 nu, .int .i64 lf, .slice dA dl' dc] 49)).drew := (Below.refl _ _).drew
        have hS0 := HR.out _ b0
        refine region_T (fun W => W.rangeAt wr.heap.size 0 [.int .i64 kd, .int .i64 ep, .int .i64 nu, .int .i64 lf, .slice dA dl' dc] ∧ W.rangeAt b off [.int .i64 k0, .int .i64 e0, .int .i64 n0, .int .i64 l0, .slice dB bl bc]) (fun _ => false) (by kernel_rfl) ?_
        refine any_asT rfl (listed' := #[false, false, false, false, false, false, false, false, false, false, false, false, false, false, false, false, false, false, false, false]) (by kernel_rfl) ?_
        refine take_d (i := 0) (.agg #[.int .i64 kd, .int .i64 ep, .int .i64 nu, .int .i64 lf, .slice dA dl' dc]) 14 rfl (by kernel_rfl) (by kernel_rfl) (by kernel_rfl) (by kernel_rfl) rfl (by kernel_rfl) (by kernel_rfl) (fun W hW => load_run 49 (.tmp 6) wr.heap.size 0 [.int .i64 kd, .int .i64 ep, .int .i64 nu, .int .i64 lf, .slice dA dl' dc] _ (by kernel_rfl) (by kernel_rfl) hW.1 Tryz.underlying49 rfl (by kernel_rfl) #[.int .i64 kd, .int .i64 ep, .int .i64 nu, .int .i64 lf, .slice dA dl' dc] rfl) hS0 (fun _ _ _ h => h) ?_
        simp only [Act.put, List.setIfInBounds_toArray, List.set_cons_zero, List.set_cons_succ]
        refine any_comes (i := 1) (by kernel_rfl) (op_enter 90 #[.agg #[.int .i64 kd, .int .i64 ep, .int .i64 nu, .int .i64 lf, .slice dA dl' dc]] (some 15) rfl (by kernel_rfl) (by kernel_rfl) (by kernel_rfl) ((HMy.out _).mono ?_))
        rintro e w1 ⟨rfl, m1⟩
        have b1 := b0.trans (m1.mono b0.size)
        have hS1 := HR.out _ b1
        refine ⟨_, rfl, hS1, ?_⟩
        simp only [Act.put, List.setIfInBounds_toArray, List.set_cons_zero, List.set_cons_succ]
        refine take_d (i := 2) (.bool false) 16 rfl (by kernel_rfl) (by kernel_rfl) (by kernel_rfl) (by kernel_rfl) rfl (by kernel_rfl) (by kernel_rfl) (fun W hW => by kernel_rfl) hS1 (fun _ _ _ h => h) ?_
        simp only [Act.put, List.setIfInBounds_toArray, List.set_cons_zero, List.set_cons_succ]
        refine take_d (i := 3) (.bool false) 17 rfl (by kernel_rfl) (by kernel_rfl) (by kernel_rfl) (by kernel_rfl) rfl (by kernel_rfl) (by kernel_rfl) (fun W hW => by kernel_rfl) hS1 (fun _ _ _ h => h) ?_
        simp only [Act.put, List.setIfInBounds_toArray, List.set_cons_zero, List.set_cons_succ]
        refine take_d (i := 4) (.agg #[.int .i64 kd, .int .i64 ep, .int .i64 nu, .int .i64 lf, .slice dA dl' dc]) 18 rfl (by kernel_rfl) (by kernel_rfl) (by kernel_rfl) (by kernel_rfl) rfl (by kernel_rfl) (by kernel_rfl) (fun W hW => load_run 49 (.tmp 6) wr.heap.size 0 [.int .i64 kd, .int .i64 ep, .int .i64 nu, .int .i64 lf, .slice dA dl' dc] _ (by kernel_rfl) (by kernel_rfl) hW.1 Tryz.underlying49 rfl (by kernel_rfl) #[.int .i64 kd, .int .i64 ep, .int .i64 nu, .int .i64 lf, .slice dA dl' dc] rfl) hS1 (fun _ _ _ h => h) ?_
        simp only [Act.put, List.setIfInBounds_toArray, List.set_cons_zero, List.set_cons_succ]
        refine take_d (i := 5) (.slice (some ⟨b, off, none⟩) n c) 19 rfl (by kernel_rfl) (by kernel_rfl) (by kernel_rfl) (by kernel_rfl) rfl (by kernel_rfl) (by kernel_rfl) (fun W hW => by kernel_rfl) hS1 (fun _ _ _ h => h) ?_
        simp only [Act.put, List.setIfInBounds_toArray, List.set_cons_zero, List.set_cons_succ]
        refine take_d (i := 6) (.pointer (some ⟨b, off, none⟩)) 20 rfl (by kernel_rfl) (by kernel_rfl) (by kernel_rfl) (by kernel_rfl) rfl (by kernel_rfl) (by kernel_rfl) (fun W hW => idx_first b off n c (.tmp 19) (.const (.int .i64 0)) (by kernel_rfl) (by kernel_rfl) (by kernel_rfl) h0) hS1 (fun _ _ _ h => h) ?_
        simp only [Act.put, List.setIfInBounds_toArray, List.set_cons_zero, List.set_cons_succ]
        refine take_d (i := 7) (.agg #[.int .i64 k0, .int .i64 e0, .int .i64 n0, .int .i64 l0, .slice dB bl bc]) 21 rfl (by kernel_rfl) (by kernel_rfl) (by kernel_rfl) (by kernel_rfl) rfl (by kernel_rfl) (by kernel_rfl) (fun W hW => load_run 49 (.tmp 20) b off [.int .i64 k0, .int .i64 e0, .int .i64 n0, .int .i64 l0, .slice dB bl bc] _ (by kernel_rfl) (by kernel_rfl) hW.2 Tryz.underlying49 rfl (by kernel_rfl) #[.int .i64 k0, .int .i64 e0, .int .i64 n0, .int .i64 l0, .slice dB bl bc] rfl) hS1 (fun _ _ _ h => h) ?_
        simp only [Act.put, List.setIfInBounds_toArray, List.set_cons_zero, List.set_cons_succ]
        refine take_d (i := 8) (.int .i64 (i : Int)) 22 rfl (by kernel_rfl) (by kernel_rfl) (by kernel_rfl) (by kernel_rfl) rfl (by kernel_rfl) (by kernel_rfl) (fun W hW => by kernel_rfl) hS1 (fun _ _ _ h => h) ?_
        simp only [Act.put, List.setIfInBounds_toArray, List.set_cons_zero, List.set_cons_succ]
        refine take_d (i := 9) (.slice (some ⟨b, off, none⟩) n c) 23 rfl (by kernel_rfl) (by kernel_rfl) (by kernel_rfl) (by kernel_rfl) rfl (by kernel_rfl) (by kernel_rfl) (fun W hW => by kernel_rfl) hS1 (fun _ _ _ h => h) ?_
        simp only [Act.put, List.setIfInBounds_toArray, List.set_cons_zero, List.set_cons_succ]
        refine take_d (i := 10) (.int .i64 (n : Int)) 24 rfl (by kernel_rfl) (by kernel_rfl) (by kernel_rfl) (by kernel_rfl) rfl (by kernel_rfl) (by kernel_rfl) (fun W hW => by kernel_rfl) hS1 (fun _ _ _ h => h) ?_
        simp only [Act.put, List.setIfInBounds_toArray, List.set_cons_zero, List.set_cons_succ]
        refine any_comes (i := 11) (by kernel_rfl) (op_enter 87 #[.agg #[.int .i64 k0, .int .i64 e0, .int .i64 n0, .int .i64 l0, .slice dB bl bc], .int .i64 (i : Int), .int .i64 (n : Int)] (some 25) rfl (by kernel_rfl) (by kernel_rfl) (by kernel_rfl) ((HAt.out _).mono ?_))
        rintro e w2 ⟨rfl, m2⟩
        have b2 := b1.trans (m2.mono b1.size)
        have hS2 := HR.out _ b2
        refine ⟨_, rfl, hS2, ?_⟩
        simp only [Act.put, List.setIfInBounds_toArray, List.set_cons_zero, List.set_cons_succ]
        refine any_comes (i := 12) (by kernel_rfl) (op_enter 99 #[.agg #[.int .i64 kd, .int .i64 ep, .int .i64 nu, .int .i64 lf, .slice dA dl' dc], .agg #[.int .i64 kz, .int .i64 e0, .int .i64 nz, .int .i64 (lz : Int), .slice none 0 0]] (some 26) rfl (by kernel_rfl) (by kernel_rfl) (by kernel_rfl) ((HSm.out _).mono ?_))
        rintro e w3 ⟨rfl, m3⟩
        have b3 := b2.trans (m3.mono b2.size)
        have hS3 := HR.out _ b3
        refine ⟨_, rfl, hS3, ?_⟩
        simp only [Act.put, List.setIfInBounds_toArray, List.set_cons_zero, List.set_cons_succ]
        refine take_d (i := 13) (.bool false) 27 rfl (by kernel_rfl) (by kernel_rfl) (by kernel_rfl) (by kernel_rfl) rfl (by kernel_rfl) (by kernel_rfl) (fun W hW => by kernel_rfl) hS3 (fun _ _ _ h => h) ?_
        simp only [Act.put, List.setIfInBounds_toArray, List.set_cons_zero, List.set_cons_succ]
        refine take_d (i := 14) (.bool false) 28 rfl (by kernel_rfl) (by kernel_rfl) (by kernel_rfl) (by kernel_rfl) rfl (by kernel_rfl) (by kernel_rfl) (fun W hW => by kernel_rfl) hS3 (fun _ _ _ h => h) ?_
        simp only [Act.put, List.setIfInBounds_toArray, List.set_cons_zero, List.set_cons_succ]
        refine take_d (i := 15) (.bool false) 29 rfl (by kernel_rfl) (by kernel_rfl) (by kernel_rfl) (by kernel_rfl) rfl (by kernel_rfl) (by kernel_rfl) (fun W hW => by kernel_rfl) hS3 (fun _ _ _ h => h) ?_
        simp only [Act.put, List.setIfInBounds_toArray, List.set_cons_zero, List.set_cons_succ]
        refine take_d (i := 16) (.agg #[.int .i64 kd, .int .i64 ep, .int .i64 nu, .int .i64 lf, .slice dA dl' dc]) 30 rfl (by kernel_rfl) (by kernel_rfl) (by kernel_rfl) (by kernel_rfl) rfl (by kernel_rfl) (by kernel_rfl) (fun W hW => load_run 49 (.tmp 6) wr.heap.size 0 [.int .i64 kd, .int .i64 ep, .int .i64 nu, .int .i64 lf, .slice dA dl' dc] _ (by kernel_rfl) (by kernel_rfl) hW.1 Tryz.underlying49 rfl (by kernel_rfl) #[.int .i64 kd, .int .i64 ep, .int .i64 nu, .int .i64 lf, .slice dA dl' dc] rfl) hS3 (fun _ _ _ h => h) ?_
        simp only [Act.put, List.setIfInBounds_toArray, List.set_cons_zero, List.set_cons_succ]
        refine any_comes (i := 17) (by kernel_rfl) (op_enter 100 #[.agg #[.int .i64 kd, .int .i64 ep, .int .i64 nu, .int .i64 lf, .slice dA dl' dc]] (some 31) rfl (by kernel_rfl) (by kernel_rfl) (by kernel_rfl) ((HFi.out _).mono ?_))
        rintro e w4 ⟨rfl, m4⟩
        have b4 := b3.trans (m4.mono b3.size)
        have hS4 := HR.out _ b4
        refine ⟨_, rfl, hS4, ?_⟩
        simp only [Act.put, List.setIfInBounds_toArray, List.set_cons_zero, List.set_cons_succ]
        refine take_d (i := 18) (.bool false) 32 rfl (by kernel_rfl) (by kernel_rfl) (by kernel_rfl) (by kernel_rfl) rfl (by kernel_rfl) (by kernel_rfl) (fun W hW => by kernel_rfl) hS4 (fun _ _ _ h => h) ?_
        simp only [Act.put, List.setIfInBounds_toArray, List.set_cons_zero, List.set_cons_succ]
        refine take_d (i := 19) (.bool false) 33 rfl (by kernel_rfl) (by kernel_rfl) (by kernel_rfl) (by kernel_rfl) rfl (by kernel_rfl) (by kernel_rfl) (fun W hW => by kernel_rfl) hS4 (fun _ _ _ h => h) ?_
        simp only [Act.put, List.setIfInBounds_toArray, List.set_cons_zero, List.set_cons_succ]
        refine ⟨by kernel_rfl, ?_⟩
        all_goals
          have hbf := HB.out.trans ((hB0.out _ b4).mono HB.out.size)
          have ho4 := own_kept HO.out (hB0.out _ b4)
          have r4 := HRA.out _ hbf
          obtain ⟨t0, t1, t2, t3, t4, -, -, -, -, -⟩ := HC.out _ b4
          go_wp2_with (at_builtin; refine wpList_append_any _ rfl (.tmp 34) (.tmp 36) 39 rfl w.heap.size 5 i0 _ 1 1 Tryz.underlying39 hi0 hz0 hz1 hz2 rfl (by omega) (.slice A q k) q (cells P) rfl ho4 w4.heap.size dA dl' dc (cells s.data) rfl r4 (cells_one _) (by have := HDl.out; simp only [maxLen]; omega) (by have := HDl.out; omega) hbf.size ?_; intro v5 w5 ho5 hg5 hat5)
          obtain ⟨A5, c5, rfl⟩ := own_form ho5
          have b5 := hbf.grown hg5 hbf.size (fun j hj => (ho4.lt j hj).1)
          have hP5 : q + dl' = (P ++ s.data).length ∧ P ++ s.data = ((x :: r).take (i + 1)).flatMap (·.data) ∧ ∀ j (hj : j < (x :: r).length), j < i + 1 → x.good n j (x :: r)[j] = true := by
            obtain ⟨g1, g2, g3⟩ := HP.out
            refine ⟨by rw [List.length_append, HSd.out.2.1, g1], ?_, fun j hj hji => ?_⟩
            · rw [List.take_succ_eq_append_getElem hil, List.flatMap_append, g2, ← HSd.out.2.2]
              simp
            · by_cases hj1 : j < i
              · exact g3 j hj hj1
              · obtain rfl : j = i := by omega
                rw [← HSd.out.2.2, HGd.out]
                rfl
          have ho5' : Hid (w5.ownsRow w.heap.size 5 1 (.slice A5 (q + dl') c5) (q + dl') (cells (P ++ s.data))) := by rw [cells_append]; exact ho5
          have hq5 : q + dl' ≤ 1000 * (i + 1) := by have := HDl.out; omega
          clear ho5 hg5 hat5 ho4 r4 t0 t1 t2 t3 t4 hS0 hS1 hS2 hS3
          refine ⟨⟨i + 1, by omega, by go_num, A5, q + dl', c5, rfl, hq5, P ++ s.data, hP5, ho5', b5⟩, ?_⟩
          simp [intOf]; omega
    · obtain rfl : i = n := by omega
      have dl : decide ((i : Int) < (i : Int)) = false := decide_eq_false (by omega)
      have d5 : decide ((0 : Int) < (i : Int)) = true := decide_eq_true (by omega)
      have d6 : decide ((i : Int) > 0) = true := decide_eq_true (by omega)
      have hV : joinS (x :: r) = ((x :: r).flatMap (·.data), true) := join_good fun j hj => by
        have h9 := HP.out.2.2 j hj (by rw [HN.out]; exact hj)
        have h8 := HN.out
        rw [h8] at h9
        exact h9
      have hP : P = (x :: r).flatMap (·.data) := by
        rw [HP.out.2.1, List.take_of_length_le (by rw [← HN.out]; exact Nat.le_refl _)]
      have HG : Hid (GivesJo (joinS (x :: r)) w (.returned (.tuple #[.slice A q k, .bool true])) wr) := by
        refine ⟨A, k, ?_, ?_, HB.out⟩
        · rw [hV, ← hP, HP.out.1]
        · rw [hV, ← hP]
          have := HO.out
          rw [HP.out.1] at this
          exact this
      clear hV hP HP HO HB
      go_wp2
      go_ret2
      exact HG.out
theorem sjoin_own (l : List Sd) (A : Option Addr) (c : Nat) (w : World) (hS : SL w w.heap.size A l) (hl : l.length ≤ 20000) (hd : ∀ x ∈ l, x.data.length ≤ 1000) :
    Calls Tryz.prog 83 #[.slice A l.length c] w (GivesJo (joinS l) w) := by
  by_cases h : l.length = 0
  · obtain rfl : l = [] := List.eq_nil_of_length_eq_zero h
    exact sjoin_nil A c w
  · obtain ⟨b, off, rfl, _, _⟩ := hS (by omega)
    exact sjoin_some l _ b off c w rfl (by omega) hS hl hd
end
section
open Go.RowKit
theorem Tryz.secBuild5 (k e n l : Int) (A : Option Addr) (m c : Nat) (w : World) : Sem.run Tryz.prog (Instr.build 49 #[(0, .int .i64 k), (1, .int .i64 e), (2, .int .i64 n), (3, .int .i64 l), (4, .slice A m c)]) w = .ok (.agg #[.int .i64 k, .int .i64 e, .int .i64 n, .int .i64 l, .slice A m c]) w := by kernel_rfl
theorem rget_in4 (b M : List UInt8) (b0 o c : Nat) (w : World) (h64 : b.length = 64) (hr : RB w w.heap.size (some ⟨b0, o, none⟩) b) (hc : 64 ≤ c) (hcm : c ≤ 9223372036854775807) (ho : openL b = some M) (h1 : unfixL ((M.drop 4).take 4) ≤ 2147483647) (h2 : unfixL ((M.drop 8).take 4) ≤ 2147483647) (h3 : (M.getD 1 0).toNat ≤ 48) (hm : (secOf M).may = false) :
    Calls Tryz.prog 96 #[.slice (some ⟨b0, o, none⟩) 64 c] w (GivesSv (some ⟨b0, o, none⟩) (getS b) w) := by
  have hM60 : M.length = 60 := by have := (openL_some ho).2; omega
  have hMb : M = b.take 60 := by
    have h1 := (openL_some ho).1
    rw [h1]; unfold sealL; rw [List.take_append_of_le_length (by omega), List.take_of_length_le (by omega)]
  have hrM : RB w w.heap.size (some ⟨b0, o, none⟩) M := by rw [hMb]; exact rb_take hr 60 (by omega)
  have HO : Hid (∀ W, Below w.heap.size w W → Calls Tryz.prog 111 #[.slice (some ⟨b0, o, none⟩) 64 c] W fun e w' => e = .returned (.tuple #[.slice (some ⟨b0, o, none⟩) 60 c, .int .i64 0]) ∧ Below W.heap.size W w') := fun W hb => by
    have := refOpen_view b M (some ⟨b0, o, none⟩) c W (rb_up7 hr hb) (by omega) hcm (by omega) ho
    rw [h64, hM60] at this
    exact this
  obtain ⟨lv, hlv⟩ : ∃ x, x = unfixL ((M.drop 2).take 2) := ⟨_, rfl⟩
  obtain ⟨ev, hev⟩ : ∃ x, x = unfixL ((M.drop 4).take 4) := ⟨_, rfl⟩
  obtain ⟨nv, hnv⟩ : ∃ x, x = unfixL ((M.drop 8).take 4) := ⟨_, rfl⟩
  obtain ⟨kd, hkd⟩ : ∃ x, x = (M.getD 0 0).toNat := ⟨_, rfl⟩
  obtain ⟨nn, hnn⟩ : ∃ x, x = (M.getD 1 0).toNat := ⟨_, rfl⟩
  have lvs : lv ≤ 65535 := by
    have := unfixL_lt ((M.drop 2).take 2)
    have hl : ((M.drop 2).take 2).length = 2 := by rw [List.length_take, List.length_drop]; omega
    rw [hl] at this
    have e : (256 : Nat) ^ 2 = 65536 := rfl
    omega
  have hnn256 : nn < 256 := by rw [hnn]; exact (M.getD 1 0).toNat_lt
  have hkd256 : kd < 256 := by rw [hkd]; exact (M.getD 0 0).toNat_lt
  have HU : Hid (∀ W (k q : Nat) (r : Nat × Nat), Below w.heap.size w W → k + q ≤ 60 → 1 ≤ q → q ≤ 4 → unfixR ((M.drop k).take q) = r → Calls Tryz.prog 112 #[.slice (some ⟨b0, o + k, none⟩) q (c - k)] W fun e w' => e = .returned (.tuple #[.int .i64 (r.1 : Int), .int .i64 (r.2 : Int)]) ∧ W = w') := fun W k q r hb h1 h2 h3 hq => by
    have hl : ((M.drop k).take q).length = q := by rw [List.length_take, List.length_drop]; omega
    have := refUnfix_any ((M.drop k).take q) (some ⟨b0, o + k, none⟩) (c - k) _ W (sub_rb (hrM.below hb) k q (by omega) (show M.length < c by omega)) (by omega)
    rw [hl, hq] at this
    exact this
  have l2 : ((M.drop 2).take 2).length = 2 := by rw [List.length_take, List.length_drop]; omega
  have l4 : ((M.drop 4).take 4).length = 4 := by rw [List.length_take, List.length_drop]; omega
  have l8 : ((M.drop 8).take 4).length = 4 := by rw [List.length_take, List.length_drop]; omega
  have HU1 : Hid (∀ W, Below w.heap.size w W → Calls Tryz.prog 112 #[.slice (some ⟨b0, o + 2, none⟩) 2 (c - 2)] W fun e w' => e = .returned (.tuple #[.int .i64 (lv : Int), .int .i64 0]) ∧ W = w') := fun W hb => by
    rw [hlv]; exact HU.out W 2 2 (_, 0) hb (by omega) (by omega) (by omega) (unfix_ok l2 (by omega) (by omega) (by omega))
  have HCell : Hid (∀ W, Below w.heap.size w W → W.cell? ⟨b0, o, none⟩ = some (.int .u8 (kd : Int)) ∧ W.cell? ⟨b0, o + 1, none⟩ = some (.int .u8 (nn : Int))) := fun W hb => by
    obtain ⟨b', o', e, _, hcc⟩ := (hrM.below hb).at_ (by omega)
    simp only [Option.some.injEq, Addr.mk.injEq, and_true] at e
    obtain ⟨rfl, rfl⟩ := e
    have c0 := hcc 0 (by omega)
    have c1 := hcc 1 (by omega)
    refine ⟨?_, ?_⟩
    · rw [Nat.add_zero] at c0
      rw [c0, hkd]; simp [List.getD, List.getElem?_eq_getElem (show 0 < M.length by omega)]
    · rw [c1, hnn]; simp [List.getD, List.getElem?_eq_getElem (show 1 < M.length by omega)]
  have HB : Hid (Below w.heap.size w (w.alloc (.cells #[.int .i64 0, .int .i64 0, .int .i64 0, .int .i64 0, .slice none 0 0] 49))) := (Below.refl _ _).alloc (Nat.le_refl _) _
  have HC := Lib.hid (fun W hb => res_at w W hb)
  have nb := fun w' => Tryz.secBuild0 w'
  have a24 := fun w' => Tryz.aggSec w'
  have s24 := fun w' => Tryz.sizeSec w'
  have k1 := fun W => sl_both b0 o 60 c 2 4 2 4 rfl rfl (by omega) (by omega) (by omega) W
  have k2 := fun W => sl_both b0 o 60 c 4 8 4 8 rfl rfl (by omega) (by omega) (by omega) W
  have k3 := fun W => sl_both b0 o 60 c 8 12 8 12 rfl rfl (by omega) (by omega) (by omega) W
  simp only [Nat.reduceSub] at k1 k2 k3
  have HU2 : Hid (∀ W, Below w.heap.size w W → Calls Tryz.prog 112 #[.slice (some ⟨b0, o + 4, none⟩) 4 (c - 4)] W fun e w' => e = .returned (.tuple #[.int .i64 (ev : Int), .int .i64 0]) ∧ W = w') := fun W hb => by
    rw [hev]; exact HU.out W 4 4 (_, 0) hb (by omega) (by omega) (by omega) (unfix_ok l4 (by omega) (by omega) (by omega))
  have HU3 : Hid (∀ W, Below w.heap.size w W → Calls Tryz.prog 112 #[.slice (some ⟨b0, o + 8, none⟩) 4 (c - 8)] W fun e w' => e = .returned (.tuple #[.int .i64 (nv : Int), .int .i64 0]) ∧ W = w') := fun W hb => by
    rw [hnv]; exact HU.out W 8 4 (_, 0) hb (by omega) (by omega) (by omega) (unfix_ok l8 (by omega) (by omega) (by omega))
  have d0 : decide ((48 : Int) < (nn : Int)) = false := decide_eq_false (by omega)
  have d1 : decide ((nn : Int) > 48) = false := decide_eq_false (by omega)
  have d2 : decide (48 < nn) = false := decide_eq_false (by omega)
  have e12 : IntKind.i64.wrap ((12 : Int) + (nn : Int)) = (12 : Int) + (nn : Int) := IntWalk.i64_in _ (by omega)
  have k4 := fun W => sl_both b0 o 60 c 12 (12 + nn) 12 ((12 : Int) + (nn : Int)) rfl (by omega) (by omega) (by omega) (by omega) W
  rw [show 12 + nn - 12 = nn by omega] at k4
  have n5 := fun w' => Tryz.secBuild5 (kd : Int) (ev : Int) (nv : Int) (lv : Int) (some ⟨b0, o + 12, none⟩) nn (c - 12) w'
  have hS : secOf M = ⟨(kd : Int), (ev : Int), (nv : Int), (lv : Int), (M.drop 12).take nn⟩ := by unfold secOf; rw [hkd, hev, hnv, hlv, hnn]
  have hDl : ((M.drop 12).take nn).length = nn := by rw [List.length_take, List.length_drop]; omega
  have HDr : Hid (∀ W, Below w.heap.size w W → RBc W (some ⟨b0, o + 12, none⟩) (secOf M).data (c - 12)) := fun W hb => by
    rw [hS]; exact ⟨(sub_rb (hrM.below hb) 12 nn (by omega) (show M.length < c by omega)).more hb.size, by show ((M.drop 12).take nn).length ≤ c - 12; rw [hDl]; omega, by omega⟩
  have hVv : secV (secOf M) (some ⟨b0, o + 12, none⟩) (c - 12) = .agg #[.int .i64 (kd : Int), .int .i64 (ev : Int), .int .i64 (nv : Int), .int .i64 (lv : Int), .slice (some ⟨b0, o + 12, none⟩) nn (c - 12)] := by rw [hS]; unfold secV; simp only [hDl]
  have HSb : Hid (∀ W, Below w.heap.size w W → (convert 39 9 (.slice (some ⟨b0, o, none⟩) 64 c)).run Tryz.prog W = .ok (.string ⟨b.toArray⟩) W) := fun W hb => aw_str (rb_up7 hr hb) 64 c h64.symm
  have HCS : Hid (∀ W W' : World, Below (W.alloc (.cells #[.int .i64 (kd : Int), .int .i64 (ev : Int), .int .i64 (nv : Int), .int .i64 (lv : Int), .slice (some ⟨b0, o + 12, none⟩) nn (c - 12)] 49)).heap.size (W.alloc (.cells #[.int .i64 (kd : Int), .int .i64 (ev : Int), .int .i64 (nv : Int), .int .i64 (lv : Int), .slice (some ⟨b0, o + 12, none⟩) nn (c - 12)] 49)) W' → W'.cell? ⟨W.heap.size, 0, none⟩ = some (.int .i64 (kd : Int)) ∧ W'.cell? ⟨W.heap.size, 1, none⟩ = some (.int .i64 (ev : Int)) ∧ W'.cell? ⟨W.heap.size, 2, none⟩ = some (.int .i64 (nv : Int)) ∧ W'.cell? ⟨W.heap.size, 3, none⟩ = some (.int .i64 (lv : Int)) ∧ W'.cell? ⟨W.heap.size, 4, none⟩ = some (.slice (some ⟨b0, o + 12, none⟩) nn (c - 12))) := fun W W' hb => by
    have h0 : Blk W' W.heap.size 49 #[.int .i64 (kd : Int), .int .i64 (ev : Int), .int .i64 (nv : Int), .int .i64 (lv : Int), .slice (some ⟨b0, o + 12, none⟩) nn (c - 12)] := Blk.below (Blk.new W _ _) hb (by simp)
    exact ⟨by rw [h0.cell]; rfl, by rw [h0.cell]; rfl, by rw [h0.cell]; rfl, by rw [h0.cell]; rfl, by rw [h0.cell]; rfl⟩
  have HV : Hid (getS b = (.zero, 5)) := getS_form h64 ho (fun hF => by have h5 := ((body_secOf M (by omega)).2 hF).1; rw [hm] at h5; cases h5)
  have HPut : Hid (∀ W, Below w.heap.size w W → Calls Tryz.prog 12 #[.agg #[.int .i64 (kd : Int), .int .i64 (ev : Int), .int .i64 (nv : Int), .int .i64 (lv : Int), .slice (some ⟨b0, o + 12, none⟩) nn (c - 12)]] W fun e w' => e = .returned (.tuple #[.slice none 0 0, .int .i64 1]) ∧ Below W.heap.size W w') := fun W hb => by
    rw [← hVv]; exact rput_no _ _ _ W hm
  clear hM60 hMb hrM h64 hr hcm ho hlv hev hnv hkd hnn lvs l2 l4 l8 HU h1 h2 h3 hDl hS hVv hm
  go_enter Tryz.func96, Tryz.ntmps96
  go_wp2_with (first
    | (go_at_call 111; (with_reducible refine (HO.out _ HB.out).mono ?_); rintro e w1 ⟨rfl, hb1⟩; obtain ⟨⟨p0, p1, p2, p3, p4⟩, f0, f1, f2, f3, f4⟩ := HC.out _ hb1; have b1 := chain7 HB.out hb1; obtain ⟨q0, q1⟩ := HCell.out _ b1)
    | (go_at_call 112; (with_reducible refine (HU1.out _ b1).mono ?_); rintro e w2 ⟨rfl, rfl⟩)
    | (go_at_call 112; (with_reducible refine (HU2.out _ b1).mono ?_); rintro e w2 ⟨rfl, rfl⟩)
    | (go_at_call 112; (with_reducible refine (HU3.out _ b1).mono ?_); rintro e w2 ⟨rfl, rfl⟩))
  have b1a := b1.alloc b1.size (.cells #[.int .i64 0, .int .i64 0, .int .i64 0, .int .i64 0, .slice none 0 0] 49)
  obtain ⟨q0a, -⟩ := HCell.out _ b1a
  go_region
  have bA : Below w.heap.size w (w1.alloc (.cells #[.int .i64 (kd : Int), .int .i64 (ev : Int), .int .i64 (nv : Int), .int .i64 (lv : Int), .slice (some ⟨b0, o + 12, none⟩) nn (c - 12)] 49)).drew := (b1.alloc b1.size _).drew
  have hbA := (hb1.alloc hb1.size (.cells #[.int .i64 (kd : Int), .int .i64 (ev : Int), .int .i64 (nv : Int), .int .i64 (lv : Int), .slice (some ⟨b0, o + 12, none⟩) nn (c - 12)] 49)).drew
  have hbS : Below (w1.alloc (.cells #[.int .i64 (kd : Int), .int .i64 (ev : Int), .int .i64 (nv : Int), .int .i64 (lv : Int), .slice (some ⟨b0, o + 12, none⟩) nn (c - 12)] 49)).heap.size (w1.alloc (.cells #[.int .i64 (kd : Int), .int .i64 (ev : Int), .int .i64 (nv : Int), .int .i64 (lv : Int), .slice (some ⟨b0, o + 12, none⟩) nn (c - 12)] 49)) (w1.alloc (.cells #[.int .i64 (kd : Int), .int .i64 (ev : Int), .int .i64 (nv : Int), .int .i64 (lv : Int), .slice (some ⟨b0, o + 12, none⟩) nn (c - 12)] 49)).drew := (Below.refl _ _).drew
  obtain ⟨t0, t1, t2, t3, t4⟩ := HCS.out _ _ hbS
  have HCS1 := Lib.hid (HCS.out w1)
  clear p0 p1 p2 p3 p4 f0 f1 f2 f3 f4 q0 q1 HCell HU1 HU2 HU3 HO k1 k2 k3 k4 e12 n5 HCS
  generalize hWA : (w1.alloc (.cells #[.int .i64 (kd : Int), .int .i64 (ev : Int), .int .i64 (nv : Int), .int .i64 (lv : Int), .slice (some ⟨b0, o + 12, none⟩) nn (c - 12)] 49)) = WA at bA hbA hbS t0 t1 t2 t3 t4 HCS1 ⊢
  generalize w1.heap.size = g3 at t0 t1 t2 t3 t4 HCS1 ⊢
  clear hWA
  go_wp2_with (first
    | (go_at_call 12; (with_reducible refine (HPut.out _ bA).mono ?_); rintro e w6 ⟨rfl, hb6⟩; have b6 := chain7 bA hb6; obtain ⟨⟨p0, p1, p2, p3, p4⟩, f0, f1, f2, f3, f4⟩ := HC.out _ (chain7 hbA hb6); have sb := HSb.out _ b6; clear t0 t1 t2 t3 t4; obtain ⟨t0, t1, t2, t3, t4⟩ := HCS1.out _ (chain7 hbS hb6)))
  refine bodyPost_ret (v := .tuple #[.agg #[.int .i64 0, .int .i64 0, .int .i64 0, .int .i64 0, .slice none 0 0], .int .i64 5]) (by simp [results, Tryz.results96, go_sem, p0, p1, p2, p3, p4]) rfl ⟨none, 0, by rw [HV.out]; rfl, by rw [HV.out]; exact rbc_none _, (fun h => by rw [HV.out] at h; exact absurd h (by decide)), below_five b6 (Nat.le_refl _) _ _ _ _ _⟩
theorem rget_in5 (b M : List UInt8) (b0 o c : Nat) (w : World) (h64 : b.length = 64) (hr : RB w w.heap.size (some ⟨b0, o, none⟩) b) (hc : 64 ≤ c) (hcm : c ≤ 9223372036854775807) (ho : openL b = some M) (h1 : unfixL ((M.drop 4).take 4) ≤ 2147483647) (h2 : unfixL ((M.drop 8).take 4) ≤ 2147483647) (h3 : (M.getD 1 0).toNat ≤ 48) (hm : (secOf M).may = true) (hbd : ¬ (secOf M).body = M) :
    Calls Tryz.prog 96 #[.slice (some ⟨b0, o, none⟩) 64 c] w (GivesSv (some ⟨b0, o, none⟩) (getS b) w) := by
  have hM60 : M.length = 60 := by have := (openL_some ho).2; omega
  have hMb : M = b.take 60 := by
    have h1 := (openL_some ho).1
    rw [h1]; unfold sealL; rw [List.take_append_of_le_length (by omega), List.take_of_length_le (by omega)]
  have hrM : RB w w.heap.size (some ⟨b0, o, none⟩) M := by rw [hMb]; exact rb_take hr 60 (by omega)
  have HO : Hid (∀ W, Below w.heap.size w W → Calls Tryz.prog 111 #[.slice (some ⟨b0, o, none⟩) 64 c] W fun e w' => e = .returned (.tuple #[.slice (some ⟨b0, o, none⟩) 60 c, .int .i64 0]) ∧ Below W.heap.size W w') := fun W hb => by
    have := refOpen_view b M (some ⟨b0, o, none⟩) c W (rb_up7 hr hb) (by omega) hcm (by omega) ho
    rw [h64, hM60] at this
    exact this
  obtain ⟨lv, hlv⟩ : ∃ x, x = unfixL ((M.drop 2).take 2) := ⟨_, rfl⟩
  obtain ⟨ev, hev⟩ : ∃ x, x = unfixL ((M.drop 4).take 4) := ⟨_, rfl⟩
  obtain ⟨nv, hnv⟩ : ∃ x, x = unfixL ((M.drop 8).take 4) := ⟨_, rfl⟩
  obtain ⟨kd, hkd⟩ : ∃ x, x = (M.getD 0 0).toNat := ⟨_, rfl⟩
  obtain ⟨nn, hnn⟩ : ∃ x, x = (M.getD 1 0).toNat := ⟨_, rfl⟩
  have lvs : lv ≤ 65535 := by
    have := unfixL_lt ((M.drop 2).take 2)
    have hl : ((M.drop 2).take 2).length = 2 := by rw [List.length_take, List.length_drop]; omega
    rw [hl] at this
    have e : (256 : Nat) ^ 2 = 65536 := rfl
    omega
  have hnn256 : nn < 256 := by rw [hnn]; exact (M.getD 1 0).toNat_lt
  have hkd256 : kd < 256 := by rw [hkd]; exact (M.getD 0 0).toNat_lt
  have HU : Hid (∀ W (k q : Nat) (r : Nat × Nat), Below w.heap.size w W → k + q ≤ 60 → 1 ≤ q → q ≤ 4 → unfixR ((M.drop k).take q) = r → Calls Tryz.prog 112 #[.slice (some ⟨b0, o + k, none⟩) q (c - k)] W fun e w' => e = .returned (.tuple #[.int .i64 (r.1 : Int), .int .i64 (r.2 : Int)]) ∧ W = w') := fun W k q r hb h1 h2 h3 hq => by
    have hl : ((M.drop k).take q).length = q := by rw [List.length_take, List.length_drop]; omega
    have := refUnfix_any ((M.drop k).take q) (some ⟨b0, o + k, none⟩) (c - k) _ W (sub_rb (hrM.below hb) k q (by omega) (show M.length < c by omega)) (by omega)
    rw [hl, hq] at this
    exact this
  have l2 : ((M.drop 2).take 2).length = 2 := by rw [List.length_take, List.length_drop]; omega
  have l4 : ((M.drop 4).take 4).length = 4 := by rw [List.length_take, List.length_drop]; omega
  have l8 : ((M.drop 8).take 4).length = 4 := by rw [List.length_take, List.length_drop]; omega
  have HU1 : Hid (∀ W, Below w.heap.size w W → Calls Tryz.prog 112 #[.slice (some ⟨b0, o + 2, none⟩) 2 (c - 2)] W fun e w' => e = .returned (.tuple #[.int .i64 (lv : Int), .int .i64 0]) ∧ W = w') := fun W hb => by
    rw [hlv]; exact HU.out W 2 2 (_, 0) hb (by omega) (by omega) (by omega) (unfix_ok l2 (by omega) (by omega) (by omega))
  have HCell : Hid (∀ W, Below w.heap.size w W → W.cell? ⟨b0, o, none⟩ = some (.int .u8 (kd : Int)) ∧ W.cell? ⟨b0, o + 1, none⟩ = some (.int .u8 (nn : Int))) := fun W hb => by
    obtain ⟨b', o', e, _, hcc⟩ := (hrM.below hb).at_ (by omega)
    simp only [Option.some.injEq, Addr.mk.injEq, and_true] at e
    obtain ⟨rfl, rfl⟩ := e
    have c0 := hcc 0 (by omega)
    have c1 := hcc 1 (by omega)
    refine ⟨?_, ?_⟩
    · rw [Nat.add_zero] at c0
      rw [c0, hkd]; simp [List.getD, List.getElem?_eq_getElem (show 0 < M.length by omega)]
    · rw [c1, hnn]; simp [List.getD, List.getElem?_eq_getElem (show 1 < M.length by omega)]
  have HB : Hid (Below w.heap.size w (w.alloc (.cells #[.int .i64 0, .int .i64 0, .int .i64 0, .int .i64 0, .slice none 0 0] 49))) := (Below.refl _ _).alloc (Nat.le_refl _) _
  have HC := Lib.hid (fun W hb => res_at w W hb)
  have nb := fun w' => Tryz.secBuild0 w'
  have a24 := fun w' => Tryz.aggSec w'
  have s24 := fun w' => Tryz.sizeSec w'
  have k1 := fun W => sl_both b0 o 60 c 2 4 2 4 rfl rfl (by omega) (by omega) (by omega) W
  have k2 := fun W => sl_both b0 o 60 c 4 8 4 8 rfl rfl (by omega) (by omega) (by omega) W
  have k3 := fun W => sl_both b0 o 60 c 8 12 8 12 rfl rfl (by omega) (by omega) (by omega) W
  simp only [Nat.reduceSub] at k1 k2 k3
  have HU2 : Hid (∀ W, Below w.heap.size w W → Calls Tryz.prog 112 #[.slice (some ⟨b0, o + 4, none⟩) 4 (c - 4)] W fun e w' => e = .returned (.tuple #[.int .i64 (ev : Int), .int .i64 0]) ∧ W = w') := fun W hb => by
    rw [hev]; exact HU.out W 4 4 (_, 0) hb (by omega) (by omega) (by omega) (unfix_ok l4 (by omega) (by omega) (by omega))
  have HU3 : Hid (∀ W, Below w.heap.size w W → Calls Tryz.prog 112 #[.slice (some ⟨b0, o + 8, none⟩) 4 (c - 8)] W fun e w' => e = .returned (.tuple #[.int .i64 (nv : Int), .int .i64 0]) ∧ W = w') := fun W hb => by
    rw [hnv]; exact HU.out W 8 4 (_, 0) hb (by omega) (by omega) (by omega) (unfix_ok l8 (by omega) (by omega) (by omega))
  have d0 : decide ((48 : Int) < (nn : Int)) = false := decide_eq_false (by omega)
  have d1 : decide ((nn : Int) > 48) = false := decide_eq_false (by omega)
  have d2 : decide (48 < nn) = false := decide_eq_false (by omega)
  have e12 : IntKind.i64.wrap ((12 : Int) + (nn : Int)) = (12 : Int) + (nn : Int) := IntWalk.i64_in _ (by omega)
  have k4 := fun W => sl_both b0 o 60 c 12 (12 + nn) 12 ((12 : Int) + (nn : Int)) rfl (by omega) (by omega) (by omega) (by omega) W
  rw [show 12 + nn - 12 = nn by omega] at k4
  have n5 := fun w' => Tryz.secBuild5 (kd : Int) (ev : Int) (nv : Int) (lv : Int) (some ⟨b0, o + 12, none⟩) nn (c - 12) w'
  have hS : secOf M = ⟨(kd : Int), (ev : Int), (nv : Int), (lv : Int), (M.drop 12).take nn⟩ := by unfold secOf; rw [hkd, hev, hnv, hlv, hnn]
  have hDl : ((M.drop 12).take nn).length = nn := by rw [List.length_take, List.length_drop]; omega
  have HDr : Hid (∀ W, Below w.heap.size w W → RBc W (some ⟨b0, o + 12, none⟩) (secOf M).data (c - 12)) := fun W hb => by
    rw [hS]; exact ⟨(sub_rb (hrM.below hb) 12 nn (by omega) (show M.length < c by omega)).more hb.size, by show ((M.drop 12).take nn).length ≤ c - 12; rw [hDl]; omega, by omega⟩
  have hVv : secV (secOf M) (some ⟨b0, o + 12, none⟩) (c - 12) = .agg #[.int .i64 (kd : Int), .int .i64 (ev : Int), .int .i64 (nv : Int), .int .i64 (lv : Int), .slice (some ⟨b0, o + 12, none⟩) nn (c - 12)] := by rw [hS]; unfold secV; simp only [hDl]
  have HSb : Hid (∀ W, Below w.heap.size w W → (convert 39 9 (.slice (some ⟨b0, o, none⟩) 64 c)).run Tryz.prog W = .ok (.string ⟨b.toArray⟩) W) := fun W hb => aw_str (rb_up7 hr hb) 64 c h64.symm
  have HCS : Hid (∀ W W' : World, Below (W.alloc (.cells #[.int .i64 (kd : Int), .int .i64 (ev : Int), .int .i64 (nv : Int), .int .i64 (lv : Int), .slice (some ⟨b0, o + 12, none⟩) nn (c - 12)] 49)).heap.size (W.alloc (.cells #[.int .i64 (kd : Int), .int .i64 (ev : Int), .int .i64 (nv : Int), .int .i64 (lv : Int), .slice (some ⟨b0, o + 12, none⟩) nn (c - 12)] 49)) W' → W'.cell? ⟨W.heap.size, 0, none⟩ = some (.int .i64 (kd : Int)) ∧ W'.cell? ⟨W.heap.size, 1, none⟩ = some (.int .i64 (ev : Int)) ∧ W'.cell? ⟨W.heap.size, 2, none⟩ = some (.int .i64 (nv : Int)) ∧ W'.cell? ⟨W.heap.size, 3, none⟩ = some (.int .i64 (lv : Int)) ∧ W'.cell? ⟨W.heap.size, 4, none⟩ = some (.slice (some ⟨b0, o + 12, none⟩) nn (c - 12))) := fun W W' hb => by
    have h0 : Blk W' W.heap.size 49 #[.int .i64 (kd : Int), .int .i64 (ev : Int), .int .i64 (nv : Int), .int .i64 (lv : Int), .slice (some ⟨b0, o + 12, none⟩) nn (c - 12)] := Blk.below (Blk.new W _ _) hb (by simp)
    exact ⟨by rw [h0.cell]; rfl, by rw [h0.cell]; rfl, by rw [h0.cell]; rfl, by rw [h0.cell]; rfl, by rw [h0.cell]; rfl⟩
  have HV : Hid (getS b = (.zero, 5)) := getS_form h64 ho (fun hF => hbd ((body_secOf M (by omega)).2 hF).2)
  have h48 : (secOf M).data.length ≤ 48 := ((Sd.may_iff _).1 hm).2.2.2.2.2.2.2.2
  obtain ⟨S, hSS⟩ : ∃ S, S = (secOf M).bytes := ⟨_, rfl⟩
  have hS64 : S.length = 64 := by rw [hSS]; exact Sd.bytes_length _ h48
  have HPut : Hid (∀ W, Below w.heap.size w W → Calls Tryz.prog 12 #[.agg #[.int .i64 (kd : Int), .int .i64 (ev : Int), .int .i64 (nv : Int), .int .i64 (lv : Int), .slice (some ⟨b0, o + 12, none⟩) nn (c - 12)]] W fun e w' => ∃ A c, e = .returned (.tuple #[.slice A 64 c, .int .i64 0]) ∧ Hid ((convert 39 9 (.slice A 64 c)).run Tryz.prog w' = .ok (.string ⟨S.toArray⟩) w') ∧ Below W.heap.size W w') := fun W hb => by
    rw [← hVv]
    refine (rput_yes _ _ _ W hm (HDr.out W hb).1).mono fun e w' hh => ?_
    obtain ⟨A, c, he, ho, hb⟩ := hh
    rw [← hSS] at he ho
    rw [hS64] at he
    exact ⟨A, c, he, aw_str (own_rb ho) 64 c hS64.symm, hb⟩
  have hbb : (S == b) = false := by
    rw [beq_eq_false_iff_ne]
    intro h5
    have h6 : (secOf M).bytes = sealL M := by rw [← hSS, h5]; exact (openL_some ho).1
    exact hbd (sealL_inj h6)
  clear hSS hS64 h48 hbd
  clear hM60 hMb hrM h64 hr hcm ho hlv hev hnv hkd hnn lvs l2 l4 l8 HU h1 h2 h3 hDl hS hVv hm
  go_enter Tryz.func96, Tryz.ntmps96
  go_wp2_with (first
    | (go_at_call 111; (with_reducible refine (HO.out _ HB.out).mono ?_); rintro e w1 ⟨rfl, hb1⟩; obtain ⟨⟨p0, p1, p2, p3, p4⟩, f0, f1, f2, f3, f4⟩ := HC.out _ hb1; have b1 := chain7 HB.out hb1; obtain ⟨q0, q1⟩ := HCell.out _ b1)
    | (go_at_call 112; (with_reducible refine (HU1.out _ b1).mono ?_); rintro e w2 ⟨rfl, rfl⟩)
    | (go_at_call 112; (with_reducible refine (HU2.out _ b1).mono ?_); rintro e w2 ⟨rfl, rfl⟩)
    | (go_at_call 112; (with_reducible refine (HU3.out _ b1).mono ?_); rintro e w2 ⟨rfl, rfl⟩))
  have b1a := b1.alloc b1.size (.cells #[.int .i64 0, .int .i64 0, .int .i64 0, .int .i64 0, .slice none 0 0] 49)
  obtain ⟨q0a, -⟩ := HCell.out _ b1a
  go_region
  have bA : Below w.heap.size w (w1.alloc (.cells #[.int .i64 (kd : Int), .int .i64 (ev : Int), .int .i64 (nv : Int), .int .i64 (lv : Int), .slice (some ⟨b0, o + 12, none⟩) nn (c - 12)] 49)).drew := (b1.alloc b1.size _).drew
  have hbA := (hb1.alloc hb1.size (.cells #[.int .i64 (kd : Int), .int .i64 (ev : Int), .int .i64 (nv : Int), .int .i64 (lv : Int), .slice (some ⟨b0, o + 12, none⟩) nn (c - 12)] 49)).drew
  have hbS : Below (w1.alloc (.cells #[.int .i64 (kd : Int), .int .i64 (ev : Int), .int .i64 (nv : Int), .int .i64 (lv : Int), .slice (some ⟨b0, o + 12, none⟩) nn (c - 12)] 49)).heap.size (w1.alloc (.cells #[.int .i64 (kd : Int), .int .i64 (ev : Int), .int .i64 (nv : Int), .int .i64 (lv : Int), .slice (some ⟨b0, o + 12, none⟩) nn (c - 12)] 49)) (w1.alloc (.cells #[.int .i64 (kd : Int), .int .i64 (ev : Int), .int .i64 (nv : Int), .int .i64 (lv : Int), .slice (some ⟨b0, o + 12, none⟩) nn (c - 12)] 49)).drew := (Below.refl _ _).drew
  obtain ⟨t0, t1, t2, t3, t4⟩ := HCS.out _ _ hbS
  have HCS1 := Lib.hid (HCS.out w1)
  clear p0 p1 p2 p3 p4 f0 f1 f2 f3 f4 q0 q1 HCell HU1 HU2 HU3 HO k1 k2 k3 k4 e12 n5 HCS
  generalize hWA : (w1.alloc (.cells #[.int .i64 (kd : Int), .int .i64 (ev : Int), .int .i64 (nv : Int), .int .i64 (lv : Int), .slice (some ⟨b0, o + 12, none⟩) nn (c - 12)] 49)) = WA at bA hbA hbS t0 t1 t2 t3 t4 HCS1 ⊢
  generalize w1.heap.size = g3 at t0 t1 t2 t3 t4 HCS1 ⊢
  clear hWA
  go_wp2_with (first
    | (go_at_call 12; (with_reducible refine (HPut.out _ bA).mono ?_); rintro e w6 ⟨A6, c6, rfl, s6, hb6⟩; have s6 := s6.out; have b6 := chain7 bA hb6; obtain ⟨⟨p0, p1, p2, p3, p4⟩, f0, f1, f2, f3, f4⟩ := HC.out _ (chain7 hbA hb6); have sb := HSb.out _ b6; clear t0 t1 t2 t3 t4; obtain ⟨t0, t1, t2, t3, t4⟩ := HCS1.out _ (chain7 hbS hb6)))
  refine bodyPost_ret (v := .tuple #[.agg #[.int .i64 0, .int .i64 0, .int .i64 0, .int .i64 0, .slice none 0 0], .int .i64 5]) (by simp [results, Tryz.results96, go_sem, p0, p1, p2, p3, p4]) rfl ⟨none, 0, by rw [HV.out]; rfl, by rw [HV.out]; exact rbc_none _, (fun h => by rw [HV.out] at h; exact absurd h (by decide)), below_five b6 (Nat.le_refl _) _ _ _ _ _⟩
theorem rget_in6 (b M : List UInt8) (b0 o c : Nat) (w : World) (h64 : b.length = 64) (hr : RB w w.heap.size (some ⟨b0, o, none⟩) b) (hc : 64 ≤ c) (hcm : c ≤ 9223372036854775807) (ho : openL b = some M) (h1 : unfixL ((M.drop 4).take 4) ≤ 2147483647) (h2 : unfixL ((M.drop 8).take 4) ≤ 2147483647) (h3 : (M.getD 1 0).toNat ≤ 48) (hm : (secOf M).may = true) (hbd : (secOf M).body = M) :
    Calls Tryz.prog 96 #[.slice (some ⟨b0, o, none⟩) 64 c] w (GivesSv (some ⟨b0, o, none⟩) (getS b) w) := by
  have hM60 : M.length = 60 := by have := (openL_some ho).2; omega
  have hMb : M = b.take 60 := by
    have h1 := (openL_some ho).1
    rw [h1]; unfold sealL; rw [List.take_append_of_le_length (by omega), List.take_of_length_le (by omega)]
  have hrM : RB w w.heap.size (some ⟨b0, o, none⟩) M := by rw [hMb]; exact rb_take hr 60 (by omega)
  have HO : Hid (∀ W, Below w.heap.size w W → Calls Tryz.prog 111 #[.slice (some ⟨b0, o, none⟩) 64 c] W fun e w' => e = .returned (.tuple #[.slice (some ⟨b0, o, none⟩) 60 c, .int .i64 0]) ∧ Below W.heap.size W w') := fun W hb => by
    have := refOpen_view b M (some ⟨b0, o, none⟩) c W (rb_up7 hr hb) (by omega) hcm (by omega) ho
    rw [h64, hM60] at this
    exact this
  obtain ⟨lv, hlv⟩ : ∃ x, x = unfixL ((M.drop 2).take 2) := ⟨_, rfl⟩
  obtain ⟨ev, hev⟩ : ∃ x, x = unfixL ((M.drop 4).take 4) := ⟨_, rfl⟩
  obtain ⟨nv, hnv⟩ : ∃ x, x = unfixL ((M.drop 8).take 4) := ⟨_, rfl⟩
  obtain ⟨kd, hkd⟩ : ∃ x, x = (M.getD 0 0).toNat := ⟨_, rfl⟩
  obtain ⟨nn, hnn⟩ : ∃ x, x = (M.getD 1 0).toNat := ⟨_, rfl⟩
  have lvs : lv ≤ 65535 := by
    have := unfixL_lt ((M.drop 2).take 2)
    have hl : ((M.drop 2).take 2).length = 2 := by rw [List.length_take, List.length_drop]; omega
    rw [hl] at this
    have e : (256 : Nat) ^ 2 = 65536 := rfl
    omega
  have hnn256 : nn < 256 := by rw [hnn]; exact (M.getD 1 0).toNat_lt
  have hkd256 : kd < 256 := by rw [hkd]; exact (M.getD 0 0).toNat_lt
  have HU : Hid (∀ W (k q : Nat) (r : Nat × Nat), Below w.heap.size w W → k + q ≤ 60 → 1 ≤ q → q ≤ 4 → unfixR ((M.drop k).take q) = r → Calls Tryz.prog 112 #[.slice (some ⟨b0, o + k, none⟩) q (c - k)] W fun e w' => e = .returned (.tuple #[.int .i64 (r.1 : Int), .int .i64 (r.2 : Int)]) ∧ W = w') := fun W k q r hb h1 h2 h3 hq => by
    have hl : ((M.drop k).take q).length = q := by rw [List.length_take, List.length_drop]; omega
    have := refUnfix_any ((M.drop k).take q) (some ⟨b0, o + k, none⟩) (c - k) _ W (sub_rb (hrM.below hb) k q (by omega) (show M.length < c by omega)) (by omega)
    rw [hl, hq] at this
    exact this
  have l2 : ((M.drop 2).take 2).length = 2 := by rw [List.length_take, List.length_drop]; omega
  have l4 : ((M.drop 4).take 4).length = 4 := by rw [List.length_take, List.length_drop]; omega
  have l8 : ((M.drop 8).take 4).length = 4 := by rw [List.length_take, List.length_drop]; omega
  have HU1 : Hid (∀ W, Below w.heap.size w W → Calls Tryz.prog 112 #[.slice (some ⟨b0, o + 2, none⟩) 2 (c - 2)] W fun e w' => e = .returned (.tuple #[.int .i64 (lv : Int), .int .i64 0]) ∧ W = w') := fun W hb => by
    rw [hlv]; exact HU.out W 2 2 (_, 0) hb (by omega) (by omega) (by omega) (unfix_ok l2 (by omega) (by omega) (by omega))
  have HCell : Hid (∀ W, Below w.heap.size w W → W.cell? ⟨b0, o, none⟩ = some (.int .u8 (kd : Int)) ∧ W.cell? ⟨b0, o + 1, none⟩ = some (.int .u8 (nn : Int))) := fun W hb => by
    obtain ⟨b', o', e, _, hcc⟩ := (hrM.below hb).at_ (by omega)
    simp only [Option.some.injEq, Addr.mk.injEq, and_true] at e
    obtain ⟨rfl, rfl⟩ := e
    have c0 := hcc 0 (by omega)
    have c1 := hcc 1 (by omega)
    refine ⟨?_, ?_⟩
    · rw [Nat.add_zero] at c0
      rw [c0, hkd]; simp [List.getD, List.getElem?_eq_getElem (show 0 < M.length by omega)]
    · rw [c1, hnn]; simp [List.getD, List.getElem?_eq_getElem (show 1 < M.length by omega)]
  have HB : Hid (Below w.heap.size w (w.alloc (.cells #[.int .i64 0, .int .i64 0, .int .i64 0, .int .i64 0, .slice none 0 0] 49))) := (Below.refl _ _).alloc (Nat.le_refl _) _
  have HC := Lib.hid (fun W hb => res_at w W hb)
  have nb := fun w' => Tryz.secBuild0 w'
  have a24 := fun w' => Tryz.aggSec w'
  have s24 := fun w' => Tryz.sizeSec w'
  have k1 := fun W => sl_both b0 o 60 c 2 4 2 4 rfl rfl (by omega) (by omega) (by omega) W
  have k2 := fun W => sl_both b0 o 60 c 4 8 4 8 rfl rfl (by omega) (by omega) (by omega) W
  have k3 := fun W => sl_both b0 o 60 c 8 12 8 12 rfl rfl (by omega) (by omega) (by omega) W
  simp only [Nat.reduceSub] at k1 k2 k3
  have HU2 : Hid (∀ W, Below w.heap.size w W → Calls Tryz.prog 112 #[.slice (some ⟨b0, o + 4, none⟩) 4 (c - 4)] W fun e w' => e = .returned (.tuple #[.int .i64 (ev : Int), .int .i64 0]) ∧ W = w') := fun W hb => by
    rw [hev]; exact HU.out W 4 4 (_, 0) hb (by omega) (by omega) (by omega) (unfix_ok l4 (by omega) (by omega) (by omega))
  have HU3 : Hid (∀ W, Below w.heap.size w W → Calls Tryz.prog 112 #[.slice (some ⟨b0, o + 8, none⟩) 4 (c - 8)] W fun e w' => e = .returned (.tuple #[.int .i64 (nv : Int), .int .i64 0]) ∧ W = w') := fun W hb => by
    rw [hnv]; exact HU.out W 8 4 (_, 0) hb (by omega) (by omega) (by omega) (unfix_ok l8 (by omega) (by omega) (by omega))
  have d0 : decide ((48 : Int) < (nn : Int)) = false := decide_eq_false (by omega)
  have d1 : decide ((nn : Int) > 48) = false := decide_eq_false (by omega)
  have d2 : decide (48 < nn) = false := decide_eq_false (by omega)
  have e12 : IntKind.i64.wrap ((12 : Int) + (nn : Int)) = (12 : Int) + (nn : Int) := IntWalk.i64_in _ (by omega)
  have k4 := fun W => sl_both b0 o 60 c 12 (12 + nn) 12 ((12 : Int) + (nn : Int)) rfl (by omega) (by omega) (by omega) (by omega) W
  rw [show 12 + nn - 12 = nn by omega] at k4
  have n5 := fun w' => Tryz.secBuild5 (kd : Int) (ev : Int) (nv : Int) (lv : Int) (some ⟨b0, o + 12, none⟩) nn (c - 12) w'
  have hS : secOf M = ⟨(kd : Int), (ev : Int), (nv : Int), (lv : Int), (M.drop 12).take nn⟩ := by unfold secOf; rw [hkd, hev, hnv, hlv, hnn]
  have hDl : ((M.drop 12).take nn).length = nn := by rw [List.length_take, List.length_drop]; omega
  have HDr : Hid (∀ W, Below w.heap.size w W → RBc W (some ⟨b0, o + 12, none⟩) (secOf M).data (c - 12)) := fun W hb => by
    rw [hS]; exact ⟨(sub_rb (hrM.below hb) 12 nn (by omega) (show M.length < c by omega)).more hb.size, by show ((M.drop 12).take nn).length ≤ c - 12; rw [hDl]; omega, by omega⟩
  have hVv : secV (secOf M) (some ⟨b0, o + 12, none⟩) (c - 12) = .agg #[.int .i64 (kd : Int), .int .i64 (ev : Int), .int .i64 (nv : Int), .int .i64 (lv : Int), .slice (some ⟨b0, o + 12, none⟩) nn (c - 12)] := by rw [hS]; unfold secV; simp only [hDl]
  have HSb : Hid (∀ W, Below w.heap.size w W → (convert 39 9 (.slice (some ⟨b0, o, none⟩) 64 c)).run Tryz.prog W = .ok (.string ⟨b.toArray⟩) W) := fun W hb => aw_str (rb_up7 hr hb) 64 c h64.symm
  have HCS : Hid (∀ W W' : World, Below (W.alloc (.cells #[.int .i64 (kd : Int), .int .i64 (ev : Int), .int .i64 (nv : Int), .int .i64 (lv : Int), .slice (some ⟨b0, o + 12, none⟩) nn (c - 12)] 49)).heap.size (W.alloc (.cells #[.int .i64 (kd : Int), .int .i64 (ev : Int), .int .i64 (nv : Int), .int .i64 (lv : Int), .slice (some ⟨b0, o + 12, none⟩) nn (c - 12)] 49)) W' → W'.cell? ⟨W.heap.size, 0, none⟩ = some (.int .i64 (kd : Int)) ∧ W'.cell? ⟨W.heap.size, 1, none⟩ = some (.int .i64 (ev : Int)) ∧ W'.cell? ⟨W.heap.size, 2, none⟩ = some (.int .i64 (nv : Int)) ∧ W'.cell? ⟨W.heap.size, 3, none⟩ = some (.int .i64 (lv : Int)) ∧ W'.cell? ⟨W.heap.size, 4, none⟩ = some (.slice (some ⟨b0, o + 12, none⟩) nn (c - 12))) := fun W W' hb => by
    have h0 : Blk W' W.heap.size 49 #[.int .i64 (kd : Int), .int .i64 (ev : Int), .int .i64 (nv : Int), .int .i64 (lv : Int), .slice (some ⟨b0, o + 12, none⟩) nn (c - 12)] := Blk.below (Blk.new W _ _) hb (by simp)
    exact ⟨by rw [h0.cell]; rfl, by rw [h0.cell]; rfl, by rw [h0.cell]; rfl, by rw [h0.cell]; rfl, by rw [h0.cell]; rfl⟩
  have HV : Hid (getS b = (secOf M, 0)) := getS_ok h64 ho ((body_secOf M (by omega)).1 ⟨hm, hbd⟩)
  have h48 : (secOf M).data.length ≤ 48 := ((Sd.may_iff _).1 hm).2.2.2.2.2.2.2.2
  obtain ⟨S, hSS⟩ : ∃ S, S = (secOf M).bytes := ⟨_, rfl⟩
  have hS64 : S.length = 64 := by rw [hSS]; exact Sd.bytes_length _ h48
  have HPut : Hid (∀ W, Below w.heap.size w W → Calls Tryz.prog 12 #[.agg #[.int .i64 (kd : Int), .int .i64 (ev : Int), .int .i64 (nv : Int), .int .i64 (lv : Int), .slice (some ⟨b0, o + 12, none⟩) nn (c - 12)]] W fun e w' => ∃ A c, e = .returned (.tuple #[.slice A 64 c, .int .i64 0]) ∧ Hid ((convert 39 9 (.slice A 64 c)).run Tryz.prog w' = .ok (.string ⟨S.toArray⟩) w') ∧ Below W.heap.size W w') := fun W hb => by
    rw [← hVv]
    refine (rput_yes _ _ _ W hm (HDr.out W hb).1).mono fun e w' hh => ?_
    obtain ⟨A, c, he, ho, hb⟩ := hh
    rw [← hSS] at he ho
    rw [hS64] at he
    exact ⟨A, c, he, aw_str (own_rb ho) 64 c hS64.symm, hb⟩
  have hbb : (S == b) = true := by
    rw [beq_iff_eq, hSS]
    show sealL (secOf M).body = b
    rw [hbd]; exact (openL_some ho).1.symm
  have HVv := Lib.hid hVv
  clear hSS hS64 h48 hbd
  clear hM60 hMb hrM h64 hr hcm ho hlv hev hnv hkd hnn lvs l2 l4 l8 HU h1 h2 h3 hDl hS hVv hm
  go_enter Tryz.func96, Tryz.ntmps96
  go_wp2_with (first
    | (go_at_call 111; (with_reducible refine (HO.out _ HB.out).mono ?_); rintro e w1 ⟨rfl, hb1⟩; obtain ⟨⟨p0, p1, p2, p3, p4⟩, f0, f1, f2, f3, f4⟩ := HC.out _ hb1; have b1 := chain7 HB.out hb1; obtain ⟨q0, q1⟩ := HCell.out _ b1)
    | (go_at_call 112; (with_reducible refine (HU1.out _ b1).mono ?_); rintro e w2 ⟨rfl, rfl⟩)
    | (go_at_call 112; (with_reducible refine (HU2.out _ b1).mono ?_); rintro e w2 ⟨rfl, rfl⟩)
    | (go_at_call 112; (with_reducible refine (HU3.out _ b1).mono ?_); rintro e w2 ⟨rfl, rfl⟩))
  have b1a := b1.alloc b1.size (.cells #[.int .i64 0, .int .i64 0, .int .i64 0, .int .i64 0, .slice none 0 0] 49)
  obtain ⟨q0a, -⟩ := HCell.out _ b1a
  go_region
  have bA : Below w.heap.size w (w1.alloc (.cells #[.int .i64 (kd : Int), .int .i64 (ev : Int), .int .i64 (nv : Int), .int .i64 (lv : Int), .slice (some ⟨b0, o + 12, none⟩) nn (c - 12)] 49)).drew := (b1.alloc b1.size _).drew
  have hbA := (hb1.alloc hb1.size (.cells #[.int .i64 (kd : Int), .int .i64 (ev : Int), .int .i64 (nv : Int), .int .i64 (lv : Int), .slice (some ⟨b0, o + 12, none⟩) nn (c - 12)] 49)).drew
  have hbS : Below (w1.alloc (.cells #[.int .i64 (kd : Int), .int .i64 (ev : Int), .int .i64 (nv : Int), .int .i64 (lv : Int), .slice (some ⟨b0, o + 12, none⟩) nn (c - 12)] 49)).heap.size (w1.alloc (.cells #[.int .i64 (kd : Int), .int .i64 (ev : Int), .int .i64 (nv : Int), .int .i64 (lv : Int), .slice (some ⟨b0, o + 12, none⟩) nn (c - 12)] 49)) (w1.alloc (.cells #[.int .i64 (kd : Int), .int .i64 (ev : Int), .int .i64 (nv : Int), .int .i64 (lv : Int), .slice (some ⟨b0, o + 12, none⟩) nn (c - 12)] 49)).drew := (Below.refl _ _).drew
  obtain ⟨t0, t1, t2, t3, t4⟩ := HCS.out _ _ hbS
  have HCS1 := Lib.hid (HCS.out w1)
  clear p0 p1 p2 p3 p4 f0 f1 f2 f3 f4 q0 q1 HCell HU1 HU2 HU3 HO k1 k2 k3 k4 e12 n5 HCS
  generalize hWA : (w1.alloc (.cells #[.int .i64 (kd : Int), .int .i64 (ev : Int), .int .i64 (nv : Int), .int .i64 (lv : Int), .slice (some ⟨b0, o + 12, none⟩) nn (c - 12)] 49)) = WA at bA hbA hbS t0 t1 t2 t3 t4 HCS1 ⊢
  generalize w1.heap.size = g3 at t0 t1 t2 t3 t4 HCS1 ⊢
  clear hWA
  go_wp2_with (first
    | (go_at_call 12; (with_reducible refine (HPut.out _ bA).mono ?_); rintro e w6 ⟨A6, c6, rfl, s6, hb6⟩; have s6 := s6.out; have b6 := chain7 bA hb6; obtain ⟨⟨p0, p1, p2, p3, p4⟩, f0, f1, f2, f3, f4⟩ := HC.out _ (chain7 hbA hb6); have sb := HSb.out _ b6; clear t0 t1 t2 t3 t4; obtain ⟨t0, t1, t2, t3, t4⟩ := HCS1.out _ (chain7 hbS hb6)))
  refine bodyPost_ret (v := .tuple #[.agg #[.int .i64 (kd : Int), .int .i64 (ev : Int), .int .i64 (nv : Int), .int .i64 (lv : Int), .slice (some ⟨b0, o + 12, none⟩) nn (c - 12)], .int .i64 0]) (by simp [results, Tryz.results96, go_sem, p0, p1, p2, p3, p4]) rfl ⟨some ⟨b0, o + 12, none⟩, c - 12, by rw [HV.out, HVv.out], by rw [HV.out]; exact HDr.out _ (Below.refl _ _), (fun _ => by rw [Option.map_some, add_at]), below_five b6 (Nat.le_refl _) _ _ _ _ _⟩
theorem rget_anyv (b : List UInt8) (A : Option Addr) (c : Nat) (w : World) (hr : RB w w.heap.size A b) (hc : b.length ≤ c) (hcm : c ≤ 9223372036854775807) :
    Calls Tryz.prog 96 #[.slice A b.length c] w (GivesSv A (getS b) w) := by
  by_cases h64 : b.length = 64
  · obtain ⟨b0, o, rfl, _, _⟩ := hr.at_ (by omega)
    rw [h64]
    cases ho : openL b with
    | none => exact rget_sum b _ c w h64 hr (by omega) hcm ho
    | some M =>
      by_cases h1 : unfixL ((M.drop 4).take 4) ≤ 2147483647
      · by_cases h2 : unfixL ((M.drop 8).take 4) ≤ 2147483647
        · by_cases h3 : (M.getD 1 0).toNat ≤ 48
          · cases hm : (secOf M).may with
            | false => exact rget_in4 b M b0 o c w h64 hr (by omega) hcm ho h1 h2 h3 hm
            | true =>
              by_cases hbd : (secOf M).body = M
              · exact rget_in6 b M b0 o c w h64 hr (by omega) hcm ho h1 h2 h3 hm hbd
              · exact rget_in5 b M b0 o c w h64 hr (by omega) hcm ho h1 h2 h3 hm hbd
          · exact rget_in3 b M b0 o c w h64 hr (by omega) hcm ho h1 h2 h3
        · exact rget_in2 b M b0 o c w h64 hr (by omega) hcm ho h1 h2
      · exact rget_in1 b M b0 o c w h64 hr (by omega) hcm ho h1
  · exact rget_size b _ A c w rfl h64
end
section
open Go.RowKit
theorem own_set {w : World} {base s n c : Nat} {e : TypeId} {hs : List Value} (h : w.ownsRow base e 1 (.slice (some ⟨s, 0, none⟩) n c) n hs) (k : Nat) (v : Value) : (w.setCell ⟨s, k, none⟩ v).ownsRow base e 1 (.slice (some ⟨s, 0, none⟩) n c) n (hs.set k v) := by
  refine ⟨by rw [List.length_set]; exact h.1, ?_⟩
  rcases h.2 with ⟨h1, h2⟩ | ⟨g, cap, cur, h1, h2, h3, h4, h5, h6, h7⟩
  · cases h1
  · simp only [Value.slice.injEq, Option.some.injEq, Addr.mk.injEq, and_true, true_and] at h1
    obtain ⟨rfl, rfl⟩ := h1
    refine .inr ⟨s, c, cur.setIfInBounds k v, rfl, h2, Blk.set_ (t := e) h3 k v, h4, h5, by simpa using h6, ?_⟩
    rw [← h7]
    simp [List.take_set]
theorem RD.put {w : World} {g : Nat} {G B : Nat → Prop} {d : Dk} {s cs : Nat} {V : Value} {hs hv : List Value} (h : RD w g G B d s cs V hs hv) (n : Nat) {v : Value} {L : List UInt8} (hL : Hdr w B v L) :
    RD (w.setCell ⟨s, n, none⟩ v) g G B { d with safe := d.safe.set n L } s cs V (hs.set n v) hv := by
  obtain ⟨n1, n2, n3⟩ := h.ne
  have ht : Turns w (w.setCell ⟨s, n, none⟩ v) (fun k => k = s) (fun k => k = s) := turns_own w s n v
  have hb : ∀ k, B k → ¬ k = s := fun k hk e => h.gb s h.gs (e ▸ hk)
  have hlen : (d.safe.set n L).length = d.safe.length := List.length_set
  refine ⟨?_, ?_, (h.hsafe.set_ n hL).turns ht hb, own_turns h.wait ht (fun k hk e => n3 (by rw [hk, e])), h.hwait.turns ht hb, h.gg, h.gs, h.gv, fun k hk => Nat.lt_of_lt_of_le (h.glt k hk) ht.size, fun k hk => Nat.lt_of_lt_of_le (h.blt k hk) ht.size, h.gb, ?_⟩
  · have := h.blk.turns ht n1
    rw [← hlen] at this
    exact this
  · have := own_set h.safe n v
    rw [← hlen] at this
    exact this
  · refine ⟨⟨fun b hb' => ?_, fun x hx => by rw [show ({ d with safe := d.safe.set n L } : Dk).safe.length = d.safe.length from hlen]; exact h.good.fit.2 x hx⟩, by show 16 ≤ (d.safe.set n L).length; rw [hlen]; exact h.good.few, by show (d.safe.set n L).length ≤ 1024; rw [hlen]; exact h.good.many, h.good.left⟩
    rcases List.mem_or_eq_of_mem_set hb' with h1 | h1
    · exact h.good.fit.1 b h1
    · rw [h1]; exact hL.1
theorem RD.nothing {w : World} {g : Nat} {G B : Nat → Prop} {d : Dk} {s cs : Nat} {V : Value} {hs hv : List Value} (h : RD w g G B d s cs V hs hv) :
    RD (w.setCell ⟨g, 1, none⟩ (.slice none 0 0)) g G B { d with waits := [] } s cs (.slice none 0 0) hs [] := by
  obtain ⟨n1, n2, n3⟩ := h.ne
  have ht : Turns w (w.setCell ⟨g, 1, none⟩ (.slice none 0 0)) (fun k => k = g) (fun k => k = g) := turns_own w g 1 _
  have hb : ∀ k, B k → ¬ k = g := fun k hk e => h.gb g h.gg (e ▸ hk)
  exact ⟨h.blk.set_ 1 (.slice none 0 0), own_turns h.safe ht (fun k hk e => n1 (by simp [Value.ownBlock] at hk; omega)), h.hsafe.turns ht hb, World.ownsRow_nil _ _ _ _, Hdrs.none_, h.gg, h.gs, fun k hk => by simp [Value.ownBlock] at hk, fun k hk => Nat.lt_of_lt_of_le (h.glt k hk) ht.size, fun k hk => Nat.lt_of_lt_of_le (h.blt k hk) ht.size, h.gb,
    ⟨⟨h.good.fit.1, fun x hx => by cases hx⟩, h.good.few, h.good.many, h.good.left⟩⟩
def fl (d : Dk) (i : Nat) : Dk := { d with safe := Dk.laid d.safe (d.waits.take i) }
theorem fl_succ (d : Dk) (i : Nat) (hi : i < d.waits.length) : fl d (i + 1) = { fl d i with safe := (fl d i).safe.set (d.waits[i]).1 (d.waits[i]).2 } := by
  unfold fl
  rw [List.take_succ_eq_append_getElem hi, Dk.laid_snoc]
theorem rflush_in {w : World} {g : Nat} {G B : Nat → Prop} {d : Dk} (h0 : RDisk w g G B d) (ho : d.off = false) (hl : d.load ≤ 100000) (e1 : Dk) (hq : d.deed = (e1, true)) :
    Calls Tryz.prog 63 #[.pointer (some ⟨g, 0, none⟩)] w fun e w' => e = .returned (.int .i64 0) ∧ RSame { e1 with safe := Dk.laid e1.safe e1.waits, waits := [], flushes := e1.flushes + 1 } G B w w' g := by
  have n0 := fun w' => Tryz.notTrue w'
  have r3 : w.cell? ⟨g, 3, none⟩ = some (.bool false) := by
    obtain ⟨s, cs, V, hs, hv, h⟩ := h0
    rw [← ho]; exact h.r3
  have HFa : Hid (Calls Tryz.prog 79 #[.pointer (some ⟨g, 0, none⟩)] w fun e w' => e = .returned (.bool true) ∧ RSame e1 G B w w' g) := by
    have := deed_any h0
    rwa [hq] at this
  have HL : Hid (e1.load ≤ 100000) := by
    have : d.deed.1.load ≤ 100000 := by
      unfold Dk.deed
      split
      · exact hl
      · split
        · exact hl
        · exact hl
    rwa [hq] at this
  clear hq hl h0 ho
  go_enter Tryz.func63, Tryz.ntmps63
  go_wp2_with (first
    | (go_at_call 79; (with_reducible refine HFa.out.mono ?_); rintro e w1 ⟨rfl, hP1, hT1⟩; obtain ⟨s, cs, V, hs, hv, hP⟩ := hP1; obtain ⟨A, c, rfl, hc1, hc2⟩ := hP.vform; have HP := Lib.hid hP; have HT := Lib.hid hT1; obtain ⟨m, hm⟩ : ∃ m, m = e1.waits.length := ⟨_, rfl⟩; rw [← hm] at hc1; have Hm := Lib.hid hm; clear hP hT1 hm))
  go_loopw [3] (fun x wr => ∃ i : Nat, i ≤ m ∧ x = .int .i64 (i : Int) ∧ ∃ hs', Hid (RD wr g G B (fl e1 i) s cs (.slice A e1.waits.length c) hs' hv) ∧ Hid (Turns w1 wr G G)) (fun x _ => m - (intOf x).toNat)
  case atStart => exact ⟨0, by omega, rfl, hs, by show RD _ _ _ _ _ _ _ _ _ _; unfold fl; rw [List.take_zero]; exact HP.out, Turns.refl _ _⟩
  case round =>
    obtain ⟨i, hi, rfl, hs', HR, HT2⟩ := hrel
    have r1 : wr.cell? ⟨g, 1, none⟩ = some (.slice A m c) := by rw [Hm.out]; exact HR.out.r1
    have u0 : (0 : Int) ≤ (i : Int) := by omega
    by_cases hlt : i < m
    · obtain ⟨gv, cv, hV, hvs, hvg, hvG, hm1, hm2, hcell⟩ := HR.out.row (show 0 < e1.waits.length by have := Hm.out; omega)
      obtain ⟨rfl, rfl⟩ : A = some ⟨gv, 0, none⟩ ∧ c = cv := by
        simp only [Value.slice.injEq] at hV
        exact ⟨hV.1, hV.2.2⟩
      have hi2 : i < e1.waits.length := by have := Hm.out; omega
      obtain ⟨c1, v, c2, hh⟩ := hcell i hi2
      have Hh := Lib.hid hh
      obtain ⟨-, b1, o1, cc1, rfl, -⟩ := hh
      obtain ⟨xn, hxn⟩ : ∃ xn, xn = (e1.waits[i]).1 := ⟨_, rfl⟩
      have c1' : wr.cell? ⟨gv, i * 2, none⟩ = some (.int .i64 (xn : Int)) := by rw [hxn]; exact c1
      have hxs : xn < (fl e1 i).safe.length := by
        rw [hxn]
        show _ < (Dk.laid e1.safe _).length
        rw [Dk.laid_length]
        exact (HP.out.good.fit.2 _ (List.getElem_mem hi2)).1
      obtain ⟨n, hn⟩ : ∃ n, n = (fl e1 i).safe.length := ⟨_, rfl⟩
      have r0 : wr.cell? ⟨g, 0, none⟩ = some (.slice (some ⟨s, 0, none⟩) n cs) := by rw [hn]; exact HR.out.r0
      obtain ⟨v0, -, cx, -⟩ := HR.out.at_ hxs
      have fx : wr.frozen? ⟨s, xn, none⟩ = false := by
        obtain ⟨_, hb⟩ := (own_lt HR.out.safe (k := s) rfl).2
        exact hb.frozen xn
      have u1 : (i : Int) < (m : Int) := by omega
      have u2 : (0 : Int) ≤ (xn : Int) := by omega
      have u3 : (xn : Int) < (n : Int) := by omega
      have HN : Hid (RD (wr.setCell ⟨s, xn, none⟩ (.slice (some ⟨b1, o1, none⟩) 256 cc1)) g G B (fl e1 (i + 1)) s cs (.slice (some ⟨gv, 0, none⟩) e1.waits.length c) (hs'.set xn (.slice (some ⟨b1, o1, none⟩) 256 cc1)) hv) := by
        show RD _ _ _ _ _ _ _ _ _ _
        rw [fl_succ e1 i hi2, hxn]
        exact HR.out.put _ Hh.out
      have HT3 : Hid (Turns w1 (wr.setCell ⟨s, xn, none⟩ (.slice (some ⟨b1, o1, none⟩) 256 cc1)) G G) := HT2.out.trans (Turns.set_ HP.out.gs xn _)
      have hsg : s ≠ g := HP.out.ne.1.symm
      have hsv : s ≠ gv := hvs.symm
      have q0 : ∀ u, (wr.setCell ⟨s, xn, none⟩ u).cell? ⟨g, 0, none⟩ = some (.slice (some ⟨s, 0, none⟩) n cs) ∧ (wr.setCell ⟨s, xn, none⟩ u).cell? ⟨g, 1, none⟩ = some (.slice (some ⟨gv, 0, none⟩) m c) ∧ (wr.setCell ⟨s, xn, none⟩ u).cell? ⟨gv, i * 2, none⟩ = some (.int .i64 (xn : Int)) ∧ (wr.setCell ⟨s, xn, none⟩ u).cell? ⟨gv, i * 2 + 1, none⟩ = some (.slice (some ⟨b1, o1, none⟩) 256 cc1) := fun u =>
        ⟨(World.cell?_setCell_far _ _ _ _ hsg).trans r0, (World.cell?_setCell_far _ _ _ _ hsg).trans r1, (World.cell?_setCell_far _ _ _ _ hsv).trans c1', (World.cell?_setCell_far _ _ _ _ hsv).trans c2⟩
      have Hq0 := Lib.hid q0
      clear hV hcell c1 hxn hxs hn HR HT2 q0
      go_wp2
      go_region_held3 (fun w' => w'.cell? ⟨g, 0, none⟩ = some (.slice (some ⟨s, 0, none⟩) n cs) ∧ w'.cell? ⟨g, 1, none⟩ = some (.slice (some ⟨gv, 0, none⟩) m c) ∧ w'.cell? ⟨gv, i * 2, none⟩ = some (.int .i64 (xn : Int)) ∧ w'.cell? ⟨gv, i * 2 + 1, none⟩ = some (.slice (some ⟨b1, o1, none⟩) 256 cc1))
        (first | exact ⟨r0, r1, c1', c2⟩ | exact Hq0.out _)
        (fail)
      go_wp2
      refine ⟨⟨i + 1, by omega, by go_num, _, Lib.hid (HN.out.turns (Turns.drew (fun _ => False)) (fun _ _ h => h) (fun _ _ h => h)), Lib.hid (HT3.out.trans (Turns.drew G))⟩, ?_⟩
      simp [intOf]; omega
    · have him : i = m := by omega
      have hR := HR.out
      have hfl : fl e1 i = { e1 with safe := Dk.laid e1.safe e1.waits } := by
        unfold fl
        rw [him, Hm.out, List.take_length]
      rw [hfl] at hR
      have HR2 := Lib.hid hR
      have d0 : decide ((i : Int) < (m : Int)) = false := decide_eq_false (by omega)
      have d1 : decide (i < m) = false := decide_eq_false hlt
      have f1 : wr.frozen? ⟨g, 1, none⟩ = false := hR.fz 1
      obtain ⟨x, hx⟩ : ∃ x : Int, x = (e1.flushes : Int) := ⟨_, rfl⟩
      obtain ⟨y, hy⟩ : ∃ y : Int, y = ((e1.flushes + 1 : Nat) : Int) := ⟨_, rfl⟩
      have ey : IntKind.i64.wrap (x + 1) = y := by
        have h1 := IntWalk.i64_in ((e1.flushes : Int) + 1) (by have := HL.out; unfold Dk.load at this; omega)
        rw [hx, hy, h1]; omega
      have hNo := hR.nothing
      have q6 : (wr.setCell ⟨g, 1, none⟩ (.slice none 0 0)).cell? ⟨g, 6, none⟩ = some (.int .i64 x) := by rw [hx]; exact hNo.r6
      have fq6 : (wr.setCell ⟨g, 1, none⟩ (.slice none 0 0)).frozen? ⟨g, 6, none⟩ = false := hNo.fz 6
      have HEnd : Hid (RD ((wr.setCell ⟨g, 1, none⟩ (.slice none 0 0)).setCell ⟨g, 6, none⟩ (.int .i64 y)) g G B { e1 with safe := Dk.laid e1.safe e1.waits, waits := [], flushes := e1.flushes + 1 } s cs (.slice none 0 0) hs' []) := by
        refine hNo.retell (turns_own _ g 6 _) rfl rfl hNo.good.left ?_
        have := hNo.blk.set_ 6 (.int .i64 y)
        rw [hy] at this ⊢
        exact this
      have HTE : Hid (Turns w ((wr.setCell ⟨g, 1, none⟩ (.slice none 0 0)).setCell ⟨g, 6, none⟩ (.int .i64 y)) G G) := ((HT.out.trans HT2.out).trans (Turns.set_ HP.out.gg 1 _)).trans (Turns.set_ HP.out.gg 6 _)
      clear him hR hfl hx hy hNo HR HT2 hlt hi
      go_wp2
      go_ret
      exact ⟨rfl, ⟨_, _, _, _, _, HEnd.out⟩, HTE.out⟩
theorem rflush_any {w : World} {g : Nat} {G B : Nat → Prop} {d : Dk} (h : RDisk w g G B d) (hl : d.load ≤ 100000) :
    Calls Tryz.prog 63 #[.pointer (some ⟨g, 0, none⟩)] w fun e w' => e = .returned (.int .i64 d.flush.2) ∧ RSame d.flush.1 G B w w' g := by
  have n0 := fun w' => Tryz.notTrue w'
  have n1 := fun w' => Tryz.notFalse w'
  have r3 : w.cell? ⟨g, 3, none⟩ = some (.bool d.off) := by obtain ⟨s, cs, V, hs, hv, h⟩ := h; exact h.r3
  cases ho : d.off with
  | true =>
    have HV : Hid (d.flush = (d, 9)) := by show _ = _; unfold Dk.flush; rw [if_pos ho]
    rw [ho] at r3
    clear ho hl
    go_enter Tryz.func63, Tryz.ntmps63
    go_wp2
    go_ret
    rw [HV.out]
    exact ⟨rfl, h, Turns.refl _ _⟩
  | false =>
    obtain ⟨e1, q, hq⟩ : ∃ e1 q, d.deed = (e1, q) := ⟨_, _, rfl⟩
    cases q with
    | true =>
      rw [Dk.flush_yes ho hq]
      exact rflush_in h ho hl e1 hq
    | false =>
      rw [Dk.flush_no ho hq]
      rw [ho] at r3
      have HFa : Hid (Calls Tryz.prog 79 #[.pointer (some ⟨g, 0, none⟩)] w fun e w' => e = .returned (.bool false) ∧ RSame e1 G B w w' g) := by
        have := deed_any h
        rwa [hq] at this
      clear ho hq hl h
      go_enter Tryz.func63, Tryz.ntmps63
      go_wp2_with (go_at_call 79; (with_reducible refine HFa.out.mono ?_); rintro e w1 ⟨rfl, hP1⟩)
      go_ret
      exact ⟨rfl, hP1⟩
def tornP (was b : List UInt8) (m : Int) (k : Nat) : List UInt8 := (List.range k).flatMap fun j => Dk.sector (if Dk.bitOf m j then b else was) j
theorem tornP_succ (was b : List UInt8) (m : Int) (k : Nat) : tornP was b m (k + 1) = tornP was b m k ++ Dk.sector (if Dk.bitOf m k then b else was) k := by unfold tornP; rw [List.range_succ, List.flatMap_append]; simp
theorem rb_sector {w : World} {B b off : Nat} {L : List UInt8} (h : RB w B (some ⟨b, off, none⟩) L) (hl : L.length = 256) (k : Nat) (hk : k < 4) : Reads w B 1 (some ⟨b, off + 64 * k, none⟩) 64 (cells (Dk.sector L k)) := by
  have h1 := rb_cut h (k := 64 * k) (c := L.length + 1) (by omega) (by omega)
  rw [if_neg (by omega)] at h1
  simp only [Option.map_some, Nat.mul_one, add_at] at h1
  have h2 := rb_take h1 64 (by rw [List.length_drop]; omega)
  have h3 : (Dk.sector L k).length = 64 := Dk.sector_length L hl k hk
  unfold Dk.sector at h3 ⊢
  unfold RB at h2
  rw [h3] at h2
  exact h2
theorem torn_any (L M : List UInt8) (b1 o1 c1 b2 o2 c2 : Nat) (m : Int) (w : World) (h1 : RB w w.heap.size (some ⟨b1, o1, none⟩) L) (h2 : RB w w.heap.size (some ⟨b2, o2, none⟩) M) (hL : L.length = 256) (hM : M.length = 256) (hc1 : 256 ≤ c1) (hc2 : 256 ≤ c2) :
    Calls Tryz.prog 64 #[.slice (some ⟨b1, o1, none⟩) 256 c1, .slice (some ⟨b2, o2, none⟩) 256 c2, .int .i64 m] w fun e w' => (∃ q c, e = .returned (.slice (some ⟨q, 0, none⟩) 256 c) ∧ 256 ≤ c ∧ c ≤ 9223372036854775807 ∧ w.heap.size ≤ q ∧ RB w' w'.heap.size (some ⟨q, 0, none⟩) (Dk.torn L M m)) ∧ Below w.heap.size w w' := by
  obtain ⟨i0, hi0, hz0, hz1, hz2⟩ := info_parts Tryz.info5
  have H1 := Lib.hid h1
  have H2 := Lib.hid h2
  have HL := Lib.hid hL
  have HM := Lib.hid hM
  clear h1 h2 hL hM
  go_enter Tryz.func64, Tryz.ntmps64
  go_wp2
  go_loopw [7, 8] (fun v x wr => ∃ k : Nat, k ≤ 4 ∧ x = .int .i64 (k : Int) ∧ Hid (wr.ownsRow w.heap.size 5 1 v (64 * k) (cells (tornP L M m k))) ∧ Below w.heap.size w wr) (fun _ x _ => 4 - (intOf x).toNat)
  case atStart => exact ⟨0, by omega, rfl, World.ownsRow_nil _ _ _ _, Below.refl _ _⟩
  case round =>
    obtain ⟨k, hk, rfl, HO, hb⟩ := hrel
    by_cases hlt : k < 4
    · have u0 : (0 : Int) ≤ (k : Int) := by omega
      have u1 : (k : Int) < 4 := by omega
      obtain ⟨q, hq⟩ : ∃ q, q = 64 * k := ⟨_, rfl⟩
      have y1 : (64 : Int) * (k : Int) = (q : Int) := by omega
      have y3 : IntKind.i64.wrap ((q : Int) + 64) = (q : Int) + 64 := IntWalk.i64_in _ (by omega)
      have y4 : (0 : Int) ≤ (q : Int) := by omega
      have HS1 := fun W => sl_both b1 o1 256 c1 q (q + 64) (q : Int) ((q : Int) + 64) rfl (by omega) (by omega) (by omega) (by omega) W
      have HS2 := fun W => sl_both b2 o2 256 c2 q (q + 64) (q : Int) ((q : Int) + 64) rfl (by omega) (by omega) (by omega) (by omega) W
      rw [show q + 64 - q = 64 by omega] at HS1 HS2
      have HR1 : Hid (Reads wr wr.heap.size 1 (some ⟨b1, o1 + q, none⟩) 64 (cells (Dk.sector L k))) := by
        show Reads _ _ _ _ _ _
        rw [hq]; exact rb_sector ((H1.out.below hb).more hb.size) HL.out k hlt
      have HR2 : Hid (Reads wr wr.heap.size 1 (some ⟨b2, o2 + q, none⟩) 64 (cells (Dk.sector M k))) := by
        show Reads _ _ _ _ _ _
        rw [hq]; exact rb_sector ((H2.out.below hb).more hb.size) HM.out k hlt
      obtain ⟨bt, hbt⟩ : ∃ bt, bt = Dk.bitOf m k := ⟨_, rfl⟩
      have bt1 : (bits BinOp.and IntKind.i64 (m / 2 ^ k) 1 == 1) = bt := by rw [hbt]; exact bit_test m k
      rcases bt with _ | _
      · have HSn : Hid (tornP L M m (k + 1) = tornP L M m k ++ Dk.sector L k) := by show _ = _; rw [tornP_succ, ← hbt]; rfl
        clear hbt hq
        go_wp2_with (first
          | (at_builtin; refine wpList_append_any _ rfl (.tmp 21) (.tmp 28) _ rfl w.heap.size 5 i0 _ 1 1 Tryz.underlying39 hi0 hz0 hz1 hz2 rfl (by omega) u7 (64 * k) (cells (tornP L M m k)) rfl HO.out _ (some ⟨b1, o1 + q, none⟩) 64 (c1 - q) (cells (Dk.sector L k)) rfl HR1.out (cells_one _) (by simp only [maxLen]; omega) (by omega) hb.size ?_; intro v5 w5 ho5 hg5 hat5; have HO5 : Hid (w5.ownsRow w.heap.size 5 1 v5 (64 * (k + 1)) (cells (tornP L M m (k + 1)))) := (by show World.ownsRow _ _ _ _ _ _ _; rw [HSn.out, cells_append, show 64 * (k + 1) = 64 * k + 64 by omega]; exact ho5); have hb5 : Below w.heap.size w w5 := hb.grown hg5 hb.size (fun j hj => (HO.out.lt j hj).1)))
        refine ⟨⟨k + 1, by omega, by go_num, HO5, hb5⟩, ?_⟩
        simp [intOf]; omega
      · have HSn : Hid (tornP L M m (k + 1) = tornP L M m k ++ Dk.sector M k) := by show _ = _; rw [tornP_succ, ← hbt]; rfl
        clear hbt hq
        go_wp2_with (first
          | (at_builtin; refine wpList_append_any _ rfl (.tmp 21) (.tmp 28) _ rfl w.heap.size 5 i0 _ 1 1 Tryz.underlying39 hi0 hz0 hz1 hz2 rfl (by omega) u7 (64 * k) (cells (tornP L M m k)) rfl HO.out _ (some ⟨b2, o2 + q, none⟩) 64 (c2 - q) (cells (Dk.sector M k)) rfl HR2.out (cells_one _) (by simp only [maxLen]; omega) (by omega) hb.size ?_; intro v5 w5 ho5 hg5 hat5; have HO5 : Hid (w5.ownsRow w.heap.size 5 1 v5 (64 * (k + 1)) (cells (tornP L M m (k + 1)))) := (by show World.ownsRow _ _ _ _ _ _ _; rw [HSn.out, cells_append, show 64 * (k + 1) = 64 * k + 64 by omega]; exact ho5); have hb5 : Below w.heap.size w w5 := hb.grown hg5 hb.size (fun j hj => (HO.out.lt j hj).1)))
        refine ⟨⟨k + 1, by omega, by go_num, HO5, hb5⟩, ?_⟩
        simp [intOf]; omega
    · have hk4 : k = 4 := by omega
      have d0 : decide ((k : Int) < 4) = false := decide_eq_false (by omega)
      have hO := HO.out
      rw [hk4] at hO
      have htl : (Dk.torn L M m).length = 256 := Dk.torn_length L M m HL.out HM.out
      have HOE : Hid (∃ q c, u7 = .slice (some ⟨q, 0, none⟩) 256 c ∧ 256 ≤ c ∧ c ≤ 9223372036854775807 ∧ w.heap.size ≤ q ∧ RB wr wr.heap.size (some ⟨q, 0, none⟩) (Dk.torn L M m)) := by
        show ∃ _, _
        obtain ⟨A3, c3, hv⟩ := own_form hO
        rw [hv] at hO ⊢
        have hO2 : Own wr w.heap.size A3 (Dk.torn L M m) c3 := by unfold Own; rw [htl]; exact hO
        obtain ⟨q, rfl, hA, hl1, hl2, hl3⟩ := own_arr hO2 (by omega)
        exact ⟨q, c3, rfl, by omega, hl2, hl3, hA.all⟩
      clear hk4 HO hO htl hk hlt
      go_wp2
      go_ret
      obtain ⟨q, c, hv, h3⟩ := HOE.out
      exact ⟨⟨q, c, by rw [hv]; rfl, h3⟩, hb⟩
end
end Go.Proofs.YtghenhacndaelaaGreat
