/- Lemmas under the proofs of this place: CellPPut, CrcRView. No statement is proved here. -/
import Derived.Test.YtpedgkghfehkjaaBu14
import Derived.Test.YtpedgkghfehkjaaBu11
import Derived.Test.YtpedgkghfehkjaaBu16
import Derived.Test.YtpedgkghfehkjaaBu08
import Derived.Test.YtpedgkghfehkjaaBu01
import Derived.Test.YtpedgkghfehkjaaBu06
section
set_option linter.unusedVariables false
set_option linter.unusedSimpArgs false
namespace Go.Proofs.Ytpedgkghfehkjaa
open Go.RowKit
set_option maxRecDepth 100000 in
set_option maxHeartbeats 2000000 in
theorem cput1_any (gb : Nat) (L : List UInt8) (z : Int) (n k : Nat) (w : World) (hz : z = (n : Int)) (hn : n ≤ 2147483647) (hk1 : 1 ≤ k) (hk4 : k ≤ 4) (hnk : n < 256 ^ k) (hL : L.length ≤ 1000) (h : PutAt w gb L) :
    Calls Try.prog 19 #[.int .i64 z, .int .i64 (k : Int), .pointer (some ⟨gb, 0, none⟩)] w fun e w' => e = .returned (.tuple #[]) ∧ PutAt w' gb (L ++ fixL k n) ∧ Below gb w w' := by
  subst hz
  obtain ⟨i0, hi0, hz0, hz1, hz2⟩ := info_parts Try.info5
  obtain ⟨A, c, hb, ho⟩ := h
  have HF : Hid (∀ W, Calls Try.prog 20 #[.int .i64 (n : Int), .int .i64 (k : Int)] W fun e w' => ∃ A' c', e = .returned (.tuple #[.slice A' k c', .int .i64 0]) ∧ Hid (RB w' w'.heap.size A' (fixL k n)) ∧ Below W.heap.size W w') := fun W => by
    refine (fix_yes n k W hn hk1 hk4 hnk).mono fun e w' hh => ?_
    obtain ⟨A', c', he, hown, hb'⟩ := hh
    rw [fixL_length] at he
    exact ⟨A', c', he, own_rb hown, hb'⟩
  have hlt : gb < w.heap.size := hb.lt
  have HB := Lib.hid hb
  have HO := Lib.hid ho
  obtain ⟨q, hq⟩ : ∃ q, q = L.length := ⟨_, rfl⟩
  have HQ := Lib.hid hq
  rw [← hq] at HB HO hL
  have c0 : w.cell? ⟨gb, 0, none⟩ = some (.slice A q c) := HB.out.cell 0
  have f0 : w.frozen? ⟨gb, 0, none⟩ = false := HB.out.frozen 0
  clear hb ho hnk hq
  go_enter Try.func19, Try.ntmps19
  go_wp2_with (first
    | (go_at_call 20; (with_reducible refine (HF.out _).mono ?_); rintro e w1 ⟨A1, c1, rfl, hr1, hb1⟩; have k0 := (hb1.cell (p := ⟨gb, 0, none⟩) hlt).trans c0; have k1 := (hb1.frozen (p := ⟨gb, 0, none⟩) hlt).trans f0)
    | (at_builtin; refine wpList_append_any _ rfl (.tmp 13) (.tmp 14) 22 rfl gb 5 i0 _ 1 1 Try.underlying22 hi0 hz0 hz1 hz2 rfl (by omega) (.slice A q c) q (cells L) rfl (own_kept HO.out hb1) w1.heap.size A1 k c1 (cells (fixL k n)) rfl (by have := hr1.out; unfold RB at this; rwa [fixL_length] at this) (cells_one _) (by simp only [maxLen]; omega) (by omega) (by have := hb1.size; omega) ?_; intro v2 w2 ho2 hg2 hat2; have hbk := (HB.out.below hb1 hlt).grown hg2 (ne_row (HB.out.below hb1 hlt) (own_kept HO.out hb1)); have k2 := hbk.cell 0; have k3 := hbk.frozen 0; obtain ⟨A2, c2, rfl⟩ := own_form ho2))
  go_end0
  have hl : (L ++ fixL k n).length = q + k := by rw [List.length_append, fixL_length, HQ.out]
  have hbb : Below gb w w2 := (hb1.mono (Nat.le_of_lt hlt)).grown hg2 (by have := hb1.size; omega) (fun j hj => ((own_kept HO.out hb1).lt j hj).1)
  refine ⟨rfl, ⟨A2, c2, ?_, ?_⟩, hbb.setCell (Nat.le_refl _) _⟩
  · rw [hl]
    exact hbk.set_ 0 _
  · rw [hl, cells_append]
    refine own_turns ho2 (Turns.set_ (F := fun j => j = gb) rfl 0 _) (fun j hj e => ?_)
    exact ne_row hbk ho2 (by rw [hj, e])
theorem seal_cput {P D : List UInt8} {m r base : Nat} {s : Ce} (A : Option Addr) (c : Nat) (W w : World) (hr : r = 242 - m) (hB : s.body = P ++ D ++ List.replicate (242 - m) 0) (ho : W.ownsRow base 5 1 (.slice A 252 c) 252 (cells P ++ cells D ++ cells (List.replicate r 0))) (hb : Below w.heap.size w W) :
    Hid (Calls Try.prog 21 #[.slice A 252 c] W fun e w' => ∃ A c, e = .returned (.slice A 256 c) ∧ Hid (GivesBytes s.bytes w (.returned (.tuple #[.slice A 256 c, .int .i64 0])) w')) := by
  subst hr
  rw [← cells_append, ← cells_append, ← hB] at ho
  have hL : s.body.length = 252 := by have := ho.1; rw [cells_length] at this; omega
  have hrb : RB W W.heap.size A s.body := by
    refine Reads.of_own (base := base) (e := 5) (c := c) ?_
    rw [hL]; exact ho
  have h1 := seal_any s.body A c W.heap.size W hrb (by omega)
  rw [hL] at h1
  refine h1.mono fun e w' hh => ?_
  obtain ⟨A, c, he, ho, hb'⟩ := hh
  have e2 : (sealL s.body).length = 256 := by rw [sealL_length, hL]
  rw [e2] at he
  refine ⟨A, c, he, A, c, ?_, ?_, chain7 hb hb'⟩
  · show _ = Ending.returned (.tuple #[.slice A (sealL s.body).length c, _])
    rw [e2]
  · exact Joins.ownsRow_le ho hb.size
set_option maxRecDepth 100000 in
set_option maxHeartbeats 4000000 in
theorem cput_no (s : Ce) (A : Option Addr) (c : Nat) (w : World) (h : s.may = false) :
    Calls Try.prog 7 #[ceV s A c] w fun e w' => e = .returned (.tuple #[.slice none 0 0, .int .i64 1]) ∧ Below w.heap.size w w' := by
  have HM : Hid (∀ W, Calls Try.prog 18 #[ceV s A c] W fun e w' => e = .returned (.bool false) ∧ Below W.heap.size W w') := fun W => by rw [← h]; exact cmaybe_any s A c W
  have HB : Hid (Below w.heap.size w (w.alloc (.cells #[.int .i64 s.owner, .int .i64 s.number, .int .i64 s.next, .slice A s.data.length c] 24))) := (Below.refl _ _).alloc (Nat.le_refl _) _
  have a24 := fun w' => Try.aggCell w'
  have s24 := fun w' => Try.sizeCell w'
  have nf := fun w' => Try.notFalse w'
  have nt := fun w' => Try.notTrue w'
  unfold ceV at HM ⊢
  clear h
  go_enter Try.func7, Try.ntmps7
  go_wp2_with (first
    | (go_at_call 18; (with_reducible refine (HM.out _).mono ?_); rintro e w1 ⟨rfl, hb1⟩))
  go_ret2
  exact ⟨rfl, chain7 HB.out hb1⟩
set_option maxRecDepth 100000 in
set_option maxHeartbeats 8000000 in
theorem cput_yes (s : Ce) (A : Option Addr) (c : Nat) (w : World) (h : s.may = true) (hr : RB w w.heap.size A s.data) :
    Calls Try.prog 7 #[ceV s A c] w (GivesBytes s.bytes w) := by
  have HM : Hid (∀ W, Calls Try.prog 18 #[ceV s A c] W fun e w' => e = .returned (.bool true) ∧ Below W.heap.size W w') := fun W => by rw [← h]; exact cmaybe_any s A c W
  obtain ⟨i0, hi0, hz0, hz1, hz2⟩ := info_parts Try.info5
  obtain ⟨h1, h2, h3, h4, h5, h6, h7, h8⟩ := s.may_iff.1 h
  clear h
  obtain ⟨oz, nz, xz, D⟩ := s
  simp only at h1 h2 h3 h4 h5 h6 h7 h8 hr
  obtain ⟨o, rfl⟩ : ∃ k : Nat, oz = (k : Int) := ⟨oz.toNat, by omega⟩
  obtain ⟨n, rfl⟩ : ∃ k : Nat, nz = (k : Int) := ⟨nz.toNat, by omega⟩
  obtain ⟨x, rfl⟩ : ∃ k : Nat, xz = (k : Int) := ⟨xz.toNat, by omega⟩
  obtain ⟨m, hm⟩ : ∃ m, m = D.length := ⟨_, rfl⟩
  obtain ⟨P1, hP1⟩ : ∃ X, X = fixL 4 o := ⟨_, rfl⟩
  obtain ⟨P2, hP2⟩ : ∃ X, X = P1 ++ fixL 2 n := ⟨_, rfl⟩
  obtain ⟨P3, hP3⟩ : ∃ X, X = P2 ++ fixL 2 x := ⟨_, rfl⟩
  obtain ⟨P4, hP4⟩ : ∃ X, X = P3 ++ fixL 2 m := ⟨_, rfl⟩
  have l1 : P1.length = 4 := by rw [hP1, fixL_length]
  have l2 : P2.length = 6 := by rw [hP2, List.length_append, fixL_length, l1]
  have l3 : P3.length = 8 := by rw [hP3, List.length_append, fixL_length, l2]
  have l4 : P4.length = 10 := by rw [hP4, List.length_append, fixL_length, l3]
  have HL4 := Lib.hid l4
  have hm242 : m ≤ 242 := by omega
  have HBd : Hid (Ce.body ⟨(o : Int), (n : Int), (x : Int), D⟩ = P4 ++ D ++ List.replicate (242 - m) 0) := by
    show _ = _
    unfold Ce.body Ce.head
    simp only [Int.toNat_natCast, hP4, hP3, hP2, hP1, ← hm]
    simp
  have HC1 : Hid (∀ gb W, Hid (PutAt W gb []) → Calls Try.prog 19 #[.int .i64 (o : Int), .int .i64 4, .pointer (some ⟨gb, 0, none⟩)] W fun e w' => e = .returned (.tuple #[]) ∧ Hid (PutAt w' gb P1) ∧ Below gb W w') := fun gb W h => by
    have := cput1_any gb [] (o : Int) o 4 W rfl (by omega) (by omega) (by omega) (by omega) (by simp) h.out
    rw [List.nil_append, ← hP1] at this
    exact this
  have HC2 : Hid (∀ gb W, Hid (PutAt W gb P1) → Calls Try.prog 19 #[.int .i64 (n : Int), .int .i64 2, .pointer (some ⟨gb, 0, none⟩)] W fun e w' => e = .returned (.tuple #[]) ∧ Hid (PutAt w' gb P2) ∧ Below gb W w') := fun gb W h => by
    have := cput1_any gb P1 (n : Int) n 2 W rfl (by omega) (by omega) (by omega) (by omega) (by omega) h.out
    rw [← hP2] at this
    exact this
  have HC3 : Hid (∀ gb W, Hid (PutAt W gb P2) → Calls Try.prog 19 #[.int .i64 (x : Int), .int .i64 2, .pointer (some ⟨gb, 0, none⟩)] W fun e w' => e = .returned (.tuple #[]) ∧ Hid (PutAt w' gb P3) ∧ Below gb W w') := fun gb W h => by
    have := cput1_any gb P2 (x : Int) x 2 W rfl (by omega) (by omega) (by omega) (by omega) (by omega) h.out
    rw [← hP3] at this
    exact this
  have HC4 : Hid (∀ gb W, Hid (PutAt W gb P3) → Calls Try.prog 19 #[.int .i64 (m : Int), .int .i64 2, .pointer (some ⟨gb, 0, none⟩)] W fun e w' => e = .returned (.tuple #[]) ∧ Hid (PutAt w' gb P4) ∧ Below gb W w') := fun gb W h => by
    have := cput1_any gb P3 (m : Int) m 2 W rfl (by omega) (by omega) (by omega) (by omega) (by omega) h.out
    rw [← hP4] at this
    exact this
  have HR : Hid (∀ W, Below (w.alloc (.cells #[.int .i64 (o : Int), .int .i64 (n : Int), .int .i64 (x : Int), .slice A m c] 24)).heap.size (w.alloc (.cells #[.int .i64 (o : Int), .int .i64 (n : Int), .int .i64 (x : Int), .slice A m c] 24)) W → Hid (Reads W W.heap.size 1 A m (cells D))) := fun W hb => by
    have h2 := rb_up7 (rb_up7 hr ((Below.refl _ _).alloc (Nat.le_refl _) _)) hb
    unfold RB at h2
    rw [← hm] at h2
    exact h2
  have HS : Hid (∀ W, Below (w.alloc (.cells #[.int .i64 (o : Int), .int .i64 (n : Int), .int .i64 (x : Int), .slice A m c] 24)).heap.size (w.alloc (.cells #[.int .i64 (o : Int), .int .i64 (n : Int), .int .i64 (x : Int), .slice A m c] 24)) W → W.cell? ⟨w.heap.size, 0, none⟩ = some (.int .i64 (o : Int)) ∧ W.cell? ⟨w.heap.size, 1, none⟩ = some (.int .i64 (n : Int)) ∧ W.cell? ⟨w.heap.size, 2, none⟩ = some (.int .i64 (x : Int)) ∧ W.cell? ⟨w.heap.size, 3, none⟩ = some (.slice A m c)) := fun W hb => cell_at w W _ _ _ A m c hb
  have HB : Hid (Below w.heap.size w (w.alloc (.cells #[.int .i64 (o : Int), .int .i64 (n : Int), .int .i64 (x : Int), .slice A m c] 24))) := (Below.refl _ _).alloc (Nat.le_refl _) _
  obtain ⟨t7, ht7⟩ : ∃ t, t = 10 + m := ⟨_, rfl⟩
  obtain ⟨r, hrr⟩ : ∃ t, t = 242 - m := ⟨_, rfl⟩
  have y0 : IntKind.i64.wrap (242 - (m : Int)) = (r : Int) := by rw [IntWalk.i64_in _ (by omega)]; omega
  have HT : Hid (10 + m = t7 ∧ t7 + r = 252 ∧ r = 242 - m) := ⟨by omega, by omega, by omega⟩
  have a24 := fun w' => Try.aggCell w'
  have s24 := fun w' => Try.sizeCell w'
  have nf := fun w' => Try.notFalse w'
  have nt := fun w' => Try.notTrue w'
  have hmf : ∀ (fn : Fn) (first cap : Array Value) (w : World), (Instr.makeFunc fn first cap).run Try.prog w = .ok (.func fn first cap) w := fun _ _ _ _ => rfl
  unfold ceV at HM ⊢
  simp only at HM ⊢
  rw [← hm] at HM ⊢
  clear hP1 hP2 hP3 hP4 l1 l2 l3 l4 hr ht7 hrr hm h1 h2 h3 h4 h5 h6 h7 h8
  go_enter Try.func7, Try.ntmps7
  go_wp2_with (first
    | (go_at_call 18; (with_reducible refine (HM.out _).mono ?_); rintro e w1 ⟨rfl, b1⟩; have b1a := b1.alloc b1.size (.cells #[.slice none 0 0] 22); have p0 := Lib.hid (put_new w1); obtain ⟨q0, q1, q2, q3⟩ := HS.out _ b1a)
    | (go_at_call 19; (with_reducible refine (HC1.out _ _ p0).mono ?_); rintro e w2 ⟨rfl, p1, hb2⟩; have b2 := b1a.trans (hb2.mono b1.size); obtain ⟨q0, q1, q2, q3⟩ := HS.out _ b2)
    | (go_at_call 19; (with_reducible refine (HC2.out _ _ p1).mono ?_); rintro e w3 ⟨rfl, p2, hb3⟩; have b3 := b2.trans (hb3.mono b1.size); obtain ⟨q0, q1, q2, q3⟩ := HS.out _ b3)
    | (go_at_call 19; (with_reducible refine (HC3.out _ _ p2).mono ?_); rintro e w4 ⟨rfl, p3, hb4⟩; have b4 := b3.trans (hb4.mono b1.size); obtain ⟨q0, q1, q2, q3⟩ := HS.out _ b4)
    | (go_at_call 19; (with_reducible refine (HC4.out _ _ p3).mono ?_); rintro e w6 ⟨rfl, p5, hb6⟩; have b6 := b4.trans (hb6.mono b1.size); obtain ⟨q0, q1, q2, q3⟩ := HS.out _ b6; obtain ⟨A6, c6, hblk, hown⟩ := p5.out; rw [HL4.out] at hblk hown; have k0 := hblk.cell 0; have k1 := hblk.frozen 0; have r6 := HR.out _ b6; have z6 := Nat.le_of_lt (Blk.lt hblk))
    | (at_builtin; refine wpList_append_any _ rfl (.tmp 27) (.tmp 29) 22 rfl w1.heap.size 5 i0 _ 1 1 Try.underlying22 hi0 hz0 hz1 hz2 rfl (by omega) (.slice A6 10 c6) 10 (cells P4) rfl hown w6.heap.size A m c (cells D) rfl r6.out (cells_one _) (by simp only [maxLen]; omega) (by omega) z6 ?_; intro v7 w7 ho7 hg7 hat7; rw [HT.out.1] at ho7; obtain ⟨A7, c7, rfl⟩ := own_form ho7; have hbk7 := hblk.grown hg7 (ne_row hblk hown); have k2 := hbk7.cell 0; have k3 := hbk7.frozen 0; have b7 := b6.grown hg7 (by have := b6.size; omega) (fun j hj => Nat.le_trans b1.size (hown.lt j hj).1); have b7s := b7.setCell (p := ⟨w1.heap.size, 0, none⟩) b1.size (.slice A7 t7 c7); obtain ⟨q0, q1, q2, q3⟩ := HS.out _ b7s; have hbk7s := hbk7.set_ 0 (.slice A7 t7 c7); have k4 := hbk7s.cell 0; have k5 := hbk7s.frozen 0; have ho7s := own_turns ho7 (Turns.set_ (F := fun j => j = w1.heap.size) rfl 0 (.slice A7 t7 c7)) (fun j hj e => ne_row hbk7 ho7 (by rw [hj, e])); have z7 := Nat.le_of_lt (Blk.lt hbk7s))
    | (at_builtin; refine wpList_append_make _ rfl (.tmp 31) (.tmp 35) 22 3 rfl w1.heap.size 5 i0 _ 1 1 .i64 Try.underlying22 Try.underlying3 hi0 hz0 hz1 hz2 rfl (by omega) (.slice A7 t7 c7) t7 (cells P4 ++ cells D) rfl ho7s r rfl (cells (List.replicate r 0)) (zero_bytes r) (cells_one _) (by have := HT.out; simp only [maxLen]; omega) (by have := HT.out; omega) z7 ?_; intro v8 w8 ho8 hg8 hat8; rw [HT.out.2.1] at ho8; obtain ⟨A8, c8, rfl⟩ := own_form ho8; have hbk8 := hbk7s.grown hg8 (ne_row hbk7s ho7s); have k6 := hbk8.cell 0; have k7 := hbk8.frozen 0; have b8 := b7s.grown hg8 (by have := b7s.size; omega) (fun j hj => Nat.le_trans b1.size (ho7s.lt j hj).1); have b8s := b8.setCell (p := ⟨w1.heap.size, 0, none⟩) b1.size (.slice A8 252 c8); have ho8s := own_turns ho8 (Turns.set_ (F := fun j => j = w1.heap.size) rfl 0 (.slice A8 252 c8)) (fun j hj e => ne_row hbk8 ho8 (by rw [hj, e])); have HSe := seal_cput A8 c8 _ w HT.out.2.2 HBd.out ho8s (HB.out.trans (b8s.mono HB.out.size)))
    | (go_at_call 21; (with_reducible refine HSe.out.mono ?_); rintro e w9 ⟨A0, c0, rfl, hG⟩))
  go_ret2
  exact hG.out
theorem cput_any (s : Ce) (A : Option Addr) (c : Nat) (w : World) (hr : RB w w.heap.size A s.data) (hl : s.data.length ≤ 1000000) :
    Calls Try.prog 7 #[ceV s A c] w fun e w' => (s.may = true → GivesBytes s.bytes w e w') ∧ (s.may = false → e = .returned (.tuple #[.slice none 0 0, .int .i64 1]) ∧ Below w.heap.size w w') := by
  cases hv : s.may with
  | true => exact (cput_yes s A c w hv hr).mono fun e w' h => ⟨fun _ => h, fun h' => absurd h' (by decide)⟩
  | false => exact (cput_no s A c w hv).mono fun e w' h => ⟨fun h' => absurd h' (by decide), fun _ => h⟩
end Go.Proofs.Ytpedgkghfehkjaa
end
section
set_option linter.unusedVariables false
namespace Go.Proofs.Ytpedgkghfehkjaa
open Go.RowKit
theorem sub_rb {w : World} {B b0 o c : Nat} {M : List UInt8} (h : RB w B (some ⟨b0, o, none⟩) M) (k q : Nat) (hk : k + q ≤ M.length) (hc : M.length < c) : RB w B (some ⟨b0, o + k, none⟩) ((M.drop k).take q) := by
  have h2 := rb_cut1 h (k := k) (c := c) (by omega) (by omega) (by omega)
  simp only [Option.map_some, add_at] at h2
  exact rb_take h2 q (by rw [List.length_drop]; omega)
theorem refOpen_view (L M : List UInt8) (A : Option Addr) (c : Nat) (w : World) (hr : RB w w.heap.size A L) (hlc : L.length ≤ c) (hc : c ≤ 9223372036854775807) (hl : L.length ≤ 1048576) (ho : openL L = some M) :
    Calls Try.prog 28 #[.slice A L.length c] w fun e w' => e = .returned (.tuple #[.slice A M.length c, .int .i64 0]) ∧ Below w.heap.size w w' := by
  have h4 : ¬ L.length < 4 := fun h => by unfold openL at ho; rw [if_neg (by omega)] at ho; cases ho
  obtain ⟨n, hn⟩ : ∃ n, n = L.length - 4 := ⟨_, rfl⟩
  have hn4 : L.length = n + 4 := by omega
  have hp : (L.take n).length = n := by rw [List.length_take]; omega
  have hrp : RB w w.heap.size A (L.take n) := rb_take hr n (by omega)
  have hM : M.length = n := by have := (openL_some ho).2; omega
  have hse : sealL (L.take n) = L := by
    unfold openL at ho
    rw [← hn] at ho
    split at ho
    · rename_i h; exact h.2
    · cases ho
  rw [hn4, hM]
  refine refOpen_core n A c L (sealL (L.take n)) w (by omega) hc (sealL (L.take n) == L) hr hn4.symm (fun w e w' => e = .returned (.tuple #[.slice A n c, .int .i64 0]) ∧ Below w.heap.size w w') (fun W hb => ?_) rfl (fun hb w' h => ⟨rfl, h⟩) (fun hb w' h => ?_)
  · have := refSeal_any (L.take n) A c _ W (hrp.below hb) (by omega)
    rwa [hp] at this
  · rw [hse] at hb; simp at hb
end Go.Proofs.Ytpedgkghfehkjaa
end
