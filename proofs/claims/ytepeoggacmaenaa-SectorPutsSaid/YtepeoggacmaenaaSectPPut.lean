/- The walk of the program's Put of a sector (layer 7): a closure that writes what it captures. -/
import Derived.Test.YtepeoggacmaenaaSectPMay
import Derived.Test.YtepeoggacmaenaaZeros
import Derived.Test.YtepeoggacmaenaaCrcSeal
import Derived.Test.YtepeoggacmaenaaSectRPut
import Derived.Test.YtepeoggacmaenaaFoot
set_option linter.unusedVariables false
set_option linter.unusedSimpArgs false
namespace Go.Proofs.Ytepeoggacmaenaa
open Go.RowKit

/-- A variable of bytes: the block gb, the bytes in memory at or above it. -/
def PutAt (w : World) (gb : Nat) (L : List UInt8) : Prop := ∃ A c, Blk w gb 22 #[.slice A L.length c] ∧ w.ownsRow gb 5 1 (.slice A L.length c) L.length (cells L)
theorem ne_row {w : World} {gb base n : Nat} {cs : Array Value} {v : Value} {xs : List Value} (h : Blk w gb 22 cs) (ho : w.ownsRow base 5 1 v n xs) : some gb ≠ v.ownBlock := fun e => by
  obtain ⟨_, cs', h'⟩ := own_lt ho e.symm
  exact Blk.ne_ h h' (by decide) rfl
set_option maxRecDepth 100000 in
set_option maxHeartbeats 2000000 in
theorem put1_any (gb : Nat) (L : List UInt8) (z : Int) (n k : Nat) (w : World) (hz : z = (n : Int)) (hn : n ≤ 2147483647) (hk1 : 1 ≤ k) (hk4 : k ≤ 4) (hnk : n < 256 ^ k) (hL : L.length ≤ 1000) (h : PutAt w gb L) :
    Calls Try.prog 20 #[.int .i64 z, .int .i64 (k : Int), .pointer (some ⟨gb, 0, none⟩)] w fun e w' => e = .returned (.tuple #[]) ∧ PutAt w' gb (L ++ fixL k n) ∧ Below gb w w' := by
  subst hz
  obtain ⟨i0, hi0, hz0, hz1, hz2⟩ := info_parts Try.info5
  obtain ⟨A, c, hb, ho⟩ := h
  have HF : Hid (∀ W, Calls Try.prog 21 #[.int .i64 (n : Int), .int .i64 (k : Int)] W fun e w' => ∃ A' c', e = .returned (.tuple #[.slice A' k c', .int .i64 0]) ∧ Hid (RB w' w'.heap.size A' (fixL k n)) ∧ Below W.heap.size W w') := fun W => by
    refine (fix_yes n k W hn hk1 hk4 hnk).mono fun e w' hh => ?_
    obtain ⟨A', c', he, hown, hb'⟩ := hh
    rw [fixL_length] at he
    exact ⟨A', c', he, own_rb hown, hb'⟩
  have hlt : gb < w.heap.size := hb.lt
  have HB := Lib.hid hb
  have HO := Lib.hid ho
  obtain ⟨q, hq⟩ : ∃ q, q = L.length := ⟨_, rfl⟩
  have HQ := Lib.hid hq
  rw [← hq] at HB HO hL
  have c0 : w.cell? ⟨gb, 0, none⟩ = some (.slice A q c) := HB.out.cell 0
  have f0 : w.frozen? ⟨gb, 0, none⟩ = false := HB.out.frozen 0
  clear hb ho hnk hq
  go_enter Try.func20, Try.ntmps20
  go_wp2_with (first
    | (go_at_call 21; (with_reducible refine (HF.out _).mono ?_); rintro e w1 ⟨A1, c1, rfl, hr1, hb1⟩; have k0 := (hb1.cell (p := ⟨gb, 0, none⟩) hlt).trans c0; have k1 := (hb1.frozen (p := ⟨gb, 0, none⟩) hlt).trans f0)
    | (at_builtin; refine wpList_append_any _ rfl (.tmp 13) (.tmp 14) 22 rfl gb 5 i0 _ 1 1 Try.underlying22 hi0 hz0 hz1 hz2 rfl (by omega) (.slice A q c) q (cells L) rfl (own_kept HO.out hb1) w1.heap.size A1 k c1 (cells (fixL k n)) rfl (by have := hr1.out; unfold RB at this; rwa [fixL_length] at this) (cells_one _) (by simp only [maxLen]; omega) (by omega) (by have := hb1.size; omega) ?_; intro v2 w2 ho2 hg2 hat2; have hbk := (HB.out.below hb1 hlt).grown hg2 (ne_row (HB.out.below hb1 hlt) (own_kept HO.out hb1)); have k2 := hbk.cell 0; have k3 := hbk.frozen 0; obtain ⟨A2, c2, rfl⟩ := own_form ho2))
  go_end0
  have hl : (L ++ fixL k n).length = q + k := by rw [List.length_append, fixL_length, HQ.out]
  have hbb : Below gb w w2 := (hb1.mono (Nat.le_of_lt hlt)).grown hg2 (by have := hb1.size; omega) (fun j hj => ((own_kept HO.out hb1).lt j hj).1)
  refine ⟨rfl, ⟨A2, c2, ?_, ?_⟩, hbb.setCell (Nat.le_refl _) _⟩
  · rw [hl]
    exact hbk.set_ 0 _
  · rw [hl, cells_append]
    refine own_turns ho2 (Turns.set_ (F := fun j => j = gb) rfl 0 _) (fun j hj e => ?_)
    exact ne_row hbk ho2 (by rw [hj, e])
theorem seal_put {P D : List UInt8} {m r base : Nat} {s : Sd} (A : Option Addr) (c : Nat) (W w : World) (hr : r = 48 - m) (hB : s.body = P ++ D ++ List.replicate (48 - m) 0) (ho : W.ownsRow base 5 1 (.slice A 60 c) 60 (cells P ++ cells D ++ cells (List.replicate r 0))) (hb : Below w.heap.size w W) :
    Hid (Calls Try.prog 22 #[.slice A 60 c] W fun e w' => ∃ A c, e = .returned (.slice A 64 c) ∧ Hid (GivesBytes s.bytes w (.returned (.tuple #[.slice A 64 c, .int .i64 0])) w')) := by
  subst hr
  rw [← cells_append, ← cells_append, ← hB] at ho
  have hL : s.body.length = 60 := by have := ho.1; rw [cells_length] at this; omega
  have hrb : RB W W.heap.size A s.body := by
    refine Reads.of_own (base := base) (e := 5) (c := c) ?_
    rw [hL]; exact ho
  have h1 := seal_any s.body A c W.heap.size W hrb (by omega)
  rw [hL] at h1
  refine h1.mono fun e w' hh => ?_
  obtain ⟨A, c, he, ho, hb'⟩ := hh
  have e2 : (sealL s.body).length = 64 := by rw [sealL_length, hL]
  rw [e2] at he
  refine ⟨A, c, he, A, c, ?_, ?_, chain7 hb hb'⟩
  · show _ = Ending.returned (.tuple #[.slice A (sealL s.body).length c, _])
    rw [e2]
  · exact Joins.ownsRow_le ho hb.size
theorem put_new (w : World) : PutAt (w.alloc (.cells #[.slice none 0 0] 22)) w.heap.size [] := ⟨none, 0, Blk.new w _ _, World.ownsRow_nil _ _ _ _⟩
theorem sec_at (w : World) (k ep n l : Int) (A : Option Addr) (m c : Nat) (W : World) (hb : Below (w.alloc (.cells #[.int .i64 k, .int .i64 ep, .int .i64 n, .int .i64 l, .slice A m c] 24)).heap.size (w.alloc (.cells #[.int .i64 k, .int .i64 ep, .int .i64 n, .int .i64 l, .slice A m c] 24)) W) :
    W.cell? ⟨w.heap.size, 0, none⟩ = some (.int .i64 k) ∧ W.cell? ⟨w.heap.size, 1, none⟩ = some (.int .i64 ep) ∧ W.cell? ⟨w.heap.size, 2, none⟩ = some (.int .i64 n) ∧ W.cell? ⟨w.heap.size, 3, none⟩ = some (.int .i64 l) ∧ W.cell? ⟨w.heap.size, 4, none⟩ = some (.slice A m c) := by
  have h0 : Blk W w.heap.size 24 #[.int .i64 k, .int .i64 ep, .int .i64 n, .int .i64 l, .slice A m c] := Blk.below (Blk.new w _ _) hb (by simp)
  exact ⟨by rw [h0.cell]; rfl, by rw [h0.cell]; rfl, by rw [h0.cell]; rfl, by rw [h0.cell]; rfl, by rw [h0.cell]; rfl⟩
set_option maxRecDepth 100000 in
set_option maxHeartbeats 4000000 in
theorem sput_no (s : Sd) (A : Option Addr) (c : Nat) (w : World) (h : s.may = false) :
    Calls Try.prog 8 #[secV s A c] w fun e w' => e = .returned (.tuple #[.slice none 0 0, .int .i64 1]) ∧ Below w.heap.size w w' := by
  have HM : Hid (∀ W, Calls Try.prog 19 #[secV s A c] W fun e w' => e = .returned (.bool false) ∧ Below W.heap.size W w') := fun W => by rw [← h]; exact maybe_any s A c W
  have HB : Hid (Below w.heap.size w (w.alloc (.cells #[.int .i64 s.kind, .int .i64 s.epoch, .int .i64 s.number, .int .i64 s.left, .slice A s.data.length c] 24))) := (Below.refl _ _).alloc (Nat.le_refl _) _
  have a24 := fun w' => Try.aggSec w'
  have s24 := fun w' => Try.sizeSec w'
  unfold secV at HM ⊢
  clear h
  go_enter Try.func8, Try.ntmps8
  go_wp2_with (first
    | (go_at_call 19; (with_reducible refine (HM.out _).mono ?_); rintro e w1 ⟨rfl, hb1⟩))
  go_ret2
  exact ⟨rfl, chain7 HB.out hb1⟩
set_option maxRecDepth 100000 in
set_option maxHeartbeats 8000000 in
theorem sput_yes (s : Sd) (A : Option Addr) (c : Nat) (w : World) (h : s.may = true) (hr : RB w w.heap.size A s.data) :
    Calls Try.prog 8 #[secV s A c] w (GivesBytes s.bytes w) := by
  have HM : Hid (∀ W, Calls Try.prog 19 #[secV s A c] W fun e w' => e = .returned (.bool true) ∧ Below W.heap.size W w') := fun W => by rw [← h]; exact maybe_any s A c W
  obtain ⟨i0, hi0, hz0, hz1, hz2⟩ := info_parts Try.info5
  obtain ⟨h1, h2, h3, h4, h5, h6, h7, h8, h9⟩ := s.may_iff.1 h
  clear h
  obtain ⟨kz, ez, nz, lz, D⟩ := s
  simp only at h1 h2 h3 h4 h5 h6 h7 h8 h9 hr
  obtain ⟨k, rfl⟩ : ∃ k : Nat, kz = (k : Int) := ⟨kz.toNat, by omega⟩
  obtain ⟨ep, rfl⟩ : ∃ k : Nat, ez = (k : Int) := ⟨ez.toNat, by omega⟩
  obtain ⟨n, rfl⟩ : ∃ k : Nat, nz = (k : Int) := ⟨nz.toNat, by omega⟩
  obtain ⟨l, rfl⟩ : ∃ k : Nat, lz = (k : Int) := ⟨lz.toNat, by omega⟩
  obtain ⟨m, hm⟩ : ∃ m, m = D.length := ⟨_, rfl⟩
  obtain ⟨P1, hP1⟩ : ∃ X, X = fixL 1 k := ⟨_, rfl⟩
  obtain ⟨P2, hP2⟩ : ∃ X, X = P1 ++ fixL 1 m := ⟨_, rfl⟩
  obtain ⟨P3, hP3⟩ : ∃ X, X = P2 ++ fixL 2 l := ⟨_, rfl⟩
  obtain ⟨P4, hP4⟩ : ∃ X, X = P3 ++ fixL 4 ep := ⟨_, rfl⟩
  obtain ⟨P5, hP5⟩ : ∃ X, X = P4 ++ fixL 4 n := ⟨_, rfl⟩
  have l1 : P1.length = 1 := by rw [hP1, fixL_length]
  have l2 : P2.length = 2 := by rw [hP2, List.length_append, fixL_length, l1]
  have l3 : P3.length = 4 := by rw [hP3, List.length_append, fixL_length, l2]
  have l4 : P4.length = 8 := by rw [hP4, List.length_append, fixL_length, l3]
  have l5 : P5.length = 12 := by rw [hP5, List.length_append, fixL_length, l4]
  have HL5 := Lib.hid l5
  have hm48 : m ≤ 48 := by omega
  have HBd : Hid (Sd.body ⟨(k : Int), (ep : Int), (n : Int), (l : Int), D⟩ = P5 ++ D ++ List.replicate (48 - m) 0) := by
    show _ = _
    have e1 : fixL 1 k = [UInt8.ofNat k] := by
      show [UInt8.ofNat (k % 256)] = _
      rw [Nat.mod_eq_of_lt (by omega)]
    have e2 : fixL 1 m = [UInt8.ofNat m] := by
      show [UInt8.ofNat (m % 256)] = _
      rw [Nat.mod_eq_of_lt (by omega)]
    unfold Sd.body Sd.head
    simp only [Int.toNat_natCast, hP5, hP4, hP3, hP2, hP1, e1, e2, ← hm]
    simp
  have HC1 : Hid (∀ gb W, Hid (PutAt W gb []) → Calls Try.prog 20 #[.int .i64 (k : Int), .int .i64 1, .pointer (some ⟨gb, 0, none⟩)] W fun e w' => e = .returned (.tuple #[]) ∧ Hid (PutAt w' gb P1) ∧ Below gb W w') := fun gb W h => by
    have := put1_any gb [] (k : Int) k 1 W rfl (by omega) (by omega) (by omega) (by omega) (by simp) h.out
    rw [List.nil_append, ← hP1] at this
    exact this
  have HC2 : Hid (∀ gb W, Hid (PutAt W gb P1) → Calls Try.prog 20 #[.int .i64 (m : Int), .int .i64 1, .pointer (some ⟨gb, 0, none⟩)] W fun e w' => e = .returned (.tuple #[]) ∧ Hid (PutAt w' gb P2) ∧ Below gb W w') := fun gb W h => by
    have := put1_any gb P1 (m : Int) m 1 W rfl (by omega) (by omega) (by omega) (by omega) (by omega) h.out
    rw [← hP2] at this
    exact this
  have HC3 : Hid (∀ gb W, Hid (PutAt W gb P2) → Calls Try.prog 20 #[.int .i64 (l : Int), .int .i64 2, .pointer (some ⟨gb, 0, none⟩)] W fun e w' => e = .returned (.tuple #[]) ∧ Hid (PutAt w' gb P3) ∧ Below gb W w') := fun gb W h => by
    have := put1_any gb P2 (l : Int) l 2 W rfl (by omega) (by omega) (by omega) (by omega) (by omega) h.out
    rw [← hP3] at this
    exact this
  have HC4 : Hid (∀ gb W, Hid (PutAt W gb P3) → Calls Try.prog 20 #[.int .i64 (ep : Int), .int .i64 4, .pointer (some ⟨gb, 0, none⟩)] W fun e w' => e = .returned (.tuple #[]) ∧ Hid (PutAt w' gb P4) ∧ Below gb W w') := fun gb W h => by
    have := put1_any gb P3 (ep : Int) ep 4 W rfl (by omega) (by omega) (by omega) (by omega) (by omega) h.out
    rw [← hP4] at this
    exact this
  have HC5 : Hid (∀ gb W, Hid (PutAt W gb P4) → Calls Try.prog 20 #[.int .i64 (n : Int), .int .i64 4, .pointer (some ⟨gb, 0, none⟩)] W fun e w' => e = .returned (.tuple #[]) ∧ Hid (PutAt w' gb P5) ∧ Below gb W w') := fun gb W h => by
    have := put1_any gb P4 (n : Int) n 4 W rfl (by omega) (by omega) (by omega) (by omega) (by omega) h.out
    rw [← hP5] at this
    exact this
  have HR : Hid (∀ W, Below (w.alloc (.cells #[.int .i64 (k : Int), .int .i64 (ep : Int), .int .i64 (n : Int), .int .i64 (l : Int), .slice A m c] 24)).heap.size (w.alloc (.cells #[.int .i64 (k : Int), .int .i64 (ep : Int), .int .i64 (n : Int), .int .i64 (l : Int), .slice A m c] 24)) W → Hid (Reads W W.heap.size 1 A m (cells D))) := fun W hb => by
    have h2 := rb_up7 (rb_up7 hr ((Below.refl _ _).alloc (Nat.le_refl _) _)) hb
    unfold RB at h2
    rw [← hm] at h2
    exact h2
  have HS : Hid (∀ W, Below (w.alloc (.cells #[.int .i64 (k : Int), .int .i64 (ep : Int), .int .i64 (n : Int), .int .i64 (l : Int), .slice A m c] 24)).heap.size (w.alloc (.cells #[.int .i64 (k : Int), .int .i64 (ep : Int), .int .i64 (n : Int), .int .i64 (l : Int), .slice A m c] 24)) W → W.cell? ⟨w.heap.size, 0, none⟩ = some (.int .i64 (k : Int)) ∧ W.cell? ⟨w.heap.size, 1, none⟩ = some (.int .i64 (ep : Int)) ∧ W.cell? ⟨w.heap.size, 2, none⟩ = some (.int .i64 (n : Int)) ∧ W.cell? ⟨w.heap.size, 3, none⟩ = some (.int .i64 (l : Int)) ∧ W.cell? ⟨w.heap.size, 4, none⟩ = some (.slice A m c)) := fun W hb => sec_at w _ _ _ _ A m c W hb
  have HB : Hid (Below w.heap.size w (w.alloc (.cells #[.int .i64 (k : Int), .int .i64 (ep : Int), .int .i64 (n : Int), .int .i64 (l : Int), .slice A m c] 24))) := (Below.refl _ _).alloc (Nat.le_refl _) _
  obtain ⟨t7, ht7⟩ : ∃ t, t = 12 + m := ⟨_, rfl⟩
  obtain ⟨r, hrr⟩ : ∃ t, t = 48 - m := ⟨_, rfl⟩
  have y0 : IntKind.i64.wrap (48 - (m : Int)) = (r : Int) := by rw [IntWalk.i64_in _ (by omega)]; omega
  have HT : Hid (12 + m = t7 ∧ t7 + r = 60 ∧ r = 48 - m) := ⟨by omega, by omega, by omega⟩
  have a24 := fun w' => Try.aggSec w'
  have s24 := fun w' => Try.sizeSec w'
  have hmf : ∀ (fn : Fn) (first cap : Array Value) (w : World), (Instr.makeFunc fn first cap).run Try.prog w = .ok (.func fn first cap) w := fun _ _ _ _ => rfl
  unfold secV at HM ⊢
  simp only at HM ⊢
  rw [← hm] at HM ⊢
  clear hP1 hP2 hP3 hP4 hP5 l1 l2 l3 l4 l5 hr ht7 hrr hm h1 h2 h3 h4 h5 h6 h7 h8 h9
  go_enter Try.func8, Try.ntmps8
  go_wp2_with (first
    | (go_at_call 19; (with_reducible refine (HM.out _).mono ?_); rintro e w1 ⟨rfl, b1⟩; have b1a := b1.alloc b1.size (.cells #[.slice none 0 0] 22); have p0 := Lib.hid (put_new w1); obtain ⟨q0, q1, q2, q3, q4⟩ := HS.out _ b1a)
    | (go_at_call 20; (with_reducible refine (HC1.out _ _ p0).mono ?_); rintro e w2 ⟨rfl, p1, hb2⟩; have b2 := b1a.trans (hb2.mono b1.size); obtain ⟨q0, q1, q2, q3, q4⟩ := HS.out _ b2)
    | (go_at_call 20; (with_reducible refine (HC2.out _ _ p1).mono ?_); rintro e w3 ⟨rfl, p2, hb3⟩; have b3 := b2.trans (hb3.mono b1.size); obtain ⟨q0, q1, q2, q3, q4⟩ := HS.out _ b3)
    | (go_at_call 20; (with_reducible refine (HC3.out _ _ p2).mono ?_); rintro e w4 ⟨rfl, p3, hb4⟩; have b4 := b3.trans (hb4.mono b1.size); obtain ⟨q0, q1, q2, q3, q4⟩ := HS.out _ b4)
    | (go_at_call 20; (with_reducible refine (HC4.out _ _ p3).mono ?_); rintro e w5 ⟨rfl, p4, hb5⟩; have b5 := b4.trans (hb5.mono b1.size); obtain ⟨q0, q1, q2, q3, q4⟩ := HS.out _ b5)
    | (go_at_call 20; (with_reducible refine (HC5.out _ _ p4).mono ?_); rintro e w6 ⟨rfl, p5, hb6⟩; have b6 := b5.trans (hb6.mono b1.size); obtain ⟨q0, q1, q2, q3, q4⟩ := HS.out _ b6; obtain ⟨A6, c6, hblk, hown⟩ := p5.out; rw [HL5.out] at hblk hown; have k0 := hblk.cell 0; have k1 := hblk.frozen 0; have r6 := HR.out _ b6; have z6 := Nat.le_of_lt (Blk.lt hblk))
    | (at_builtin; refine wpList_append_any _ rfl (.tmp 31) (.tmp 33) 22 rfl w1.heap.size 5 i0 _ 1 1 Try.underlying22 hi0 hz0 hz1 hz2 rfl (by omega) (.slice A6 12 c6) 12 (cells P5) rfl hown w6.heap.size A m c (cells D) rfl r6.out (cells_one _) (by simp only [maxLen]; omega) (by omega) z6 ?_; intro v7 w7 ho7 hg7 hat7; rw [HT.out.1] at ho7; obtain ⟨A7, c7, rfl⟩ := own_form ho7; have hbk7 := hblk.grown hg7 (ne_row hblk hown); have k2 := hbk7.cell 0; have k3 := hbk7.frozen 0; have b7 := b6.grown hg7 (by have := b6.size; omega) (fun j hj => Nat.le_trans b1.size (hown.lt j hj).1); have b7s := b7.setCell (p := ⟨w1.heap.size, 0, none⟩) b1.size (.slice A7 t7 c7); obtain ⟨q0, q1, q2, q3, q4⟩ := HS.out _ b7s; have hbk7s := hbk7.set_ 0 (.slice A7 t7 c7); have k4 := hbk7s.cell 0; have k5 := hbk7s.frozen 0; have ho7s := own_turns ho7 (Turns.set_ (F := fun j => j = w1.heap.size) rfl 0 (.slice A7 t7 c7)) (fun j hj e => ne_row hbk7 ho7 (by rw [hj, e])); have z7 := Nat.le_of_lt (Blk.lt hbk7s))
    | (at_builtin; refine wpList_append_make _ rfl (.tmp 35) (.tmp 39) 22 3 rfl w1.heap.size 5 i0 _ 1 1 .i64 Try.underlying22 Try.underlying3 hi0 hz0 hz1 hz2 rfl (by omega) (.slice A7 t7 c7) t7 (cells P5 ++ cells D) rfl ho7s r rfl (cells (List.replicate r 0)) (zero_bytes r) (cells_one _) (by have := HT.out; simp only [maxLen]; omega) (by have := HT.out; omega) z7 ?_; intro v8 w8 ho8 hg8 hat8; rw [HT.out.2.1] at ho8; obtain ⟨A8, c8, rfl⟩ := own_form ho8; have hbk8 := hbk7s.grown hg8 (ne_row hbk7s ho7s); have k6 := hbk8.cell 0; have k7 := hbk8.frozen 0; have b8 := b7s.grown hg8 (by have := b7s.size; omega) (fun j hj => Nat.le_trans b1.size (ho7s.lt j hj).1); have b8s := b8.setCell (p := ⟨w1.heap.size, 0, none⟩) b1.size (.slice A8 60 c8); have ho8s := own_turns ho8 (Turns.set_ (F := fun j => j = w1.heap.size) rfl 0 (.slice A8 60 c8)) (fun j hj e => ne_row hbk8 ho8 (by rw [hj, e])); have HSe := seal_put A8 c8 _ w HT.out.2.2 HBd.out ho8s (HB.out.trans (b8s.mono HB.out.size)))
    | (go_at_call 22; (with_reducible refine HSe.out.mono ?_); rintro e w9 ⟨A0, c0, rfl, hG⟩))
  go_ret2
  exact hG.out
/-- The program's Put. -/
theorem sput_any (s : Sd) (A : Option Addr) (c : Nat) (w : World) (hr : RB w w.heap.size A s.data) (hl : s.data.length ≤ 1000000) :
    Calls Try.prog 8 #[secV s A c] w fun e w' => (s.may = true → GivesBytes s.bytes w e w') ∧ (s.may = false → e = .returned (.tuple #[.slice none 0 0, .int .i64 1]) ∧ Below w.heap.size w w') := by
  cases hv : s.may with
  | true => exact (sput_yes s A c w hv hr).mono fun e w' h => ⟨fun _ => h, fun h' => absurd h' (by decide)⟩
  | false => exact (sput_no s A c w hv).mono fun e w' h => ⟨fun h' => absurd h' (by decide), fun _ => h⟩
end Go.Proofs.Ytepeoggacmaenaa
