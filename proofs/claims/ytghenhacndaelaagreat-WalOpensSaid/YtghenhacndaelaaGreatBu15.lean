/- Lemmas under the proofs of this place: SectPPut, SectRSame, SectRPut, CrcROpen, WalOpensM, DiskPLoad. No statement is proved here. -/
import Derived.Test.YtghenhacndaelaaGreatBu12
import Derived.Test.YtghenhacndaelaaGreatBu02
import Derived.Test.YtghenhacndaelaaGreatBu11
import Derived.Test.YtghenhacndaelaaGreatBu10
import Derived.Test.YtghenhacndaelaaGreatBu03
import Derived.Test.YtghenhacndaelaaGreatBu07
import Derived.Test.YtghenhacndaelaaGreatBu13
import Derived.Test.YtghenhacndaelaaGreatBu05
import Derived.Test.YtghenhacndaelaaGreatBu01
import Derived.Lib.SmallJoins
import Derived.Laws.OwnMore
import Derived.Deep.RegionHeldLaw
set_option linter.unusedSimpArgs false
set_option linter.unusedVariables false
set_option maxRecDepth 100000
set_option maxHeartbeats 16000000
namespace Go.Proofs.YtghenhacndaelaaGreat
section
open Go.RowKit
theorem put1_any (gb : Nat) (L : List UInt8) (z : Int) (n k : Nat) (w : World) (hz : z = (n : Int)) (hn : n ≤ 2147483647) (hk1 : 1 ≤ k) (hk4 : k ≤ 4) (hnk : n < 256 ^ k) (hL : L.length ≤ 1000) (h : PutAt w gb L) :
    Calls Tryz.prog 91 #[.int .i64 z, .int .i64 (k : Int), .pointer (some ⟨gb, 0, none⟩)] w fun e w' => e = .returned (.tuple #[]) ∧ PutAt w' gb (L ++ fixL k n) ∧ Below gb w w' := by
  subst hz
  obtain ⟨i0, hi0, hz0, hz1, hz2⟩ := info_parts Tryz.info5
  obtain ⟨A, c, hb, ho⟩ := h
  have HF : Hid (∀ W, Calls Tryz.prog 92 #[.int .i64 (n : Int), .int .i64 (k : Int)] W fun e w' => ∃ A' c', e = .returned (.tuple #[.slice A' k c', .int .i64 0]) ∧ Hid (RB w' w'.heap.size A' (fixL k n)) ∧ Below W.heap.size W w') := fun W => by
    refine (fix_yes n k W hn hk1 hk4 hnk).mono fun e w' hh => ?_
    obtain ⟨A', c', he, hown, hb'⟩ := hh
    rw [fixL_length] at he
    exact ⟨A', c', he, own_rb hown, hb'⟩
  have hlt : gb < w.heap.size := hb.lt
  have HB := Lib.hid hb
  have HO := Lib.hid ho
  obtain ⟨q, hq⟩ : ∃ q, q = L.length := ⟨_, rfl⟩
  have HQ := Lib.hid hq
  rw [← hq] at HB HO hL
  have c0 : w.cell? ⟨gb, 0, none⟩ = some (.slice A q c) := HB.out.cell 0
  have f0 : w.frozen? ⟨gb, 0, none⟩ = false := HB.out.frozen 0
  clear hb ho hnk hq
  go_enter Tryz.func91, Tryz.ntmps91
  go_wp2_with (first
    | (go_at_call 92; (with_reducible refine (HF.out _).mono ?_); rintro e w1 ⟨A1, c1, rfl, hr1, hb1⟩; have k0 := (hb1.cell (p := ⟨gb, 0, none⟩) hlt).trans c0; have k1 := (hb1.frozen (p := ⟨gb, 0, none⟩) hlt).trans f0)
    | (at_builtin; refine wpList_append_any _ rfl (.tmp 13) (.tmp 14) 39 rfl gb 5 i0 _ 1 1 Tryz.underlying39 hi0 hz0 hz1 hz2 rfl (by omega) (.slice A q c) q (cells L) rfl (own_kept HO.out hb1) w1.heap.size A1 k c1 (cells (fixL k n)) rfl (by have := hr1.out; unfold RB at this; rwa [fixL_length] at this) (cells_one _) (by simp only [maxLen]; omega) (by omega) (by have := hb1.size; omega) ?_; intro v2 w2 ho2 hg2 hat2; have hbk := (HB.out.below hb1 hlt).grown hg2 (ne_row (HB.out.below hb1 hlt) (own_kept HO.out hb1)); have k2 := hbk.cell 0; have k3 := hbk.frozen 0; obtain ⟨A2, c2, rfl⟩ := own_form ho2))
  go_end0
  have hl : (L ++ fixL k n).length = q + k := by rw [List.length_append, fixL_length, HQ.out]
  have hbb : Below gb w w2 := (hb1.mono (Nat.le_of_lt hlt)).grown hg2 (by have := hb1.size; omega) (fun j hj => ((own_kept HO.out hb1).lt j hj).1)
  refine ⟨rfl, ⟨A2, c2, ?_, ?_⟩, hbb.setCell (Nat.le_refl _) _⟩
  · rw [hl]
    exact hbk.set_ 0 _
  · rw [hl, cells_append]
    refine own_turns ho2 (Turns.set_ (F := fun j => j = gb) rfl 0 _) (fun j hj e => ?_)
    exact ne_row hbk ho2 (by rw [hj, e])
theorem seal_put {P D : List UInt8} {m r base : Nat} {s : Sd} (A : Option Addr) (c : Nat) (W w : World) (hr : r = 48 - m) (hB : s.body = P ++ D ++ List.replicate (48 - m) 0) (ho : W.ownsRow base 5 1 (.slice A 60 c) 60 (cells P ++ cells D ++ cells (List.replicate r 0))) (hb : Below w.heap.size w W) :
    Hid (Calls Tryz.prog 93 #[.slice A 60 c] W fun e w' => ∃ A c, e = .returned (.slice A 64 c) ∧ Hid (GivesBytes s.bytes w (.returned (.tuple #[.slice A 64 c, .int .i64 0])) w')) := by
  subst hr
  rw [← cells_append, ← cells_append, ← hB] at ho
  have hL : s.body.length = 60 := by have := ho.1; rw [cells_length] at this; omega
  have hrb : RB W W.heap.size A s.body := by
    refine Reads.of_own (base := base) (e := 5) (c := c) ?_
    rw [hL]; exact ho
  have h1 := seal_any s.body A c W.heap.size W hrb (by omega)
  rw [hL] at h1
  refine h1.mono fun e w' hh => ?_
  obtain ⟨A, c, he, ho, hb'⟩ := hh
  have e2 : (sealL s.body).length = 64 := by rw [sealL_length, hL]
  rw [e2] at he
  refine ⟨A, c, he, A, c, ?_, ?_, chain7 hb hb'⟩
  · show _ = Ending.returned (.tuple #[.slice A (sealL s.body).length c, _])
    rw [e2]
  · exact Joins.ownsRow_le ho hb.size
theorem sec_at (w : World) (k ep n l : Int) (A : Option Addr) (m c : Nat) (W : World) (hb : Below (w.alloc (.cells #[.int .i64 k, .int .i64 ep, .int .i64 n, .int .i64 l, .slice A m c] 49)).heap.size (w.alloc (.cells #[.int .i64 k, .int .i64 ep, .int .i64 n, .int .i64 l, .slice A m c] 49)) W) :
    W.cell? ⟨w.heap.size, 0, none⟩ = some (.int .i64 k) ∧ W.cell? ⟨w.heap.size, 1, none⟩ = some (.int .i64 ep) ∧ W.cell? ⟨w.heap.size, 2, none⟩ = some (.int .i64 n) ∧ W.cell? ⟨w.heap.size, 3, none⟩ = some (.int .i64 l) ∧ W.cell? ⟨w.heap.size, 4, none⟩ = some (.slice A m c) := by
  have h0 : Blk W w.heap.size 49 #[.int .i64 k, .int .i64 ep, .int .i64 n, .int .i64 l, .slice A m c] := Blk.below (Blk.new w _ _) hb (by simp)
  exact ⟨by rw [h0.cell]; rfl, by rw [h0.cell]; rfl, by rw [h0.cell]; rfl, by rw [h0.cell]; rfl, by rw [h0.cell]; rfl⟩
theorem sput_no (s : Sd) (A : Option Addr) (c : Nat) (w : World) (h : s.may = false) :
    Calls Tryz.prog 71 #[secV s A c] w fun e w' => e = .returned (.tuple #[.slice none 0 0, .int .i64 1]) ∧ Below w.heap.size w w' := by
  have HM : Hid (∀ W, Calls Tryz.prog 90 #[secV s A c] W fun e w' => e = .returned (.bool false) ∧ Below W.heap.size W w') := fun W => by rw [← h]; exact maybe_any s A c W
  have HB : Hid (Below w.heap.size w (w.alloc (.cells #[.int .i64 s.kind, .int .i64 s.epoch, .int .i64 s.number, .int .i64 s.left, .slice A s.data.length c] 49))) := (Below.refl _ _).alloc (Nat.le_refl _) _
  have a24 := fun w' => Tryz.aggSec w'
  have s24 := fun w' => Tryz.sizeSec w'
  unfold secV at HM ⊢
  clear h
  go_enter Tryz.func71, Tryz.ntmps71
  go_wp2_with (first
    | (go_at_call 90; (with_reducible refine (HM.out _).mono ?_); rintro e w1 ⟨rfl, hb1⟩))
  go_ret2
  exact ⟨rfl, chain7 HB.out hb1⟩
theorem sput_yes (s : Sd) (A : Option Addr) (c : Nat) (w : World) (h : s.may = true) (hr : RB w w.heap.size A s.data) :
    Calls Tryz.prog 71 #[secV s A c] w (GivesBytes s.bytes w) := by
  have HM : Hid (∀ W, Calls Tryz.prog 90 #[secV s A c] W fun e w' => e = .returned (.bool true) ∧ Below W.heap.size W w') := fun W => by rw [← h]; exact maybe_any s A c W
  obtain ⟨i0, hi0, hz0, hz1, hz2⟩ := info_parts Tryz.info5
  obtain ⟨h1, h2, h3, h4, h5, h6, h7, h8, h9⟩ := s.may_iff.1 h
  clear h
  obtain ⟨kz, ez, nz, lz, D⟩ := s
  simp only at h1 h2 h3 h4 h5 h6 h7 h8 h9 hr
  obtain ⟨k, rfl⟩ : ∃ k : Nat, kz = (k : Int) := ⟨kz.toNat, by omega⟩
  obtain ⟨ep, rfl⟩ : ∃ k : Nat, ez = (k : Int) := ⟨ez.toNat, by omega⟩
  obtain ⟨n, rfl⟩ : ∃ k : Nat, nz = (k : Int) := ⟨nz.toNat, by omega⟩
  obtain ⟨l, rfl⟩ : ∃ k : Nat, lz = (k : Int) := ⟨lz.toNat, by omega⟩
  obtain ⟨m, hm⟩ : ∃ m, m = D.length := ⟨_, rfl⟩
  obtain ⟨P1, hP1⟩ : ∃ X, X = fixL 1 k := ⟨_, rfl⟩
  obtain ⟨P2, hP2⟩ : ∃ X, X = P1 ++ fixL 1 m := ⟨_, rfl⟩
  obtain ⟨P3, hP3⟩ : ∃ X, X = P2 ++ fixL 2 l := ⟨_, rfl⟩
  obtain ⟨P4, hP4⟩ : ∃ X, X = P3 ++ fixL 4 ep := ⟨_, rfl⟩
  obtain ⟨P5, hP5⟩ : ∃ X, X = P4 ++ fixL 4 n := ⟨_, rfl⟩
  have l1 : P1.length = 1 := by rw [hP1, fixL_length]
  have l2 : P2.length = 2 := by rw [hP2, List.length_append, fixL_length, l1]
  have l3 : P3.length = 4 := by rw [hP3, List.length_append, fixL_length, l2]
  have l4 : P4.length = 8 := by rw [hP4, List.length_append, fixL_length, l3]
  have l5 : P5.length = 12 := by rw [hP5, List.length_append, fixL_length, l4]
  have HL5 := Lib.hid l5
  have hm48 : m ≤ 48 := by omega
  have HBd : Hid (Sd.body ⟨(k : Int), (ep : Int), (n : Int), (l : Int), D⟩ = P5 ++ D ++ List.replicate (48 - m) 0) := by
    show _ = _
    have e1 : fixL 1 k = [UInt8.ofNat k] := by
      show [UInt8.ofNat (k % 256)] = _
      rw [Nat.mod_eq_of_lt (by omega)]
    have e2 : fixL 1 m = [UInt8.ofNat m] := by
      show [UInt8.ofNat (m % 256)] = _
      rw [Nat.mod_eq_of_lt (by omega)]
    unfold Sd.body Sd.head
    simp only [Int.toNat_natCast, hP5, hP4, hP3, hP2, hP1, e1, e2, ← hm]
    simp
  have HC1 : Hid (∀ gb W, Hid (PutAt W gb []) → Calls Tryz.prog 91 #[.int .i64 (k : Int), .int .i64 1, .pointer (some ⟨gb, 0, none⟩)] W fun e w' => e = .returned (.tuple #[]) ∧ Hid (PutAt w' gb P1) ∧ Below gb W w') := fun gb W h => by
    have := put1_any gb [] (k : Int) k 1 W rfl (by omega) (by omega) (by omega) (by omega) (by simp) h.out
    rw [List.nil_append, ← hP1] at this
    exact this
  have HC2 : Hid (∀ gb W, Hid (PutAt W gb P1) → Calls Tryz.prog 91 #[.int .i64 (m : Int), .int .i64 1, .pointer (some ⟨gb, 0, none⟩)] W fun e w' => e = .returned (.tuple #[]) ∧ Hid (PutAt w' gb P2) ∧ Below gb W w') := fun gb W h => by
    have := put1_any gb P1 (m : Int) m 1 W rfl (by omega) (by omega) (by omega) (by omega) (by omega) h.out
    rw [← hP2] at this
    exact this
  have HC3 : Hid (∀ gb W, Hid (PutAt W gb P2) → Calls Tryz.prog 91 #[.int .i64 (l : Int), .int .i64 2, .pointer (some ⟨gb, 0, none⟩)] W fun e w' => e = .returned (.tuple #[]) ∧ Hid (PutAt w' gb P3) ∧ Below gb W w') := fun gb W h => by
    have := put1_any gb P2 (l : Int) l 2 W rfl (by omega) (by omega) (by omega) (by omega) (by omega) h.out
    rw [← hP3] at this
    exact this
  have HC4 : Hid (∀ gb W, Hid (PutAt W gb P3) → Calls Tryz.prog 91 #[.int .i64 (ep : Int), .int .i64 4, .pointer (some ⟨gb, 0, none⟩)] W fun e w' => e = .returned (.tuple #[]) ∧ Hid (PutAt w' gb P4) ∧ Below gb W w') := fun gb W h => by
    have := put1_any gb P3 (ep : Int) ep 4 W rfl (by omega) (by omega) (by omega) (by omega) (by omega) h.out
    rw [← hP4] at this
    exact this
  have HC5 : Hid (∀ gb W, Hid (PutAt W gb P4) → Calls Tryz.prog 91 #[.int .i64 (n : Int), .int .i64 4, .pointer (some ⟨gb, 0, none⟩)] W fun e w' => e = .returned (.tuple #[]) ∧ Hid (PutAt w' gb P5) ∧ Below gb W w') := fun gb W h => by
    have := put1_any gb P4 (n : Int) n 4 W rfl (by omega) (by omega) (by omega) (by omega) (by omega) h.out
    rw [← hP5] at this
    exact this
  have HR : Hid (∀ W, Below (w.alloc (.cells #[.int .i64 (k : Int), .int .i64 (ep : Int), .int .i64 (n : Int), .int .i64 (l : Int), .slice A m c] 49)).heap.size (w.alloc (.cells #[.int .i64 (k : Int), .int .i64 (ep : Int), .int .i64 (n : Int), .int .i64 (l : Int), .slice A m c] 49)) W → Hid (Reads W W.heap.size 1 A m (cells D))) := fun W hb => by
    have h2 := rb_up7 (rb_up7 hr ((Below.refl _ _).alloc (Nat.le_refl _) _)) hb
    unfold RB at h2
    rw [← hm] at h2
    exact h2
  have HS : Hid (∀ W, Below (w.alloc (.cells #[.int .i64 (k : Int), .int .i64 (ep : Int), .int .i64 (n : Int), .int .i64 (l : Int), .slice A m c] 49)).heap.size (w.alloc (.cells #[.int .i64 (k : Int), .int .i64 (ep : Int), .int .i64 (n : Int), .int .i64 (l : Int), .slice A m c] 49)) W → W.cell? ⟨w.heap.size, 0, none⟩ = some (.int .i64 (k : Int)) ∧ W.cell? ⟨w.heap.size, 1, none⟩ = some (.int .i64 (ep : Int)) ∧ W.cell? ⟨w.heap.size, 2, none⟩ = some (.int .i64 (n : Int)) ∧ W.cell? ⟨w.heap.size, 3, none⟩ = some (.int .i64 (l : Int)) ∧ W.cell? ⟨w.heap.size, 4, none⟩ = some (.slice A m c)) := fun W hb => sec_at w _ _ _ _ A m c W hb
  have HB : Hid (Below w.heap.size w (w.alloc (.cells #[.int .i64 (k : Int), .int .i64 (ep : Int), .int .i64 (n : Int), .int .i64 (l : Int), .slice A m c] 49))) := (Below.refl _ _).alloc (Nat.le_refl _) _
  obtain ⟨t7, ht7⟩ : ∃ t, t = 12 + m := ⟨_, rfl⟩
  obtain ⟨r, hrr⟩ : ∃ t, t = 48 - m := ⟨_, rfl⟩
  have y0 : IntKind.i64.wrap (48 - (m : Int)) = (r : Int) := by rw [IntWalk.i64_in _ (by omega)]; omega
  have HT : Hid (12 + m = t7 ∧ t7 + r = 60 ∧ r = 48 - m) := ⟨by omega, by omega, by omega⟩
  have a24 := fun w' => Tryz.aggSec w'
  have s24 := fun w' => Tryz.sizeSec w'
  have hmf : ∀ (fn : Fn) (first cap : Array Value) (w : World), (Instr.makeFunc fn first cap).run Tryz.prog w = .ok (.func fn first cap) w := fun _ _ _ _ => rfl
  unfold secV at HM ⊢
  simp only at HM ⊢
  rw [← hm] at HM ⊢
  clear hP1 hP2 hP3 hP4 hP5 l1 l2 l3 l4 l5 hr ht7 hrr hm h1 h2 h3 h4 h5 h6 h7 h8 h9
  go_enter Tryz.func71, Tryz.ntmps71
  go_wp2_with (first
    | (go_at_call 90; (with_reducible refine (HM.out _).mono ?_); rintro e w1 ⟨rfl, b1⟩; have b1a := b1.alloc b1.size (.cells #[.slice none 0 0] 39); have p0 := Lib.hid (put_new w1); obtain ⟨q0, q1, q2, q3, q4⟩ := HS.out _ b1a)
    | (go_at_call 91; (with_reducible refine (HC1.out _ _ p0).mono ?_); rintro e w2 ⟨rfl, p1, hb2⟩; have b2 := b1a.trans (hb2.mono b1.size); obtain ⟨q0, q1, q2, q3, q4⟩ := HS.out _ b2)
    | (go_at_call 91; (with_reducible refine (HC2.out _ _ p1).mono ?_); rintro e w3 ⟨rfl, p2, hb3⟩; have b3 := b2.trans (hb3.mono b1.size); obtain ⟨q0, q1, q2, q3, q4⟩ := HS.out _ b3)
    | (go_at_call 91; (with_reducible refine (HC3.out _ _ p2).mono ?_); rintro e w4 ⟨rfl, p3, hb4⟩; have b4 := b3.trans (hb4.mono b1.size); obtain ⟨q0, q1, q2, q3, q4⟩ := HS.out _ b4)
    | (go_at_call 91; (with_reducible refine (HC4.out _ _ p3).mono ?_); rintro e w5 ⟨rfl, p4, hb5⟩; have b5 := b4.trans (hb5.mono b1.size); obtain ⟨q0, q1, q2, q3, q4⟩ := HS.out _ b5)
    | (go_at_call 91; (with_reducible refine (HC5.out _ _ p4).mono ?_); rintro e w6 ⟨rfl, p5, hb6⟩; have b6 := b5.trans (hb6.mono b1.size); obtain ⟨q0, q1, q2, q3, q4⟩ := HS.out _ b6; obtain ⟨A6, c6, hblk, hown⟩ := p5.out; rw [HL5.out] at hblk hown; have k0 := hblk.cell 0; have k1 := hblk.frozen 0; have r6 := HR.out _ b6; have z6 := Nat.le_of_lt (Blk.lt hblk))
    | (at_builtin; refine wpList_append_any _ rfl (.tmp 31) (.tmp 33) 39 rfl w1.heap.size 5 i0 _ 1 1 Tryz.underlying39 hi0 hz0 hz1 hz2 rfl (by omega) (.slice A6 12 c6) 12 (cells P5) rfl hown w6.heap.size A m c (cells D) rfl r6.out (cells_one _) (by simp only [maxLen]; omega) (by omega) z6 ?_; intro v7 w7 ho7 hg7 hat7; rw [HT.out.1] at ho7; obtain ⟨A7, c7, rfl⟩ := own_form ho7; have hbk7 := hblk.grown hg7 (ne_row hblk hown); have k2 := hbk7.cell 0; have k3 := hbk7.frozen 0; have b7 := b6.grown hg7 (by have := b6.size; omega) (fun j hj => Nat.le_trans b1.size (hown.lt j hj).1); have b7s := b7.setCell (p := ⟨w1.heap.size, 0, none⟩) b1.size (.slice A7 t7 c7); obtain ⟨q0, q1, q2, q3, q4⟩ := HS.out _ b7s; have hbk7s := hbk7.set_ 0 (.slice A7 t7 c7); have k4 := hbk7s.cell 0; have k5 := hbk7s.frozen 0; have ho7s := own_turns ho7 (Turns.set_ (F := fun j => j = w1.heap.size) rfl 0 (.slice A7 t7 c7)) (fun j hj e => ne_row hbk7 ho7 (by rw [hj, e])); have z7 := Nat.le_of_lt (Blk.lt hbk7s))
    | (at_builtin; refine wpList_append_make _ rfl (.tmp 35) (.tmp 39) 39 3 rfl w1.heap.size 5 i0 _ 1 1 .i64 Tryz.underlying39 Tryz.underlying3 hi0 hz0 hz1 hz2 rfl (by omega) (.slice A7 t7 c7) t7 (cells P5 ++ cells D) rfl ho7s r rfl (cells (List.replicate r 0)) (zero_bytes r) (cells_one _) (by have := HT.out; simp only [maxLen]; omega) (by have := HT.out; omega) z7 ?_; intro v8 w8 ho8 hg8 hat8; rw [HT.out.2.1] at ho8; obtain ⟨A8, c8, rfl⟩ := own_form ho8; have hbk8 := hbk7s.grown hg8 (ne_row hbk7s ho7s); have k6 := hbk8.cell 0; have k7 := hbk8.frozen 0; have b8 := b7s.grown hg8 (by have := b7s.size; omega) (fun j hj => Nat.le_trans b1.size (ho7s.lt j hj).1); have b8s := b8.setCell (p := ⟨w1.heap.size, 0, none⟩) b1.size (.slice A8 60 c8); have ho8s := own_turns ho8 (Turns.set_ (F := fun j => j = w1.heap.size) rfl 0 (.slice A8 60 c8)) (fun j hj e => ne_row hbk8 ho8 (by rw [hj, e])); have HSe := seal_put A8 c8 _ w HT.out.2.2 HBd.out ho8s (HB.out.trans (b8s.mono HB.out.size)))
    | (go_at_call 93; (with_reducible refine HSe.out.mono ?_); rintro e w9 ⟨A0, c0, rfl, hG⟩))
  go_ret2
  exact hG.out
theorem sput_any (s : Sd) (A : Option Addr) (c : Nat) (w : World) (hr : RB w w.heap.size A s.data) (hl : s.data.length ≤ 1000000) :
    Calls Tryz.prog 71 #[secV s A c] w fun e w' => (s.may = true → GivesBytes s.bytes w e w') ∧ (s.may = false → e = .returned (.tuple #[.slice none 0 0, .int .i64 1]) ∧ Below w.heap.size w w') := by
  cases hv : s.may with
  | true => exact (sput_yes s A c w hv hr).mono fun e w' h => ⟨fun _ => h, fun h' => absurd h' (by decide)⟩
  | false => exact (sput_no s A c w hv).mono fun e w' h => ⟨fun h' => absurd h' (by decide), fun _ => h⟩
end
section
open Go.RowKit
theorem rsame_yes (s : Sd) (A A' : Option Addr) (c c' : Nat) (w : World) (h1 : RB w w.heap.size A s.data) (h2 : RB w w.heap.size A' s.data) :
    Calls Tryz.prog 116 #[secV s A c, secV s A' c'] w fun e w' => e = .returned (.bool true) ∧ Below w.heap.size w w' := by
  obtain ⟨k, ep, n, l, D⟩ := s
  simp only at h1 h2
  obtain ⟨m, hm⟩ : ∃ m, m = D.length := ⟨_, rfl⟩
  unfold secV
  simp only
  rw [← hm]
  have hb : Below w.heap.size w ((w.alloc (.cells #[.int .i64 k, .int .i64 ep, .int .i64 n, .int .i64 l, .slice A m c] 49)).alloc (.cells #[.int .i64 k, .int .i64 ep, .int .i64 n, .int .i64 l, .slice A' m c'] 49)) := ((Below.refl _ _).alloc (Nat.le_refl _) _).alloc (by simp) _
  have s1 := aw_str (rb_up7 h1 hb) m c hm
  have s2 := aw_str (rb_up7 h2 hb) m c' hm
  have HB := Lib.hid hb
  clear h1 h2 hm hb
  go_enter Tryz.func116, Tryz.ntmps116
  go_wp2
  go_ret
  exact ⟨rfl, HB.out⟩
theorem rneed_any (n : Nat) (hn : n ≤ 1000000000) (w : World) : Calls Tryz.prog 60 #[.int .i64 (n : Int)] w fun e w' => e = .returned (.int .i64 (needN n : Int)) ∧ w = w' := by
  by_cases h : n = 0
  · subst h
    have d0 : decide (((0 : Nat) : Int) ≤ 0) = true := by decide
    go_enter Tryz.func60, Tryz.ntmps60
    go_wp2
    go_ret
    exact ⟨rfl, rfl⟩
  · have d0 : decide ((n : Int) ≤ 0) = false := decide_eq_false (by omega)
    have d1 : decide (n = 0) = false := decide_eq_false h
    have d2 : decide (n ≤ 0) = false := decide_eq_false (by omega)
    have u0 : (0 : Int) ≤ (n : Int) - 1 := by omega
    have e1 : IntKind.i64.wrap ((n : Int) - 1) = (n : Int) - 1 := IntWalk.i64_in _ (by omega)
    have e2 : ((n : Int) - 1).tdiv 48 = ((n : Int) - 1) / 48 := Int.tdiv_eq_ediv_of_nonneg u0
    have e4 : ((n : Int) - 1) / 48 + 1 = (needN n : Int) := by unfold needN; omega
    have e3 : IntKind.i64.wrap (((n : Int) - 1) / 48 + 1) = (needN n : Int) := by rw [IntWalk.i64_in _ (by omega), e4]
    have HE := Lib.hid e4
    clear e4
    go_enter Tryz.func60, Tryz.ntmps60
    go_wp2
    go_ret
    exact ⟨by first | rfl | rw [← HE.out], rfl⟩
end
section
open Go.RowKit
theorem rput_no (s : Sd) (A : Option Addr) (c : Nat) (w : World) (h : s.may = false) :
    Calls Tryz.prog 12 #[secV s A c] w fun e w' => e = .returned (.tuple #[.slice none 0 0, .int .i64 1]) ∧ Below w.heap.size w w' := by
  have HM : Hid (∀ W, Calls Tryz.prog 36 #[secV s A c] W fun e w' => e = .returned (.bool false) ∧ Below W.heap.size W w') := fun W => by rw [← h]; exact rmay_any s A c W
  have HB : Hid (Below w.heap.size w (w.alloc (.cells #[.int .i64 s.kind, .int .i64 s.epoch, .int .i64 s.number, .int .i64 s.left, .slice A s.data.length c] 49))) := (Below.refl _ _).alloc (Nat.le_refl _) _
  have a24 := fun w' => Tryz.aggSec w'
  have s24 := fun w' => Tryz.sizeSec w'
  unfold secV at HM ⊢
  clear h
  go_enter Tryz.func12, Tryz.ntmps12
  go_wp2_with (first
    | (go_at_call 36; (with_reducible refine (HM.out _).mono ?_); rintro e w1 ⟨rfl, hb1⟩))
  go_ret2
  exact ⟨rfl, chain7 HB.out hb1⟩
theorem rput_yes (s : Sd) (A : Option Addr) (c : Nat) (w : World) (h : s.may = true) (hr : RB w w.heap.size A s.data) :
    Calls Tryz.prog 12 #[secV s A c] w (GivesBytes s.bytes w) := by
  have HM : Hid (∀ W, Calls Tryz.prog 36 #[secV s A c] W fun e w' => e = .returned (.bool true) ∧ Below W.heap.size W w') := fun W => by rw [← h]; exact rmay_any s A c W
  obtain ⟨i0, hi0, hz0, hz1, hz2⟩ := info_parts Tryz.info5
  obtain ⟨h1, h2, h3, h4, h5, h6, h7, h8, h9⟩ := s.may_iff.1 h
  clear h
  obtain ⟨kz, ez, nz, lz, D⟩ := s
  simp only at h1 h2 h3 h4 h5 h6 h7 h8 h9 hr
  obtain ⟨k, rfl⟩ : ∃ k : Nat, kz = (k : Int) := ⟨kz.toNat, by omega⟩
  obtain ⟨ep, rfl⟩ : ∃ k : Nat, ez = (k : Int) := ⟨ez.toNat, by omega⟩
  obtain ⟨n, rfl⟩ : ∃ k : Nat, nz = (k : Int) := ⟨nz.toNat, by omega⟩
  obtain ⟨l, rfl⟩ : ∃ k : Nat, lz = (k : Int) := ⟨lz.toNat, by omega⟩
  obtain ⟨m, hm⟩ : ∃ m, m = D.length := ⟨_, rfl⟩
  obtain ⟨X, hX⟩ : ∃ X, X = fixL 2 l := ⟨_, rfl⟩
  obtain ⟨Y, hY⟩ : ∃ X, X = fixL 4 ep := ⟨_, rfl⟩
  obtain ⟨Z, hZ⟩ : ∃ X, X = fixL 4 n := ⟨_, rfl⟩
  have lX : X.length = 2 := by rw [hX, fixL_length]
  have lY : Y.length = 4 := by rw [hY, fixL_length]
  have lZ : Z.length = 4 := by rw [hZ, fixL_length]
  have hm48 : m ≤ 48 := by omega
  have HBd : Hid (Sd.body ⟨(k : Int), (ep : Int), (n : Int), (l : Int), D⟩ = [UInt8.ofNat k, UInt8.ofNat m] ++ X ++ Y ++ Z ++ D ++ List.replicate (48 - m) 0) := by
    show _ = _
    unfold Sd.body Sd.head
    simp only [Int.toNat_natCast, hX, hY, hZ, hm]
    simp
  have HF1 : Hid (∀ W, Calls Tryz.prog 37 #[.int .i64 (l : Int), .int .i64 2] W fun e w' => ∃ A c, e = .returned (.tuple #[.slice A 2 c, .int .i64 0]) ∧ Hid (RB w' w'.heap.size A X) ∧ Below W.heap.size W w') := fun W =>
    (refFix_any l 2 W (by omega) (by omega) (by omega)).mono fun e w' hh => by
      obtain ⟨A2, c2, he, ho, hb⟩ := hh.1 (by omega)
      rw [← hX, lX] at he
      rw [← hX] at ho
      exact ⟨A2, c2, he, own_rb ho, hb⟩
  have HF2 : Hid (∀ W, Calls Tryz.prog 37 #[.int .i64 (ep : Int), .int .i64 4] W fun e w' => ∃ A c, e = .returned (.tuple #[.slice A 4 c, .int .i64 0]) ∧ Hid (RB w' w'.heap.size A Y) ∧ Below W.heap.size W w') := fun W =>
    (refFix_any ep 4 W (by omega) (by omega) (by omega)).mono fun e w' hh => by
      obtain ⟨A2, c2, he, ho, hb⟩ := hh.1 (by omega)
      rw [← hY, lY] at he
      rw [← hY] at ho
      exact ⟨A2, c2, he, own_rb ho, hb⟩
  have HF3 : Hid (∀ W, Calls Tryz.prog 37 #[.int .i64 (n : Int), .int .i64 4] W fun e w' => ∃ A c, e = .returned (.tuple #[.slice A 4 c, .int .i64 0]) ∧ Hid (RB w' w'.heap.size A Z) ∧ Below W.heap.size W w') := fun W =>
    (refFix_any n 4 W (by omega) (by omega) (by omega)).mono fun e w' hh => by
      obtain ⟨A2, c2, he, ho, hb⟩ := hh.1 (by omega)
      rw [← hZ, lZ] at he
      rw [← hZ] at ho
      exact ⟨A2, c2, he, own_rb ho, hb⟩
  have HB : Hid (Below w.heap.size w (w.alloc (.cells #[.int .i64 (k : Int), .int .i64 (ep : Int), .int .i64 (n : Int), .int .i64 (l : Int), .slice A m c] 49))) := (Below.refl _ _).alloc (Nat.le_refl _) _
  have HC : Hid (∀ W, Below (w.alloc (.cells #[.int .i64 (k : Int), .int .i64 (ep : Int), .int .i64 (n : Int), .int .i64 (l : Int), .slice A m c] 49)).heap.size (w.alloc (.cells #[.int .i64 (k : Int), .int .i64 (ep : Int), .int .i64 (n : Int), .int .i64 (l : Int), .slice A m c] 49)) W → W.cell? ⟨w.heap.size, 0, none⟩ = some (.int .i64 (k : Int)) ∧ W.cell? ⟨w.heap.size, 1, none⟩ = some (.int .i64 (ep : Int)) ∧ W.cell? ⟨w.heap.size, 2, none⟩ = some (.int .i64 (n : Int)) ∧ W.cell? ⟨w.heap.size, 3, none⟩ = some (.int .i64 (l : Int)) ∧ W.cell? ⟨w.heap.size, 4, none⟩ = some (.slice A m c)) := fun W hb => by
    have h0 : SecAt (w.alloc (.cells #[.int .i64 (k : Int), .int .i64 (ep : Int), .int .i64 (n : Int), .int .i64 (l : Int), .slice A m c] 49)) w.heap.size ⟨(k : Int), (ep : Int), (n : Int), (l : Int), D⟩ A c := by rw [hm]; exact Blk.new w _ _
    have h1 := (h0.below hb).all
    simp only at h1
    rw [← hm] at h1
    exact h1
  have a24 := fun w' => Tryz.aggSec w'
  have s24 := fun w' => Tryz.sizeSec w'
  have HD := Lib.hid hr
  have Hm := Lib.hid hm
  have HL : Hid (X.length = 2 ∧ Y.length = 4 ∧ Z.length = 4) := ⟨lX, lY, lZ⟩
  have hk256 : k < 256 := by omega
  unfold secV at HM ⊢
  simp only at HM ⊢
  rw [← hm] at HM ⊢
  clear hm hr hX hY hZ lX lY lZ h1 h2 h3 h4 h5 h6 h7 h8 h9
  go_enter Tryz.func12, Tryz.ntmps12
  go_wp2_with (first
    | (go_at_call 36; (with_reducible refine (HM.out _).mono ?_); rintro e w1 ⟨rfl, hb1⟩; obtain ⟨p0, p1, p2, p3, p4⟩ := HC.out _ hb1)
    | (go_at_call 37; (with_reducible refine (HF1.out _).mono ?_); rintro e w2 ⟨A2, c2, rfl, r2, hb2⟩; have hb2 := chain7 hb1 hb2; clear p0 p1 p2 p3 p4; obtain ⟨p0, p1, p2, p3, p4⟩ := HC.out _ hb2)
    | (go_at_call 37; (with_reducible refine (HF2.out _).mono ?_); rintro e w3 ⟨A3, c3, rfl, r3, kb3⟩; have hb3 := chain7 hb2 kb3; clear p0 p1 p2 p3 p4; obtain ⟨p0, p1, p2, p3, p4⟩ := HC.out _ hb3)
    | (go_at_call 37; (with_reducible refine (HF3.out _).mono ?_); rintro e w4 ⟨A4, c4, rfl, r4, kb4⟩; have hb4 := chain7 hb3 kb4; clear p0 p1 p2 p3 p4; obtain ⟨p0, p1, p2, p3, p4⟩ := HC.out _ hb4))
  have hsz : w.heap.size ≤ w4.heap.size := Nat.le_trans HB.out.size hb4.size
  have hO := byte2_new k m hk256 (by omega) w4.heap.size w4 (Nat.le_refl _)
  have hbB : Below w.heap.size w (w4.alloc (.cells #[.int .u8 (k : Int), .int .u8 (m : Int)] 5)) := (chain7 HB.out hb4).alloc hsz _
  have hA4 : Below w4.heap.size w4 (w4.alloc (.cells #[.int .u8 (k : Int), .int .u8 (m : Int)] 5)) := (Below.refl _ _).alloc (Nat.le_refl _) _
  have q2 := (rb_up7 (rb_up7 r2.out kb3) kb4).below hA4
  have q3 := (rb_up7 r3.out kb4).below hA4
  have q4 := r4.out.below hA4
  have q5 := (rb_up7 HD.out (chain7 HB.out hb4)).below hA4
  have hlt : w.heap.size < w4.heap.size := Nat.lt_of_lt_of_le (by simp) hb4.size
  have hsB := hA4.size
  obtain ⟨-, -, -, -, p5⟩ := HC.out _ (chain7 hb4 hA4)
  generalize (w4.alloc (.cells #[.int .u8 (k : Int), .int .u8 (m : Int)] 5)) = WB at hO hbB q2 q3 q4 q5 p5 hsB ⊢
  generalize w4.heap.size = g4 at hO q2 q3 q4 q5 hlt hsB ⊢
  clear p0 p1 p2 p3 p4 hb1 hb2 hb3 hb4 kb3 kb4 hA4 r2 r3 r4 hsz HM HF1 HF2 HF3 HC a24 s24
  have HQ : Hid (∀ W, Below g4 WB W → Reads W g4 1 A2 2 (cells X) ∧ Reads W g4 1 A3 4 (cells Y) ∧ Reads W g4 1 A4 4 (cells Z) ∧ Reads W g4 1 A m (cells D)) := fun W hb => by
    obtain ⟨l1, l2, l3⟩ := HL.out
    have z2 := q2.below hb
    have z3 := q3.below hb
    have z4 := q4.below hb
    have z5 := q5.below hb
    unfold RB at z2 z3 z4 z5
    rw [l1] at z2
    rw [l2] at z3
    rw [l3] at z4
    rw [← Hm.out] at z5
    exact ⟨z2, z3, z4, z5⟩
  have HP : Hid (∀ W, Below g4 WB W → W.cell? ⟨w.heap.size, 4, none⟩ = some (.slice A m c)) := fun W hb => (hb.cell (p := ⟨w.heap.size, 4, none⟩) hlt).trans p5
  clear q2 q3 q4 q5
  have b0 : Below g4 WB WB.drew := (Below.refl _ _).drew
  have hO0 := hO.drew
  have s0 := HP.out _ b0
  have hz0' : g4 ≤ WB.drew.heap.size := hsB
  clear hO p5
  obtain ⟨t8, ht8⟩ : ∃ t8, t8 = 12 + m := ⟨_, rfl⟩
  have Ht8 : Hid (t8 = 12 + m) := ht8
  have ht60 : t8 ≤ 60 := by omega
  refine region_T (fun W => W.cell? ⟨w.heap.size, 4, none⟩ = some (.slice A m c)) (fun j => decide (10 ≤ j)) (by kernel_rfl) ?_
  generalize WB.drew = W at b0 hO0 s0 hz0' ⊢
  refine any_asT (a' := ⟨#[.agg #[.int .i64 (k : Int), .int .i64 (ep : Int), .int .i64 (n : Int), .int .i64 (l : Int), .slice A m c], .pointer (some ⟨w.heap.size, 0, none⟩), .slice none 0 0, .int .i64 0, .slice A2 2 c2, .int .i64 0, .slice A3 4 c3, .int .i64 0, .slice A4 4 c4, .int .i64 0, .slice (some ⟨g4, 0, none⟩) 2 2, .agg #[.int .i64 (k : Int), .int .i64 (ep : Int), .int .i64 (n : Int), .int .i64 (l : Int), .slice A m c], .bool true, .bool false, .tuple #[.slice A2 2 c2, .int .i64 0], .pointer (some ⟨w.heap.size, 3, none⟩), .int .i64 (l : Int), .tuple #[.slice A2 2 c2, .int .i64 0], .slice A2 2 c2, .int .i64 0, .tuple #[.slice A3 4 c3, .int .i64 0], .pointer (some ⟨w.heap.size, 1, none⟩), .int .i64 (ep : Int), .tuple #[.slice A3 4 c3, .int .i64 0], .slice A3 4 c3, .int .i64 0, .tuple #[.slice A4 4 c4, .int .i64 0], .pointer (some ⟨w.heap.size, 2, none⟩), .int .i64 (n : Int), .tuple #[.slice A4 4 c4, .int .i64 0], .slice A4 4 c4, .int .i64 0, .pointer (some ⟨w.heap.size, 0, none⟩), .int .i64 (k : Int), .int .u8 (k : Int), .pointer (some ⟨w.heap.size, 4, none⟩), .slice A m c, .int .i64 (m : Int), .int .u8 (m : Int), .slice (some ⟨g4, 0, none⟩) 2 2, undef, undef, undef, undef, undef, undef, undef, undef, undef, undef, undef, undef, undef, undef, undef, undef, undef, undef], []⟩) (by kernel_rfl) (listed' := #[false, false, false, false, false, false, false, false, false, false, false]) (by kernel_rfl) ?_
  refine any_take (i := 0) (.slice (some ⟨g4, 0, none⟩) 2 2) rfl (by kernel_rfl) (by kernel_rfl) (by kernel_rfl) rfl (by kernel_rfl) (by kernel_rfl) (fun W hW => by kernel_rfl) s0 (listed' := #[true, false, false, false, false, false, false, false, false, false, false]) (a' := ⟨#[.agg #[.int .i64 (k : Int), .int .i64 (ep : Int), .int .i64 (n : Int), .int .i64 (l : Int), .slice A m c], .pointer (some ⟨w.heap.size, 0, none⟩), .slice none 0 0, .int .i64 0, .slice A2 2 c2, .int .i64 0, .slice A3 4 c3, .int .i64 0, .slice A4 4 c4, .int .i64 0, .slice (some ⟨g4, 0, none⟩) 2 2, .agg #[.int .i64 (k : Int), .int .i64 (ep : Int), .int .i64 (n : Int), .int .i64 (l : Int), .slice A m c], .bool true, .bool false, .tuple #[.slice A2 2 c2, .int .i64 0], .pointer (some ⟨w.heap.size, 3, none⟩), .int .i64 (l : Int), .tuple #[.slice A2 2 c2, .int .i64 0], .slice A2 2 c2, .int .i64 0, .tuple #[.slice A3 4 c3, .int .i64 0], .pointer (some ⟨w.heap.size, 1, none⟩), .int .i64 (ep : Int), .tuple #[.slice A3 4 c3, .int .i64 0], .slice A3 4 c3, .int .i64 0, .tuple #[.slice A4 4 c4, .int .i64 0], .pointer (some ⟨w.heap.size, 2, none⟩), .int .i64 (n : Int), .tuple #[.slice A4 4 c4, .int .i64 0], .slice A4 4 c4, .int .i64 0, .pointer (some ⟨w.heap.size, 0, none⟩), .int .i64 (k : Int), .int .u8 (k : Int), .pointer (some ⟨w.heap.size, 4, none⟩), .slice A m c, .int .i64 (m : Int), .int .u8 (m : Int), .slice (some ⟨g4, 0, none⟩) 2 2, .slice (some ⟨g4, 0, none⟩) 2 2, undef, undef, undef, undef, undef, undef, undef, undef, undef, undef, undef, undef, undef, undef, undef, undef, undef], []⟩) (by kernel_rfl) (by kernel_rfl) (fun _ _ _ h => h) ?_
  refine any_take (i := 1) (.slice A2 2 c2) rfl (by kernel_rfl) (by kernel_rfl) (by kernel_rfl) rfl (by kernel_rfl) (by kernel_rfl) (fun W hW => by kernel_rfl) s0 (listed' := #[true, true, false, false, false, false, false, false, false, false, false]) (a' := ⟨#[.agg #[.int .i64 (k : Int), .int .i64 (ep : Int), .int .i64 (n : Int), .int .i64 (l : Int), .slice A m c], .pointer (some ⟨w.heap.size, 0, none⟩), .slice none 0 0, .int .i64 0, .slice A2 2 c2, .int .i64 0, .slice A3 4 c3, .int .i64 0, .slice A4 4 c4, .int .i64 0, .slice (some ⟨g4, 0, none⟩) 2 2, .agg #[.int .i64 (k : Int), .int .i64 (ep : Int), .int .i64 (n : Int), .int .i64 (l : Int), .slice A m c], .bool true, .bool false, .tuple #[.slice A2 2 c2, .int .i64 0], .pointer (some ⟨w.heap.size, 3, none⟩), .int .i64 (l : Int), .tuple #[.slice A2 2 c2, .int .i64 0], .slice A2 2 c2, .int .i64 0, .tuple #[.slice A3 4 c3, .int .i64 0], .pointer (some ⟨w.heap.size, 1, none⟩), .int .i64 (ep : Int), .tuple #[.slice A3 4 c3, .int .i64 0], .slice A3 4 c3, .int .i64 0, .tuple #[.slice A4 4 c4, .int .i64 0], .pointer (some ⟨w.heap.size, 2, none⟩), .int .i64 (n : Int), .tuple #[.slice A4 4 c4, .int .i64 0], .slice A4 4 c4, .int .i64 0, .pointer (some ⟨w.heap.size, 0, none⟩), .int .i64 (k : Int), .int .u8 (k : Int), .pointer (some ⟨w.heap.size, 4, none⟩), .slice A m c, .int .i64 (m : Int), .int .u8 (m : Int), .slice (some ⟨g4, 0, none⟩) 2 2, .slice (some ⟨g4, 0, none⟩) 2 2, .slice A2 2 c2, undef, undef, undef, undef, undef, undef, undef, undef, undef, undef, undef, undef, undef, undef, undef, undef], []⟩) (by kernel_rfl) (by kernel_rfl) (fun _ _ _ h => h) ?_
  refine any_take (i := 3) (.slice A3 4 c3) rfl (by kernel_rfl) (by kernel_rfl) (by kernel_rfl) rfl (by kernel_rfl) (by kernel_rfl) (fun W hW => by kernel_rfl) s0 (listed' := #[true, true, false, true, false, false, false, false, false, false, false]) (a' := ⟨#[.agg #[.int .i64 (k : Int), .int .i64 (ep : Int), .int .i64 (n : Int), .int .i64 (l : Int), .slice A m c], .pointer (some ⟨w.heap.size, 0, none⟩), .slice none 0 0, .int .i64 0, .slice A2 2 c2, .int .i64 0, .slice A3 4 c3, .int .i64 0, .slice A4 4 c4, .int .i64 0, .slice (some ⟨g4, 0, none⟩) 2 2, .agg #[.int .i64 (k : Int), .int .i64 (ep : Int), .int .i64 (n : Int), .int .i64 (l : Int), .slice A m c], .bool true, .bool false, .tuple #[.slice A2 2 c2, .int .i64 0], .pointer (some ⟨w.heap.size, 3, none⟩), .int .i64 (l : Int), .tuple #[.slice A2 2 c2, .int .i64 0], .slice A2 2 c2, .int .i64 0, .tuple #[.slice A3 4 c3, .int .i64 0], .pointer (some ⟨w.heap.size, 1, none⟩), .int .i64 (ep : Int), .tuple #[.slice A3 4 c3, .int .i64 0], .slice A3 4 c3, .int .i64 0, .tuple #[.slice A4 4 c4, .int .i64 0], .pointer (some ⟨w.heap.size, 2, none⟩), .int .i64 (n : Int), .tuple #[.slice A4 4 c4, .int .i64 0], .slice A4 4 c4, .int .i64 0, .pointer (some ⟨w.heap.size, 0, none⟩), .int .i64 (k : Int), .int .u8 (k : Int), .pointer (some ⟨w.heap.size, 4, none⟩), .slice A m c, .int .i64 (m : Int), .int .u8 (m : Int), .slice (some ⟨g4, 0, none⟩) 2 2, .slice (some ⟨g4, 0, none⟩) 2 2, .slice A2 2 c2, undef, .slice A3 4 c3, undef, undef, undef, undef, undef, undef, undef, undef, undef, undef, undef, undef, undef, undef], []⟩) (by kernel_rfl) (by kernel_rfl) (fun _ _ _ h => h) ?_
  refine any_take (i := 5) (.slice A4 4 c4) rfl (by kernel_rfl) (by kernel_rfl) (by kernel_rfl) rfl (by kernel_rfl) (by kernel_rfl) (fun W hW => by kernel_rfl) s0 (listed' := #[true, true, false, true, false, true, false, false, false, false, false]) (a' := ⟨#[.agg #[.int .i64 (k : Int), .int .i64 (ep : Int), .int .i64 (n : Int), .int .i64 (l : Int), .slice A m c], .pointer (some ⟨w.heap.size, 0, none⟩), .slice none 0 0, .int .i64 0, .slice A2 2 c2, .int .i64 0, .slice A3 4 c3, .int .i64 0, .slice A4 4 c4, .int .i64 0, .slice (some ⟨g4, 0, none⟩) 2 2, .agg #[.int .i64 (k : Int), .int .i64 (ep : Int), .int .i64 (n : Int), .int .i64 (l : Int), .slice A m c], .bool true, .bool false, .tuple #[.slice A2 2 c2, .int .i64 0], .pointer (some ⟨w.heap.size, 3, none⟩), .int .i64 (l : Int), .tuple #[.slice A2 2 c2, .int .i64 0], .slice A2 2 c2, .int .i64 0, .tuple #[.slice A3 4 c3, .int .i64 0], .pointer (some ⟨w.heap.size, 1, none⟩), .int .i64 (ep : Int), .tuple #[.slice A3 4 c3, .int .i64 0], .slice A3 4 c3, .int .i64 0, .tuple #[.slice A4 4 c4, .int .i64 0], .pointer (some ⟨w.heap.size, 2, none⟩), .int .i64 (n : Int), .tuple #[.slice A4 4 c4, .int .i64 0], .slice A4 4 c4, .int .i64 0, .pointer (some ⟨w.heap.size, 0, none⟩), .int .i64 (k : Int), .int .u8 (k : Int), .pointer (some ⟨w.heap.size, 4, none⟩), .slice A m c, .int .i64 (m : Int), .int .u8 (m : Int), .slice (some ⟨g4, 0, none⟩) 2 2, .slice (some ⟨g4, 0, none⟩) 2 2, .slice A2 2 c2, undef, .slice A3 4 c3, undef, .slice A4 4 c4, undef, undef, undef, undef, undef, undef, undef, undef, undef, undef, undef, undef], []⟩) (by kernel_rfl) (by kernel_rfl) (fun _ _ _ h => h) ?_
  refine any_take (i := 7) (.pointer (some ⟨w.heap.size, 4, none⟩)) rfl (by kernel_rfl) (by kernel_rfl) (by kernel_rfl) rfl (by kernel_rfl) (by kernel_rfl) (fun W hW => by kernel_rfl) s0 (listed' := #[true, true, false, true, false, true, false, true, false, false, false]) (a' := ⟨#[.agg #[.int .i64 (k : Int), .int .i64 (ep : Int), .int .i64 (n : Int), .int .i64 (l : Int), .slice A m c], .pointer (some ⟨w.heap.size, 0, none⟩), .slice none 0 0, .int .i64 0, .slice A2 2 c2, .int .i64 0, .slice A3 4 c3, .int .i64 0, .slice A4 4 c4, .int .i64 0, .slice (some ⟨g4, 0, none⟩) 2 2, .agg #[.int .i64 (k : Int), .int .i64 (ep : Int), .int .i64 (n : Int), .int .i64 (l : Int), .slice A m c], .bool true, .bool false, .tuple #[.slice A2 2 c2, .int .i64 0], .pointer (some ⟨w.heap.size, 3, none⟩), .int .i64 (l : Int), .tuple #[.slice A2 2 c2, .int .i64 0], .slice A2 2 c2, .int .i64 0, .tuple #[.slice A3 4 c3, .int .i64 0], .pointer (some ⟨w.heap.size, 1, none⟩), .int .i64 (ep : Int), .tuple #[.slice A3 4 c3, .int .i64 0], .slice A3 4 c3, .int .i64 0, .tuple #[.slice A4 4 c4, .int .i64 0], .pointer (some ⟨w.heap.size, 2, none⟩), .int .i64 (n : Int), .tuple #[.slice A4 4 c4, .int .i64 0], .slice A4 4 c4, .int .i64 0, .pointer (some ⟨w.heap.size, 0, none⟩), .int .i64 (k : Int), .int .u8 (k : Int), .pointer (some ⟨w.heap.size, 4, none⟩), .slice A m c, .int .i64 (m : Int), .int .u8 (m : Int), .slice (some ⟨g4, 0, none⟩) 2 2, .slice (some ⟨g4, 0, none⟩) 2 2, .slice A2 2 c2, undef, .slice A3 4 c3, undef, .slice A4 4 c4, undef, .pointer (some ⟨w.heap.size, 4, none⟩), undef, undef, undef, undef, undef, undef, undef, undef, undef, undef], []⟩) (by kernel_rfl) (by kernel_rfl) (fun _ _ _ h => h) ?_
  refine any_take (i := 8) (.slice A m c) rfl (by kernel_rfl) (by kernel_rfl) (by kernel_rfl) rfl (by kernel_rfl) (by kernel_rfl) (fun W hW => cell_run 39 (.tmp 47) ⟨w.heap.size, 4, none⟩ (.slice A m c) _ (by kernel_rfl) (by kernel_rfl) hW Tryz.underlying39 rfl (by kernel_rfl)) s0 (listed' := #[true, true, false, true, false, true, false, true, true, false, false]) (a' := ⟨#[.agg #[.int .i64 (k : Int), .int .i64 (ep : Int), .int .i64 (n : Int), .int .i64 (l : Int), .slice A m c], .pointer (some ⟨w.heap.size, 0, none⟩), .slice none 0 0, .int .i64 0, .slice A2 2 c2, .int .i64 0, .slice A3 4 c3, .int .i64 0, .slice A4 4 c4, .int .i64 0, .slice (some ⟨g4, 0, none⟩) 2 2, .agg #[.int .i64 (k : Int), .int .i64 (ep : Int), .int .i64 (n : Int), .int .i64 (l : Int), .slice A m c], .bool true, .bool false, .tuple #[.slice A2 2 c2, .int .i64 0], .pointer (some ⟨w.heap.size, 3, none⟩), .int .i64 (l : Int), .tuple #[.slice A2 2 c2, .int .i64 0], .slice A2 2 c2, .int .i64 0, .tuple #[.slice A3 4 c3, .int .i64 0], .pointer (some ⟨w.heap.size, 1, none⟩), .int .i64 (ep : Int), .tuple #[.slice A3 4 c3, .int .i64 0], .slice A3 4 c3, .int .i64 0, .tuple #[.slice A4 4 c4, .int .i64 0], .pointer (some ⟨w.heap.size, 2, none⟩), .int .i64 (n : Int), .tuple #[.slice A4 4 c4, .int .i64 0], .slice A4 4 c4, .int .i64 0, .pointer (some ⟨w.heap.size, 0, none⟩), .int .i64 (k : Int), .int .u8 (k : Int), .pointer (some ⟨w.heap.size, 4, none⟩), .slice A m c, .int .i64 (m : Int), .int .u8 (m : Int), .slice (some ⟨g4, 0, none⟩) 2 2, .slice (some ⟨g4, 0, none⟩) 2 2, .slice A2 2 c2, undef, .slice A3 4 c3, undef, .slice A4 4 c4, undef, .pointer (some ⟨w.heap.size, 4, none⟩), .slice A m c, undef, undef, undef, undef, undef, undef, undef, undef, undef], []⟩) (by kernel_rfl) (by kernel_rfl) (fun _ _ _ h => h) ?_
  refine any_comes (i := 2) (by kernel_rfl) (op_append rfl (by kernel_rfl) (.tmp 40) (.tmp 41) 39 rfl g4 5 i0 _ 1 1 Tryz.underlying39 hi0 hz0 hz1 hz2 rfl (by omega) (.slice (some ⟨g4, 0, none⟩) 2 2) (2) (cells [UInt8.ofNat k, UInt8.ofNat m]) (by kernel_rfl) hO0 g4 A2 2 c2 (cells X) (by kernel_rfl) (HQ.out _ b0).1 (cells_one _) (by unfold maxLen; omega) (by omega) hz0' ?_)
  intro v5 w5 ho5 hg5 hat5
  rw [show 2 + 2 = 4 by omega] at ho5
  have b5 : Below g4 WB w5 := b0.grown hg5 hz0' (fun j hj => (hO0.lt j hj).1)
  have s5 := HP.out _ b5
  have z5 : g4 ≤ w5.heap.size := Nat.le_trans hsB b5.size
  obtain ⟨A5, c5, hv5⟩ := own_form ho5
  subst hv5
  refine ⟨s5, ?_⟩
  refine any_asT (a' := ⟨#[.agg #[.int .i64 (k : Int), .int .i64 (ep : Int), .int .i64 (n : Int), .int .i64 (l : Int), .slice A m c], .pointer (some ⟨w.heap.size, 0, none⟩), .slice none 0 0, .int .i64 0, .slice A2 2 c2, .int .i64 0, .slice A3 4 c3, .int .i64 0, .slice A4 4 c4, .int .i64 0, .slice (some ⟨g4, 0, none⟩) 2 2, .agg #[.int .i64 (k : Int), .int .i64 (ep : Int), .int .i64 (n : Int), .int .i64 (l : Int), .slice A m c], .bool true, .bool false, .tuple #[.slice A2 2 c2, .int .i64 0], .pointer (some ⟨w.heap.size, 3, none⟩), .int .i64 (l : Int), .tuple #[.slice A2 2 c2, .int .i64 0], .slice A2 2 c2, .int .i64 0, .tuple #[.slice A3 4 c3, .int .i64 0], .pointer (some ⟨w.heap.size, 1, none⟩), .int .i64 (ep : Int), .tuple #[.slice A3 4 c3, .int .i64 0], .slice A3 4 c3, .int .i64 0, .tuple #[.slice A4 4 c4, .int .i64 0], .pointer (some ⟨w.heap.size, 2, none⟩), .int .i64 (n : Int), .tuple #[.slice A4 4 c4, .int .i64 0], .slice A4 4 c4, .int .i64 0, .pointer (some ⟨w.heap.size, 0, none⟩), .int .i64 (k : Int), .int .u8 (k : Int), .pointer (some ⟨w.heap.size, 4, none⟩), .slice A m c, .int .i64 (m : Int), .int .u8 (m : Int), .slice (some ⟨g4, 0, none⟩) 2 2, .slice (some ⟨g4, 0, none⟩) 2 2, .slice A2 2 c2, .slice A5 4 c5, .slice A3 4 c3, undef, .slice A4 4 c4, undef, .pointer (some ⟨w.heap.size, 4, none⟩), .slice A m c, undef, undef, undef, undef, undef, undef, undef, undef, undef], []⟩) (by kernel_rfl) (listed' := #[true, true, true, true, false, true, false, true, true, false, false]) (by kernel_rfl) ?_
  refine any_comes (i := 4) (by kernel_rfl) (op_append rfl (by kernel_rfl) (.tmp 42) (.tmp 43) 39 rfl g4 5 i0 _ 1 1 Tryz.underlying39 hi0 hz0 hz1 hz2 rfl (by omega) (.slice A5 4 c5) (4) (cells [UInt8.ofNat k, UInt8.ofNat m] ++ cells X) (by kernel_rfl) ho5 g4 A3 4 c3 (cells Y) (by kernel_rfl) (HQ.out _ b5).2.1 (cells_one _) (by unfold maxLen; omega) (by omega) z5 ?_)
  intro v6 w6 ho6 hg6 hat6
  rw [show 4 + 4 = 8 by omega] at ho6
  have b6 : Below g4 WB w6 := b5.grown hg6 z5 (fun j hj => (ho5.lt j hj).1)
  have s6 := HP.out _ b6
  have z6 : g4 ≤ w6.heap.size := Nat.le_trans hsB b6.size
  obtain ⟨A6, c6, hv6⟩ := own_form ho6
  subst hv6
  refine ⟨s6, ?_⟩
  refine any_asT (a' := ⟨#[.agg #[.int .i64 (k : Int), .int .i64 (ep : Int), .int .i64 (n : Int), .int .i64 (l : Int), .slice A m c], .pointer (some ⟨w.heap.size, 0, none⟩), .slice none 0 0, .int .i64 0, .slice A2 2 c2, .int .i64 0, .slice A3 4 c3, .int .i64 0, .slice A4 4 c4, .int .i64 0, .slice (some ⟨g4, 0, none⟩) 2 2, .agg #[.int .i64 (k : Int), .int .i64 (ep : Int), .int .i64 (n : Int), .int .i64 (l : Int), .slice A m c], .bool true, .bool false, .tuple #[.slice A2 2 c2, .int .i64 0], .pointer (some ⟨w.heap.size, 3, none⟩), .int .i64 (l : Int), .tuple #[.slice A2 2 c2, .int .i64 0], .slice A2 2 c2, .int .i64 0, .tuple #[.slice A3 4 c3, .int .i64 0], .pointer (some ⟨w.heap.size, 1, none⟩), .int .i64 (ep : Int), .tuple #[.slice A3 4 c3, .int .i64 0], .slice A3 4 c3, .int .i64 0, .tuple #[.slice A4 4 c4, .int .i64 0], .pointer (some ⟨w.heap.size, 2, none⟩), .int .i64 (n : Int), .tuple #[.slice A4 4 c4, .int .i64 0], .slice A4 4 c4, .int .i64 0, .pointer (some ⟨w.heap.size, 0, none⟩), .int .i64 (k : Int), .int .u8 (k : Int), .pointer (some ⟨w.heap.size, 4, none⟩), .slice A m c, .int .i64 (m : Int), .int .u8 (m : Int), .slice (some ⟨g4, 0, none⟩) 2 2, .slice (some ⟨g4, 0, none⟩) 2 2, .slice A2 2 c2, .slice A5 4 c5, .slice A3 4 c3, .slice A6 8 c6, .slice A4 4 c4, undef, .pointer (some ⟨w.heap.size, 4, none⟩), .slice A m c, undef, undef, undef, undef, undef, undef, undef, undef, undef], []⟩) (by kernel_rfl) (listed' := #[true, true, true, true, true, true, false, true, true, false, false]) (by kernel_rfl) ?_
  refine any_comes (i := 6) (by kernel_rfl) (op_append rfl (by kernel_rfl) (.tmp 44) (.tmp 45) 39 rfl g4 5 i0 _ 1 1 Tryz.underlying39 hi0 hz0 hz1 hz2 rfl (by omega) (.slice A6 8 c6) (8) (cells [UInt8.ofNat k, UInt8.ofNat m] ++ cells X ++ cells Y) (by kernel_rfl) ho6 g4 A4 4 c4 (cells Z) (by kernel_rfl) (HQ.out _ b6).2.2.1 (cells_one _) (by unfold maxLen; omega) (by omega) z6 ?_)
  intro v7 w7 ho7 hg7 hat7
  rw [show 8 + 4 = 12 by omega] at ho7
  have b7 : Below g4 WB w7 := b6.grown hg7 z6 (fun j hj => (ho6.lt j hj).1)
  have s7 := HP.out _ b7
  have z7 : g4 ≤ w7.heap.size := Nat.le_trans hsB b7.size
  obtain ⟨A7, c7, hv7⟩ := own_form ho7
  subst hv7
  refine ⟨s7, ?_⟩
  refine any_asT (a' := ⟨#[.agg #[.int .i64 (k : Int), .int .i64 (ep : Int), .int .i64 (n : Int), .int .i64 (l : Int), .slice A m c], .pointer (some ⟨w.heap.size, 0, none⟩), .slice none 0 0, .int .i64 0, .slice A2 2 c2, .int .i64 0, .slice A3 4 c3, .int .i64 0, .slice A4 4 c4, .int .i64 0, .slice (some ⟨g4, 0, none⟩) 2 2, .agg #[.int .i64 (k : Int), .int .i64 (ep : Int), .int .i64 (n : Int), .int .i64 (l : Int), .slice A m c], .bool true, .bool false, .tuple #[.slice A2 2 c2, .int .i64 0], .pointer (some ⟨w.heap.size, 3, none⟩), .int .i64 (l : Int), .tuple #[.slice A2 2 c2, .int .i64 0], .slice A2 2 c2, .int .i64 0, .tuple #[.slice A3 4 c3, .int .i64 0], .pointer (some ⟨w.heap.size, 1, none⟩), .int .i64 (ep : Int), .tuple #[.slice A3 4 c3, .int .i64 0], .slice A3 4 c3, .int .i64 0, .tuple #[.slice A4 4 c4, .int .i64 0], .pointer (some ⟨w.heap.size, 2, none⟩), .int .i64 (n : Int), .tuple #[.slice A4 4 c4, .int .i64 0], .slice A4 4 c4, .int .i64 0, .pointer (some ⟨w.heap.size, 0, none⟩), .int .i64 (k : Int), .int .u8 (k : Int), .pointer (some ⟨w.heap.size, 4, none⟩), .slice A m c, .int .i64 (m : Int), .int .u8 (m : Int), .slice (some ⟨g4, 0, none⟩) 2 2, .slice (some ⟨g4, 0, none⟩) 2 2, .slice A2 2 c2, .slice A5 4 c5, .slice A3 4 c3, .slice A6 8 c6, .slice A4 4 c4, .slice A7 12 c7, .pointer (some ⟨w.heap.size, 4, none⟩), .slice A m c, undef, undef, undef, undef, undef, undef, undef, undef, undef], []⟩) (by kernel_rfl) (listed' := #[true, true, true, true, true, true, true, true, true, false, false]) (by kernel_rfl) ?_
  refine any_comes (i := 9) (by kernel_rfl) (op_append rfl (by kernel_rfl) (.tmp 46) (.tmp 48) 39 rfl g4 5 i0 _ 1 1 Tryz.underlying39 hi0 hz0 hz1 hz2 rfl (by omega) (.slice A7 12 c7) (12) (cells [UInt8.ofNat k, UInt8.ofNat m] ++ cells X ++ cells Y ++ cells Z) (by kernel_rfl) ho7 g4 A m c (cells D) (by kernel_rfl) (HQ.out _ b7).2.2.2 (cells_one _) (by unfold maxLen; omega) (by omega) z7 ?_)
  intro v8 w8 ho8 hg8 hat8
  rw [show 12 + m = t8 by omega] at ho8
  have b8 : Below g4 WB w8 := b7.grown hg8 z7 (fun j hj => (ho7.lt j hj).1)
  have s8 := HP.out _ b8
  have z8 : g4 ≤ w8.heap.size := Nat.le_trans hsB b8.size
  obtain ⟨A8, c8, hv8⟩ := own_form ho8
  subst hv8
  refine ⟨s8, ?_⟩
  refine any_asT (a' := ⟨#[.agg #[.int .i64 (k : Int), .int .i64 (ep : Int), .int .i64 (n : Int), .int .i64 (l : Int), .slice A m c], .pointer (some ⟨w.heap.size, 0, none⟩), .slice none 0 0, .int .i64 0, .slice A2 2 c2, .int .i64 0, .slice A3 4 c3, .int .i64 0, .slice A4 4 c4, .int .i64 0, .slice (some ⟨g4, 0, none⟩) 2 2, .agg #[.int .i64 (k : Int), .int .i64 (ep : Int), .int .i64 (n : Int), .int .i64 (l : Int), .slice A m c], .bool true, .bool false, .tuple #[.slice A2 2 c2, .int .i64 0], .pointer (some ⟨w.heap.size, 3, none⟩), .int .i64 (l : Int), .tuple #[.slice A2 2 c2, .int .i64 0], .slice A2 2 c2, .int .i64 0, .tuple #[.slice A3 4 c3, .int .i64 0], .pointer (some ⟨w.heap.size, 1, none⟩), .int .i64 (ep : Int), .tuple #[.slice A3 4 c3, .int .i64 0], .slice A3 4 c3, .int .i64 0, .tuple #[.slice A4 4 c4, .int .i64 0], .pointer (some ⟨w.heap.size, 2, none⟩), .int .i64 (n : Int), .tuple #[.slice A4 4 c4, .int .i64 0], .slice A4 4 c4, .int .i64 0, .pointer (some ⟨w.heap.size, 0, none⟩), .int .i64 (k : Int), .int .u8 (k : Int), .pointer (some ⟨w.heap.size, 4, none⟩), .slice A m c, .int .i64 (m : Int), .int .u8 (m : Int), .slice (some ⟨g4, 0, none⟩) 2 2, .slice (some ⟨g4, 0, none⟩) 2 2, .slice A2 2 c2, .slice A5 4 c5, .slice A3 4 c3, .slice A6 8 c6, .slice A4 4 c4, .slice A7 12 c7, .pointer (some ⟨w.heap.size, 4, none⟩), .slice A m c, .slice A8 t8 c8, undef, undef, undef, undef, undef, undef, undef, undef], []⟩) (by kernel_rfl) (listed' := #[true, true, true, true, true, true, true, true, true, true, false]) (by kernel_rfl) ?_
  refine any_left (by kernel_rfl) ?_
  refine wpAny_tail 10 (by kernel_rfl) (by kernel_rfl) ?_
  simp only [List.drop_succ_cons, List.drop_zero]
  obtain ⟨P, hP⟩ : ∃ P, P = [UInt8.ofNat k, UInt8.ofNat m] ++ X ++ Y ++ Z ++ D := ⟨_, rfl⟩
  have HP8 : Hid (P.length = 12 + m ∧ Sd.body ⟨(k : Int), (ep : Int), (n : Int), (l : Int), D⟩ = P ++ List.replicate (48 - m) 0) := by
    obtain ⟨l1, l2, l3⟩ := HL.out
    refine ⟨?_, by rw [hP]; exact HBd.out⟩
    rw [hP]
    simp only [List.length_append, List.length_cons, List.length_nil, l1, l2, l3, ← Hm.out]
  have HO : Hid (w8.ownsRow g4 5 1 (.slice A8 t8 c8) P.length (cells P)) := by
    show World.ownsRow _ _ _ _ _ _ _
    rw [HP8.out.1, hP]
    simp only [cells_append]
    have := ho8
    rw [Ht8.out] at this ⊢
    exact this
  have H8 : Hid (Below g4 WB w8 ∧ Below w.heap.size w WB ∧ w.heap.size ≤ g4 ∧ g4 ≤ WB.heap.size) := ⟨b8, hbB, Nat.le_of_lt hlt, hsB⟩
  clear ht8 HQ HP b0 hO0 s0 hz0' s5 z5 s6 z6 s7 z7 s8 z8 ho5 hg5 hat5 ho6 hg6 hat6 ho7 hg7 hat7 ho8 hg8 hat8 b5 b6 b7 b8 hP hbB hlt hsB
  go_wp2
  go_loopw [10] (fun v wr => ∃ (L : List UInt8) (A : Option Addr) (c q : Nat), v = .slice A q c ∧ q ≤ 60 ∧ Hid (q = L.length ∧ 12 + m ≤ q ∧ L = P ++ List.replicate (q - (12 + m)) 0) ∧ Hid (wr.ownsRow g4 5 1 (.slice A q c) L.length (cells L)) ∧ Hid (Below g4 WB wr)) (fun v _ => 60 - slLen v)
  case atStart => exact ⟨P, A8, c8, t8, rfl, ht60, ⟨by have := HP8.out.1; have := Ht8.out; omega, by have := Ht8.out; omega, by rw [Ht8.out, Nat.sub_self]; simp⟩, HO, H8.out.1⟩
  case round =>
    obtain ⟨L, A9, c9, q, rfl, hq, HI, HW, HBe⟩ := hrel
    by_cases hlt : q < 60
    · have d0 : decide ((q : Int) < 60) = true := decide_eq_true (by omega)
      have d1 : decide (q < 60) = true := decide_eq_true hlt
      go_wp2_with (at_builtin; refine append_byte rfl _ _ rfl 0 rfl HW.out HBe.out H8.out.2.2.2 rfl rfl (by have := HI.out.1; omega) ?_; intro v' w9 ho9 hb9)
      obtain ⟨i1, i2, i3⟩ := HI.out
      obtain ⟨A0, c0, rfl⟩ := own_form ho9
      have hln : (L ++ [0]).length = q + 1 := by rw [List.length_append, List.length_singleton, ← i1]
      have hls : L ++ [0] = P ++ List.replicate (q + 1 - (12 + m)) 0 := by rw [show q + 1 - (12 + m) = q - (12 + m) + 1 by omega, List.replicate_succ', ← List.append_assoc, ← i3]
      go_roundw
      case rel => exact ⟨L ++ [0], A0, c0, (L ++ [0]).length, rfl, by omega, ⟨rfl, by omega, by rw [hln]; exact hls⟩, Lib.hid ho9, Lib.hid hb9⟩
      case measure => simp only [slLen]; omega
    · obtain ⟨i1, i2, i3⟩ := HI.out
      obtain rfl : q = 60 := by omega
      have hbody : L = Sd.body ⟨(k : Int), (ep : Int), (n : Int), (l : Int), D⟩ := by rw [i3, HP8.out.2, show 60 - (12 + m) = 48 - m by omega]
      have hL60 : L.length = 60 := i1.symm
      have hrb : RB wr wr.heap.size A9 L := by
        have := HW.out
        rw [hL60] at this
        refine Reads.of_own (base := g4) (e := 5) (c := c9) ?_
        rw [hL60]; exact this
      have hbw : Below w.heap.size w wr := H8.out.2.1.trans (HBe.out.mono H8.out.2.2.1)
      have HSe : Hid (Calls Tryz.prog 38 #[.slice A9 60 c9] wr fun e w' => ∃ A c, e = .returned (.slice A 64 c) ∧ Hid (GivesBytes (Sd.bytes ⟨(k : Int), (ep : Int), (n : Int), (l : Int), D⟩) w (.returned (.tuple #[.slice A 64 c, .int .i64 0])) w')) := by
        have h1 := refSeal_any L A9 c9 wr.heap.size wr hrb (by omega)
        rw [hL60] at h1
        refine h1.mono fun e w' hh => ?_
        obtain ⟨A, c, he, ho, hb⟩ := hh
        have e1 : sealL L = Sd.bytes ⟨(k : Int), (ep : Int), (n : Int), (l : Int), D⟩ := by rw [hbody]; rfl
        have e2 : (sealL L).length = 64 := by rw [sealL_length, hL60]
        rw [e2] at he
        refine ⟨A, c, he, A, c, by rw [← e1, e2], ?_, chain7 hbw hb⟩
        rw [← e1]
        exact Joins.ownsRow_le ho hbw.size
      have d0 : decide ((60 : Int) < 60) = false := by decide
      clear hbody hL60 hrb hbw i1 i2 i3 HI HW HBe hlt
      go_wp2_with (go_at_call 38; (with_reducible refine HSe.out.mono ?_); rintro e w9 ⟨A0, c0, rfl, hG⟩)
      go_ret2
      exact hG.out
end
section
open Go.RowKit
def GivesView : Option (List UInt8) → World → Ending → World → Prop
  | some M, w, e, w' => ∃ A c, e = .returned (.tuple #[.slice A M.length c, .int .i64 0]) ∧ RB w' w'.heap.size A M ∧ Below w.heap.size w w'
  | none, w, e, w' => e = .returned (.tuple #[.slice none 0 0, .int .i64 12]) ∧ Below w.heap.size w w'
theorem refOpen_short (N : Nat) (A : Option Addr) (c : Nat) (w : World) (hl : N < 4) :
    Calls Tryz.prog 111 #[.slice A N c] w (GivesView none w) := by
  have hd2 : decide ((N : Int) - 4 < 0) = true := by simp; omega
  go_enter Tryz.func111, Tryz.ntmps111
  go_wp2
  go_quiet (fail)
  go_wp2
  go_ret2
  exact ⟨rfl, ⟨rfl, rfl, rfl, Nat.le_refl _, fun _ _ => rfl⟩⟩
theorem refOpen_core (n : Nat) (A : Option Addr) (c : Nat) (L S : List UInt8) (w : World) (hc : n + 4 ≤ c) (hcap : c ≤ 9223372036854775807) (b : Bool) (hr : RB w w.heap.size A L) (HL : Hid (n + 4 = L.length)) (R : World → Ending → World → Prop)
    (HS : Hid (∀ W, Below w.heap.size w W → Calls Tryz.prog 38 #[.slice A n c] W (GivesOne S W)))
    (hb : (S == L) = b)
    (HR : Hid (b = true → ∀ w', Below w.heap.size w w' → R w (.returned (.tuple #[.slice A n c, .int .i64 0])) w')) (HR2 : Hid (b = false → ∀ w', Below w.heap.size w w' → R w (.returned (.tuple #[.slice none 0 0, .int .i64 12])) w')) :
    Calls Tryz.prog 111 #[.slice A (n + 4) c] w (R w) := by
  have hd2 : decide ((n : Int) < 0) = false := by simp
  have hnc : (n : Int) ≤ (c : Int) := by omega
  have e1 := aw_str (w := w.drew) hr.drew (n + 4) c HL.out
  rcases b with _ | _
  all_goals
    go_enter Tryz.func111, Tryz.ntmps111
    go_wp2
    go_region_held_law (fun w' => (convert 39 9 (.slice A (n + 4) c)).run Tryz.prog w' = .ok (.string ⟨L.toArray⟩) w') (assumption) (first | (go_at_call 38; (with_reducible refine (HS.out _ (Below.refl _ _).drew).mono ?_); rintro e w1 ⟨A1, c1, rfl, ho1, hb1⟩; have hb2 : Below w.heap.size w w1 := below_drew hb1; have e2 := aw_str (own_rb ho1) S.length c1 rfl; have e3 := aw_str ((hr.below hb2).more hb2.size) (n + 4) c HL.out))
    all_goals
      go_wp2
      first | exact HR.out (by trivial) _ hb2 | exact HR2.out (by trivial) _ hb2
theorem refOpen_any (L : List UInt8) (A : Option Addr) (c B : Nat) (w : World) (hr : RB w B A L) (hlc : L.length ≤ c) (hc : c ≤ 9223372036854775807) (hl : L.length ≤ 1048576) :
    Calls Tryz.prog 111 #[.slice A L.length c] w (GivesView (openL L) w) := by
  have hr := rb_lt hr
  by_cases h4 : L.length < 4
  · have e : openL L = none := by unfold openL; rw [if_neg (by omega)]
    rw [e]
    exact refOpen_short _ A c w h4
  · obtain ⟨n, hn⟩ : ∃ n, n = L.length - 4 := ⟨_, rfl⟩
    have hn4 : L.length = n + 4 := by omega
    have hp : (L.take n).length = n := by rw [List.length_take]; omega
    have hrp : RB w w.heap.size A (L.take n) := rb_take hr n (by omega)
    have hop : openL L = if sealL (L.take n) = L then some (L.take n) else none := by
      unfold openL
      rw [← hn]
      by_cases hy : sealL (L.take n) = L
      · rw [if_pos ⟨by omega, hy⟩, if_pos hy]
      · rw [if_neg (fun h => hy h.2), if_neg hy]
    rw [hn4]
    refine refOpen_core n A c L (sealL (L.take n)) w (by omega) hc (sealL (L.take n) == L) hr hn4.symm (GivesView (openL L)) (fun W hb => ?_) rfl (fun hb w' h => ?_) (fun hb w' h => ?_)
    · have := refSeal_any (L.take n) A c _ W (hrp.below hb) (by omega)
      rwa [hp] at this
    · rw [hop, if_pos (by simpa using hb)]
      exact ⟨A, c, by rw [hp], (hrp.below h).more h.size, h⟩
    · rw [hop, if_neg (by simpa using hb)]
      exact ⟨rfl, h⟩
end
section
open Go.ChangeShapes Go.WideShapes Go.ChangeAt Go.RowKit
instance : Inhabited Sd := ⟨⟨0, 0, 0, 0, []⟩⟩
section
variable {H : Type} {enc : TypeId × Value → H} {P : Program}
theorem open_secl13 {W : World} {fuel : Nat} {t e : TypeId} {f0 f1 f2 f3 f4 : Field} {q : TypeId} {v : Value} {x : DataW H × List MemPlace} (ht : P.underlying t = some (.slice e)) (he : P.underlying e = some (.struct #[f0, f1, f2, f3, f4]))
    (ce : P.cellsOf e = 5) (o0 : f0.offset = 0) (o1 : f1.offset = 1) (o2 : f2.offset = 2) (o3 : f3.offset = 3) (o4 : f4.offset = 4)
    (c0 : P.cellsOf f0.type = 1) (c1 : P.cellsOf f1.type = 1) (c2 : P.cellsOf f2.type = 1) (c3 : P.cellsOf f3.type = 1) (c4 : P.cellsOf f4.type = 1)
    (k0 : P.underlying f0.type = some (.int .i64)) (k1 : P.underlying f1.type = some (.int .i64)) (k2 : P.underlying f2.type = some (.int .i64)) (k3 : P.underlying f3.type = some (.int .i64)) (k4 : P.underlying f4.type = some (.slice q))
    (hq : P.underlying q = some (.int .u8)) (cq : P.cellsOf q = 1)
    (hf : DataW.trod enc P W 0 (fun _ => true) true fuel t [v] = some x) :
    ∃ (A : Option Addr) (D : List Sd) (c : Nat), v = .slice A D.length c ∧ SL W W.heap.size A D ∧ D.length ≤ c ∧ c ≤ 9223372036854775807 := by
  rcases Deep.open_slice ht hf with ⟨hcs, hx⟩ | ⟨a, len, cap, m, n, D, Pl, hcs, _, hl, hm, hmm, hx, hel⟩
  · simp at hcs
    exact ⟨none, [], 0, hcs, fun h => absurd h (by simp), Nat.le_refl _, by omega⟩
  · simp at hcs
    have hml : len ≤ m := by rw [hmm]; split <;> omega
    have each : ∀ i, i < len → ∃ z : Sd × (Option Addr × Nat), RB W W.heap.size z.2.1 z.1.data ∧
        W.cell? (a.add (i * 5)) = some (.int .i64 z.1.kind) ∧ W.cell? (a.add (i * 5 + 1)) = some (.int .i64 z.1.epoch) ∧ W.cell? (a.add (i * 5 + 2)) = some (.int .i64 z.1.number) ∧
        W.cell? (a.add (i * 5 + 3)) = some (.int .i64 z.1.left) ∧ W.cell? (a.add (i * 5 + 4)) = some (.slice z.2.1 z.1.data.length z.2.2) := by
      intro i hi
      obtain ⟨cs', h1, h2⟩ := hel i (by omega)
      rw [ce] at h1
      obtain ⟨_, hlen, hcell⟩ := World.cells?_some h1
      obtain ⟨xs, k, hk, hxy, _, hxl, hff⟩ := DataW.trod_struct he h2
      match xs, hxl, cs', hlen with
      | [y0, y1, y2, y3, y4], _, [v0, v1, v2, v3, v4], _ =>
        have g0 := hff 0 f0 rfl
        have g1 := hff 1 f1 rfl
        have g2 := hff 2 f2 rfl
        have g3 := hff 3 f3 rfl
        have g4 := hff 4 f4 rfl
        simp [o0, o1, o2, o3, o4, c0, c1, c2, c3, c4] at g0 g1 g2 g3 g4
        have e0 := hcell 0 (by omega)
        have e1 := hcell 1 (by omega)
        have e2 := hcell 2 (by omega)
        have e3 := hcell 3 (by omega)
        have e4 := hcell 4 (by omega)
        rw [Deep.add_add] at e0 e1 e2 e3 e4
        obtain ⟨z0, hz0, _, w0⟩ := DataW.trod_int k0 g0
        obtain ⟨z1, hz1, _, w1⟩ := DataW.trod_int k1 g1
        obtain ⟨z2, hz2, _, w2⟩ := DataW.trod_int k2 g2
        obtain ⟨z3, hz3, _, w3⟩ := DataW.trod_int k3 g3
        obtain ⟨dA, dL, dc, rfl, hd1, hd2, hd3⟩ := bytes_of k4 hq cq g4
        simp only [List.cons.injEq, and_true] at hz0 hz1 hz2 hz3
        subst hz0
        subst hz1
        subst hz2
        subst hz3
        refine ⟨(⟨z0, z1, z2, z3, dL⟩, (dA, dc)), hd1, ?_, ?_, ?_, ?_, ?_⟩
        · simpa using e0
        · simpa using e1
        · simpa using e2
        · simpa using e3
        · simpa using e4
    obtain ⟨z, hz⟩ := Deep.choose_lt each
    refine ⟨some a, (List.range len).map fun i => (z i).1, cap, by simpa using hcs, fun hn => ?_, by simpa using hl, hm⟩
    simp only [List.length_map, List.length_range] at hn
    obtain ⟨b, off, p⟩ := a
    have h0 := (hz 0 (by omega)).2.1
    have e00 : (⟨b, off, p⟩ : Addr).add (0 * 5) = ⟨b, off, p⟩ := by simp [Addr.add]
    rw [e00] at h0
    have hp : p = none := World.cell?_spot h0
    subst hp
    have hblk := World.block_lt_of_cell? W _ h0
    refine ⟨b, off, rfl, hblk, fun k hk => ?_⟩
    simp only [List.length_map, List.length_range] at hk
    have ea := addr_add6 b off
    have hc := hz k (by omega)
    simp only [ea] at hc
    have eg : ((List.range len).map fun i => (z i).1)[k]'(by simpa using hk) = (z k).1 := by simp
    rw [eg]
    exact ⟨_, _, hc⟩
end
theorem Tryz.cellsArea : Tryz.prog.cellsOf 45 = 5 := by kernel_rfl
theorem Tryz.cellsSecA : Tryz.prog.cellsOf 49 = 5 := by kernel_rfl
theorem Tryz.cellsIntA : Tryz.prog.cellsOf 3 = 1 := by kernel_rfl
theorem Tryz.cellsSlA : Tryz.prog.cellsOf 43 = 1 := by kernel_rfl
theorem Tryz.cellsByA : Tryz.prog.cellsOf 39 = 1 := by kernel_rfl
theorem Tryz.cellsU8A : Tryz.prog.cellsOf 5 = 1 := by kernel_rfl
theorem list5a {α : Type} (l : List α) (h : l.toArray.size = 5) : ∃ a b c d e, l = [a, b, c, d, e] := by
  match l, h with
  | [a, b, c, d, e], _ => exact ⟨a, b, c, d, e, rfl⟩
theorem open_area {H : Type} {enc : TypeId × Value → H} {W : World} {base : Nat} {v : Value} {d : DataW H} {ps : List MemPlace} (hv : Value.okWide Tryz.prog W .any base 45 v) (h : DataW.Trod enc Tryz.prog W 0 (fun _ => true) true 45 v d ps) :
    ∃ (A : Option Addr) (D : List Sd) (c : Nat) (f b l m : Int), v = .agg #[.slice A D.length c, .int .i64 f, .int .i64 b, .int .i64 l, .int .i64 m] ∧ SL W W.heap.size A D ∧ D.length ≤ c ∧ c ≤ 9223372036854775807 ∧ (InI f ∧ InI b) ∧ InI l ∧ InI m := by
  obtain ⟨cs, rfl, hsz⟩ := okWide_struct Tryz.underlying45 hv
  rw [Tryz.cellsArea] at hsz
  obtain ⟨cl⟩ := cs
  obtain ⟨a, b, c, e, f, rfl⟩ := list5a cl hsz
  obtain ⟨fuel, hf⟩ := h
  obtain ⟨xs, k, hk, hxy, _, hxl, hff⟩ := DataW.trod_struct Tryz.underlying45 hf
  match xs, hxl with
  | [y0, y1, y2, y3, y4], _ =>
    have g0 := hff 0 _ rfl
    have g1 := hff 1 _ rfl
    have g2 := hff 2 _ rfl
    have g3 := hff 3 _ rfl
    have g4 := hff 4 _ rfl
    simp [Value.cells, Tryz.cellsIntA, Tryz.cellsSlA] at g0 g1 g2 g3 g4
    obtain ⟨z1, h1, _, w1⟩ := DataW.trod_int Tryz.underlying3 g1
    obtain ⟨z2, h2, _, w2⟩ := DataW.trod_int Tryz.underlying3 g2
    obtain ⟨z3, h3, _, w3⟩ := DataW.trod_int Tryz.underlying3 g3
    obtain ⟨z4, h4, _, w4⟩ := DataW.trod_int Tryz.underlying3 g4
    obtain ⟨A, D, cc, rfl, hD, hl, hm⟩ := open_secl13 Tryz.underlying43 Tryz.underlying49 Tryz.cellsSecA rfl rfl rfl rfl rfl Tryz.cellsIntA Tryz.cellsIntA Tryz.cellsIntA Tryz.cellsIntA Tryz.cellsByA Tryz.underlying3 Tryz.underlying3 Tryz.underlying3 Tryz.underlying3 Tryz.underlying39 Tryz.underlying5 Tryz.cellsU8A g0
    have e1 : b = .int .i64 z1 := by simpa using h1
    have e2 : c = .int .i64 z2 := by simpa using h2
    have e3 : e = .int .i64 z3 := by simpa using h3
    have e4 : f = .int .i64 z4 := by simpa using h4
    subst e1 e2 e3 e4
    exact ⟨A, D, cc, z1, z2, z3, z4, rfl, hD, hl, hm, ⟨ini_wf6 w1, ini_wf6 w2⟩, ini_wf6 w3, ini_wf6 w4⟩
end
section
open Go.RowKit
theorem load_any (L : List UInt8) (A : Option Addr) (c : Nat) (w : World) (hr : RB w w.heap.size A L) (hm : Dk.mayL L) :
    Calls Tryz.prog 13 #[.slice A L.length c] w fun e w' => ∃ g F, e = .returned (.tuple #[.pointer (some ⟨g, 0, none⟩), .int .i64 0]) ∧ GivesDisk (Dk.ofImage L) w w' g F := by
  obtain ⟨h1, h2, h3⟩ := hm
  obtain ⟨n, hn⟩ : ∃ n, n = L.length := ⟨_, rfl⟩
  rw [← hn] at h1 h2 h3 ⊢
  obtain ⟨m, hm⟩ : ∃ m, m = n / 256 := ⟨_, rfl⟩
  have HO := Lib.hid (of_any L m A n c w hr hn (by omega) (by omega) (by omega))
  have HF : Hid (∀ W, Calls Tryz.prog 24 #[.int .i64 (m : Int)] W fun e w' => e = .returned (.bool true) ∧ W = w') := fun W => by
    have := fits_any (m : Int) W
    rwa [decide_eq_true (by omega)] at this
  have n0 := fun w' => Tryz.notTrue w'
  have n1 := fun w' => Tryz.notFalse w'
  have u0 : (0 : Int) ≤ (n : Int) := by omega
  have u1 : (n : Int) ≤ 1000000 := by omega
  have e1 : (n : Int) % 256 = 0 := by omega
  have e2 : (n : Int).tmod 256 = 0 := by rw [Int.tmod_eq_emod_of_nonneg u0]; exact e1
  have e3 : (n : Int) / 256 = (m : Int) := by omega
  have e4 : (n : Int).tdiv 256 = (m : Int) := by rw [Int.tdiv_eq_ediv_of_nonneg u0]; exact e3
  clear hn hm hr h1 h2 h3
  go_enter Tryz.func13, Tryz.ntmps13
  go_wp2_with (first
    | (go_at_call 24; (with_reducible refine (HF.out _).mono ?_); rintro e w1 ⟨rfl, rfl⟩)
    | (go_at_call 25; (with_reducible refine HO.out.mono ?_); rintro e w1 ⟨g, F, rfl, hG⟩))
  go_ret2
  exact ⟨g, F, rfl, hG⟩
end
end Go.Proofs.YtghenhacndaelaaGreat
