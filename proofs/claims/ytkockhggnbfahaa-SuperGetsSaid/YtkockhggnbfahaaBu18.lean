/- Lemmas under the proofs of this place: SectRPut, CrcROpen, DiskPRead. No statement is proved here. -/
import Derived.Test.YtkockhggnbfahaaBu06
import Derived.Test.YtkockhggnbfahaaBu15
import Derived.Test.YtkockhggnbfahaaBu17
import Derived.Test.YtkockhggnbfahaaBu08
import Derived.Lib.SmallJoins
import Derived.Laws.OwnMore
import Derived.Deep.RegionHeldLaw
section
set_option linter.unusedVariables false
namespace Go.Proofs.Ytkockhggnbfahaa
open Go.RowKit
theorem Try.aggSec (w : World) : (isAgg 70).run Try.prog w = .ok true w := by kernel_rfl
theorem Try.sizeSec (w : World) : (sizeOf 70).run Try.prog w = .ok 5 w := by kernel_rfl
def slLen : Value → Nat
  | .slice _ n _ => n
  | _ => 0
theorem chain7 {w0 w w' : World} (h : Below w0.heap.size w0 w) (k : Below w.heap.size w w') : Below w0.heap.size w0 w' := h.trans (k.mono h.size)
theorem rb_up7 {w w' : World} {A : Option Addr} {L : List UInt8} (h : RB w w.heap.size A L) (hb : Below w.heap.size w w') : RB w' w'.heap.size A L := (h.below hb).more hb.size
theorem byte2_new (k m : Nat) (hk : k < 256) (hm : m < 256) (base : Nat) (W : World) (hb : base ≤ W.heap.size) : (W.alloc (.cells #[.int .u8 (k : Int), .int .u8 (m : Int)] 5)).ownsRow base 5 1 (.slice (some ⟨W.heap.size, 0, none⟩) 2 2) 2 (cells [UInt8.ofNat k, UInt8.ofNat m]) := by
  have e1 : (k : Int) = ((UInt8.ofNat k).toNat : Int) := by rw [ofNat_toNat _ hk]
  have e2 : (m : Int) = ((UInt8.ofNat m).toNat : Int) := by rw [ofNat_toNat _ hm]
  rw [e1, e2]
  exact World.ownsRow_lit W _ 2 hb (by decide) rfl
def SecAt (W : World) (g : Nat) (s : Sd) (A : Option Addr) (c : Nat) : Prop := Blk W g 70 #[.int .i64 s.kind, .int .i64 s.epoch, .int .i64 s.number, .int .i64 s.left, .slice A s.data.length c]
theorem SecAt.all {W : World} {g : Nat} {s : Sd} {A : Option Addr} {c : Nat} (h : SecAt W g s A c) : W.cell? ⟨g, 0, none⟩ = some (.int .i64 s.kind) ∧ W.cell? ⟨g, 1, none⟩ = some (.int .i64 s.epoch) ∧ W.cell? ⟨g, 2, none⟩ = some (.int .i64 s.number) ∧ W.cell? ⟨g, 3, none⟩ = some (.int .i64 s.left) ∧ W.cell? ⟨g, 4, none⟩ = some (.slice A s.data.length c) :=
  ⟨by rw [Blk.cell h]; rfl, by rw [Blk.cell h]; rfl, by rw [Blk.cell h]; rfl, by rw [Blk.cell h]; rfl, by rw [Blk.cell h]; rfl⟩
theorem SecAt.below {W W' : World} {g : Nat} {s : Sd} {A : Option Addr} {c : Nat} (h : SecAt W g s A c) (hb : Below W.heap.size W W') : SecAt W' g s A c := Blk.below h hb (Blk.lt h)
set_option maxRecDepth 100000 in
set_option maxHeartbeats 4000000 in
theorem rput_no (s : Sd) (A : Option Addr) (c : Nat) (w : World) (h : s.may = false) :
    Calls Try.prog 30 #[secV s A c] w fun e w' => e = .returned (.tuple #[.slice none 0 0, .int .i64 1]) ∧ Below w.heap.size w w' := by
  have HM : Hid (∀ W, Calls Try.prog 68 #[secV s A c] W fun e w' => e = .returned (.bool false) ∧ Below W.heap.size W w') := fun W => by rw [← h]; exact rmay_any s A c W
  have HB : Hid (Below w.heap.size w (w.alloc (.cells #[.int .i64 s.kind, .int .i64 s.epoch, .int .i64 s.number, .int .i64 s.left, .slice A s.data.length c] 70))) := (Below.refl _ _).alloc (Nat.le_refl _) _
  have a24 := fun w' => Try.aggSec w'
  have s24 := fun w' => Try.sizeSec w'
  unfold secV at HM ⊢
  clear h
  go_enter Try.func30, Try.ntmps30
  go_wp2_with (first
    | (go_at_call 68; (with_reducible refine (HM.out _).mono ?_); rintro e w1 ⟨rfl, hb1⟩))
  go_ret2
  exact ⟨rfl, chain7 HB.out hb1⟩
set_option maxRecDepth 100000 in
set_option maxHeartbeats 4000000 in
theorem rput_yes (s : Sd) (A : Option Addr) (c : Nat) (w : World) (h : s.may = true) (hr : RB w w.heap.size A s.data) :
    Calls Try.prog 30 #[secV s A c] w (GivesBytes s.bytes w) := by
  have HM : Hid (∀ W, Calls Try.prog 68 #[secV s A c] W fun e w' => e = .returned (.bool true) ∧ Below W.heap.size W w') := fun W => by rw [← h]; exact rmay_any s A c W
  obtain ⟨i0, hi0, hz0, hz1, hz2⟩ := info_parts Try.info5
  obtain ⟨h1, h2, h3, h4, h5, h6, h7, h8, h9⟩ := s.may_iff.1 h
  clear h
  obtain ⟨kz, ez, nz, lz, D⟩ := s
  simp only at h1 h2 h3 h4 h5 h6 h7 h8 h9 hr
  obtain ⟨k, rfl⟩ : ∃ k : Nat, kz = (k : Int) := ⟨kz.toNat, by omega⟩
  obtain ⟨ep, rfl⟩ : ∃ k : Nat, ez = (k : Int) := ⟨ez.toNat, by omega⟩
  obtain ⟨n, rfl⟩ : ∃ k : Nat, nz = (k : Int) := ⟨nz.toNat, by omega⟩
  obtain ⟨l, rfl⟩ : ∃ k : Nat, lz = (k : Int) := ⟨lz.toNat, by omega⟩
  obtain ⟨m, hm⟩ : ∃ m, m = D.length := ⟨_, rfl⟩
  obtain ⟨X, hX⟩ : ∃ X, X = fixL 2 l := ⟨_, rfl⟩
  obtain ⟨Y, hY⟩ : ∃ X, X = fixL 4 ep := ⟨_, rfl⟩
  obtain ⟨Z, hZ⟩ : ∃ X, X = fixL 4 n := ⟨_, rfl⟩
  have lX : X.length = 2 := by rw [hX, fixL_length]
  have lY : Y.length = 4 := by rw [hY, fixL_length]
  have lZ : Z.length = 4 := by rw [hZ, fixL_length]
  have hm48 : m ≤ 48 := by omega
  have HBd : Hid (Sd.body ⟨(k : Int), (ep : Int), (n : Int), (l : Int), D⟩ = [UInt8.ofNat k, UInt8.ofNat m] ++ X ++ Y ++ Z ++ D ++ List.replicate (48 - m) 0) := by
    show _ = _
    unfold Sd.body Sd.head
    simp only [Int.toNat_natCast, hX, hY, hZ, hm]
    simp
  have HF1 : Hid (∀ W, Calls Try.prog 29 #[.int .i64 (l : Int), .int .i64 2] W fun e w' => ∃ A c, e = .returned (.tuple #[.slice A 2 c, .int .i64 0]) ∧ Hid (RB w' w'.heap.size A X) ∧ Below W.heap.size W w') := fun W =>
    (refFix_any l 2 W (by omega) (by omega) (by omega)).mono fun e w' hh => by
      obtain ⟨A2, c2, he, ho, hb⟩ := hh.1 (by omega)
      rw [← hX, lX] at he
      rw [← hX] at ho
      exact ⟨A2, c2, he, own_rb ho, hb⟩
  have HF2 : Hid (∀ W, Calls Try.prog 29 #[.int .i64 (ep : Int), .int .i64 4] W fun e w' => ∃ A c, e = .returned (.tuple #[.slice A 4 c, .int .i64 0]) ∧ Hid (RB w' w'.heap.size A Y) ∧ Below W.heap.size W w') := fun W =>
    (refFix_any ep 4 W (by omega) (by omega) (by omega)).mono fun e w' hh => by
      obtain ⟨A2, c2, he, ho, hb⟩ := hh.1 (by omega)
      rw [← hY, lY] at he
      rw [← hY] at ho
      exact ⟨A2, c2, he, own_rb ho, hb⟩
  have HF3 : Hid (∀ W, Calls Try.prog 29 #[.int .i64 (n : Int), .int .i64 4] W fun e w' => ∃ A c, e = .returned (.tuple #[.slice A 4 c, .int .i64 0]) ∧ Hid (RB w' w'.heap.size A Z) ∧ Below W.heap.size W w') := fun W =>
    (refFix_any n 4 W (by omega) (by omega) (by omega)).mono fun e w' hh => by
      obtain ⟨A2, c2, he, ho, hb⟩ := hh.1 (by omega)
      rw [← hZ, lZ] at he
      rw [← hZ] at ho
      exact ⟨A2, c2, he, own_rb ho, hb⟩
  have HB : Hid (Below w.heap.size w (w.alloc (.cells #[.int .i64 (k : Int), .int .i64 (ep : Int), .int .i64 (n : Int), .int .i64 (l : Int), .slice A m c] 70))) := (Below.refl _ _).alloc (Nat.le_refl _) _
  have HC : Hid (∀ W, Below (w.alloc (.cells #[.int .i64 (k : Int), .int .i64 (ep : Int), .int .i64 (n : Int), .int .i64 (l : Int), .slice A m c] 70)).heap.size (w.alloc (.cells #[.int .i64 (k : Int), .int .i64 (ep : Int), .int .i64 (n : Int), .int .i64 (l : Int), .slice A m c] 70)) W → W.cell? ⟨w.heap.size, 0, none⟩ = some (.int .i64 (k : Int)) ∧ W.cell? ⟨w.heap.size, 1, none⟩ = some (.int .i64 (ep : Int)) ∧ W.cell? ⟨w.heap.size, 2, none⟩ = some (.int .i64 (n : Int)) ∧ W.cell? ⟨w.heap.size, 3, none⟩ = some (.int .i64 (l : Int)) ∧ W.cell? ⟨w.heap.size, 4, none⟩ = some (.slice A m c)) := fun W hb => by
    have h0 : SecAt (w.alloc (.cells #[.int .i64 (k : Int), .int .i64 (ep : Int), .int .i64 (n : Int), .int .i64 (l : Int), .slice A m c] 70)) w.heap.size ⟨(k : Int), (ep : Int), (n : Int), (l : Int), D⟩ A c := by rw [hm]; exact Blk.new w _ _
    have h1 := (h0.below hb).all
    simp only at h1
    rw [← hm] at h1
    exact h1
  have a24 := fun w' => Try.aggSec w'
  have s24 := fun w' => Try.sizeSec w'
  have HD := Lib.hid hr
  have Hm := Lib.hid hm
  have HL : Hid (X.length = 2 ∧ Y.length = 4 ∧ Z.length = 4) := ⟨lX, lY, lZ⟩
  have hk256 : k < 256 := by omega
  unfold secV at HM ⊢
  simp only at HM ⊢
  rw [← hm] at HM ⊢
  clear hm hr hX hY hZ lX lY lZ h1 h2 h3 h4 h5 h6 h7 h8 h9
  go_enter Try.func30, Try.ntmps30
  go_wp2_with (first
    | (go_at_call 68; (with_reducible refine (HM.out _).mono ?_); rintro e w1 ⟨rfl, hb1⟩; obtain ⟨p0, p1, p2, p3, p4⟩ := HC.out _ hb1)
    | (go_at_call 29; (with_reducible refine (HF1.out _).mono ?_); rintro e w2 ⟨A2, c2, rfl, r2, hb2⟩; have hb2 := chain7 hb1 hb2; clear p0 p1 p2 p3 p4; obtain ⟨p0, p1, p2, p3, p4⟩ := HC.out _ hb2)
    | (go_at_call 29; (with_reducible refine (HF2.out _).mono ?_); rintro e w3 ⟨A3, c3, rfl, r3, kb3⟩; have hb3 := chain7 hb2 kb3; clear p0 p1 p2 p3 p4; obtain ⟨p0, p1, p2, p3, p4⟩ := HC.out _ hb3)
    | (go_at_call 29; (with_reducible refine (HF3.out _).mono ?_); rintro e w4 ⟨A4, c4, rfl, r4, kb4⟩; have hb4 := chain7 hb3 kb4; clear p0 p1 p2 p3 p4; obtain ⟨p0, p1, p2, p3, p4⟩ := HC.out _ hb4))
  have hsz : w.heap.size ≤ w4.heap.size := Nat.le_trans HB.out.size hb4.size
  have hO := byte2_new k m hk256 (by omega) w4.heap.size w4 (Nat.le_refl _)
  have hbB : Below w.heap.size w (w4.alloc (.cells #[.int .u8 (k : Int), .int .u8 (m : Int)] 5)) := (chain7 HB.out hb4).alloc hsz _
  have hA4 : Below w4.heap.size w4 (w4.alloc (.cells #[.int .u8 (k : Int), .int .u8 (m : Int)] 5)) := (Below.refl _ _).alloc (Nat.le_refl _) _
  have q2 := (rb_up7 (rb_up7 r2.out kb3) kb4).below hA4
  have q3 := (rb_up7 r3.out kb4).below hA4
  have q4 := r4.out.below hA4
  have q5 := (rb_up7 HD.out (chain7 HB.out hb4)).below hA4
  have hlt : w.heap.size < w4.heap.size := Nat.lt_of_lt_of_le (by simp) hb4.size
  have hsB := hA4.size
  obtain ⟨-, -, -, -, p5⟩ := HC.out _ (chain7 hb4 hA4)
  generalize (w4.alloc (.cells #[.int .u8 (k : Int), .int .u8 (m : Int)] 5)) = WB at hO hbB q2 q3 q4 q5 p5 hsB ⊢
  generalize w4.heap.size = g4 at hO q2 q3 q4 q5 hlt hsB ⊢
  clear p0 p1 p2 p3 p4 hb1 hb2 hb3 hb4 kb3 kb4 hA4 r2 r3 r4 hsz HM HF1 HF2 HF3 HC a24 s24
  have HQ : Hid (∀ W, Below g4 WB W → Reads W g4 1 A2 2 (cells X) ∧ Reads W g4 1 A3 4 (cells Y) ∧ Reads W g4 1 A4 4 (cells Z) ∧ Reads W g4 1 A m (cells D)) := fun W hb => by
    obtain ⟨l1, l2, l3⟩ := HL.out
    have z2 := q2.below hb
    have z3 := q3.below hb
    have z4 := q4.below hb
    have z5 := q5.below hb
    unfold RB at z2 z3 z4 z5
    rw [l1] at z2
    rw [l2] at z3
    rw [l3] at z4
    rw [← Hm.out] at z5
    exact ⟨z2, z3, z4, z5⟩
  have HP : Hid (∀ W, Below g4 WB W → W.cell? ⟨w.heap.size, 4, none⟩ = some (.slice A m c)) := fun W hb => (hb.cell (p := ⟨w.heap.size, 4, none⟩) hlt).trans p5
  clear q2 q3 q4 q5
  have b0 : Below g4 WB WB.drew := (Below.refl _ _).drew
  have hO0 := hO.drew
  have s0 := HP.out _ b0
  have hz0' : g4 ≤ WB.drew.heap.size := hsB
  clear hO p5
  obtain ⟨t8, ht8⟩ : ∃ t8, t8 = 12 + m := ⟨_, rfl⟩
  have Ht8 : Hid (t8 = 12 + m) := ht8
  have ht60 : t8 ≤ 60 := by omega
  refine region_T (fun W => W.cell? ⟨w.heap.size, 4, none⟩ = some (.slice A m c)) (fun j => decide (10 ≤ j)) (by kernel_rfl) ?_
  generalize WB.drew = W at b0 hO0 s0 hz0' ⊢
  refine any_asT (a' := ⟨#[.agg #[.int .i64 (k : Int), .int .i64 (ep : Int), .int .i64 (n : Int), .int .i64 (l : Int), .slice A m c], .pointer (some ⟨w.heap.size, 0, none⟩), .slice none 0 0, .int .i64 0, .slice A2 2 c2, .int .i64 0, .slice A3 4 c3, .int .i64 0, .slice A4 4 c4, .int .i64 0, .slice (some ⟨g4, 0, none⟩) 2 2, .agg #[.int .i64 (k : Int), .int .i64 (ep : Int), .int .i64 (n : Int), .int .i64 (l : Int), .slice A m c], .bool true, .bool false, .tuple #[.slice A2 2 c2, .int .i64 0], .pointer (some ⟨w.heap.size, 3, none⟩), .int .i64 (l : Int), .tuple #[.slice A2 2 c2, .int .i64 0], .slice A2 2 c2, .int .i64 0, .tuple #[.slice A3 4 c3, .int .i64 0], .pointer (some ⟨w.heap.size, 1, none⟩), .int .i64 (ep : Int), .tuple #[.slice A3 4 c3, .int .i64 0], .slice A3 4 c3, .int .i64 0, .tuple #[.slice A4 4 c4, .int .i64 0], .pointer (some ⟨w.heap.size, 2, none⟩), .int .i64 (n : Int), .tuple #[.slice A4 4 c4, .int .i64 0], .slice A4 4 c4, .int .i64 0, .pointer (some ⟨w.heap.size, 0, none⟩), .int .i64 (k : Int), .int .u8 (k : Int), .pointer (some ⟨w.heap.size, 4, none⟩), .slice A m c, .int .i64 (m : Int), .int .u8 (m : Int), .slice (some ⟨g4, 0, none⟩) 2 2, undef, undef, undef, undef, undef, undef, undef, undef, undef, undef, undef, undef, undef, undef, undef, undef, undef, undef], []⟩) (by kernel_rfl) (listed' := #[false, false, false, false, false, false, false, false, false, false, false]) (by kernel_rfl) ?_
  refine any_take (i := 0) (.slice (some ⟨g4, 0, none⟩) 2 2) rfl (by kernel_rfl) (by kernel_rfl) (by kernel_rfl) rfl (by kernel_rfl) (by kernel_rfl) (fun W hW => by kernel_rfl) s0 (listed' := #[true, false, false, false, false, false, false, false, false, false, false]) (a' := ⟨#[.agg #[.int .i64 (k : Int), .int .i64 (ep : Int), .int .i64 (n : Int), .int .i64 (l : Int), .slice A m c], .pointer (some ⟨w.heap.size, 0, none⟩), .slice none 0 0, .int .i64 0, .slice A2 2 c2, .int .i64 0, .slice A3 4 c3, .int .i64 0, .slice A4 4 c4, .int .i64 0, .slice (some ⟨g4, 0, none⟩) 2 2, .agg #[.int .i64 (k : Int), .int .i64 (ep : Int), .int .i64 (n : Int), .int .i64 (l : Int), .slice A m c], .bool true, .bool false, .tuple #[.slice A2 2 c2, .int .i64 0], .pointer (some ⟨w.heap.size, 3, none⟩), .int .i64 (l : Int), .tuple #[.slice A2 2 c2, .int .i64 0], .slice A2 2 c2, .int .i64 0, .tuple #[.slice A3 4 c3, .int .i64 0], .pointer (some ⟨w.heap.size, 1, none⟩), .int .i64 (ep : Int), .tuple #[.slice A3 4 c3, .int .i64 0], .slice A3 4 c3, .int .i64 0, .tuple #[.slice A4 4 c4, .int .i64 0], .pointer (some ⟨w.heap.size, 2, none⟩), .int .i64 (n : Int), .tuple #[.slice A4 4 c4, .int .i64 0], .slice A4 4 c4, .int .i64 0, .pointer (some ⟨w.heap.size, 0, none⟩), .int .i64 (k : Int), .int .u8 (k : Int), .pointer (some ⟨w.heap.size, 4, none⟩), .slice A m c, .int .i64 (m : Int), .int .u8 (m : Int), .slice (some ⟨g4, 0, none⟩) 2 2, .slice (some ⟨g4, 0, none⟩) 2 2, undef, undef, undef, undef, undef, undef, undef, undef, undef, undef, undef, undef, undef, undef, undef, undef, undef], []⟩) (by kernel_rfl) (by kernel_rfl) (fun _ _ _ h => h) ?_
  refine any_take (i := 1) (.slice A2 2 c2) rfl (by kernel_rfl) (by kernel_rfl) (by kernel_rfl) rfl (by kernel_rfl) (by kernel_rfl) (fun W hW => by kernel_rfl) s0 (listed' := #[true, true, false, false, false, false, false, false, false, false, false]) (a' := ⟨#[.agg #[.int .i64 (k : Int), .int .i64 (ep : Int), .int .i64 (n : Int), .int .i64 (l : Int), .slice A m c], .pointer (some ⟨w.heap.size, 0, none⟩), .slice none 0 0, .int .i64 0, .slice A2 2 c2, .int .i64 0, .slice A3 4 c3, .int .i64 0, .slice A4 4 c4, .int .i64 0, .slice (some ⟨g4, 0, none⟩) 2 2, .agg #[.int .i64 (k : Int), .int .i64 (ep : Int), .int .i64 (n : Int), .int .i64 (l : Int), .slice A m c], .bool true, .bool false, .tuple #[.slice A2 2 c2, .int .i64 0], .pointer (some ⟨w.heap.size, 3, none⟩), .int .i64 (l : Int), .tuple #[.slice A2 2 c2, .int .i64 0], .slice A2 2 c2, .int .i64 0, .tuple #[.slice A3 4 c3, .int .i64 0], .pointer (some ⟨w.heap.size, 1, none⟩), .int .i64 (ep : Int), .tuple #[.slice A3 4 c3, .int .i64 0], .slice A3 4 c3, .int .i64 0, .tuple #[.slice A4 4 c4, .int .i64 0], .pointer (some ⟨w.heap.size, 2, none⟩), .int .i64 (n : Int), .tuple #[.slice A4 4 c4, .int .i64 0], .slice A4 4 c4, .int .i64 0, .pointer (some ⟨w.heap.size, 0, none⟩), .int .i64 (k : Int), .int .u8 (k : Int), .pointer (some ⟨w.heap.size, 4, none⟩), .slice A m c, .int .i64 (m : Int), .int .u8 (m : Int), .slice (some ⟨g4, 0, none⟩) 2 2, .slice (some ⟨g4, 0, none⟩) 2 2, .slice A2 2 c2, undef, undef, undef, undef, undef, undef, undef, undef, undef, undef, undef, undef, undef, undef, undef, undef], []⟩) (by kernel_rfl) (by kernel_rfl) (fun _ _ _ h => h) ?_
  refine any_take (i := 3) (.slice A3 4 c3) rfl (by kernel_rfl) (by kernel_rfl) (by kernel_rfl) rfl (by kernel_rfl) (by kernel_rfl) (fun W hW => by kernel_rfl) s0 (listed' := #[true, true, false, true, false, false, false, false, false, false, false]) (a' := ⟨#[.agg #[.int .i64 (k : Int), .int .i64 (ep : Int), .int .i64 (n : Int), .int .i64 (l : Int), .slice A m c], .pointer (some ⟨w.heap.size, 0, none⟩), .slice none 0 0, .int .i64 0, .slice A2 2 c2, .int .i64 0, .slice A3 4 c3, .int .i64 0, .slice A4 4 c4, .int .i64 0, .slice (some ⟨g4, 0, none⟩) 2 2, .agg #[.int .i64 (k : Int), .int .i64 (ep : Int), .int .i64 (n : Int), .int .i64 (l : Int), .slice A m c], .bool true, .bool false, .tuple #[.slice A2 2 c2, .int .i64 0], .pointer (some ⟨w.heap.size, 3, none⟩), .int .i64 (l : Int), .tuple #[.slice A2 2 c2, .int .i64 0], .slice A2 2 c2, .int .i64 0, .tuple #[.slice A3 4 c3, .int .i64 0], .pointer (some ⟨w.heap.size, 1, none⟩), .int .i64 (ep : Int), .tuple #[.slice A3 4 c3, .int .i64 0], .slice A3 4 c3, .int .i64 0, .tuple #[.slice A4 4 c4, .int .i64 0], .pointer (some ⟨w.heap.size, 2, none⟩), .int .i64 (n : Int), .tuple #[.slice A4 4 c4, .int .i64 0], .slice A4 4 c4, .int .i64 0, .pointer (some ⟨w.heap.size, 0, none⟩), .int .i64 (k : Int), .int .u8 (k : Int), .pointer (some ⟨w.heap.size, 4, none⟩), .slice A m c, .int .i64 (m : Int), .int .u8 (m : Int), .slice (some ⟨g4, 0, none⟩) 2 2, .slice (some ⟨g4, 0, none⟩) 2 2, .slice A2 2 c2, undef, .slice A3 4 c3, undef, undef, undef, undef, undef, undef, undef, undef, undef, undef, undef, undef, undef, undef], []⟩) (by kernel_rfl) (by kernel_rfl) (fun _ _ _ h => h) ?_
  refine any_take (i := 5) (.slice A4 4 c4) rfl (by kernel_rfl) (by kernel_rfl) (by kernel_rfl) rfl (by kernel_rfl) (by kernel_rfl) (fun W hW => by kernel_rfl) s0 (listed' := #[true, true, false, true, false, true, false, false, false, false, false]) (a' := ⟨#[.agg #[.int .i64 (k : Int), .int .i64 (ep : Int), .int .i64 (n : Int), .int .i64 (l : Int), .slice A m c], .pointer (some ⟨w.heap.size, 0, none⟩), .slice none 0 0, .int .i64 0, .slice A2 2 c2, .int .i64 0, .slice A3 4 c3, .int .i64 0, .slice A4 4 c4, .int .i64 0, .slice (some ⟨g4, 0, none⟩) 2 2, .agg #[.int .i64 (k : Int), .int .i64 (ep : Int), .int .i64 (n : Int), .int .i64 (l : Int), .slice A m c], .bool true, .bool false, .tuple #[.slice A2 2 c2, .int .i64 0], .pointer (some ⟨w.heap.size, 3, none⟩), .int .i64 (l : Int), .tuple #[.slice A2 2 c2, .int .i64 0], .slice A2 2 c2, .int .i64 0, .tuple #[.slice A3 4 c3, .int .i64 0], .pointer (some ⟨w.heap.size, 1, none⟩), .int .i64 (ep : Int), .tuple #[.slice A3 4 c3, .int .i64 0], .slice A3 4 c3, .int .i64 0, .tuple #[.slice A4 4 c4, .int .i64 0], .pointer (some ⟨w.heap.size, 2, none⟩), .int .i64 (n : Int), .tuple #[.slice A4 4 c4, .int .i64 0], .slice A4 4 c4, .int .i64 0, .pointer (some ⟨w.heap.size, 0, none⟩), .int .i64 (k : Int), .int .u8 (k : Int), .pointer (some ⟨w.heap.size, 4, none⟩), .slice A m c, .int .i64 (m : Int), .int .u8 (m : Int), .slice (some ⟨g4, 0, none⟩) 2 2, .slice (some ⟨g4, 0, none⟩) 2 2, .slice A2 2 c2, undef, .slice A3 4 c3, undef, .slice A4 4 c4, undef, undef, undef, undef, undef, undef, undef, undef, undef, undef, undef, undef], []⟩) (by kernel_rfl) (by kernel_rfl) (fun _ _ _ h => h) ?_
  refine any_take (i := 7) (.pointer (some ⟨w.heap.size, 4, none⟩)) rfl (by kernel_rfl) (by kernel_rfl) (by kernel_rfl) rfl (by kernel_rfl) (by kernel_rfl) (fun W hW => by kernel_rfl) s0 (listed' := #[true, true, false, true, false, true, false, true, false, false, false]) (a' := ⟨#[.agg #[.int .i64 (k : Int), .int .i64 (ep : Int), .int .i64 (n : Int), .int .i64 (l : Int), .slice A m c], .pointer (some ⟨w.heap.size, 0, none⟩), .slice none 0 0, .int .i64 0, .slice A2 2 c2, .int .i64 0, .slice A3 4 c3, .int .i64 0, .slice A4 4 c4, .int .i64 0, .slice (some ⟨g4, 0, none⟩) 2 2, .agg #[.int .i64 (k : Int), .int .i64 (ep : Int), .int .i64 (n : Int), .int .i64 (l : Int), .slice A m c], .bool true, .bool false, .tuple #[.slice A2 2 c2, .int .i64 0], .pointer (some ⟨w.heap.size, 3, none⟩), .int .i64 (l : Int), .tuple #[.slice A2 2 c2, .int .i64 0], .slice A2 2 c2, .int .i64 0, .tuple #[.slice A3 4 c3, .int .i64 0], .pointer (some ⟨w.heap.size, 1, none⟩), .int .i64 (ep : Int), .tuple #[.slice A3 4 c3, .int .i64 0], .slice A3 4 c3, .int .i64 0, .tuple #[.slice A4 4 c4, .int .i64 0], .pointer (some ⟨w.heap.size, 2, none⟩), .int .i64 (n : Int), .tuple #[.slice A4 4 c4, .int .i64 0], .slice A4 4 c4, .int .i64 0, .pointer (some ⟨w.heap.size, 0, none⟩), .int .i64 (k : Int), .int .u8 (k : Int), .pointer (some ⟨w.heap.size, 4, none⟩), .slice A m c, .int .i64 (m : Int), .int .u8 (m : Int), .slice (some ⟨g4, 0, none⟩) 2 2, .slice (some ⟨g4, 0, none⟩) 2 2, .slice A2 2 c2, undef, .slice A3 4 c3, undef, .slice A4 4 c4, undef, .pointer (some ⟨w.heap.size, 4, none⟩), undef, undef, undef, undef, undef, undef, undef, undef, undef, undef], []⟩) (by kernel_rfl) (by kernel_rfl) (fun _ _ _ h => h) ?_
  refine any_take (i := 8) (.slice A m c) rfl (by kernel_rfl) (by kernel_rfl) (by kernel_rfl) rfl (by kernel_rfl) (by kernel_rfl) (fun W hW => cell_run 26 (.tmp 47) ⟨w.heap.size, 4, none⟩ (.slice A m c) _ (by kernel_rfl) (by kernel_rfl) hW Try.underlying26 rfl (by kernel_rfl)) s0 (listed' := #[true, true, false, true, false, true, false, true, true, false, false]) (a' := ⟨#[.agg #[.int .i64 (k : Int), .int .i64 (ep : Int), .int .i64 (n : Int), .int .i64 (l : Int), .slice A m c], .pointer (some ⟨w.heap.size, 0, none⟩), .slice none 0 0, .int .i64 0, .slice A2 2 c2, .int .i64 0, .slice A3 4 c3, .int .i64 0, .slice A4 4 c4, .int .i64 0, .slice (some ⟨g4, 0, none⟩) 2 2, .agg #[.int .i64 (k : Int), .int .i64 (ep : Int), .int .i64 (n : Int), .int .i64 (l : Int), .slice A m c], .bool true, .bool false, .tuple #[.slice A2 2 c2, .int .i64 0], .pointer (some ⟨w.heap.size, 3, none⟩), .int .i64 (l : Int), .tuple #[.slice A2 2 c2, .int .i64 0], .slice A2 2 c2, .int .i64 0, .tuple #[.slice A3 4 c3, .int .i64 0], .pointer (some ⟨w.heap.size, 1, none⟩), .int .i64 (ep : Int), .tuple #[.slice A3 4 c3, .int .i64 0], .slice A3 4 c3, .int .i64 0, .tuple #[.slice A4 4 c4, .int .i64 0], .pointer (some ⟨w.heap.size, 2, none⟩), .int .i64 (n : Int), .tuple #[.slice A4 4 c4, .int .i64 0], .slice A4 4 c4, .int .i64 0, .pointer (some ⟨w.heap.size, 0, none⟩), .int .i64 (k : Int), .int .u8 (k : Int), .pointer (some ⟨w.heap.size, 4, none⟩), .slice A m c, .int .i64 (m : Int), .int .u8 (m : Int), .slice (some ⟨g4, 0, none⟩) 2 2, .slice (some ⟨g4, 0, none⟩) 2 2, .slice A2 2 c2, undef, .slice A3 4 c3, undef, .slice A4 4 c4, undef, .pointer (some ⟨w.heap.size, 4, none⟩), .slice A m c, undef, undef, undef, undef, undef, undef, undef, undef, undef], []⟩) (by kernel_rfl) (by kernel_rfl) (fun _ _ _ h => h) ?_
  refine any_comes (i := 2) (by kernel_rfl) (op_append rfl (by kernel_rfl) (.tmp 40) (.tmp 41) 26 rfl g4 5 i0 _ 1 1 Try.underlying26 hi0 hz0 hz1 hz2 rfl (by omega) (.slice (some ⟨g4, 0, none⟩) 2 2) (2) (cells [UInt8.ofNat k, UInt8.ofNat m]) (by kernel_rfl) hO0 g4 A2 2 c2 (cells X) (by kernel_rfl) (HQ.out _ b0).1 (cells_one _) (by unfold maxLen; omega) (by omega) hz0' ?_)
  intro v5 w5 ho5 hg5 hat5
  rw [show 2 + 2 = 4 by omega] at ho5
  have b5 : Below g4 WB w5 := b0.grown hg5 hz0' (fun j hj => (hO0.lt j hj).1)
  have s5 := HP.out _ b5
  have z5 : g4 ≤ w5.heap.size := Nat.le_trans hsB b5.size
  obtain ⟨A5, c5, hv5⟩ := own_form ho5
  subst hv5
  refine ⟨s5, ?_⟩
  refine any_asT (a' := ⟨#[.agg #[.int .i64 (k : Int), .int .i64 (ep : Int), .int .i64 (n : Int), .int .i64 (l : Int), .slice A m c], .pointer (some ⟨w.heap.size, 0, none⟩), .slice none 0 0, .int .i64 0, .slice A2 2 c2, .int .i64 0, .slice A3 4 c3, .int .i64 0, .slice A4 4 c4, .int .i64 0, .slice (some ⟨g4, 0, none⟩) 2 2, .agg #[.int .i64 (k : Int), .int .i64 (ep : Int), .int .i64 (n : Int), .int .i64 (l : Int), .slice A m c], .bool true, .bool false, .tuple #[.slice A2 2 c2, .int .i64 0], .pointer (some ⟨w.heap.size, 3, none⟩), .int .i64 (l : Int), .tuple #[.slice A2 2 c2, .int .i64 0], .slice A2 2 c2, .int .i64 0, .tuple #[.slice A3 4 c3, .int .i64 0], .pointer (some ⟨w.heap.size, 1, none⟩), .int .i64 (ep : Int), .tuple #[.slice A3 4 c3, .int .i64 0], .slice A3 4 c3, .int .i64 0, .tuple #[.slice A4 4 c4, .int .i64 0], .pointer (some ⟨w.heap.size, 2, none⟩), .int .i64 (n : Int), .tuple #[.slice A4 4 c4, .int .i64 0], .slice A4 4 c4, .int .i64 0, .pointer (some ⟨w.heap.size, 0, none⟩), .int .i64 (k : Int), .int .u8 (k : Int), .pointer (some ⟨w.heap.size, 4, none⟩), .slice A m c, .int .i64 (m : Int), .int .u8 (m : Int), .slice (some ⟨g4, 0, none⟩) 2 2, .slice (some ⟨g4, 0, none⟩) 2 2, .slice A2 2 c2, .slice A5 4 c5, .slice A3 4 c3, undef, .slice A4 4 c4, undef, .pointer (some ⟨w.heap.size, 4, none⟩), .slice A m c, undef, undef, undef, undef, undef, undef, undef, undef, undef], []⟩) (by kernel_rfl) (listed' := #[true, true, true, true, false, true, false, true, true, false, false]) (by kernel_rfl) ?_
  refine any_comes (i := 4) (by kernel_rfl) (op_append rfl (by kernel_rfl) (.tmp 42) (.tmp 43) 26 rfl g4 5 i0 _ 1 1 Try.underlying26 hi0 hz0 hz1 hz2 rfl (by omega) (.slice A5 4 c5) (4) (cells [UInt8.ofNat k, UInt8.ofNat m] ++ cells X) (by kernel_rfl) ho5 g4 A3 4 c3 (cells Y) (by kernel_rfl) (HQ.out _ b5).2.1 (cells_one _) (by unfold maxLen; omega) (by omega) z5 ?_)
  intro v6 w6 ho6 hg6 hat6
  rw [show 4 + 4 = 8 by omega] at ho6
  have b6 : Below g4 WB w6 := b5.grown hg6 z5 (fun j hj => (ho5.lt j hj).1)
  have s6 := HP.out _ b6
  have z6 : g4 ≤ w6.heap.size := Nat.le_trans hsB b6.size
  obtain ⟨A6, c6, hv6⟩ := own_form ho6
  subst hv6
  refine ⟨s6, ?_⟩
  refine any_asT (a' := ⟨#[.agg #[.int .i64 (k : Int), .int .i64 (ep : Int), .int .i64 (n : Int), .int .i64 (l : Int), .slice A m c], .pointer (some ⟨w.heap.size, 0, none⟩), .slice none 0 0, .int .i64 0, .slice A2 2 c2, .int .i64 0, .slice A3 4 c3, .int .i64 0, .slice A4 4 c4, .int .i64 0, .slice (some ⟨g4, 0, none⟩) 2 2, .agg #[.int .i64 (k : Int), .int .i64 (ep : Int), .int .i64 (n : Int), .int .i64 (l : Int), .slice A m c], .bool true, .bool false, .tuple #[.slice A2 2 c2, .int .i64 0], .pointer (some ⟨w.heap.size, 3, none⟩), .int .i64 (l : Int), .tuple #[.slice A2 2 c2, .int .i64 0], .slice A2 2 c2, .int .i64 0, .tuple #[.slice A3 4 c3, .int .i64 0], .pointer (some ⟨w.heap.size, 1, none⟩), .int .i64 (ep : Int), .tuple #[.slice A3 4 c3, .int .i64 0], .slice A3 4 c3, .int .i64 0, .tuple #[.slice A4 4 c4, .int .i64 0], .pointer (some ⟨w.heap.size, 2, none⟩), .int .i64 (n : Int), .tuple #[.slice A4 4 c4, .int .i64 0], .slice A4 4 c4, .int .i64 0, .pointer (some ⟨w.heap.size, 0, none⟩), .int .i64 (k : Int), .int .u8 (k : Int), .pointer (some ⟨w.heap.size, 4, none⟩), .slice A m c, .int .i64 (m : Int), .int .u8 (m : Int), .slice (some ⟨g4, 0, none⟩) 2 2, .slice (some ⟨g4, 0, none⟩) 2 2, .slice A2 2 c2, .slice A5 4 c5, .slice A3 4 c3, .slice A6 8 c6, .slice A4 4 c4, undef, .pointer (some ⟨w.heap.size, 4, none⟩), .slice A m c, undef, undef, undef, undef, undef, undef, undef, undef, undef], []⟩) (by kernel_rfl) (listed' := #[true, true, true, true, true, true, false, true, true, false, false]) (by kernel_rfl) ?_
  refine any_comes (i := 6) (by kernel_rfl) (op_append rfl (by kernel_rfl) (.tmp 44) (.tmp 45) 26 rfl g4 5 i0 _ 1 1 Try.underlying26 hi0 hz0 hz1 hz2 rfl (by omega) (.slice A6 8 c6) (8) (cells [UInt8.ofNat k, UInt8.ofNat m] ++ cells X ++ cells Y) (by kernel_rfl) ho6 g4 A4 4 c4 (cells Z) (by kernel_rfl) (HQ.out _ b6).2.2.1 (cells_one _) (by unfold maxLen; omega) (by omega) z6 ?_)
  intro v7 w7 ho7 hg7 hat7
  rw [show 8 + 4 = 12 by omega] at ho7
  have b7 : Below g4 WB w7 := b6.grown hg7 z6 (fun j hj => (ho6.lt j hj).1)
  have s7 := HP.out _ b7
  have z7 : g4 ≤ w7.heap.size := Nat.le_trans hsB b7.size
  obtain ⟨A7, c7, hv7⟩ := own_form ho7
  subst hv7
  refine ⟨s7, ?_⟩
  refine any_asT (a' := ⟨#[.agg #[.int .i64 (k : Int), .int .i64 (ep : Int), .int .i64 (n : Int), .int .i64 (l : Int), .slice A m c], .pointer (some ⟨w.heap.size, 0, none⟩), .slice none 0 0, .int .i64 0, .slice A2 2 c2, .int .i64 0, .slice A3 4 c3, .int .i64 0, .slice A4 4 c4, .int .i64 0, .slice (some ⟨g4, 0, none⟩) 2 2, .agg #[.int .i64 (k : Int), .int .i64 (ep : Int), .int .i64 (n : Int), .int .i64 (l : Int), .slice A m c], .bool true, .bool false, .tuple #[.slice A2 2 c2, .int .i64 0], .pointer (some ⟨w.heap.size, 3, none⟩), .int .i64 (l : Int), .tuple #[.slice A2 2 c2, .int .i64 0], .slice A2 2 c2, .int .i64 0, .tuple #[.slice A3 4 c3, .int .i64 0], .pointer (some ⟨w.heap.size, 1, none⟩), .int .i64 (ep : Int), .tuple #[.slice A3 4 c3, .int .i64 0], .slice A3 4 c3, .int .i64 0, .tuple #[.slice A4 4 c4, .int .i64 0], .pointer (some ⟨w.heap.size, 2, none⟩), .int .i64 (n : Int), .tuple #[.slice A4 4 c4, .int .i64 0], .slice A4 4 c4, .int .i64 0, .pointer (some ⟨w.heap.size, 0, none⟩), .int .i64 (k : Int), .int .u8 (k : Int), .pointer (some ⟨w.heap.size, 4, none⟩), .slice A m c, .int .i64 (m : Int), .int .u8 (m : Int), .slice (some ⟨g4, 0, none⟩) 2 2, .slice (some ⟨g4, 0, none⟩) 2 2, .slice A2 2 c2, .slice A5 4 c5, .slice A3 4 c3, .slice A6 8 c6, .slice A4 4 c4, .slice A7 12 c7, .pointer (some ⟨w.heap.size, 4, none⟩), .slice A m c, undef, undef, undef, undef, undef, undef, undef, undef, undef], []⟩) (by kernel_rfl) (listed' := #[true, true, true, true, true, true, true, true, true, false, false]) (by kernel_rfl) ?_
  refine any_comes (i := 9) (by kernel_rfl) (op_append rfl (by kernel_rfl) (.tmp 46) (.tmp 48) 26 rfl g4 5 i0 _ 1 1 Try.underlying26 hi0 hz0 hz1 hz2 rfl (by omega) (.slice A7 12 c7) (12) (cells [UInt8.ofNat k, UInt8.ofNat m] ++ cells X ++ cells Y ++ cells Z) (by kernel_rfl) ho7 g4 A m c (cells D) (by kernel_rfl) (HQ.out _ b7).2.2.2 (cells_one _) (by unfold maxLen; omega) (by omega) z7 ?_)
  intro v8 w8 ho8 hg8 hat8
  rw [show 12 + m = t8 by omega] at ho8
  have b8 : Below g4 WB w8 := b7.grown hg8 z7 (fun j hj => (ho7.lt j hj).1)
  have s8 := HP.out _ b8
  have z8 : g4 ≤ w8.heap.size := Nat.le_trans hsB b8.size
  obtain ⟨A8, c8, hv8⟩ := own_form ho8
  subst hv8
  refine ⟨s8, ?_⟩
  refine any_asT (a' := ⟨#[.agg #[.int .i64 (k : Int), .int .i64 (ep : Int), .int .i64 (n : Int), .int .i64 (l : Int), .slice A m c], .pointer (some ⟨w.heap.size, 0, none⟩), .slice none 0 0, .int .i64 0, .slice A2 2 c2, .int .i64 0, .slice A3 4 c3, .int .i64 0, .slice A4 4 c4, .int .i64 0, .slice (some ⟨g4, 0, none⟩) 2 2, .agg #[.int .i64 (k : Int), .int .i64 (ep : Int), .int .i64 (n : Int), .int .i64 (l : Int), .slice A m c], .bool true, .bool false, .tuple #[.slice A2 2 c2, .int .i64 0], .pointer (some ⟨w.heap.size, 3, none⟩), .int .i64 (l : Int), .tuple #[.slice A2 2 c2, .int .i64 0], .slice A2 2 c2, .int .i64 0, .tuple #[.slice A3 4 c3, .int .i64 0], .pointer (some ⟨w.heap.size, 1, none⟩), .int .i64 (ep : Int), .tuple #[.slice A3 4 c3, .int .i64 0], .slice A3 4 c3, .int .i64 0, .tuple #[.slice A4 4 c4, .int .i64 0], .pointer (some ⟨w.heap.size, 2, none⟩), .int .i64 (n : Int), .tuple #[.slice A4 4 c4, .int .i64 0], .slice A4 4 c4, .int .i64 0, .pointer (some ⟨w.heap.size, 0, none⟩), .int .i64 (k : Int), .int .u8 (k : Int), .pointer (some ⟨w.heap.size, 4, none⟩), .slice A m c, .int .i64 (m : Int), .int .u8 (m : Int), .slice (some ⟨g4, 0, none⟩) 2 2, .slice (some ⟨g4, 0, none⟩) 2 2, .slice A2 2 c2, .slice A5 4 c5, .slice A3 4 c3, .slice A6 8 c6, .slice A4 4 c4, .slice A7 12 c7, .pointer (some ⟨w.heap.size, 4, none⟩), .slice A m c, .slice A8 t8 c8, undef, undef, undef, undef, undef, undef, undef, undef], []⟩) (by kernel_rfl) (listed' := #[true, true, true, true, true, true, true, true, true, true, false]) (by kernel_rfl) ?_
  refine any_left (by kernel_rfl) ?_
  refine wpAny_tail 10 (by kernel_rfl) (by kernel_rfl) ?_
  simp only [List.drop_succ_cons, List.drop_zero]
  obtain ⟨P, hP⟩ : ∃ P, P = [UInt8.ofNat k, UInt8.ofNat m] ++ X ++ Y ++ Z ++ D := ⟨_, rfl⟩
  have HP8 : Hid (P.length = 12 + m ∧ Sd.body ⟨(k : Int), (ep : Int), (n : Int), (l : Int), D⟩ = P ++ List.replicate (48 - m) 0) := by
    obtain ⟨l1, l2, l3⟩ := HL.out
    refine ⟨?_, by rw [hP]; exact HBd.out⟩
    rw [hP]
    simp only [List.length_append, List.length_cons, List.length_nil, l1, l2, l3, ← Hm.out]
  have HO : Hid (w8.ownsRow g4 5 1 (.slice A8 t8 c8) P.length (cells P)) := by
    show World.ownsRow _ _ _ _ _ _ _
    rw [HP8.out.1, hP]
    simp only [cells_append]
    have := ho8
    rw [Ht8.out] at this ⊢
    exact this
  have H8 : Hid (Below g4 WB w8 ∧ Below w.heap.size w WB ∧ w.heap.size ≤ g4 ∧ g4 ≤ WB.heap.size) := ⟨b8, hbB, Nat.le_of_lt hlt, hsB⟩
  clear ht8 HQ HP b0 hO0 s0 hz0' s5 z5 s6 z6 s7 z7 s8 z8 ho5 hg5 hat5 ho6 hg6 hat6 ho7 hg7 hat7 ho8 hg8 hat8 b5 b6 b7 b8 hP hbB hlt hsB
  go_wp2
  go_loopw [10] (fun v wr => ∃ (L : List UInt8) (A : Option Addr) (c q : Nat), v = .slice A q c ∧ q ≤ 60 ∧ Hid (q = L.length ∧ 12 + m ≤ q ∧ L = P ++ List.replicate (q - (12 + m)) 0) ∧ Hid (wr.ownsRow g4 5 1 (.slice A q c) L.length (cells L)) ∧ Hid (Below g4 WB wr)) (fun v _ => 60 - slLen v)
  case atStart => exact ⟨P, A8, c8, t8, rfl, ht60, ⟨by have := HP8.out.1; have := Ht8.out; omega, by have := Ht8.out; omega, by rw [Ht8.out, Nat.sub_self]; simp⟩, HO, H8.out.1⟩
  case round =>
    obtain ⟨L, A9, c9, q, rfl, hq, HI, HW, HBe⟩ := hrel
    by_cases hlt : q < 60
    · have d0 : decide ((q : Int) < 60) = true := decide_eq_true (by omega)
      have d1 : decide (q < 60) = true := decide_eq_true hlt
      go_wp2_with (at_builtin; refine append_byte rfl _ _ rfl 0 rfl HW.out HBe.out H8.out.2.2.2 rfl rfl (by have := HI.out.1; omega) ?_; intro v' w9 ho9 hb9)
      obtain ⟨i1, i2, i3⟩ := HI.out
      obtain ⟨A0, c0, rfl⟩ := own_form ho9
      have hln : (L ++ [0]).length = q + 1 := by rw [List.length_append, List.length_singleton, ← i1]
      have hls : L ++ [0] = P ++ List.replicate (q + 1 - (12 + m)) 0 := by rw [show q + 1 - (12 + m) = q - (12 + m) + 1 by omega, List.replicate_succ', ← List.append_assoc, ← i3]
      go_roundw
      case rel => exact ⟨L ++ [0], A0, c0, (L ++ [0]).length, rfl, by omega, ⟨rfl, by omega, by rw [hln]; exact hls⟩, Lib.hid ho9, Lib.hid hb9⟩
      case measure => simp only [slLen]; omega
    · obtain ⟨i1, i2, i3⟩ := HI.out
      obtain rfl : q = 60 := by omega
      have hbody : L = Sd.body ⟨(k : Int), (ep : Int), (n : Int), (l : Int), D⟩ := by rw [i3, HP8.out.2, show 60 - (12 + m) = 48 - m by omega]
      have hL60 : L.length = 60 := i1.symm
      have hrb : RB wr wr.heap.size A9 L := by
        have := HW.out
        rw [hL60] at this
        refine Reads.of_own (base := g4) (e := 5) (c := c9) ?_
        rw [hL60]; exact this
      have hbw : Below w.heap.size w wr := H8.out.2.1.trans (HBe.out.mono H8.out.2.2.1)
      have HSe : Hid (Calls Try.prog 69 #[.slice A9 60 c9] wr fun e w' => ∃ A c, e = .returned (.slice A 64 c) ∧ Hid (GivesBytes (Sd.bytes ⟨(k : Int), (ep : Int), (n : Int), (l : Int), D⟩) w (.returned (.tuple #[.slice A 64 c, .int .i64 0])) w')) := by
        have h1 := refSeal_any L A9 c9 wr.heap.size wr hrb (by omega)
        rw [hL60] at h1
        refine h1.mono fun e w' hh => ?_
        obtain ⟨A, c, he, ho, hb⟩ := hh
        have e1 : sealL L = Sd.bytes ⟨(k : Int), (ep : Int), (n : Int), (l : Int), D⟩ := by rw [hbody]; rfl
        have e2 : (sealL L).length = 64 := by rw [sealL_length, hL60]
        rw [e2] at he
        refine ⟨A, c, he, A, c, by rw [← e1, e2], ?_, chain7 hbw hb⟩
        rw [← e1]
        exact Joins.ownsRow_le ho hbw.size
      have d0 : decide ((60 : Int) < 60) = false := by decide
      clear hbody hL60 hrb hbw i1 i2 i3 HI HW HBe hlt
      go_wp2_with (go_at_call 69; (with_reducible refine HSe.out.mono ?_); rintro e w9 ⟨A0, c0, rfl, hG⟩)
      go_ret2
      exact hG.out
end Go.Proofs.Ytkockhggnbfahaa
end
section
set_option linter.unusedVariables false
namespace Go.Proofs.Ytkockhggnbfahaa
open Go.RowKit
def GivesView : Option (List UInt8) → World → Ending → World → Prop
  | some M, w, e, w' => ∃ A c, e = .returned (.tuple #[.slice A M.length c, .int .i64 0]) ∧ RB w' w'.heap.size A M ∧ Below w.heap.size w w'
  | none, w, e, w' => e = .returned (.tuple #[.slice none 0 0, .int .i64 12]) ∧ Below w.heap.size w w'
set_option maxRecDepth 100000 in
set_option maxHeartbeats 1000000 in
theorem refOpen_short (N : Nat) (A : Option Addr) (c : Nat) (w : World) (hl : N < 4) :
    Calls Try.prog 81 #[.slice A N c] w (GivesView none w) := by
  have hd2 : decide ((N : Int) - 4 < 0) = true := by simp; omega
  go_enter Try.func81, Try.ntmps81
  go_wp2
  go_quiet (fail)
  go_wp2
  go_ret2
  exact ⟨rfl, ⟨rfl, rfl, rfl, Nat.le_refl _, fun _ _ => rfl⟩⟩
set_option maxRecDepth 100000 in
set_option maxHeartbeats 1000000 in
theorem refOpen_core (n : Nat) (A : Option Addr) (c : Nat) (L S : List UInt8) (w : World) (hc : n + 4 ≤ c) (hcap : c ≤ 9223372036854775807) (b : Bool) (hr : RB w w.heap.size A L) (HL : Hid (n + 4 = L.length)) (R : World → Ending → World → Prop)
    (HS : Hid (∀ W, Below w.heap.size w W → Calls Try.prog 69 #[.slice A n c] W (GivesOne S W)))
    (hb : (S == L) = b)
    (HR : Hid (b = true → ∀ w', Below w.heap.size w w' → R w (.returned (.tuple #[.slice A n c, .int .i64 0])) w')) (HR2 : Hid (b = false → ∀ w', Below w.heap.size w w' → R w (.returned (.tuple #[.slice none 0 0, .int .i64 12])) w')) :
    Calls Try.prog 81 #[.slice A (n + 4) c] w (R w) := by
  have hd2 : decide ((n : Int) < 0) = false := by simp
  have hnc : (n : Int) ≤ (c : Int) := by omega
  have e1 := aw_str (w := w.drew) hr.drew (n + 4) c HL.out
  rcases b with _ | _
  all_goals
    go_enter Try.func81, Try.ntmps81
    go_wp2
    go_region_held_law (fun w' => (convert 26 9 (.slice A (n + 4) c)).run Try.prog w' = .ok (.string ⟨L.toArray⟩) w') (assumption) (first | (go_at_call 69; (with_reducible refine (HS.out _ (Below.refl _ _).drew).mono ?_); rintro e w1 ⟨A1, c1, rfl, ho1, hb1⟩; have hb2 : Below w.heap.size w w1 := below_drew hb1; have e2 := aw_str (own_rb ho1) S.length c1 rfl; have e3 := aw_str ((hr.below hb2).more hb2.size) (n + 4) c HL.out))
    all_goals
      go_wp2
      first | exact HR.out (by trivial) _ hb2 | exact HR2.out (by trivial) _ hb2
theorem refOpen_any (L : List UInt8) (A : Option Addr) (c B : Nat) (w : World) (hr : RB w B A L) (hlc : L.length ≤ c) (hc : c ≤ 9223372036854775807) (hl : L.length ≤ 1048576) :
    Calls Try.prog 81 #[.slice A L.length c] w (GivesView (openL L) w) := by
  have hr := rb_lt hr
  by_cases h4 : L.length < 4
  · have e : openL L = none := by unfold openL; rw [if_neg (by omega)]
    rw [e]
    exact refOpen_short _ A c w h4
  · obtain ⟨n, hn⟩ : ∃ n, n = L.length - 4 := ⟨_, rfl⟩
    have hn4 : L.length = n + 4 := by omega
    have hp : (L.take n).length = n := by rw [List.length_take]; omega
    have hrp : RB w w.heap.size A (L.take n) := rb_take hr n (by omega)
    have hop : openL L = if sealL (L.take n) = L then some (L.take n) else none := by
      unfold openL
      rw [← hn]
      by_cases hy : sealL (L.take n) = L
      · rw [if_pos ⟨by omega, hy⟩, if_pos hy]
      · rw [if_neg (fun h => hy h.2), if_neg hy]
    rw [hn4]
    refine refOpen_core n A c L (sealL (L.take n)) w (by omega) hc (sealL (L.take n) == L) hr hn4.symm (GivesView (openL L)) (fun W hb => ?_) rfl (fun hb w' h => ?_) (fun hb w' h => ?_)
    · have := refSeal_any (L.take n) A c _ W (hrp.below hb) (by omega)
      rwa [hp] at this
    · rw [hop, if_pos (by simpa using hb)]
      exact ⟨A, c, by rw [hp], (hrp.below h).more h.size, h⟩
    · rw [hop, if_neg (by simpa using hb)]
      exact ⟨rfl, h⟩
end Go.Proofs.Ytkockhggnbfahaa
end
section
set_option linter.unusedVariables false
namespace Go.Proofs.Ytkockhggnbfahaa
open Go.RowKit
theorem Dk.image_same {d d' : Dk} (hs : d'.safe = d.safe) (hw : d'.waits = d.waits) : d'.image = d.image := by
  unfold Dk.image
  have : d'.now = d.now := by funext k; unfold Dk.now; rw [hs, hw]
  rw [hs, this]
theorem PD.retell {w w' : World} {g : Nat} {F E' : Nat → Prop} {d d' : Dk} {a ca b cb n : Nat} {V : Value} {ends ends' : Bool} {lf lf' : Int} (h : PD w g F d a ca b cb n V ends lf) (ht : Turns w w' (fun k => k = g) E')
    (hs : d'.safe = d.safe) (hw : d'.waits = d.waits) (hl : -1 ≤ d'.left ∧ d'.left ≤ 9223372036854775807) (hb : Blk w' g 103 (diskCells a ca b cb n V ends' lf' d'))
    (he : d'.off = false → ends' = decide (0 ≤ d'.left)) (hf : d'.off = false → 0 ≤ d'.left → lf' = d'.left) : PD w' g F d' a ca b cb n V ends' lf' := by
  obtain ⟨n1, n2, n3, n4, n5⟩ := h.ne
  refine ⟨hb, by rw [hs]; exact h.size, h.capa, h.capb, by rw [hs]; exact h.safe.turns ht (fun e => n1 e.symm), by rw [Dk.image_same hs hw]; exact h.last.turns ht (fun e => n2 e.symm), by rw [hw]; exact own_turns h.wait ht (fun k hk e => n3 (by rw [hk, e])),
    h.ab, h.fg, h.fa, h.fb, h.fv, fun k hk => Nat.lt_of_lt_of_le (h.flt k hk) ht.size, ⟨⟨by rw [hs]; exact h.good.fit.1, by rw [hs, hw]; exact h.good.fit.2⟩, by rw [hs]; exact h.good.few, by rw [hs]; exact h.good.many, hl⟩, he, hf⟩
theorem turns_own (w : World) (g i : Nat) (u : Value) : Turns w (w.setCell ⟨g, i, none⟩ u) (fun k => k = g) (fun k => k = g) := Turns.set_ (F := fun k => k = g) rfl i u
theorem turns_g {w w' : World} {g : Nat} {F E' : Nat → Prop} (hg : F g) (h : Turns w w' (fun k => k = g) E') : Turns w w' F F := h.wide (fun k hk => by rw [hk]; exact hg) (fun k hk => .inl hk)
def Deeds (D : Dk) (F : Nat → Prop) (w w' : World) (g : Nat) : Prop := PDisk w' g F D ∧ Turns w w' F F
set_option maxRecDepth 100000 in
theorem stop_any {w : World} {g : Nat} {F : Nat → Prop} {d : Dk} (h : PDisk w g F d) (i : Int) (hi : InI i) :
    Calls Try.prog 25 #[.pointer (some ⟨g, 0, none⟩), .int .i64 i] w fun e w' => e = .returned (.int .i64 (d.stop i).2) ∧ Deeds (d.stop i).1 F w w' g := by
  have z0 := fun w' => Try.dIsNil g w'
  obtain ⟨hi1, hi2⟩ := hi
  by_cases h0 : i < 0
  · have d0 : decide (i < 0) = true := decide_eq_true h0
    have HV : Hid (d.stop i = (d, 1)) := by show _ = _; unfold Dk.stop; rw [if_pos h0]
    go_enter Try.func25, Try.ntmps25
    go_wp2
    go_ret
    rw [HV.out]
    exact ⟨rfl, h, Turns.refl _ _⟩
  · have d0 : decide (i < 0) = false := decide_eq_false h0
    have HV : Hid (d.stop i = ({ d with left := i }, 0)) := by show _ = _; unfold Dk.stop; rw [if_neg h0]
    obtain ⟨a, ca, b, cb, n, V, ends, lf, h⟩ := h
    have c4 := h.c4
    have c5 := h.c5
    have f4 := h.fz 4
    have f5 := h.fz 5
    have HP : Hid (PD ((w.setCell ⟨g, 4, none⟩ (.bool true)).setCell ⟨g, 5, none⟩ (.int .i64 i)) g F { d with left := i } a ca b cb n V true i) := by
      refine h.retell (E' := fun k => k = g) ((turns_own _ g 4 _).trans (turns_own _ g 5 _)) rfl rfl ⟨by show (-1 : Int) ≤ i; omega, hi2⟩ ?_ (fun _ => (decide_eq_true (by show 0 ≤ i; omega)).symm) (fun _ _ => rfl)
      exact (h.blk.set_ 4 (.bool true)).set_ 5 (.int .i64 i)
    have HG := Lib.hid h.fg
    clear h h0 hi1 hi2
    go_enter Try.func25, Try.ntmps25
    go_wp2
    go_ret
    rw [HV.out]
    exact ⟨rfl, ⟨_, _, _, _, _, _, _, _, HP.out⟩, (Turns.set_ HG.out 4 _).trans (Turns.set_ HG.out 5 _)⟩
set_option maxRecDepth 100000 in
theorem image_any {w : World} {g : Nat} {F : Nat → Prop} {d : Dk} (h : PDisk w g F d) :
    Calls Try.prog 59 #[.pointer (some ⟨g, 0, none⟩)] w (GivesOne d.image w) := by
  have z0 := fun w' => Try.dIsNil g w'
  obtain ⟨a, ca, b, cb, n, V, ends, lf, h⟩ := h
  have c1 := h.c1
  have hl : n = d.image.length := by rw [Dk.image_length h.good.fit, h.size]
  have hm := h.good.many
  have hs := h.size
  have HC := Lib.hid (sclone_any d.image _ cb _ w h.last.all (by omega))
  rw [← hl] at HC
  clear h hl hm hs
  go_enter Try.func59, Try.ntmps59
  go_wp2_with (go_at_call 78; (with_reducible refine HC.out.mono ?_); rintro e w1 ⟨A1, c2, rfl, ho1, hb1⟩)
  go_ret
  exact ⟨A1, c2, rfl, ho1, hb1⟩
set_option maxRecDepth 100000 in
theorem safe_any {w : World} {g : Nat} {F : Nat → Prop} {d : Dk} (h : PDisk w g F d) :
    Calls Try.prog 61 #[.pointer (some ⟨g, 0, none⟩)] w (GivesOne d.sure w) := by
  have z0 := fun w' => Try.dIsNil g w'
  obtain ⟨a, ca, b, cb, n, V, ends, lf, h⟩ := h
  have c0 := h.c0
  have hl : n = d.sure.length := h.len.symm
  have hm := h.good.many
  have hs := h.size
  have HC := Lib.hid (sclone_any d.sure _ ca _ w h.safe.all (by omega))
  rw [← hl] at HC
  clear h hl hm hs
  go_enter Try.func61, Try.ntmps61
  go_wp2_with (go_at_call 78; (with_reducible refine HC.out.mono ?_); rintro e w1 ⟨A1, c2, rfl, ho1, hb1⟩)
  go_ret
  exact ⟨A1, c2, rfl, ho1, hb1⟩
theorem falls_any {w : World} {g : Nat} {F : Nat → Prop} {d : Dk} (h : PDisk w g F d) (ho : d.off = false) :
    Calls Try.prog 80 #[.pointer (some ⟨g, 0, none⟩)] w fun e w' => e = .returned (.bool (!d.deed.2)) ∧ Deeds d.deed.1 F w w' g := by
  obtain ⟨a, ca, b, cb, n, V, ends, lf, h⟩ := h
  have he := h.ends_ ho
  have hl := h.left_ ho
  have hb := h.good.left
  by_cases h0 : 0 ≤ d.left
  · rw [decide_eq_true h0] at he
    have hl := hl h0
    subst he
    refine (falls_yes g lf d.off w ⟨by omega, by omega⟩ h.c3 h.c4 h.c5 (h.fz 3) (h.fz 5)).mono ?_
    rintro e w' ⟨rfl, rfl⟩
    have hk := (h.blk.set_ 3 (.bool (decide (lf = 0)))).set_ 5 (.int .i64 (lf - 1))
    have ht : Turns w ((w.setCell ⟨g, 3, none⟩ (.bool (decide (lf = 0)))).setCell ⟨g, 5, none⟩ (.int .i64 (lf - 1))) (fun k => k = g) (fun k => k = g) := (turns_own _ g 3 _).trans (turns_own _ g 5 _)
    by_cases hz : d.left = 0
    · have hd : d.deed = ({ d with off := true }, false) := by unfold Dk.deed; rw [if_pos hz]
      rw [hd]
      have e1 : decide (lf = 0) = true := decide_eq_true (by omega)
      refine ⟨by rw [e1]; rfl, ⟨a, ca, b, cb, n, V, true, lf - 1, h.retell ht rfl rfl hb ?_ (fun h => by cases h) (fun h => by cases h)⟩, turns_g h.fg ht⟩
      rw [e1] at hk ⊢
      exact hk
    · have hd : d.deed = ({ d with left := d.left - 1 }, true) := by unfold Dk.deed; rw [if_neg hz, if_pos (by omega)]
      rw [hd]
      have e1 : decide (lf = 0) = false := decide_eq_false (by omega)
      refine ⟨by rw [e1]; rfl, ⟨a, ca, b, cb, n, V, true, lf - 1, h.retell ht rfl rfl ⟨by show -1 ≤ d.left - 1; omega, by show d.left - 1 ≤ _; omega⟩ ?_ (fun _ => (decide_eq_true (by show 0 ≤ d.left - 1; omega)).symm) (fun _ _ => by show lf - 1 = d.left - 1; omega)⟩, turns_g h.fg ht⟩
      rw [e1] at hk ⊢
      rw [← ho] at hk ⊢
      exact hk
  · rw [decide_eq_false h0] at he
    subst he
    have hd : d.deed = (d, true) := by unfold Dk.deed; rw [if_neg (by omega), if_neg (by omega)]
    refine (falls_no g w h.c4).mono ?_
    rintro e w' ⟨rfl, rfl⟩
    rw [hd]
    exact ⟨rfl, ⟨a, ca, b, cb, n, V, false, lf, h⟩, Turns.refl _ _⟩
def ReadPost (d : Dk) (i : Int) (g : Nat) (F : Nat → Prop) (w : World) (e : Ending) (w' : World) : Prop :=
  ∃ A c, e = .returned (.tuple #[.slice A (d.read i).2.1.length c, .int .i64 (d.read i).2.2]) ∧ Own w' w.heap.size A (d.read i).2.1 c ∧ Deeds (d.read i).1 F w w' g
theorem PD.count6 {w : World} {g : Nat} {F : Nat → Prop} {d : Dk} {a ca b cb n : Nat} {V : Value} {ends : Bool} {lf : Int} (h : PD w g F d a ca b cb n V ends lf) :
    PD (w.setCell ⟨g, 6, none⟩ (.int .i64 ((d.reads + 1 : Nat) : Int))) g F { d with reads := d.reads + 1 } a ca b cb n V ends lf :=
  h.retell (E' := fun k => k = g) (turns_own _ g 6 _) rfl rfl h.good.left (h.blk.set_ 6 _) h.ends_ h.left_
theorem PD.count7 {w : World} {g : Nat} {F : Nat → Prop} {d : Dk} {a ca b cb n : Nat} {V : Value} {ends : Bool} {lf : Int} (h : PD w g F d a ca b cb n V ends lf) :
    PD (w.setCell ⟨g, 7, none⟩ (.int .i64 ((d.writes + 1 : Nat) : Int))) g F { d with writes := d.writes + 1 } a ca b cb n V ends lf :=
  h.retell (E' := fun k => k = g) (turns_own _ g 7 _) rfl rfl h.good.left (h.blk.set_ 7 _) h.ends_ h.left_
theorem PD.count8 {w : World} {g : Nat} {F : Nat → Prop} {d : Dk} {a ca b cb n : Nat} {V : Value} {ends : Bool} {lf : Int} (h : PD w g F d a ca b cb n V ends lf) :
    PD (w.setCell ⟨g, 8, none⟩ (.int .i64 ((d.flushes + 1 : Nat) : Int))) g F { d with flushes := d.flushes + 1 } a ca b cb n V ends lf :=
  h.retell (E' := fun k => k = g) (turns_own _ g 8 _) rfl rfl h.good.left (h.blk.set_ 8 _) h.ends_ h.left_
theorem there_nat {d : Dk} {i : Int} (h : d.there i = true) : ∃ k : Nat, i = (k : Int) ∧ k < d.safe.length := by
  unfold Dk.there at h
  rw [decide_eq_true_eq] at h
  exact ⟨i.toNat, by omega, by omega⟩
set_option maxRecDepth 100000 in
theorem read_none (i : Int) (w : World) : Calls Try.prog 37 #[.pointer none, .int .i64 i] w fun e w' => e = .returned (.tuple #[.slice none 0 0, .int .i64 8]) ∧ w = w' := by
  have z0 := fun w' => Try.dNilIs w'
  have HR : Hid (Calls Try.prog 76 #[.pointer none, .int .i64 i] w fun e w' => e = .returned (.int .i64 8) ∧ w = w') := by
    show Calls _ _ _ _ _
    go_enter Try.func76, Try.ntmps76
    go_wp2
    go_ret
    exact ⟨rfl, rfl⟩
  go_enter Try.func37, Try.ntmps37
  go_wp2_with (go_at_call 76; (with_reducible refine HR.out.mono ?_); rintro e w1 ⟨rfl, rfl⟩)
  go_ret2
  exact ⟨rfl, rfl⟩
set_option maxRecDepth 100000 in
set_option maxHeartbeats 1000000 in
theorem read_any {w : World} {g : Nat} {F : Nat → Prop} {d : Dk} (h : PDisk w g F d) (i : Int) (hl : d.load ≤ 100000) :
    Calls Try.prog 37 #[.pointer (some ⟨g, 0, none⟩), .int .i64 i] w (ReadPost d i g F w) := by
  have HR := Lib.hid (reach_any h i)
  cases ho : d.off with
  | true =>
    have HV : Hid (d.read i = (d, [], 9)) := by show _ = _; unfold Dk.read; rw [if_pos ho]
    have e1 : d.reach i = 9 := by unfold Dk.reach; rw [if_pos ho]
    rw [e1] at HR
    clear ho e1
    go_enter Try.func37, Try.ntmps37
    go_wp2_with (go_at_call 76; (with_reducible refine HR.out.mono ?_); rintro e w1 ⟨rfl, rfl⟩)
    go_ret2
    unfold ReadPost
    rw [HV.out]
    exact ⟨none, 0, rfl, World.ownsRow_nil _ _ _ _, h, Turns.refl _ _⟩
  | false =>
    cases ht : d.there i with
    | false =>
      have HV : Hid (d.read i = (d, [], 10)) := by show _ = _; unfold Dk.read; rw [ho, ht]; rfl
      have e1 : d.reach i = 10 := by unfold Dk.reach; rw [ho, ht]; rfl
      rw [e1] at HR
      clear ho ht e1
      go_enter Try.func37, Try.ntmps37
      go_wp2_with (go_at_call 76; (with_reducible refine HR.out.mono ?_); rintro e w1 ⟨rfl, rfl⟩)
      go_ret2
      unfold ReadPost
      rw [HV.out]
      exact ⟨none, 0, rfl, World.ownsRow_nil _ _ _ _, h, Turns.refl _ _⟩
    | true =>
      have HV : Hid (d.read i = ({ d with reads := d.reads + 1 }, d.now i.toNat, 0)) := by show _ = _; unfold Dk.read; rw [ho, ht]; rfl
      have e1 : d.reach i = 0 := by unfold Dk.reach; rw [ho, ht]; rfl
      rw [e1] at HR
      obtain ⟨k, rfl, hk⟩ := there_nat ht
      rw [Int.toNat_natCast] at HV
      obtain ⟨a, ca, b, cb, n, V, ends, lf, h⟩ := h
      have HP := Lib.hid h.count6
      have HA := Lib.hid (aadd_any g 6 d.reads w (by unfold Dk.load at hl; omega) h.c6 (h.fz 6))
      have hn := h.size
      have hmany := h.good.many
      have hcb := h.capb
      have hrb := h.count6.last.rb (256 * k) 256 (by rw [Dk.image_length h.count6.good.fit]; show _ ≤ 256 * d.safe.length; omega)
      have hnow : ({ d with reads := d.reads + 1 } : Dk).image = d.image := Dk.image_same rfl rfl
      rw [hnow, Dk.image_get h.good.fit k hk] at hrb
      have h256 : (d.now k).length = 256 := Dk.fit_now h.good.fit hk
      obtain ⟨L, hL⟩ : ∃ L, L = d.now k := ⟨_, rfl⟩
      rw [← hL] at hrb HV h256
      obtain ⟨W, hW⟩ : ∃ W, W = w.setCell ⟨g, 6, none⟩ (.int .i64 ((d.reads + 1 : Nat) : Int)) := ⟨_, rfl⟩
      have c1 : W.cell? ⟨g, 1, none⟩ = some (.slice (some ⟨b, 0, none⟩) n cb) := by rw [hW]; exact h.count6.c1
      rw [← hW] at hrb HA HP
      have hz : W.heap.size = w.heap.size := by rw [hW]; simp [World.setCell]
      have HT : Hid (Turns w W F F) := by show Turns _ _ _ _; rw [hW]; exact Turns.set_ h.fg 6 _
      have HB := Lib.hid (block_of b n cb k W (by omega) (by omega) hcb.1 hcb.2)
      have HC := Lib.hid (sclone_any L _ (cb - 256 * k) _ W hrb (by omega))
      rw [h256] at HC
      have H256 := Lib.hid h256
      have HZ := Lib.hid hz
      clear hW hL h ho ht e1 hk hn hmany hcb hrb hnow h256 hz hl
      go_enter Try.func37, Try.ntmps37
      go_wp2_with (first
        | (go_at_call 76; (with_reducible refine HR.out.mono ?_); rintro e w1 ⟨rfl, rfl⟩)
        | (go_at_call 77; (with_reducible refine HA.out.mono ?_); rintro e w1 ⟨rfl, rfl⟩)
        | (go_at_call 79; (with_reducible refine HB.out.mono ?_); rintro e w2 ⟨rfl, rfl⟩)
        | (go_at_call 78; (with_reducible refine HC.out.mono ?_); rintro e w3 ⟨A3, c3, rfl, ho3, hb3⟩))
      go_ret2
      unfold ReadPost
      rw [HV.out]
      refine ⟨A3, c3, by simp only [H256.out]; rfl, by rw [← HZ.out]; exact ho3, PDisk.below ⟨_, _, _, _, _, _, _, _, HP.out⟩ hb3, HT.out.trans (Turns.of_below hb3 F)⟩
end Go.Proofs.Ytkockhggnbfahaa
end
