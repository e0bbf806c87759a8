/- Lemmas under the proofs of this place: WalPRecord, WalROpen, WalPAppend. No statement is proved here. -/
import Derived.Test.YtghenhacndaelaaGreatBs25
import Derived.Test.YtghenhacndaelaaGreatBu19
import Derived.Test.YtghenhacndaelaaGreatBu20
import Derived.Test.YtghenhacndaelaaGreatBu17
import Derived.Test.YtghenhacndaelaaGreatBs23
set_option linter.unusedSimpArgs false
set_option linter.unusedVariables false
set_option maxRecDepth 100000
set_option maxHeartbeats 16000000
namespace Go.Proofs.YtghenhacndaelaaGreat
section
open Go.RowKit
open Wal
def GivesRecP (r : Option (List UInt8 × Nat)) (ga : Nat) (img : List UInt8) (at_ : Nat) (least most : Int) (bb : Nat) (w : World) (e : Ending) (w' : World) : Prop :=
 Only w w' ga ∧ match r with
  | none => ∃ A c, e = .returned (.tuple #[.slice A 0 c, .bool false])
  | some x => ∃ A c, e = .returned (.tuple #[.slice A x.1.length c, .bool true]) ∧ Own w' w.heap.size A x.1 c ∧ Area13 w' ga img (at_ + x.2) least most bb
theorem sane_secA (img : List UInt8) : Sane (secA img) := fun j h => (getS_bytes h).1
theorem sec_small {img : List UInt8} {j : Nat} (h : (secA img j).2 = 0) : (0 ≤ (secA img j).1.left ∧ (secA img j).1.left ≤ 65535) ∧ (secA img j).1.data.length ≤ 48 := by
 have h5 := ((Sd.may_iff _).1 (getS_bytes h).1)
 exact ⟨⟨h5.2.2.2.2.2.2.1, h5.2.2.2.2.2.2.2.1⟩, h5.2.2.2.2.2.2.2.2⟩
def RowD (w : World) (v : Value) (x : Sd × Option Addr × Nat) : Prop := RB w w.heap.size x.2.1 x.1.data ∧ (0 < x.1.data.length → ∀ ad, x.2.1 = some ad → v.ownBlock ≠ some ad.block)
theorem RowD.area {w w' : World} {v : Value} {x : Sd × Option Addr × Nat} {ga j : Nat} {img : List UInt8} {least most : Int} {bb : Nat} (h : RowD w v x) (ha : Area13 w ga img j least most bb) (ho : Only w w' ga) : RowD w' v x := ⟨ha.rb ho h.1, h.2⟩
theorem RowD.below {w w' : World} {v : Value} {x : Sd × Option Addr × Nat} (h : RowD w v x) (hb : Below w.heap.size w w') : RowD w' v x := ⟨(h.1.below hb).more hb.size, h.2⟩
theorem RowD.grown {w w' : World} {v v' : Value} {x : Sd × Option Addr × Nat} (h : RowD w v x) (hg : w.grownBy w' v.ownBlock) (hv : v'.ownBlock = v.ownBlock ∨ v'.ownBlock = some w.heap.size) : RowD w' v' x := by
 by_cases h0 : 0 < x.1.data.length
 ·obtain ⟨ad, e, hb, hc⟩ := h.1.2 h0
  have hne := h.2 h0 ad e
  refine ⟨⟨h.1.1, fun _ => ⟨ad, e, Nat.lt_of_lt_of_le hb hg.size, fun j u hu => ?_⟩⟩, fun _ ad2 e2 => ?_⟩
  ·rw [World.cell?_of_block (hg.block (ad.add j).block (by rw [block_of_add]; exact hb) (by rw [block_of_add]; exact fun e => hne e.symm))]
   exact hc j u hu
  ·rw [e] at e2
   injection e2 with e2
   subst e2
   rcases hv with h1 | h1
   ·rw [h1]; exact hne
   ·rw [h1]; intro h2; injection h2 with h2; omega
 ·refine ⟨?_, fun h1 => absurd h1 h0⟩
  have hz : x.1.data = [] := List.eq_nil_of_length_eq_zero (by omega)
  rw [hz]
  exact ⟨rfl, fun h1 => absurd h1 (by simp)⟩
theorem own_after {w w' : World} {base n size : Nat} {e : TypeId} {v : Value} {xs : List Value} (h : w.ownsRow base e size v n xs) {ga : Nat} (ho : Only w w' ga) (hg : ga < base) : w'.ownsRow base e size v n xs :=
 own_only h ho fun e2 => by have := (h.lt ga e2).1; omega
theorem five_new2P (W : World) (o : Obj) (v0 v1 v2 v3 v4 : Value) (t : TypeId) : Reads ((W.alloc o).alloc (.cells #[v0, v1, v2, v3, v4] t)) (W.heap.size + 1 + 1) 5 (some ⟨W.heap.size + 1, 0, none⟩) 1 [v0, v1, v2, v3, v4] := by
 have h := five_new (W.alloc o) v0 v1 v2 v3 v4 t
 have hsz : (W.alloc o).heap.size = W.heap.size + 1 := by simp
 rw [hsz] at h
 exact h
theorem own_lessP {w : World} {base base' n size : Nat} {e : TypeId} {v : Value} {xs : List Value} (h : w.ownsRow base e size v n xs) (hb : base' ≤ base) : w.ownsRow base' e size v n xs :=
 ⟨h.1, h.2.imp id fun ⟨g, cap, cur, h1, h2, h3⟩ => ⟨g, cap, cur, h1, Nat.le_trans hb h2, h3⟩⟩
theorem joinS_no {l : List Sd} (h : (joinS l).2 = false) : (joinS l).1 = [] := by
 unfold joinS at h ⊢
 cases l with
 | nil => rfl
 | cons x r =>
  simp only at h ⊢
  split
  ·rename_i h2; rw [if_pos h2] at h; cases h
  ·rfl
theorem wrecord_any {w : World} {ga : Nat} {img : List UInt8} {at_ N : Nat} {least most : Int} {bb : Nat} (h : Area13 w ga img at_ least most bb) (hN : img.length = 64 * N) (hN1 : N ≤ 1000) :
  Calls Tryz.prog 67 #[.func (.func 44) #[.pointer (some ⟨ga, 0, none⟩)] #[]] w (GivesRecP (recordW (secA img) N at_ least most) ga img at_ least most bb w) := by
 obtain ⟨i0, hi0, hz0, hz1, hz2⟩ := info_parts Tryz.secInfo
 have hlt : ga < w.heap.size := h.lt.1
 have HLt := Lib.hid hlt
 have a24 := fun w' => Tryz.aggSec w'
 have s24 := fun w' => Tryz.sizeSec w'
 have nt := fun w' => Tryz.notTrue w'
 have nf := fun w' => Tryz.notFalse w'
 have HNo : Hid (∀ j W, Area13 W ga img j least most bb → ¬ Cnt (secA img) N least most j → Calls Tryz.prog 44 #[.pointer (some ⟨ga, 0, none⟩)] W fun e w' => e = .returned (.tuple #[.agg #[.int .i64 0, .int .i64 0, .int .i64 0, .int .i64 0, .slice none 0 0], .bool false]) ∧ Below W.heap.size W w') := fun j W hW hc => (wnext_any hW hN hN1).1 hc
 have HYes : Hid (∀ j W (kd ep nu lf : Int) (D : List UInt8) (m : Nat), Area13 W ga img j least most bb → Cnt (secA img) N least most j → (secA img j).1 = ⟨kd, ep, nu, lf, D⟩ → m = D.length → Calls Tryz.prog 44 #[.pointer (some ⟨ga, 0, none⟩)] W fun e w' => ∃ B d, e = .returned (.tuple #[.agg #[.int .i64 kd, .int .i64 ep, .int .i64 nu, .int .i64 lf, .slice B m d], .bool true]) ∧ Hid (RB w' w'.heap.size B D) ∧ Hid (∀ ad, B = some ad → W.heap.size ≤ ad.block) ∧ Hid (Area13 w' ga img (j + 1) least most bb) ∧ Hid (Only W w' ga)) := fun j W kd ep nu lf D m hW hc hs hm => by
  refine ((wnext_any hW hN hN1).2 hc).mono ?_
  rintro e w' ⟨B, d, he, h1, h2, h3, h4⟩
  rw [hs] at he h1
  unfold secV at he
  simp only [← hm] at he
  exact ⟨B, d, he, h1, h2, h3, h4⟩
 have HA := Lib.hid h
 clear h hN
 by_cases hc0 : Cnt (secA img) N least most at_
 rotate_left
 ·have HV : Hid (recordW (secA img) N at_ least most = none) := rec_none_first (.inl hc0)
  have HC := Lib.hid (HNo.out at_ w HA.out hc0)
  clear hc0
  go_enter Tryz.func67, Tryz.ntmps67
  go_wp2_with (first
   | (go_at_call 44; (with_reducible refine HC.out.mono ?_); rintro e w1 ⟨rfl, b1⟩))
  go_ret2
  unfold GivesRecP
  rw [HV.out]
  exact ⟨only_below (b1.alloc b1.size _) ga, none, 0, rfl⟩
 obtain ⟨⟨kd, ep, nu, lf, D⟩, hs⟩ : ∃ s, (secA img at_).1 = s := ⟨_, rfl⟩
 obtain ⟨m, hm⟩ : ∃ m, m = D.length := ⟨_, rfl⟩
 have HM := Lib.hid hm
 have HC := Lib.hid (HYes.out at_ w kd ep nu lf D m HA.out hc0 hs hm)
 have hsm := sec_small hc0.2.1
 have hN0 := hc0.1
 rw [hs] at hsm
 have HD48 : Hid (D.length ≤ 48) := hsm.2
 have HCell : Hid (∀ (w1 : World) (kd ep nu lf : Int) B (m d : Nat), (w1.alloc (.cells #[.int .i64 kd, .int .i64 ep, .int .i64 nu, .int .i64 lf, .slice B m d] 49)).cell? ⟨w1.heap.size, 0, none⟩ = some (.int .i64 kd) ∧ (w1.alloc (.cells #[.int .i64 kd, .int .i64 ep, .int .i64 nu, .int .i64 lf, .slice B m d] 49)).cell? ⟨w1.heap.size, 1, none⟩ = some (.int .i64 ep) ∧ (w1.alloc (.cells #[.int .i64 kd, .int .i64 ep, .int .i64 nu, .int .i64 lf, .slice B m d] 49)).cell? ⟨w1.heap.size, 2, none⟩ = some (.int .i64 nu) ∧ (w1.alloc (.cells #[.int .i64 kd, .int .i64 ep, .int .i64 nu, .int .i64 lf, .slice B m d] 49)).cell? ⟨w1.heap.size, 3, none⟩ = some (.int .i64 lf) ∧ (w1.alloc (.cells #[.int .i64 kd, .int .i64 ep, .int .i64 nu, .int .i64 lf, .slice B m d] 49)).cell? ⟨w1.heap.size, 4, none⟩ = some (.slice B m d)) := fun w1 kd ep nu lf B m d => by
  have h0 : Blk (w1.alloc (.cells #[.int .i64 kd, .int .i64 ep, .int .i64 nu, .int .i64 lf, .slice B m d] 49)) w1.heap.size 49 #[.int .i64 kd, .int .i64 ep, .int .i64 nu, .int .i64 lf, .slice B m d] := Blk.new w1 _ _
  exact ⟨by rw [h0.cell]; rfl, by rw [h0.cell]; rfl, by rw [h0.cell]; rfl, by rw [h0.cell]; rfl, by rw [h0.cell]; rfl⟩
 by_cases hk2 : kd = 2
 rotate_left
 ·have HV : Hid (recordW (secA img) N at_ least most = none) := rec_none_first (.inr (by rw [hs]; exact hk2))
  have p1 : (kd != 2) = true := by rw [bne_iff_ne]; exact hk2
  have p2 : (kd == 2) = false := by rw [beq_eq_false_iff_ne]; exact hk2
  have p3 : decide (kd = 2) = false := decide_eq_false hk2
  clear hc0 hs hm hsm hk2
  go_enter Tryz.func67, Tryz.ntmps67
  go_wp2_with (first
   | (go_at_call 44; (with_reducible refine HC.out.mono ?_); rintro e w1 ⟨B1, e1, rfl, r1, nw1, ar1, o1⟩; obtain ⟨t0, t1, t2, t3, t4⟩ := HCell.out w1 kd ep nu lf B1 m e1))
  go_ret2
  unfold GivesRecP
  rw [HV.out]
  exact ⟨only_alloc o1.out _, none, 0, rfl⟩
 subst hk2
 obtain ⟨L, rfl⟩ : ∃ L : Nat, lf = (L : Int) := ⟨lf.toNat, by have := hsm.1.1; simp only at this; omega⟩
 have HFirst : Hid (Cnt (secA img) N least most at_ ∧ (secA img at_).1 = ⟨2, ep, nu, (L : Int), D⟩) := ⟨hc0, hs⟩
 have hL : L ≤ 65535 := by have := hsm.1.2; simp only at this; omega
 clear hc0 hs hm hsm
 go_enter Tryz.func67, Tryz.ntmps67
 go_wp2_with (first
  | (go_at_call 44; (with_reducible refine HC.out.mono ?_); rintro e w1 ⟨B1, e1, rfl, r1, nw1, ar1, o1⟩; obtain ⟨t0, t1, t2, t3, t4⟩ := HCell.out w1 2 ep nu (L : Int) B1 m e1))
 have hlw1 : w.heap.size ≤ w1.heap.size := o1.out.size
 have hst0 : World.ownsRow ((w1.alloc (.cells #[.int .i64 2, .int .i64 ep, .int .i64 nu, .int .i64 (L : Int), .slice B1 m e1] 49)).alloc (.cells #[.int .i64 2, .int .i64 ep, .int .i64 nu, .int .i64 (L : Int), .slice B1 m e1] 49)) w.heap.size 49 5 (.slice (some ⟨w1.heap.size + 1, 0, none⟩) 1 1) 1 (rowC [(⟨2, ep, nu, (L : Int), D⟩, B1, e1)]) := by
  have h1 := World.ownsRow_lit (base := w.heap.size) (e := 49) (size := 5) (w1.alloc (.cells #[.int .i64 2, .int .i64 ep, .int .i64 nu, .int .i64 (L : Int), .slice B1 m e1] 49)) #[.int .i64 2, .int .i64 ep, .int .i64 nu, .int .i64 (L : Int), .slice B1 m e1] 1 (by simp; omega) (by decide) rfl
  rw [show (w1.alloc (.cells #[.int .i64 2, .int .i64 ep, .int .i64 nu, .int .i64 (L : Int), .slice B1 m e1] 49)).heap.size = w1.heap.size + 1 by simp] at h1
  have h2 : (#[.int .i64 2, .int .i64 ep, .int .i64 nu, .int .i64 (L : Int), .slice B1 m e1] : Array Value).toList = rowC [(⟨2, ep, nu, (L : Int), D⟩, B1, e1)] := by
   unfold rowC secC
   simp [HM.out]
  rw [h2] at h1
  exact h1
 have HSt0 := Lib.hid hst0
 have hb2 : Below w1.heap.size w1 ((w1.alloc (.cells #[.int .i64 2, .int .i64 ep, .int .i64 nu, .int .i64 (L : Int), .slice B1 m e1] 49)).alloc (.cells #[.int .i64 2, .int .i64 ep, .int .i64 nu, .int .i64 (L : Int), .slice B1 m e1] 49)) := ((Below.refl _ _).alloc (Nat.le_refl _) _).alloc (by simp) _
 have HB2 := Lib.hid hb2
 have HR2 : Hid (RowD ((w1.alloc (.cells #[.int .i64 2, .int .i64 ep, .int .i64 nu, .int .i64 (L : Int), .slice B1 m e1] 49)).alloc (.cells #[.int .i64 2, .int .i64 ep, .int .i64 nu, .int .i64 (L : Int), .slice B1 m e1] 49)) (.slice (some ⟨w1.heap.size + 1, 0, none⟩) 1 1) (⟨2, ep, nu, (L : Int), D⟩, B1, e1)) := ⟨(r1.out.below hb2).more hb2.size, fun h0 ad e => by
  have h3 := r1.out.2 h0
  obtain ⟨ad2, e2, h4, _⟩ := h3
  simp only at e
  rw [e] at e2
  injection e2 with e2
  subst e2
  intro h5
  injection h5 with h5
  have h6 : w1.heap.size + 1 = ad.block := h5
  omega⟩
 clear hst0 hb2
 go_loopw [6, 25] (fun v x wr => ∃ (k q : Nat) (A' : Option Addr) (c' : Nat) (rows : List (Sd × Option Addr × Nat)), k ≤ L ∧ q = k + 1 ∧ v = .slice A' q c' ∧ x = .int .i64 (k : Int) ∧ Hid (rows.length = k + 1 ∧ rows.map (·.1) = takeW (secA img) at_ (k + 1) ∧ ∀ i, i ≤ k → Cnt (secA img) N least most (at_ + i)) ∧ Hid (∀ x ∈ rows, RowD wr (.slice A' q c') x) ∧ Hid (wr.ownsRow w.heap.size 49 5 (.slice A' q c') q (rowC rows)) ∧ Hid (Area13 wr ga img (at_ + (k + 1)) least most bb) ∧ Hid (Only w wr ga)) (fun _ x _ => L - (intOf x).toNat)
 case atStart =>
  refine ⟨0, 1, some ⟨w1.heap.size + 1, 0, none⟩, 1, [(⟨2, ep, nu, (L : Int), D⟩, B1, e1)], by omega, rfl, rfl, rfl, ⟨rfl, ?_, fun i hi => ?_⟩, fun x hx => ?_, HSt0.out, ar1.out.below HB2.out, only_more o1.out HB2.out⟩
  ·show [_] = _
   unfold takeW
   simp [HFirst.out.2]
  ·obtain rfl : i = 0 := by omega
   exact HFirst.out.1
  ·rw [List.mem_singleton] at hx
   subst hx
   exact HR2.out
 case round =>
  obtain ⟨k, q, A', c', rows, hkL, hq, rfl, rfl, HS, HR, HW, HAr, HO⟩ := hrel
  have Hq := Lib.hid hq
  have hkN : k < N := by have := (HS.out.2.2 k (Nat.le_refl _)).1; omega
  clear t0 t1 t2 t3 t4
  by_cases hlt2 : k < L
  ·have d0 : decide ((k : Int) < (L : Int)) = true := decide_eq_true (by omega)
   have d1 : decide (k < L) = true := decide_eq_true hlt2
   by_cases hc1 : Cnt (secA img) N least most (at_ + (k + 1))
   rotate_left
   ·have HV : Hid (recordW (secA img) N at_ least most = none) := rec_none_later (k := k + 1) (by rw [HFirst.out.2]; show ((k + 1 : Nat) : Int) ≤ (L : Int); omega) hc1
    have HC1 := Lib.hid (HNo.out _ wr HAr.out hc1)
    clear hc1 hq
    go_wp2_with (first
     | (go_at_call 44; (with_reducible refine HC1.out.mono ?_); rintro e w3 ⟨rfl, b3⟩))
    go_ret2
    unfold GivesRecP
    rw [HV.out]
    exact ⟨only_more HO.out (b3.alloc b3.size _), none, 0, rfl⟩
   obtain ⟨⟨k2, ep2, nu2, lf2, D2⟩, hs2⟩ : ∃ s, (secA img (at_ + (k + 1))).1 = s := ⟨_, rfl⟩
   obtain ⟨m2, hm2⟩ : ∃ m2, m2 = D2.length := ⟨_, rfl⟩
   have HM2 := Lib.hid hm2
   have HC1 := Lib.hid (HYes.out (at_ + (k + 1)) wr k2 ep2 nu2 lf2 D2 m2 HAr.out hc1 hs2 hm2)
   have HCn := Lib.hid (And.intro hc1 hs2)
   clear hc1 hs2 hm2 hq
   go_wp2_with (first
    | (go_at_call 44; (with_reducible refine HC1.out.mono ?_); rintro e w3 ⟨B3, e3, rfl, r3, nw3, ar3, o3⟩; obtain ⟨t0, t1, t2, t3, t4⟩ := HCell.out w3 k2 ep2 nu2 lf2 B3 m2 e3; have ow3 : w3.ownsRow w.heap.size 49 5 (.slice A' q c') q (rowC rows) := own_after HW.out o3.out HLt.out; have hn6 := five_new2P w3 (.cells #[.int .i64 k2, .int .i64 ep2, .int .i64 nu2, .int .i64 lf2, .slice B3 m2 e3] 49) (.int .i64 k2) (.int .i64 ep2) (.int .i64 nu2) (.int .i64 lf2) (.slice B3 m2 e3) 49; have hsz3 : w.heap.size ≤ w3.heap.size := Nat.le_trans HO.out.size o3.out.size)
    | (at_builtin; (refine wpList_append_any _ rfl (.tmp 34) (.tmp 36) _ rfl w.heap.size 49 i0 _ 5 56 Tryz.underlying43 hi0 hz0 hz1 hz2 rfl (by omega) (.slice A' q c') q (rowC rows) rfl ((ow3.alloc _).alloc _) (w3.heap.size + 1 + 1) (some ⟨w3.heap.size + 1, 0, none⟩) 1 1 [.int .i64 k2, .int .i64 ep2, .int .i64 nu2, .int .i64 lf2, .slice B3 m2 e3] rfl hn6 (rowC_five _ _ _ _ _ _ _) (by have := Hq.out; simp only [maxLen]; omega) (by have := Hq.out; omega) (by simp; omega) ?_; intro v9 w9 ho9 hg9 hat9; obtain ⟨A9, c9, rfl⟩ := own_slice7 ho9)))
   have hb5 : Below w3.heap.size w3 ((w3.alloc (.cells #[.int .i64 k2, .int .i64 ep2, .int .i64 nu2, .int .i64 lf2, .slice B3 m2 e3] 49)).alloc (.cells #[.int .i64 k2, .int .i64 ep2, .int .i64 nu2, .int .i64 lf2, .slice B3 m2 e3] 49)) := ((Below.refl _ _).alloc (Nat.le_refl _) _).alloc (by simp) _
   have hlow : ∀ j, (Value.slice A' q c').ownBlock = some j → w.heap.size ≤ j ∧ j < wr.heap.size := fun j hj => HW.out.lt j hj
   generalize ((w3.alloc (.cells #[.int .i64 k2, .int .i64 ep2, .int .i64 nu2, .int .i64 lf2, .slice B3 m2 e3] 49)).alloc (.cells #[.int .i64 k2, .int .i64 ep2, .int .i64 nu2, .int .i64 lf2, .slice B3 m2 e3] 49)) = w5 at hg9 hat9 hb5 ⊢
   have hT9 : Only w w9 ga := by
    have h1 : Only w w5 ga := only_more (only_trans HO.out o3.out) hb5
    refine ⟨hg9.os.trans h1.os, hg9.tape.trans h1.tape, hg9.output.trans h1.output, Nat.le_trans h1.size hg9.size, fun i hi hn => ?_⟩
    refine (hg9.block i (Nat.lt_of_lt_of_le hi h1.size) fun e => ?_).trans (h1.block i hi hn)
    have := (hlow i e.symm).1
    omega
   have hAr9 : Area13 w9 ga img (at_ + (k + 1 + 1)) least most bb := by
    have h1 : Area13 w5 ga img (at_ + (k + 1 + 1)) least most bb := by
     have := ar3.out.below hb5
     rw [show at_ + (k + 1) + 1 = at_ + (k + 1 + 1) by omega] at this
     exact this
    exact h1.grown hg9 (fun k e => by have := (hlow k e).1; have := HLt.out; have := HA.out.lt.2; omega)
   refine ⟨⟨k + 1, q + 1, A9, c9, rows ++ [(⟨k2, ep2, nu2, lf2, D2⟩, B3, e3)], by omega, by rw [Hq.out], rfl, by go_num, ⟨by rw [List.length_append, HS.out.1]; rfl, ?_, fun i hi => ?_⟩, fun x hx => ?_, ?_, hAr9, hT9⟩, ?_⟩
   ·rw [List.map_append, HS.out.2.1, takeW_succ _ _ (k + 1), HCn.out.2]; rfl
   ·by_cases hi2 : i ≤ k
    ·exact HS.out.2.2 i hi2
    ·obtain rfl : i = k + 1 := by omega
     exact HCn.out.1
   ·rcases List.mem_append.1 hx with h1 | h1
    ·exact (((HR.out x h1).area HAr.out o3.out).below hb5).grown hg9 hat9
    ·rw [List.mem_singleton] at h1
     subst h1
     refine RowD.grown (v := .slice A' q c') ⟨(r3.out.below hb5).more hb5.size, fun h0 ad e => ?_⟩ hg9 hat9
     intro h5
     have h6 := nw3.out ad e
     have h7 := (hlow _ h5).2
     omega
   ·rw [rowC_snoc]
    have e9 : secC (⟨k2, ep2, nu2, lf2, D2⟩, B3, e3) = [.int .i64 k2, .int .i64 ep2, .int .i64 nu2, .int .i64 lf2, .slice B3 m2 e3] := by unfold secC; simp [HM2.out]
    rw [e9]
    exact ho9
   ·simp [intOf]; omega
  ·obtain rfl : k = L := by omega
   have d0 : decide ((k : Int) < (k : Int)) = false := decide_eq_false (by omega)
   have d1 : decide (k < k) = false := decide_eq_false (by omega)
   have HSl : Hid (recordW (secA img) N at_ least most = if (joinS (takeW (secA img) at_ (k + 1))).2 = true then some ((joinS (takeW (secA img) at_ (k + 1))).1, k + 1) else none) := rec_all (sane_secA img) (by rw [HFirst.out.2]) HS.out.2.2 (by rw [HFirst.out.2])
   obtain ⟨X, hX⟩ : ∃ X, X = takeW (secA img) at_ (k + 1) := ⟨_, rfl⟩
   have hXl : X.length = q := by rw [hX, takeW_length, Hq.out]
   have hXd : ∀ x ∈ X, x.data.length ≤ 1000 := fun x hx => by
    rw [hX] at hx
    obtain ⟨i, hi, rfl⟩ := List.mem_map.1 hx
    have := (sec_small (HS.out.2.2 i (by have := List.mem_range.1 hi; omega)).2.1).2
    omega
   have hSL : SL wr wr.heap.size A' X := by
    have h3 := SL.of_own HW.out (by rw [HS.out.1, Hq.out]) (fun x hx => (HR.out x hx).1)
    rw [HS.out.2.1, ← hX] at h3
    exact h3
   rw [← hX] at HSl
   obtain ⟨T, jb, hT⟩ : ∃ T jb, joinS X = (T, jb) := ⟨_, _, rfl⟩
   have HT00 : jb = false → T = [] := fun h => by have := joinS_no (l := X) (by rw [hT]; exact h); rw [hT] at this; exact this
   rw [hT] at HSl
   obtain ⟨tl, htl⟩ : ∃ tl, tl = T.length := ⟨_, rfl⟩
   have HT := Lib.hid htl
   have HJ : Hid (Calls Tryz.prog 83 #[.slice A' q c'] wr fun e w' => ∃ B d, e = .returned (.tuple #[.slice B tl d, .bool jb]) ∧ Hid (Own w' wr.heap.size B T d) ∧ Below wr.heap.size wr w') := by
    have h3 := sjoin_own X A' c' wr hSL (by omega) hXd
    rw [hT, hXl] at h3
    rw [htl]
    exact h3
   clear hX hT htl hq hXl hXd hSL
   cases jb with
   | true =>
    have HE : Hid (recordW (secA img) N at_ least most = some (T, k + 1)) := by show _ = _; rw [HSl.out]; simp
    go_wp2_with (first
     | (go_at_call 83; (with_reducible refine HJ.out.mono ?_); rintro e w6 ⟨B6, e6, rfl, o6, b6⟩))
    go_ret2
    unfold GivesRecP
    rw [HE.out]
    exact ⟨only_more HO.out b6, B6, e6, by rw [HT.out]; rfl, own_lessP o6.out HO.out.size, HAr.out.below b6⟩
   | false =>
    have HE : Hid (recordW (secA img) N at_ least most = none) := by show _ = _; rw [HSl.out]; simp
    have hT0 : Hid (tl = 0) := by
     show tl = 0
     rw [HT.out]
     have : T = [] := HT00 rfl
     rw [this]; rfl
    go_wp2_with (first
     | (go_at_call 83; (with_reducible refine HJ.out.mono ?_); rintro e w6 ⟨B6, e6, rfl, o6, b6⟩))
    go_ret2
    unfold GivesRecP
    rw [HE.out]
    exact ⟨only_more HO.out b6, B6, e6, by rw [hT0.out]; rfl⟩
end
section
open Go.RowKit
open Wal
theorem Tryz.logBuild (q : Nat) (a b c : Int) (A : Option Addr) (m d : Nat) (w : World) : Sem.run Tryz.prog (Instr.build 67 #[(0, .pointer (some ⟨q, 0, none⟩)), (1, .int .i64 a), (2, .int .i64 b), (3, .int .i64 c), (4, .slice A m d)]) w = .ok (.agg #[.pointer (some ⟨q, 0, none⟩), .int .i64 a, .int .i64 b, .int .i64 c, .slice A m d, .bool false]) w := by kernel_rfl
theorem turns_then {w w1 w' : World} {G : Nat → Prop} (h : Turns w w1 G G) (hb : Below w.heap.size w1 w') : Turns w w' G G := ⟨hb.os.trans h.os, hb.tape.trans h.tape, hb.output.trans h.output, Nat.le_trans h.size hb.size, fun k hk hn => (hb.block k hk).trans (h.block k hk hn), fun _ h => .inl h⟩
theorem own_first {w : World} {base n c : Nat} {A : Option Addr} {xs : List Value} (h : w.ownsRow base 5 1 (.slice A n c) n xs) (hn : 0 < n) : ∃ g, A = some ⟨g, 0, none⟩ ∧ base ≤ g ∧ g < w.heap.size ∧ n ≤ c ∧ c ≤ 9223372036854775807 := by
 rcases h.2 with ⟨_, h1⟩ | ⟨g, cap, cur, he, hb, hg, h4, h5, _⟩
 ·omega
 ·simp only [Value.slice.injEq] at he
  obtain ⟨rfl, -, rfl⟩ := he
  exact ⟨g, rfl, hb, Blk.lt (t := 5) hg, h4, h5⟩
theorem recs_le {sec : Sec} {N : Nat} {least most : Int} : ∀ (f a : Nat), a ≤ N → (recordsW sec N least most f a).2 ≤ N
 | 0, a, h => h
 | f + 1, a, h => by
  rw [recordsW]
  cases hr : recordW sec N a least most with
  | none => exact h
  | some x =>
   obtain ⟨t, n⟩ := x
   exact recs_le f (a + n) (rec_room hr).2
theorem ropen_bad {w : World} {q : Nat} {G B : Nat → Prop} {d : Dk} (h : RDisk w q G B d) (frm bl least most : Int) (hl : d.load ≤ 90000) (hs : d.safe.length ≤ 200) (hb : openOk d frm bl least most = false) :
  Calls Tryz.prog 27 #[.pointer (some ⟨q, 0, none⟩), .int .i64 frm, .int .i64 bl, .int .i64 least, .int .i64 most] w (OpenPost (openW d frm bl least most) q G B w) := by
 have HV : Hid (openW d frm bl least most = (d, none, [], 1)) := by show _ = _; unfold openW; rw [if_pos hb]
 have HP : Hid (RSame d G B w w q) := ⟨h, Turns.refl _ _⟩
 obtain ⟨s, cs, V, hs', hv, h⟩ := h
 have r0 := h.r0
 obtain ⟨n, hn⟩ : ∃ n, n = d.safe.length := ⟨_, rfl⟩
 rw [← hn] at r0 hs
 have hb2 : frm < 0 ∨ (n : Int) < frm ∨ bl < 1 ∨ (n : Int) - frm < bl ∨ least < 1 ∨ most < least ∨ 2147483647 < most := by
  rcases Classical.em (frm < 0 ∨ (n : Int) < frm ∨ bl < 1 ∨ (n : Int) - frm < bl ∨ least < 1 ∨ most < least ∨ 2147483647 < most) with h1 | h1
  ·exact h1
  ·have : openOk d frm bl least most = true := by unfold openOk; simp only [Bool.and_eq_true, decide_eq_true_eq]; omega
   rw [this] at hb; cases hb
 clear hb h hn hl
 by_cases c0 : frm < 0
 ·have e00 : decide (frm < 0) = true := decide_eq_true (by omega)
  go_enter Tryz.func27, Tryz.ntmps27
  go_wp2
  go_ret3
  unfold OpenPost
  rw [HV.out]
  exact ⟨HP.out, rfl⟩
 have e00 : decide (frm < 0) = false := decide_eq_false (by omega)
 by_cases c1 : (n : Int) < frm
 ·have e10 : decide ((n : Int) < frm) = true := decide_eq_true (by omega)
  have e11 : decide (frm > (n : Int)) = true := decide_eq_true (by omega)
  go_enter Tryz.func27, Tryz.ntmps27
  go_wp2
  go_ret3
  unfold OpenPost
  rw [HV.out]
  exact ⟨HP.out, rfl⟩
 have e10 : decide ((n : Int) < frm) = false := decide_eq_false (by omega)
 have e11 : decide (frm > (n : Int)) = false := decide_eq_false (by omega)
 have y0 : IntKind.i64.wrap ((n : Int) - frm) = (n : Int) - frm := IntWalk.i64_in _ (by omega)
 by_cases c2 : bl < 1
 ·have e20 : decide (bl < 1) = true := decide_eq_true (by omega)
  go_enter Tryz.func27, Tryz.ntmps27
  go_wp2
  go_ret3
  unfold OpenPost
  rw [HV.out]
  exact ⟨HP.out, rfl⟩
 have e20 : decide (bl < 1) = false := decide_eq_false (by omega)
 by_cases c3 : (n : Int) - frm < bl
 ·have e30 : decide ((n : Int) - frm < bl) = true := decide_eq_true (by omega)
  have e31 : decide (bl > (n : Int) - frm) = true := decide_eq_true (by omega)
  go_enter Tryz.func27, Tryz.ntmps27
  go_wp2
  go_ret3
  unfold OpenPost
  rw [HV.out]
  exact ⟨HP.out, rfl⟩
 have e30 : decide ((n : Int) - frm < bl) = false := decide_eq_false (by omega)
 have e31 : decide (bl > (n : Int) - frm) = false := decide_eq_false (by omega)
 by_cases c4 : least < 1
 ·have e40 : decide (least < 1) = true := decide_eq_true (by omega)
  go_enter Tryz.func27, Tryz.ntmps27
  go_wp2
  go_ret3
  unfold OpenPost
  rw [HV.out]
  exact ⟨HP.out, rfl⟩
 have e40 : decide (least < 1) = false := decide_eq_false (by omega)
 by_cases c5 : most < least
 ·have e50 : decide (most < least) = true := decide_eq_true (by omega)
  have e51 : decide (least > most) = true := decide_eq_true (by omega)
  go_enter Tryz.func27, Tryz.ntmps27
  go_wp2
  go_ret3
  unfold OpenPost
  rw [HV.out]
  exact ⟨HP.out, rfl⟩
 have e50 : decide (most < least) = false := decide_eq_false (by omega)
 have e51 : decide (least > most) = false := decide_eq_false (by omega)
 by_cases c6 : 2147483647 < most
 ·have e60 : decide ((2147483647 : Int) < most) = true := decide_eq_true (by omega)
  have e61 : decide (most > 2147483647) = true := decide_eq_true (by omega)
  go_enter Tryz.func27, Tryz.ntmps27
  go_wp2
  go_ret3
  unfold OpenPost
  rw [HV.out]
  exact ⟨HP.out, rfl⟩
 have e60 : decide ((2147483647 : Int) < most) = false := decide_eq_false (by omega)
 have e61 : decide (most > 2147483647) = false := decide_eq_false (by omega)
 omega
theorem ropen_ok {w : World} {q : Nat} {G B : Nat → Prop} {d : Dk} (h : RDisk w q G B d) (frm bl least most : Int) (hl : d.load ≤ 90000) (hs : d.safe.length ≤ 200) (ho : openOk d frm bl least most = true) :
  Calls Tryz.prog 27 #[.pointer (some ⟨q, 0, none⟩), .int .i64 frm, .int .i64 bl, .int .i64 least, .int .i64 most] w (OpenPost (openW d frm bl least most) q G B w) := by
 obtain ⟨o1, o2, o3, o4, o5, o6, o7⟩ : 0 ≤ frm ∧ frm ≤ (d.safe.length : Int) ∧ 1 ≤ bl ∧ bl ≤ (d.safe.length : Int) - frm ∧ 1 ≤ least ∧ least ≤ most ∧ most ≤ 2147483647 := by
  unfold openOk at ho
  simp only [Bool.and_eq_true, decide_eq_true_eq] at ho
  exact ho
 obtain ⟨f, rfl⟩ : ∃ f : Nat, frm = (f : Int) := ⟨frm.toNat, by omega⟩
 obtain ⟨m, rfl⟩ : ∃ m : Nat, bl = (m : Int) := ⟨bl.toNat, by omega⟩
 have r0 : ∃ s cs, w.cell? ⟨q, 0, none⟩ = some (.slice (some ⟨s, 0, none⟩) d.safe.length cs) := by
  obtain ⟨s, cs, V, hs', hv, h⟩ := h
  exact ⟨s, cs, h.r0⟩
 obtain ⟨s, cs, r0⟩ := r0
 obtain ⟨n, hn⟩ : ∃ n, n = d.safe.length := ⟨_, rfl⟩
 rw [← hn] at r0 hs o2 o4
 have Hn := Lib.hid hn
 have e00 : decide ((f : Int) < 0) = false := decide_eq_false (by omega)
 have e10 : decide ((n : Int) < (f : Int)) = false := decide_eq_false (by omega)
 have e11 : decide ((f : Int) > (n : Int)) = false := decide_eq_false (by omega)
 have e20 : decide ((m : Int) < 1) = false := decide_eq_false (by omega)
 have e30 : decide ((n : Int) - (f : Int) < (m : Int)) = false := decide_eq_false (by omega)
 have e31 : decide ((m : Int) > (n : Int) - (f : Int)) = false := decide_eq_false (by omega)
 have e40 : decide (least < 1) = false := decide_eq_false (by omega)
 have e50 : decide (most < least) = false := decide_eq_false (by omega)
 have e51 : decide (least > most) = false := decide_eq_false (by omega)
 have e60 : decide ((2147483647 : Int) < most) = false := decide_eq_false (by omega)
 have e61 : decide (most > 2147483647) = false := decide_eq_false (by omega)
 have e02 : decide (n < f) = false := decide_eq_false (by omega)
 have e03 : decide (f > n) = false := decide_eq_false (by omega)
 have e04 : decide (m < 1) = false := decide_eq_false (by omega)
 have y0 : IntKind.i64.wrap ((n : Int) - (f : Int)) = (n : Int) - (f : Int) := IntWalk.i64_in _ (by omega)
 cases hoff : d.off with
 | true =>
  have HV : Hid (openW d (f : Int) (m : Int) least most = (d, none, [], 9)) := by show _ = _; unfold openW; rw [if_neg (by rw [ho]; simp), if_pos hoff]
  have HR : Hid (∀ i : Int, Calls Tryz.prog 52 #[.pointer (some ⟨q, 0, none⟩), .int .i64 i] w fun e w' => (∃ A c, e = .returned (.tuple #[.slice A 0 c, .int .i64 9])) ∧ RSame d G B w w' q) := fun i => by
   refine (rread_any h i (by omega)).mono ?_
   rintro e w' ⟨A, c, he, _, hr⟩
   have hv : d.read i = (d, [], 9) := by unfold Dk.read; rw [if_pos hoff]
   rw [hv] at he hr
   exact ⟨⟨A, c, he⟩, hr⟩
  clear ho h hn hl hoff
  go_enter Tryz.func27, Tryz.ntmps27
  go_wp2
  go_loopw [13, 14, 15, 16] (fun _ x _ _ wr => x = .int .i64 0 ∧ wr = w) (fun _ _ _ _ _ => 0)
  case atStart => exact ⟨rfl, rfl⟩
  case round =>
   obtain ⟨rfl, rfl⟩ := hrel
   have d0 : decide ((0 : Int) < (m : Int)) = true := decide_eq_true (by omega)
   have d1 : decide (0 < m) = true := decide_eq_true (by omega)
   go_wp2_with (first
    | (go_at_call 52; (with_reducible refine (HR.out _).mono ?_); rintro e w1 ⟨⟨A1, c1, rfl⟩, hp1⟩))
   go_ret3
   unfold OpenPost
   rw [HV.out]
   exact ⟨hp1, rfl⟩
 | false =>
  have HV : Hid (openW d (f : Int) (m : Int) least most = ({ d with reads := d.reads + m }, some ⟨f, 4 * m, most, (areaW d f m).take (64 * (recordsA (areaW d f m) least most).2), false⟩, (recordsA (areaW d f m) least most).1, 0)) := by
   show _ = _; unfold openW; rw [if_neg (by rw [ho]; simp), if_neg (by rw [hoff]; simp)]; simp only [Int.toNat_natCast]
  have HG := Lib.hid (show (∀ k, G k → k < w.heap.size) ∧ ∀ k, B k → k < w.heap.size from ⟨h.glt, h.blt⟩)
  have HL : Hid (∀ i, i ≤ m → (areaW d f i).length = 256 * i ∧ (i < m → areaW d f (i + 1) = areaW d f i ++ d.now (f + i) ∧ (d.now (f + i)).length = 256)) := fun i hi => by
   have hnl : ∀ j, j < m → (d.now (f + j)).length = 256 := fun j hj => Dk.fit_now h.good.fit (by have := Hn.out; omega)
   refine ⟨(flat_block (fun j => d.now (f + j)) i fun j hj => hnl j (by omega)).1, fun h1 => ⟨?_, hnl i h1⟩⟩
   unfold areaW
   rw [List.range_succ, List.flatMap_append]
   simp
  have HR : Hid (∀ (i : Nat) W, i < m → RSame { d with reads := d.reads + i } G B w W q → Calls Tryz.prog 52 #[.pointer (some ⟨q, 0, none⟩), .int .i64 ((f + i : Nat) : Int)] W fun e w' => ∃ A c, e = .returned (.tuple #[.slice A 256 c, .int .i64 0]) ∧ Hid (Own w' W.heap.size A (d.now (f + i)) c) ∧ Hid (RSame { d with reads := d.reads + (i + 1) } G B w w' q) ∧ Hid (Turns W w' G G)) := fun i W hi hS => by
   refine (rread_any hS.1 _ (by unfold Dk.load at hl ⊢; simp only; omega)).mono ?_
   rintro e w' ⟨A, c, he, hw, hr⟩
   have hv : ({ d with reads := d.reads + i } : Dk).read ((f + i : Nat) : Int) = ({ d with reads := d.reads + (i + 1) }, d.now (f + i), 0) := by
    unfold Dk.read
    rw [if_neg (by simp [hoff]), if_neg (by simp [Dk.there]; have := Hn.out; omega)]
    simp only [Int.toNat_natCast, Nat.add_assoc]
    rfl
   rw [hv] at he hw hr
   have hln := ((HL.out i (by omega)).2 hi).2
   simp only [hln] at he
   exact ⟨A, c, he, hw, ⟨hr.1, hS.2.trans hr.2⟩, hr.2⟩
  have hm0 : 0 < m := by omega
  have hm2 : m ≤ 200 := by omega
  have HP0 : Hid (RSame { d with reads := d.reads + 0 } G B w w q) := ⟨h, Turns.refl _ _⟩
  have nb := fun a b c A m d w' => Tryz.logBuild q a b c A m d w'
  have y1 : IntKind.i64.wrap (4 * (m : Int)) = 4 * (m : Int) := IntWalk.i64_in _ (by omega)
  clear ho h hn hl hoff
  go_enter Tryz.func27, Tryz.ntmps27
  go_wp2
  go_loopw [13, 14, 15, 16] (fun v x _ _ wr => ∃ (i k : Nat) (A' : Option Addr) (c' : Nat), i ≤ m ∧ k ≤ 60000 ∧ v = .slice A' k c' ∧ x = .int .i64 (i : Int) ∧ Hid (RSame { d with reads := d.reads + i } G B w wr q) ∧ Hid (wr.ownsRow w.heap.size 5 1 (.slice A' k c') k (cells (areaW d f i))) ∧ Hid (k = 256 * i)) (fun _ x _ _ _ => m - (intOf x).toNat)
  case atStart => exact ⟨0, 0, none, 0, by omega, by omega, rfl, rfl, HP0.out, World.ownsRow_nil _ _ _ _, rfl⟩
  case round =>
   obtain ⟨i, k, A', c', hi, hk6, rfl, rfl, HS, HW, HK⟩ := hrel
   by_cases hlt : i < m
   ·have d0 : decide ((i : Int) < (m : Int)) = true := decide_eq_true (by omega)
    have d1 : decide (i < m) = true := decide_eq_true hlt
    obtain ⟨z, hz⟩ : ∃ z, z = f + i := ⟨_, rfl⟩
    have z0 : (f : Int) + (i : Int) = (z : Int) := by omega
    have z1 : IntKind.i64.wrap (z : Int) = (z : Int) := IntWalk.i64_in _ (by omega)
    have HC := Lib.hid (HR.out i wr hlt HS.out)
    rw [← hz] at HC
    have HL2 := Lib.hid ((HL.out i hi).2 hlt)
    rw [← hz] at HL2
    clear hz
    go_wp2_with (first
     | (go_at_call 52; (with_reducible refine HC.out.mono ?_); rintro e w1 ⟨A1, c1, rfl, o1, s1, t1⟩; have ow1 : w1.ownsRow w.heap.size 5 1 (.slice A' k c') k (cells (areaW d f i)) := own_turns HW.out t1.out (fun j hj hg => by have := (HW.out.lt j hj).1; have := HG.out.1 j hg; omega))
     | (at_builtin; refine append_rb rfl (.tmp 74) (.tmp 75) rfl rfl ow1 (Below.refl _ w1) (Nat.le_trans HS.out.2.size t1.out.size) rfl (own_rb o1.out) HL2.out.2.symm (by omega) rfl ?_; intro A4 c4 w4 o4 b4))
    have h1 := HG.out
    have hsz : w.heap.size ≤ w1.heap.size := Nat.le_trans HS.out.2.size t1.out.size
    refine ⟨⟨i + 1, k + 256, A4, c4, by omega, by have := HK.out; omega, rfl, by go_num, ⟨s1.out.1.turns (turns_above b4 hsz (E' := fun k => w.heap.size ≤ k) (fun _ h => .inl h)) (fun k hk hh => by have := h1.1 k hk; omega) (fun k hk hh => by have := h1.2 k hk; omega), turns_then s1.out.2 b4⟩, by show World.ownsRow _ _ _ _ _ _ _; rw [HL2.out.1]; exact o4, by have := HK.out; show _ = _; omega⟩, ?_⟩
    simp [intOf]; omega
   ·obtain rfl : i = m := by omega
    have d0 : decide ((i : Int) < (i : Int)) = false := decide_eq_false (by omega)
    obtain ⟨ga, rfl, hg1, hg2, hkc, hcc⟩ := own_first HW.out (by have := HK.out; omega)
    have HGa := Lib.hid (show w.heap.size ≤ ga ∧ ga < wr.heap.size ∧ k ≤ c' ∧ c' ≤ 9223372036854775807 from ⟨hg1, hg2, hkc, hcc⟩)
    obtain ⟨area, har⟩ : ∃ area, area = areaW d f i := ⟨_, rfl⟩
    rw [← har] at HV HW
    have hal : k = area.length := by have := HK.out; have h2 := (HL.out i (Nat.le_refl _)).1; rw [har, h2]; exact this
    obtain ⟨R, u, hR⟩ : ∃ R u, recordsA area least most = (R, u) := ⟨_, _, rfl⟩
    have hu : 64 * u ≤ k := by
     have h1 := recs_le (sec := secA area) (N := area.length / 64) (least := least) (most := most) (area.length / 64 + 1) 0 (Nat.zero_le _)
     have h2 : (recordsA area least most).2 ≤ area.length / 64 := h1
     rw [hR] at h2
     simp only at h2
     omega
    rw [hR] at HV
    obtain ⟨rl, hrl⟩ : ∃ rl, rl = R.length := ⟨_, rfl⟩
    have HRl := Lib.hid hrl
    have HRs : Hid (Calls Tryz.prog 53 #[.slice (some ⟨ga, 0, none⟩) k c', .int .i64 least, .int .i64 most] wr fun e w' => ∃ A c, e = .returned (.tuple #[.slice A rl c, .int .i64 (u : Int)]) ∧ Hid (BL w' (fun k => wr.heap.size ≤ k) A R) ∧ Below wr.heap.size wr w') := by
     have ho : Own wr w.heap.size (some ⟨ga, 0, none⟩) area c' := by
      have := HW.out
      unfold Own
      rw [← hal]; exact this
     have h3 := rrecords_any area k (some ⟨ga, 0, none⟩) c' least most wr hal (own_rb ho) hkc hcc (by omega)
     rw [hR] at h3
     rw [hrl]
     exact h3
    have HAr := Lib.hid hal
    obtain ⟨u64, hu64⟩ : ∃ x, x = 64 * u := ⟨_, rfl⟩
    have HU := Lib.hid hu64
    have z2 : (64 : Int) * (u : Int) = (u64 : Int) := by omega
    have z3 : IntKind.i64.wrap (u64 : Int) = (u64 : Int) := IntWalk.i64_in _ (by omega)
    have ks := fun W => sl_to ga 0 k c' u64 (u64 : Int) rfl (by omega) (by have := HK.out; omega) W
    have hle : u64 ≤ k := by omega
    have HLe := Lib.hid hle
    clear har hal hR hrl hu64 hle hg1 hg2 hkc hcc hu
    go_wp2_with (first
     | (go_at_call 53; (with_reducible refine HRs.out.mono ?_); rintro e w1 ⟨A1, c1, rfl, l1, b1⟩))
    go_ret3
    unfold OpenPost
    rw [HV.out]
    have hbW := fun o => b1.alloc b1.size o
    have hlen : (area.take (64 * u)).length = u64 := by rw [List.length_take, ← HAr.out, HU.out]; have := HLe.out; have := HU.out; omega
    have hsz : wr.heap.size ≤ w1.heap.size := b1.size
    have hszw : w.heap.size ≤ wr.heap.size := HS.out.2.size
    refine ⟨⟨HS.out.1.below (hbW _), HS.out.2.trans (Turns.of_below (hbW _) G)⟩, w1.heap.size, A1, c1, some ⟨ga, 0, none⟩, c', by omega, ⟨?_, fun hf => by have := HG.out.1 _ hf; omega, fun hf => by have := HG.out.2 _ hf; omega, ⟨?_, fun ad e => ?_⟩, fun ad e => ?_⟩, (fun ad e => by injection e with e; rw [← e]; exact HGa.out.1), (l1.out.up ((Below.refl _ _).alloc (Nat.le_refl _) _)).wide (fun k hk => Nat.le_trans hszw hk), by simp only [HRl.out]; rfl⟩
    ·have hcs : logC q (some ⟨ga, 0, none⟩) c' ⟨f, 4 * i, most, area.take (64 * u), false⟩ = #[.pointer (some ⟨q, 0, none⟩), .int .i64 (f : Int), .int .i64 (4 * (i : Int)), .int .i64 most, .slice (some ⟨ga, 0, none⟩) u64 c', .bool false] := by
      unfold logC
      simp only [hlen]
      rw [show ((4 * i : Nat) : Int) = 4 * (i : Int) by omega]
     show Blk _ _ _ (logC q (some ⟨ga, 0, none⟩) c' ⟨f, 4 * i, most, area.take (64 * u), false⟩)
     rw [hcs]
     exact Blk.new w1 _ _
    ·have ho : Own wr w.heap.size (some ⟨ga, 0, none⟩) area c' := by
      have := HW.out
      unfold Own
      rw [← HAr.out]; exact this
     have h3 := (((own_rb ho).below (hbW (.cells #[.pointer (some ⟨q, 0, none⟩), .int .i64 (f : Int), .int .i64 (4 * (i : Int)), .int .i64 most, .slice (some ⟨ga, 0, none⟩) u64 c', .bool false] 67))).more (hbW (.cells #[.pointer (some ⟨q, 0, none⟩), .int .i64 (f : Int), .int .i64 (4 * (i : Int)), .int .i64 most, .slice (some ⟨ga, 0, none⟩) u64 c', .bool false] 67)).size)
     exact rb_take h3 (64 * u) (by rw [← HAr.out]; have := HLe.out; have := HU.out; omega)
    ·injection e with e
     subst e
     refine ⟨fun hf => ?_, ?_⟩
     ·have := HG.out.1 _ hf; have := HGa.out.1; simp only at *; omega
     ·have := HGa.out.2.1
      show ga < _
      simp; omega
    ·injection e with e
     subst e
     show ga ≠ _
     have := HGa.out.2.1; omega
theorem ropen_any {w : World} {q : Nat} {G B : Nat → Prop} {d : Dk} (h : RDisk w q G B d) (frm bl least most : Int) (hl : d.load ≤ 90000) (hs : d.safe.length ≤ 200) :
  Calls Tryz.prog 27 #[.pointer (some ⟨q, 0, none⟩), .int .i64 frm, .int .i64 bl, .int .i64 least, .int .i64 most] w (OpenPost (openW d frm bl least most) q G B w) := by
 cases ho : openOk d frm bl least most with
 | false => exact ropen_bad h frm bl least most hl hs ho
 | true => exact ropen_ok h frm bl least most hl hs ho
end
section
open Go.RowKit
open Wal
theorem div_four (n : Nat) : n / 64 / 4 = n / 256 := by rw [Nat.div_div_eq_div_mul]
theorem recBytes_length13 (a : Nat) (e : Int) (t : List UInt8) : (recBytes a e t).length = 64 * needN t.length := by rw [← recK_all, recK_length]
theorem append_wrote {d : Dk} {l : Lg} {t : List UInt8} (hg : l.gone = false) (h0 : needN t.length ≠ 0) (hf : ¬ l.n - used l < needN t.length) {W : Dk} {z : Int} (hw : wroteW l.frm (allW l.b (recBytes (used l) l.epoch t)) (chunkN (endL l.b ++ recBytes (used l) l.epoch t).length) (used l / 4) d = (W, z)) :
  appendW d l t = (W, if z = 0 then { l with b := l.b ++ recBytes (used l) l.epoch t } else { l with gone := true }, z) := by
 have hc := chunk_count l.b (recBytes (used l) l.epoch t)
 have hc' : (allW l.b (recBytes (used l) l.epoch t)).length / 256 - used l / 4 = chunkN (endL l.b ++ recBytes (used l) l.epoch t).length := by unfold used; rw [div_four]; exact hc
 unfold appendW
 rw [if_neg (by rw [hg]; simp), if_neg h0, if_neg hf]
 simp only []
 rw [hc']
 unfold wroteW at hw
 by_cases h1 : (writesW l.frm (allW l.b (recBytes (used l) l.epoch t)) (chunkN (endL l.b ++ recBytes (used l) l.epoch t).length) (used l / 4) d).2 ≠ 0
 ·rw [if_pos h1] at hw ⊢
  rw [hw] at h1 ⊢
  rw [if_neg h1]
 ·rw [if_neg h1] at hw ⊢
  rw [hw]
  by_cases h2 : z = 0
  ·subst h2
   simp
  ·simp only
   rw [if_pos h2, if_neg h2]
theorem deedsL_same {w w' : World} {g lg : Nat} {F E : Nat → Prop} {d : Dk} {l : Lg} {A : Option Addr} {c : Nat} (h : PDisk w g F d) (hL : PLogA w lg g E l A c) (hd : ∀ k, E k → ¬ F k) (hb : Below w.heap.size w w') : PDeedsL d l F E w w' g lg :=
 ⟨F, E, h.below hb, ⟨A, c, hL.below hb⟩, hd, Turns.of_below hb _⟩
theorem wappend_gone {w : World} {g lg : Nat} {F E : Nat → Prop} {d : Dk} {l : Lg} {A : Option Addr} {c : Nat} (h : PDisk w g F d) (hL : PLogA w lg g E l A c) (hd : ∀ k, E k → ¬ F k) (t : List UInt8) (n : Nat) (T : Option Addr) (cT : Nat) (hl : n ≤ 50000) (hg : l.gone = true) :
  Calls Tryz.prog 16 #[.pointer (some ⟨lg, 0, none⟩), .slice T n cT] w fun e w' => e = .returned (.int .i64 (appendW d l t).2.2) ∧ PDeedsL (appendW d l t).1 (appendW d l t).2.1 F E w w' g lg := by
 have HV : Hid (appendW d l t = (d, l, 8)) := by show _ = _; unfold appendW; rw [if_pos hg]
 have HP : Hid (PDeedsL d l F E w w g lg) := deedsL_same h hL hd (Below.refl _ _)
 have HN := Lib.hid (fun W => sneed_any n (by omega) W)
 have HD : Hid (Calls Tryz.prog 22 #[.pointer (some ⟨lg, 0, none⟩)] w fun e w' => e = .returned (.bool true) ∧ w = w') := by
  have := wdead_any ⟨A, c, hL⟩
  rwa [hg] at this
 generalize needN n = N at HN
 clear h hL hd hg
 go_enter Tryz.func16, Tryz.ntmps16
 go_wp2_with (first
  | (go_at_call 45; (with_reducible refine (HN.out _).mono ?_); rintro e w1 ⟨rfl, rfl⟩)
  | (go_at_call 22; (with_reducible refine HD.out.mono ?_); rintro e w1 ⟨rfl, rfl⟩))
 go_ret
 rw [HV.out]
 exact ⟨rfl, HP.out⟩
theorem wappend_zero {w : World} {g lg : Nat} {F E : Nat → Prop} {d : Dk} {l : Lg} {A : Option Addr} {c : Nat} (h : PDisk w g F d) (hL : PLogA w lg g E l A c) (hd : ∀ k, E k → ¬ F k) (t : List UInt8) (n : Nat) (T : Option Addr) (cT : Nat) (hn : n = t.length) (h0 : n = 0) (hg : l.gone = false) :
  Calls Tryz.prog 16 #[.pointer (some ⟨lg, 0, none⟩), .slice T n cT] w fun e w' => e = .returned (.int .i64 (appendW d l t).2.2) ∧ PDeedsL (appendW d l t).1 (appendW d l t).2.1 F E w w' g lg := by
 have HV : Hid (appendW d l t = (d, l, 1)) := by show _ = _; unfold appendW; rw [if_neg (by rw [hg]; simp), if_pos (by rw [← hn, h0]; rfl)]
 have HP : Hid (PDeedsL d l F E w w g lg) := deedsL_same h hL hd (Below.refl _ _)
 subst h0
 have HN : Hid (∀ W, Calls Tryz.prog 45 #[.int .i64 0] W fun e w' => e = .returned (.int .i64 0) ∧ W = w') := fun W => sneed_any 0 (by omega) W
 have HD : Hid (Calls Tryz.prog 22 #[.pointer (some ⟨lg, 0, none⟩)] w fun e w' => e = .returned (.bool false) ∧ w = w') := by
  have := wdead_any ⟨A, c, hL⟩
  rwa [hg] at this
 clear h hL hd hg hn
 go_enter Tryz.func16, Tryz.ntmps16
 go_wp2_with (first
  | (go_at_call 45; (with_reducible refine (HN.out _).mono ?_); rintro e w1 ⟨rfl, rfl⟩)
  | (go_at_call 22; (with_reducible refine HD.out.mono ?_); rintro e w1 ⟨rfl, rfl⟩))
 go_ret
 rw [HV.out]
 exact ⟨rfl, HP.out⟩
theorem wappend_full {w : World} {g lg : Nat} {F E : Nat → Prop} {d : Dk} {l : Lg} {A : Option Addr} {c : Nat} (h : PDisk w g F d) (hL : PLogA w lg g E l A c) (hd : ∀ k, E k → ¬ F k) (t : List UInt8) (n : Nat) (T : Option Addr) (cT : Nat) (hn : n = t.length) (hl : n ≤ 50000) (h0 : n ≠ 0) (hg : l.gone = false) {len : Nat} (hf : l.fit len) (hfull : l.n - used l < needN t.length) :
  Calls Tryz.prog 16 #[.pointer (some ⟨lg, 0, none⟩), .slice T n cT] w fun e w' => e = .returned (.int .i64 (appendW d l t).2.2) ∧ PDeedsL (appendW d l t).1 (appendW d l t).2.1 F E w w' g lg := by
 have hN : needN n = (n + 47) / 48 := rfl
 have HV : Hid (appendW d l t = (d, l, 2)) := by show _ = _; unfold appendW; rw [if_neg (by rw [hg]; simp), if_neg (by rw [← hn]; omega), if_pos hfull]
 have HP : Hid (∀ k, PDeedsL d l F E w (w.drewN k) g lg) := fun k => deedsL_same h hL hd (drewN_room w k)
 obtain ⟨N, hNe⟩ : ∃ N, N = needN n := ⟨_, rfl⟩
 have HN : Hid (∀ W, Calls Tryz.prog 45 #[.int .i64 (n : Int)] W fun e w' => e = .returned (.int .i64 (N : Int)) ∧ W = w') := fun W => by rw [hNe]; exact sneed_any n (by omega) W
 have HD : Hid (Calls Tryz.prog 22 #[.pointer (some ⟨lg, 0, none⟩)] w fun e w' => e = .returned (.bool false) ∧ w = w') := by
  have := wdead_any ⟨A, c, hL⟩
  rwa [hg] at this
 have hus : used l ≤ l.n := by have := hf.used; unfold used; omega
 obtain ⟨x, hx⟩ : ∃ x, x = l.n - used l := ⟨_, rfl⟩
 have HR : Hid (Calls Tryz.prog 19 #[.pointer (some ⟨lg, 0, none⟩)] w fun e w' => e = .returned (.int .i64 (x : Int)) ∧ ∃ k, w' = w.drewN k) := by
  have := wroom_any ⟨A, c, hL⟩ hf
  rwa [show ((l.n : Nat) : Int) - ((used l : Nat) : Int) = (x : Int) by omega] at this
 rw [← hn, ← hx, ← hNe] at hfull
 have d0 : ((N : Int) == 0) = false := by rw [beq_eq_false_iff_ne]; omega
 have d1 : decide ((N : Int) = 0) = false := decide_eq_false (by omega)
 have d2 : decide (N = 0) = false := decide_eq_false (by omega)
 have d3 : decide ((N : Int) > (x : Int)) = true := decide_eq_true (by omega)
 have d4 : decide ((x : Int) < (N : Int)) = true := decide_eq_true (by omega)
 have d5 : decide (x < N) = true := decide_eq_true (by omega)
 clear h hL hd hg hn hN hNe hf hus hx hfull
 go_enter Tryz.func16, Tryz.ntmps16
 go_wp2_with (first
  | (go_at_call 45; (with_reducible refine (HN.out _).mono ?_); rintro e w1 ⟨rfl, rfl⟩)
  | (go_at_call 22; (with_reducible refine HD.out.mono ?_); rintro e w1 ⟨rfl, rfl⟩)
  | (go_at_call 19; (with_reducible refine HR.out.mono ?_); rintro e w1 ⟨rfl, k1, rfl⟩))
 go_ret
 rw [HV.out]
 exact ⟨rfl, HP.out _⟩
theorem own_blk9 {w : World} {base n c : Nat} {A : Option Addr} {xs : List Value} (h : w.ownsRow base 5 1 (.slice A n c) n xs) : ∀ ad, A = some ad → base ≤ ad.block ∧ ad.block < w.heap.size := fun ad e => by
 rcases h.2 with ⟨h1, _⟩ | ⟨g, cap, cur, h1, hb, hg, _⟩
 ·simp only [Value.slice.injEq] at h1
  rw [h1.1] at e; cases e
 ·simp only [Value.slice.injEq] at h1
  rw [h1.1] at e
  injection e with e
  subst e
  exact ⟨hb, Blk.lt (t := 5) hg⟩
theorem own_cap9 {w : World} {base n c size : Nat} {A : Option Addr} {e : TypeId} {xs : List Value} (h : w.ownsRow base e size (.slice A n c) n xs) : n ≤ c ∧ c ≤ 9223372036854775807 := by
 rcases h.2 with ⟨h1, h2⟩ | ⟨g, cap, cur, h1, _, _, h3, h4, _⟩
 ·simp only [Value.slice.injEq] at h1
  exact ⟨by omega, by omega⟩
 ·simp only [Value.slice.injEq] at h1
  unfold maxLen at h4
  exact ⟨by omega, by omega⟩
theorem log_past {w6 w7 : World} {g lg : Nat} {F E : Nat → Prop} {l : Lg} {A : Option Addr} {c : Nat} {W : Dk} (h : PLogA w6 lg g E l A c) (hd : ∀ k, E k → ¬ F k) (hp : ∃ F', PDisk w7 g F' W ∧ Turns w6 w7 F F') : PLogA w7 lg g E l A c := by
 obtain ⟨F', _, ht⟩ := hp
 exact h.turns ht hd
theorem concat13 {w1 w3 : World} {A A3 : Option Addr} {m c q3 c3 N : Nat} {X R : List UInt8} (ho : w3.ownsRow w1.heap.size 5 1 (.slice A3 q3 c3) q3 (cells R)) (hX : RB w3 w3.heap.size A X) (hm : m = X.length) (hRl : R.length = 64 * N) (hq : q3 = 64 * N) (hN : N ≤ 1000) (hm2 : m < 256) (hb : Below w1.heap.size w1 w3) :
  Hid (Calls Tryz.prog 47 #[.slice (some ⟨w3.heap.size, 0, none⟩) 2 2] (w3.alloc (.cells #[.slice A m c, .slice A3 q3 c3] 39)) fun e w' => ∃ A6 q6 c6, e = .returned (.slice A6 q6 c6) ∧ Hid (q6 = (X ++ R).length ∧ w'.ownsRow w3.heap.size 5 1 (.slice A6 q6 c6) q6 (cells (X ++ R))) ∧ Hid (Below w3.heap.size w3 w')) := by
 have hal : Below w3.heap.size w3 (w3.alloc (.cells #[.slice A m c, .slice A3 q3 c3] 39)) := (Below.refl _ _).alloc (Nat.le_refl _) _
 have hk : Blk (w3.alloc (.cells #[.slice A m c, .slice A3 q3 c3] 39)) w3.heap.size 39 #[.slice A m c, .slice A3 q3 c3] := Blk.new w3 _ _
 have hR3 : RB w3 w3.heap.size A3 R := by
  have h7 := Reads.of_own ho
  unfold RB
  rw [hRl, ← hq]
  exact h7
 have h3 := bconcat_any X R m q3 A A3 c c3 w3.heap.size 2 (w3.alloc (.cells #[.slice A m c, .slice A3 q3 c3] 39)) hm (by omega) (by omega) (by omega) (by simp) (by rw [hk.cell]; rfl) (by rw [hk.cell]; rfl) ((hX.below hal).more hal.size) ((hR3.below hal).more hal.size)
 show Calls _ _ _ _ _
 refine h3.mono ?_
 rintro e w' ⟨A6, c6, q6, rfl, hq6, ho6, hb6⟩
 exact ⟨A6, q6, c6, rfl, ⟨by rw [hq6, List.length_append]; omega, own_lessP13 ho6 hal.size⟩, hal.trans (hb6.mono hal.size)⟩
theorem wappend_in {w : World} {g lg : Nat} {F E : Nat → Prop} {d : Dk} {l : Lg} {A : Option Addr} {c : Nat} (h : PDisk w g F d) (hL : PLogA w lg g E l A c) (hd : ∀ k, E k → ¬ F k) (t : List UInt8) (n : Nat) (T : Option Addr) (cT : Nat) (hn : n = t.length) (hl : n ≤ 50000) (hr : RB w w.heap.size T t) (hc : n ≤ cT) (hcm : cT ≤ 9223372036854775807) (hld : d.load ≤ 80000) (h0 : n ≠ 0) (hg : l.gone = false) {len : Nat} (hf : l.fit len) (hlen : len ≤ 1000) (hroom : ¬ l.n - used l < needN t.length) :
  Calls Tryz.prog 16 #[.pointer (some ⟨lg, 0, none⟩), .slice T n cT] w fun e w' => e = .returned (.int .i64 (appendW d l t).2.2) ∧ PDeedsL (appendW d l t).1 (appendW d l t).2.1 F E w w' g lg := by
 have hN : needN n = (n + 47) / 48 := rfl
 obtain ⟨N, hNe⟩ : ∃ N, N = needN n := ⟨_, rfl⟩
 have hN0 : N ≠ 0 := by omega
 have hus : used l ≤ l.n := by have := hf.used; unfold used; omega
 have hfew := hf.few
 obtain ⟨u, hu⟩ : ∃ u, u = used l := ⟨_, rfl⟩
 obtain ⟨x, hx⟩ : ∃ x, x = l.n - u := ⟨_, rfl⟩
 obtain ⟨R, hR⟩ : ∃ R, R = recBytes (used l) l.epoch t := ⟨_, rfl⟩
 have hRl : R.length = 64 * N := by rw [hR, recBytes_length13, ← hn, ← hNe]
 obtain ⟨W, z, hW⟩ : ∃ W z, wroteW l.frm (allW l.b R) (chunkN (endL l.b ++ R).length) (used l / 4) d = (W, z) := ⟨_, _, rfl⟩
 have HV : Hid (appendW d l t = (W, if z = 0 then { l with b := l.b ++ R } else { l with gone := true }, z)) := by
  show _ = _
  rw [hR] at hW ⊢
  exact append_wrote hg (by rw [← hn]; omega) hroom hW
 have HN : Hid (∀ W, Calls Tryz.prog 45 #[.int .i64 (n : Int)] W fun e w' => e = .returned (.int .i64 (N : Int)) ∧ W = w') := fun W => by rw [hNe]; exact sneed_any n (by omega) W
 have HD : Hid (Calls Tryz.prog 22 #[.pointer (some ⟨lg, 0, none⟩)] w fun e w' => e = .returned (.bool false) ∧ w = w') := by
  have := wdead_any ⟨A, c, hL⟩
  rwa [hg] at this
 have HRm : Hid (Calls Tryz.prog 19 #[.pointer (some ⟨lg, 0, none⟩)] w fun e w' => e = .returned (.int .i64 (x : Int)) ∧ ∃ k, w' = w.drewN k) := by
  have := wroom_any ⟨A, c, hL⟩ hf
  rwa [show ((l.n : Nat) : Int) - ((used l : Nat) : Int) = (x : Int) by omega] at this
 rw [← hn, ← hNe, ← hu, ← hx] at hroom
 have d0 : ((N : Int) == 0) = false := by rw [beq_eq_false_iff_ne]; omega
 have d1 : decide ((N : Int) = 0) = false := decide_eq_false (by omega)
 have d2 : decide (N = 0) = false := decide_eq_false (by omega)
 have d3 : decide ((N : Int) > (x : Int)) = false := decide_eq_false (by omega)
 have d4 : decide ((x : Int) < (N : Int)) = false := decide_eq_false (by omega)
 have d5 : decide (x < N) = false := decide_eq_false (by omega)
 obtain ⟨m, hm⟩ : ∃ m, m = l.b.length % 256 := ⟨_, rfl⟩
 have hm256 : m < 256 := by rw [hm]; exact Nat.mod_lt _ (by omega)
 have HSec : Hid (∀ X, Below w.heap.size w X → Calls Tryz.prog 48 #[.pointer (some ⟨lg, 0, none⟩), .slice T n cT] X fun e w' => ∃ A' q c', e = .returned (.slice A' q c') ∧ Hid (q = 64 * N ∧ w'.ownsRow X.heap.size 5 1 (.slice A' q c') q (cells R)) ∧ Hid (Below X.heap.size X w')) := fun X hX => by
  have h3 := wsectors_any (hL.below hX) t n T cT hn hl ((hr.below hX).more hX.size) hc hcm (by rw [← hn]; omega) (by rw [← hn]; omega) ⟨by have := hf.epoch; omega, hf.epoch.2⟩
  refine h3.mono ?_
  rintro e w' ⟨A', q, c', he, hq, ho, hb⟩
  rw [← hn, ← hNe] at hq
  rw [← hR] at ho
  exact ⟨A', q, c', he, ⟨hq, ho⟩, hb⟩
 have HC : Hid (∀ X, Below w.heap.size w X → X.cell? ⟨lg, 4, none⟩ = some (.slice A m c)) := fun X hX => by rw [hm]; exact (hL.below hX).r4
 have HTl : Hid (∀ X, Below w.heap.size w X → RB X X.heap.size A (endL l.b)) := fun X hX => (hL.below hX).tail
 have Hm : Hid (m = (endL l.b).length) := by show m = _; rw [endL_length]; exact hm
 have HLg := Lib.hid hL
 have HDk := Lib.hid (And.intro h hd)
 have HW := Lib.hid hW
 have HRl := Lib.hid hRl
 have Hu := Lib.hid hu
 have Hf := Lib.hid (And.intro hf (And.intro hlen hld))
 have HN1 : Hid (N ≤ 1000 ∧ N ≠ 0 ∧ u ≤ 1000 ∧ u + N ≤ 1000) := ⟨by omega, hN0, by omega, by omega⟩
 clear h hL hd hg hn hN hNe hf hus hx hroom hfew hr hc hcm hld hlen hW hRl hR hm hN0 hl hu
 go_enter Tryz.func16, Tryz.ntmps16
 go_wp2_with (first
  | (go_at_call 45; (with_reducible refine (HN.out _).mono ?_); rintro e w1 ⟨rfl, rfl⟩)
  | (go_at_call 22; (with_reducible refine HD.out.mono ?_); rintro e w1 ⟨rfl, rfl⟩)
  | (go_at_call 19; (with_reducible refine HRm.out.mono ?_); rintro e w1 ⟨rfl, k1, rfl⟩))
 have hb1 := drewN_room w k1
 generalize w.drewN k1 = w1 at hb1 ⊢
 have HB1 := Lib.hid hb1
 have s0 := HC.out w1.drew (hb1.trans (((Below.refl _ _).drew).mono hb1.size))
 have hbd : Below w.heap.size w w1.drew := hb1.drew
 clear hb1
 go_region_held3 (fun X => X.cell? ⟨lg, 4, none⟩ = some (.slice A m c))
  (first | exact s0 | exact s3 | exact s4 | exact s5)
  (first
   | (go_at_call 48; ((with_reducible refine (HSec.out _ hbd).mono ?_); rintro e w3 ⟨A3, q3, c3, rfl, ho3, b3⟩; have hb3 := hbd.trans (b3.out.mono hbd.size); have s3 := HC.out w3 hb3; have s4 := HC.out _ (hb3.alloc hb3.size (.cells #[.slice A m c, .slice A3 q3 c3] 39)); have HCc := concat13 (c := c) ho3.out.2 (HTl.out w3 hb3) Hm.out HRl.out ho3.out.1 HN1.out.1 hm256 b3.out))
   | (go_at_call 47; (with_reducible refine HCc.out.mono ?_); rintro e w6 ⟨A6, q6, c6, rfl, h6, b6⟩; have s5 := HC.out w6 (hb3.trans (b6.out.mono hb3.size))))
 have hb6 : Below w.heap.size w w6 := hb3.trans (b6.out.mono hb3.size)
 have hL6 := HLg.out.below hb6
 have hD6 := HDk.out.1.below hb6
 have hFlt : ∀ k, F k → k < w.heap.size := HDk.out.1.flt
 have hElt := HLg.out.lt
 have hw3 : w.heap.size ≤ w3.heap.size := hb3.size
 obtain ⟨b, hbb⟩ : ∃ b, b = endL l.b ++ R := ⟨_, rfl⟩
 rw [← hbb] at h6
 have ho6 : Own w6 w3.heap.size A6 b c6 := by
  unfold Own
  rw [← h6.out.1]
  exact h6.out.2
 have hcap := own_cap7 ho6
 have hA6 := own_blk13 ho6
 have hbl : b.length = m + 64 * N := by rw [hbb, List.length_append, ← Hm.out, HRl.out]
 have hq6 := h6.out.1
 have hn1 := HN1.out
 have HWr : Hid (Calls Tryz.prog 49 #[.pointer (some ⟨lg, 0, none⟩), .slice A6 q6 c6] w6 fun e w' => e = .returned (.int .i64 z) ∧ Hid (∃ F', PDisk w' g F' W ∧ Turns w6 w' F F')) := by
  have h9 := wwrite_any hD6 hL6 HDk.out.2 b q6 A6 c6 hq6 (by omega) (by omega) (own_rb ho6) (fun ad e hf => by have := (hA6 ad e).1; have := hFlt _ hf; omega) (by have := hcap.2.1; omega) hcap.2.2 (allW l.b R) (used l / 4) rfl (fun i hi => by
   have h8 := chunk_blk l.b R i (by rw [← hbb, ← hq6]; exact hi)
   rw [← hbb] at h8
   unfold used
   rw [div_four]
   exact h8) (by have := Hf.out.1.area; have := Hf.out.2.1; omega) (by rw [← Hu.out]; omega) Hf.out.2.2
  have hw := HW.out
  rw [← hbb, ← hq6] at hw
  rw [hw] at h9
  exact h9
 have HO6 := Lib.hid (And.intro ho6 (And.intro hA6 (And.intro hcap (And.intro hbl hq6))))
 have HB6 := Lib.hid (And.intro hb6 (And.intro hL6 (And.intro hFlt (And.intro hElt hw3))))
 have Hbb := Lib.hid hbb
 clear hb6 hL6 hD6 hFlt hElt hw3 hbb ho6 hcap hA6 hbl hq6 hn1 s0 s3 s4 s5 hb3 hbd HCc
 by_cases hz : z = 0
 rotate_left
 ·have p00 : (z == 0) = false := by rw [beq_eq_false_iff_ne]; exact hz
  have p01 : (z != 0) = true := by rw [bne_iff_ne]; exact hz
  have p02 : decide (z = 0) = false := decide_eq_false hz
  rw [if_neg hz] at HV
  clear hz
  go_wp2_with (first
   | (go_at_call 49; (with_reducible refine HWr.out.mono ?_); rintro e w7 ⟨rfl, hp7⟩; have HP7 := Lib.hid hp7.out; have hL7 := log_past HB6.out.2.1 HDk.out.2 hp7.out; have r6 := hL7.r6; have z6 := hL7.fz 6; have HL7 := Lib.hid hL7; clear hp7 hL7))
  go_ret
  rw [HV.out]
  refine ⟨rfl, ?_⟩
  obtain ⟨F', hp7, ht7⟩ := HP7.out
  obtain ⟨hb6, hL6, hFlt, hElt, hw3⟩ := HB6.out
  have hsz6 := hb6.size
  have hFE : ∀ k, E k → ¬ F' k := fun k hk hf => by
   rcases ht7.foot k hf with h9 | h9
   ·exact HDk.out.2 k hk h9
   ·have := hElt k hk; omega
  have hel := HLg.out.el
  refine ⟨F', E, hp7.turns (Turns.set_ (F := fun k => k = lg) rfl 6 _) (fun k hk e => hFE lg hel (e ▸ hk)), ⟨A, c, HL7.out.dead⟩, hFE, ?_⟩
  have h8 : Turns w w7 (fun k => F k ∨ E k) (fun k => F' k ∨ E k) := ((Turns.of_below hb6 F).trans ht7).wide (fun k hk => .inl hk) (fun k hk => by
   rcases hk with h9 | h9
   ·exact .inr (.inl h9)
   ·exact .inl (.inr h9))
  exact h8.trans (Turns.set_ (F := fun k => F' k ∨ E k) (.inr hel) 6 _)
 ·subst hz
  rw [if_pos rfl] at HV
  obtain ⟨un, hun⟩ : ∃ un, un = u + N := ⟨_, rfl⟩
  have y5 : (u : Int) + (N : Int) = (un : Int) := by omega
  have y6 : IntKind.i64.wrap (un : Int) = (un : Int) := IntWalk.i64_in _ (by have := HN1.out; omega)
  have Hun := Lib.hid hun
  clear hun
  have HTail : Hid (∀ X, Hid (RB X X.heap.size A6 b) → Calls Tryz.prog 46 #[.slice A6 q6 c6] X fun e w' => ∃ A' m' c', e = .returned (.slice A' m' c') ∧ Hid (m' = b.length % 256 ∧ w'.ownsRow X.heap.size 5 1 (.slice A' m' c') m' (cells (endL b))) ∧ Hid (Below X.heap.size X w')) := fun X hX => by
   have h9 := wtail_any b A6 q6 c6 X HO6.out.2.2.2.2 hX.out (by rw [HO6.out.2.2.2.2]; exact HO6.out.2.2.1.2.1) HO6.out.2.2.1.2.2 (by have := HO6.out.2.2.2; have := HN1.out; omega)
   refine h9.mono ?_
   rintro e w' ⟨A', m', c', rfl, h1, h2, h3⟩
   exact ⟨A', m', c', rfl, ⟨h1, h2⟩, h3⟩
  have HRB : Hid (∀ w7, (∃ F', PDisk w7 g F' W ∧ Turns w6 w7 F F') → Hid (RB (w7.setCell ⟨lg, 3, none⟩ (.int .i64 (un : Int))) (w7.setCell ⟨lg, 3, none⟩ (.int .i64 (un : Int))).heap.size A6 b))   := fun w7 hpt => by
   obtain ⟨F', hp, ht⟩ := hpt
   have h8 : RB w7 w7.heap.size A6 b := (Reads.turns (own_rb HO6.out.1) (Nat.le_refl _) ht (fun ad e hf => by have := (HO6.out.2.1 ad e).1; have := HB6.out.2.2.1 _ hf; have := HB6.out.2.2.2.2; omega)).more ht.size
   have h9 := Turns.set_ (w := w7) (F := fun k => k = lg) (g := lg) rfl 3 (.int .i64 (un : Int))
   exact (Reads.turns h8 (Nat.le_refl _) h9 (fun ad e hf => by have := (HO6.out.2.1 ad e).1; have := HB6.out.2.2.2.1 lg HLg.out.el; have := HB6.out.2.2.2.2; have hf : ad.block = lg := hf; omega)).more h9.size
  go_wp2_with (first
   | (go_at_call 49; (with_reducible refine HWr.out.mono ?_); rintro e w7 ⟨rfl, hp7⟩; have HP7 := Lib.hid hp7.out; have hL7 := log_past HB6.out.2.1 HDk.out.2 hp7.out; have r3 := hL7.r3; rw [← Hu.out] at r3; have z3 := hL7.fz 3; have HL7 := Lib.hid hL7; have hrb7 := HRB.out w7 hp7.out; have bk8 := hL7.blk.set_ 3 (.int .i64 (un : Int)); have HBK8 := Lib.hid bk8; clear hp7 hL7 bk8)
   | (go_at_call 46; (with_reducible refine (HTail.out _ hrb7).mono ?_); rintro e w9 ⟨A9, m9, c9, rfl, o9, b9⟩; have bk9 := Blk.below HBK8.out b9.out HBK8.out.lt; have r49 := bk9.cell 4; have z49 := bk9.frozen 4))
  go_ret
  rw [HV.out]
  refine ⟨rfl, ?_⟩
  obtain ⟨F', hp7, ht7⟩ := HP7.out
  obtain ⟨hb6, hL6, hFlt, hElt, hw3⟩ := HB6.out
  have hsz6 := hb6.size
  have hel := HLg.out.el
  have hlgw := hElt lg hel
  have hsz7 := ht7.size
  have hFE : ∀ k, E k → ¬ F' k := fun k hk hf => by
   rcases ht7.foot k hf with h9 | h9
   ·exact HDk.out.2 k hk h9
   ·have := hElt k hk; omega
  have hA9 := own_blk9 o9.out.2
  have hs8 : (w7.setCell ⟨lg, 3, none⟩ (.int .i64 (un : Int))).heap.size = w7.heap.size := by simp [World.setCell]
  have hs9 := b9.out.size
  rw [hs8] at hA9 hs9
  have hlen : (l.b ++ R).length = l.b.length + 64 * N := by rw [List.length_append, HRl.out]
  have hwhole := Hf.out.1.whole
  have hbe : endL b = endL (l.b ++ R) := by rw [Hbb.out, ← endL_more]
  have hbm : b.length % 256 = (l.b ++ R).length % 256 := by rw [← endL_length, ← endL_length, hbe]
  have hcap9 := own_cap9 o9.out.2
  have hu' : un = (l.b ++ R).length / 64 := by
   have h1 := Hu.out
   unfold used at h1
   rw [Hun.out, hlen, h1]
   omega
  have hgr := PLogA.grown_ (w1 := w7) (w2 := w9) (L := R) (A' := A9) (c' := c9) (u := un) HL7.out (Below.refl _ _) hu' (by have h9 := b9.out; rw [hs8] at h9; exact h9) (by
   have h7 := Reads.of_own o9.out.2
   unfold RB
   rw [← hbe, endL_length, ← o9.out.1]
   exact h7) (fun ad e => hA9 ad e) (n := m9) (by rw [o9.out.1, hbm]) hcap9
  have ht8 : Turns w w7 (fun k => F k ∨ E k) (fun k => F' k ∨ E k) := ((Turns.of_below hb6 F).trans ht7).wide (fun k hk => .inl hk) (fun k hk => by
   rcases hk with h9 | h9
   ·exact .inr (.inl h9)
   ·exact .inl (.inr h9))
  have ht9 : Turns w7 (w9.setCell ⟨lg, 4, none⟩ (.slice A9 m9 c9)) (fun k => k = lg) (fun k => k = lg) := ((Turns.set_ (F := fun k => k = lg) rfl 3 _).trans (Turns.of_below b9.out _)).trans (Turns.set_ (F := fun k => k = lg) rfl 4 _)
  refine ⟨F', _, hp7.turns ht9 (fun k hk e => hFE lg hel (e ▸ hk)), ⟨A9, c9, hgr⟩, fun k hk hf => ?_, ?_⟩
  ·rcases hk with rfl | ⟨ad, e, rfl⟩
   ·exact hFE _ hel hf
   ·have h9 := (hA9 ad e).1
    have h10 := hp7.flt _ hf
    omega
  ·refine (ht8.trans (ht9.wide (E := fun k => F' k ∨ E k) (E' := fun k => F' k ∨ E k) (fun k hk => .inr (by rw [hk]; exact hel)) (fun k hk => .inl hk))).foot_ (fun k hk => ?_)
   rcases hk with h9 | rfl | ⟨ad, e, rfl⟩
   ·exact .inl (.inl h9)
   ·exact .inl (.inr hel)
   ·exact .inr (by have := (hA9 ad e).1; omega)
theorem wappend_any {w : World} {g lg : Nat} {F E : Nat → Prop} {d : Dk} {l : Lg} (h : PDisk w g F d) (hL : PLog w lg g E l) (hd : ∀ k, E k → ¬ F k) (t : List UInt8) (n : Nat) (T : Option Addr) (cT : Nat) (hn : n = t.length) (hl : n ≤ 50000) (hr : RB w w.heap.size T t) (hT : 0 < n → ∀ ad, T = some ad → ¬ F ad.block ∧ ¬ E ad.block) (hc : n ≤ cT) (hcm : cT ≤ 9223372036854775807) (hld : d.load ≤ 80000) {len : Nat} (hf : l.fit len) (hlen : len ≤ 1000) (hsl : d.safe.length = len) :
  Calls Tryz.prog 16 #[.pointer (some ⟨lg, 0, none⟩), .slice T n cT] w fun e w' => e = .returned (.int .i64 (appendW d l t).2.2) ∧ PDeedsL (appendW d l t).1 (appendW d l t).2.1 F E w w' g lg := by
 obtain ⟨A, c, hL⟩ := hL
 cases hg : l.gone with
 | true => exact wappend_gone h hL hd t n T cT hl hg
 | false =>
  by_cases h0 : n = 0
  ·exact wappend_zero h hL hd t n T cT hn h0 hg
  ·by_cases hfull : l.n - used l < needN t.length
   ·exact wappend_full h hL hd t n T cT hn hl h0 hg hf hfull
   ·exact wappend_in h hL hd t n T cT hn hl hr hc hcm hld h0 hg hf hlen hfull
end
end Go.Proofs.YtghenhacndaelaaGreat
