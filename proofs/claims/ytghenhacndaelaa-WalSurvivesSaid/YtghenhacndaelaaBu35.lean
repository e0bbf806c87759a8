/- Lemmas under the proofs of this place: WalPRecord. No statement is proved here. -/
import Derived.Test.YtghenhacndaelaaBu33
import Derived.Test.YtghenhacndaelaaBu26
set_option linter.unusedSimpArgs false
set_option linter.unusedVariables false
set_option maxRecDepth 100000
set_option maxHeartbeats 16000000
namespace Go.Proofs.Ytghenhacndaelaa
open Go.RowKit
open Wal
def GivesRecP (r : Option (List UInt8 × Nat)) (ga : Nat) (img : List UInt8) (at_ : Nat) (least most : Int) (bb : Nat) (w : World) (e : Ending) (w' : World) : Prop :=
  Only w w' ga ∧ match r with
    | none => ∃ A c, e = .returned (.tuple #[.slice A 0 c, .bool false])
    | some x => ∃ A c, e = .returned (.tuple #[.slice A x.1.length c, .bool true]) ∧ Own w' w.heap.size A x.1 c ∧ Area13 w' ga img (at_ + x.2) least most bb
theorem sane_secA (img : List UInt8) : Sane (secA img) := fun j h => (getS_bytes h).1
theorem sec_small {img : List UInt8} {j : Nat} (h : (secA img j).2 = 0) : (0 ≤ (secA img j).1.left ∧ (secA img j).1.left ≤ 65535) ∧ (secA img j).1.data.length ≤ 48 := by
  have h5 := ((Sd.may_iff _).1 (getS_bytes h).1)
  exact ⟨⟨h5.2.2.2.2.2.2.1, h5.2.2.2.2.2.2.2.1⟩, h5.2.2.2.2.2.2.2.2⟩
def RowD (w : World) (v : Value) (x : Sd × Option Addr × Nat) : Prop := RB w w.heap.size x.2.1 x.1.data ∧ (0 < x.1.data.length → ∀ ad, x.2.1 = some ad → v.ownBlock ≠ some ad.block)
theorem RowD.area {w w' : World} {v : Value} {x : Sd × Option Addr × Nat} {ga j : Nat} {img : List UInt8} {least most : Int} {bb : Nat} (h : RowD w v x) (ha : Area13 w ga img j least most bb) (ho : Only w w' ga) : RowD w' v x := ⟨ha.rb ho h.1, h.2⟩
theorem RowD.below {w w' : World} {v : Value} {x : Sd × Option Addr × Nat} (h : RowD w v x) (hb : Below w.heap.size w w') : RowD w' v x := ⟨(h.1.below hb).more hb.size, h.2⟩
theorem RowD.grown {w w' : World} {v v' : Value} {x : Sd × Option Addr × Nat} (h : RowD w v x) (hg : w.grownBy w' v.ownBlock) (hv : v'.ownBlock = v.ownBlock ∨ v'.ownBlock = some w.heap.size) : RowD w' v' x := by
  by_cases h0 : 0 < x.1.data.length
  · obtain ⟨ad, e, hb, hc⟩ := h.1.2 h0
    have hne := h.2 h0 ad e
    refine ⟨⟨h.1.1, fun _ => ⟨ad, e, Nat.lt_of_lt_of_le hb hg.size, fun j u hu => ?_⟩⟩, fun _ ad2 e2 => ?_⟩
    · rw [World.cell?_of_block (hg.block (ad.add j).block (by rw [block_of_add]; exact hb) (by rw [block_of_add]; exact fun e => hne e.symm))]
      exact hc j u hu
    · rw [e] at e2
      injection e2 with e2
      subst e2
      rcases hv with h1 | h1
      · rw [h1]; exact hne
      · rw [h1]; intro h2; injection h2 with h2; omega
  · refine ⟨?_, fun h1 => absurd h1 h0⟩
    have hz : x.1.data = [] := List.eq_nil_of_length_eq_zero (by omega)
    rw [hz]
    exact ⟨rfl, fun h1 => absurd h1 (by simp)⟩
theorem own_after {w w' : World} {base n size : Nat} {e : TypeId} {v : Value} {xs : List Value} (h : w.ownsRow base e size v n xs) {ga : Nat} (ho : Only w w' ga) (hg : ga < base) : w'.ownsRow base e size v n xs :=
  own_only h ho fun e2 => by have := (h.lt ga e2).1; omega
theorem five_new2P (W : World) (o : Obj) (v0 v1 v2 v3 v4 : Value) (t : TypeId) : Reads ((W.alloc o).alloc (.cells #[v0, v1, v2, v3, v4] t)) (W.heap.size + 1 + 1) 5 (some ⟨W.heap.size + 1, 0, none⟩) 1 [v0, v1, v2, v3, v4] := by
  have h := five_new (W.alloc o) v0 v1 v2 v3 v4 t
  have hsz : (W.alloc o).heap.size = W.heap.size + 1 := by simp
  rw [hsz] at h
  exact h
theorem own_lessP {w : World} {base base' n size : Nat} {e : TypeId} {v : Value} {xs : List Value} (h : w.ownsRow base e size v n xs) (hb : base' ≤ base) : w.ownsRow base' e size v n xs :=
  ⟨h.1, h.2.imp id fun ⟨g, cap, cur, h1, h2, h3⟩ => ⟨g, cap, cur, h1, Nat.le_trans hb h2, h3⟩⟩
theorem joinS_no {l : List Sd} (h : (joinS l).2 = false) : (joinS l).1 = [] := by
  unfold joinS at h ⊢
  cases l with
  | nil => rfl
  | cons x r =>
    simp only at h ⊢
    split
    · rename_i h2; rw [if_pos h2] at h; cases h
    · rfl
theorem wrecord_any {w : World} {ga : Nat} {img : List UInt8} {at_ N : Nat} {least most : Int} {bb : Nat} (h : Area13 w ga img at_ least most bb) (hN : img.length = 64 * N) (hN1 : N ≤ 1000) :
    Calls Try.prog 38 #[.func (.func 26) #[.pointer (some ⟨ga, 0, none⟩)] #[]] w (GivesRecP (recordW (secA img) N at_ least most) ga img at_ least most bb w) := by
  obtain ⟨i0, hi0, hz0, hz1, hz2⟩ := info_parts Try.secInfo
  have hlt : ga < w.heap.size := h.lt.1
  have HLt := Lib.hid hlt
  have a24 := fun w' => Try.aggSec w'
  have s24 := fun w' => Try.sizeSec w'
  have nt := fun w' => Try.notTrue w'
  have nf := fun w' => Try.notFalse w'
  have HNo : Hid (∀ j W, Area13 W ga img j least most bb → ¬ Cnt (secA img) N least most j → Calls Try.prog 26 #[.pointer (some ⟨ga, 0, none⟩)] W fun e w' => e = .returned (.tuple #[.agg #[.int .i64 0, .int .i64 0, .int .i64 0, .int .i64 0, .slice none 0 0], .bool false]) ∧ Below W.heap.size W w') := fun j W hW hc => (wnext_any hW hN hN1).1 hc
  have HYes : Hid (∀ j W (kd ep nu lf : Int) (D : List UInt8) (m : Nat), Area13 W ga img j least most bb → Cnt (secA img) N least most j → (secA img j).1 = ⟨kd, ep, nu, lf, D⟩ → m = D.length → Calls Try.prog 26 #[.pointer (some ⟨ga, 0, none⟩)] W fun e w' => ∃ B d, e = .returned (.tuple #[.agg #[.int .i64 kd, .int .i64 ep, .int .i64 nu, .int .i64 lf, .slice B m d], .bool true]) ∧ Hid (RB w' w'.heap.size B D) ∧ Hid (∀ ad, B = some ad → W.heap.size ≤ ad.block) ∧ Hid (Area13 w' ga img (j + 1) least most bb) ∧ Hid (Only W w' ga)) := fun j W kd ep nu lf D m hW hc hs hm => by
    refine ((wnext_any hW hN hN1).2 hc).mono ?_
    rintro e w' ⟨B, d, he, h1, h2, h3, h4⟩
    rw [hs] at he h1
    unfold secV at he
    simp only [← hm] at he
    exact ⟨B, d, he, h1, h2, h3, h4⟩
  have HA := Lib.hid h
  clear h hN
  by_cases hc0 : Cnt (secA img) N least most at_
  rotate_left
  · have HV : Hid (recordW (secA img) N at_ least most = none) := rec_none_first (.inl hc0)
    have HC := Lib.hid (HNo.out at_ w HA.out hc0)
    clear hc0
    go_enter Try.func38, Try.ntmps38
    go_wp2_with (first
      | (go_at_call 26; (with_reducible refine HC.out.mono ?_); rintro e w1 ⟨rfl, b1⟩))
    go_ret2
    unfold GivesRecP
    rw [HV.out]
    exact ⟨only_below (b1.alloc b1.size _) ga, none, 0, rfl⟩
  obtain ⟨⟨kd, ep, nu, lf, D⟩, hs⟩ : ∃ s, (secA img at_).1 = s := ⟨_, rfl⟩
  obtain ⟨m, hm⟩ : ∃ m, m = D.length := ⟨_, rfl⟩
  have HM := Lib.hid hm
  have HC := Lib.hid (HYes.out at_ w kd ep nu lf D m HA.out hc0 hs hm)
  have hsm := sec_small hc0.2.1
  have hN0 := hc0.1
  rw [hs] at hsm
  have HD48 : Hid (D.length ≤ 48) := hsm.2
  have HCell : Hid (∀ (w1 : World) (kd ep nu lf : Int) B (m d : Nat), (w1.alloc (.cells #[.int .i64 kd, .int .i64 ep, .int .i64 nu, .int .i64 lf, .slice B m d] 79)).cell? ⟨w1.heap.size, 0, none⟩ = some (.int .i64 kd) ∧ (w1.alloc (.cells #[.int .i64 kd, .int .i64 ep, .int .i64 nu, .int .i64 lf, .slice B m d] 79)).cell? ⟨w1.heap.size, 1, none⟩ = some (.int .i64 ep) ∧ (w1.alloc (.cells #[.int .i64 kd, .int .i64 ep, .int .i64 nu, .int .i64 lf, .slice B m d] 79)).cell? ⟨w1.heap.size, 2, none⟩ = some (.int .i64 nu) ∧ (w1.alloc (.cells #[.int .i64 kd, .int .i64 ep, .int .i64 nu, .int .i64 lf, .slice B m d] 79)).cell? ⟨w1.heap.size, 3, none⟩ = some (.int .i64 lf) ∧ (w1.alloc (.cells #[.int .i64 kd, .int .i64 ep, .int .i64 nu, .int .i64 lf, .slice B m d] 79)).cell? ⟨w1.heap.size, 4, none⟩ = some (.slice B m d)) := fun w1 kd ep nu lf B m d => by
    have h0 : Blk (w1.alloc (.cells #[.int .i64 kd, .int .i64 ep, .int .i64 nu, .int .i64 lf, .slice B m d] 79)) w1.heap.size 79 #[.int .i64 kd, .int .i64 ep, .int .i64 nu, .int .i64 lf, .slice B m d] := Blk.new w1 _ _
    exact ⟨by rw [h0.cell]; rfl, by rw [h0.cell]; rfl, by rw [h0.cell]; rfl, by rw [h0.cell]; rfl, by rw [h0.cell]; rfl⟩
  by_cases hk2 : kd = 2
  rotate_left
  · have HV : Hid (recordW (secA img) N at_ least most = none) := rec_none_first (.inr (by rw [hs]; exact hk2))
    have p1 : (kd != 2) = true := by rw [bne_iff_ne]; exact hk2
    have p2 : (kd == 2) = false := by rw [beq_eq_false_iff_ne]; exact hk2
    have p3 : decide (kd = 2) = false := decide_eq_false hk2
    clear hc0 hs hm hsm hk2
    go_enter Try.func38, Try.ntmps38
    go_wp2_with (first
      | (go_at_call 26; (with_reducible refine HC.out.mono ?_); rintro e w1 ⟨B1, e1, rfl, r1, nw1, ar1, o1⟩; obtain ⟨t0, t1, t2, t3, t4⟩ := HCell.out w1 kd ep nu lf B1 m e1))
    go_ret2
    unfold GivesRecP
    rw [HV.out]
    exact ⟨only_alloc o1.out _, none, 0, rfl⟩
  subst hk2
  obtain ⟨L, rfl⟩ : ∃ L : Nat, lf = (L : Int) := ⟨lf.toNat, by have := hsm.1.1; simp only at this; omega⟩
  have HFirst : Hid (Cnt (secA img) N least most at_ ∧ (secA img at_).1 = ⟨2, ep, nu, (L : Int), D⟩) := ⟨hc0, hs⟩
  have hL : L ≤ 65535 := by have := hsm.1.2; simp only at this; omega
  clear hc0 hs hm hsm
  go_enter Try.func38, Try.ntmps38
  go_wp2_with (first
    | (go_at_call 26; (with_reducible refine HC.out.mono ?_); rintro e w1 ⟨B1, e1, rfl, r1, nw1, ar1, o1⟩; obtain ⟨t0, t1, t2, t3, t4⟩ := HCell.out w1 2 ep nu (L : Int) B1 m e1))
  have hlw1 : w.heap.size ≤ w1.heap.size := o1.out.size
  have hst0 : World.ownsRow ((w1.alloc (.cells #[.int .i64 2, .int .i64 ep, .int .i64 nu, .int .i64 (L : Int), .slice B1 m e1] 79)).alloc (.cells #[.int .i64 2, .int .i64 ep, .int .i64 nu, .int .i64 (L : Int), .slice B1 m e1] 79)) w.heap.size 79 5 (.slice (some ⟨w1.heap.size + 1, 0, none⟩) 1 1) 1 (rowC [(⟨2, ep, nu, (L : Int), D⟩, B1, e1)]) := by
    have h1 := World.ownsRow_lit (base := w.heap.size) (e := 79) (size := 5) (w1.alloc (.cells #[.int .i64 2, .int .i64 ep, .int .i64 nu, .int .i64 (L : Int), .slice B1 m e1] 79)) #[.int .i64 2, .int .i64 ep, .int .i64 nu, .int .i64 (L : Int), .slice B1 m e1] 1 (by simp; omega) (by decide) rfl
    rw [show (w1.alloc (.cells #[.int .i64 2, .int .i64 ep, .int .i64 nu, .int .i64 (L : Int), .slice B1 m e1] 79)).heap.size = w1.heap.size + 1 by simp] at h1
    have h2 : (#[.int .i64 2, .int .i64 ep, .int .i64 nu, .int .i64 (L : Int), .slice B1 m e1] : Array Value).toList = rowC [(⟨2, ep, nu, (L : Int), D⟩, B1, e1)] := by
      unfold rowC secC
      simp [HM.out]
    rw [h2] at h1
    exact h1
  have HSt0 := Lib.hid hst0
  have hb2 : Below w1.heap.size w1 ((w1.alloc (.cells #[.int .i64 2, .int .i64 ep, .int .i64 nu, .int .i64 (L : Int), .slice B1 m e1] 79)).alloc (.cells #[.int .i64 2, .int .i64 ep, .int .i64 nu, .int .i64 (L : Int), .slice B1 m e1] 79)) := ((Below.refl _ _).alloc (Nat.le_refl _) _).alloc (by simp) _
  have HB2 := Lib.hid hb2
  have HR2 : Hid (RowD ((w1.alloc (.cells #[.int .i64 2, .int .i64 ep, .int .i64 nu, .int .i64 (L : Int), .slice B1 m e1] 79)).alloc (.cells #[.int .i64 2, .int .i64 ep, .int .i64 nu, .int .i64 (L : Int), .slice B1 m e1] 79)) (.slice (some ⟨w1.heap.size + 1, 0, none⟩) 1 1) (⟨2, ep, nu, (L : Int), D⟩, B1, e1)) := ⟨(r1.out.below hb2).more hb2.size, fun h0 ad e => by
    have h3 := r1.out.2 h0
    obtain ⟨ad2, e2, h4, _⟩ := h3
    simp only at e
    rw [e] at e2
    injection e2 with e2
    subst e2
    intro h5
    injection h5 with h5
    have h6 : w1.heap.size + 1 = ad.block := h5
    omega⟩
  clear hst0 hb2
  go_loopw [6, 25] (fun v x wr => ∃ (k q : Nat) (A' : Option Addr) (c' : Nat) (rows : List (Sd × Option Addr × Nat)), k ≤ L ∧ q = k + 1 ∧ v = .slice A' q c' ∧ x = .int .i64 (k : Int) ∧ Hid (rows.length = k + 1 ∧ rows.map (·.1) = takeW (secA img) at_ (k + 1) ∧ ∀ i, i ≤ k → Cnt (secA img) N least most (at_ + i)) ∧ Hid (∀ x ∈ rows, RowD wr (.slice A' q c') x) ∧ Hid (wr.ownsRow w.heap.size 79 5 (.slice A' q c') q (rowC rows)) ∧ Hid (Area13 wr ga img (at_ + (k + 1)) least most bb) ∧ Hid (Only w wr ga)) (fun _ x _ => L - (intOf x).toNat)
  case atStart =>
    refine ⟨0, 1, some ⟨w1.heap.size + 1, 0, none⟩, 1, [(⟨2, ep, nu, (L : Int), D⟩, B1, e1)], by omega, rfl, rfl, rfl, ⟨rfl, ?_, fun i hi => ?_⟩, fun x hx => ?_, HSt0.out, ar1.out.below HB2.out, only_more o1.out HB2.out⟩
    · show [_] = _
      unfold takeW
      simp [HFirst.out.2]
    · obtain rfl : i = 0 := by omega
      exact HFirst.out.1
    · rw [List.mem_singleton] at hx
      subst hx
      exact HR2.out
  case round =>
    obtain ⟨k, q, A', c', rows, hkL, hq, rfl, rfl, HS, HR, HW, HAr, HO⟩ := hrel
    have Hq := Lib.hid hq
    have hkN : k < N := by have := (HS.out.2.2 k (Nat.le_refl _)).1; omega
    clear t0 t1 t2 t3 t4
    by_cases hlt2 : k < L
    · have d0 : decide ((k : Int) < (L : Int)) = true := decide_eq_true (by omega)
      have d1 : decide (k < L) = true := decide_eq_true hlt2
      by_cases hc1 : Cnt (secA img) N least most (at_ + (k + 1))
      rotate_left
      · have HV : Hid (recordW (secA img) N at_ least most = none) := rec_none_later (k := k + 1) (by rw [HFirst.out.2]; show ((k + 1 : Nat) : Int) ≤ (L : Int); omega) hc1
        have HC1 := Lib.hid (HNo.out _ wr HAr.out hc1)
        clear hc1 hq
        go_wp2_with (first
          | (go_at_call 26; (with_reducible refine HC1.out.mono ?_); rintro e w3 ⟨rfl, b3⟩))
        go_ret2
        unfold GivesRecP
        rw [HV.out]
        exact ⟨only_more HO.out (b3.alloc b3.size _), none, 0, rfl⟩
      obtain ⟨⟨k2, ep2, nu2, lf2, D2⟩, hs2⟩ : ∃ s, (secA img (at_ + (k + 1))).1 = s := ⟨_, rfl⟩
      obtain ⟨m2, hm2⟩ : ∃ m2, m2 = D2.length := ⟨_, rfl⟩
      have HM2 := Lib.hid hm2
      have HC1 := Lib.hid (HYes.out (at_ + (k + 1)) wr k2 ep2 nu2 lf2 D2 m2 HAr.out hc1 hs2 hm2)
      have HCn := Lib.hid (And.intro hc1 hs2)
      clear hc1 hs2 hm2 hq
      go_wp2_with (first
        | (go_at_call 26; (with_reducible refine HC1.out.mono ?_); rintro e w3 ⟨B3, e3, rfl, r3, nw3, ar3, o3⟩; obtain ⟨t0, t1, t2, t3, t4⟩ := HCell.out w3 k2 ep2 nu2 lf2 B3 m2 e3; have ow3 : w3.ownsRow w.heap.size 79 5 (.slice A' q c') q (rowC rows) := own_after HW.out o3.out HLt.out; have hn6 := five_new2P w3 (.cells #[.int .i64 k2, .int .i64 ep2, .int .i64 nu2, .int .i64 lf2, .slice B3 m2 e3] 79) (.int .i64 k2) (.int .i64 ep2) (.int .i64 nu2) (.int .i64 lf2) (.slice B3 m2 e3) 79; have hsz3 : w.heap.size ≤ w3.heap.size := Nat.le_trans HO.out.size o3.out.size)
        | (at_builtin; (refine wpList_append_any _ rfl (.tmp 34) (.tmp 36) _ rfl w.heap.size 79 i0 _ 5 56 Try.underlying87 hi0 hz0 hz1 hz2 rfl (by omega) (.slice A' q c') q (rowC rows) rfl ((ow3.alloc _).alloc _) (w3.heap.size + 1 + 1) (some ⟨w3.heap.size + 1, 0, none⟩) 1 1 [.int .i64 k2, .int .i64 ep2, .int .i64 nu2, .int .i64 lf2, .slice B3 m2 e3] rfl hn6 (rowC_five _ _ _ _ _ _ _) (by have := Hq.out; simp only [maxLen]; omega) (by have := Hq.out; omega) (by simp; omega) ?_; intro v9 w9 ho9 hg9 hat9; obtain ⟨A9, c9, rfl⟩ := own_slice7 ho9)))
      have hb5 : Below w3.heap.size w3 ((w3.alloc (.cells #[.int .i64 k2, .int .i64 ep2, .int .i64 nu2, .int .i64 lf2, .slice B3 m2 e3] 79)).alloc (.cells #[.int .i64 k2, .int .i64 ep2, .int .i64 nu2, .int .i64 lf2, .slice B3 m2 e3] 79)) := ((Below.refl _ _).alloc (Nat.le_refl _) _).alloc (by simp) _
      have hlow : ∀ j, (Value.slice A' q c').ownBlock = some j → w.heap.size ≤ j ∧ j < wr.heap.size := fun j hj => HW.out.lt j hj
      generalize ((w3.alloc (.cells #[.int .i64 k2, .int .i64 ep2, .int .i64 nu2, .int .i64 lf2, .slice B3 m2 e3] 79)).alloc (.cells #[.int .i64 k2, .int .i64 ep2, .int .i64 nu2, .int .i64 lf2, .slice B3 m2 e3] 79)) = w5 at hg9 hat9 hb5 ⊢
      have hT9 : Only w w9 ga := by
        have h1 : Only w w5 ga := only_more (only_trans HO.out o3.out) hb5
        refine ⟨hg9.os.trans h1.os, hg9.tape.trans h1.tape, hg9.output.trans h1.output, Nat.le_trans h1.size hg9.size, fun i hi hn => ?_⟩
        refine (hg9.block i (Nat.lt_of_lt_of_le hi h1.size) fun e => ?_).trans (h1.block i hi hn)
        have := (hlow i e.symm).1
        omega
      have hAr9 : Area13 w9 ga img (at_ + (k + 1 + 1)) least most bb := by
        have h1 : Area13 w5 ga img (at_ + (k + 1 + 1)) least most bb := by
          have := ar3.out.below hb5
          rw [show at_ + (k + 1) + 1 = at_ + (k + 1 + 1) by omega] at this
          exact this
        exact h1.grown hg9 (fun k e => by have := (hlow k e).1; have := HLt.out; have := HA.out.lt.2; omega)
      refine ⟨⟨k + 1, q + 1, A9, c9, rows ++ [(⟨k2, ep2, nu2, lf2, D2⟩, B3, e3)], by omega, by rw [Hq.out], rfl, by go_num, ⟨by rw [List.length_append, HS.out.1]; rfl, ?_, fun i hi => ?_⟩, fun x hx => ?_, ?_, hAr9, hT9⟩, ?_⟩
      · rw [List.map_append, HS.out.2.1, takeW_succ _ _ (k + 1), HCn.out.2]; rfl
      · by_cases hi2 : i ≤ k
        · exact HS.out.2.2 i hi2
        · obtain rfl : i = k + 1 := by omega
          exact HCn.out.1
      · rcases List.mem_append.1 hx with h1 | h1
        · exact (((HR.out x h1).area HAr.out o3.out).below hb5).grown hg9 hat9
        · rw [List.mem_singleton] at h1
          subst h1
          refine RowD.grown (v := .slice A' q c') ⟨(r3.out.below hb5).more hb5.size, fun h0 ad e => ?_⟩ hg9 hat9
          intro h5
          have h6 := nw3.out ad e
          have h7 := (hlow _ h5).2
          omega
      · rw [rowC_snoc]
        have e9 : secC (⟨k2, ep2, nu2, lf2, D2⟩, B3, e3) = [.int .i64 k2, .int .i64 ep2, .int .i64 nu2, .int .i64 lf2, .slice B3 m2 e3] := by unfold secC; simp [HM2.out]
        rw [e9]
        exact ho9
      · simp [intOf]; omega
    · obtain rfl : k = L := by omega
      have d0 : decide ((k : Int) < (k : Int)) = false := decide_eq_false (by omega)
      have d1 : decide (k < k) = false := decide_eq_false (by omega)
      have HSl : Hid (recordW (secA img) N at_ least most = if (joinS (takeW (secA img) at_ (k + 1))).2 = true then some ((joinS (takeW (secA img) at_ (k + 1))).1, k + 1) else none) := rec_all (sane_secA img) (by rw [HFirst.out.2]) HS.out.2.2 (by rw [HFirst.out.2])
      obtain ⟨X, hX⟩ : ∃ X, X = takeW (secA img) at_ (k + 1) := ⟨_, rfl⟩
      have hXl : X.length = q := by rw [hX, takeW_length, Hq.out]
      have hXd : ∀ x ∈ X, x.data.length ≤ 1000 := fun x hx => by
        rw [hX] at hx
        obtain ⟨i, hi, rfl⟩ := List.mem_map.1 hx
        have := (sec_small (HS.out.2.2 i (by have := List.mem_range.1 hi; omega)).2.1).2
        omega
      have hSL : SL wr wr.heap.size A' X := by
        have h3 := SL.of_own HW.out (by rw [HS.out.1, Hq.out]) (fun x hx => (HR.out x hx).1)
        rw [HS.out.2.1, ← hX] at h3
        exact h3
      rw [← hX] at HSl
      obtain ⟨T, jb, hT⟩ : ∃ T jb, joinS X = (T, jb) := ⟨_, _, rfl⟩
      have HT00 : jb = false → T = [] := fun h => by have := joinS_no (l := X) (by rw [hT]; exact h); rw [hT] at this; exact this
      rw [hT] at HSl
      obtain ⟨tl, htl⟩ : ∃ tl, tl = T.length := ⟨_, rfl⟩
      have HT := Lib.hid htl
      have HJ : Hid (Calls Try.prog 51 #[.slice A' q c'] wr fun e w' => ∃ B d, e = .returned (.tuple #[.slice B tl d, .bool jb]) ∧ Hid (Own w' wr.heap.size B T d) ∧ Below wr.heap.size wr w') := by
        have h3 := sjoin_own X A' c' wr hSL (by omega) hXd
        rw [hT, hXl] at h3
        rw [htl]
        exact h3
      clear hX hT htl hq hXl hXd hSL
      cases jb with
      | true =>
        have HE : Hid (recordW (secA img) N at_ least most = some (T, k + 1)) := by show _ = _; rw [HSl.out]; simp
        go_wp2_with (first
          | (go_at_call 51; (with_reducible refine HJ.out.mono ?_); rintro e w6 ⟨B6, e6, rfl, o6, b6⟩))
        go_ret2
        unfold GivesRecP
        rw [HE.out]
        exact ⟨only_more HO.out b6, B6, e6, by rw [HT.out]; rfl, own_lessP o6.out HO.out.size, HAr.out.below b6⟩
      | false =>
        have HE : Hid (recordW (secA img) N at_ least most = none) := by show _ = _; rw [HSl.out]; simp
        have hT0 : Hid (tl = 0) := by
          show tl = 0
          rw [HT.out]
          have : T = [] := HT00 rfl
          rw [this]; rfl
        go_wp2_with (first
          | (go_at_call 51; (with_reducible refine HJ.out.mono ?_); rintro e w6 ⟨B6, e6, rfl, o6, b6⟩))
        go_ret2
        unfold GivesRecP
        rw [HE.out]
        exact ⟨only_more HO.out b6, B6, e6, by rw [hT0.out]; rfl⟩
end Go.Proofs.Ytghenhacndaelaa
