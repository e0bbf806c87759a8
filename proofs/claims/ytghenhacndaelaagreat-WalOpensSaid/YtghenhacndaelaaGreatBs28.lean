/- Lemmas under the proofs of this place: WalPOpen, WalRTurn. No statement is proved here. -/
import Derived.Test.YtghenhacndaelaaGreatBs27
import Derived.Test.YtghenhacndaelaaGreatBs23
import Derived.Test.YtghenhacndaelaaGreatBs25
import Derived.Test.YtghenhacndaelaaGreatBu16
import Derived.StillTailTactics
set_option linter.unusedSimpArgs false
set_option linter.unusedVariables false
set_option maxRecDepth 100000
set_option maxHeartbeats 16000000
namespace Go.Proofs.YtghenhacndaelaaGreat
section
open Go.RowKit
open Wal
theorem Tryz.areaBuild (A : Option Addr) (m d : Nat) (b c : Int) (w : World) : Sem.run Tryz.prog (Instr.build 80 #[(0, .slice A m d), (2, .int .i64 b), (3, .int .i64 c)]) w = .ok (.agg #[.slice A m d, .int .i64 0, .int .i64 b, .int .i64 c]) w := by kernel_rfl
theorem Tryz.logBuildP (q : Nat) (a b c : Int) (w : World) : Sem.run Tryz.prog (Instr.build 84 #[(0, .pointer (some ⟨q, 0, none⟩)), (1, .int .i64 a), (2, .int .i64 b), (5, .int .i64 c)]) w = .ok (.agg #[.pointer (some ⟨q, 0, none⟩), .int .i64 a, .int .i64 b, .int .i64 0, .slice none 0 0, .int .i64 c, .bool false]) w := by kernel_rfl
theorem BL.lt13 {w : World} {P : Nat → Prop} {A : Option Addr} {l : List (List UInt8)} (h : BL w P A l) : BL w (fun k => P k ∧ k < w.heap.size) A l := fun h0 => by
 obtain ⟨b, off, e, hlt, hp, hc⟩ := h h0
 refine ⟨b, off, e, hlt, ⟨hp, hlt⟩, fun i hi => ?_⟩
 obtain ⟨dA, dc, h1, h2, h3⟩ := hc i hi
 exact ⟨dA, dc, h1, fun ad e => ⟨⟨(h2 ad e).1, (h2 ad e).2⟩, (h2 ad e).2⟩, h3⟩
theorem BL.at13 {w : World} {P : Nat → Prop} {A : Option Addr} {l : List (List UInt8)} (h : BL w P A l) (h0 : 0 < l.length) : ∃ b off, A = some ⟨b, off, none⟩ ∧ ∀ i (hi : i < l.length), ∃ dA dc, w.cell? ⟨b, off + i, none⟩ = some (.slice dA l[i].length dc) := by
 obtain ⟨b, off, e, hlt, hp, hc⟩ := h h0
 exact ⟨b, off, e, fun i hi => by obtain ⟨dA, dc, _, _, h3⟩ := hc i hi; exact ⟨dA, dc, h3⟩⟩
theorem recs_leP {sec : Sec} {N : Nat} {least most : Int} : ∀ (f a : Nat), a ≤ N → (recordsW sec N least most f a).2 ≤ N
 | 0, a, h => h
 | f + 1, a, h => by
  rw [recordsW]
  cases hr : recordW sec N a least most with
  | none => exact h
  | some x =>
   obtain ⟨t, n⟩ := x
   exact recs_leP f (a + n) (rec_roomP hr).2
def needK (l : List (List UInt8)) (i : Nat) : Nat := ((l.take i).map fun t => needN t.length).sum
theorem needK_succ {l : List (List UInt8)} {i : Nat} (hi : i < l.length) : needK l (i + 1) = needK l i + needN l[i].length := by
 unfold needK
 rw [List.take_succ_eq_append_getElem hi, List.map_append, List.sum_append]
 simp
theorem needK_le (l : List (List UInt8)) (i : Nat) : needK l i ≤ needK l l.length := by
 unfold needK
 have h : l.take l.length = l.take i ++ (l.drop i) := by rw [List.take_length, List.take_append_drop]
 rw [h, List.map_append, List.sum_append]
 omega
theorem needK_one {l : List (List UInt8)} {i : Nat} (hi : i < l.length) : needN l[i].length ≤ needK l l.length := by
 have h1 := needK_succ hi
 have h2 := needK_le l (i + 1)
 omega
theorem openW_bad {d : Dk} {frm bl least most : Int} (h : openOk d frm bl least most = false) : openW d frm bl least most = (d, none, [], 1) := by unfold openW; rw [if_pos h]
theorem open_iff {d : Dk} {frm bl least most : Int} : openOk d frm bl least most = true ↔ (areW frm bl d.safe.length = true ∧ (1 ≤ least ∧ least ≤ most) ∧ most ≤ 2147483647) := by
 unfold openOk areW
 simp only [Bool.and_eq_true, decide_eq_true_eq]
 omega
theorem wopen_none (w : World) (frm bl least most : Int) (hi : (InI frm ∧ InI bl) ∧ InI least ∧ InI most) : Calls Tryz.prog 15 #[.pointer none, .int .i64 frm, .int .i64 bl, .int .i64 least, .int .i64 most] w fun e w' => e = .returned (.tuple #[.pointer none, .slice none 0 0, .int .i64 8]) ∧ Below w.heap.size w w' := by
 have z0 := fun w' => Tryz.dNilIs w'
 clear hi
 go_enter Tryz.func15, Tryz.ntmps15
 go_wp2
 go_ret3
 exact ⟨rfl, Below.refl _ _⟩
theorem wopen_bad {w : World} {g : Nat} {F : Nat → Prop} {d : Dk} (h : PDisk w g F d) (frm bl least most : Int) (hs : d.safe.length ≤ 200) (hb : openOk d frm bl least most = false) :
  Calls Tryz.prog 15 #[.pointer (some ⟨g, 0, none⟩), .int .i64 frm, .int .i64 bl, .int .i64 least, .int .i64 most] w (POpenPost (openW d frm bl least most) g F w) := by
 have HV := Lib.hid (openW_bad hb)
 have HP : Hid (Deeds d F w w g) := ⟨h, Turns.refl _ _⟩
 have z0 := fun w' => Tryz.dIsNil g w'
 have n0 := fun w' => Tryz.notFalse w'
 have n1 := fun w' => Tryz.notTrue w'
 have HBl : Hid (Calls Tryz.prog 40 #[.pointer (some ⟨g, 0, none⟩)] w fun e w' => e = .returned (.int .i64 (d.safe.length : Int)) ∧ w = w') := blocks_any h
 have hno : ¬ (areW frm bl d.safe.length = true ∧ (1 ≤ least ∧ least ≤ most) ∧ most ≤ 2147483647) := fun hh => by rw [open_iff.2 hh] at hb; cases hb
 have HAr : Hid (∀ W, Calls Tryz.prog 39 #[.int .i64 frm, .int .i64 bl, .int .i64 (d.safe.length : Int)] W fun e w' => e = .returned (.bool (areW frm bl d.safe.length)) ∧ W = w') := fun W => areblocks_any frm bl d.safe.length (by omega) W
 generalize d.safe.length = n at *
 clear h hb hs
 cases ha : areW frm bl n with
 | false =>
  rw [ha] at HAr
  clear hno ha
  go_enter Tryz.func15, Tryz.ntmps15
  go_wp2_with (first
   | (go_at_call 40; (with_reducible refine HBl.out.mono ?_); rintro e w1 ⟨rfl, rfl⟩)
   | (go_at_call 39; (with_reducible refine (HAr.out _).mono ?_); rintro e w1 ⟨rfl, rfl⟩))
  go_ret3
  unfold POpenPost
  rw [HV.out]
  exact ⟨HP.out, rfl⟩
 | true =>
  rw [ha] at HAr
  by_cases hw : 1 ≤ least ∧ least ≤ most
  ·have HW : Hid (∀ W, Calls Tryz.prog 41 #[.int .i64 least, .int .i64 1, .int .i64 most] W fun e w' => e = .returned (.bool true) ∧ W = w') := fun W => wwithin_yes hw W
   have hm : 2147483647 < most := Classical.byContradiction fun h9 => hno ⟨ha, hw, by omega⟩
   have d0 : decide (most > 2147483647) = true := decide_eq_true hm
   have d1 : decide (2147483647 < most) = true := decide_eq_true hm
   clear hno ha hw hm
   go_enter Tryz.func15, Tryz.ntmps15
   go_wp2_with (first
    | (go_at_call 40; (with_reducible refine HBl.out.mono ?_); rintro e w1 ⟨rfl, rfl⟩)
    | (go_at_call 39; (with_reducible refine (HAr.out _).mono ?_); rintro e w1 ⟨rfl, rfl⟩)
    | (go_at_call 41; (with_reducible refine (HW.out _).mono ?_); rintro e w1 ⟨rfl, rfl⟩))
   go_ret3
   unfold POpenPost
   rw [HV.out]
   exact ⟨HP.out, rfl⟩
  ·have HW : Hid (∀ W, Calls Tryz.prog 41 #[.int .i64 least, .int .i64 1, .int .i64 most] W fun e w' => e = .returned (.bool false) ∧ W = w') := fun W => wwithin_no hw W
   clear hno ha hw
   go_enter Tryz.func15, Tryz.ntmps15
   go_wp2_with (first
    | (go_at_call 40; (with_reducible refine HBl.out.mono ?_); rintro e w1 ⟨rfl, rfl⟩)
    | (go_at_call 39; (with_reducible refine (HAr.out _).mono ?_); rintro e w1 ⟨rfl, rfl⟩)
    | (go_at_call 41; (with_reducible refine (HW.out _).mono ?_); rintro e w1 ⟨rfl, rfl⟩))
   go_ret3
   unfold POpenPost
   rw [HV.out]
   exact ⟨HP.out, rfl⟩
theorem own_firstP {w : World} {base n c : Nat} {A : Option Addr} {xs : List Value} (h : w.ownsRow base 5 1 (.slice A n c) n xs) (hn : 0 < n) : ∃ g, A = some ⟨g, 0, none⟩ ∧ base ≤ g ∧ g < w.heap.size ∧ n ≤ c ∧ c ≤ 9223372036854775807 := by
 rcases h.2 with ⟨_, h1⟩ | ⟨g, cap, cur, he, hb, hg, h4, h5, _⟩
 ·omega
 ·simp only [Value.slice.injEq] at he
  obtain ⟨rfl, -, rfl⟩ := he
  exact ⟨g, rfl, hb, Blk.lt (t := 5) hg, h4, h5⟩
theorem own_blk_lt {w : World} {base n c : Nat} {A : Option Addr} {xs : List Value} (h : w.ownsRow base 5 1 (.slice A n c) n xs) : ∀ ad, A = some ad → base ≤ ad.block ∧ ad.block < w.heap.size := fun ad e => by
 rcases h.2 with ⟨h1, _⟩ | ⟨g, cap, cur, h1, hb, hg, _⟩
 ·simp only [Value.slice.injEq] at h1
  rw [h1.1] at e; cases e
 ·simp only [Value.slice.injEq] at h1
  rw [h1.1] at e
  injection e with e
  subst e
  exact ⟨hb, Blk.lt (t := 5) hg⟩
theorem area_at13 {w : World} {base k c1 : Nat} {A : Option Addr} {img : List UInt8} {b c : Int} (h : w.ownsRow base 5 1 (.slice A k c1) k (cells img)) (hk : img.length = k) : Area13 (w.alloc (.cells #[.slice A k c1, .int .i64 0, .int .i64 b, .int .i64 c] 80)) w.heap.size img 0 b c w.heap.size := by
 have ho : Own w base A img c1 := by unfold Own; rw [hk]; exact h
 have hcp := own_cap7 ho
 refine ⟨k, A, c1, Blk.new w _ _, ?_, by simp, by simp [hk], ⟨by have := hcp.2.1; omega, hcp.2.2⟩, fun ad e => by have := (own_blk13 ho ad e).2; omega⟩
 rw [Nat.mul_zero, List.drop_zero]
 exact (own_rb ho).alloc (Nat.le_refl _) _
theorem wopen_ok {w : World} {g : Nat} {F : Nat → Prop} {d : Dk} (h : PDisk w g F d) (frm bl least most : Int) (hl : d.load ≤ 80000) (hs : d.safe.length ≤ 200) (ho : openOk d frm bl least most = true) :
  Calls Tryz.prog 15 #[.pointer (some ⟨g, 0, none⟩), .int .i64 frm, .int .i64 bl, .int .i64 least, .int .i64 most] w (POpenPost (openW d frm bl least most) g F w) := by
 obtain ⟨o1, o2, o3, o4, o5, o6, o7⟩ : 0 ≤ frm ∧ frm ≤ (d.safe.length : Int) ∧ 1 ≤ bl ∧ bl ≤ (d.safe.length : Int) - frm ∧ 1 ≤ least ∧ least ≤ most ∧ most ≤ 2147483647 := by
  unfold openOk at ho
  simp only [Bool.and_eq_true, decide_eq_true_eq] at ho
  exact ho
 have hiff := open_iff.1 ho
 obtain ⟨f, rfl⟩ : ∃ f : Nat, frm = (f : Int) := ⟨frm.toNat, by omega⟩
 obtain ⟨m, rfl⟩ : ∃ m : Nat, bl = (m : Int) := ⟨bl.toNat, by omega⟩
 have z0 := fun w' => Tryz.dIsNil g w'
 have n0 := fun w' => Tryz.notFalse w'
 have n1 := fun w' => Tryz.notTrue w'
 have HBl : Hid (Calls Tryz.prog 40 #[.pointer (some ⟨g, 0, none⟩)] w fun e w' => e = .returned (.int .i64 (d.safe.length : Int)) ∧ w = w') := blocks_any h
 have HAr : Hid (∀ W, Calls Tryz.prog 39 #[.int .i64 (f : Int), .int .i64 (m : Int), .int .i64 (d.safe.length : Int)] W fun e w' => e = .returned (.bool true) ∧ W = w') := fun W => by
  have := areblocks_any (f : Int) (m : Int) d.safe.length (by omega) W
  rwa [hiff.1] at this
 have HW : Hid (∀ W, Calls Tryz.prog 41 #[.int .i64 least, .int .i64 1, .int .i64 most] W fun e w' => e = .returned (.bool true) ∧ W = w') := fun W => wwithin_yes hiff.2.1 W
 have e60 : decide ((2147483647 : Int) < most) = false := decide_eq_false (by omega)
 have e61 : decide (most > 2147483647) = false := decide_eq_false (by omega)
 obtain ⟨n, hn⟩ : ∃ n, n = d.safe.length := ⟨_, rfl⟩
 rw [← hn] at HBl HAr
 have hfm : f + m ≤ d.safe.length := by omega
 have hm1 : 1 ≤ m := by omega
 have hm2 : m ≤ 200 := by omega
 have hf2 : f ≤ 200 := by omega
 cases hoff : d.off with
 | true =>
  have HV : Hid (openW d (f : Int) (m : Int) least most = (d, none, [], 9)) := by show _ = _; unfold openW; rw [if_neg (by rw [ho]; simp), if_pos hoff]
  have HR := Lib.hid (wread_off h f m hm1 (by omega) hs hfm hoff)
  clear ho h hn hl hoff hiff o1 o2 o3 o4 hfm
  go_enter Tryz.func15, Tryz.ntmps15
  go_wp2_with (first
   | (go_at_call 40; (with_reducible refine HBl.out.mono ?_); rintro e w1 ⟨rfl, rfl⟩)
   | (go_at_call 39; (with_reducible refine (HAr.out _).mono ?_); rintro e w1 ⟨rfl, rfl⟩)
   | (go_at_call 41; (with_reducible refine (HW.out _).mono ?_); rintro e w1 ⟨rfl, rfl⟩)
   | (go_at_call 42; (with_reducible refine HR.out.mono ?_); rintro e w1 ⟨rfl, hp1⟩))
  go_ret3
  unfold POpenPost
  rw [HV.out]
  exact ⟨hp1, rfl⟩
 | false =>
  obtain ⟨area, har⟩ : ∃ area, area = areaW d f m := ⟨_, rfl⟩
  have hal : area.length = 256 * m := by rw [har]; exact (area_step h.good.fit f m hfm m (Nat.le_refl _)).1
  obtain ⟨R, u, hR⟩ : ∃ R u, recordsA area least most = (R, u) := ⟨_, _, rfl⟩
  have HV : Hid (openW d (f : Int) (m : Int) least most = ({ d with reads := d.reads + m }, some ⟨f, 4 * m, most, area.take (64 * u), false⟩, R, 0)) := by
   show _ = _; unfold openW; rw [if_neg (by rw [ho]; simp), if_neg (by rw [hoff]; simp)]; simp only [Int.toNat_natCast]; rw [← har, hR]
  have hu : u ≤ 4 * m := by
   have h1 := recs_leP (sec := secA area) (N := area.length / 64) (least := least) (most := most) (area.length / 64 + 1) 0 (Nat.zero_le _)
   have h2 : (recordsA area least most).2 ≤ area.length / 64 := h1
   rw [hR] at h2
   simp only at h2
   omega
  have hsum : u = needK R R.length := by
   have h1 := recs_sum (sec := secA area) (N := area.length / 64) (least := least) (most := most) (area.length / 64 + 1) 0
   have h2 : recordsW (secA area) (area.length / 64) least most (area.length / 64 + 1) 0 = (R, u) := hR
   rw [h2] at h1
   unfold needK
   rw [List.take_length]
   simp only at h1
   omega
  have HG := Lib.hid (show ∀ k, F k → k < w.heap.size from h.flt)
  have HR := Lib.hid (wread_on h f m hm1 (by omega) hs hfm hoff)
  rw [← har] at HR
  obtain ⟨rl, hrl⟩ : ∃ rl, rl = R.length := ⟨_, rfl⟩
  have hrlN : rl ≤ 1000 := by
   have h2 : RecsToP (secA area) (area.length / 64) least most 0 [] := RecsToP.start
   have h3 : ∀ (f a : Nat), a ≤ area.length / 64 → a + (recordsW (secA area) (area.length / 64) least most f a).1.length ≤ area.length / 64 := by
    intro f
    induction f with
    | zero => intro a ha; exact ha
    | succ f ih =>
     intro a ha
     rw [recordsW]
     cases hr : recordW (secA area) (area.length / 64) a least most with
     | none => exact ha
     | some x =>
      obtain ⟨t, q⟩ := x
      have h5 := rec_roomP hr
      have h4 := ih (a + q) h5.2
      simp only [List.length_cons]
      omega
   have h4 := h3 (area.length / 64 + 1) 0 (Nat.zero_le _)
   have h5 : recordsW (secA area) (area.length / 64) least most (area.length / 64 + 1) 0 = (R, u) := hR
   rw [h5] at h4
   simp only at h4
   omega
  have HRec : Hid (∀ W ga, Area13 W ga area 0 least most ga → Calls Tryz.prog 43 #[.func (.func 44) #[.pointer (some ⟨ga, 0, none⟩)] #[]] W fun e w' => ∃ A c, e = .returned (.slice A rl c) ∧ Hid (BL w' (fun k => W.heap.size ≤ k) A R) ∧ Hid (CapN A rl c) ∧ Hid (Only W w' ga)) := fun W ga hA => by
   have h3 := wrecords_any hA (N := 4 * m) (by omega) (by omega)
   rw [hR] at h3
   rw [hrl]
   exact h3
  have y1 : IntKind.i64.wrap ((m : Int) * 4) = ((4 * m : Nat) : Int) := by rw [IntWalk.i64_in _ (by omega)]; omega
  have HU : Hid (u = needK R rl) := by show u = _; rw [hrl]; exact hsum
  have HRl := Lib.hid hrl
  have hmf : ∀ (fn : Fn) (first cap : Array Value) (w : World), (Instr.makeFunc fn first cap).run Tryz.prog w = .ok (.func fn first cap) w := fun _ _ _ _ => rfl
  have nb1 := fun A m d b c w' => Tryz.areaBuild A m d b c w'
  have nb2 := fun q a b c w' => Tryz.logBuildP q a b c w'
  have HAl := Lib.hid hal
  clear ho h hn hl hoff hiff o1 o2 o3 o4 hfm hR hsum hrl har hal
  go_enter Tryz.func15, Tryz.ntmps15
  go_wp2_with (first
   | (go_at_call 40; (with_reducible refine HBl.out.mono ?_); rintro e w1 ⟨rfl, rfl⟩)
   | (go_at_call 39; (with_reducible refine (HAr.out _).mono ?_); rintro e w1 ⟨rfl, rfl⟩)
   | (go_at_call 41; (with_reducible refine (HW.out _).mono ?_); rintro e w1 ⟨rfl, rfl⟩)
   | (go_at_call 42; (with_reducible refine HR.out.mono ?_); rintro e w1 ⟨A1, k, c1, rfl, hk, ow1, hp1⟩; have Hk := Lib.hid hk; have HO1 := Lib.hid ow1; have HP1 := Lib.hid hp1; clear hk ow1 hp1; have hA1 := area_at13 (b := least) (c := most) HO1.out (show area.length = k by have := HAl.out; have := Hk.out; omega))
   | (go_at_call 43; (with_reducible refine (HRec.out _ _ hA1).mono ?_); rintro e w2 ⟨A2, c2, rfl, l2, cp2, on2⟩))
  have hb2 : Below w1.heap.size w1 w2 := below_only ((Below.refl w1.heap.size w1).alloc (Nat.le_refl _) _) on2.out (Nat.le_refl _) (by simp)
  have hb3 : Below w1.heap.size w1 (w2.alloc (.cells #[.pointer (some ⟨g, 0, none⟩), .int .i64 (f : Int), .int .i64 (4 * (m : Int)), .int .i64 0, .slice none 0 0, .int .i64 most, .bool false] 84)) := hb2.alloc hb2.size _
  have hl3 : BL (w2.alloc (.cells #[.pointer (some ⟨g, 0, none⟩), .int .i64 (f : Int), .int .i64 (4 * (m : Int)), .int .i64 0, .slice none 0 0, .int .i64 most, .bool false] 84)) (fun k => w1.heap.size ≤ k ∧ k < w2.heap.size) A2 R := ((l2.out.lt13).up ((Below.refl _ _).alloc (Nat.le_refl _) _)).wide fun k hk => ⟨by have := hk.1; simp at this; omega, hk.2⟩
  have hk3 : Blk (w2.alloc (.cells #[.pointer (some ⟨g, 0, none⟩), .int .i64 (f : Int), .int .i64 (4 * (m : Int)), .int .i64 0, .slice none 0 0, .int .i64 most, .bool false] 84)) w2.heap.size 84 #[.pointer (some ⟨g, 0, none⟩), .int .i64 (f : Int), .int .i64 (4 * (m : Int)), .int .i64 ((needK R 0 : Nat) : Int), .slice none 0 0, .int .i64 most, .bool false] := Blk.new w2 _ _
  have hs3 : (w2.alloc (.cells #[.pointer (some ⟨g, 0, none⟩), .int .i64 (f : Int), .int .i64 (4 * (m : Int)), .int .i64 0, .slice none 0 0, .int .i64 most, .bool false] 84)).heap.size = w2.heap.size + 1 := by simp
  have HB3 := Lib.hid hb3
  have HB2 := Lib.hid hb2
  have HL3 := Lib.hid hl3
  have HK3 := Lib.hid hk3
  have HS3 := Lib.hid hs3
  clear hb2 hb3 hl3 hk3 hs3 hA1 on2
  have HULe : Hid (u ≤ 4 * m) := hu
  clear hu
  have hm42 : 4 * m ≤ 800 := by omega
  generalize w2.alloc (.cells #[.pointer (some ⟨g, 0, none⟩), .int .i64 (f : Int), .int .i64 (4 * (m : Int)), .int .i64 0, .slice none 0 0, .int .i64 most, .bool false] 84) = w3 at HB3 HL3 HK3 HS3 ⊢
  go_loopw [67] (fun x wr => ∃ i : Nat, i ≤ rl ∧ x = .int .i64 (i : Int) ∧ Hid (Blk wr w2.heap.size 84 #[.pointer (some ⟨g, 0, none⟩), .int .i64 (f : Int), .int .i64 (4 * (m : Int)), .int .i64 ((needK R i : Nat) : Int), .slice none 0 0, .int .i64 most, .bool false]) ∧ Hid (Turns w3 wr (fun k => k = w2.heap.size) (fun k => k = w2.heap.size))) (fun x _ => rl - (intOf x).toNat)
  case atStart => exact ⟨0, by omega, rfl, HK3.out, Turns.refl _ _⟩
  case round =>
   obtain ⟨i, hi, rfl, HK, HT⟩ := hrel
   have z3 := HK.out.frozen 3
   have hlr := HL3.out.turns HT.out (fun k hk _ e => by have := hk.2; omega)
   by_cases hlt : i < rl
   ·have d0 : decide ((i : Int) < (rl : Int)) = true := decide_eq_true (by omega)
    have d1 : decide (i < rl) = true := decide_eq_true hlt
    have hiR : i < R.length := by have := HRl.out; omega
    obtain ⟨b, off, hA2, hcs⟩ := hlr.at13 (by omega)
    obtain ⟨dA, dc, v0⟩ := hcs i hiR
    have hnd := needK_one hiR
    have hns := needK_succ hiR
    have hnl := needK_le R (i + 1)
    have hU := HU.out
    have hUl := HULe.out
    rw [HRl.out] at hU
    obtain ⟨q, hq⟩ : ∃ q, q = R[i].length := ⟨_, rfl⟩
    rw [← hq] at v0 hnd hns
    have hq2 : q ≤ 1000000 := by have : needN q = (q + 47) / 48 := rfl; omega
    have HN := Lib.hid (fun W => sneed_any q (by omega) W)
    obtain ⟨nd, hnd2⟩ : ∃ nd, nd = needN q := ⟨_, rfl⟩
    obtain ⟨nk, hnk⟩ : ∃ nk, nk = needK R i := ⟨_, rfl⟩
    have r3 : wr.cell? ⟨w2.heap.size, 3, none⟩ = some (.int .i64 (nk : Int)) := by rw [hnk, HK.out.cell]; rfl
    rw [← hnd2] at HN hns
    rw [← hnk] at hns
    have y3 : IntKind.i64.wrap ((nk : Int) + (nd : Int)) = (nk : Int) + (nd : Int) := IntWalk.i64_in _ (by omega)
    have Hns := Lib.hid hns
    subst hA2
    clear hlr hcs hnd hns hnl hU hUl hq hiR hnd2 hnk
    go_wp2
    refine wp_region_still_tail 10 (by kernel_rfl) (by kernel_rfl) ?_
    simp only [List.take_succ_cons, List.take_zero, List.drop_succ_cons, List.drop_zero]
    iterate 6 still_step
    still_call ((HN.out _).mono fun _ _ h => ⟨h.1, h.2.symm⟩)
    iterate 3 still_step
    refine wpStill_nil ?_
    change wpList _ _ _ _ _ wr.drew
    go_wp2
    refine ⟨⟨i + 1, by omega, by go_num, ?_, ?_⟩, ?_⟩
    ·have h9 := HK.out.set_ 3 (.int .i64 ((nk : Int) + (nd : Int)))
     have e9 : ((needK R (i + 1) : Nat) : Int) = (nk : Int) + (nd : Int) := by rw [Hns.out]; omega
     show Blk _ _ _ _
     rw [e9]
     exact h9
    ·have h9 : Turns w3 (wr.setCell ⟨w2.heap.size, 3, none⟩ (.int .i64 ((nk : Int) + (nd : Int)))) (fun k => k = w2.heap.size) (fun k => k = w2.heap.size) := HT.out.trans (Turns.set_ (F := fun k => k = w2.heap.size) rfl 3 _)
     exact h9.trans (Turns.drew _)
    ·simp [intOf]; omega
   ·obtain rfl : i = rl := by omega
    have d0 : decide ((i : Int) < (i : Int)) = false := decide_eq_false (by omega)
    have d1 : decide (i < i) = false := decide_eq_false hlt
    have r3 : wr.cell? ⟨w2.heap.size, 3, none⟩ = some (.int .i64 (u : Int)) := by rw [HU.out, HK.out.cell]; rfl
    have z4 := HK.out.frozen 4
    obtain ⟨ga, hga, hg1, hg2, hkc, hcc⟩ := own_firstP HO1.out (by have := Hk.out; omega)
    obtain ⟨u64, hu64⟩ : ∃ x, x = 64 * u := ⟨_, rfl⟩
    have hub := HULe.out
    have hkk := Hk.out
    have hall := HAl.out
    have z2 : (u : Int) * 64 = (u64 : Int) := by omega
    have z33 : IntKind.i64.wrap (u64 : Int) = (u64 : Int) := IntWalk.i64_in _ (by omega)
    subst hga
    have ks := fun W => sl_to ga 0 k c1 u64 (u64 : Int) rfl (by omega) (by omega) W
    have hbr : Below w1.heap.size w1 wr := HB3.out.trans (HT.out.below (fun k hk => by have := HB2.out.size; omega) HB3.out.size)
    have HBr := Lib.hid hbr
    have hrb : RB wr wr.heap.size (some ⟨ga, 0, none⟩) (area.take u64) := by
     have h3 : Own w1 w.heap.size (some ⟨ga, 0, none⟩) area c1 := by
      have := HO1.out
      unfold Own
      rw [hall, ← hkk]; exact this
     exact rb_take (rb_up7 (own_rb h3) hbr) u64 (by omega)
    have htl : (area.take u64).length = u64 := by rw [List.length_take]; omega
    have HTl := Lib.hid (wtail_any (area.take u64) (some ⟨ga, 0, none⟩) u64 c1 wr htl.symm hrb (by omega) hcc (by omega))
    have Hu64 := Lib.hid hu64
    have Htl := Lib.hid htl
    clear hu64 htl hrb hbr hub hkk hall hkc hcc hg1 hg2 hlr
    go_wp2_with (first
     | (go_at_call 46; (with_reducible refine HTl.out.mono ?_); rintro e w5 ⟨A5, m5, c5, rfl, hm5, o5, b5⟩; have bk5 := Blk.below HK.out b5 HK.out.lt; have z45 := bk5.frozen 4; have y45 : w5.cell? ⟨w2.heap.size, 4, none⟩ = some (.slice none 0 0) := (by rw [bk5.cell]; rfl); have Hm5 := Lib.hid hm5; have O5 := Lib.hid o5; have B5 := Lib.hid b5; have K5 := Lib.hid bk5; clear hm5 o5 b5 bk5))
    go_ret3
    unfold POpenPost
    rw [HV.out]
    have hA5 := own_blk_lt O5.out
    have hlg : w2.heap.size < wr.heap.size := HK.out.lt
    have hsz12 : w1.heap.size ≤ w2.heap.size := HB2.out.size
    have hszw1 : w.heap.size ≤ w1.heap.size := HP1.out.2.size
    have hb15 : Below w1.heap.size w1 (w5.setCell ⟨w2.heap.size, 4, none⟩ (.slice A5 m5 c5)) := (HBr.out.trans (B5.out.mono HBr.out.size)).setCell (p := ⟨w2.heap.size, 4, none⟩) hsz12 _
    have hT5 : Turns w5 (w5.setCell ⟨w2.heap.size, 4, none⟩ (.slice A5 m5 c5)) (fun k => k = w2.heap.size) (fun k => k = w2.heap.size) := Turns.set_ (F := fun k => k = w2.heap.size) rfl 4 _
    have hcap := own_capN O5.out
    have hlen : (area.take (64 * u)).length = u64 := by rw [← Hu64.out]; exact Htl.out
    refine ⟨⟨HP1.out.1.turns (turns_over (hb15.mono hszw1) hszw1 (E' := fun k => w.heap.size ≤ k) (fun _ h => .inl h)) (fun k hk hh => by have := HG.out k hk; omega), turns_then13 HP1.out.2 (hb15.mono hszw1)⟩, w2.heap.size, fun k => k = w2.heap.size ∨ ∃ ad, A5 = some ad ∧ ad.block = k, A2, c2, ⟨A5, c5, ?_, .inl rfl, fun ad e => .inr ⟨ad, e, rfl⟩, fun k hk => ?_, ?_, fun ad e => ?_, ?_⟩, fun k hk => ?_, ?_, ?_, by rw [HRl.out]; rfl⟩
    ·have h9 := K5.out.set_ 4 (.slice A5 m5 c5)
     have e1 : plogC g A5 c5 ⟨f, 4 * m, most, area.take (64 * u), false⟩ = #[.pointer (some ⟨g, 0, none⟩), .int .i64 (f : Int), .int .i64 (4 * (m : Int)), .int .i64 ((needK R i : Nat) : Int), .slice A5 m5 c5, .int .i64 most, .bool false] := by
      unfold plogC used
      simp only [hlen]
      rw [← HU.out, Hu64.out, show 64 * u / 64 = u by omega, Hm5.out, Htl.out, Hu64.out, show ((4 * m : Nat) : Int) = 4 * (m : Int) by omega]
     show Blk _ _ _ (plogC g A5 c5 ⟨f, 4 * m, most, area.take (64 * u), false⟩)
     rw [e1]
     exact h9
    ·simp only [World.setCell, Array.size_modify]
     have := B5.out.size
     rcases hk with rfl | ⟨ad, e, rfl⟩
     ·omega
     ·exact (hA5 ad e).2
    ·have h8 : RB w5 w5.heap.size A5 (endL (area.take u64)) := by
      have h7 := Reads.of_own O5.out
      unfold RB
      rw [endL_length, ← Hm5.out]
      exact h7
     have h9 := (Reads.turns h8 (Nat.le_refl _) hT5 (fun ad e => by have := (hA5 ad e).1; omega)).more hT5.size
     rw [Hu64.out] at h9
     exact h9
    ·have := (hA5 ad e).1; omega
    ·show (area.take (64 * u)).length % 256 ≤ c5 ∧ _
     rw [hlen, ← Htl.out, ← Hm5.out]
     exact hcap
    ·rcases hk with rfl | ⟨ad, e, rfl⟩
     ·omega
     ·have := (hA5 ad e).1; omega
    ·have h6 := ((HL3.out.turns HT.out (fun k hk _ e => by have := hk.2; omega)).up B5.out).turns hT5 (fun k hk _ e => by have := hk.2; omega)
     refine h6.wide fun k hk => ⟨by have := hk.1; omega, ?_⟩
     rintro (rfl | ⟨ad, e, rfl⟩)
     ·have := hk.2; omega
     ·have := (hA5 ad e).1
      have := hk.2
      omega
    ·have := cp2.out
     rw [HRl.out] at this
     exact this
theorem wopen_any {w : World} {g : Nat} {F : Nat → Prop} {d : Dk} (h : PDisk w g F d) (frm bl least most : Int) (hi : (InI frm ∧ InI bl) ∧ InI least ∧ InI most) (hl : d.load ≤ 80000) (hs : d.safe.length ≤ 200) :
  Calls Tryz.prog 15 #[.pointer (some ⟨g, 0, none⟩), .int .i64 frm, .int .i64 bl, .int .i64 least, .int .i64 most] w (POpenPost (openW d frm bl least most) g F w) := by
 cases ho : openOk d frm bl least most with
 | false => exact wopen_bad h frm bl least most hs ho
 | true => exact wopen_ok h frm bl least most hl hs ho
end
section
open Go.RowKit
open Wal
theorem rappend_any {w : World} {lg q : Nat} {G B : Nat → Prop} {d : Dk} {l : Lg} {A : Option Addr} {c : Nat} (h : RDisk w q G B d) (hL : RLogA w lg q G B l A c) (t : List UInt8) (n : Nat) (T : Option Addr) (cT : Nat) (hn : n = t.length) (hl : n ≤ 50000) (hr : RB w w.heap.size T t) (hc : n ≤ cT) (hcm : cT ≤ 9223372036854775807) (hld : d.load ≤ 80000) {len : Nat} (hf : l.fit len) (hlen : len ≤ 1000000) :
  Calls Tryz.prog 31 #[.pointer (some ⟨lg, 0, none⟩), .slice T n cT] w fun e w' => e = .returned (.int .i64 (appendW d l t).2.2) ∧ LDeeds (appendW d l t).1 (appendW d l t).2.1 G B w w' q lg A := by
 cases hg : l.gone with
 | true => exact rappend_gone h hL t n T cT hg
 | false =>
  by_cases h0 : n = 0
  ·exact rappend_none h hL t n T cT hn hg h0
  ·by_cases hfull : l.n - used l < needN t.length
   ·exact rappend_full h hL t n T cT hn (by omega) hg h0 hf.used hf.few hfull
   ·exact rappend_in h hL t n T cT hn hl hr hc hcm hg h0 hf.used hf.whole hf.few hfull ⟨by have := hf.epoch; omega, hf.epoch.2⟩ hld (by have := hf.area; omega)
theorem rturn_any {w : World} {lg q : Nat} {G B : Nat → Prop} {l : Lg} {A : Option Addr} {c : Nat} (hA : RLogA w lg q G B l A c) (ep : Int) :
  Calls Tryz.prog 32 #[.pointer (some ⟨lg, 0, none⟩), .int .i64 ep] w fun e w' => e = .returned (.int .i64 (turnW l ep).2) ∧ RLogA w' lg q G B (turnW l ep).1 A c ∧ Turns w w' (fun k => k = lg) (fun k => k = lg) := by
 have r5 := hA.r5
 have r3 := hA.r3
 have f3 := hA.fz 3
 have l3 := hA.blk.lt
 have HT : Hid (Turns w (w.setCell ⟨lg, 3, none⟩ (.int .i64 ep)) (fun k => k = lg) (fun k => k = lg)) := turns_cell w lg 3 _
 have HN : Hid (RLogA (w.setCell ⟨lg, 3, none⟩ (.int .i64 ep)) lg q G B { l with epoch := ep } A c) := hA.turned ep
 have H0 : Hid (RLogA w lg q G B l A c ∧ Turns w w (fun k => k = lg) (fun k => k = lg)) := ⟨hA, Turns.refl _ _⟩
 clear hA
 obtain ⟨eo, heo⟩ : ∃ e, e = l.epoch := ⟨_, rfl⟩
 rw [← heo] at r3
 cases hg : l.gone with
 | true =>
  have HV : Hid (turnW l ep = (l, 8)) := by show _ = _; unfold turnW; rw [if_pos hg]
  rw [hg] at r5
  clear hg heo
  go_enter Tryz.func32, Tryz.ntmps32
  go_wp2
  go_ret
  rw [HV.out]
  exact ⟨rfl, H0.out⟩
 | false =>
  rw [hg] at r5
  by_cases h1 : ep < eo
  ·have HV : Hid (turnW l ep = (l, 1)) := by show _ = _; unfold turnW; rw [if_neg (by rw [hg]; simp), if_pos (.inl (by omega))]
   have d0 : decide (ep < eo) = true := decide_eq_true h1
   clear hg heo h1
   go_enter Tryz.func32, Tryz.ntmps32
   go_wp2
   go_ret
   rw [HV.out]
   exact ⟨rfl, H0.out⟩
  ·have d0 : decide (ep < eo) = false := decide_eq_false h1
   by_cases h2 : 2147483647 < ep
   ·have HV : Hid (turnW l ep = (l, 1)) := by show _ = _; unfold turnW; rw [if_neg (by rw [hg]; simp), if_pos (.inr h2)]
    have d1 : decide (2147483647 < ep) = true := decide_eq_true h2
    have d2 : decide (ep > 2147483647) = true := decide_eq_true h2
    clear hg heo h1 h2
    go_enter Tryz.func32, Tryz.ntmps32
    go_wp2
    go_ret
    rw [HV.out]
    exact ⟨rfl, H0.out⟩
   ·have HV : Hid (turnW l ep = ({ l with epoch := ep }, 0)) := by show _ = _; unfold turnW; rw [if_neg (by rw [hg]; simp), if_neg (by omega)]
    have d1 : decide (2147483647 < ep) = false := decide_eq_false h2
    have d2 : decide (ep > 2147483647) = false := decide_eq_false h2
    clear hg heo h1 h2
    go_enter Tryz.func32, Tryz.ntmps32
    go_wp2
    go_ret
    rw [HV.out]
    exact ⟨rfl, HN.out, HT.out⟩
theorem rreset_any {w : World} {lg q : Nat} {G B : Nat → Prop} {l : Lg} {A : Option Addr} {c : Nat} (hL : RLogA w lg q G B l A c) (ep : Int) :
  Calls Tryz.prog 33 #[.pointer (some ⟨lg, 0, none⟩), .int .i64 ep] w fun e w' => e = .returned (.int .i64 (resetW l ep).2) ∧ (∃ A' c', RLogA w' lg q G B (resetW l ep).1 A' c' ∧ ∀ ad, A' = some ad → A = some ad) ∧ Turns w w' (fun k => k = lg) (fun k => k = lg) := by
 have h := rturn_any hL ep
 obtain ⟨l', er, hr⟩ : ∃ l' er, turnW l ep = (l', er) := ⟨_, _, rfl⟩
 rw [hr] at h
 have HT := Lib.hid h
 by_cases h0 : er = 0
 ·subst h0
  have HV : Hid (resetW l ep = ({ l' with b := [] }, 0)) := by show _ = _; unfold resetW; rw [hr, if_pos rfl]
  clear h hr hL
  go_enter Tryz.func33, Tryz.ntmps33
  go_wp2_with (go_at_call 32; (with_reducible refine HT.out.mono ?_); rintro e w1 ⟨rfl, hA, ht1⟩; have r4 := hA.r4; have f4 := hA.fz 4; have l4 := hA.blk.lt; have HN : Hid (RLogA (w1.setCell ⟨lg, 4, none⟩ (.slice none 0 0)) lg q G B { l' with b := [] } none 0) := hA.bytes (L := []) rfl ⟨RB.none_ _ _, fun _ e => nomatch e⟩ (fun _ e => nomatch e); have HT2 : Hid (Turns w (w1.setCell ⟨lg, 4, none⟩ (.slice none 0 0)) (fun k => k = lg) (fun k => k = lg)) := ht1.trans (turns_cell w1 lg 4 _); clear hA ht1)
  go_ret
  rw [HV.out]
  exact ⟨rfl, ⟨none, 0, HN.out, fun _ e => nomatch e⟩, HT2.out⟩
 ·have HV : Hid (resetW l ep = (l', er)) := by show _ = _; unfold resetW; rw [hr, if_neg h0]
  have f1 : (er == 0) = false := by rw [beq_eq_false_iff_ne]; exact h0
  have f2 : decide (er = 0) = false := decide_eq_false h0
  clear h hr hL h0
  go_enter Tryz.func33, Tryz.ntmps33
  go_wp2_with (go_at_call 32; (with_reducible refine HT.out.mono ?_); rintro e w1 ⟨rfl, hL1, ht1⟩; have HP := Lib.hid (And.intro hL1 ht1); clear hL1 ht1)
  go_ret
  rw [HV.out]
  exact ⟨rfl, ⟨A, c, HP.out.1, fun _ e => e⟩, HP.out.2⟩
end
end Go.Proofs.YtghenhacndaelaaGreat
