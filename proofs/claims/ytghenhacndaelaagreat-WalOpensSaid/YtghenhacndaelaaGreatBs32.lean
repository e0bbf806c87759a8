/- Lemmas under the proofs of this place: WalLOpen. No statement is proved here. -/
import Derived.Test.YtghenhacndaelaaGreatBs30
import Derived.Test.YtghenhacndaelaaGreatBu12
import Derived.Test.YtghenhacndaelaaGreatBs26
import Derived.Test.YtghenhacndaelaaGreatBu03
set_option linter.unusedSimpArgs false
set_option linter.unusedVariables false
set_option maxRecDepth 100000
set_option maxHeartbeats 16000000
namespace Go.Proofs.YtghenhacndaelaaGreat
open Go.RowKit
open Wal
theorem blkW4 {W : World} {g : Nat} {t : TypeId} {a b d e : Value} (h : Blk W g t #[a, b, d, e]) : W.cell? ⟨g, 0, none⟩ = some a ∧ W.cell? ⟨g, 1, none⟩ = some b ∧ W.cell? ⟨g, 2, none⟩ = some d ∧ W.cell? ⟨g, 3, none⟩ = some e :=
 ⟨by rw [h.cell]; rfl, by rw [h.cell]; rfl, by rw [h.cell]; rfl, by rw [h.cell]; rfl⟩
theorem open_none {d : Dk} {frm bl least most : Int} (h : (openW d frm bl least most).2.1 = none) : (openW d frm bl least most).2.2.1 = [] := by
 unfold openW at h ⊢
 split
 ·rfl
 split
 ·rfl
 ·rename_i h1 h2
  rw [if_neg h1, if_neg h2] at h
  cases h
theorem records_few {sec : Sec} {N : Nat} {least most : Int} : ∀ (f a : Nat), (recordsW sec N least most f a).1.length ≤ f
 | 0, a => Nat.le_refl _
 | f + 1, a => by
  rw [recordsW]
  cases hr : recordW sec N a least most with
  | none => exact Nat.zero_le _
  | some x =>
   obtain ⟨t, n⟩ := x
   have := records_few (sec := sec) (N := N) (least := least) (most := most) f (a + n)
   simp only [List.length_cons]
   omega
theorem open_few {d : Dk} (hfit : Dk.fit d) {frm bl least most : Int} (hs : d.safe.length ≤ 200) : (openW d frm bl least most).2.2.1.length ≤ 1000 := by
 unfold openW
 split
 ·exact Nat.zero_le _
 split
 ·exact Nat.zero_le _
 ·rename_i h1 h2
  have h1' : openOk d frm bl least most = true := by simpa using h1
  unfold openOk at h1'
  simp only [Bool.and_eq_true, decide_eq_true_eq] at h1'
  have hlen : ∀ n, n ≤ bl.toNat → ((List.range n).flatMap fun i => d.now (frm.toNat + i)).length = 256 * n := fun n hn => by
   induction n with
   | zero => rfl
   | succ n ih =>
    rw [List.range_succ, List.flatMap_append, List.length_append, ih (by omega)]
    simp only [List.flatMap_cons, List.flatMap_nil, List.append_nil]
    rw [Dk.fit_now hfit (by omega)]
    omega
  have h3 : (areaW d frm.toNat bl.toNat).length = 256 * bl.toNat := hlen _ (Nat.le_refl _)
  have h4 := records_few (sec := secA (areaW d frm.toNat bl.toNat)) (N := (areaW d frm.toNat bl.toNat).length / 64) (least := least) (most := most) ((areaW d frm.toNat bl.toNat).length / 64 + 1) 0
  have h5 : (recordsA (areaW d frm.toNat bl.toNat) least most).1.length ≤ (areaW d frm.toNat bl.toNat).length / 64 + 1 := h4
  show (recordsA (areaW d frm.toNat bl.toNat) least most).1.length ≤ 1000
  omega
theorem worldC_set {W : World} {gw g q : Nat} {lo lo' : PL} {ro ro' : RL} (h : Blk W gw 36 (worldC g q lo ro)) : Blk ((W.setCell ⟨gw, 1, none⟩ (plV lo')).setCell ⟨gw, 3, none⟩ (rlV ro')) gw 36 (worldC g q lo' ro') := by
 have := (h.set_ 1 (plV lo')).set_ 3 (rlV ro')
 simpa [worldC] using this
section
variable {w0 w : World} {gw g q : Nat} {F E G B : Nat → Prop} {d : Dk} {lo : PL} {ro : RL}
theorem opened_same {w1 w2 : World} {d1 : Dk} {E' : Nat → Prop} {A1 A2 : Option Addr} {R : List (List UInt8)} (h : Bo w0 w gw g q F E G B d d lo ro) (h1 : Bo w0 w1 gw g q F E G B d1 d lo ro) (hL1 : BL w1 (fun k => w.heap.size ≤ k ∧ ¬ E' k) A1 R) (hL2 : BL w2 (fun k => w1.heap.size ≤ k) A2 R) (hd : Deeds d1 F w w1 g) (ht : Turns w1 w2 G G) (hR : R.length ≤ 1000) (lg lr a1 a2 : Nat) :
  Calls Tryz.prog 28 #[.slice A1 R.length a1, .slice A2 R.length a2] ((w2.setCell ⟨gw, 1, none⟩ (.pointer (some ⟨lg, 0, none⟩))).setCell ⟨gw, 3, none⟩ (.pointer (some ⟨lr, 0, none⟩))) fun e w' => e = .returned (.bool true) ∧ Below ((w2.setCell ⟨gw, 1, none⟩ (.pointer (some ⟨lg, 0, none⟩))).setCell ⟨gw, 3, none⟩ (.pointer (some ⟨lr, 0, none⟩))).heap.size ((w2.setCell ⟨gw, 1, none⟩ (.pointer (some ⟨lg, 0, none⟩))).setCell ⟨gw, 3, none⟩ (.pointer (some ⟨lr, 0, none⟩))) w' := by
 have hgw := h.gw0.2
 have hz1 := hd.2.size
 have hG : ∀ k, G k → k < w.heap.size := h.two.r.glt
 have ts : Turns w2 ((w2.setCell ⟨gw, 1, none⟩ (.pointer (some ⟨lg, 0, none⟩))).setCell ⟨gw, 3, none⟩ (.pointer (some ⟨lr, 0, none⟩))) (fun k => k = gw) (fun k => k = gw) := (Turns.set_ (F := fun k => k = gw) rfl 1 _).trans (Turns.set_ (F := fun k => k = gw) rfl 3 _)
 have b1 := (hL1.turns ht (fun k hk _ hg => by have := hG k hg; omega)).turns ts (fun k hk _ hg => by have h9 : k = gw := hg; omega)
 have b2 := hL2.turns ts (fun k hk _ hg => by have h9 : k = gw := hg; omega)
 exact rbytes_yes R R.length A1 A2 a1 a2 _ _ _ rfl (by omega) b1 b2
theorem lopen_any (h : Bo w0 w gw g q F E G B d d lo ro) (hk : Blk w gw 36 (worldC g q lo ro)) (frm bl least most : Int) (hi : (InI frm ∧ InI bl) ∧ InI least ∧ InI most) (hl : d.load ≤ 79000) (hs : d.safe.length ≤ 200) :
  Calls Tryz.prog 9 #[.pointer (some ⟨gw, 0, none⟩), .int .i64 frm, .int .i64 bl, .int .i64 least, .int .i64 most] w fun e w' => e = .returned (.bool true) ∧ LW w0 w' gw g q (openW d frm bl least most).1 (openW d frm bl least most).2.1 := by
 obtain ⟨d1, l1, R, er, hr⟩ : ∃ d1 l1 R er, openW d frm bl least most = (d1, l1, R, er) := ⟨_, _, _, _, rfl⟩
 have hfit := (keep_open h.two.r.good.fit frm bl least most hs).2
 have hlen := (keep_open h.two.r.good.fit frm bl least most hs).1.1
 have hnone := open_none (d := d) (frm := frm) (bl := bl) (least := least) (most := most)
 have hO := wopen_any h.two.p.disk frm bl least most hi (by omega) hs
 have hR : ∀ W, RDisk W q G B d → Calls Tryz.prog 27 #[.pointer (some ⟨q, 0, none⟩), .int .i64 frm, .int .i64 bl, .int .i64 least, .int .i64 most] W (OpenPost (openW d frm bl least most) q G B W) := fun W hW => ropen_any hW frm bl least most (by omega) hs
 rw [hr] at hfit hlen hnone hO hR
 rw [hr]
 simp only at hfit hlen hnone
 have hfew := open_few h.two.r.good.fit (frm := frm) (bl := bl) (least := least) (most := most) hs
 rw [hr] at hfew
 have HBo := Lib.hid h
 have HK := Lib.hid hk
 have HFit := Lib.hid hfit
 have HLen := Lib.hid hlen
 have HO := Lib.hid hO
 have HR := Lib.hid hR
 have hk' := hk
 unfold worldC at hk'
 obtain ⟨c0, c1, c2, c3⟩ := blkW4 hk'
 obtain ⟨p1, hp1⟩ : ∃ p, p = plV lo := ⟨_, rfl⟩
 obtain ⟨p3, hp3⟩ : ∃ p, p = rlV ro := ⟨_, rfl⟩
 rw [← hp1] at c1
 rw [← hp3] at c3
 clear hp1 hp3
 have HG : Hid (¬ F gw ∧ ¬ G gw) := ⟨h.gwo.1, h.gwo.2.2.1⟩
 clear h hk hk' hfit hlen hO hR hr hl hs hi
 unfold ptr at c0 c2
 rcases l1 with _ | l1
 ·obtain rfl := hnone rfl
  have HBy : Hid (∀ W, Calls Tryz.prog 28 #[.slice none 0 0, .slice none 0 0] W fun e w' => e = .returned (.bool true) ∧ Below W.heap.size W w') := fun W => rbytes_yes [] 0 none none 0 0 W (fun _ => True) (fun _ => True) rfl (by omega) BL.nil BL.nil
  clear hnone
  go_enter Tryz.func9, Tryz.ntmps9
  go_wp2_with (first
   | (go_at_call 15; (with_reducible refine HO.out.mono ?_); rintro e w1 ⟨hd1, rfl⟩; have HB1 := Lib.hid (HBo.out.progD hd1); have HD1 := Lib.hid hd1; have c2 := (hd1.2.cell (p := ⟨gw, 2, none⟩) HBo.out.gw0.2 HG.out.1).trans c2; clear hd1)
   | (go_at_call 27; (with_reducible refine (HR.out _ HB1.out.two.r).mono ?_); rintro e w2 ⟨hd2, rfl⟩; obtain ⟨hr2, ht2⟩ := hd2; have HB2 := Lib.hid (HB1.out.refD ⟨G, B, hr2, ht2, fun _ h => .inl h⟩); have HK2 := Lib.hid ((HK.out.turns HD1.out.2 HG.out.1).turns ht2 HG.out.2); have f2 := HK2.out.frozen; have l2 := HK2.out.lt; have x1 : w2.cell? ⟨gw, 1, none⟩ = some p1 := (ht2.cell (p := ⟨gw, 1, none⟩) HB1.out.gw0.2 HG.out.2).trans ((HD1.out.2.cell (p := ⟨gw, 1, none⟩) HBo.out.gw0.2 HG.out.1).trans c1); have x3 : w2.cell? ⟨gw, 3, none⟩ = some p3 := (ht2.cell (p := ⟨gw, 3, none⟩) HB1.out.gw0.2 HG.out.2).trans ((HD1.out.2.cell (p := ⟨gw, 3, none⟩) HBo.out.gw0.2 HG.out.1).trans c3); clear hr2 ht2)
   | (go_at_call 28; (with_reducible refine (HBy.out _).mono ?_); rintro e w3 ⟨rfl, b3⟩))
  go_ret
  obtain ⟨G', B', hB2⟩ := HB2.out
  have hb := ((hB2.set_ 1 (.pointer none)).set_ 3 (.pointer none)).more b3
  have hK3 := Blk.below (worldC_set (lo' := none) (ro' := none) HK2.out) b3 (Blk.lt (worldC_set (lo' := none) (ro' := none) HK2.out))
  exact ⟨rfl, F, _, G', B', none, none, hb.nothing, hK3, rfl, rfl, fun x hx => nomatch hx⟩
 ·have HRl : Hid (R.length ≤ 1000) := hfew
  clear hnone
  go_enter Tryz.func9, Tryz.ntmps9
  go_wp2_with (first
   | (go_at_call 15; (with_reducible refine HO.out.mono ?_); rintro e w1 ⟨hd1, lg, E', A1, a1, hP1, hE1, hL1, _, rfl⟩; have HB1 := Lib.hid (HBo.out.progD hd1); have HD1 := Lib.hid hd1; have HP1 := Lib.hid (And.intro hP1 (And.intro hE1 hL1)); have c2 := (hd1.2.cell (p := ⟨gw, 2, none⟩) HBo.out.gw0.2 HG.out.1).trans c2; clear hd1 hP1 hE1 hL1)
   | (go_at_call 27; (with_reducible refine (HR.out _ HB1.out.two.r).mono ?_); rintro e w2 ⟨hd2, lr, A2, a2, AB, cB, hlr, hLR, hAB, hL2, rfl⟩; obtain ⟨hr2, ht2⟩ := hd2; have HN := Lib.hid (And.intro hlr (And.intro hLR (And.intro hAB (And.intro hL2 (And.intro hr2 ht2))))); have HK2 := Lib.hid ((HK.out.turns HD1.out.2 HG.out.1).turns ht2 HG.out.2); have f2 := HK2.out.frozen; have l2 := HK2.out.lt; have x1 : w2.cell? ⟨gw, 1, none⟩ = some p1 := (ht2.cell (p := ⟨gw, 1, none⟩) HB1.out.gw0.2 HG.out.2).trans ((HD1.out.2.cell (p := ⟨gw, 1, none⟩) HBo.out.gw0.2 HG.out.1).trans c1); have x3 : w2.cell? ⟨gw, 3, none⟩ = some p3 := (ht2.cell (p := ⟨gw, 3, none⟩) HB1.out.gw0.2 HG.out.2).trans ((HD1.out.2.cell (p := ⟨gw, 3, none⟩) HBo.out.gw0.2 HG.out.1).trans c3); have hBy := Lib.hid (opened_same HBo.out HB1.out HP1.out.2.2 hL2 HD1.out ht2 HRl.out lg lr a1 a2); clear hr2 ht2 hlr hLR hAB hL2)
   | (go_at_call 28; (with_reducible refine hBy.out.mono ?_); rintro e w3 ⟨rfl, b3⟩))
  go_ret
  obtain ⟨hlr, hLR, hAB, hL2, hr2, ht2⟩ := HN.out
  obtain ⟨hP1, hE1, hL1⟩ := HP1.out
  have hB2 := HB1.out.refS hr2 ht2
  have hz1 := HD1.out.2.size
  have hz2 := ht2.size
  have hP2 : PLog w2 lg g E' l1 := hP1.turns ht2 (fun k hk hg => by have := hE1 k hk; have := HBo.out.two.r.glt k hg; omega)
  have hz : ∀ k, (F k ∨ G k ∨ B k ∨ k = gw) → k < w.heap.size := fun k hk => by
   rcases hk with h1 | h1 | h1 | h1
   ·exact HBo.out.two.p.flt k h1
   ·exact HBo.out.two.r.glt k h1
   ·exact HBo.out.two.r.blt k h1
   ·rw [h1]; exact HBo.out.gw0.2
  have hb := (((hB2.fresh hz HBo.out.two.p.below.size (fun k hk => ⟨hE1 k hk, hP1.elt k hk⟩) hz1 hz2 hP2 hLR hlr hAB).set_ 1 (.pointer (some ⟨lg, 0, none⟩))).set_ 3 (.pointer (some ⟨lr, 0, none⟩))).more b3
  have hK0 := worldC_set (lo' := some (l1, lg)) (ro' := some (l1, lr, AB, cB)) HK2.out
  have hK3 := Blk.below hK0 b3 (Blk.lt hK0)
  exact ⟨rfl, F, E', G, B, _, _, hb, hK3, rfl, rfl, fun x hx => by rw [HLen.out]; exact HFit.out x hx⟩
end
end Go.Proofs.YtghenhacndaelaaGreat
