/- Lemmas under the proofs of this place: WalPRecords, WalRAppendB. No statement is proved here. -/
import Derived.Test.YtghenhacndaelaaGreatBs26
import Derived.Test.YtghenhacndaelaaGreatBu10
import Derived.Test.YtghenhacndaelaaGreatBu21
import Derived.Test.YtghenhacndaelaaGreatBu19
import Derived.Test.YtghenhacndaelaaGreatBu11
import Derived.Test.YtghenhacndaelaaGreatBu07
import Derived.Deep.RegionHeld3
import Derived.Lib.SmallJoins
set_option linter.unusedSimpArgs false
set_option linter.unusedVariables false
set_option maxRecDepth 100000
set_option maxHeartbeats 16000000
namespace Go.Proofs.YtghenhacndaelaaGreat
section
open Go.RowKit
open Wal
theorem Tryz.textsInfoP : (Tryz.prog.info? 39).map (fun i => (i.zero, i.size, i.bytes)) = some (some (.slice none 0 0), 1, 24) := by kernel_rfl
def RecsToP (sec : Sec) (N : Nat) (least most : Int) (a : Nat) (l : List (List UInt8)) : Prop :=
 a ≤ N ∧ l.length ≤ a ∧ ∃ f, N - a < f ∧ recordsW sec N least most (N + 1) 0 = (l ++ (recordsW sec N least most f a).1, (recordsW sec N least most f a).2)
section
variable {sec : Sec} {N a : Nat} {least most : Int} {l : List (List UInt8)} {t : List UInt8} {n : Nat}
theorem rec_roomP (h : recordW sec N a least most = some (t, n)) : 0 < n ∧ a + n ≤ N := by
 obtain ⟨e, _, _, h3, h4⟩ := rec_only h
 exact ⟨by rw [h4]; exact h3.1, by rw [h4]; exact h3.2.2.1⟩
theorem RecsToP.start : RecsToP sec N least most 0 [] := ⟨Nat.zero_le _, Nat.le_refl _, N + 1, by omega, rfl⟩
theorem RecsToP.next (h : RecsToP sec N least most a l) (hr : recordW sec N a least most = some (t, n)) : RecsToP sec N least most (a + n) (l ++ [t]) := by
 obtain ⟨ha, hl, f, hf, he⟩ := h
 obtain ⟨g, rfl⟩ : ∃ g, f = g + 1 := ⟨f - 1, by omega⟩
 obtain ⟨h1, h2⟩ := rec_roomP hr
 refine ⟨h2, by rw [List.length_append]; simp; omega, g, by omega, ?_⟩
 rw [he, recordsW, hr]
 simp
theorem RecsToP.end (h : RecsToP sec N least most a l) (hr : recordW sec N a least most = none) : recordsW sec N least most (N + 1) 0 = (l, a) := by
 obtain ⟨ha, hl, f, hf, he⟩ := h
 obtain ⟨g, rfl⟩ : ∃ g, f = g + 1 := ⟨f - 1, by omega⟩
 rw [he, recordsW, hr]
 simp
end
def GivesRsP (r : List (List UInt8)) (ga : Nat) (w : World) (e : Ending) (w' : World) : Prop :=
 ∃ A c, e = .returned (.slice A r.length c) ∧ BL w' (fun k => w.heap.size ≤ k) A r ∧ CapN A r.length c ∧ Only w w' ga
theorem own_capN {w : World} {base n c size : Nat} {A : Option Addr} {e : TypeId} {xs : List Value} (h : w.ownsRow base e size (.slice A n c) n xs) : CapN A n c := by
 rcases h.2 with ⟨h1, h2⟩ | ⟨g, cap, cur, h1, _, _, h3, h4, _⟩
 ·simp only [Value.slice.injEq] at h1
  exact ⟨by omega, by omega⟩
 ·simp only [Value.slice.injEq] at h1
  unfold maxLen at h4
  exact ⟨by omega, by omega⟩
theorem wrecords_any {w : World} {ga : Nat} {img : List UInt8} {N : Nat} {least most : Int} {bb : Nat} (h : Area13 w ga img 0 least most bb) (hN : img.length = 64 * N) (hN1 : N ≤ 1000) :
  Calls Tryz.prog 43 #[.func (.func 44) #[.pointer (some ⟨ga, 0, none⟩)] #[]] w (GivesRsP (recordsA img least most).1 ga w) := by
 have HV : Hid (recordsA img least most = recordsW (secA img) N least most (N + 1) 0) := by show _ = _; unfold recordsA; rw [show img.length / 64 = N by omega]
 obtain ⟨i0, hi0, hz0, hz1, hz2⟩ := info_parts Tryz.textsInfoP
 have HRec : Hid (∀ (a : Nat) W, Area13 W ga img a least most bb → Calls Tryz.prog 67 #[.func (.func 44) #[.pointer (some ⟨ga, 0, none⟩)] #[]] W (GivesRecP (recordW (secA img) N a least most) ga img a least most bb W)) := fun a W hW => wrecord_any hW hN hN1
 have HA := Lib.hid h
 have nt := fun w' => Tryz.notTrue w'
 have nf := fun w' => Tryz.notFalse w'
 clear h hN
 go_enter Tryz.func43, Tryz.ntmps43
 go_wp2
 go_loopw [3] (fun v wr => ∃ (k a : Nat) (A' : Option Addr) (c' : Nat) (rows : List (List UInt8 × Option Addr × Nat)), k ≤ a ∧ a ≤ N ∧ v = .slice A' k c' ∧ Hid (rows.length = k ∧ RecsToP (secA img) N least most a (rows.map (·.1)) ∧ ∀ x ∈ rows, Own wr w.heap.size x.2.1 x.1 x.2.2) ∧ Hid (wr.ownsRow w.heap.size 39 1 (.slice A' k c') k (rowT rows)) ∧ Hid (Area13 wr ga img a least most bb) ∧ Hid (Only w wr ga)) (fun v _ => N - slLen v)
 case atStart => exact ⟨0, 0, none, 0, [], by omega, by omega, rfl, ⟨rfl, RecsToP.start, fun x hx => absurd hx (by simp)⟩, World.ownsRow_nil _ _ _ _, HA.out, only_refl _ _⟩
 case round =>
  obtain ⟨k, a, A', c', rows, hka, haN, rfl, HS, HW, HAr, HO⟩ := hrel
  obtain ⟨R, hR⟩ : ∃ R, recordW (secA img) N a least most = R := ⟨_, rfl⟩
  have HC := HRec.out a wr HAr.out
  rw [hR] at HC
  cases R with
  | none =>
   have HE : Hid (recordsA img least most = (rows.map (·.1), a)) := by show _ = _; rw [HV.out]; exact HS.out.2.1.end hR
   have HC1 : Hid (Calls Tryz.prog 67 #[.func (.func 44) #[.pointer (some ⟨ga, 0, none⟩)] #[]] wr fun e w' => ∃ B d, e = .returned (.tuple #[.slice B 0 d, .bool false]) ∧ Only wr w' ga) := HC.mono fun e w' ⟨hb, B, d, he⟩ => ⟨B, d, he, hb⟩
   clear hR HC
   go_wp2_with (first
    | (go_at_call 67; (with_reducible refine HC1.out.mono ?_); rintro e w1 ⟨B1, e1, rfl, b1⟩))
   go_ret
   unfold GivesRsP
   rw [HE.out]
   have ho1 := own_after HW.out b1 HA.out.lt.1
   have hl := HS.out.1
   refine ⟨A', c', by rw [List.length_map, hl]; rfl, BL.of_own ho1 hl.symm (fun x hx => own_after (HS.out.2.2 x hx) b1 HA.out.lt.1), ?_, only_trans HO.out b1⟩
   rw [List.length_map, hl]
   exact own_capN ho1
  | some x =>
   obtain ⟨t, q⟩ := x
   obtain ⟨hq0, hqN⟩ := rec_roomP hR
   obtain ⟨tl, htl⟩ : ∃ tl, tl = t.length := ⟨_, rfl⟩
   have HTl := Lib.hid htl
   have HN2 := Lib.hid (HS.out.2.1.next hR)
   have HC1 : Hid (Calls Tryz.prog 67 #[.func (.func 44) #[.pointer (some ⟨ga, 0, none⟩)] #[]] wr fun e w' => ∃ B d, e = .returned (.tuple #[.slice B tl d, .bool true]) ∧ Hid (Own w' wr.heap.size B t d) ∧ Hid (Area13 w' ga img (a + q) least most bb) ∧ Hid (Only wr w' ga)) := HC.mono fun e w' ⟨hb, B, d, he, ho, har⟩ => ⟨B, d, by rw [htl]; exact he, ho, har, hb⟩
   clear hR HC htl
   go_wp2_with (first
    | (go_at_call 67; (with_reducible refine HC1.out.mono ?_); rintro e w1 ⟨B1, e1, rfl, o1, ar1, on1⟩; have ow1 : w1.ownsRow w.heap.size 39 1 (.slice A' k c') k (rowT rows) := own_after HW.out on1.out HA.out.lt.1; have hsz : w.heap.size ≤ w1.heap.size := Nat.le_trans HO.out.size on1.out.size)
    | (at_builtin; refine wpList_append_any _ rfl (.tmp 14) (.tmp 16) _ rfl w.heap.size 39 i0 _ 1 24 Tryz.underlying53 hi0 hz0 hz1 hz2 rfl (by omega) (.slice A' k c') k (rowT rows) rfl (ow1.alloc _) (w1.heap.size + 1) (some ⟨w1.heap.size, 0, none⟩) 1 1 [.slice B1 tl e1] rfl (text_src w1 _ _) (rowT_one _ _ _) (by simp only [maxLen]; omega) (by omega) (by simp; omega) ?_; intro v9 w9 ho9 hg9 hat9; obtain ⟨A9, c9, rfl⟩ := own_slice7 ho9))
   have hlow : ∀ j, (Value.slice A' k c').ownBlock = some j → w.heap.size ≤ j := fun j hj => (HW.out.lt j hj).1
   have hk : ∀ x : List UInt8 × Option Addr × Nat, Own w1 w.heap.size x.2.1 x.1 x.2.2 → Own w9 w.heap.size x.2.1 x.1 x.2.2 := fun x hx => World.ownsRow.kept (hx.alloc _) hg9 (own_apart13 hx ow1 (by decide))
   have hrow : rowT rows ++ [.slice B1 tl e1] = rowT (rows ++ [(t, B1, e1)]) := by rw [rowT_snoc, HTl.out]
   rw [hrow] at ho9
   have ha9 : Area13 w9 ga img (a + q) least most bb := (ar1.out.below ((Below.refl _ _).alloc (Nat.le_refl _) _)).grown hg9 (fun j hj => by have := hlow j hj; have := HA.out.lt; omega)
   have ho9' : Only w w9 ga := by
    have h1 := only_alloc (only_trans HO.out on1.out) (.cells #[.slice B1 tl e1] 39)
    refine ⟨hg9.os.trans h1.os, hg9.tape.trans h1.tape, hg9.output.trans h1.output, Nat.le_trans h1.size hg9.size, fun i hi hn => ?_⟩
    refine (hg9.block i (Nat.lt_of_lt_of_le hi h1.size) fun e => ?_).trans (h1.block i hi hn)
    have := hlow i e.symm
    omega
   refine ⟨⟨k + 1, a + q, A9, c9, rows ++ [(t, B1, e1)], by omega, by omega, rfl, ⟨by rw [List.length_append, HS.out.1]; rfl, by rw [List.map_append]; exact HN2.out, fun x hx => ?_⟩, Lib.hid ho9, ha9, ho9'⟩, ?_⟩
   ·rcases List.mem_append.1 hx with h1 | h1
    ·exact hk x (own_after (HS.out.2.2 x h1) on1.out HA.out.lt.1)
    ·rw [List.mem_singleton.1 h1]
     exact hk (t, B1, e1) (own_lessP o1.out HO.out.size)
   ·simp [slLen]; omega
end
section
open Go.RowKit
open Wal
theorem Tryz.secBuild3 (k e n : Int) (w : World) : Sem.run Tryz.prog (Instr.build 49 #[(0, .int .i64 k), (1, .int .i64 e), (2, .int .i64 n)]) w = .ok (.agg #[.int .i64 k, .int .i64 e, .int .i64 n, .int .i64 0, .slice none 0 0]) w := by kernel_rfl
theorem app_sec {w3 : World} {As : Option Addr} {u N : Nat} {ep : Int} {t : List UInt8} (hS : SL w3 w3.heap.size As ((List.range N).map (partW u ep t))) (hm : ∀ i, i < N → (partW u ep t i).may = true) (i : Nat) (hi : i < N) :
  ∃ b off, As = some ⟨b, off, none⟩ ∧ ∀ W, Below w3.heap.size w3 W → ∃ (k1 k2 k3 k4 : Int) (dA : Option Addr) (n dc : Nat), W.cell? ⟨b, off + i * 5, none⟩ = some (.int .i64 k1) ∧ W.cell? ⟨b, off + i * 5 + 1, none⟩ = some (.int .i64 k2) ∧ W.cell? ⟨b, off + i * 5 + 2, none⟩ = some (.int .i64 k3) ∧ W.cell? ⟨b, off + i * 5 + 3, none⟩ = some (.int .i64 k4) ∧ W.cell? ⟨b, off + i * 5 + 4, none⟩ = some (.slice dA n dc) ∧
   Hid (Calls Tryz.prog 12 #[.agg #[.int .i64 k1, .int .i64 k2, .int .i64 k3, .int .i64 k4, .slice dA n dc]] W fun e w' => ∃ A c, e = .returned (.tuple #[.slice A 64 c, .int .i64 0]) ∧ Hid (RB w' w'.heap.size A (partW u ep t i).bytes) ∧ Below W.heap.size W w') := by
 obtain ⟨b, off, e, hlt, hc⟩ := hS (by simp; omega)
 refine ⟨b, off, e, fun W hb => ?_⟩
 have hi' : i < ((List.range N).map (partW u ep t)).length := by simpa using hi
 have ei : ((List.range N).map (partW u ep t))[i] = partW u ep t i := by simp
 obtain ⟨dA, dc, h1, h2, h3, h4, h5, h6⟩ := hc i hi'
 rw [ei] at h1 h2 h3 h4 h5 h6
 have k : ∀ j, W.cell? ⟨b, j, none⟩ = w3.cell? ⟨b, j, none⟩ := fun j => hb.cell (p := ⟨b, j, none⟩) hlt
 refine ⟨_, _, _, _, dA, _, dc, by rw [k]; exact h2, by rw [k]; exact h3, by rw [k]; exact h4, by rw [k]; exact h5, by rw [k]; exact h6, ?_⟩
 refine (rput_yes (partW u ep t i) dA dc W (hm i hi) ((h1.below hb).more hb.size)).mono fun e w' hh => ?_
 obtain ⟨A, c, he, ho, hb'⟩ := hh
 rw [part_bytes] at he
 exact ⟨A, c, he, own_rb ho, hb'⟩
structure AppAt (w W : World) (lg q : Nat) (G B : Nat → Prop) (d : Dk) (l : Lg) (A : Option Addr) (c : Nat) (all : List UInt8) (A8 : Option Addr) (u4 M k : Nat) (D : Dk) (Gk Bk : Nat → Prop) : Prop where
 disk : RDisk W q Gk Bk D
 log : RLogA W lg q Gk Bk l A c
 turns : Turns w W G Gk
 foot : ∀ k, Bk k → B k ∨ w.heap.size ≤ k
 kept : Kept W Gk A8 all
 load : D.load ≤ d.load + 2 * (k - u4)
 same : writesW l.frm all (M - u4) u4 d = writesW l.frm all (M - k) k D
section
variable {w W W' : World} {lg q : Nat} {G B : Nat → Prop} {d : Dk} {l : Lg} {A : Option Addr} {c : Nat} {all : List UInt8} {A8 : Option Addr} {u4 M k : Nat} {D : Dk} {Gk Bk : Nat → Prop}
theorem AppAt.start {w3 : World} (h : RDisk w q G B d) (hL : RLogA w lg q G B l A c) (hb : Below w.heap.size w W) (hr : RB W W.heap.size A8 all) (hn : ∀ ad, A8 = some ad → w.heap.size ≤ ad.block ∧ ad.block < W.heap.size) : AppAt w W lg q G B d l A c all A8 u4 M u4 d G B :=
 ⟨h.below hb, hL.turns (Turns.of_below hb G) (fun _ h => .inl h), Turns.of_below hb G, fun _ h => .inl h, ⟨hr, fun ad e => ⟨fun hg => by have := h.glt _ hg; have := (hn ad e).1; omega, (hn ad e).2⟩⟩, by omega, rfl⟩
theorem AppAt.next (h : AppAt w W lg q G B d l A c all A8 u4 M k D Gk Bk) (hk : u4 ≤ k) (hkM : k < M) (h0 : (D.write ((l.frm + k : Nat) : Int) (blkW all k)).2 = 0) (hd : RDeeds (D.write ((l.frm + k : Nat) : Int) (blkW all k)).1 Gk Bk W W' q) : ∃ G' B', AppAt w W' lg q G B d l A c all A8 u4 M (k + 1) (D.write ((l.frm + k : Nat) : Int) (blkW all k)).1 G' B' := by
 obtain ⟨G', B', h1, h2, h3⟩ := hd
 have hz := h.turns.size
 refine ⟨G', B', h1, h.log.turns h2 h3, h.turns.trans h2, fun j hj => ?_, h.kept.turns h2, ?_, ?_⟩
 ·rcases h3 j hj with h4 | h4
  ·exact h.foot j h4
  ·exact .inr (by omega)
 ·have := write_load13 D ((l.frm + k : Nat) : Int) (blkW all k)
  have := h.load
  omega
 ·rw [h.same, show M - k = (M - (k + 1)) + 1 by omega, writes_step _ _ _ _ _ h0]
theorem AppAt.up (h : AppAt w W lg q G B d l A c all A8 u4 M k D Gk Bk) (hb : Below W.heap.size W W') : AppAt w W' lg q G B d l A c all A8 u4 M k D Gk Bk :=
 ⟨h.disk.below hb, h.log.turns (Turns.of_below hb Gk) (fun _ h => .inl h), h.turns.trans (Turns.of_below hb Gk), h.foot, h.kept.below hb, h.load, h.same⟩
theorem AppAt.deeds {D' : Dk} (h : AppAt w W lg q G B d l A c all A8 u4 M k D Gk Bk) (hd : RDeeds D' Gk Bk W W' q) : ∃ G' B', RDisk W' q G' B' D' ∧ RLogA W' lg q G' B' l A c ∧ Turns w W' G G' ∧ (∀ k, B' k → B k ∨ w.heap.size ≤ k) ∧ Kept W' G' A8 all := by
 obtain ⟨G', B', h1, h2, h3⟩ := hd
 have hz := h.turns.size
 refine ⟨G', B', h1, h.log.turns h2 h3, h.turns.trans h2, fun j hj => ?_, h.kept.turns h2⟩
 rcases h3 j hj with h4 | h4
 ·exact h.foot j h4
 ·exact .inr (by omega)
theorem AppAt.dead {D' : Dk} (h : AppAt w W lg q G B d l A c all A8 u4 M k D Gk Bk) (hd : RDeeds D' Gk Bk W W' q) : (W'.cell? ⟨lg, 5, none⟩ = some (.bool l.gone) ∧ W'.frozen? ⟨lg, 5, none⟩ = false ∧ lg < W'.heap.size) ∧ Hid (LDeeds D' { l with gone := true } G B w (W'.setCell ⟨lg, 5, none⟩ (.bool true)) q lg A) := by
 obtain ⟨G', B', h1, h2, h3, h4, _⟩ := h.deeds hd
 exact ⟨⟨h2.r5, h2.fz 5, h2.blk.lt⟩, ldeeds_set h1 h2 h3 h4 5 _ h2.dead (fun _ e => .inl e)⟩
theorem AppAt.done {D' : Dk} {X : List UInt8} {n8 c8 : Nat} (h : AppAt w W lg q G B d l A c all A8 u4 M k D Gk Bk) (hd : RDeeds D' Gk Bk W W' q) (hX : X = all.take n8) (hn : n8 ≤ all.length) (ha : ∀ ad, A8 = some ad → ad.block ≠ lg) (hn8 : ∀ ad, A8 = some ad → w.heap.size ≤ ad.block) : (W'.cell? ⟨lg, 4, none⟩ = some (.slice A l.b.length c) ∧ W'.frozen? ⟨lg, 4, none⟩ = false ∧ lg < W'.heap.size) ∧ Hid (LDeeds D' { l with b := X } G B w (W'.setCell ⟨lg, 4, none⟩ (.slice A8 n8 c8)) q lg A) := by
 obtain ⟨G', B', h1, h2, h3, h4, h5⟩ := h.deeds hd
 refine ⟨⟨h2.r4, h2.fz 4, h2.blk.lt⟩, ldeeds_set h1 h2 h3 h4 4 _ (h2.bytes (by rw [hX, List.length_take]; omega) ⟨?_, h5.2⟩ ha) (fun ad e => .inr (hn8 ad e))⟩
 rw [hX]
 exact rb_take h5.1 n8 hn
theorem AppAt.bad (h : AppAt w W lg q G B d l A c all A8 u4 M k D Gk Bk) (hkM : k < M) (h0 : (D.write ((l.frm + k : Nat) : Int) (blkW all k)).2 ≠ 0) : writesW l.frm all (M - u4) u4 d = D.write ((l.frm + k : Nat) : Int) (blkW all k) := by
 rw [h.same, show M - k = (M - (k + 1)) + 1 by omega, writes_bad _ _ _ _ _ h0]
end
theorem rappend_in {w : World} {lg q : Nat} {G B : Nat → Prop} {d : Dk} {l : Lg} {A : Option Addr} {c : Nat} (h : RDisk w q G B d) (hA : RLogA w lg q G B l A c) (t : List UInt8) (n : Nat) (T : Option Addr) (cT : Nat) (hn : n = t.length) (hl : n ≤ 50000) (hr : RB w w.heap.size T t) (hc : n ≤ cT) (hcm : cT ≤ 9223372036854775807) (hg : l.gone = false) (h0 : n ≠ 0) (hu : l.b.length ≤ 64 * l.n) (h64 : l.b.length % 64 = 0) (hN : l.n ≤ 1000) (hf : ¬ l.n - used l < needN t.length) (he : 0 ≤ l.epoch ∧ l.epoch ≤ 2147483647) (hld : d.load ≤ 80000) (hfr : l.frm ≤ 1000000) :
  Calls Tryz.prog 31 #[.pointer (some ⟨lg, 0, none⟩), .slice T n cT] w fun e w' => e = .returned (.int .i64 (appendW d l t).2.2) ∧ LDeeds (appendW d l t).1 (appendW d l t).2.1 G B w w' q lg A := by
 obtain ⟨N, hNe⟩ : ∃ N, N = needN n := ⟨_, rfl⟩
 have hN2 : N = (n + 47) / 48 := hNe
 have hN3 : N = needN t.length := by rw [hNe, hn]
 obtain ⟨u, hue⟩ : ∃ u, u = l.b.length / 64 := ⟨_, rfl⟩
 have hus : used l = u := hue.symm
 rw [hus, ← hN3] at hf
 have hu1 : u ≤ 1000 := by omega
 have hN1 : N ≤ 1000 := by omega
 have hu2 : u + N ≤ 1000 := by omega
 have HV : Hid (∀ W, W = writesW l.frm (allW l.b (recBytes u l.epoch t)) ((allW l.b (recBytes u l.epoch t)).length / 256 - u / 4) (u / 4) d → appendW d l t = if W.2 ≠ 0 then (W.1, { l with gone := true }, W.2) else if W.1.flush.2 ≠ 0 then (W.1.flush.1, { l with gone := true }, W.1.flush.2) else (W.1.flush.1, { l with b := l.b ++ recBytes u l.epoch t }, 0)) := fun W hW => by
  rw [hW, ← hus]
  unfold appendW
  rw [if_neg (by rw [hg]; simp), if_neg (by rw [← hN3]; omega), if_neg (by rw [← hN3, hus]; exact hf)]
 have HN : Hid (∀ W, Calls Tryz.prog 60 #[.int .i64 (n : Int)] W fun e w' => e = .returned (.int .i64 (N : Int)) ∧ W = w') := fun W => by rw [hNe]; exact rneed_any n (by omega) W
 obtain ⟨m, hme⟩ : ∃ m, m = l.b.length := ⟨_, rfl⟩
 have hm1 : m ≤ 64000 := by omega
 have HSp : Hid (∀ W, Below w.heap.size w W → Calls Tryz.prog 61 #[.agg #[.int .i64 2, .int .i64 l.epoch, .int .i64 (u : Int), .int .i64 0, .slice none 0 0], .slice T n cT] W fun e w' => ∃ A c, e = .returned (.tuple #[.slice A N c, .int .i64 0]) ∧ Hid (SL w' w'.heap.size A ((List.range N).map (partW u l.epoch t))) ∧ Below W.heap.size W w') := fun W hW => by
  have h3 := rsplit_any (base u l.epoch) none 0 t T cT W (by omega) ((hr.below hW).more hW.size) (by omega) hcm
  rw [split_base he (by rw [← hN3]; omega) (by rw [← hN3]; omega), ← hn, ← hNe] at h3
  refine h3.mono ?_
  rintro e w' ⟨A, c, he, hs, hb⟩
  rw [List.length_map, List.length_range] at he
  exact ⟨A, c, he, hs, hb⟩
 have HMay : Hid (∀ i, i < N → (partW u l.epoch t i).may = true) := fun i hi => part_mayK he (by rw [← hN3]; omega) (by rw [← hN3]; exact hi)
 have HA := Lib.hid hA
 have HD := Lib.hid h
 have r5 := hA.r5
 have r4 := hA.r4
 have r3 := hA.r3
 have r2 := hA.r2
 rw [hg] at r5
 rw [← hme] at r4
 have HU : Hid (∀ W, W.cell? ⟨lg, 4, none⟩ = some (.slice A m c) → Calls Tryz.prog 30 #[.pointer (some ⟨lg, 0, none⟩)] W fun e w' => e = .returned (.int .i64 (u : Int)) ∧ W = w') := fun W hW => by rw [hue, ← hme]; exact rused_any lg m A c W (by omega) hW
 have HUq : Hid (∀ j, Calls Tryz.prog 30 #[.pointer (some ⟨lg, 0, none⟩)] (w.drewN j) fun e w'' => e = .returned (.int .i64 (u : Int)) ∧ ∃ m, w'' = w.drewN m) := fun j => Calls.quiet_of_same ((HU.out (w.drewN j) r4).mono fun _ _ h => ⟨h.1, h.2.symm⟩)
 obtain ⟨x, hx⟩ : ∃ x, x = l.n - u := ⟨_, rfl⟩
 have y0 : IntKind.i64.wrap ((l.n : Int) - (u : Int)) = (x : Int) := by rw [IntWalk.i64_in _ (by omega)]; omega
 have d0 : ((N : Int) == 0) = false := by rw [beq_eq_false_iff_ne]; omega
 have d1 : decide ((N : Int) = 0) = false := decide_eq_false (by omega)
 have d2 : decide (N = 0) = false := decide_eq_false (by omega)
 have d3 : decide ((N : Int) > (x : Int)) = false := decide_eq_false (by omega)
 have d4 : decide ((x : Int) < (N : Int)) = false := decide_eq_false (by omega)
 have d5 : decide (x < N) = false := decide_eq_false (by omega)
 obtain ⟨ep, hep⟩ : ∃ ep, ep = l.epoch := ⟨_, rfl⟩
 obtain ⟨lb, hlb⟩ : ∃ lb, lb = l.b := ⟨_, rfl⟩
 have Hlb := Lib.hid hlb
 have Hm := Lib.hid hme
 have n3 := fun k e n w' => Tryz.secBuild3 k e n w'
 have lw := fun j => drewN_below13 w j
 rw [← hep] at r3 HSp HV HMay
 have Hep := Lib.hid hep
 have HN3 := Lib.hid hN3
 have HLd := Lib.hid hld
 have HFr : Hid (l.frm ≤ 1000000) := hfr
 have HU4 : Hid (m = 64 * u ∧ 0 < N) := ⟨by rw [hme]; omega, by omega⟩
 clear h hA hn hr hc hcm hl hg hu hN hf hNe hN2 hN3 hue hus hx hep hlb hme he hld hfr h64
 go_enter Tryz.func31, Tryz.ntmps31
 go_wp2_with (go_at_call 60; (with_reducible refine (HN.out _).mono ?_); rintro e w1 ⟨rfl, rfl⟩)
 go_quiet (with_reducible exact HUq.out _)
 obtain ⟨wa, hwa⟩ : ∃ wa, wa = w.drewN nq := ⟨_, rfl⟩
 have hba : Below w.heap.size w wa := by rw [hwa]; exact lw nq
 rw [← hwa]
 have HBa := Lib.hid hba
 have c4 : wa.cell? ⟨lg, 4, none⟩ = some (.slice A m c) := by rw [hwa]; exact r4
 have c3 : wa.cell? ⟨lg, 3, none⟩ = some (.int .i64 ep) := by rw [hwa]; exact r3
 clear hwa hba lw
 go_wp2
 have s0 : wa.drew.cell? ⟨lg, 3, none⟩ = some (.int .i64 ep) ∧ wa.drew.cell? ⟨lg, 4, none⟩ = some (.slice A m c) := ⟨c3, c4⟩
 have HLt : Hid (lg < w.heap.size) := HA.out.blk.lt
 go_region_held3 (fun W => W.cell? ⟨lg, 3, none⟩ = some (.int .i64 ep) ∧ W.cell? ⟨lg, 4, none⟩ = some (.slice A m c))
  (first | exact s0 | exact s3)
  (first
   | (go_at_call 30; (with_reducible refine (HU.out _ s0.2).mono ?_); rintro e w2 ⟨rfl, rfl⟩)
   | (go_at_call 61; (with_reducible refine (HSp.out _ HBa.out.drew).mono ?_); rintro e w3 ⟨As, cs, rfl, hS, b3⟩; have b3w : Below w.heap.size w w3 := chain7 HBa.out.drew b3; have s3 : w3.cell? ⟨lg, 3, none⟩ = some (.int .i64 ep) ∧ w3.cell? ⟨lg, 4, none⟩ = some (.slice A m c) := ⟨(b3.cell (p := ⟨lg, 3, none⟩) (Nat.lt_of_lt_of_le HLt.out HBa.out.size)).trans s0.1, (b3.cell (p := ⟨lg, 4, none⟩) (Nat.lt_of_lt_of_le HLt.out HBa.out.size)).trans s0.2⟩))
 have HB3 := Lib.hid b3w
 have hlbR : RB w3 w3.heap.size A lb := by
  have h1 := rb_up7 HA.out.kept.1 b3w
  rwa [← Hlb.out] at h1
 have HLB := Lib.hid hlbR
 have c43 : (w3.alloc (.cells #[] 5)).cell? ⟨lg, 4, none⟩ = some (.slice A m c) := (((Below.refl w3.heap.size w3).alloc (Nat.le_refl _) (.cells #[] 5)).cell (p := ⟨lg, 4, none⟩) (Nat.lt_of_lt_of_le HLt.out b3w.size)).trans s3.2
 clear hlbR s0 s3 b3 b3w c4 c3
 go_wp2_with (at_builtin; refine append_rb (B := w3.heap.size) (w0 := w3) (P := []) (L := lb) (k := m) rfl (.tmp 46) (.tmp 50) rfl rfl (World.ownsRow_made w3 #[] 0 (Nat.le_refl _) (by decide) rfl) ((Below.refl _ _).alloc (Nat.le_refl _) _) (Nat.le_refl _) rfl (HLB.out.alloc (Nat.le_refl _) _) (by rw [Hm.out, Hlb.out]) (by omega) (by omega) ?_; intro A9 c9 w9 ho9 hb9)
 have HO9 := Lib.hid ho9
 have HB9 := Lib.hid hb9
 clear ho9 hb9 c43
 go_loopw [8, 9] (fun v x wr => ∃ (i q1 c1 : Nat) (A1 : Option Addr), i ≤ N ∧ q1 ≤ 128000 ∧ v = .slice A1 q1 c1 ∧ x = .int .i64 (i : Int) ∧ Hid (q1 = m + 64 * i) ∧ Hid (wr.ownsRow w3.heap.size 5 1 (.slice A1 q1 c1) q1 (cells (lb ++ recK u ep t i)) ∧ Below w3.heap.size w3 wr)) (fun _ x _ => N - (intOf x).toNat)
 case atStart => exact ⟨0, m, c9, A9, by omega, by omega, rfl, rfl, by show _ = _; omega, by have := HO9.out; simpa [recK] using this, HB9.out⟩
 case round =>
  obtain ⟨i, q1, c1, A1, hi, hq1, rfl, rfl, HQ, HI⟩ := hrel
  by_cases hlt : i < N
  ·obtain ⟨b, off, hAs, hcs⟩ := app_sec hS.out HMay.out i hlt
   obtain ⟨k1, k2, k3, k4, dA, nd, dc, v0, v1, v2, v3, v4, HPu⟩ := hcs wr HI.out.2
   have HT := Lib.hid (recK_succ (at_ := u) (e := ep) (t := t) i)
   have HP64 := Lib.hid (part_bytes (at_ := u) (e := ep) (t := t) i)
   obtain ⟨PB, hPB⟩ : ∃ x, x = (partW u ep t i).bytes := ⟨_, rfl⟩
   rw [← hPB] at HPu HT HP64
   have d6 : decide ((i : Int) < (N : Int)) = true := decide_eq_true (by omega)
   have d7 : decide (i < N) = true := decide_eq_true hlt
   have y7 : IntKind.i64.wrap ((i : Int) + 1) = (i : Int) + 1 := IntWalk.i64_in _ (by omega)
   subst hAs
   clear hcs hPB
   obtain ⟨wp, hwp⟩ : ∃ wp : World, wp = wr := ⟨_, rfl⟩
   subst hwp
   have hq64 : q1 + 64 ≤ 128000 := by have := HQ.out; omega
   go_wp2_with (first
    | (go_at_call 12; (with_reducible refine HPu.out.mono ?_); rintro e w4 ⟨A4, c4, rfl, h4, b4⟩; have o4 := own_kept HI.out.1 b4; have bb4 := HI.out.2.trans (b4.mono HI.out.2.size))
    | (at_builtin; refine append_rb (B := w3.heap.size) (w0 := w3) (k := q1 + 64) rfl (.tmp 66) (.tmp 67) rfl rfl o4 bb4 (Nat.le_refl _) rfl h4.out HP64.out.symm (by omega) rfl ?_; intro A5 c5 w5 ho5 hb5))
   go_roundw
   case rel =>
    refine ⟨i + 1, q1 + 64, c5, A5, by omega, by omega, rfl, by go_num, by show _ = _; have := HQ.out; omega, ?_, hb5⟩
    rw [HT.out, ← List.append_assoc]
    exact ho5
   case measure => simp [intOf]; omega
  ·have hin : i = N := by omega
   rw [hin] at HI HQ
   have d6 : decide ((i : Int) < (N : Int)) = false := decide_eq_false (by omega)
   have d7 : decide (i < N) = false := decide_eq_false hlt
   obtain ⟨X, hX⟩ : ∃ X, X = lb ++ recK u ep t N := ⟨_, rfl⟩
   rw [← hX] at HI
   have HX := Lib.hid hX
   obtain ⟨pd, hpd⟩ : ∃ p, p = padN q1 := ⟨_, rfl⟩
   have HPd := Lib.hid hpd
   have hpd1 : pd ≤ 255 := by have := pad_lt q1; omega
   obtain ⟨wo, hwo⟩ : ∃ wo : World, wo = wr := ⟨_, rfl⟩
   subst hwo
   clear hX hpd hin
   go_wp2
   clear d6 d7
   go_loopw [8] (fun v wr => ∃ (j q2 c2 : Nat) (A2 : Option Addr), j ≤ pd ∧ q2 ≤ 128300 ∧ v = .slice A2 q2 c2 ∧ Hid (q2 = q1 + j) ∧ Hid (wr.ownsRow w3.heap.size 5 1 (.slice A2 q2 c2) q2 (cells (X ++ List.replicate j 0)) ∧ Below w3.heap.size w3 wr)) (fun v _ => q1 + pd - slLen v)
   case atStart => exact ⟨0, q1, c1, A1, by omega, by omega, rfl, rfl, by simpa using HI.out.1, HI.out.2⟩
   case round =>
    obtain ⟨j, q2, c2, A2, hj, hq2, rfl, HQ2, HJ⟩ := hrel
    obtain ⟨rm, hrm⟩ : ∃ r, r = q2 % 256 := ⟨_, rfl⟩
    have z0 : (q2 : Int).tmod 256 = (rm : Int) := by rw [Int.tmod_eq_emod_of_nonneg (by omega)]; omega
    have z1 : (q2 : Int) % 256 = (rm : Int) := by omega
    have hjp : rm = 0 ↔ j = pd := by have := pad_step q1 j (by rw [← HPd.out]; exact hj); have h2 := HQ2.out; have h3 := HPd.out; rw [hrm, h2, h3]; exact this
    by_cases hlt2 : rm = 0
    ·have hjp2 : j = pd := hjp.1 hlt2
     have e0 : ((rm : Int) != 0) = false := by rw [hlt2]; rfl
     have e1 : ((rm : Int) == 0) = true := by rw [hlt2]; rfl
     have e2 : (rm != 0) = false := by rw [hlt2]; rfl
     have e3 : (rm == 0) = true := by rw [hlt2]; rfl
     obtain ⟨ALL, hALL⟩ : ∃ L, L = X ++ List.replicate pd 0 := ⟨_, rfl⟩
     have hq2l : q2 = ALL.length := by have h1 := HJ.out.1.1; rw [cells_length, Nat.mul_one, hjp2, ← hALL] at h1; omega
     have hXl : X.length = q1 := by have h1 := HI.out.1.1; rw [cells_length, Nat.mul_one] at h1; exact h1
     have HAll : Hid (allW l.b (recBytes u l.epoch t) = ALL ∧ X = l.b ++ recBytes u l.epoch t ∧ X = ALL.take q1) := by
      have h1 : recK u ep t N = recBytes u l.epoch t := by rw [HN3.out, Hep.out]; rfl
      have h2 := HX.out
      rw [h1, Hlb.out] at h2
      refine ⟨?_, h2, by rw [hALL, List.take_append_of_le_length (by omega), List.take_of_length_le (by omega)]⟩
      unfold allW
      rw [hALL, h2, List.append_assoc, HPd.out, ← hXl, h2, List.length_append]
     have hown : Own wr w3.heap.size A2 ALL c2 := by
      have h1 := HJ.out.1
      rw [hjp2, ← hALL] at h1
      unfold Own
      rw [← hq2l]
      exact h1
     have hq20 : 0 < q2 := by have := HQ.out; have := HQ2.out; have := HU4.out; omega
     obtain ⟨g8, hA2, hg8, hg8', hc2, hcm2⟩ := own_first (n := q2) (by unfold Own at hown; rwa [← hq2l] at hown) hq20
     subst hA2
     obtain ⟨uq, huq⟩ : ∃ x, x = u / 4 := ⟨_, rfl⟩
     obtain ⟨M, hM⟩ : ∃ x, x = q2 / 256 := ⟨_, rfl⟩
     have hM' : M = q2 / 256 := hM
     have hApp : AppAt w wr lg q G B d l A c ALL (some ⟨g8, 0, none⟩) uq M uq d G B := AppAt.start (w3 := w3) HD.out HA.out (HB3.out.trans (HJ.out.2.mono HB3.out.size)) (own_rb hown) (fun ad e => by injection e with e; rw [← e]; exact ⟨by have := HB3.out.size; show w.heap.size ≤ g8; omega, hg8'⟩)
     have HApp := Lib.hid hApp
     have c44 : wr.cell? ⟨lg, 4, none⟩ = some (.slice A m c) := by rw [Hm.out]; exact hApp.log.r4
     have z2 : (u : Int).tdiv 4 = (uq : Int) := by rw [Int.tdiv_eq_ediv_of_nonneg (by omega)]; omega
     have z3 : (u : Int) / 4 = (uq : Int) := by omega
     have z4 : (q2 : Int).tdiv 256 = (M : Int) := by rw [Int.tdiv_eq_ediv_of_nonneg (by omega)]; omega
     have z5 : (q2 : Int) / 256 = (M : Int) := by omega
     have z6 : IntKind.i64.wrap (M : Int) = (M : Int) := IntWalk.i64_in _ (by omega)
     have z7 : IntKind.i64.wrap (uq : Int) = (uq : Int) := IntWalk.i64_in _ (by omega)
     have hM1 : M ≤ 502 := by omega
     have huq1 : uq ≤ M := by have := HQ.out; have := HQ2.out; have := HU4.out; omega
     have HMq : Hid (M * 256 = q2 ∧ q2 = ALL.length ∧ q1 ≤ q2) := ⟨by omega, hq2l, by have := HQ2.out; omega⟩
     have HW3 : Hid (∀ W, writesW l.frm ALL (M - uq) uq d = W → appendW d l t = if W.2 ≠ 0 then (W.1, { l with gone := true }, W.2) else if W.1.flush.2 ≠ 0 then (W.1.flush.1, { l with gone := true }, W.1.flush.2) else (W.1.flush.1, { l with b := X }, 0)) := fun W hW => by
      have h1 := HV.out W (by
       rw [Hep.out, HAll.out.1, ← hW, ← huq, ← hq2l, ← hM'])
      rw [Hep.out, ← HAll.out.2.1] at h1
      exact h1
     have HG8 : Hid (w.heap.size ≤ g8 ∧ q2 ≤ c2 ∧ c2 ≤ 9223372036854775807) := ⟨by have := HB3.out.size; omega, hc2, hcm2⟩
     clear hrm hjp hlt2 hALL hq2l hXl hown hq20 hg8 hg8' hc2 hcm2 huq hM hM' hApp
     obtain ⟨wp, hwp⟩ : ∃ wp : World, wp = wr := ⟨_, rfl⟩
     subst hwp
     go_wp2_with (go_at_call 30; (with_reducible refine (HU.out _ c44).mono ?_); rintro e w6 ⟨rfl, rfl⟩)
     clear e0 e1 e2 e3 z0 z1 z2 z3 z7 c44
     go_loopw [13] (fun x wr => ∃ (k : Nat) (D : Dk) (Gk Bk : Nat → Prop), uq ≤ k ∧ k ≤ M ∧ x = .int .i64 (k : Int) ∧ Hid (AppAt w wr lg q G B d l A c ALL (some ⟨g8, 0, none⟩) uq M k D Gk Bk)) (fun x _ => M - (intOf x).toNat)
     case atStart => exact ⟨uq, d, G, B, Nat.le_refl _, huq1, rfl, HApp.out⟩
     case round =>
      obtain ⟨k, D, Gk, Bk, hk4, hkM, rfl, HK⟩ := hrel
      by_cases hlt3 : k < M
      ·have HKd := Lib.hid (HK.out.up (Below.drew (Below.refl wr.heap.size wr)))
       obtain ⟨fk, hfk⟩ : ∃ x, x = l.frm + k := ⟨_, rfl⟩
       obtain ⟨o1, ho1⟩ : ∃ x, x = 256 * k := ⟨_, rfl⟩
       obtain ⟨o2, ho2⟩ : ∃ x, x = 256 * k + 256 := ⟨_, rfl⟩
       have hle : o2 ≤ q2 ∧ o1 + 256 = o2 := by have := HMq.out; omega
       obtain ⟨cz, hcz⟩ : ∃ x, x = c2 - o1 := ⟨_, rfl⟩
       have y1 : IntKind.i64.wrap (256 * (k : Int)) = (o1 : Int) := by rw [IntWalk.i64_in _ (by omega)]; omega
       have y2 : IntKind.i64.wrap ((o1 : Int) + 256) = (o2 : Int) := by rw [IntWalk.i64_in _ (by omega)]; omega
       have y3 : IntKind.i64.wrap ((l.frm : Int) + (k : Int)) = (fk : Int) := by rw [IntWalk.i64_in _ (by have := HFr.out; omega)]; omega
       have y7 : IntKind.i64.wrap ((k : Int) + 1) = (k : Int) + 1 := IntWalk.i64_in _ (by omega)
       have sl : ∀ W, (Instr.sliceAt 39 (.slice (some ⟨g8, 0, none⟩) q2 c2) (some (.int .i64 (o1 : Int))) (some (.int .i64 (o2 : Int))) none).run Tryz.prog W = .ok (.slice (some ⟨g8, o1, none⟩) 256 cz) W := fun W => by
        have h1 := sl_both g8 0 q2 c2 o1 o2 (o1 : Int) (o2 : Int) rfl rfl (by omega) (by have := HG8.out; omega) (by have := HG8.out; omega) W
        rwa [Nat.zero_add, show o2 - o1 = 256 by omega, ← hcz] at h1
       obtain ⟨D', er, hDW⟩ : ∃ D' er, D.write ((l.frm + k : Nat) : Int) (blkW ALL k) = (D', er) := ⟨_, _, rfl⟩
       have HWr : Hid (Calls Tryz.prog 62 #[.pointer (some ⟨q, 0, none⟩), .int .i64 (fk : Int), .slice (some ⟨g8, o1, none⟩) 256 cz] wr.drew fun e w' => e = .returned (.int .i64 er) ∧ Hid (RDeeds D' Gk Bk wr.drew w' q)) := by
        have hb : RB wr.drew wr.drew.heap.size (some ⟨g8, 0 + o1, none⟩) (blkW ALL k) := by
         have h1 := sub_rb (c := ALL.length + 1) HKd.out.kept.1 o1 256 (by have := HMq.out; omega) (by omega)
         rwa [ho1] at h1 ⊢
        rw [Nat.zero_add] at hb
        have h2 := rwrite_any HKd.out.disk ((l.frm + k : Nat) : Int) (by have h5 := HKd.out.load; have := HLd.out; omega) (blkW ALL k) (some ⟨g8, o1, none⟩) 256 cz (by unfold blkW; rw [List.length_take, List.length_drop]; have := HMq.out; omega) hb
        rw [hDW, ← hfk] at h2
        exact h2
       have HDW := Lib.hid hDW
       have s0 : wr.drew.cell? ⟨lg, 0, none⟩ = some (.pointer (some ⟨q, 0, none⟩)) ∧ wr.drew.cell? ⟨lg, 1, none⟩ = some (.int .i64 (l.frm : Int)) := ⟨HKd.out.log.r0, HKd.out.log.r1⟩
       have d8 : decide ((k : Int) < (M : Int)) = true := decide_eq_true (by omega)
       have d9 : decide (k < M) = true := decide_eq_true hlt3
       clear hfk ho1 ho2 hcz hDW hle
       go_wp2
       go_region_held3 (fun W => W.cell? ⟨lg, 0, none⟩ = some (.pointer (some ⟨q, 0, none⟩)) ∧ W.cell? ⟨lg, 1, none⟩ = some (.int .i64 (l.frm : Int)))
        (first | exact s0 | exact s9)
        (first
         | (go_at_call 62; (with_reducible refine HWr.out.mono ?_); rintro e w9 ⟨rfl, hd9⟩; have s9 : w9.cell? ⟨lg, 0, none⟩ = some (.pointer (some ⟨q, 0, none⟩)) ∧ w9.cell? ⟨lg, 1, none⟩ = some (.int .i64 (l.frm : Int)) := (let ⟨_, _, _, h2, _⟩ := HKd.out.deeds hd9.out; ⟨h2.r0, h2.r1⟩)))
       by_cases her : er = 0
       ·subst her
        obtain ⟨G', B', hN'⟩ := HKd.out.next hk4 hlt3 (by rw [HDW.out]) (by rw [HDW.out]; exact hd9.out)
        rw [HDW.out] at hN'
        have HN' := Lib.hid hN'
        clear hN' hd9 s0 s9
        go_wp2
        go_roundw
        case rel => exact ⟨k + 1, D', G', B', by omega, by omega, by go_num, HN'.out⟩
        case measure => simp [intOf]; omega
       ·have f0 : decide (er ≠ 0) = true := decide_eq_true her
        have f1 : (er == 0) = false := by rw [beq_eq_false_iff_ne]; exact her
        have f2 : (er != 0) = true := by rw [bne_iff_ne]; exact her
        obtain ⟨⟨k5, k6, k7⟩, hL5⟩ := HKd.out.dead hd9.out
        have HE := Lib.hid (HW3.out _ (HKd.out.bad hlt3 (by rw [HDW.out]; exact her)))
        rw [HDW.out] at HE
        have Her := Lib.hid her
        clear hd9 s0 s9 her
        go_wp2
        go_ret
        rw [HE.out, if_pos Her.out]
        exact ⟨rfl, hL5.out⟩
      ·have hkM2 : k = M := by omega
       have d8 : decide ((k : Int) < (M : Int)) = false := decide_eq_false (by omega)
       have d9 : decide (k < M) = false := decide_eq_false hlt3
       have HDone : Hid (writesW l.frm ALL (M - uq) uq d = (D, 0)) := by
        show _ = _
        rw [HK.out.same, hkM2, Nat.sub_self]
        rfl
       obtain ⟨D', er, hDW⟩ : ∃ D' er, D.flush = (D', er) := ⟨_, _, rfl⟩
       have HFl : Hid (∀ W, RDisk W q Gk Bk D → Calls Tryz.prog 63 #[.pointer (some ⟨q, 0, none⟩)] W fun e w' => e = .returned (.int .i64 er) ∧ Hid (RDeeds D' Gk Bk W w' q)) := fun W hW => by
        have h2 := rflush_any hW (by have h5 := HK.out.load; have := HLd.out; omega)
        rw [hDW] at h2
        refine h2.mono fun e w' hh => ⟨hh.1, Gk, Bk, hh.2.1, hh.2.2, fun _ h => .inl h⟩
       have HDW := Lib.hid hDW
       have c00 : wr.cell? ⟨lg, 0, none⟩ = some (.pointer (some ⟨q, 0, none⟩)) := HK.out.log.r0
       have HE := Lib.hid (HW3.out _ HDone.out)
       rw [if_neg (by simp)] at HE
       rw [HDW.out] at HE
       have sl : ∀ W, (Instr.sliceAt 39 (.slice (some ⟨g8, 0, none⟩) q2 c2) none (some (.int .i64 (q1 : Int))) none).run Tryz.prog W = .ok (.slice (some ⟨g8, 0, none⟩) q1 c2) W := fun W => sl_to g8 0 q2 c2 q1 (q1 : Int) rfl (by have := HG8.out; have := HMq.out; omega) (by have := HG8.out; have := HMq.out; have := HQ.out; have := HU4.out; omega) W
       clear hDW hkM2
       by_cases her : er = 0
       ·subst her
        rw [if_neg (by simp)] at HE
        have HDn : Hid (∀ W' , RDeeds D' Gk Bk wr W' q → (W'.cell? ⟨lg, 4, none⟩ = some (.slice A l.b.length c) ∧ W'.frozen? ⟨lg, 4, none⟩ = false ∧ lg < W'.heap.size) ∧ Hid (LDeeds D' { l with b := X } G B w (W'.setCell ⟨lg, 4, none⟩ (.slice (some ⟨g8, 0, none⟩) q1 c2)) q lg A)) := fun W' hd => HK.out.done hd HAll.out.2.2 (by have := HMq.out; omega) (fun ad e => by injection e with e; rw [← e]; have := HG8.out; have := HLt.out; show g8 ≠ lg; omega) (fun ad e => by injection e with e; rw [← e]; exact HG8.out.1)
        go_wp2_with (go_at_call 63; (with_reducible refine (HFl.out _ HK.out.disk).mono ?_); rintro e w9 ⟨rfl, hd9⟩; obtain ⟨⟨k5, k6, k7⟩, hL5⟩ := HDn.out _ hd9.out)
        go_ret
        rw [HE.out]
        exact ⟨rfl, hL5.out⟩
       ·have f0 : decide (er ≠ 0) = true := decide_eq_true her
        have f1 : (er == 0) = false := by rw [beq_eq_false_iff_ne]; exact her
        have f2 : (er != 0) = true := by rw [bne_iff_ne]; exact her
        rw [if_pos her] at HE
        clear her
        go_wp2_with (go_at_call 63; (with_reducible refine (HFl.out _ HK.out.disk).mono ?_); rintro e w9 ⟨rfl, hd9⟩; obtain ⟨⟨k5, k6, k7⟩, hL5⟩ := HK.out.dead hd9.out)
        go_ret
        rw [HE.out]
        exact ⟨rfl, hL5.out⟩
    ·have hjp2 : j < pd := by have : j ≠ pd := fun e => hlt2 (hjp.2 e); omega
     have e0 : ((rm : Int) != 0) = true := by rw [bne_iff_ne]; omega
     have e1 : ((rm : Int) == 0) = false := by rw [beq_eq_false_iff_ne]; omega
     have e2 : (rm != 0) = true := by rw [bne_iff_ne]; exact hlt2
     have e3 : (rm == 0) = false := by rw [beq_eq_false_iff_ne]; exact hlt2
     have e4 : decide (rm = 0) = false := decide_eq_false hlt2
     have hz0 : RB (wr.alloc (.cells #[.int .u8 0] 5)) (wr.heap.size + 1) (some ⟨wr.heap.size, 0, none⟩) [0] := rb_new wr [0]
     have HZ0 := Lib.hid hz0
     clear hrm hjp hlt2 hz0
     obtain ⟨wp, hwp⟩ : ∃ wp : World, wp = wr := ⟨_, rfl⟩
     subst hwp
     go_wp2_with (at_builtin; refine append_rb (B := w3.heap.size) (w0 := w3) (k := q2 + 1) rfl (.tmp 75) (.tmp 76) rfl rfl (HJ.out.1.alloc _) (HJ.out.2.alloc HJ.out.2.size _) (Nat.le_refl _) rfl HZ0.out rfl (by omega) rfl ?_; intro A5 c5 w5 ho5 hb5)
     go_roundw
     case rel =>
      refine ⟨j + 1, q2 + 1, c5, A5, by omega, by have := HQ2.out; omega, rfl, by show _ = _; have := HQ2.out; omega, ?_, hb5⟩
      rw [List.replicate_succ', ← List.append_assoc]
      exact ho5
     case measure => have := HQ2.out; simp only [slLen]; omega
end
end Go.Proofs.YtghenhacndaelaaGreat
