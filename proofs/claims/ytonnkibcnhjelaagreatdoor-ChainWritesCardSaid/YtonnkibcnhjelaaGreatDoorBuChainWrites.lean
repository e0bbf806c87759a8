/- ChainWrites returns true for every list of texts and every list of deeds, and leaves memory that was there as it was; nothing else is assumed beyond the statement itself. -/
import Derived.Test.YtonnkibcnhjelaaGreatDoorBu41
import Derived.Test.YtonnkibcnhjelaaGreatDoorBu36
import Derived.Test.YtonnkibcnhjelaaGreatDoorTie
import Derived.Test.YtonnkibcnhjelaaGreatDoorCards
import Derived.Test.YtonnkibcnhjelaaGreatDoorBu33
import Derived.Test.YtonnkibcnhjelaaGreatDoorBu40
import Derived.Test.YtonnkibcnhjelaaGreatDoorBu37
import Derived.Test.YtonnkibcnhjelaaGreatDoorBu39
import Derived.Test.YtonnkibcnhjelaaGreatDoorBu24
import Derived.SevenTiedAt
import Derived.Deep.RegionWith
import Derived.Deep.CutRange
set_option linter.unusedVariables false
namespace Go.Proofs.YtonnkibcnhjelaaGreatDoor
open Go.ChangeShapes Go.WideShapes Go.ChangeAt Go.RowKit
theorem Tryz.partNe (a b c : Int) (w : World) : Sem.run Tryz.prog (binOp .neq 35 (.agg #[.int .i64 a, .int .i64 b, .int .i64 c]) (.agg #[.int .i64 a, .int .i64 b, .int .i64 c])) w = .ok (.bool false) w := by
  simp [go_sem]
theorem res_before1 {wc w5 : World} {F F' : Nat → Prop} (ht : Turns (wc.alloc (.cells #[.int .i64 0, .int .i64 0, .int .i64 0] 35)).drew w5 F F') (hn : ¬ F wc.heap.size) : ResP w5 wc.heap.size := ResP.of_blk (Blk.turns (show Blk (wc.alloc (.cells #[.int .i64 0, .int .i64 0, .int .i64 0] 35)).drew wc.heap.size _ _ from Blk.new wc _ _) ht hn)
theorem res_before2 {wc w5 : World} {F F' : Nat → Prop} (ht : Turns (wc.drew.alloc (.cells #[.int .i64 0, .int .i64 0, .int .i64 0] 35)) w5 F F') (hn : ¬ F wc.heap.size) : ResP w5 wc.heap.size := ResP.of_blk (Blk.turns (show Blk (wc.drew.alloc (.cells #[.int .i64 0, .int .i64 0, .int .i64 0] 35)) wc.heap.size _ _ from Blk.new wc.drew _ _) ht hn)
theorem Two.var10 {w0 w w' : World} {g q gp : Nat} {F G B : Nat → Prop} {d e : Dk} (h : Two [] w0 w g F d q G B e) (hg : w0.heap.size ≤ gp) (hF : ¬ F gp) (hG : ¬ G gp) (hB : ¬ B gp) (ht : Turns w w' (fun k => k = gp) (fun k => k = gp)) : Two [] w0 w' g F d q G B e :=
  ⟨⟨h.p.disk.turns ht (fun k hk e => hF (e ▸ hk)), h.p.below.trans (ht.below (fun k e => by rw [e]; exact hg) h.p.below.size), h.p.own⟩, h.r.turns ht (fun k hk e => hG (e ▸ hk)) (fun k hk e => hB (e ▸ hk)), h.go, h.fg, h.fb, fun x hx => by cases hx⟩
theorem blk_three {W : World} {gp : Nat} {v0 v1 v2 u0 u1 u2 : Value} (h : Blk W gp 35 #[v0, v1, v2]) : Blk (((W.setCell ⟨gp, 0, none⟩ u0).setCell ⟨gp, 1, none⟩ u1).setCell ⟨gp, 2, none⟩ u2) gp 35 #[u0, u1, u2] := by
  have := ((h.set_ 0 u0).set_ 1 u1).set_ 2 u2
  simpa using this
def VarP (w0 W : World) (gp : Nat) (F G B : Nat → Prop) (P : Pt) : Prop := Blk W gp 35 #[.int .i64 P.first, .int .i64 P.size, .int .i64 P.owner] ∧ w0.heap.size ≤ gp ∧ ¬ F gp ∧ ¬ G gp ∧ ¬ B gp
theorem var_late {w0 w5 : World} {g q : Nat} {F G B : Nat → Prop} {D d : Dk} (P : Pt) (h : Two [] w0 w5 g F D q G B d) : Two [] w0 (w5.alloc (.cells #[.int .i64 P.first, .int .i64 P.size, .int .i64 P.owner] 35)) g F D q G B d ∧ VarP w0 (w5.alloc (.cells #[.int .i64 P.first, .int .i64 P.size, .int .i64 P.owner] 35)) w5.heap.size F G B P :=
  ⟨h.more ((Below.refl _ _).alloc (Nat.le_refl _) _), Blk.new w5 _ _, h.p.below.size, fun hf => Nat.lt_irrefl _ (h.p.flt _ hf), fun hf => Nat.lt_irrefl _ (h.r.glt _ hf), fun hf => Nat.lt_irrefl _ (h.r.blt _ hf)⟩
theorem var_early {w0 wc W w5 : World} {g q : Nat} {F F5 G B : Nat → Prop} {D d d0 : Dk} (P : Pt) (h : Two [] w0 w5 g F5 D q G B d) (hc : Two [] w0 wc g F d0 q G B d) (ht : Turns W w5 F F5) (hW : W.heap.size = wc.heap.size + 1) (hb : Blk W wc.heap.size 35 #[.int .i64 0, .int .i64 0, .int .i64 0]) :
    Two [] w0 (((w5.setCell ⟨wc.heap.size, 0, none⟩ (.int .i64 P.first)).setCell ⟨wc.heap.size, 1, none⟩ (.int .i64 P.size)).setCell ⟨wc.heap.size, 2, none⟩ (.int .i64 P.owner)) g F5 D q G B d ∧ VarP w0 (((w5.setCell ⟨wc.heap.size, 0, none⟩ (.int .i64 P.first)).setCell ⟨wc.heap.size, 1, none⟩ (.int .i64 P.size)).setCell ⟨wc.heap.size, 2, none⟩ (.int .i64 P.owner)) wc.heap.size F5 G B P := by
  have nF : ¬ F wc.heap.size := fun hf => Nat.lt_irrefl _ (hc.p.flt _ hf)
  have nF5 : ¬ F5 wc.heap.size := fun hf => by
    rcases ht.foot _ hf with h1 | h1
    · exact nF h1
    · omega
  have nG : ¬ G wc.heap.size := fun hf => Nat.lt_irrefl _ (hc.r.glt _ hf)
  have nB : ¬ B wc.heap.size := fun hf => Nat.lt_irrefl _ (hc.r.blt _ hf)
  exact ⟨h.var10 hc.p.below.size nF5 nG nB (turns_three _ _ _ _ _), blk_three (hb.turns ht nF), hc.p.below.size, nF5, nG, nB⟩
theorem Two.ref10 {K : Kps} {w0 w w' : World} {g q : Nat} {F G B G' B' : Nat → Prop} {d e e' : Dk} (h : Two K w0 w g F d q G B e) (hr : RDisk w' q G' B' e') (ht : Turns w w' G G') (hb : ∀ k, B' k → B k ∨ w.heap.size ≤ k) : Two K w0 w' g F d q G' B' e' := by
  have hs := h.p.below.size
  refine ⟨⟨h.p.disk.turns ht (fun k hk hg => h.fg k hk hg), h.p.below.trans (ht.below h.go hs), h.p.own⟩, hr, fun k hk => ?_, fun k hk hg => ?_, fun k hk hg => ?_, fun x hx => ⟨(h.kp x hx).1.past ht (h.kp x hx).2.no, (h.kp x hx).2.turns ht⟩⟩
  · rcases ht.foot k hk with h1 | h1
    · exact h.go k h1
    · omega
  · rcases ht.foot k hg with h1 | h1
    · exact h.fg k hk h1
    · have := h.p.flt k hk; omega
  · rcases hb k hg with h1 | h1
    · exact h.fb k hk h1
    · have := h.p.flt k hk; omega
def VarPP (w0 W : World) (g q gp gq : Nat) (D : Dk) (P : Pt) : Prop := Did [] w0 g q D W ∧ Blk W gp 35 #[.int .i64 P.first, .int .i64 P.size, .int .i64 P.owner] ∧ Blk W gq 35 #[.int .i64 P.first, .int .i64 P.size, .int .i64 P.owner]
theorem ref_late {w0 W w6 : World} {g q gp : Nat} {F G B G' B' : Nat → Prop} {D : Dk} {P : Pt} (h : Two [] w0 w6 g F D q G' B' D) (hV : VarP w0 W gp F G B P) (ht : Turns W w6 G G') : VarPP w0 (w6.alloc (.cells #[.int .i64 P.first, .int .i64 P.size, .int .i64 P.owner] 35)) g q gp w6.heap.size D P := by
  have hb : Below w6.heap.size w6 (w6.alloc (.cells #[.int .i64 P.first, .int .i64 P.size, .int .i64 P.owner] 35)) := (Below.refl _ _).alloc (Nat.le_refl _) _
  have h1 := hV.1.turns ht hV.2.2.2.1
  exact ⟨⟨F, G', B', h.more hb⟩, Blk.below h1 hb h1.lt, Blk.new w6 _ _⟩
theorem ref_early {w0 wc W w6 : World} {g q gp : Nat} {F G B G' B' : Nat → Prop} {D d : Dk} {P : Pt} (h : Two [] w0 w6 g F D q G' B' D) (hc : Two [] w0 wc g F D q G B d) (hV : VarP w0 W gp F G B P) (hlt : gp < wc.heap.size) (ht : Turns W w6 G G') (hbb : ∀ k, B' k → B k ∨ W.heap.size ≤ k) (hW : W.heap.size = wc.heap.size + 1) (hb : Blk W wc.heap.size 35 #[.int .i64 0, .int .i64 0, .int .i64 0]) :
    VarPP w0 (((w6.setCell ⟨wc.heap.size, 0, none⟩ (.int .i64 P.first)).setCell ⟨wc.heap.size, 1, none⟩ (.int .i64 P.size)).setCell ⟨wc.heap.size, 2, none⟩ (.int .i64 P.owner)) g q gp wc.heap.size D P := by
  have nF : ¬ F wc.heap.size := fun hf => Nat.lt_irrefl _ (hc.p.flt _ hf)
  have nG : ¬ G wc.heap.size := fun hf => Nat.lt_irrefl _ (hc.r.glt _ hf)
  have nB : ¬ B wc.heap.size := fun hf => Nat.lt_irrefl _ (hc.r.blt _ hf)
  have nG' : ¬ G' wc.heap.size := fun hf => by
    rcases ht.foot _ hf with h1 | h1
    · exact nG h1
    · omega
  have nB' : ¬ B' wc.heap.size := fun hf => by
    rcases hbb _ hf with h1 | h1
    · exact nB h1
    · omega
  have h1 := hV.1.turns ht hV.2.2.2.1
  exact ⟨⟨F, G', B', h.var10 hc.p.below.size nF nG' nB' (turns_three _ _ _ _ _)⟩, h1.turns (turns_three _ _ _ _ _) (by omega), blk_three (hb.turns ht nG)⟩
theorem VarP.up {w0 W W' : World} {gp : Nat} {F G B : Nat → Prop} {P : Pt} (h : VarP w0 W gp F G B P) (hb : Below W.heap.size W W') : VarP w0 W' gp F G B P := ⟨Blk.below h.1 hb h.1.lt, h.2⟩
theorem did_below10 {w0 W : World} {g q : Nat} {d : Dk} (h : Did [] w0 g q d W) : Below w0.heap.size w0 W := by
  obtain ⟨F, G, B, h⟩ := h
  exact h.p.below
theorem var_late3 {w0 w5 : World} {g q : Nat} {F G B : Nat → Prop} {D d : Dk} (P : Pt) (h : Two [] w0 w5 g F D q G B d) :
    Two [] w0 ((((w5.alloc (.cells #[.int .i64 0, .int .i64 0, .int .i64 0] 35)).setCell ⟨w5.heap.size, 0, none⟩ (.int .i64 P.first)).setCell ⟨w5.heap.size, 1, none⟩ (.int .i64 P.size)).setCell ⟨w5.heap.size, 2, none⟩ (.int .i64 P.owner)) g F D q G B d ∧ VarP w0 ((((w5.alloc (.cells #[.int .i64 0, .int .i64 0, .int .i64 0] 35)).setCell ⟨w5.heap.size, 0, none⟩ (.int .i64 P.first)).setCell ⟨w5.heap.size, 1, none⟩ (.int .i64 P.size)).setCell ⟨w5.heap.size, 2, none⟩ (.int .i64 P.owner)) w5.heap.size F G B P := by
  have nF : ¬ F w5.heap.size := fun hf => Nat.lt_irrefl _ (h.p.flt _ hf)
  have nG : ¬ G w5.heap.size := fun hf => Nat.lt_irrefl _ (h.r.glt _ hf)
  have nB : ¬ B w5.heap.size := fun hf => Nat.lt_irrefl _ (h.r.blt _ hf)
  exact ⟨(h.more ((Below.refl _ _).alloc (Nat.le_refl _) _)).var10 h.p.below.size nF nG nB (turns_three _ _ _ _ _), blk_three (Blk.new w5 _ _), h.p.below.size, nF, nG, nB⟩
theorem ref_late3 {w0 W w6 : World} {g q gp : Nat} {F G B G' B' : Nat → Prop} {D : Dk} {P : Pt} (h : Two [] w0 w6 g F D q G' B' D) (hV : VarP w0 W gp F G B P) (ht : Turns W w6 G G') :
    VarPP w0 ((((w6.alloc (.cells #[.int .i64 0, .int .i64 0, .int .i64 0] 35)).setCell ⟨w6.heap.size, 0, none⟩ (.int .i64 P.first)).setCell ⟨w6.heap.size, 1, none⟩ (.int .i64 P.size)).setCell ⟨w6.heap.size, 2, none⟩ (.int .i64 P.owner)) g q gp w6.heap.size D P := by
  have hv := var_late3 P h
  have h1 := hV.1.turns ht hV.2.2.2.1
  have hb : Below w6.heap.size w6 (w6.alloc (.cells #[.int .i64 0, .int .i64 0, .int .i64 0] 35)) := (Below.refl _ _).alloc (Nat.le_refl _) _
  exact ⟨⟨F, G', B', hv.1⟩, (Blk.below h1 hb h1.lt).turns (turns_three _ _ _ _ _) (by have := h1.lt; omega), hv.2.1⟩
theorem tidx_run (b off n c i : Nat) {o : Oper} {a : Act} {w : World} (x y : Operand) (ho : o.op = .indexAddr 22 x y) (hx : a.eval x = .slice (some ⟨b, off, none⟩) n c) (hy : a.eval y = .int .i64 (i : Int)) (hi : i < n) :
    (execOp a.eval o).run Tryz.prog w = .ok (.value (.pointer (some ⟨b, off + i * 3, none⟩))) w := by
  have hu : (underlying 22).run Tryz.prog w = .ok (.slice 41) w := by kernel_rfl
  unfold execOp
  simp [ho, hx, hy, Instr.indexAt, asIntOf, hu, hi, add_at]
set_option maxRecDepth 100000 in
set_option maxHeartbeats 2000000 in
theorem cwrites_out (l : List Tx) (m : List Dd) (A M : Option Addr) (n k cA cM : Nat) (w : World) (hL : TL w w.heap.size A l) (hn : n = l.length) (hM : DL w w.heap.size M m) (hk : k = m.length) (h : fewT l = false ∨ (fewT l = true ∧ fewL m = false)) (hE : Er w) :
    Calls Tryz.prog 3 #[.slice A n cA, .slice M k cM] w fun e w' => e = .returned (.bool true) ∧ Below w.heap.size w w' := by
  have HT : Hid (∀ W, Below w.heap.size w W → Calls Tryz.prog 7 #[.slice A n cA] W fun e w' => e = .returned (.bool (fewT l)) ∧ Below W.heap.size W w') := fun W hb => fewT_any l A n cA hb hL hn
  have HF : Hid (∀ W, Below w.heap.size w W → Calls Tryz.prog 8 #[.slice M k cM] W fun e w' => e = .returned (.bool (fewL m)) ∧ Below W.heap.size W w') := fun W hb => few_any m M k cM hb hM hk
  have HAw : Hid (∀ W, Below w.heap.size w W → Calls Tryz.prog 9 #[] W fun e w' => e = .returned (.bool true) ∧ Below W.heap.size W w') := fun W hb => awake10_any W (hE.below hb)
  clear hE
  have HB : Hid (∀ W, Calls Tryz.prog 5 #[.int .i64 16] W fun e w' => ∃ g F, e = .returned (.tuple #[.pointer (some ⟨g, 0, none⟩), .int .i64 0]) ∧ GivesDisk (Dk.blank 16) W w' g F) := fun W => blank_any 16 W (by omega) (by omega)
  have HR : Hid (∀ W, Calls Tryz.prog 6 #[.int .i64 16] W fun e w' => ∃ g G B, e = .returned (.tuple #[.pointer (some ⟨g, 0, none⟩), .int .i64 0]) ∧ GivesRef (Dk.blank 16) W w' g G B) := fun W => rblank_any 16 W (by omega) (by omega)
  have n0 := fun w' => Tryz.notFalse w'
  have n1 := fun w' => Tryz.notTrue w'
  clear hL hn hM hk
  rcases h with h1 | ⟨h1, h2⟩
  · rw [h1] at HT
    go_enter Tryz.func3, Tryz.ntmps3
    go_wp2_with (first
      | (go_at_call 5; (with_reducible refine (HB.out _).mono ?_); rintro e w3 ⟨g, F0, rfl, hG⟩)
      | (go_at_call 6; (with_reducible refine (HR.out _).mono ?_); rintro e w4 ⟨q, G0, B0, rfl, hR⟩; have hT0 : Two [] w w4 g F0 (Dk.blank 16) q G0 B0 (Dk.blank 16) := Two.gives (Below.refl _ _) hG hR; have b4 := hT0.p.below)
      | (go_at_call 7; (with_reducible refine (HT.out _ b4).mono ?_); rintro e w5 ⟨rfl, hb5⟩; have b5 := chain6 b4 hb5)
      | (go_at_call 9; (with_reducible refine (HAw.out _ b5).mono ?_); rintro e w6 ⟨rfl, hb6⟩))
    go_ret
    exact ⟨rfl, chain6 b5 hb6⟩
  · rw [h1] at HT
    rw [h2] at HF
    go_enter Tryz.func3, Tryz.ntmps3
    go_wp2_with (first
      | (go_at_call 5; (with_reducible refine (HB.out _).mono ?_); rintro e w3 ⟨g, F0, rfl, hG⟩)
      | (go_at_call 6; (with_reducible refine (HR.out _).mono ?_); rintro e w4 ⟨q, G0, B0, rfl, hR⟩; have hT0 : Two [] w w4 g F0 (Dk.blank 16) q G0 B0 (Dk.blank 16) := Two.gives (Below.refl _ _) hG hR; have b4 := hT0.p.below)
      | (go_at_call 7; (with_reducible refine (HT.out _ b4).mono ?_); rintro e w5 ⟨rfl, hb5⟩; have b5 := chain6 b4 hb5)
      | (go_at_call 8; (with_reducible refine (HF.out _ b5).mono ?_); rintro e w6 ⟨rfl, hb6⟩; have b6 := chain6 b5 hb6)
      | (go_at_call 9; (with_reducible refine (HAw.out _ b6).mono ?_); rintro e w7 ⟨rfl, hb7⟩))
    go_ret
    exact ⟨rfl, chain6 b6 hb7⟩
set_option maxRecDepth 100000 in
set_option maxHeartbeats 8000000 in
theorem cwrites_in (l : List Tx) (m : List Dd) (A M : Option Addr) (n k cA cM : Nat) (w : World) (hL : TL w w.heap.size A l) (hn : n = l.length) (hM : DL w w.heap.size M m) (hk : k = m.length) (h1 : fewT l = true) (h2 : fewL m = true) (hE : Er w) :
    Calls Tryz.prog 3 #[.slice A n cA, .slice M k cM] w fun e w' => e = .returned (.bool true) ∧ Below w.heap.size w w' := by
  have HT : Hid (∀ W, Below w.heap.size w W → Calls Tryz.prog 7 #[.slice A n cA] W fun e w' => e = .returned (.bool true) ∧ Below W.heap.size W w') := fun W hb => by rw [← h1]; exact fewT_any l A n cA hb hL hn
  have HF : Hid (∀ W, Below w.heap.size w W → Calls Tryz.prog 8 #[.slice M k cM] W fun e w' => e = .returned (.bool true) ∧ Below W.heap.size W w') := fun W hb => by rw [← h2]; exact few_any m M k cM hb hM hk
  obtain ⟨t8, tall⟩ := fewT_all h1
  obtain ⟨m40, mall⟩ := fewL_all h2
  have HAw : Hid (∀ W, Below w.heap.size w W → Calls Tryz.prog 9 #[] W fun e w' => e = .returned (.bool true) ∧ Below W.heap.size W w') := fun W hb => awake10_any W (hE.below hb)
  clear hE
  have HB : Hid (∀ W, Calls Tryz.prog 5 #[.int .i64 16] W fun e w' => ∃ g F, e = .returned (.tuple #[.pointer (some ⟨g, 0, none⟩), .int .i64 0]) ∧ GivesDisk (Dk.blank 16) W w' g F) := fun W => blank_any 16 W (by omega) (by omega)
  have HR : Hid (∀ W, Calls Tryz.prog 6 #[.int .i64 16] W fun e w' => ∃ g G B, e = .returned (.tuple #[.pointer (some ⟨g, 0, none⟩), .int .i64 0]) ∧ GivesRef (Dk.blank 16) W w' g G B) := fun W => rblank_any 16 W (by omega) (by omega)
  have n0 := fun w' => Tryz.notFalse w'
  have n1 := fun w' => Tryz.notTrue w'
  have y0 := fun g w' => Tryz.rNotNil g w'
  have y1 := fun g w' => Tryz.dNotNil g w'
  have y2 := fun g w' => Tryz.dIsNil g w'
  have HL := Lib.hid hL
  have HM := Lib.hid hM
  have HN : Hid (n = l.length ∧ k = m.length ∧ (∀ i (hi : i < l.length), l[i].places.length ≤ 12 ∧ l[i].data.length ≤ 1500) ∧ ∀ i (hi : i < m.length), m[i].data.length ≤ 600) := ⟨hn, hk, tall, mall⟩
  have hn8 : n ≤ 8 := by omega
  have hk40 : k ≤ 40 := by omega
  clear hL hn hM hk h1 h2 t8 tall m40 mall
  go_enter Tryz.func3, Tryz.ntmps3
  go_wp2_with (first
    | (go_at_call 5; (with_reducible refine (HB.out _).mono ?_); rintro e w3 ⟨g, F0, rfl, hG⟩)
    | (go_at_call 6; (with_reducible refine (HR.out _).mono ?_); rintro e w4 ⟨q, G0, B0, rfl, hR⟩; have hT0 : Two [] w w4 g F0 (Dk.blank 16) q G0 B0 (Dk.blank 16) := Two.gives (Below.refl _ _) hG hR; have b4 := hT0.p.below)
    | (go_at_call 7; (with_reducible refine (HT.out _ b4).mono ?_); rintro e w5 ⟨rfl, hb5⟩; have b5 := chain6 b4 hb5; have hT1 := hT0.more hb5)
    | (go_at_call 8; (with_reducible refine (HF.out _ b5).mono ?_); rintro e w6 ⟨rfl, hb6⟩; have b6 := chain6 b5 hb6; have hT2 := hT1.more hb6))
  go_loopw [9, 10, 11, 12, 13] (fun x _ _ _ _ wr => ∃ i : Nat, i ≤ 40 ∧ x = .int .i64 (i : Int) ∧ ∃ d : Dk, Hid (d.load ≤ 30 * i ∧ Did [] w g q d wr)) (fun x _ _ _ _ _ => 41 - (intOf x).toNat)
  case atStart => exact ⟨0, by omega, rfl, Dk.blank 16, by rw [blank_load]; omega, F0, G0, B0, hT2⟩
  case round =>
    clear hT0 hT1 hT2 hG hR b4 b5 b6 hb5 hb6
    obtain ⟨i, hi, rfl, d, HD⟩ := hrel
    obtain ⟨bo, hbo⟩ : ∃ b : Bool, b = decide (i < n ∨ i < k) := ⟨_, rfl⟩
    have Hbo := Lib.hid hbo
    clear hbo
    go_upto_region 6 with (fail)
    go_cut [44] from 35 to 112 (fun s44 wx => s44 = .bool bo ∧ wx = wr)
    case first =>
      by_cases c1 : i < n
      · have d0 : decide ((i : Int) < (n : Int)) = true := decide_eq_true (by omega)
        have d1 : decide (i < n) = true := decide_eq_true c1
        go_wp2
        go_meet
        exact ⟨by rw [Hbo.out, decide_eq_true (show i < n ∨ i < k from .inl c1)], rfl⟩
      · have d0 : decide ((i : Int) < (n : Int)) = false := decide_eq_false (by omega)
        have d1 : decide (i < n) = false := decide_eq_false c1
        by_cases c2 : i < k
        · have e0 : decide ((i : Int) < (k : Int)) = true := decide_eq_true (by omega)
          have e1 : decide (i < k) = true := decide_eq_true c2
          go_wp2
          go_meet
          exact ⟨by rw [Hbo.out, decide_eq_true (show i < n ∨ i < k from .inr c2)], rfl⟩
        · have e0 : decide ((i : Int) < (k : Int)) = false := decide_eq_false (by omega)
          have e1 : decide (i < k) = false := decide_eq_false c2
          go_wp2
          go_meet
          exact ⟨by rw [Hbo.out, decide_eq_false (show ¬ (i < n ∨ i < k) by omega)], rfl⟩
    case rest =>
      obtain ⟨rfl, hw⟩ := hcut
      subst hw
      obtain ⟨hld, F, G, B, hT⟩ := HD.out
      rcases bo with _ | _
      · have HAl : Hid (Calls Tryz.prog 13 #[.pointer (some ⟨g, 0, none⟩), .pointer (some ⟨q, 0, none⟩)] wc fun e w' => e = .returned (.bool true) ∧ Two [] w w' g F d q G B d ∧ Below wc.heap.size wc w') := alike_any hT (by omega)
        go_wp2_with (first
          | (go_at_call 13; (with_reducible refine HAl.out.mono ?_); rintro e w7 ⟨rfl, hT7, hb7⟩)
          | (go_at_call 9; (with_reducible refine (HAw.out _ hT7.p.below).mono ?_); rintro e w8 ⟨rfl, hb8⟩))
        go_ret
        exact ⟨rfl, chain6 hT7.p.below hb8⟩
      · have HT0 := Lib.hid hT
        have Hld := Lib.hid hld
        clear hT hld
        go_upto_if 50 with (fail)
        go_cut [10, 11, 12, 13] from 35 to 112 (fun _ _ _ _ wx => ∃ d' : Dk, Hid (d'.load ≤ 30 * i + 24 ∧ Did [] w g q d' wx))
        case first =>
          by_cases c1 : i < n
          · have d0 : decide ((i : Int) < (n : Int)) = true := decide_eq_true (by omega)
            have d1 : decide (i < n) = true := decide_eq_true c1
            have hi2 : i < l.length := by have := HN.out.1; omega
            obtain ⟨b, off, rfl, hbb, hcc⟩ := HL.out (by omega)
            obtain ⟨pA, pc, dA, dc, hV, k0, k1, k2⟩ := hcc i hi2
            obtain ⟨ow, how⟩ : ∃ x, x = l[i].owner := ⟨_, rfl⟩
            obtain ⟨pl, hpl⟩ : ∃ x, x = l[i].places.length := ⟨_, rfl⟩
            obtain ⟨dl, hdl⟩ : ∃ x, x = l[i].data.length := ⟨_, rfl⟩
            obtain ⟨D, hD⟩ : ∃ x, x = (chWrite d l[i].owner l[i].places l[i].data).1 := ⟨_, rfl⟩
            obtain ⟨P, hP⟩ : ∃ x, x = (chWrite d l[i].owner l[i].places l[i].data).2.1 := ⟨_, rfl⟩
            obtain ⟨z, hz⟩ : ∃ x, x = (chWrite d l[i].owner l[i].places l[i].data).2.2 := ⟨_, rfl⟩
            have HW : Hid (∀ W, Below w.heap.size w W → W.cell? ⟨b, off + i * 3, none⟩ = some (.int .i64 ow) ∧ W.cell? ⟨b, off + i * 3 + 1, none⟩ = some (.slice pA pl pc) ∧ W.cell? ⟨b, off + i * 3 + 2, none⟩ = some (.slice dA dl dc)) := fun W hb => by
              rw [how, hpl, hdl]
              exact ⟨(hb.cell (p := ⟨b, off + i * 3, none⟩) hbb).trans k0, (hb.cell (p := ⟨b, off + i * 3 + 1, none⟩) hbb).trans k1, (hb.cell (p := ⟨b, off + i * 3 + 2, none⟩) hbb).trans k2⟩
            have hfew := HN.out.2.2.1 i hi2
            have HPw : Hid (∀ W, Two [] w W g F d q G B d → Calls Tryz.prog 10 #[.pointer (some ⟨g, 0, none⟩), .int .i64 ow, .slice pA pl pc, .slice dA dl dc] W fun e w' => e = .returned (.tuple #[.agg #[.int .i64 P.first, .int .i64 P.size, .int .i64 P.owner], .int .i64 z]) ∧ ∃ F', Two [] w w' g F' D q G B d ∧ Turns W w' F F') := fun W hW => by
              obtain ⟨m1, m2, _⟩ := hW.masks hV.ri
              have mr := rb_up7 hV.rb hW.p.below
              have := chwrite_any l[i].owner l[i].places l[i].data pl dl pA dA pc dc hW.p.disk (by have := Hld.out; omega) hpl hdl (by omega) (by omega) hV.oin hV.pin m1 (fun h => m2 (by omega)) (by rw [hpl]; exact hV.plen) mr (fun h => hW.p.old hV.rb (by omega)) (by rw [hdl]; exact hV.dlen)
              rw [← how] at this
              refine this.mono fun e w' hh => ?_
              obtain ⟨F', he, hp, ht⟩ := hh
              rw [how, ← hP, ← hz] at he
              rw [how, ← hD] at hp
              exact ⟨he, F', hW.prog hp ht, ht⟩
            have HRw : Hid (∀ W F', Two [] w W g F' D q G B d → Calls Tryz.prog 11 #[.pointer (some ⟨q, 0, none⟩), .int .i64 ow, .slice pA pl pc, .slice dA dl dc] W fun e w' => e = .returned (.tuple #[.agg #[.int .i64 P.first, .int .i64 P.size, .int .i64 P.owner], .int .i64 z]) ∧ ∃ G' B', Two [] w w' g F' D q G' B' D ∧ Turns W w' G G' ∧ ∀ k, B' k → B k ∨ W.heap.size ≤ k) := fun W F' hW => by
              obtain ⟨m1, _, m3⟩ := hW.masks hV.ri
              have mr := rb_up7 hV.rb hW.p.below
              have := rchwrite_any l[i].owner l[i].places l[i].data pl dl pA dA pc dc hW.r (by have := Hld.out; omega) hpl hdl (by omega) (by omega) m1 (fun h => m3 (by omega)) mr (fun h => fun ad e hg => by
                obtain ⟨ad', e', hb', _⟩ := hV.rb.2 (by omega)
                rw [e] at e'
                injection e' with e'
                subst e'
                have := hW.go _ hg
                omega) (by rw [hdl]; exact hV.dlen.1) hV.dlen.2
              rw [← how] at this
              refine this.mono fun e w' hh => ?_
              obtain ⟨he, hd⟩ := hh
              rw [how, ← hP, ← hz] at he
              rw [how, ← hD] at hd
              obtain ⟨G', B', hr', ht', hb'⟩ := hd
              exact ⟨he, G', B', hW.ref10 hr' ht' hb', ht', hb'⟩
            have HDl : Hid (D.load ≤ 30 * i + 24) := by
              have h9 := chWrite_load d l[i].owner l[i].places l[i].data
              rw [← hD] at h9
              have := Hld.out
              show D.load ≤ _
              omega
            obtain ⟨P1, P2, P3⟩ := P
            simp only at HPw HRw
            have ne := fun a b c w' => Tryz.partNe a b c w'
            have a35 := fun w' => Tryz.aggPart w'
            have s35 := fun w' => Tryz.sizePart w'
            clear hcc hV k0 k1 k2 how hpl hdl hD hP hz hbb hfew
            have hTa := HT0.out
            obtain ⟨u0, u1, u2⟩ := HW.out _ hTa.p.below
            obtain ⟨v0, v1, v2⟩ := HW.out _ (hTa.p.below.alloc hTa.p.below.size (.cells #[.int .i64 0, .int .i64 0, .int .i64 0] 35))
            have hyy := hTa.p.below.size
            have hnF : ¬ F wc.heap.size := fun hf => Nat.lt_irrefl _ (hTa.p.flt _ hf)
            go_upto_region 9 with (fail)
            go_cut [10, 11] from 35 to 112 (fun s10 s11 wx => ∃ gp, s10 = .pointer (some ⟨gp, 0, none⟩) ∧ s11 = .int .i64 z ∧ Hid (∃ F', Two [] w wx g F' D q G B d ∧ VarP w wx gp F' G B ⟨P1, P2, P3⟩))
            case first =>
              have hV0 : Below wc.heap.size wc wc.drew := (Below.refl _ _).drew
              have hS0 := HW.out _ ((hTa.more hV0).p.below)
              refine region_T (fun V => V.cell? ⟨b, off + i * 3, none⟩ = some (.int .i64 ow) ∧ V.cell? ⟨b, off + i * 3 + 1, none⟩ = some (.slice pA pl pc) ∧ V.cell? ⟨b, off + i * 3 + 2, none⟩ = some (.slice dA dl dc)) (fun k => decide (22 ≤ k)) (by kernel_rfl) ?_
              refine any_asT rfl (listed' := #[false, false, false, false, false, false, false, false, false, false, false, false, false, false, false, false, false, false, false, false, false, false, false]) (by kernel_rfl) ?_
              refine take_d (i := 0) (.pointer (some ⟨g, 0, none⟩)) 52 rfl (by kernel_rfl) (by kernel_rfl) (by kernel_rfl) (by kernel_rfl) rfl (by kernel_rfl) (by kernel_rfl) (fun V hV => by kernel_rfl) hS0 (fun _ _ _ h => h) ?_
              simp only [Act.put, List.setIfInBounds_toArray, List.set_cons_zero, List.set_cons_succ]
              refine take_d (i := 1) (.slice (some ⟨b, off, none⟩) n cA) 53 rfl (by kernel_rfl) (by kernel_rfl) (by kernel_rfl) (by kernel_rfl) rfl (by kernel_rfl) (by kernel_rfl) (fun V hV => by kernel_rfl) hS0 (fun _ _ _ h => h) ?_
              simp only [Act.put, List.setIfInBounds_toArray, List.set_cons_zero, List.set_cons_succ]
              refine take_d (i := 2) (.int .i64 (i : Int)) 54 rfl (by kernel_rfl) (by kernel_rfl) (by kernel_rfl) (by kernel_rfl) rfl (by kernel_rfl) (by kernel_rfl) (fun V hV => by kernel_rfl) hS0 (fun _ _ _ h => h) ?_
              simp only [Act.put, List.setIfInBounds_toArray, List.set_cons_zero, List.set_cons_succ]
              refine take_d (i := 3) (.pointer (some ⟨b, off + i * 3, none⟩)) 55 rfl (by kernel_rfl) (by kernel_rfl) (by kernel_rfl) (by kernel_rfl) rfl (by kernel_rfl) (by kernel_rfl) (fun V hV => tidx_run b off n cA i (.tmp 53) (.tmp 54) (by kernel_rfl) (by kernel_rfl) (by kernel_rfl) c1) hS0 (fun _ _ _ h => h) ?_
              simp only [Act.put, List.setIfInBounds_toArray, List.set_cons_zero, List.set_cons_succ]
              refine take_d (i := 4) (.pointer (some ⟨b, off + i * 3, none⟩)) 56 rfl (by kernel_rfl) (by kernel_rfl) (by kernel_rfl) (by kernel_rfl) rfl (by kernel_rfl) (by kernel_rfl) (fun V hV => by kernel_rfl) hS0 (fun _ _ _ h => h) ?_
              simp only [Act.put, List.setIfInBounds_toArray, List.set_cons_zero, List.set_cons_succ]
              refine take_d (i := 5) (.int .i64 ow) 57 rfl (by kernel_rfl) (by kernel_rfl) (by kernel_rfl) (by kernel_rfl) rfl (by kernel_rfl) (by kernel_rfl) (fun V hV => cell_run 3 (.tmp 56) ⟨b, off + i * 3, none⟩ (.int .i64 ow) _ (by kernel_rfl) (by kernel_rfl) hV.1 Tryz.underlying3 rfl (by kernel_rfl)) hS0 (fun _ _ _ h => h) ?_
              simp only [Act.put, List.setIfInBounds_toArray, List.set_cons_zero, List.set_cons_succ]
              refine take_d (i := 6) (.slice (some ⟨b, off, none⟩) n cA) 58 rfl (by kernel_rfl) (by kernel_rfl) (by kernel_rfl) (by kernel_rfl) rfl (by kernel_rfl) (by kernel_rfl) (fun V hV => by kernel_rfl) hS0 (fun _ _ _ h => h) ?_
              simp only [Act.put, List.setIfInBounds_toArray, List.set_cons_zero, List.set_cons_succ]
              refine take_d (i := 7) (.int .i64 (i : Int)) 59 rfl (by kernel_rfl) (by kernel_rfl) (by kernel_rfl) (by kernel_rfl) rfl (by kernel_rfl) (by kernel_rfl) (fun V hV => by kernel_rfl) hS0 (fun _ _ _ h => h) ?_
              simp only [Act.put, List.setIfInBounds_toArray, List.set_cons_zero, List.set_cons_succ]
              refine take_d (i := 8) (.pointer (some ⟨b, off + i * 3, none⟩)) 60 rfl (by kernel_rfl) (by kernel_rfl) (by kernel_rfl) (by kernel_rfl) rfl (by kernel_rfl) (by kernel_rfl) (fun V hV => tidx_run b off n cA i (.tmp 58) (.tmp 59) (by kernel_rfl) (by kernel_rfl) (by kernel_rfl) c1) hS0 (fun _ _ _ h => h) ?_
              simp only [Act.put, List.setIfInBounds_toArray, List.set_cons_zero, List.set_cons_succ]
              refine take_d (i := 9) (.pointer (some ⟨b, off + i * 3 + 1, none⟩)) 61 rfl (by kernel_rfl) (by kernel_rfl) (by kernel_rfl) (by kernel_rfl) rfl (by kernel_rfl) (by kernel_rfl) (fun V hV => by kernel_rfl) hS0 (fun _ _ _ h => h) ?_
              simp only [Act.put, List.setIfInBounds_toArray, List.set_cons_zero, List.set_cons_succ]
              refine take_d (i := 10) (.slice pA pl pc) 62 rfl (by kernel_rfl) (by kernel_rfl) (by kernel_rfl) (by kernel_rfl) rfl (by kernel_rfl) (by kernel_rfl) (fun V hV => cell_run 38 (.tmp 61) ⟨b, off + i * 3 + 1, none⟩ (.slice pA pl pc) _ (by kernel_rfl) (by kernel_rfl) hV.2.1 Tryz.underlying38 rfl (by kernel_rfl)) hS0 (fun _ _ _ h => h) ?_
              simp only [Act.put, List.setIfInBounds_toArray, List.set_cons_zero, List.set_cons_succ]
              refine take_d (i := 11) (.slice (some ⟨b, off, none⟩) n cA) 63 rfl (by kernel_rfl) (by kernel_rfl) (by kernel_rfl) (by kernel_rfl) rfl (by kernel_rfl) (by kernel_rfl) (fun V hV => by kernel_rfl) hS0 (fun _ _ _ h => h) ?_
              simp only [Act.put, List.setIfInBounds_toArray, List.set_cons_zero, List.set_cons_succ]
              refine take_d (i := 12) (.int .i64 (i : Int)) 64 rfl (by kernel_rfl) (by kernel_rfl) (by kernel_rfl) (by kernel_rfl) rfl (by kernel_rfl) (by kernel_rfl) (fun V hV => by kernel_rfl) hS0 (fun _ _ _ h => h) ?_
              simp only [Act.put, List.setIfInBounds_toArray, List.set_cons_zero, List.set_cons_succ]
              refine take_d (i := 13) (.pointer (some ⟨b, off + i * 3, none⟩)) 65 rfl (by kernel_rfl) (by kernel_rfl) (by kernel_rfl) (by kernel_rfl) rfl (by kernel_rfl) (by kernel_rfl) (fun V hV => tidx_run b off n cA i (.tmp 63) (.tmp 64) (by kernel_rfl) (by kernel_rfl) (by kernel_rfl) c1) hS0 (fun _ _ _ h => h) ?_
              simp only [Act.put, List.setIfInBounds_toArray, List.set_cons_zero, List.set_cons_succ]
              refine take_d (i := 14) (.pointer (some ⟨b, off + i * 3 + 2, none⟩)) 66 rfl (by kernel_rfl) (by kernel_rfl) (by kernel_rfl) (by kernel_rfl) rfl (by kernel_rfl) (by kernel_rfl) (fun V hV => by kernel_rfl) hS0 (fun _ _ _ h => h) ?_
              simp only [Act.put, List.setIfInBounds_toArray, List.set_cons_zero, List.set_cons_succ]
              refine take_d (i := 15) (.slice dA dl dc) 67 rfl (by kernel_rfl) (by kernel_rfl) (by kernel_rfl) (by kernel_rfl) rfl (by kernel_rfl) (by kernel_rfl) (fun V hV => cell_run 39 (.tmp 66) ⟨b, off + i * 3 + 2, none⟩ (.slice dA dl dc) _ (by kernel_rfl) (by kernel_rfl) hV.2.2 Tryz.underlying39 rfl (by kernel_rfl)) hS0 (fun _ _ _ h => h) ?_
              simp only [Act.put, List.setIfInBounds_toArray, List.set_cons_zero, List.set_cons_succ]
              refine any_twoT (i := 16) (j := 20) (by kernel_rfl) ?_ ?_
              · refine op_enter 10 #[.pointer (some ⟨g, 0, none⟩), .int .i64 ow, .slice pA pl pc, .slice dA dl dc] (some 68) rfl (by kernel_rfl) (by kernel_rfl) (by kernel_rfl) ((HPw.out _ (hTa.more hV0)).mono ?_)
                rintro e w5 ⟨rfl, F5, h5, ht5⟩
                have hS1 := HW.out _ h5.p.below
                refine ⟨_, rfl, hS1, ?_⟩
                simp only [Act.put, List.setIfInBounds_toArray, List.set_cons_zero, List.set_cons_succ]
                refine take_d (i := 17) (.tuple #[.agg #[.int .i64 P1, .int .i64 P2, .int .i64 P3], .int .i64 z]) 51 rfl (by kernel_rfl) (by kernel_rfl) (by kernel_rfl) (by kernel_rfl) rfl (by kernel_rfl) (by kernel_rfl) (fun V hV => by kernel_rfl) hS1 (fun _ _ _ h => h) ?_
                simp only [Act.put, List.setIfInBounds_toArray, List.set_cons_zero, List.set_cons_succ]
                refine take_d (i := 18) (.agg #[.int .i64 P1, .int .i64 P2, .int .i64 P3]) 69 rfl (by kernel_rfl) (by kernel_rfl) (by kernel_rfl) (by kernel_rfl) rfl (by kernel_rfl) (by kernel_rfl) (fun V hV => by kernel_rfl) hS1 (fun _ _ _ h => h) ?_
                simp only [Act.put, List.setIfInBounds_toArray, List.set_cons_zero, List.set_cons_succ]
                refine take_d (i := 19) (.int .i64 z) 70 rfl (by kernel_rfl) (by kernel_rfl) (by kernel_rfl) (by kernel_rfl) rfl (by kernel_rfl) (by kernel_rfl) (fun V hV => by kernel_rfl) hS1 (fun _ _ _ h => h) ?_
                simp only [Act.put, List.setIfInBounds_toArray, List.set_cons_zero, List.set_cons_succ]
                refine any_comes (i := 20) (by kernel_rfl) (op_value (.pointer (some ⟨w5.heap.size, 0, none⟩)) rfl (by kernel_rfl) (w' := w5.alloc (.cells #[.int .i64 0, .int .i64 0, .int .i64 0] 35)) (by kernel_rfl) rfl ⟨HW.out _ (h5.p.below.alloc h5.p.below.size _), ?_⟩)
                simp only [Act.put, List.setIfInBounds_toArray, List.set_cons_zero, List.set_cons_succ]
                have hL9 := var_late3 ⟨P1, P2, P3⟩ h5
                refine any_comes (i := 21) (by kernel_rfl) (op_store3 w5.heap.size P1 P2 P3 (.tmp 10) (.tmp 69) rfl (by kernel_rfl) (by kernel_rfl) rfl (by kernel_rfl) (by kernel_rfl) (Blk.new w5 _ _) ⟨HW.out _ hL9.1.p.below, ?_⟩)
                refine any_left (by kernel_rfl) ?_
                refine wpAny_tail 22 (by kernel_rfl) (by kernel_rfl) ?_
                go_wp2_with (fail)
                go_meet
                exact ⟨_, rfl, rfl, F5, var_late ⟨P1, P2, P3⟩ h5⟩
              · have hA0 : Below wc.heap.size wc (wc.drew.alloc (.cells #[.int .i64 0, .int .i64 0, .int .i64 0] 35)) := hV0.alloc hV0.size _
                refine op_value (.pointer (some ⟨wc.heap.size, 0, none⟩)) rfl (by kernel_rfl) (w' := World.alloc wc.drew (.cells #[.int .i64 0, .int .i64 0, .int .i64 0] 35)) (by kernel_rfl) rfl ⟨HW.out _ ((hTa.more hA0).p.below), ?_⟩
                simp only [Act.put, List.setIfInBounds_toArray, List.set_cons_zero, List.set_cons_succ]
                refine any_comes (i := 16) (by kernel_rfl) ?_
                refine op_enter 10 #[.pointer (some ⟨g, 0, none⟩), .int .i64 ow, .slice pA pl pc, .slice dA dl dc] (some 68) rfl (by kernel_rfl) (by kernel_rfl) (by kernel_rfl) ((HPw.out _ (hTa.more hA0)).mono ?_)
                rintro e w5 ⟨rfl, F5, h5, ht5⟩
                have hS1 := HW.out _ h5.p.below
                refine ⟨_, rfl, hS1, ?_⟩
                simp only [Act.put, List.setIfInBounds_toArray, List.set_cons_zero, List.set_cons_succ]
                refine take_d (i := 17) (.tuple #[.agg #[.int .i64 P1, .int .i64 P2, .int .i64 P3], .int .i64 z]) 51 rfl (by kernel_rfl) (by kernel_rfl) (by kernel_rfl) (by kernel_rfl) rfl (by kernel_rfl) (by kernel_rfl) (fun V hV => by kernel_rfl) hS1 (fun _ _ _ h => h) ?_
                simp only [Act.put, List.setIfInBounds_toArray, List.set_cons_zero, List.set_cons_succ]
                refine take_d (i := 18) (.agg #[.int .i64 P1, .int .i64 P2, .int .i64 P3]) 69 rfl (by kernel_rfl) (by kernel_rfl) (by kernel_rfl) (by kernel_rfl) rfl (by kernel_rfl) (by kernel_rfl) (fun V hV => by kernel_rfl) hS1 (fun _ _ _ h => h) ?_
                simp only [Act.put, List.setIfInBounds_toArray, List.set_cons_zero, List.set_cons_succ]
                refine take_d (i := 19) (.int .i64 z) 70 rfl (by kernel_rfl) (by kernel_rfl) (by kernel_rfl) (by kernel_rfl) rfl (by kernel_rfl) (by kernel_rfl) (fun V hV => by kernel_rfl) hS1 (fun _ _ _ h => h) ?_
                simp only [Act.put, List.setIfInBounds_toArray, List.set_cons_zero, List.set_cons_succ]
                have hL9 := var_early ⟨P1, P2, P3⟩ h5 hTa ht5 (by simp) (show Blk _ wc.heap.size _ _ from Blk.new wc.drew _ _)
                refine any_comes (i := 21) (by kernel_rfl) (op_store3 wc.heap.size P1 P2 P3 (.tmp 10) (.tmp 69) rfl (by kernel_rfl) (by kernel_rfl) rfl (by kernel_rfl) (by kernel_rfl) (Blk.turns (show Blk (World.alloc wc.drew (.cells #[.int .i64 0, .int .i64 0, .int .i64 0] 35)) wc.heap.size _ _ from Blk.new wc.drew _ _) ht5 hnF) ⟨HW.out _ hL9.1.p.below, ?_⟩)
                refine any_left (by kernel_rfl) ?_
                refine wpAny_tail 22 (by kernel_rfl) (by kernel_rfl) ?_
                go_wp2_with (fail)
                go_meet
                exact ⟨_, rfl, rfl, F5, hL9⟩
            case rest =>
              obtain ⟨gp, rfl, rfl, hQ⟩ := hcut
              obtain ⟨F1, hTb, hVp⟩ := hQ.out
              have HVp := Lib.hid hVp
              have hgl := hVp.1.lt
              clear hVp hQ hTa u0 u1 u2 v0 v1 v2 hyy hnF
              obtain ⟨wd, rfl⟩ : ∃ wd : World, wd = wc := ⟨_, rfl⟩
              obtain ⟨u0, u1, u2⟩ := HW.out _ hTb.p.below
              obtain ⟨v0, v1, v2⟩ := HW.out _ (hTb.p.below.alloc hTb.p.below.size (.cells #[.int .i64 0, .int .i64 0, .int .i64 0] 35))
              have hyy := hTb.p.below.size
              have hnG : ¬ G wd.heap.size := fun hf => Nat.lt_irrefl _ (hTb.r.glt _ hf)
              go_upto_region 10 with (fail)
              go_cut [12, 13] from 35 to 112 (fun s12 s13 wx => ∃ gq, s12 = .pointer (some ⟨gq, 0, none⟩) ∧ s13 = .int .i64 z ∧ Hid (VarPP w wx g q gp gq D ⟨P1, P2, P3⟩))
              case first =>
                have hV0 : Below wd.heap.size wd wd.drew := (Below.refl _ _).drew
                have hS0 := HW.out _ ((hTb.more hV0).p.below)
                refine region_T (fun V => V.cell? ⟨b, off + i * 3, none⟩ = some (.int .i64 ow) ∧ V.cell? ⟨b, off + i * 3 + 1, none⟩ = some (.slice pA pl pc) ∧ V.cell? ⟨b, off + i * 3 + 2, none⟩ = some (.slice dA dl dc)) (fun k => decide (22 ≤ k)) (by kernel_rfl) ?_
                refine any_asT rfl (listed' := #[false, false, false, false, false, false, false, false, false, false, false, false, false, false, false, false, false, false, false, false, false, false, false]) (by kernel_rfl) ?_
                refine take_d (i := 0) (.pointer (some ⟨q, 0, none⟩)) 72 rfl (by kernel_rfl) (by kernel_rfl) (by kernel_rfl) (by kernel_rfl) rfl (by kernel_rfl) (by kernel_rfl) (fun V hV => by kernel_rfl) hS0 (fun _ _ _ h => h) ?_
                simp only [Act.put, List.setIfInBounds_toArray, List.set_cons_zero, List.set_cons_succ]
                refine take_d (i := 1) (.slice (some ⟨b, off, none⟩) n cA) 73 rfl (by kernel_rfl) (by kernel_rfl) (by kernel_rfl) (by kernel_rfl) rfl (by kernel_rfl) (by kernel_rfl) (fun V hV => by kernel_rfl) hS0 (fun _ _ _ h => h) ?_
                simp only [Act.put, List.setIfInBounds_toArray, List.set_cons_zero, List.set_cons_succ]
                refine take_d (i := 2) (.int .i64 (i : Int)) 74 rfl (by kernel_rfl) (by kernel_rfl) (by kernel_rfl) (by kernel_rfl) rfl (by kernel_rfl) (by kernel_rfl) (fun V hV => by kernel_rfl) hS0 (fun _ _ _ h => h) ?_
                simp only [Act.put, List.setIfInBounds_toArray, List.set_cons_zero, List.set_cons_succ]
                refine take_d (i := 3) (.pointer (some ⟨b, off + i * 3, none⟩)) 75 rfl (by kernel_rfl) (by kernel_rfl) (by kernel_rfl) (by kernel_rfl) rfl (by kernel_rfl) (by kernel_rfl) (fun V hV => tidx_run b off n cA i (.tmp 73) (.tmp 74) (by kernel_rfl) (by kernel_rfl) (by kernel_rfl) c1) hS0 (fun _ _ _ h => h) ?_
                simp only [Act.put, List.setIfInBounds_toArray, List.set_cons_zero, List.set_cons_succ]
                refine take_d (i := 4) (.pointer (some ⟨b, off + i * 3, none⟩)) 76 rfl (by kernel_rfl) (by kernel_rfl) (by kernel_rfl) (by kernel_rfl) rfl (by kernel_rfl) (by kernel_rfl) (fun V hV => by kernel_rfl) hS0 (fun _ _ _ h => h) ?_
                simp only [Act.put, List.setIfInBounds_toArray, List.set_cons_zero, List.set_cons_succ]
                refine take_d (i := 5) (.int .i64 ow) 77 rfl (by kernel_rfl) (by kernel_rfl) (by kernel_rfl) (by kernel_rfl) rfl (by kernel_rfl) (by kernel_rfl) (fun V hV => cell_run 3 (.tmp 76) ⟨b, off + i * 3, none⟩ (.int .i64 ow) _ (by kernel_rfl) (by kernel_rfl) hV.1 Tryz.underlying3 rfl (by kernel_rfl)) hS0 (fun _ _ _ h => h) ?_
                simp only [Act.put, List.setIfInBounds_toArray, List.set_cons_zero, List.set_cons_succ]
                refine take_d (i := 6) (.slice (some ⟨b, off, none⟩) n cA) 78 rfl (by kernel_rfl) (by kernel_rfl) (by kernel_rfl) (by kernel_rfl) rfl (by kernel_rfl) (by kernel_rfl) (fun V hV => by kernel_rfl) hS0 (fun _ _ _ h => h) ?_
                simp only [Act.put, List.setIfInBounds_toArray, List.set_cons_zero, List.set_cons_succ]
                refine take_d (i := 7) (.int .i64 (i : Int)) 79 rfl (by kernel_rfl) (by kernel_rfl) (by kernel_rfl) (by kernel_rfl) rfl (by kernel_rfl) (by kernel_rfl) (fun V hV => by kernel_rfl) hS0 (fun _ _ _ h => h) ?_
                simp only [Act.put, List.setIfInBounds_toArray, List.set_cons_zero, List.set_cons_succ]
                refine take_d (i := 8) (.pointer (some ⟨b, off + i * 3, none⟩)) 80 rfl (by kernel_rfl) (by kernel_rfl) (by kernel_rfl) (by kernel_rfl) rfl (by kernel_rfl) (by kernel_rfl) (fun V hV => tidx_run b off n cA i (.tmp 78) (.tmp 79) (by kernel_rfl) (by kernel_rfl) (by kernel_rfl) c1) hS0 (fun _ _ _ h => h) ?_
                simp only [Act.put, List.setIfInBounds_toArray, List.set_cons_zero, List.set_cons_succ]
                refine take_d (i := 9) (.pointer (some ⟨b, off + i * 3 + 1, none⟩)) 81 rfl (by kernel_rfl) (by kernel_rfl) (by kernel_rfl) (by kernel_rfl) rfl (by kernel_rfl) (by kernel_rfl) (fun V hV => by kernel_rfl) hS0 (fun _ _ _ h => h) ?_
                simp only [Act.put, List.setIfInBounds_toArray, List.set_cons_zero, List.set_cons_succ]
                refine take_d (i := 10) (.slice pA pl pc) 82 rfl (by kernel_rfl) (by kernel_rfl) (by kernel_rfl) (by kernel_rfl) rfl (by kernel_rfl) (by kernel_rfl) (fun V hV => cell_run 38 (.tmp 81) ⟨b, off + i * 3 + 1, none⟩ (.slice pA pl pc) _ (by kernel_rfl) (by kernel_rfl) hV.2.1 Tryz.underlying38 rfl (by kernel_rfl)) hS0 (fun _ _ _ h => h) ?_
                simp only [Act.put, List.setIfInBounds_toArray, List.set_cons_zero, List.set_cons_succ]
                refine take_d (i := 11) (.slice (some ⟨b, off, none⟩) n cA) 83 rfl (by kernel_rfl) (by kernel_rfl) (by kernel_rfl) (by kernel_rfl) rfl (by kernel_rfl) (by kernel_rfl) (fun V hV => by kernel_rfl) hS0 (fun _ _ _ h => h) ?_
                simp only [Act.put, List.setIfInBounds_toArray, List.set_cons_zero, List.set_cons_succ]
                refine take_d (i := 12) (.int .i64 (i : Int)) 84 rfl (by kernel_rfl) (by kernel_rfl) (by kernel_rfl) (by kernel_rfl) rfl (by kernel_rfl) (by kernel_rfl) (fun V hV => by kernel_rfl) hS0 (fun _ _ _ h => h) ?_
                simp only [Act.put, List.setIfInBounds_toArray, List.set_cons_zero, List.set_cons_succ]
                refine take_d (i := 13) (.pointer (some ⟨b, off + i * 3, none⟩)) 85 rfl (by kernel_rfl) (by kernel_rfl) (by kernel_rfl) (by kernel_rfl) rfl (by kernel_rfl) (by kernel_rfl) (fun V hV => tidx_run b off n cA i (.tmp 83) (.tmp 84) (by kernel_rfl) (by kernel_rfl) (by kernel_rfl) c1) hS0 (fun _ _ _ h => h) ?_
                simp only [Act.put, List.setIfInBounds_toArray, List.set_cons_zero, List.set_cons_succ]
                refine take_d (i := 14) (.pointer (some ⟨b, off + i * 3 + 2, none⟩)) 86 rfl (by kernel_rfl) (by kernel_rfl) (by kernel_rfl) (by kernel_rfl) rfl (by kernel_rfl) (by kernel_rfl) (fun V hV => by kernel_rfl) hS0 (fun _ _ _ h => h) ?_
                simp only [Act.put, List.setIfInBounds_toArray, List.set_cons_zero, List.set_cons_succ]
                refine take_d (i := 15) (.slice dA dl dc) 87 rfl (by kernel_rfl) (by kernel_rfl) (by kernel_rfl) (by kernel_rfl) rfl (by kernel_rfl) (by kernel_rfl) (fun V hV => cell_run 39 (.tmp 86) ⟨b, off + i * 3 + 2, none⟩ (.slice dA dl dc) _ (by kernel_rfl) (by kernel_rfl) hV.2.2 Tryz.underlying39 rfl (by kernel_rfl)) hS0 (fun _ _ _ h => h) ?_
                simp only [Act.put, List.setIfInBounds_toArray, List.set_cons_zero, List.set_cons_succ]
                refine any_twoT (i := 16) (j := 20) (by kernel_rfl) ?_ ?_
                · refine op_enter 11 #[.pointer (some ⟨q, 0, none⟩), .int .i64 ow, .slice pA pl pc, .slice dA dl dc] (some 88) rfl (by kernel_rfl) (by kernel_rfl) (by kernel_rfl) ((HRw.out _ F1 (hTb.more hV0)).mono ?_)
                  rintro e w6 ⟨rfl, G6, B6, h6, ht6, hb6⟩
                  have hS1 := HW.out _ h6.p.below
                  refine ⟨_, rfl, hS1, ?_⟩
                  simp only [Act.put, List.setIfInBounds_toArray, List.set_cons_zero, List.set_cons_succ]
                  refine take_d (i := 17) (.tuple #[.agg #[.int .i64 P1, .int .i64 P2, .int .i64 P3], .int .i64 z]) 71 rfl (by kernel_rfl) (by kernel_rfl) (by kernel_rfl) (by kernel_rfl) rfl (by kernel_rfl) (by kernel_rfl) (fun V hV => by kernel_rfl) hS1 (fun _ _ _ h => h) ?_
                  simp only [Act.put, List.setIfInBounds_toArray, List.set_cons_zero, List.set_cons_succ]
                  refine take_d (i := 18) (.agg #[.int .i64 P1, .int .i64 P2, .int .i64 P3]) 89 rfl (by kernel_rfl) (by kernel_rfl) (by kernel_rfl) (by kernel_rfl) rfl (by kernel_rfl) (by kernel_rfl) (fun V hV => by kernel_rfl) hS1 (fun _ _ _ h => h) ?_
                  simp only [Act.put, List.setIfInBounds_toArray, List.set_cons_zero, List.set_cons_succ]
                  refine take_d (i := 19) (.int .i64 z) 90 rfl (by kernel_rfl) (by kernel_rfl) (by kernel_rfl) (by kernel_rfl) rfl (by kernel_rfl) (by kernel_rfl) (fun V hV => by kernel_rfl) hS1 (fun _ _ _ h => h) ?_
                  simp only [Act.put, List.setIfInBounds_toArray, List.set_cons_zero, List.set_cons_succ]
                  refine any_comes (i := 20) (by kernel_rfl) (op_value (.pointer (some ⟨w6.heap.size, 0, none⟩)) rfl (by kernel_rfl) (w' := w6.alloc (.cells #[.int .i64 0, .int .i64 0, .int .i64 0] 35)) (by kernel_rfl) rfl ⟨HW.out _ (h6.p.below.alloc h6.p.below.size _), ?_⟩)
                  simp only [Act.put, List.setIfInBounds_toArray, List.set_cons_zero, List.set_cons_succ]
                  have hL9 := ref_late3 h6 (HVp.out.up hV0) ht6
                  refine any_comes (i := 21) (by kernel_rfl) (op_store3 w6.heap.size P1 P2 P3 (.tmp 12) (.tmp 89) rfl (by kernel_rfl) (by kernel_rfl) rfl (by kernel_rfl) (by kernel_rfl) (Blk.new w6 _ _) ⟨HW.out _ (did_below10 hL9.1), ?_⟩)
                  refine any_left (by kernel_rfl) ?_
                  refine wpAny_tail 22 (by kernel_rfl) (by kernel_rfl) ?_
                  go_wp2_with (fail)
                  go_meet
                  exact ⟨_, rfl, rfl, ref_late h6 (HVp.out.up hV0) ht6⟩
                · have hA0 : Below wd.heap.size wd (wd.drew.alloc (.cells #[.int .i64 0, .int .i64 0, .int .i64 0] 35)) := hV0.alloc hV0.size _
                  refine op_value (.pointer (some ⟨wd.heap.size, 0, none⟩)) rfl (by kernel_rfl) (w' := World.alloc wd.drew (.cells #[.int .i64 0, .int .i64 0, .int .i64 0] 35)) (by kernel_rfl) rfl ⟨HW.out _ ((hTb.more hA0).p.below), ?_⟩
                  simp only [Act.put, List.setIfInBounds_toArray, List.set_cons_zero, List.set_cons_succ]
                  refine any_comes (i := 16) (by kernel_rfl) ?_
                  refine op_enter 11 #[.pointer (some ⟨q, 0, none⟩), .int .i64 ow, .slice pA pl pc, .slice dA dl dc] (some 88) rfl (by kernel_rfl) (by kernel_rfl) (by kernel_rfl) ((HRw.out _ F1 (hTb.more hA0)).mono ?_)
                  rintro e w6 ⟨rfl, G6, B6, h6, ht6, hb6⟩
                  have hS1 := HW.out _ h6.p.below
                  refine ⟨_, rfl, hS1, ?_⟩
                  simp only [Act.put, List.setIfInBounds_toArray, List.set_cons_zero, List.set_cons_succ]
                  refine take_d (i := 17) (.tuple #[.agg #[.int .i64 P1, .int .i64 P2, .int .i64 P3], .int .i64 z]) 71 rfl (by kernel_rfl) (by kernel_rfl) (by kernel_rfl) (by kernel_rfl) rfl (by kernel_rfl) (by kernel_rfl) (fun V hV => by kernel_rfl) hS1 (fun _ _ _ h => h) ?_
                  simp only [Act.put, List.setIfInBounds_toArray, List.set_cons_zero, List.set_cons_succ]
                  refine take_d (i := 18) (.agg #[.int .i64 P1, .int .i64 P2, .int .i64 P3]) 89 rfl (by kernel_rfl) (by kernel_rfl) (by kernel_rfl) (by kernel_rfl) rfl (by kernel_rfl) (by kernel_rfl) (fun V hV => by kernel_rfl) hS1 (fun _ _ _ h => h) ?_
                  simp only [Act.put, List.setIfInBounds_toArray, List.set_cons_zero, List.set_cons_succ]
                  refine take_d (i := 19) (.int .i64 z) 90 rfl (by kernel_rfl) (by kernel_rfl) (by kernel_rfl) (by kernel_rfl) rfl (by kernel_rfl) (by kernel_rfl) (fun V hV => by kernel_rfl) hS1 (fun _ _ _ h => h) ?_
                  simp only [Act.put, List.setIfInBounds_toArray, List.set_cons_zero, List.set_cons_succ]
                  have hL9 := ref_early h6 hTb (HVp.out.up hA0) hgl ht6 hb6 (by simp) (show Blk _ wd.heap.size _ _ from Blk.new wd.drew _ _)
                  refine any_comes (i := 21) (by kernel_rfl) (op_store3 wd.heap.size P1 P2 P3 (.tmp 12) (.tmp 89) rfl (by kernel_rfl) (by kernel_rfl) rfl (by kernel_rfl) (by kernel_rfl) (Blk.turns (show Blk (World.alloc wd.drew (.cells #[.int .i64 0, .int .i64 0, .int .i64 0] 35)) wd.heap.size _ _ from Blk.new wd.drew _ _) ht6 hnG) ⟨HW.out _ (did_below10 hL9.1), ?_⟩)
                  refine any_left (by kernel_rfl) ?_
                  refine wpAny_tail 22 (by kernel_rfl) (by kernel_rfl) ?_
                  go_wp2_with (fail)
                  go_meet
                  exact ⟨_, rfl, rfl, hL9⟩
              case rest =>
                obtain ⟨gq, rfl, rfl, hQ2⟩ := hcut
                have bp := hQ2.out.2.1
                have bq := hQ2.out.2.2
                have e0 : wc.cell? ⟨gp, 0, none⟩ = some (.int .i64 P1) := by rw [bp.cell]; rfl
                have e1 : wc.cell? ⟨gp, 1, none⟩ = some (.int .i64 P2) := by rw [bp.cell]; rfl
                have e2 : wc.cell? ⟨gp, 2, none⟩ = some (.int .i64 P3) := by rw [bp.cell]; rfl
                have f0 : wc.cell? ⟨gq, 0, none⟩ = some (.int .i64 P1) := by rw [bq.cell]; rfl
                have f1 : wc.cell? ⟨gq, 1, none⟩ = some (.int .i64 P2) := by rw [bq.cell]; rfl
                have f2 : wc.cell? ⟨gq, 2, none⟩ = some (.int .i64 P3) := by rw [bq.cell]; rfl
                have zz : (z != z) = false := by simp
                clear bp bq
                go_wp2_with (fail)
                go_meet
                exact ⟨D, HDl.out, hQ2.out.1⟩
          · have d0 : decide ((i : Int) < (n : Int)) = false := decide_eq_false (by omega)
            have d1 : decide (i < n) = false := decide_eq_false c1
            go_wp2
            go_meet
            exact ⟨d, by have := Hld.out; omega, F, G, B, HT0.out⟩
        case rest =>
          obtain ⟨d', HD'⟩ := hcut
          obtain ⟨hld', F', G', B', hT'⟩ := HD'.out
          have HLd := Lib.hid hld'
          clear hld'
          by_cases c2 : i < k
          · have e0 : decide ((i : Int) < (k : Int)) = true := decide_eq_true (by omega)
            have e1 : decide (i < k) = true := decide_eq_true c2
            have hi2 : i < m.length := by have := HN.out.2.1; omega
            obtain ⟨b, off, rfl, hbb, hcc⟩ := HM.out (by omega)
            obtain ⟨dA, dc, mA, mc, hV, k0, k1, k2, k3, k4⟩ := hcc i hi2
            obtain ⟨kd, hkd⟩ : ∃ x, x = m[i].kind := ⟨_, rfl⟩
            obtain ⟨nn, hnn⟩ : ∃ x, x = m[i].n := ⟨_, rfl⟩
            obtain ⟨dl, hdl⟩ : ∃ x, x = m[i].data.length := ⟨_, rfl⟩
            obtain ⟨od, hod⟩ : ∃ x, x = m[i].odd := ⟨_, rfl⟩
            obtain ⟨ml, hml⟩ : ∃ x, x = m[i].masks.length := ⟨_, rfl⟩
            obtain ⟨d2, hd2⟩ : ∃ x, x = stepD d' m[i] := ⟨_, rfl⟩
            have HDo : Hid (∀ W, Two [] w W g F' d' q G' B' d' → Calls Tryz.prog 12 #[.pointer (some ⟨g, 0, none⟩), .pointer (some ⟨q, 0, none⟩), .agg #[.int .i64 kd, .int .i64 nn, .slice dA dl dc, .bool od, .slice mA ml mc]] W fun e w' => e = .returned (.bool true) ∧ Did [] w g q d2 w') := fun W hW => by
              rw [hkd, hnn, hdl, hod, hml, hd2]
              exact do_any hW (by have := HLd.out; omega) m[i] dA mA dc mc hV (by have := HN.out.2.2.2 i hi2; omega)
            have HS : Hid (∀ W, Below w.heap.size w W → W.cell? ⟨b, off + i * 5, none⟩ = some (.int .i64 kd) ∧ W.cell? ⟨b, off + i * 5 + 1, none⟩ = some (.int .i64 nn) ∧ W.cell? ⟨b, off + i * 5 + 2, none⟩ = some (.slice dA dl dc) ∧ W.cell? ⟨b, off + i * 5 + 3, none⟩ = some (.bool od) ∧ W.cell? ⟨b, off + i * 5 + 4, none⟩ = some (.slice mA ml mc)) := fun W hb => by
              rw [hkd, hnn, hdl, hod, hml]
              exact ⟨(hb.cell (p := ⟨b, off + i * 5, none⟩) hbb).trans k0, (hb.cell (p := ⟨b, off + i * 5 + 1, none⟩) hbb).trans k1, (hb.cell (p := ⟨b, off + i * 5 + 2, none⟩) hbb).trans k2, (hb.cell (p := ⟨b, off + i * 5 + 3, none⟩) hbb).trans k3, (hb.cell (p := ⟨b, off + i * 5 + 4, none⟩) hbb).trans k4⟩
            have HL2 : Hid (d2.load ≤ 30 * (i + 1)) := by
              show d2.load ≤ _
              rw [hd2]
              have := step_load d' m[i]
              have := HLd.out
              omega
            have a36 := fun w' => Tryz.agg36 w'
            have s36 := fun w' => Tryz.size36 w'
            have hb' := hT'.p.below
            obtain ⟨v0, v1, v2, v3, v4⟩ := HS.out _ hb'
            clear hcc k0 k1 k2 k3 k4 hV hkd hnn hdl hod hml hbb hd2
            go_wp2_with (go_at_call 12; (with_reducible refine (HDo.out _ hT').mono ?_); rintro e w1 ⟨rfl, hd⟩)
            go_roundw
            case rel => exact ⟨i + 1, by omega, by go_num, d2, HL2.out, hd⟩
            case measure => simp [intOf]; omega
          · have e0 : decide ((i : Int) < (k : Int)) = false := decide_eq_false (by omega)
            have e1 : decide (i < k) = false := decide_eq_false c2
            have hx : i < n ∨ i < k := by
              apply Classical.byContradiction
              intro hh
              have := Hbo.out
              rw [decide_eq_false hh] at this
              cases this
            go_wp2
            go_roundw
            case rel => exact ⟨i + 1, by omega, by go_num, d', ⟨by have := HLd.out; omega, F', G', B', hT'⟩⟩
            case measure => simp [intOf]; omega
theorem cwrites_any (l : List Tx) (m : List Dd) (A M : Option Addr) (cA cM : Nat) (w : World) (hL : TL w w.heap.size A l) (hM : DL w w.heap.size M m) (hE : Er w) :
    Calls Tryz.prog 3 #[.slice A l.length cA, .slice M m.length cM] w fun e w' => e = .returned (.bool true) ∧ Below w.heap.size w w' := by
  cases h1 : fewT l with
  | false => exact cwrites_out l m A M _ _ cA cM w hL rfl hM rfl (.inl h1) hE
  | true =>
    cases h2 : fewL m with
    | false => exact cwrites_out l m A M _ _ cA cM w hL rfl hM rfl (.inr ⟨h1, h2⟩) hE
    | true => exact cwrites_in l m A M _ _ cA cM w hL rfl hM rfl h1 h2 hE
theorem Tryz.cellsText : Tryz.prog.cellsOf 41 = 3 := by kernel_rfl
theorem Tryz.cellsInts : Tryz.prog.cellsOf 38 = 1 := by kernel_rfl
set_option maxRecDepth 100000 in
theorem open_tl {H : Type} {enc : TypeId × Value → H} {W : World} {base : Nat} {v : Value} {d : DataW H} {ps : List MemPlace} (hv : Value.okWide Tryz.prog W .any base 22 v) (h : DataW.Trod enc Tryz.prog W 0 (fun _ => true) true 22 v d ps) :
    ∃ (A : Option Addr) (D : List Tx) (c : Nat), v = .slice A D.length c ∧ TL W W.heap.size A D ∧ D.length ≤ c ∧ c ≤ 9223372036854775807 := by
  obtain ⟨a0, len, cap, rfl⟩ := okWide_slice Tryz.underlying22 hv
  obtain ⟨fuel, hf⟩ := h
  exact open_textl (fuel := fuel) Tryz.underlying22 Tryz.underlying41 Tryz.cellsText rfl rfl rfl Tryz.cells3 Tryz.cellsInts Tryz.cells33 Tryz.underlying3 Tryz.underlying38 Tryz.underlying39 Tryz.underlying5 Tryz.cells5 Tryz.underlying3 Tryz.cells3 (by simpa [Value.cells] using hf)
set_option maxRecDepth 100000 in
theorem cwrites_lifted (os : Os) (started : os.Started) (H : Type) (enc : TypeId × Value → H) :
    ReturnsInHanded {} Tryz.checked os 3 .any (fun w args => (Rows.chainWritesSpec.pre enc Tryz.prog Tryz.f3 [] false w args ∧ laidMetH Tryz.prog laidR w) ∧ sizedMet enc Tryz.prog Tryz.f3 (OpenSpec.ofChange Rows.chainWritesSpec) false w args) (Rows.chainWritesSpec.post enc Tryz.prog Tryz.f3 false true false false) := by
  refine returnsInHanded_of_change_and (C := Tryz.checked) (X := fun w _ => laidMetH Tryz.prog laidR w) (fun _ _ _ hh h => h.of_heap hh) Tryz.own started (by kernel_rfl) Tryz.func3
    (ChangeSpec.witness_shaped (enc := enc) (C := Tryz.checked) (os := os) (X := fun w _ => laidMetH Tryz.prog laidR w) false (World.doorLaid Tryz.prog 400 os) #[.slice none 0 0, .slice none 0 0] 8 rfl (World.shaped_of_RefB (by kernel_rfl) (by kernel_rfl)) (by kernel_rfl) (by kernel_rfl) (by kernel_rfl) (doorR_met os _)) ?_
  intro W base args ds gs before hval0 hW hcnd hsz0 hLd _
  have hval : ∀ (j : Nat) t v, Tryz.f3.params[j]? = some t → args[j]? = some v → Value.okWide Tryz.prog W .any base t v := hval0
  have hW' : DataW.Whole enc Tryz.prog Tryz.f3.params.toList Rows.chainWritesSpec.vars false W args.toList ds gs before := hW
  have hWk := hW'
  clear hsz0 hval0
  obtain ⟨p, q, hA, hV, rfl, hfz, hnd⟩ := hW'
  rw [Tryz.params3] at hA hval
  obtain ⟨v0, v1, d0, d1, p0, p1, rfl, rfl, rfl, h0, h1⟩ := trodAll_two hA
  obtain ⟨rfl, rfl⟩ := trodVars_none hV
  obtain ⟨A, D, c, rfl, hD, _, _⟩ := open_tl (hval 0 22 v0 rfl rfl) h0
  obtain ⟨M, E, cM, rfl, hE, _, _⟩ := open_dl (hval 1 23 v1 rfl rfl) h1
  refine (cwrites_any D E A M c cM W hD hE (er_of_laid hLd)).mono fun e W' ⟨he, hb⟩ => ⟨_, he, ?_⟩
  exact law_post Tryz.laidOut hWk rfl rfl rfl rfl rfl Tryz.underlying4 (by kernel_rfl) hb
theorem cwrites_said : Rows.ChainWritesSaid :=
  OpenClaim.holds_of_wide 3 Tryz.f3 rfl rfl rfl rfl rfl rfl rfl ⟨rfl, rfl, rfl, rfl, rfl⟩ rfl rfl rfl rfl rfl (by kernel_rfl) Tryz.func3 (by kernel_rfl)
    (of_decide_eq_true (by kernel_rfl)) (by unfold Func.isWrapper; first | (rw [if_pos (by decide +kernel)]; kernel_rfl) | (rw [if_neg (by decide +kernel)]; exact ⟨rfl, rfl⟩))
    (fun os started H enc _ => cwrites_lifted os started H enc)
theorem cwrites_holds : Rows.ChainWritesCardSaid :=
  Claim7.holds_tied_plain_at .later [] [.handle, .sentinel] true Rows.chainWritesCard.stood.harness true
    cwrites_said (fun _ h => by cases h) (by kernel_rfl) (fun _ h => by cases h) chainWrites_row_tie rfl ⟨rfl, rfl⟩ (by kernel_rfl) rfl
    (fun f fn hf hfn => by
      obtain rfl : f = 3 := Option.some.inj ((show Tryz.prog.funcNamed "chantry/chantrylaw10.ChainWrites" = some 3 by kernel_rfl).symm.trans hf) |>.symm
      obtain rfl : fn = Tryz.f3 := (Option.some.inj (Tryz.func3.symm.trans hfn)).symm
      exact ⟨by kernel_rfl, fun j t ht => by
        rw [Tryz.params3] at ht
        have hm : t ∈ [22, 23] := by simpa using Array.mem_of_getElem? ht
        have hall : ([22, 23].all fun u => !Tryz.prog.wantsStandIn u) = true := by kernel_rfl
        exact (show Tryz.prog.wantsStandIn t = false by simpa using List.all_eq_true.1 hall t hm)⟩)
    (by kernel_rfl)
end Go.Proofs.YtonnkibcnhjelaaGreatDoor
