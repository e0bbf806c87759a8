/- WalDoes returns true for every list of deeds, and leaves memory that was there as it was; nothing else is assumed beyond the statement itself. -/
import Derived.Test.YtghenhacndaelaaGreatBs35
import Derived.Test.YtghenhacndaelaaGreatBs34
import Derived.Test.YtghenhacndaelaaGreatBs31
import Derived.Test.YtghenhacndaelaaGreatBs23
import Derived.Test.YtghenhacndaelaaGreatBs25
import Derived.Test.YtghenhacndaelaaGreatBu12
import Derived.Test.YtghenhacndaelaaGreatBu03
import Derived.Deep.RegionWith
set_option linter.unusedSimpArgs false
set_option linter.unusedVariables false
set_option maxRecDepth 100000
set_option maxHeartbeats 16000000
namespace Go.Proofs.YtghenhacndaelaaGreat
open Go.ChangeShapes Go.WideShapes Go.ChangeAt Go.RowKit
open Wal
theorem fewW_all {l : List Wx} (h : fewW l = true) : l.length ≤ 20 ∧ ∀ i (hi : i < l.length), l[i].data.length ≤ 700 := by
 unfold fewW at h
 simp only [Bool.and_eq_true, decide_eq_true_eq, List.all_eq_true] at h
 exact ⟨h.1, fun i hi => h.2 _ (List.getElem_mem hi)⟩
theorem Tryz.agg36w (w : World) : (isAgg 36).run Tryz.prog w = .ok true w := by kernel_rfl
theorem Tryz.size36w (w : World) : (sizeOf 36).run Tryz.prog w = .ok 4 w := by kernel_rfl
theorem Tryz.worldBuild (g q : Nat) (w : World) : Sem.run Tryz.prog (Instr.build 36 #[(0, .pointer (some ⟨g, 0, none⟩)), (2, .pointer (some ⟨q, 0, none⟩))]) w = .ok (.agg #[.pointer (some ⟨g, 0, none⟩), .pointer none, .pointer (some ⟨q, 0, none⟩), .pointer none]) w := by kernel_rfl
theorem Bo.made {w0 w : World} {g q : Nat} {F G B : Nat → Prop} {d : Dk} (h : Two [] w0 w g F d q G B d) (hB : ∀ k, B k → k < w.heap.size) : Bo w0 (w.alloc (.cells #[.pointer (some ⟨g, 0, none⟩), .pointer none, .pointer (some ⟨q, 0, none⟩), .pointer none] 36)) w.heap.size g q F (fun _ => False) G B d d none none :=
 ⟨h.more ((Below.refl _ _).alloc (Nat.le_refl _) _), ⟨h.p.below.size, by simp⟩, ⟨fun hk => by have := h.p.flt _ hk; omega, fun hk => hk, fun hk => by have := h.r.glt _ hk; omega, fun hk => by have := hB _ hk; omega⟩, fun k hk => hk.elim, (fun x hx => nomatch hx), (fun x hx => nomatch hx)⟩
theorem wdoes_out (l : List Wx) (A : Option Addr) (n c : Nat) (w : World) (hD : DL13 w w.heap.size A l) (hn : n = l.length) (h : fewW l = false) :
  Calls Tryz.prog 3 #[.slice A n c] w fun e w' => e = .returned (.bool true) ∧ Below w.heap.size w w' := by
 have HF : Hid (Calls Tryz.prog 5 #[.slice A n c] w fun e w' => e = .returned (.bool (fewW l)) ∧ Below w.heap.size w w') := few13_any l A n c (Below.refl _ _) hD hn
 rw [h] at HF
 have HAw := Lib.hid awake13_any
 have n0 := fun w' => Tryz.notFalse w'
 have n1 := fun w' => Tryz.notTrue w'
 clear hD hn h
 go_enter Tryz.func3, Tryz.ntmps3
 go_wp2_with (first
  | (go_at_call 5; (with_reducible refine HF.out.mono ?_); rintro e w2 ⟨rfl, hb2⟩)
  | (go_at_call 6; (with_reducible refine (HAw.out _).mono ?_); rintro e w3 ⟨rfl, hb3⟩))
 go_ret
 exact ⟨rfl, chain7 hb2 hb3⟩
def LoopW (w W : World) (gw g q i : Nat) : Prop := ∃ d lo, LW w W gw g q d lo ∧ d.load ≤ 1000 + 1400 * i ∧ d.safe.length = 16
theorem wdoes_in (l : List Wx) (A : Option Addr) (n c : Nat) (w : World) (hD : DL13 w w.heap.size A l) (hn : n = l.length) (hf : fewW l = true) :
  Calls Tryz.prog 3 #[.slice A n c] w fun e w' => e = .returned (.bool true) ∧ Below w.heap.size w w' := by
 have HF : Hid (Calls Tryz.prog 5 #[.slice A n c] w fun e w' => e = .returned (.bool (fewW l)) ∧ Below w.heap.size w w') := few13_any l A n c (Below.refl _ _) hD hn
 obtain ⟨h20, h700⟩ := fewW_all hf
 have HAw := Lib.hid awake13_any
 have HB : Hid (∀ W, Calls Tryz.prog 7 #[.int .i64 16] W fun e w' => ∃ g F, e = .returned (.tuple #[.pointer (some ⟨g, 0, none⟩), .int .i64 0]) ∧ GivesDisk (Dk.blank 16) W w' g F) := fun W => blank_any 16 W (by omega) (by omega)
 have HR : Hid (∀ W, Calls Tryz.prog 8 #[.int .i64 16] W fun e w' => ∃ g G B, e = .returned (.tuple #[.pointer (some ⟨g, 0, none⟩), .int .i64 0]) ∧ GivesRef (Dk.blank 16) W w' g G B) := fun W => rblank_any 16 W (by omega) (by omega)
 have HOp : Hid (∀ W gw g q F E G B, Bo w W gw g q F E G B (Dk.blank 16) (Dk.blank 16) none none → Blk W gw 36 (worldC g q none none) → Calls Tryz.prog 9 #[.pointer (some ⟨gw, 0, none⟩), .int .i64 2, .int .i64 3, .int .i64 1, .int .i64 1] W fun e w' => e = .returned (.bool true) ∧ Hid (LoopW w w' gw g q 0)) := fun W gw g q F E G B hB hK => by
  have hi : ∀ z : Int, 0 ≤ z → z ≤ 100 → InI z := fun z h1 h2 => by unfold InI; omega
  have hs : (Dk.blank 16).safe.length = 16 := rfl
  have h5 := lopen_any hB hK 2 3 1 1 ⟨⟨hi 2 (by omega) (by omega), hi 3 (by omega) (by omega)⟩, hi 1 (by omega) (by omega), hi 1 (by omega) (by omega)⟩ (by rw [blank_load]; omega) (by omega)
  have h6 := (keep_open hB.two.r.good.fit 2 3 1 1 (by omega)).1
  refine h5.mono fun e w' hh => ⟨hh.1, _, _, hh.2, ?_, ?_⟩
  ·have := h6.2; rw [blank_load] at this; omega
  ·rw [h6.1]; rfl
 have HAl : Hid (∀ W gw g q i, i ≤ 20 → LoopW w W gw g q i → Calls Tryz.prog 10 #[.pointer (some ⟨gw, 0, none⟩)] W fun e w' => e = .returned (.bool true) ∧ Hid (LoopW w w' gw g q i)) := fun W gw g q i hi hL => by
  obtain ⟨d, lo, h1, h2, h3⟩ := hL
  exact (lalike_any h1 (by omega) (by omega)).mono fun e w' hh => ⟨hh.1, d, lo, hh.2, h2, h3⟩
 have n0 := fun w' => Tryz.notFalse w'
 have n1 := fun w' => Tryz.notTrue w'
 have a36 := fun w' => Tryz.agg36w w'
 have s36 := fun w' => Tryz.size36w w'
 have a42 := fun w' => Tryz.deed13Agg w'
 have s42 := fun w' => Tryz.deed13Size w'
 have m36 := fun g q w' => Tryz.worldBuild g q w'
 rw [hf] at HF
 have HD := Lib.hid hD
 have Hn := Lib.hid hn
 have H20 : Hid (l.length ≤ 20 ∧ ∀ i (hi : i < l.length), l[i].data.length ≤ 700) := ⟨h20, h700⟩
 have hn20 : n ≤ 20 := by omega
 clear hD hn hf h20 h700
 go_enter Tryz.func3, Tryz.ntmps3
 go_wp2_with (first
  | (go_at_call 5; (with_reducible refine HF.out.mono ?_); rintro e w2 ⟨rfl, hb2⟩)
  | (go_at_call 7; (with_reducible refine (HB.out _).mono ?_); rintro e w3 ⟨g, F0, rfl, hG⟩)
  | (go_at_call 8; (with_reducible refine (HR.out _).mono ?_); rintro e w4 ⟨q, G0, B0, rfl, hR⟩; have hT0 := Lib.hid (Two.gives hb2 hG hR); have hM := Lib.hid (Bo.made hT0.out hT0.out.r.blt); have hK : Hid (Blk (w4.alloc (.cells #[.pointer (some ⟨g, 0, none⟩), .pointer none, .pointer (some ⟨q, 0, none⟩), .pointer none] 36)) w4.heap.size 36 (worldC g q none none)) := Blk.new w4 _ _; have hOp := Lib.hid (HOp.out _ _ _ _ _ _ _ _ hM.out hK.out))
  | (go_at_call 9; (with_reducible refine hOp.out.mono ?_); rintro e w5 ⟨rfl, hL5⟩)
  | (go_at_call 10; (with_reducible refine (HAl.out _ _ _ _ 0 (by omega) hL5.out).mono ?_); rintro e w6 ⟨rfl, hL6⟩))
 obtain ⟨gw, hgw⟩ : ∃ k, k = w4.heap.size := ⟨_, rfl⟩
 rw [← hgw] at hL6
 rw [← hgw]
 clear hgw hOp hK hM hT0 hL5 hG hR hb2
 go_loopw [8] (fun x wr => ∃ i : Nat, i ≤ n ∧ x = .int .i64 (i : Int) ∧ Hid (LoopW w wr gw g q i)) (fun x _ => n - (intOf x).toNat)
 case atStart => exact ⟨0, by omega, rfl, hL6.out⟩
 case round =>
  clear hL6
  obtain ⟨i, hi, rfl, hH⟩ := hrel
  by_cases hlt : i < n
  ·have hi2 : i < l.length := by have := Hn.out; omega
   obtain ⟨b, off, rfl, hbb, hcc⟩ := HD.out (by omega)
   obtain ⟨dA, dc, mA, mc, hV, k0, k1, k2, k3, k4⟩ := hcc i hi2
   obtain ⟨kd, hkd⟩ : ∃ x, x = l[i].kind := ⟨_, rfl⟩
   obtain ⟨nn, hnn⟩ : ∃ x, x = l[i].n := ⟨_, rfl⟩
   obtain ⟨mm, hmm⟩ : ∃ x, x = l[i].m := ⟨_, rfl⟩
   obtain ⟨dl, hdl⟩ : ∃ x, x = l[i].data.length := ⟨_, rfl⟩
   obtain ⟨ml, hml⟩ : ∃ x, x = l[i].masks.length := ⟨_, rfl⟩
   have HDo : Hid (Calls Tryz.prog 11 #[.pointer (some ⟨gw, 0, none⟩), .agg #[.int .i64 kd, .int .i64 nn, .int .i64 mm, .slice dA dl dc, .slice mA ml mc]] wr fun e w' => e = .returned (.bool true) ∧ Hid (LoopW w w' gw g q (i + 1))) := by
    obtain ⟨d, lo, h1, h2, h3⟩ := hH.out
    have h5 := ldo_any h1 l[i] dA mA dc mc hV (H20.out.2 i hi2) (by omega) h3
    unfold wxC at h5
    rw [← hkd, ← hnn, ← hmm, ← hdl, ← hml] at h5
    refine h5.mono fun e w' hh => ⟨hh.1, ?_⟩
    obtain ⟨d', lo', h6, h7⟩ := hh.2
    exact ⟨d', lo', h6, by have := h7.2; omega, h7.1.trans h3⟩
   have hbl : Below w.heap.size w wr := by
    obtain ⟨d, lo, ⟨F, E, G, B, pl, rl, h6, _⟩, _⟩ := hH.out
    exact h6.two.p.below
   have v0 : wr.cell? ⟨b, off + i * 5, none⟩ = some (.int .i64 kd) := (hbl.cell (p := ⟨b, off + i * 5, none⟩) hbb).trans (by rw [hkd]; exact k0)
   have v1 : wr.cell? ⟨b, off + i * 5 + 1, none⟩ = some (.int .i64 nn) := (hbl.cell (p := ⟨b, off + i * 5 + 1, none⟩) hbb).trans (by rw [hnn]; exact k1)
   have v2 : wr.cell? ⟨b, off + i * 5 + 2, none⟩ = some (.int .i64 mm) := (hbl.cell (p := ⟨b, off + i * 5 + 2, none⟩) hbb).trans (by rw [hmm]; exact k2)
   have v3 : wr.cell? ⟨b, off + i * 5 + 3, none⟩ = some (.slice dA dl dc) := (hbl.cell (p := ⟨b, off + i * 5 + 3, none⟩) hbb).trans (by rw [hdl]; exact k3)
   have v4 : wr.cell? ⟨b, off + i * 5 + 4, none⟩ = some (.slice mA ml mc) := (hbl.cell (p := ⟨b, off + i * 5 + 4, none⟩) hbb).trans (by rw [hml]; exact k4)
   have d0 : decide ((i : Int) < (n : Int)) = true := decide_eq_true (by omega)
   have d1 : decide (i < n) = true := decide_eq_true hlt
   have y7 : IntKind.i64.wrap ((i : Int) + 1) = (i : Int) + 1 := IntWalk.i64_in _ (by omega)
   clear hcc k0 k1 k2 k3 k4 hV hkd hnn hmm hdl hml hbb hbl
   go_wp2_with (first
    | (go_at_call 11; (with_reducible refine HDo.out.mono ?_); rintro e w1 ⟨rfl, hL1⟩)
    | (go_at_call 10; (with_reducible refine (HAl.out _ _ _ _ (i + 1) (by omega) hL1.out).mono ?_); rintro e w2 ⟨rfl, hL2⟩))
   go_roundw
   case rel => exact ⟨i + 1, by omega, by go_num, hL2.out⟩
   case measure => simp [intOf]; omega
  ·have d0 : decide ((i : Int) < (n : Int)) = false := decide_eq_false (by omega)
   have d1 : decide (i < n) = false := decide_eq_false hlt
   have HBl : Hid (Below w.heap.size w wr) := by
    obtain ⟨d, lo, ⟨F, E, G, B, pl, rl, h6, _⟩, _⟩ := hH.out
    exact h6.two.p.below
   go_wp2_with (first
    | (go_at_call 6; (with_reducible refine (HAw.out _).mono ?_); rintro e w3 ⟨rfl, hb3⟩))
   go_ret
   exact ⟨rfl, chain7 HBl.out hb3⟩
theorem wdoes_any (l : List Wx) (A : Option Addr) (c : Nat) (w : World) (hD : DL13 w w.heap.size A l) :
  Calls Tryz.prog 3 #[.slice A l.length c] w fun e w' => e = .returned (.bool true) ∧ Below w.heap.size w w' := by
 cases hf : fewW l with
 | false => exact wdoes_out l A _ c w hD rfl hf
 | true => exact wdoes_in l A _ c w hD rfl hf
theorem Tryz.cells42w : Tryz.prog.cellsOf 42 = 5 := by kernel_rfl
theorem Tryz.cellsIntw : Tryz.prog.cellsOf 3 = 1 := by kernel_rfl
theorem Tryz.cellsByw : Tryz.prog.cellsOf 39 = 1 := by kernel_rfl
theorem Tryz.cellsInw : Tryz.prog.cellsOf 40 = 1 := by kernel_rfl
theorem Tryz.cellsB1w : Tryz.prog.cellsOf 5 = 1 := by kernel_rfl
theorem open_dl13 {H : Type} {enc : TypeId × Value → H} {W : World} {base : Nat} {v : Value} {d : DataW H} {ps : List MemPlace} (hv : Value.okWide Tryz.prog W .any base 22 v) (h : DataW.Trod enc Tryz.prog W 0 (fun _ => true) true 22 v d ps) :
  ∃ (A : Option Addr) (D : List Wx) (c : Nat), v = .slice A D.length c ∧ DL13 W W.heap.size A D ∧ D.length ≤ c ∧ c ≤ 9223372036854775807 := by
 obtain ⟨a0, len, cap, rfl⟩ := okWide_slice Tryz.underlying22 hv
 obtain ⟨fuel, hf⟩ := h
 exact open_deedl13 (fuel := fuel) Tryz.underlying22 Tryz.underlying42 Tryz.cells42w rfl rfl rfl rfl rfl Tryz.cellsIntw Tryz.cellsIntw Tryz.cellsIntw Tryz.cellsByw Tryz.cellsInw Tryz.underlying3 Tryz.underlying3 Tryz.underlying3 Tryz.underlying39 Tryz.underlying40 Tryz.underlying5 Tryz.cellsB1w Tryz.underlying3 Tryz.cellsIntw (by simpa [Value.cells] using hf)
theorem wdoes_lifted (os : Os) (started : os.Started) (H : Type) (enc : TypeId × Value → H) :
  ReturnsInHanded {} Tryz.checked os 3 .any (Rows.walDoesSpec.pre6 enc Tryz.prog Tryz.f3 Rows.walDoesRow.domain false) (Rows.walDoesSpec.post enc Tryz.prog Tryz.f3 false true false false) := by
 refine returnsInHanded_of_change_sized (C := Tryz.checked) Tryz.own started (by kernel_rfl) Tryz.func3
  (ChangeSpec.witness6 (enc := enc) (C := Tryz.checked) false ⟨#[], #[.slice none 0 0], []⟩ 8 (by kernel_rfl) (by kernel_rfl) (by kernel_rfl) (by kernel_rfl)) ?_
 intro W base args ds gs before hval0 hW hcnd hsz0 _
 have hval : ∀ (j : Nat) t v, Tryz.f3.params[j]? = some t → args[j]? = some v → Value.okWide Tryz.prog W .any base t v := hval0
 have hW' : DataW.Whole enc Tryz.prog Tryz.f3.params.toList Rows.walDoesSpec.vars false W args.toList ds gs before := hW
 have hWk := hW'
 clear hsz0 hval0
 obtain ⟨p, q, hA, hV, rfl, hfz, hnd⟩ := hW'
 rw [Tryz.params3] at hA hval
 obtain ⟨v0, d0, rfl, rfl, h0⟩ := trodAll_one hA
 obtain ⟨rfl, rfl⟩ := trodVars_none hV
 obtain ⟨A, D, c, rfl, hD, _, _⟩ := open_dl13 (hval 0 22 v0 rfl rfl) h0
 refine (wdoes_any D A c W hD).mono fun e W' ⟨he, hb⟩ => ⟨_, he, ?_⟩
 exact law_post Tryz.laidOut hWk rfl rfl rfl rfl rfl Tryz.underlying4 (by kernel_rfl) hb
theorem wdoes_holds : Rows.WalDoesSaid :=
 OpenClaim.holds_of_wide 3 Tryz.f3 rfl rfl rfl rfl rfl rfl rfl ⟨rfl, rfl, rfl, rfl, rfl⟩ rfl rfl rfl rfl rfl (by kernel_rfl) Tryz.func3 (by kernel_rfl)
  (of_decide_eq_true (by kernel_rfl)) (by unfold Func.isWrapper; first | (rw [if_pos (by decide +kernel)]; kernel_rfl) | (rw [if_neg (by decide +kernel)]; exact ⟨rfl, rfl⟩))
  (fun os started H enc _ => wdoes_lifted os started H enc)
end Go.Proofs.YtghenhacndaelaaGreat
