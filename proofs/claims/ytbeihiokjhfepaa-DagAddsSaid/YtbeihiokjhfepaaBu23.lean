/- Lemmas under the proofs of this place: DagPHeads. No statement is proved here. -/
import Derived.Test.YtbeihiokjhfepaaBu20
import Derived.Test.YtbeihiokjhfepaaBu05
import Derived.Deep.RegionHeldLaw
set_option linter.unusedSimpArgs false
set_option linter.unusedVariables false
set_option maxRecDepth 100000
set_option maxHeartbeats 16000000
namespace Go.Proofs.Ytbeihiokjhfepaa
open Go.RowKit
def BoxP (w wb : World) (p : Nat) : Prop := wb = w.alloc (.cells #[.pointer (some ⟨p, 0, none⟩)] 23)
theorem BoxP.below {w wb : World} {p : Nat} (h : BoxP w wb p) : Below w.heap.size w wb := by
  rw [show wb = _ from h]
  exact (Below.refl _ _).alloc (Nat.le_refl _) _
theorem BoxP.cell {w wb W : World} {p : Nat} (h : BoxP w wb p) (hb : Below wb.heap.size wb W) : W.cell? ⟨w.heap.size, 0, none⟩ = some (.pointer (some ⟨p, 0, none⟩)) := by
  have K : Blk wb w.heap.size 23 #[.pointer (some ⟨p, 0, none⟩)] := by rw [show wb = _ from h]; exact Blk.new _ _ _
  exact (K.below hb K.lt).cell 0
theorem BoxP.lt {w wb : World} {p : Nat} (h : BoxP w wb p) : w.heap.size < wb.heap.size := by rw [show wb = _ from h]; simp
theorem headsC_any {w : World} {p n c : Nat} {g : Gr} {A : Option Addr} {mv : Value} (h : PV w p g A n c mv) (D i : Nat) (hi : i < g.length) (W : World) (hb : Below w.heap.size w W) (hD : W.cell? ⟨D, 0, none⟩ = some (.pointer (some ⟨p, 0, none⟩))) :
    Calls Try.prog 62 #[.int .i64 (i : Int), .pointer (some ⟨D, 0, none⟩)] W fun e w' => e = .returned (.bool (decide ((kidI g i).length = 0))) ∧ Below W.heap.size W w' := by
  obtain ⟨b, off, rfl, c0, ⟨-, -, ⟨kA, kc, c2, -⟩, -⟩, hin⟩ := node_at h hi W hb
  have u0 : (0 : Int) ≤ (i : Int) := by omega
  have u1 : (i : Int) < (n : Int) := by omega
  obtain ⟨m, hm⟩ : ∃ m, m = (kidI g i).length := ⟨_, rfl⟩
  rw [← hm] at c2 ⊢
  obtain ⟨bo, hbo⟩ : ∃ bo, bo = decide (m = 0) := ⟨_, rfl⟩
  have HB : Hid (((m : Int) == 0) = bo) := by show _ = _; rw [hbo, Bool.eq_iff_iff, beq_iff_eq, decide_eq_true_eq]; omega
  rw [← hbo]
  have HB2 : Hid (decide ((m : Int) = 0) = bo) := by show _ = _; rw [hbo]; congr 1; exact propext (by omega)
  clear hbo hm h hi hin hb
  go_enter Try.func62, Try.ntmps62
  go_wp2
  go_ret
  refine ⟨?_, Below.refl _ _⟩
  first
    | (rw [← HB.out]; rfl)
    | (rw [← HB2.out]; rfl)
    | (have h1 := HB.out; have h2 := HB2.out; simp_all)
theorem pheads_any {w : World} {p n c : Nat} {g : Gr} {A : Option Addr} {mv : Value} (ok : GrOk g) (h : PV w p g A n c mv) (hl : g.length ≤ 5000) :
    Calls Try.prog 34 #[.pointer (some ⟨p, 0, none⟩)] w (GivesStrs (headsG g) w) := by
  obtain ⟨wb, hwb⟩ : ∃ wb, wb = w.alloc (.cells #[.pointer (some ⟨p, 0, none⟩)] 23) := ⟨_, rfl⟩
  have hV : BoxP w wb p := hwb
  have eg : ∀ args w, (callFunc 62 args).run Try.prog w = .ok (.enter 62 args) w := enters_of Try.func62 (by kernel_rfl) rfl
  obtain ⟨fl, hfl⟩ : ∃ fl, fl = (List.range g.length).filter fun j => decide ((kidI g j).length = 0) := ⟨_, rfl⟩
  have hflt : ∀ j ∈ fl, j < g.length := fun j hj => by rw [hfl] at hj; exact filter_lt _ _ j hj
  have hfll : fl.length ≤ 5000 := by
    have h1 := List.length_filter_le (fun j => decide ((kidI g j).length = 0)) (List.range g.length)
    rw [List.length_range, ← hfl] at h1
    omega
  have hls : sortB (toldL g fl) = headsG g := by rw [hfl]; exact sort_heads ok
  obtain ⟨m, hm⟩ : ∃ m, m = fl.length := ⟨_, rfl⟩
  have HCh : Hid (∀ W, Below wb.heap.size wb W → Calls Try.prog 45 #[.pointer (some ⟨p, 0, none⟩), .func (.func 62) #[] #[.pointer (some ⟨w.heap.size, 0, none⟩)]] W fun e w' => ∃ X d, e = .returned (.slice X m d) ∧ Hid (NS w' w'.heap.size X fl) ∧ Hid (Below W.heap.size W w')) := fun W hW =>
    (chosen_any (h.up (below16 hV.below hW)) hl 62 #[.pointer (some ⟨w.heap.size, 0, none⟩)] (fun j => decide ((kidI g j).length = 0)) eg (fun i hi V hV2 => headsC_any h w.heap.size i hi V (below16 (below16 hV.below hW) hV2) (hV.cell (below16 hW hV2)))).mono fun e w' hh => by
      obtain ⟨X, d, q1, q2, q3⟩ := hh
      rw [hm, hfl]
      exact ⟨X, d, q1, own_ns q2.out, q3⟩
  have HRi : Hid (∀ W X d, Below wb.heap.size wb W → NS W W.heap.size X fl → Calls Try.prog 44 #[.pointer (some ⟨p, 0, none⟩), .slice X m d] W (GivesStrs (headsG g) W)) := fun W X d hW hX => by
    rw [← hls]
    exact (rising_any (h.up (below16 hV.below hW)) fl X m d hm hX hflt (by omega)).mono fun e w' hh => hh.strs
  have HV := Lib.hid hV
  have HWb := Lib.hid hwb
  have HC : Hid (∀ W, Below wb.heap.size wb W → W.cell? ⟨w.heap.size, 0, none⟩ = some (.pointer (some ⟨p, 0, none⟩))) := fun W hW => hV.cell hW
  have hmf : ∀ (fn : Fn) (first cap : Array Value) (w : World), (Instr.makeFunc fn first cap).run Try.prog w = .ok (.func fn first cap) w := fun _ _ _ _ => rfl
  clear eg hm hls hfll hflt hfl hV hwb h ok hl
  go_enter Try.func34, Try.ntmps34
  go_upto_region 1 with (fail)
  rw [← HWb.out]
  have P0 : Below wb.heap.size wb wb.drew := (Below.refl _ _).drew
  have h0 := HC.out _ P0
  have c0 := HC.out _ (Below.refl _ _)
  go_wp2
  go_region_held_law (fun w' => w'.cell? ⟨w.heap.size, 0, none⟩ = some (.pointer (some ⟨p, 0, none⟩)))
    (exact HC.out _ (by assumption))
    (first
      | (go_at_call 45; (with_reducible refine (HCh.out _ P0).mono ?_); rintro e x1 ⟨X, d, rfl, hX, b1⟩; have P1 : Below wb.heap.size wb x1 := below16 P0 b1.out)
      | (go_at_call 44; (with_reducible refine (HRi.out _ _ _ P1 hX.out).mono ?_); rintro e x2 ⟨A2, c2, rfl, h1, h2, h3, b2⟩; have P2 : Below wb.heap.size wb x2 := below16 P1 b2))
  go_wp2
  go_ret
  exact ⟨A2, c2, rfl, h1, h2, h3, below16 HV.out.below P2⟩
theorem pheads_none (w : World) : Calls Try.prog 34 #[.pointer none] w (GivesStrs [] w) := by
  go_enter Try.func34, Try.ntmps34
  go_wp2
  go_ret
  exact ⟨none, 0, rfl, SS.nil _ _ _, Nat.le_refl _, by omega, (Below.refl _ _).alloc (Nat.le_refl _) _⟩
end Go.Proofs.Ytbeihiokjhfepaa
