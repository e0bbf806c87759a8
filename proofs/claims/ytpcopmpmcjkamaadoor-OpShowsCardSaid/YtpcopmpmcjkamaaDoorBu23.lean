/- Lemmas under the proofs of this place: Refb. No statement is proved here. -/
import Derived.Test.YtpcopmpmcjkamaaDoorBu21
import Derived.Test.YtpcopmpmcjkamaaDoorBu18
set_option linter.unusedSimpArgs false
set_option linter.unusedVariables false
set_option maxRecDepth 100000
set_option maxHeartbeats 16000000
namespace Go.Proofs.YtpcopmpmcjkamaaDoor
open Go.RowKit
theorem refByte_any (A : Option Addr) (M : List UInt8) (c B : Nat) (v : Value) (st : St) (w : World) (h : RefV A M c v st) (hr : RB w B A M) (hB : B ≤ w.heap.size) (hc : M.length ≤ c) (hl : M.length ≤ 1048576) :
    Calls Tryd.prog 37 #[v] w (GivesRefN A M c (stepByte st) w) := by
  obtain ⟨r, hr'⟩ : ∃ r, r = stepTake 1 st := ⟨_, rfl⟩
  have HS : Hid (stepByte st = (r.1, headN r.2)) := by show _ = _; rw [hr']; rfl
  have HT := fun W (hrW : RB W B A M) (hBW : B ≤ W.heap.size) => refTake_any A M c B v 1 st W h hrW hBW hc hl
  rw [← hr'] at HT
  have HT' := Lib.hid HT
  have hf := refv_form h
  clear HT hr'
  obtain ⟨x0, x1, x2, rfl⟩ := hf
  obtain ⟨X0, n0, m0, k0, b0, rfl, rfl, rfl⟩ := refv_parts h
  clear h
  obtain ⟨st', l⟩ := r
  rcases l with _ | ⟨b, l⟩
  · go_enter Tryd.func37, Tryd.ntmps37
    go_wp2_with (go_at_call 39; refine (HT'.out _ ((hr.alloc hB _).alloc (by simp; omega) _) (by simp; omega)).mono ?_; rintro e w1 ⟨y0, y1, y2, A1, c1, he, hv1, hrb1, hb1⟩; obtain ⟨Y0, n1, m1, k1, b1, rfl, rfl, rfl⟩ := refv_parts hv1; subst he; obtain ⟨hc1, hf1⟩ := bcell hb1; have hz1 : w.heap.size + 1 < w1.heap.size := by have := hb1.size; simp at this; omega)
    refine bodyPost_ret (v := .tuple #[.agg #[.slice Y0 n1 m1, .int .i64 (k1 : Int), .bool b1], .int .i64 0]) (by simp [results, Tryd.results37, go_sem, hc1, hz1]) rfl ?_
    rw [HS.out]
    exact ⟨_, _, _, rfl, hv1, (below3 (two_then hb1) (by omega) _ _ _).alloc (by simp [World.setCell]; omega) _⟩
  · have hb256 := byte_lt b
    have hne : ((((b :: l).length : Nat) : Int) == 0) = false := by simp; omega
    go_enter Tryd.func37, Tryd.ntmps37
    go_wp2_with (go_at_call 39; refine (HT'.out _ ((hr.alloc hB _).alloc (by simp; omega) _) (by simp; omega)).mono ?_; rintro e w1 ⟨y0, y1, y2, A1, c1, he, hv1, hrb1, hb1⟩; obtain ⟨Y0, n1, m1, k1, b1, rfl, rfl, rfl⟩ := refv_parts hv1; subst he; obtain ⟨hc1, hf1⟩ := bcell hb1; have hz1 : w.heap.size + 1 < w1.heap.size := (by have := hb1.size; simp at this; omega); have hz0 : w.heap.size < w1.heap.size := (by omega); obtain ⟨bb, off, rfl, hbb, hcc⟩ := hrb1.at_ (by simp); have hc0 := hcc 0 (by simp); rw [Nat.add_zero] at hc0; simp only [List.getElem_cons_zero] at hc0; clear hcc; have hbb1 : bb < w1.heap.size := by omega)
    go_region
    go_wp2
    refine bodyPost_ret (v := .tuple #[.agg #[.slice Y0 n1 m1, .int .i64 (k1 : Int), .bool b1], .int .i64 (b.toNat : Int)]) (by simp [results, Tryd.results37, go_sem, hc1, hz1]) rfl ?_
    rw [HS.out]
    exact ⟨_, _, _, rfl, hv1, ((below3 (two_then hb1) (by omega) _ _ _).alloc (by simp [World.setCell]; omega) _).drew⟩
end Go.Proofs.YtpcopmpmcjkamaaDoor
