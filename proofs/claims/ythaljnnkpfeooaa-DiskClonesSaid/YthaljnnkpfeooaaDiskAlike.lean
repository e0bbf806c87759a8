/- The walk of layer 6's Alike. -/
import Derived.Test.YthaljnnkpfeooaaDiskDo
import Derived.Deep.RegionHeldLaw
set_option linter.unusedVariables false
namespace Go.Proofs.Ythaljnnkpfeooaa
open Go.RowKit

theorem one_out {L : List UInt8} {n : Nat} (hn : n = L.length) {w : World} {e : Ending} {w' : World} (h : GivesOne L w e w') : ∃ A c, e = .returned (.slice A n c) ∧ RB w' w'.heap.size A L ∧ Below w.heap.size w w' := by
  obtain ⟨A, c, he, ho, hb⟩ := h
  exact ⟨A, c, by rw [hn]; exact he, own_rb ho, hb⟩
theorem rb_up {w w' : World} {A : Option Addr} {L : List UInt8} (h : RB w w.heap.size A L) (hb : Below w.heap.size w w') : RB w' w'.heap.size A L := (h.below hb).more hb.size
section
variable {K : Kps} {w0 w : World} {g q : Nat} {F G B : Nat → Prop} {d : Dk}
set_option maxRecDepth 100000 in
set_option maxHeartbeats 4000000 in
theorem alike_any (h : Two K w0 w g F d q G B d) (hl : d.load ≤ 100000) : Calls Try.prog 13 #[.pointer (some ⟨g, 0, none⟩), .pointer (some ⟨q, 0, none⟩)] w fun e w' => e = .returned (.bool true) ∧ Two K w0 w' g F d q G B d ∧ Below w.heap.size w w' := by
  obtain ⟨s, cs, V, hs, hv, hR⟩ := h.r
  obtain ⟨n, hn⟩ : ∃ n, n = d.safe.length := ⟨_, rfl⟩
  obtain ⟨m, hm⟩ : ∃ m, m = d.waits.length := ⟨_, rfl⟩
  obtain ⟨o, ho⟩ : ∃ o, o = d.off := ⟨_, rfl⟩
  obtain ⟨ni, hni⟩ : ∃ n, n = d.image.length := ⟨_, rfl⟩
  obtain ⟨ns, hns⟩ : ∃ n, n = d.sure.length := ⟨_, rfl⟩
  have hbR := hR.blk
  obtain ⟨A, c, hV⟩ : ∃ A c, V = .slice A m c := by
    obtain ⟨A, c, hV, _, _⟩ := hR.vform
    exact ⟨A, c, by rw [hm]; exact hV⟩
  subst hV
  rw [← hn] at hbR
  have HOff : Hid (∀ W, Two K w0 W g F d q G B d → Calls Try.prog 21 #[.pointer (some ⟨g, 0, none⟩)] W fun e w' => e = .returned (.bool o) ∧ W = w') := fun W hW => by rw [ho]; exact off_any hW.p.disk
  have HWt : Hid (∀ W, Two K w0 W g F d q G B d → Calls Try.prog 22 #[.pointer (some ⟨g, 0, none⟩)] W fun e w' => e = .returned (.int .i64 (m : Int)) ∧ W = w') := fun W hW => by rw [hm]; exact waits_any hW.p.disk
  have HBl : Hid (∀ W, Two K w0 W g F d q G B d → Calls Try.prog 28 #[.pointer (some ⟨g, 0, none⟩)] W fun e w' => e = .returned (.int .i64 (n : Int)) ∧ W = w') := fun W hW => by rw [hn]; exact blocks_any hW.p.disk
  have HIm : Hid (∀ W, Two K w0 W g F d q G B d → Calls Try.prog 29 #[.pointer (some ⟨g, 0, none⟩)] W fun e w' => ∃ A c, e = .returned (.slice A ni c) ∧ RB w' w'.heap.size A d.image ∧ Below W.heap.size W w') := fun W hW => (image_any hW.p.disk).mono fun e w' hh => one_out hni hh
  have HSa : Hid (∀ W, Two K w0 W g F d q G B d → Calls Try.prog 17 #[.pointer (some ⟨g, 0, none⟩)] W fun e w' => ∃ A c, e = .returned (.slice A ns c) ∧ RB w' w'.heap.size A d.sure ∧ Below W.heap.size W w') := fun W hW => (safe_any hW.p.disk).mono fun e w' hh => one_out hns hh
  have HRI : Hid (∀ W, Two K w0 W g F d q G B d → Calls Try.prog 39 #[.pointer (some ⟨q, 0, none⟩)] W fun e w' => ∃ A c, e = .returned (.slice A ni c) ∧ RB w' w'.heap.size A d.image ∧ Below W.heap.size W w') := fun W hW => (rimage_any hW.r hl).mono fun e w' hh => one_out hni hh
  have HRS : Hid (∀ W, Two K w0 W g F d q G B d → Calls Try.prog 40 #[.pointer (some ⟨q, 0, none⟩)] W fun e w' => ∃ A c, e = .returned (.slice A ns c) ∧ RB w' w'.heap.size A d.sure ∧ Below W.heap.size W w') := fun W hW => (rsure_any hW.r).mono fun e w' hh => one_out hns hh
  have HNi := Lib.hid hni
  have HNs := Lib.hid hns
  have hqlt := hbR.lt
  have HC : Hid (∀ W, Below w.heap.size w W → W.cell? ⟨q, 0, none⟩ = some (.slice (some ⟨s, 0, none⟩) n cs) ∧ W.cell? ⟨q, 1, none⟩ = some (.slice A m c) ∧ W.cell? ⟨q, 3, none⟩ = some (.bool o)) := fun W hb => by
    have h1 := Blk.below hbR hb hqlt
    rw [ho]
    exact ⟨by rw [Blk.cell h1]; rfl, by rw [Blk.cell h1]; rfl, by rw [Blk.cell h1]; rfl⟩
  have hT := h
  clear h hl hR hbR hn hm ho hni hns hqlt
  go_enter Try.func13, Try.ntmps13
  go_wp2
  have b0 : Below w.heap.size w w.drew := (Below.refl _ _).drew
  have t0 : Two K w0 w.drew g F d q G B d := hT.more b0
  have hS0 := HC.out _ b0
  clear hT
  go_region_held_law (fun w' => w'.cell? ⟨q, 0, none⟩ = some (.slice (some ⟨s, 0, none⟩) n cs) ∧ w'.cell? ⟨q, 1, none⟩ = some (.slice A m c) ∧ w'.cell? ⟨q, 3, none⟩ = some (.bool o))
    (first | exact hS0 | exact hS1 | exact hS2 | exact hS3 | exact hS4)
    (first
      | (go_at_call 21; (with_reducible refine (HOff.out _ t0).mono ?_); rintro e w1 ⟨rfl, rfl⟩)
      | (go_at_call 22; (with_reducible refine (HWt.out _ t0).mono ?_); rintro e w1 ⟨rfl, rfl⟩)
      | (go_at_call 28; (with_reducible refine (HBl.out _ t0).mono ?_); rintro e w1 ⟨rfl, rfl⟩)
      | (go_at_call 29; (with_reducible refine (HIm.out _ t0).mono ?_); rintro e w1 ⟨A1, c1, rfl, r1, k1⟩; have b1 := b0.trans (k1.mono b0.size); have t1 := t0.more k1; have hS1 := HC.out _ b1; have s1 := aw_str r1 ni c1 HNi.out)
      | (go_at_call 39; (with_reducible refine (HRI.out _ t1).mono ?_); rintro e w2 ⟨A2, c2, rfl, r2, k2⟩; have b2 := b1.trans (k2.mono b1.size); have t2 := t1.more k2; have hS2 := HC.out _ b2; have s21 := aw_str (rb_up r1 k2) ni c1 HNi.out; have s2 := aw_str r2 ni c2 HNi.out)
      | (go_at_call 17; (with_reducible refine (HSa.out _ t2).mono ?_); rintro e w3 ⟨A3, c3, rfl, r3, k3⟩; have b3 := b2.trans (k3.mono b2.size); have t3 := t2.more k3; have hS3 := HC.out _ b3; have s3 := aw_str r3 ns c3 HNs.out)
      | (go_at_call 40; (with_reducible refine (HRS.out _ t3).mono ?_); rintro e w4 ⟨A4, c4, rfl, r4, k4⟩; have b4 := b3.trans (k4.mono b3.size); have t4 := t3.more k4; have hS4 := HC.out _ b4; have s43 := aw_str (rb_up r3 k4) ns c3 HNs.out; have s4 := aw_str r4 ns c4 HNs.out))
  all_goals first
    | (go_ret; exact ⟨rfl, t4, b4⟩)
    | (go_wp2; go_ret; exact ⟨rfl, t4, b4⟩)
end
end Go.Proofs.Ythaljnnkpfeooaa
