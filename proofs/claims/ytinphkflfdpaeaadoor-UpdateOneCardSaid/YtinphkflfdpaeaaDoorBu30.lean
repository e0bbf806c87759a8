/- Lemmas under the proofs of this place: ShaPSum. No statement is proved here. -/
import Derived.Test.YtinphkflfdpaeaaDoorBu27
import Derived.Test.YtinphkflfdpaeaaDoorBu28
set_option linter.unusedVariables false
set_option maxRecDepth 100000
set_option maxHeartbeats 16000000
namespace Go.Proofs.YtinphkflfdpaeaaDoor
open Go.RowKit
theorem Tryd.shaH : (Tryd.prog.info? 104).map (fun i => (i.zero, i.size)) = some (some (.agg (hcells ⟨0, 0, 0, 0, 0, 0, 0, 0⟩ (List.replicate 64 0) 0).toArray), (hcells ⟨0, 0, 0, 0, 0, 0, 0, 0⟩ (List.replicate 64 0) 0).toArray.size) := by kernel_rfl
theorem Tryd.underH : (match Tryd.prog.underlying 104 with | some d => d.isRow | none => false) = true := by kernel_rfl
theorem sum_any (L : List UInt8) (g : Nat) (w : World) (h : HashAt w g L) (hT : Tab w) (hl : L.length ≤ 100000) :
    Calls Tryd.prog 67 #[.pointer (some ⟨g, 0, none⟩)] w fun e w' => e = .returned (.string (text (idL L))) ∧ Below w.heap.size w w' := by
  obtain ⟨blk, hB, ht⟩ := h
  have hg := hB.lt
  have hT0 := hT.lt
  obtain ⟨HA, hHA⟩ : ∃ HA, HA = (hcells (stateL L) blk L.length).toArray := ⟨_, rfl⟩
  obtain ⟨ZA, hZA⟩ : ∃ ZA, ZA = (hcells ⟨0, 0, 0, 0, 0, 0, 0, 0⟩ (List.replicate 64 0) 0).toArray := ⟨_, rfl⟩
  have sH : HA.size = 73 := by rw [hHA]; simp [hcells_length _ _ _ hB.2]
  have sZ : ZA.size = 73 := by rw [hZA]; simp [hcells_length]
  have hz : (Tryd.prog.info? 104).map (fun i => (i.zero, i.size)) = some (some (.agg ZA), ZA.size) := by rw [hZA]; exact Tryd.shaH
  have h1 : HA.all (·.oneCell') = true := by
    rw [hHA]
    refine all_oneCell_toArray fun v hv => ?_
    unfold hcells at hv
    rcases List.mem_append.1 hv with hv | hv
    · exact wcells_one _ v hv
    · rcases List.mem_append.1 hv with hv | hv
      · exact cells_one _ v hv
      · rw [List.mem_singleton] at hv; subst hv; rfl
  have cN : w.cell? ⟨g, 72, none⟩ = some (.int .u64 (L.length : Int)) := hB.size
  have kB : Blk w g 104 HA := by rw [hHA]; exact hB.1
  obtain ⟨d, hd, hd2⟩ : ∃ d, Tryd.prog.underlying 104 = some d ∧ d.isRow = true := by
    have := Tryd.underH
    cases hq : Tryd.prog.underlying 104 with
    | none => simp [hq] at this
    | some d => exact ⟨d, rfl, by simpa [hq] using this⟩
  have HHA := Lib.hid hHA
  have HBk := Lib.hid (show HB w g (stateL L) blk L.length ∧ blk.take (L.length % 64) = restL L from ⟨hB, ht⟩)
  have HTb : Hid (Tab w) := hT
  clear hHA hZA hB ht hT
  go_enter Tryd.func67, Tryd.ntmps67
  have HStep : Hid (∀ (g1 : Nat) (w1 : World), Hid (w1 = w.alloc (.cells ZA 104)) → Hid (g1 = w.heap.size) → Below w.heap.size w (w1.setRow g1 HA) ∧ w.heap.size < (w1.setRow g1 HA).heap.size ∧ (w1.setRow g1 HA).cell? ⟨g, 72, none⟩ = some (.int .u64 (L.length : Int)) ∧ Hid (HashAt (w1.setRow g1 HA) g1 L)) := by
    intro g1 w1 hw1 hg1
    have b1 : Below w.heap.size w w1 := letter_below hw1 (Below.refl _ _) (Nat.le_refl _)
    have z1 : w1.heap.size = w.heap.size + 1 := letter_size hw1
    have z2 : (w1.setRow g1 HA).heap.size = w1.heap.size := by simp [World.setRow]
    have b2 : Below w.heap.size w (w1.setRow g1 HA) := below_setRow b1 (by have := hg1.out; omega) _
    refine ⟨b2, by omega, by rw [b2.cell (p := ⟨g, 72, none⟩) hg]; exact cN, blk, ⟨by rw [← HHA.out]; exact setRow_heap _ _ _ _ _ _ (letter_blk hw1 hg1), HBk.out.1.2⟩, HBk.out.2⟩
  clear cN
  go_wp2_with (first
    | (refine wpList_load_row rfl 104 _ rfl g rfl _ _ _ _ kB hd (by cases d <;> simp_all) (by rw [sH]; exact Tryd.shaHs) ?_)
    | (refine wpList_alloc_letter rfl 104 rfl (some 3) rfl ZA hz ?_; intro g1 w1 hw1 hg1)
    | (refine wpList_store_rowTo rfl 104 _ _ rfl rfl g1 HA rfl rfl _ _ (letter_blk hw1 hg1) (by rw [sH]; exact Tryd.shaHs) (by rw [sZ, sH]) h1 ?_; obtain ⟨b2, z2, cN2, HK2⟩ := HStep.out g1 w1 hw1 hg1; generalize w1.setRow g1 HA = w2 at b2 cN2 HK2 z2 ⊢; have HTl := Lib.hid (tail_any L.length w2 (by omega)))
    | (go_at_call 82; (with_reducible refine HTl.out.mono ?_); rintro e w3 ⟨gt, hgt, rfl, hr3, hb3⟩; have b3 : Below w.heap.size w w3 := b2.trans (hb3.mono b2.size))
    | (go_at_call 66; (with_reducible refine (add_any L (tailB L.length) g1 _ _ w3 (HK2.out.below hb3 HK2.out.lt) (by have := hg1.out; omega) (HTb.out.below b3) hr3 (by intro ad e; injection e with e; subst e; have := HK2.out.lt; show gt ≠ g1; omega) (by rw [tailB_length]; unfold noughts; omega) (Nat.le_refl _) (by rw [tailB_length]; unfold noughts; omega)).mono ?_); rintro e w4 ⟨rfl, hk4, ho4⟩; have b4 : Below w.heap.size w w4 := below_only b3 ho4 (by have := hg1.out; omega) b3.size; rw [← padL_tail] at hk4; obtain ⟨blk4, hB4, _⟩ := hk4; have hS4 := hB4.state; have HTx := Lib.hid (text_any (stateL (padL L)).list w4 (list_S8 _)))
    | (refine wpList_load_mid rfl 100 _ rfl g1 0 rfl (wcells (stateL (padL L)).list) _ hS4 Tryd.underlying100 rfl (by rw [wcells_length, list_S8]; exact Tryd.shaSs) ?_)
    | (go_at_call 83; (with_reducible refine HTx.out.mono ?_); rintro e w5 ⟨rfl, hb5⟩))
  go_ret
  exact ⟨rfl, b4.trans (hb5.mono b4.size)⟩
theorem RB.apart {w : World} {B g : Nat} {A : Option Addr} {M : List UInt8} (h : RB w B A M) (hg : B ≤ g) : M = [] ∨ ∀ ad, A = some ad → ad.block ≠ g := by
  rcases Nat.eq_zero_or_pos M.length with h0 | h0
  · exact .inl (List.eq_nil_of_length_eq_zero h0)
  · obtain ⟨ad, e, hb, _⟩ := h.2 h0
    right
    intro ad' e'
    rw [e] at e'
    injection e' with e'
    subst e'
    omega
theorem add_below (L M : List UInt8) (g B : Nat) (A : Option Addr) (c : Nat) (w : World) (h : HashAt w g L) (hg : g ≠ 0) (hT : Tab w) (hr : RB w B A M) (hB : B ≤ g)
    (hl : L.length + M.length ≤ 1000000) (hc : M.length ≤ c) (hcm : c ≤ 9223372036854775807) :
    Calls Tryd.prog 66 #[.pointer (some ⟨g, 0, none⟩), .slice A M.length c] w fun e w' => e = .returned (.tuple #[]) ∧ HashAt w' g (L ++ M) ∧ Only w w' g := by
  have hr' : RB w w.heap.size A M := hr.more (Nat.le_trans hB (Nat.le_of_lt h.lt))
  rcases hr.apart hB with h0 | h0
  · subst h0
    have HH := Lib.hid h
    have h1 : HashAt w g (L ++ []) := by simpa using h
    clear h hT hr hr'
    go_enter Tryd.func66, Tryd.ntmps66
    go_wp2
    go_loopw [1] (fun v wr => v = .slice A 0 c ∧ wr = w) (fun _ _ => 0)
    case atStart => exact ⟨rfl, rfl⟩
    case round =>
      obtain ⟨rfl, rfl⟩ := hrel
      go_wp2
      go_end0
      exact ⟨rfl, h1, only_refl _ _⟩
  · exact add_any L M g A c w h hg hT hr' h0 hl hc hcm
end Go.Proofs.YtinphkflfdpaeaaDoor
