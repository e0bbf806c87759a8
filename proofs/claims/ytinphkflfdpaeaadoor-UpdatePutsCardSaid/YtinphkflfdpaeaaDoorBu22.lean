/- Lemmas under the proofs of this place: ShaPHash, ShaLaid. No statement is proved here. -/
import Derived.Test.YtinphkflfdpaeaaDoorBu18
import Derived.Test.YtinphkflfdpaeaaDoorBu04
import Derived.Test.YtinphkflfdpaeaaDoorBu02
import Derived.Test.YtinphkflfdpaeaaDoorRows
import Derived.Lib.LaidTab
import Derived.LaidMore
import Derived.Stop.Joined
set_option linter.unusedVariables false
set_option maxRecDepth 100000
set_option maxHeartbeats 16000000
namespace Go.Proofs.YtinphkflfdpaeaaDoor
section
open Go.RowKit
def hcells (s : S8) (blk : List UInt8) (n : Nat) : List Value := wcells s.list ++ (cells blk ++ [.int .u64 (n : Int)])
def HB (w : World) (g : Nat) (s : S8) (blk : List UInt8) (n : Nat) : Prop := Blk w g 104 (hcells s blk n).toArray ∧ blk.length = 64
theorem hcells_state (s : S8) (blk : List UInt8) (n k : Nat) (h : k < 8) : (hcells s blk n)[k]? = some (.int .u32 ((s.list.getD k 0).toNat : Int)) := by
  unfold hcells
  rw [List.getElem?_append_left (by rw [wcells_length, list_S8]; exact h), wcells_get _ _ (by rw [list_S8]; exact h)]
  simp [List.getD, List.getElem?_eq_getElem (show k < s.list.length by rw [list_S8]; exact h)]
theorem hcells_block (s : S8) (blk : List UInt8) (n k : Nat) (h : k < blk.length) : (hcells s blk n)[8 + k]? = some (.int .u8 ((blk.getD k 0).toNat : Int)) := by
  unfold hcells
  rw [List.getElem?_append_right (by rw [wcells_length, list_S8]; omega), wcells_length, list_S8, show 8 + k - 8 = k by omega, List.getElem?_append_left (by rw [cells_length]; exact h)]
  simp [cells, List.getD, List.getElem?_eq_getElem h]
theorem hcells_size (s : S8) (blk : List UInt8) (n : Nat) (h : blk.length = 64) : (hcells s blk n)[72]? = some (.int .u64 (n : Int)) := by
  unfold hcells
  rw [List.getElem?_append_right (by rw [wcells_length, list_S8]; omega), wcells_length, list_S8, List.getElem?_append_right (by rw [cells_length]; omega), cells_length, h]
  rfl
theorem hcells_length (s : S8) (blk : List UInt8) (n : Nat) (h : blk.length = 64) : (hcells s blk n).length = 73 := by
  simp [hcells, wcells_length, cells_length, list_S8, h]
theorem HB.size {w : World} {g : Nat} {s : S8} {blk : List UInt8} {n : Nat} (h : HB w g s blk n) : w.cell? ⟨g, 72, none⟩ = some (.int .u64 (n : Int)) := by
  rw [h.1.cell]; simpa using hcells_size s blk n h.2
theorem HB.frozen {w : World} {g : Nat} {s : S8} {blk : List UInt8} {n : Nat} (h : HB w g s blk n) (k : Nat) : w.frozen? ⟨g, k, none⟩ = false := h.1.frozen k
theorem HB.state {w : World} {g : Nat} {s : S8} {blk : List UInt8} {n : Nat} (h : HB w g s blk n) : w.rangeAt g 0 (wcells s.list) := fun j v hv => by
  have hj : j < 8 := by
    have := (List.getElem?_eq_some_iff.1 hv).1
    rw [wcells_length, list_S8] at this; exact this
  rw [Nat.zero_add, h.1.cell]
  have h1 := hcells_state s blk n j hj
  rw [wcells_get _ _ (by rw [list_S8]; exact hj)] at hv
  rw [← hv]
  simpa [List.getD, List.getElem?_eq_getElem (show j < s.list.length by rw [list_S8]; exact hj)] using h1
theorem HB.bytes {w : World} {g : Nat} {s : S8} {blk : List UInt8} {n : Nat} (h : HB w g s blk n) : w.rangeAt g 8 (cells blk) := fun j v hv => by
  have hj : j < blk.length := by
    have := (List.getElem?_eq_some_iff.1 hv).1
    rw [cells_length] at this; exact this
  rw [h.1.cell]
  have h1 := hcells_block s blk n j hj
  rw [cells_get _ _ hj] at hv
  rw [← hv]
  simpa [List.getD, List.getElem?_eq_getElem hj] using h1
theorem HB.below {B : Nat} {w w' : World} {g : Nat} {s : S8} {blk : List UInt8} {n : Nat} (h : HB w g s blk n) (hb : Below B w w') (hg : g < B) : HB w' g s blk n := ⟨h.1.below hb hg, h.2⟩
theorem HB.lt {w : World} {g : Nat} {s : S8} {blk : List UInt8} {n : Nat} (h : HB w g s blk n) : g < w.heap.size := h.1.lt
theorem HB.there {w : World} {g : Nat} {s : S8} {blk : List UInt8} {n : Nat} (h : HB w g s blk n) : w.there g 0 8 := fun j hj => by
  rw [Nat.zero_add, h.1.cell]
  refine ⟨?_, h.1.frozen j⟩
  have := hcells_state s blk n j hj
  simp [this]
theorem HB.setState {w : World} {g : Nat} {s : S8} {blk : List UInt8} {n : Nat} (h : HB w g s blk n) (s' : S8) : HB (w.setCells g 0 (wcells s'.list)) g s' blk n := by
  refine ⟨?_, h.2⟩
  have h1 := (((((((h.1.set_ 0 (.int .u32 (s'.a.toNat : Int))).set_ 1 (.int .u32 (s'.b.toNat : Int))).set_ 2 (.int .u32 (s'.c.toNat : Int))).set_ 3 (.int .u32 (s'.d.toNat : Int))).set_ 4 (.int .u32 (s'.e.toNat : Int))).set_ 5 (.int .u32 (s'.f.toNat : Int))).set_ 6 (.int .u32 (s'.g.toNat : Int))).set_ 7 (.int .u32 (s'.h.toNat : Int))
  have e : ((((((((hcells s blk n).toArray.setIfInBounds 0 (.int .u32 (s'.a.toNat : Int))).setIfInBounds 1 (.int .u32 (s'.b.toNat : Int))).setIfInBounds 2 (.int .u32 (s'.c.toNat : Int))).setIfInBounds 3 (.int .u32 (s'.d.toNat : Int))).setIfInBounds 4 (.int .u32 (s'.e.toNat : Int))).setIfInBounds 5 (.int .u32 (s'.f.toNat : Int))).setIfInBounds 6 (.int .u32 (s'.g.toNat : Int))).setIfInBounds 7 (.int .u32 (s'.h.toNat : Int)) = (hcells s' blk n).toArray := by
    simp [hcells, wcells, S8.list]
  rw [e] at h1
  exact h1
theorem setCells_only (w : World) (g : Nat) : ∀ (vs : List Value) (o : Nat), Only w (w.setCells g o vs) g := by
  intro vs
  induction vs generalizing w with
  | nil => intro o; exact only_refl w g
  | cons v vs ih => intro o; exact only_trans (only_set w g o v) (ih _ (o + 1))
theorem Tryd.shaHs : (Tryd.prog.info? 104).map (·.size) = some 73 := by kernel_rfl
theorem mix_any (s : S8) (blk : List UInt8) (n g : Nat) (w : World) (h : HB w g s blk n) (hT : Tab w) :
    Calls Tryd.prog 81 #[.pointer (some ⟨g, 0, none⟩)] w fun e w' => e = .returned (.tuple #[]) ∧ HB w' g (blockL s blk) blk n ∧ Only w w' g := by
  have hlt := h.lt
  obtain ⟨SA, hSA⟩ : ∃ SA, SA = (wcells s.list).toArray := ⟨_, rfl⟩
  obtain ⟨BA, hBA⟩ : ∃ BA, BA = (cells blk).toArray := ⟨_, rfl⟩
  obtain ⟨WA, hWA⟩ : ∃ WA, WA = (wcells (schedK blk 64)).toArray := ⟨_, rfl⟩
  obtain ⟨CA, hCA⟩ : ∃ CA, CA = (wcells (blockL s blk).list).toArray := ⟨_, rfl⟩
  have L0 : Hid (∀ W, Below w.heap.size w W → W.rangeAt g 0 (wcells s.list)) := fun W hb => (h.below hb hlt).state
  have L8 : Hid (∀ W, Below w.heap.size w W → W.rangeAt g 8 (cells blk)) := fun W hb => (h.below hb hlt).bytes
  have sS : (wcells s.list).length = 8 := by rw [wcells_length, list_S8]
  have sB : (cells blk).length = 64 := by rw [cells_length, h.2]
  have HSt : Hid (∀ W, Below w.heap.size w W → W.there g 0 CA.size) := fun W hb => by
    have e : CA.size = 8 := by rw [hCA]; simp [wcells_length, list_S8]
    rw [e]; exact (h.below hb hlt).there
  have HCs : (Tryd.prog.info? 100).map (·.size) = some CA.size := by rw [show CA.size = 8 by rw [hCA]; simp [wcells_length, list_S8]]; exact Tryd.shaSs
  have HC1 : CA.all (·.oneCell') = true := by rw [hCA]; exact all_oneCell_toArray (wcells_one _)
  have HSp : Hid (∀ W, Calls Tryd.prog 92 #[.agg BA] W fun e w' => e = .returned (.agg WA) ∧ Below W.heap.size W w') := fun W => by
    rw [hBA, hWA]; exact spread_any blk W h.2
  have HMx : Hid (∀ W, Below w.heap.size w W → Calls Tryd.prog 91 #[.agg SA, .agg WA] W fun e w' => e = .returned (.agg CA) ∧ Below W.heap.size W w') := fun W hb => by
    rw [hSA, hWA, hCA]; exact mixed_any s (schedK blk 64) W (schedK_length _ _) (hT.below hb)
  have HE : Hid (∀ W, Below w.heap.size w W → HB (W.setCells g 0 CA.toList) g (blockL s blk) blk n ∧ Only w (W.setCells g 0 CA.toList) g) := fun W hb => by
    rw [hCA]
    exact ⟨(h.below hb hlt).setState _, only_trans (only_below hb g) (setCells_only W g _ 0)⟩
  have bd : Below w.heap.size w w.drew := (Below.refl _ _).drew
  have HSA : Hid (SA = (wcells s.list).toArray) := hSA
  have HBA : Hid (BA = (cells blk).toArray) := hBA
  clear hWA hCA hSA hBA h hT
  go_enter Tryd.func81, Tryd.ntmps81
  go_wp2
  refine wp_region_any (by kernel_rfl) ?_
  change wpAny _ _ _ _ _ _ _ (World.drew _)
  refine any_pure (i := 0) (.pointer (some ⟨g, 0, none⟩)) rfl (by kernel_rfl) (by kernel_rfl) (by kernel_rfl) (by kernel_rfl) (fun _ => by kernel_rfl) (by kernel_rfl) (by kernel_rfl) (fun _ _ _ h => h) (listed' := #[true, false, false, false, false, false, false, false, false, false, false, false, false, false]) (a' := ⟨#[.pointer (some ⟨g, 0, none⟩), undef, .pointer (some ⟨g, 0, none⟩), undef, undef, undef, undef, undef, undef, undef, undef, undef, undef, undef, undef], []⟩) ?_
  refine any_pure (i := 1) (.pointer (some ⟨g, 0, none⟩)) rfl (by kernel_rfl) (by kernel_rfl) (by kernel_rfl) (by kernel_rfl) (fun _ => by kernel_rfl) (by kernel_rfl) (by kernel_rfl) (fun _ _ _ h => h) (listed' := #[true, true, false, false, false, false, false, false, false, false, false, false, false, false]) (a' := ⟨#[.pointer (some ⟨g, 0, none⟩), undef, .pointer (some ⟨g, 0, none⟩), .pointer (some ⟨g, 0, none⟩), undef, undef, undef, undef, undef, undef, undef, undef, undef, undef, undef], []⟩) ?_
  refine any_pure (i := 2) (.pointer (some ⟨g, 0, none⟩)) rfl (by kernel_rfl) (by kernel_rfl) (by kernel_rfl) (by kernel_rfl) (fun _ => by kernel_rfl) (by kernel_rfl) (by kernel_rfl) (fun _ _ _ h => h) (listed' := #[true, true, true, false, false, false, false, false, false, false, false, false, false, false]) (a' := ⟨#[.pointer (some ⟨g, 0, none⟩), undef, .pointer (some ⟨g, 0, none⟩), .pointer (some ⟨g, 0, none⟩), .pointer (some ⟨g, 0, none⟩), undef, undef, undef, undef, undef, undef, undef, undef, undef, undef], []⟩) ?_
  refine any_pure (i := 3) (.pointer (some ⟨g, 0, none⟩)) rfl (by kernel_rfl) (by kernel_rfl) (by kernel_rfl) (by kernel_rfl) (fun _ => by kernel_rfl) (by kernel_rfl) (by kernel_rfl) (fun _ _ _ h => h) (listed' := #[true, true, true, true, false, false, false, false, false, false, false, false, false, false]) (a' := ⟨#[.pointer (some ⟨g, 0, none⟩), undef, .pointer (some ⟨g, 0, none⟩), .pointer (some ⟨g, 0, none⟩), .pointer (some ⟨g, 0, none⟩), .pointer (some ⟨g, 0, none⟩), undef, undef, undef, undef, undef, undef, undef, undef, undef], []⟩) ?_
  refine any_pure (i := 5) (.pointer (some ⟨g, 0, none⟩)) rfl (by kernel_rfl) (by kernel_rfl) (by kernel_rfl) (by kernel_rfl) (fun _ => by kernel_rfl) (by kernel_rfl) (by kernel_rfl) (fun _ _ _ h => h) (listed' := #[true, true, true, true, false, true, false, false, false, false, false, false, false, false]) (a' := ⟨#[.pointer (some ⟨g, 0, none⟩), undef, .pointer (some ⟨g, 0, none⟩), .pointer (some ⟨g, 0, none⟩), .pointer (some ⟨g, 0, none⟩), .pointer (some ⟨g, 0, none⟩), undef, .pointer (some ⟨g, 0, none⟩), undef, undef, undef, undef, undef, undef, undef], []⟩) ?_
  refine any_pure (i := 6) (.pointer (some ⟨g, 0, none⟩)) rfl (by kernel_rfl) (by kernel_rfl) (by kernel_rfl) (by kernel_rfl) (fun _ => by kernel_rfl) (by kernel_rfl) (by kernel_rfl) (fun _ _ _ h => h) (listed' := #[true, true, true, true, false, true, true, false, false, false, false, false, false, false]) (a' := ⟨#[.pointer (some ⟨g, 0, none⟩), undef, .pointer (some ⟨g, 0, none⟩), .pointer (some ⟨g, 0, none⟩), .pointer (some ⟨g, 0, none⟩), .pointer (some ⟨g, 0, none⟩), undef, .pointer (some ⟨g, 0, none⟩), .pointer (some ⟨g, 0, none⟩), undef, undef, undef, undef, undef, undef], []⟩) ?_
  refine any_pure (i := 7) (.pointer (some ⟨g, 8, none⟩)) rfl (by kernel_rfl) (by kernel_rfl) (by kernel_rfl) (by kernel_rfl) (fun _ => by kernel_rfl) (by kernel_rfl) (by kernel_rfl) (fun _ _ _ h => h) (listed' := #[true, true, true, true, false, true, true, true, false, false, false, false, false, false]) (a' := ⟨#[.pointer (some ⟨g, 0, none⟩), undef, .pointer (some ⟨g, 0, none⟩), .pointer (some ⟨g, 0, none⟩), .pointer (some ⟨g, 0, none⟩), .pointer (some ⟨g, 0, none⟩), undef, .pointer (some ⟨g, 0, none⟩), .pointer (some ⟨g, 0, none⟩), .pointer (some ⟨g, 8, none⟩), undef, undef, undef, undef, undef], []⟩) ?_
  refine any_two (i := 4) (j := 8) (by kernel_rfl) (op_value (a' := ⟨#[.pointer (some ⟨g, 0, none⟩), undef, .pointer (some ⟨g, 0, none⟩), .pointer (some ⟨g, 0, none⟩), .pointer (some ⟨g, 0, none⟩), .pointer (some ⟨g, 0, none⟩), .agg SA, .pointer (some ⟨g, 0, none⟩), .pointer (some ⟨g, 0, none⟩), .pointer (some ⟨g, 8, none⟩), undef, undef, undef, undef, undef], []⟩) (.agg SA) rfl (by kernel_rfl) (load_run 100 (.tmp 5) g 0 (wcells s.list) _ (by kernel_rfl) (by kernel_rfl) (L0.out _ bd) Tryd.underlying100 rfl (by rw [sS]; exact Tryd.shaSs) SA HSA.out.symm) (by kernel_rfl) ?_) (op_value (a' := ⟨#[.pointer (some ⟨g, 0, none⟩), undef, .pointer (some ⟨g, 0, none⟩), .pointer (some ⟨g, 0, none⟩), .pointer (some ⟨g, 0, none⟩), .pointer (some ⟨g, 0, none⟩), undef, .pointer (some ⟨g, 0, none⟩), .pointer (some ⟨g, 0, none⟩), .pointer (some ⟨g, 8, none⟩), .agg BA, undef, undef, undef, undef], []⟩) (.agg BA) rfl (by kernel_rfl) (load_run 101 (.tmp 9) g 8 (cells blk) _ (by kernel_rfl) (by kernel_rfl) (L8.out _ bd) Tryd.underlying101 rfl (by rw [sB]; exact Tryd.shaBs) BA HBA.out.symm) (by kernel_rfl) ?_)
  · refine any_as rfl (listed' := #[true, true, true, true, true, true, true, true, false, false, false, false, false, false]) (by kernel_rfl) ?_
    refine any_one (i := 8) (by kernel_rfl) (op_value (a' := ⟨#[.pointer (some ⟨g, 0, none⟩), undef, .pointer (some ⟨g, 0, none⟩), .pointer (some ⟨g, 0, none⟩), .pointer (some ⟨g, 0, none⟩), .pointer (some ⟨g, 0, none⟩), .agg SA, .pointer (some ⟨g, 0, none⟩), .pointer (some ⟨g, 0, none⟩), .pointer (some ⟨g, 8, none⟩), .agg BA, undef, undef, undef, undef], []⟩) (.agg BA) rfl (by kernel_rfl) (load_run 101 (.tmp 9) g 8 (cells blk) _ (by kernel_rfl) (by kernel_rfl) (L8.out _ bd) Tryd.underlying101 rfl (by rw [sB]; exact Tryd.shaBs) BA HBA.out.symm) (by kernel_rfl) ?_)
    refine wpAny_tail 9 (by kernel_rfl) (by kernel_rfl) ?_
    simp only [List.drop_succ_cons, List.drop_zero]
    go_wp2_with (first
      | (go_at_call 92; (with_reducible refine (HSp.out _).mono ?_); rintro e w1 ⟨rfl, hb1⟩; have b1 : Below w.heap.size w w1 := bd.trans (hb1.mono bd.size))
      | (go_at_call 91; (with_reducible refine (HMx.out _ b1).mono ?_); rintro e w2 ⟨rfl, hb2⟩; have b2 : Below w.heap.size w w2 := b1.trans (hb2.mono b1.size))
      | (refine wpList_store_mid rfl 100 _ _ rfl g 0 CA rfl rfl (HSt.out _ b2) HCs HC1 ?_))
    go_end0
    exact ⟨rfl, HE.out _ b2⟩
  · refine any_as rfl (listed' := #[true, true, true, true, false, true, true, true, true, false, false, false, false, false]) (by kernel_rfl) ?_
    refine any_two (i := 4) (j := 9) (by kernel_rfl) (op_value (a' := ⟨#[.pointer (some ⟨g, 0, none⟩), undef, .pointer (some ⟨g, 0, none⟩), .pointer (some ⟨g, 0, none⟩), .pointer (some ⟨g, 0, none⟩), .pointer (some ⟨g, 0, none⟩), .agg SA, .pointer (some ⟨g, 0, none⟩), .pointer (some ⟨g, 0, none⟩), .pointer (some ⟨g, 8, none⟩), .agg BA, undef, undef, undef, undef], []⟩) (.agg SA) rfl (by kernel_rfl) (load_run 100 (.tmp 5) g 0 (wcells s.list) _ (by kernel_rfl) (by kernel_rfl) (L0.out _ bd) Tryd.underlying100 rfl (by rw [sS]; exact Tryd.shaSs) SA HSA.out.symm) (by kernel_rfl) ?_) (op_enter 92 #[.agg BA] (some 11) rfl (by kernel_rfl) (by kernel_rfl) (by kernel_rfl) ((HSp.out _).mono ?_))
    · refine any_as rfl (listed' := #[true, true, true, true, true, true, true, true, true, false, false, false, false, false]) (by kernel_rfl) ?_
      refine wpAny_tail 9 (by kernel_rfl) (by kernel_rfl) ?_
      simp only [List.drop_succ_cons, List.drop_zero]
      go_wp2_with (first
        | (go_at_call 92; (with_reducible refine (HSp.out _).mono ?_); rintro e w1 ⟨rfl, hb1⟩; have b1 : Below w.heap.size w w1 := bd.trans (hb1.mono bd.size))
        | (go_at_call 91; (with_reducible refine (HMx.out _ b1).mono ?_); rintro e w2 ⟨rfl, hb2⟩; have b2 : Below w.heap.size w w2 := b1.trans (hb2.mono b1.size))
        | (refine wpList_store_mid rfl 100 _ _ rfl g 0 CA rfl rfl (HSt.out _ b2) HCs HC1 ?_))
      go_end0
      exact ⟨rfl, HE.out _ b2⟩
    · rintro e w1 ⟨rfl, hb1⟩
      have b1 : Below w.heap.size w w1 := bd.trans (hb1.mono bd.size)
      refine ⟨_, rfl, ?_⟩
      refine any_as (a' := ⟨#[.pointer (some ⟨g, 0, none⟩), undef, .pointer (some ⟨g, 0, none⟩), .pointer (some ⟨g, 0, none⟩), .pointer (some ⟨g, 0, none⟩), .pointer (some ⟨g, 0, none⟩), undef, .pointer (some ⟨g, 0, none⟩), .pointer (some ⟨g, 0, none⟩), .pointer (some ⟨g, 8, none⟩), .agg BA, .agg WA, undef, undef, undef], []⟩) (by kernel_rfl) (listed' := #[true, true, true, true, false, true, true, true, true, true, false, false, false, false]) (by kernel_rfl) ?_
      refine any_one (i := 4) (by kernel_rfl) (op_value (a' := ⟨#[.pointer (some ⟨g, 0, none⟩), undef, .pointer (some ⟨g, 0, none⟩), .pointer (some ⟨g, 0, none⟩), .pointer (some ⟨g, 0, none⟩), .pointer (some ⟨g, 0, none⟩), .agg SA, .pointer (some ⟨g, 0, none⟩), .pointer (some ⟨g, 0, none⟩), .pointer (some ⟨g, 8, none⟩), .agg BA, .agg WA, undef, undef, undef], []⟩) (.agg SA) rfl (by kernel_rfl) (load_run 100 (.tmp 5) g 0 (wcells s.list) _ (by kernel_rfl) (by kernel_rfl) (L0.out _ b1) Tryd.underlying100 rfl (by rw [sS]; exact Tryd.shaSs) SA HSA.out.symm) (by kernel_rfl) ?_)
      refine wpAny_tail 10 (by kernel_rfl) (by kernel_rfl) ?_
      simp only [List.drop_succ_cons, List.drop_zero]
      go_wp2_with (first
        | (go_at_call 92; (with_reducible refine (HSp.out _).mono ?_); rintro e w1 ⟨rfl, hb1⟩; have b1 : Below w.heap.size w w1 := bd.trans (hb1.mono bd.size))
        | (go_at_call 91; (with_reducible refine (HMx.out _ b1).mono ?_); rintro e w2 ⟨rfl, hb2⟩; have b2 : Below w.heap.size w w2 := b1.trans (hb2.mono b1.size))
        | (refine wpList_store_mid rfl 100 _ _ rfl g 0 CA rfl rfl (HSt.out _ b2) HCs HC1 ?_))
      go_end0
      exact ⟨rfl, HE.out _ b2⟩
end
section
open Go.ChangeShapes Go.WideShapes Go.ChangeAt Go.RowKit
def laidS : List (String × DataW Unit) := [("chantry/sha.roundNumbers", Rows.laid_chantry_sha_roundNumbers)]
theorem Tryd.gRounds : Tryd.prog.globalNamed "chantry/sha.roundNumbers" = some 0 := by kernel_rfl
theorem Tryd.tRounds : (Tryd.prog.globals[0]?).map (·.type) = some 113 := by kernel_rfl
theorem Tryd.cells35 : Tryd.prog.cellsOf 66 = 1 := by kernel_rfl
theorem Tryd.cells49 : Tryd.prog.cellsOf 113 = 64 := by kernel_rfl
theorem laidS_tab : laidS = [("chantry/sha.roundNumbers", Lib.tabData .u32 (kL.map fun x => (x.toNat : Int)))] := rfl
theorem door_met (os : Os) (args : Array Value) : laidMetH Tryd.prog laidS ((World.doorLaid Tryd.prog 400 os).forCall (fun _ _ => 0) ⟨#[], args, []⟩).memory :=
  laidMetH_of_parts3 (fuel := 8) (laidMet_of_run' 8 (by kernel_rfl) (by kernel_rfl)) (by kernel_rfl) (by kernel_rfl)
theorem tab_of_laid {W : World} (h : laidMetH Tryd.prog laidS W) : Tab W := by
  rw [MakeChecks.laidMetH_plain _ _ _ (by kernel_rfl), laidS_tab] at h
  have hI := Lib.tabIs_of_head Tryd.gRounds Tryd.tRounds Tryd.underlying113 Tryd.underlying66 Tryd.cells35 Tryd.cells49 h
  intro n hn
  rw [hI.cell Tryd.gRounds n (by simp [kL_length]; exact hn)]
  simp [List.getD, List.getElem?_eq_getElem (show n < kL.length by rw [kL_length]; exact hn)]
end
end Go.Proofs.YtinphkflfdpaeaaDoor
