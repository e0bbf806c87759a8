/- The walks of the reference's Image, Sure (layer 6). -/
import Derived.Test.YthaljnnkpfeooaaDiskRSmall
set_option linter.unusedVariables false
namespace Go.Proofs.Ythaljnnkpfeooaa
open Go.RowKit

/-- The first k blocks of a disk, as they were written last. -/
def nowK (d : Dk) (k : Nat) : List UInt8 := (List.range k).flatMap d.now
theorem nowK_succ (d : Dk) (k : Nat) : nowK d (k + 1) = nowK d k ++ d.now k := by unfold nowK; rw [List.range_succ, List.flatMap_append]; simp
theorem nowK_length {d : Dk} (h : d.fit) : ∀ k, k ≤ d.safe.length → (nowK d k).length = 256 * k
  | 0, _ => rfl
  | k + 1, hk => by rw [nowK_succ, List.length_append, nowK_length h k (by omega), Dk.fit_now h (by omega)]; omega
theorem sureK_length {d : Dk} (h : d.fit) (k : Nat) (hk : k ≤ d.safe.length) : (d.safe.take k).flatten.length = 256 * k := by
  rw [Dk.flatten_length (fun b hb => h.1 b (List.mem_of_mem_take hb)), List.length_take]; omega

set_option maxRecDepth 100000 in
set_option maxHeartbeats 2000000 in
theorem rimage_any {w : World} {g : Nat} {G B : Nat → Prop} {d : Dk} (h : RDisk w g G B d) (hl : d.load ≤ 100000) :
    Calls Try.prog 39 #[.pointer (some ⟨g, 0, none⟩)] w (GivesOne d.image w) := by
  obtain ⟨i0, hi0, hz0, hz1, hz2⟩ := info_parts Try.info5
  have H := Lib.hid h
  obtain ⟨m, hm⟩ : ∃ m, m = d.safe.length := ⟨_, rfl⟩
  have Hm := Lib.hid hm
  have hmany := h.good.many
  rw [← hm] at hmany
  have HN : Hid (∀ W (k : Nat), Below w.heap.size w W → k < m → Calls Try.prog 51 #[.pointer (some ⟨g, 0, none⟩), .int .i64 (k : Int)] W fun e w' => (∃ b off c, e = .returned (.slice (some ⟨b, off, none⟩) 256 c) ∧ Hid (Reads W W.heap.size 1 (some ⟨b, off, none⟩) 256 (cells (d.now k)))) ∧ W = w') := fun W k hb hk => by
    refine (now_any (h.below hb) k (by omega) (by unfold Dk.load at hl; omega)).mono ?_
    rintro e w' ⟨⟨v, rfl, h256, b, off, c, rfl, _, _, _, hr⟩, rfl⟩
    refine ⟨⟨b, off, c, rfl, ?_⟩, rfl⟩
    unfold RB at hr
    rw [h256] at hr
    exact hr
  have HR0 : Hid (∀ W, Below w.heap.size w W → ∃ s cs, W.cell? ⟨g, 0, none⟩ = some (.slice (some ⟨s, 0, none⟩) m cs)) := fun W hb => by
    obtain ⟨s, cs, V, hs, hv, h⟩ := h.below hb
    exact ⟨s, cs, by rw [hm]; exact h.r0⟩
  clear h hm hl
  go_enter Try.func39, Try.ntmps39
  go_wp2
  go_loopw [3, 4] (fun v x wr => ∃ k : Nat, k ≤ m ∧ x = .int .i64 (k : Int) ∧ Hid (wr.ownsRow w.heap.size 5 1 v (256 * k) (cells (nowK d k))) ∧ Below w.heap.size w wr) (fun _ x _ => m - (intOf x).toNat)
  case atStart => exact ⟨0, by omega, rfl, World.ownsRow_nil _ _ _ _, Below.refl _ _⟩
  case round =>
    obtain ⟨k, hk, rfl, HO, hb⟩ := hrel
    obtain ⟨s, cs, r0⟩ := HR0.out wr hb
    by_cases hlt : k < m
    · have u0 : (0 : Int) ≤ (k : Int) := by omega
      have u1 : (k : Int) < (m : Int) := by omega
      have d0 : decide ((k : Int) < (m : Int)) = true := decide_eq_true u1
      have hN := Lib.hid (HN.out wr k hb hlt)
      go_wp2_with (first
        | (go_at_call 51; (with_reducible refine hN.out.mono ?_); rintro e w2 ⟨⟨b, off, c, rfl, hR⟩, rfl⟩)
        | (at_builtin; refine wpList_append_any _ rfl (.tmp 14) (.tmp 17) _ rfl w.heap.size 5 i0 _ 1 1 Try.underlying33 hi0 hz0 hz1 hz2 rfl (by omega) u3 (256 * k) (cells (nowK d k)) rfl HO.out _ (some ⟨b, off, none⟩) 256 c (cells (d.now k)) rfl hR.out (cells_one _) (by simp only [maxLen]; omega) (by omega) hb.size ?_; intro v5 w5 ho5 hg5 hat5; have HO5 : Hid (w5.ownsRow w.heap.size 5 1 v5 (256 * (k + 1)) (cells (nowK d (k + 1)))) := (by show World.ownsRow _ _ _ _ _ _ _; rw [nowK_succ, cells_append, show 256 * (k + 1) = 256 * k + 256 by omega]; exact ho5); have hb5 : Below w.heap.size w w5 := hb.grown hg5 hb.size (fun j hj => (HO.out.lt j hj).1)))
      refine ⟨⟨k + 1, by omega, by go_num, HO5, hb5⟩, ?_⟩
      simp [intOf]; omega
    · have hkm : k = m := by omega
      have d0 : decide ((k : Int) < (m : Int)) = false := decide_eq_false (by omega)
      have d1 : decide (k < m) = false := decide_eq_false hlt
      have HOE : Hid (wr.ownsRow w.heap.size 5 1 u3 d.image.length (cells d.image)) := by
        show World.ownsRow _ _ _ _ _ _ _
        have h1 := HO.out
        rw [hkm] at h1
        rw [Dk.image_length H.out.good.fit, ← Hm.out]
        have : nowK d m = d.image := by unfold nowK Dk.image; rw [Hm.out]
        rw [← this]; exact h1
      clear hkm HO hk hlt HN HR0
      go_wp2
      go_ret
      obtain ⟨A3, c3, hv⟩ := own_form HOE.out
      exact ⟨A3, c3, by rw [hv]; rfl, by have := HOE.out; rw [hv] at this; exact this, hb⟩

theorem Hdr.form {w : World} {B : Nat → Prop} {v : Value} {L : List UInt8} (h : Hdr w B v L) : ∃ b off c, v = .slice (some ⟨b, off, none⟩) 256 c ∧ Hid (Reads w w.heap.size 1 (some ⟨b, off, none⟩) 256 (cells L)) := by
  obtain ⟨h256, b, off, c, rfl, _, _, _, hr⟩ := h
  refine ⟨b, off, c, rfl, ?_⟩
  unfold RB at hr
  rw [h256] at hr
  exact hr
set_option maxRecDepth 100000 in
set_option maxHeartbeats 2000000 in
theorem rsure_any {w : World} {g : Nat} {G B : Nat → Prop} {d : Dk} (h : RDisk w g G B d) :
    Calls Try.prog 40 #[.pointer (some ⟨g, 0, none⟩)] w (GivesOne d.sure w) := by
  obtain ⟨i0, hi0, hz0, hz1, hz2⟩ := info_parts Try.info5
  have H := Lib.hid h
  obtain ⟨m, hm⟩ : ∃ m, m = d.safe.length := ⟨_, rfl⟩
  have Hm := Lib.hid hm
  have hmany := h.good.many
  rw [← hm] at hmany
  have HR0 : Hid (∀ W (k : Nat) (hk : k < d.safe.length), Below w.heap.size w W → ∃ s cs b off c, W.cell? ⟨g, 0, none⟩ = some (.slice (some ⟨s, 0, none⟩) m cs) ∧ W.cell? ⟨s, k, none⟩ = some (.slice (some ⟨b, off, none⟩) 256 c) ∧ Hid (Reads W W.heap.size 1 (some ⟨b, off, none⟩) 256 (cells d.safe[k]))) := fun W k hk hb => by
    obtain ⟨s, cs, V, hs, hv, h⟩ := h.below hb
    obtain ⟨v, _, h1, h2⟩ := h.at_ hk
    obtain ⟨b, off, c, rfl, h3⟩ := h2.form
    exact ⟨s, cs, b, off, c, by rw [hm]; exact h.r0, h1, h3⟩
  have HR1 : Hid (∀ W, Below w.heap.size w W → ∃ s cs, W.cell? ⟨g, 0, none⟩ = some (.slice (some ⟨s, 0, none⟩) m cs)) := fun W hb => by
    obtain ⟨s, cs, V, hs, hv, h⟩ := h.below hb
    exact ⟨s, cs, by rw [hm]; exact h.r0⟩
  clear h hm
  go_enter Try.func40, Try.ntmps40
  go_wp2
  go_loopw [3, 4] (fun v x wr => ∃ k : Nat, k ≤ m ∧ x = .int .i64 (k : Int) ∧ Hid (wr.ownsRow w.heap.size 5 1 v (256 * k) (cells (d.safe.take k).flatten)) ∧ Below w.heap.size w wr) (fun _ x _ => m - (intOf x).toNat)
  case atStart => exact ⟨0, by omega, rfl, World.ownsRow_nil _ _ _ _, Below.refl _ _⟩
  case round =>
    obtain ⟨k, hk, rfl, HO, hb⟩ := hrel
    by_cases hlt : k < m
    · have hk2 : k < d.safe.length := by have := Hm.out; omega
      obtain ⟨s, cs, b, off, c, r0, r1, hR⟩ := HR0.out wr k hk2 hb
      have hsn : Hid ((d.safe.take (k + 1)).flatten = (d.safe.take k).flatten ++ d.safe[k]) := by
        show _ = _
        rw [List.take_succ_eq_append_getElem hk2, List.flatten_append]; simp
      have u0 : (0 : Int) ≤ (k : Int) := by omega
      have u1 : (k : Int) < (m : Int) := by omega
      go_wp2_with (first
        | (at_builtin; refine wpList_append_any _ rfl (.tmp 14) (.tmp 21) _ rfl w.heap.size 5 i0 _ 1 1 Try.underlying33 hi0 hz0 hz1 hz2 rfl (by omega) u3 (256 * k) (cells (d.safe.take k).flatten) rfl HO.out _ (some ⟨b, off, none⟩) 256 c (cells d.safe[k]) rfl hR.out (cells_one _) (by simp only [maxLen]; omega) (by omega) hb.size ?_; intro v5 w5 ho5 hg5 hat5; have HO5 : Hid (w5.ownsRow w.heap.size 5 1 v5 (256 * (k + 1)) (cells (d.safe.take (k + 1)).flatten)) := (by show World.ownsRow _ _ _ _ _ _ _; rw [hsn.out, cells_append, show 256 * (k + 1) = 256 * k + 256 by omega]; exact ho5); have hb5 : Below w.heap.size w w5 := hb.grown hg5 hb.size (fun j hj => (HO.out.lt j hj).1)))
      refine ⟨⟨k + 1, by omega, by go_num, HO5, hb5⟩, ?_⟩
      simp [intOf]; omega
    · have hkm : k = m := by omega
      obtain ⟨s, cs, r0⟩ := HR1.out wr hb
      have d0 : decide ((k : Int) < (m : Int)) = false := decide_eq_false (by omega)
      have d1 : decide (k < m) = false := decide_eq_false hlt
      have HOE : Hid (wr.ownsRow w.heap.size 5 1 u3 d.sure.length (cells d.sure)) := by
        show World.ownsRow _ _ _ _ _ _ _
        have h1 := HO.out
        rw [hkm, Hm.out, List.take_length] at h1
        have h2 : d.sure.length = 256 * d.safe.length := Dk.flatten_length H.out.good.fit.1
        rw [h2]; exact h1
      clear hkm HO hk hlt HR0 HR1
      go_wp2
      go_ret
      obtain ⟨A3, c3, hv⟩ := own_form HOE.out
      exact ⟨A3, c3, by rw [hv]; rfl, by have := HOE.out; rw [hv] at this; exact this, hb⟩

end Go.Proofs.Ythaljnnkpfeooaa
