/- The walks of the reference's With and Of (layer 4). -/
import Derived.Test.YtmmilgjdngdnfaaDoorIdsRef
import Derived.Test.YtmmilgjdngdnfaaDoorShaPGives
set_option linter.unusedVariables false
namespace Go.Proofs.YtmmilgjdngdnfaaDoor
open Go.RowKit

set_option maxRecDepth 100000 in
set_option maxHeartbeats 2000000 in
theorem refWith_any (Ls : List Bs) (x : Bs) (A : Option Addr) (n c : Nat) (w : World) (HN : Hid (n = Ls.length)) (hr : SS w w.heap.size A Ls) (hn : n ≤ 10000) (hc : n ≤ c) (hcm : c ≤ 9223372036854775807) :
    Calls Tryd.prog 37 #[.slice A n c, .string (text x)] w (GivesStrs (withL Ls x) w) := by
  obtain ⟨i0, hi0, hz0, hz1, hz2⟩ := info_parts Tryd.infoStr
  obtain ⟨t, ht⟩ : ∃ t, t = text x := ⟨_, rfl⟩
  have Ht := Lib.hid ht
  have HS : Hid (SS w w.heap.size A Ls) := hr
  have HR : Hid (0 < Ls.length → ∃ b off, A = some ⟨b, off, none⟩ ∧ b < w.heap.size ∧ ∀ k, k < Ls.length → w.cell? ⟨b, off + k, none⟩ = some (.string (text (Ls.getD k [])))) := fun h => hr.at_ h
  rw [← ht]
  clear ht hr
  go_enter Tryd.func37, Tryd.ntmps37
  go_wp2
  go_loopw [5] (fun i wr => ∃ k : Nat, k ≤ n ∧ i = .int .i64 (k : Int) ∧ Hid (∀ j, j < k → Op.bytesLess (Ls.getD j []) x = true) ∧ w = wr) (fun i _ => n - (intOf i).toNat)
  case atStart => exact ⟨0, by omega, rfl, by intro j hj; omega, by trivial⟩
  case round =>
    obtain ⟨k, hk, rfl, HF, rfl⟩ := hrel
    have u0 : (0 : Int) ≤ (k : Int) := by omega
    have hnL := HN.out
    -- what stands behind the loop, where the place is found
    have after : Hid (k = placeL Ls x → True) := fun _ => trivial
    by_cases hlt : k < n
    · have hkL : k < Ls.length := by omega
      obtain ⟨b, off, hA, _, hcc⟩ := HR.out (by omega)
      obtain ⟨y, hy⟩ : ∃ y, y = Ls.getD k [] := ⟨_, rfl⟩
      obtain ⟨s, hs⟩ : ∃ s, s = text y := ⟨_, rfl⟩
      have hck := hcc k hkL
      rw [← hy, ← hs] at hck
      subst hA
      have d0 : decide ((k : Int) < (n : Int)) = true := decide_eq_true (by omega)
      have d1 : decide (k < n) = true := decide_eq_true hlt
      have u1 : (k : Int) < (n : Int) := by omega
      cases hls : Op.bytesLess y x with
      | true =>
        have hl : Op.bytesLess s.toList t.toList = true := by rw [hs, Ht.out, text_less]; exact hls
        have HH : Hid (∀ j, j < k + 1 → Op.bytesLess (Ls.getD j []) x = true) := fun j hj => by
          rcases Nat.lt_or_ge j k with h | h
          · exact HF.out j h
          · rw [show j = k by omega, ← hy]; exact hls
        clear hy hs hcc HR HF hls hnL hkL
        go_wp2
        refine ⟨⟨k + 1, by omega, by go_num, HH, by trivial⟩, ?_⟩
        simp [intOf]; omega
      | false =>
        have hl : Op.bytesLess s.toList t.toList = false := by rw [hs, Ht.out, text_less]; exact hls
        have HP : Hid (k = placeL Ls x) := placeL_unique Ls x k (by omega) HF.out (fun _ => by rw [← hy]; exact hls)
        by_cases he : y = x
        · have heq : (s.toList == t.toList) = true := by rw [hs, Ht.out, text_eq]; exact decide_eq_true he
          have HW : Hid (withL Ls x = Ls) := by
            show _ = _
            unfold withL
            rw [if_pos ⟨by rw [← HP.out]; exact hkL, by rw [← HP.out, ← hy]; exact he⟩]
          clear hy hs hcc HR HF hls HP he hnL hkL
          go_wp2
          go_ret
          refine ⟨_, c, ?_, by rw [HW.out]; exact HS.out, by rw [HW.out]; have := HN.out; omega, hcm, Below.refl _ _⟩
          rw [HW.out, ← HN.out]
          rfl
        · have heq : (s.toList == t.toList) = false := by rw [hs, Ht.out, text_eq]; exact decide_eq_false he
          have HW : Hid (withL Ls x = Ls.take k ++ x :: Ls.drop k) := by
            show _ = _
            unfold withL
            rw [if_neg (by rw [← HP.out, ← hy]; exact fun h => he h.2), ← HP.out]
          clear hy hs hcc HF hls HP he hkL
          have hkn : k ≤ n := hk
          have HT1 : Hid (Reads w w.heap.size 1 (some ⟨b, off, none⟩) k (scells (Ls.take k))) := by
            have h := HS.out.take k (by omega)
            unfold SS at h
            rwa [List.length_take, Nat.min_eq_left (by omega)] at h
          obtain ⟨Ak, hAk⟩ : ∃ Ak, Ak = (if c = k then (some ⟨b, off, none⟩ : Option Addr) else (some ⟨b, off, none⟩ : Option Addr).map (fun x => x.add (k * 1))) := ⟨_, rfl⟩
          have HT2 : Hid (Reads w w.heap.size 1 Ak (n - k) (scells (Ls.drop k))) := by
            have h := HS.out.cut (k := k) (c := c) (by omega) (by omega)
            rw [← hAk] at h
            unfold SS at h
            rwa [List.length_drop, ← hnL] at h
          have S1 : ∀ V, (Instr.sliceAt 22 (.slice (some ⟨b, off, none⟩) n c) none (some (.int .i64 (k : Int))) none).run Tryd.prog V = .ok (.slice (some ⟨b, off, none⟩) k c) V := fun V => sslice_front (some ⟨b, off, none⟩) n c k V (by omega)
          have S2 : ∀ V, (Instr.sliceAt 22 (.slice (some ⟨b, off, none⟩) n c) (some (.int .i64 (k : Int))) none none).run Tryd.prog V = .ok (.slice Ak (n - k) (c - k)) V := fun V => by rw [hAk]; exact sslice_back (some ⟨b, off, none⟩) n c k V hkn
          have HE : Hid (scells (Ls.take k) ++ [Value.string t] ++ scells (Ls.drop k) = scells (withL Ls x) ∧ k + 1 + (n - k) = (withL Ls x).length) := by
            refine ⟨?_, ?_⟩
            · rw [HW.out, Ht.out, scells_append]; simp [scells]
            · rw [HW.out, List.length_append, List.length_take, List.length_cons, List.length_drop]; omega
          clear hAk HR hnL
          go_wp2_with (first
            | (at_builtin; refine wpList_append_any _ rfl (.tmp 34) (.tmp 37) _ rfl w.heap.size 9 i0 _ 1 16 Tryd.underlying22 hi0 hz0 hz1 hz2 rfl (by omega) (.slice (some ⟨w.heap.size, 0, none⟩) 0 0) 0 [] rfl (World.ownsRow_made w #[] 0 (Nat.le_refl _) (by decide) rfl) w.heap.size (some ⟨b, off, none⟩) k c (scells (Ls.take k)) rfl (HT1.out.alloc (Nat.le_refl _) _) (scells_one _) (by simp only [maxLen]; omega) (by omega) (by simp) ?_; intro v1 w1 ho1 hg1 hat1; simp only [Nat.zero_add, List.nil_append] at ho1; have b1 : Below w.heap.size w w1 := ((Below.refl _ _).alloc (Nat.le_refl _) _).grown hg1 (by simp) (by simp [Value.ownBlock]))
            | (at_builtin; refine wpList_append_own _ rfl (.tmp 39) (.tmp 41) _ rfl w.heap.size 9 i0 _ 1 16 Tryd.underlying22 hi0 hz0 hz1 hz2 rfl (by omega) _ k (scells (Ls.take k)) rfl (ho1.alloc _) ⟨w1.heap.size, 0, none⟩ 1 1 [Value.string t] rfl rfl (cell_one_new _ _ _) (by intro u hu; rw [List.mem_singleton] at hu; subst hu; rfl) (by simp only [maxLen]; omega) (by omega) (by have := b1.size; simp; omega) ?_; intro v2 w2 ho2 hg2 hat2; have b2 : Below w.heap.size w w2 := (b1.alloc b1.size _).grown hg2 (by have := b1.size; simp; omega) (fun q hq => (ho1.lt q hq).1))
            | (at_builtin; refine wpList_append_any _ rfl (.tmp 43) (.tmp 46) _ rfl w.heap.size 9 i0 _ 1 16 Tryd.underlying22 hi0 hz0 hz1 hz2 rfl (by omega) _ (k + 1) (scells (Ls.take k) ++ [Value.string t]) rfl ho2 w.heap.size Ak (n - k) (c - k) (scells (Ls.drop k)) rfl (HT2.out.below b2) (scells_one _) (by simp only [maxLen]; omega) (by omega) b2.size ?_; intro v3 w3 ho3 hg3 hat3; have b3 : Below w.heap.size w w3 := b2.grown hg3 b2.size (fun q hq => (ho2.lt q hq).1)))
          rw [HE.out.1, HE.out.2] at ho3
          go_ret
          exact GivesStrs.own ho3 b3
    · have hkn2 : k = n := by omega
      have HP : Hid (k = placeL Ls x) := placeL_unique Ls x k (by omega) HF.out (fun h => by omega)
      have HW : Hid (withL Ls x = Ls.take k ++ x :: Ls.drop k) := by
        show _ = _
        unfold withL
        rw [if_neg (by rw [← HP.out]; exact fun h => by omega), ← HP.out]
      have d0 : decide ((k : Int) < (n : Int)) = false := decide_eq_false (by omega)
      have d1 : decide (k < n) = false := decide_eq_false (by omega)
      clear HP HF hkn2 hlt
      have hkn : k ≤ n := hk
      have HT1 : Hid (Reads w w.heap.size 1 A k (scells (Ls.take k))) := by
        have h := HS.out.take k (by omega)
        unfold SS at h
        rwa [List.length_take, Nat.min_eq_left (by omega)] at h
      obtain ⟨Ak, hAk⟩ : ∃ Ak, Ak = (if c = k then A else A.map (fun x => x.add (k * 1))) := ⟨_, rfl⟩
      have HT2 : Hid (Reads w w.heap.size 1 Ak (n - k) (scells (Ls.drop k))) := by
        have h := HS.out.cut (k := k) (c := c) (by omega) (by omega)
        rw [← hAk] at h
        unfold SS at h
        rwa [List.length_drop, ← hnL] at h
      have S1 : ∀ V, (Instr.sliceAt 22 (.slice A n c) none (some (.int .i64 (k : Int))) none).run Tryd.prog V = .ok (.slice A k c) V := fun V => sslice_front A n c k V (by omega)
      have S2 : ∀ V, (Instr.sliceAt 22 (.slice A n c) (some (.int .i64 (k : Int))) none none).run Tryd.prog V = .ok (.slice Ak (n - k) (c - k)) V := fun V => by rw [hAk]; exact sslice_back A n c k V hkn
      have HE : Hid (scells (Ls.take k) ++ [Value.string t] ++ scells (Ls.drop k) = scells (withL Ls x) ∧ k + 1 + (n - k) = (withL Ls x).length) := by
        refine ⟨?_, ?_⟩
        · rw [HW.out, Ht.out, scells_append]; simp [scells]
        · rw [HW.out, List.length_append, List.length_take, List.length_cons, List.length_drop]; omega
      clear hAk HR hnL
      go_wp2_with (first
        | (at_builtin; refine wpList_append_any _ rfl (.tmp 34) (.tmp 37) _ rfl w.heap.size 9 i0 _ 1 16 Tryd.underlying22 hi0 hz0 hz1 hz2 rfl (by omega) (.slice (some ⟨w.heap.size, 0, none⟩) 0 0) 0 [] rfl (World.ownsRow_made w #[] 0 (Nat.le_refl _) (by decide) rfl) w.heap.size A k c (scells (Ls.take k)) rfl (HT1.out.alloc (Nat.le_refl _) _) (scells_one _) (by simp only [maxLen]; omega) (by omega) (by simp) ?_; intro v1 w1 ho1 hg1 hat1; simp only [Nat.zero_add, List.nil_append] at ho1; have b1 : Below w.heap.size w w1 := ((Below.refl _ _).alloc (Nat.le_refl _) _).grown hg1 (by simp) (by simp [Value.ownBlock]))
        | (at_builtin; refine wpList_append_own _ rfl (.tmp 39) (.tmp 41) _ rfl w.heap.size 9 i0 _ 1 16 Tryd.underlying22 hi0 hz0 hz1 hz2 rfl (by omega) _ k (scells (Ls.take k)) rfl (ho1.alloc _) ⟨w1.heap.size, 0, none⟩ 1 1 [Value.string t] rfl rfl (cell_one_new _ _ _) (by intro u hu; rw [List.mem_singleton] at hu; subst hu; rfl) (by simp only [maxLen]; omega) (by omega) (by have := b1.size; simp; omega) ?_; intro v2 w2 ho2 hg2 hat2; have b2 : Below w.heap.size w w2 := (b1.alloc b1.size _).grown hg2 (by have := b1.size; simp; omega) (fun q hq => (ho1.lt q hq).1))
        | (at_builtin; refine wpList_append_any _ rfl (.tmp 43) (.tmp 46) _ rfl w.heap.size 9 i0 _ 1 16 Tryd.underlying22 hi0 hz0 hz1 hz2 rfl (by omega) _ (k + 1) (scells (Ls.take k) ++ [Value.string t]) rfl ho2 w.heap.size Ak (n - k) (c - k) (scells (Ls.drop k)) rfl (HT2.out.below b2) (scells_one _) (by simp only [maxLen]; omega) (by omega) b2.size ?_; intro v3 w3 ho3 hg3 hat3; have b3 : Below w.heap.size w w3 := b2.grown hg3 b2.size (fun q hq => (ho2.lt q hq).1)))
      rw [HE.out.1, HE.out.2] at ho3
      go_ret
      exact GivesStrs.own ho3 b3

end Go.Proofs.YtmmilgjdngdnfaaDoor
