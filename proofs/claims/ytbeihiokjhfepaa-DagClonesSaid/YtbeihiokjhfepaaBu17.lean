/- Lemmas under the proofs of this place: IdsLessR. No statement is proved here. -/
import Derived.Test.YtbeihiokjhfepaaBu15
set_option linter.unusedVariables false
set_option maxRecDepth 100000
set_option maxHeartbeats 16000000
namespace Go.Proofs.Ytbeihiokjhfepaa
open Go.RowKit
theorem refLess_any (Ls Ms : List Bs) (A C : Option Addr) (n c m d B : Nat) (w : World) (HN : Hid (n = Ls.length)) (HM : Hid (m = Ms.length)) (hr : SS w B A Ls) (hr2 : SS w B C Ms) (hn : n ≤ 5000) (hm : m ≤ 5000) :
    Calls Try.prog 31 #[.slice A n c, .slice C m d] w (GivesStrs (lessL Ls Ms) w) := by
  obtain ⟨i0, hi0, hz0, hz1, hz2⟩ := info_parts Try.infoStr
  have HR : Hid (0 < Ls.length → ∃ b off, A = some ⟨b, off, none⟩ ∧ b < w.heap.size ∧ ∀ k, k < Ls.length → w.cell? ⟨b, off + k, none⟩ = some (.string (text (Ls.getD k [])))) := fun h => hr.lt.at_ h
  have HR2 : Hid (SS w w.heap.size C Ms) := hr2.lt
  clear hr hr2
  go_enter Try.func31, Try.ntmps31
  go_wp2
  go_loopw [5, 6] (fun v i wr => ∃ (k y : Nat), k ≤ n ∧ i = .int .i64 (k : Int) ∧ y ≤ k ∧ Hid (y = ((Ls.take k).filter fun x => !hasL Ms x).length) ∧ wr.ownsRow w.heap.size 9 1 v y (scells ((Ls.take k).filter fun x => !hasL Ms x)) ∧ Below w.heap.size w wr) (fun _ i _ => n - (intOf i).toNat)
  case atStart => exact ⟨0, 0, by omega, rfl, by omega, rfl, World.ownsRow_nil _ _ _ _, Below.refl _ _⟩
  case round =>
    obtain ⟨k, y, hk, rfl, hyk, HY, hown, hb⟩ := hrel
    have u0 : (0 : Int) ≤ (k : Int) := by omega
    by_cases hlt : k < n
    · have hkL : k < Ls.length := by have := HN.out; omega
      obtain ⟨b, off, rfl, hbb, hcc⟩ := HR.out (by omega)
      obtain ⟨x, hx⟩ : ∃ x, x = Ls.getD k [] := ⟨_, rfl⟩
      obtain ⟨s, hs⟩ : ∃ s, s = text x := ⟨_, rfl⟩
      have hck := hcc k hkL
      rw [← hx, ← hs, ← hb.cell (p := ⟨b, off + k, none⟩) hbb] at hck
      have u1 : (k : Int) < (n : Int) := by omega
      have HH : Hid (Calls Try.prog 29 #[.slice C m d, .string s] wr fun e w' => e = .returned (.bool (hasL Ms x)) ∧ wr = w') := by
        show Calls _ _ _ _ _
        rw [hs]; exact refHas_any Ms x C m d w.heap.size wr HM (HR2.out.below hb) (by omega)
      have HS : Hid ((Ls.take (k + 1)).filter (fun x => !hasL Ms x) = (Ls.take k).filter (fun x => !hasL Ms x) ++ if hasL Ms x then [] else [x]) := by
        show _ = _
        have e : x = Ls[k] := by rw [hx, List.getD, List.getElem?_eq_getElem hkL]; rfl
        rw [List.take_succ_eq_append_getElem hkL, List.filter_append, ← e]
        congr 1
        cases h : hasL Ms x <;> simp [h]
      have Hs := Lib.hid hs
      cases hh : hasL Ms x with
      | false =>
        rw [hh] at HH HS
        clear hx hs hcc HR hh hkL
        go_wp2_with (first
          | (go_at_call 29; (with_reducible refine HH.out.mono ?_); rintro e w' ⟨rfl, rfl⟩)
          | (at_builtin; refine wpList_append_own _ rfl (.tmp 20) (.tmp 25) _ rfl w.heap.size 9 i0 _ 1 16 Try.underlying33 hi0 hz0 hz1 hz2 rfl (by omega) _ y (scells ((Ls.take k).filter fun x => !hasL Ms x)) rfl (hown.alloc _) ⟨wr.heap.size, 0, none⟩ 1 1 [Value.string s] rfl rfl (cell_one_new _ _ _) (by intro u hu; rw [List.mem_singleton] at hu; subst hu; rfl) (by simp only [maxLen]; omega) (by omega) (by have := hb.size; simp; omega) ?_; intro v2 w2 ho2 hg2 hat2; have b2 : Below w.heap.size w w2 := (hb.alloc hb.size _).grown hg2 (by have := hb.size; simp; omega) (fun q hq => (hown.lt q hq).1)))
        have e2 : scells ((Ls.take k).filter fun x => !hasL Ms x) ++ [Value.string s] = scells ((Ls.take (k + 1)).filter fun x => !hasL Ms x) := by rw [HS.out, scells_append, Hs.out]; rfl
        rw [e2] at ho2
        refine ⟨⟨k + 1, y + 1, by omega, by go_num, by omega, by show _ = _; rw [HS.out, HY.out, List.length_append]; rfl, ho2, b2⟩, ?_⟩
        simp [intOf]; omega
      | true =>
        rw [hh] at HH HS
        clear hx hs hcc HR hh hkL
        have e2 : (Ls.take (k + 1)).filter (fun x => !hasL Ms x) = (Ls.take k).filter (fun x => !hasL Ms x) := HS.out.trans (List.append_nil _)
        have HE := Lib.hid e2
        clear e2
        go_wp2_with (first
          | (go_at_call 29; (with_reducible refine HH.out.mono ?_); rintro e w' ⟨rfl, rfl⟩))
        refine ⟨⟨k + 1, y, by omega, by go_num, by omega, by show _ = _; rw [HE.out]; exact HY.out, by rw [HE.out]; exact hown, hb⟩, ?_⟩
        simp [intOf]; omega
    · have e : (Ls.take k).filter (fun x => !hasL Ms x) = Ls.filter (fun x => !hasL Ms x) := by rw [List.take_of_length_le (by have := HN.out; omega)]
      rw [e] at HY hown
      obtain ⟨A2, c2, rfl⟩ := sown_form hown
      have hS : SS wr wr.heap.size A2 (Ls.filter fun x => !hasL Ms x) := by refine own_ss (base := w.heap.size) (c := c2) ?_; rw [← HY.out]; exact hown
      have HO := Lib.hid (refOf_any (Ls.filter fun x => !hasL Ms x) A2 y c2 wr.heap.size wr HY hS (by omega))
      clear HR e hown hS
      go_wp2_with (first
        | (go_at_call 48; (with_reducible refine HO.out.mono ?_); rintro e w3 ⟨A3, c3, rfl, hS3, hl3, hc3, hb3⟩))
      go_ret
      exact ⟨A3, c3, rfl, hS3, hl3, hc3, hb.trans (hb3.mono hb.size)⟩
end Go.Proofs.Ytbeihiokjhfepaa
