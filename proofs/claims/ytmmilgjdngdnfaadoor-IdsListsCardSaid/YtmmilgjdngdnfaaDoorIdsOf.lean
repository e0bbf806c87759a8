/- The walks of the reference's Of, Union, Meet and Less (layer 4). -/
import Derived.Test.YtmmilgjdngdnfaaDoorIdsWith
set_option linter.unusedVariables false
namespace Go.Proofs.YtmmilgjdngdnfaaDoor
open Go.RowKit

theorem withL_length (l : List Bs) (x : Bs) : (withL l x).length ≤ l.length + 1 := by
  unfold withL
  have := placeL_le l x
  split
  · omega
  · simp; omega
theorem ofK_length (l : List Bs) : ∀ k, (ofK l k).length ≤ k
  | 0 => by simp [ofK]
  | k + 1 => by
    have ih := ofK_length l k
    rw [ofK]
    split
    · have := withL_length (ofK l k) (l.getD k []); omega
    · omega

set_option maxRecDepth 100000 in
set_option maxHeartbeats 1000000 in
theorem refOf_any (Ls : List Bs) (A : Option Addr) (n c B : Nat) (w : World) (HN : Hid (n = Ls.length)) (hr : SS w B A Ls) (hn : n ≤ 10000) :
    Calls Tryd.prog 15 #[.slice A n c] w (GivesStrs (ofL Ls) w) := by
  have HR : Hid (0 < Ls.length → ∃ b off, A = some ⟨b, off, none⟩ ∧ b < w.heap.size ∧ ∀ k, k < Ls.length → w.cell? ⟨b, off + k, none⟩ = some (.string (text (Ls.getD k [])))) := fun h => hr.lt.at_ h
  clear hr
  go_enter Tryd.func15, Tryd.ntmps15
  go_wp2
  go_loopw [3, 4] (fun v i wr => ∃ (k m d : Nat) (C : Option Addr), k ≤ n ∧ i = .int .i64 (k : Int) ∧ v = .slice C m d ∧ Hid (m = (ofK Ls k).length) ∧ m ≤ k ∧ m ≤ d ∧ d ≤ 9223372036854775807 ∧ Hid (SS wr wr.heap.size C (ofK Ls k)) ∧ Below w.heap.size w wr) (fun _ i _ => n - (intOf i).toNat)
  case atStart => exact ⟨0, 0, 0, none, by omega, rfl, rfl, rfl, by omega, by omega, by omega, SS.nil _ _ _, Below.refl _ _⟩
  case round =>
    obtain ⟨k, m, d, C, hk, rfl, rfl, HM, hmk, hmd, hd, HC, hb⟩ := hrel
    have u0 : (0 : Int) ≤ (k : Int) := by omega
    by_cases hlt : k < n
    · have hkL : k < Ls.length := by have := HN.out; omega
      obtain ⟨b, off, rfl, hbb, hcc⟩ := HR.out (by omega)
      obtain ⟨y, hy⟩ : ∃ y, y = Ls.getD k [] := ⟨_, rfl⟩
      obtain ⟨s, hs⟩ : ∃ s, s = text y := ⟨_, rfl⟩
      have hck := hcc k hkL
      rw [← hy, ← hs, ← hb.cell (p := ⟨b, off + k, none⟩) hbb] at hck
      have u1 : (k : Int) < (n : Int) := by omega
      have HRt : Hid (∀ V, Calls Tryd.prog 19 #[.string s] V fun e w' => e = .returned (.bool (rightB y)) ∧ V = w') := fun V => by rw [hs]; exact refRight_any y V
      have HW : Hid (Calls Tryd.prog 37 #[.slice C m d, .string s] wr (GivesStrs (withL (ofK Ls k) y) wr)) := by
        show Calls _ _ _ _ _
        rw [hs]; exact refWith_any (ofK Ls k) y C m d wr HM HC.out (by omega) hmd hd
      have HS : Hid (ofK Ls (k + 1) = if rightB y then withL (ofK Ls k) y else ofK Ls k) := by show _ = _; rw [ofK, ← hy]
      have HL := Lib.hid (ofK_length Ls (k + 1))
      cases hrt : rightB y with
      | true =>
        rw [hrt] at HRt HS
        clear hy hs hcc HR hrt hkL
        go_wp2_with (first
          | (go_at_call 19; (with_reducible refine (HRt.out _).mono ?_); rintro e w' ⟨rfl, rfl⟩)
          | (go_at_call 37; (with_reducible refine HW.out.mono ?_); rintro e w2 ⟨C2, d2, rfl, hS2, hl2, hd2, hb2⟩))
        refine ⟨⟨k + 1, _, d2, C2, by omega, by go_num, rfl, by show _ = _; rw [HS.out]; rfl, by have := HL.out; rw [HS.out] at this; exact this, hl2, hd2, by show SS _ _ _ _; rw [HS.out]; exact hS2, hb.trans (hb2.mono hb.size)⟩, ?_⟩
        simp [intOf]; omega
      | false =>
        rw [hrt] at HRt HS
        clear hy hs hcc HR hrt hkL HW
        go_wp2_with (first
          | (go_at_call 19; (with_reducible refine (HRt.out _).mono ?_); rintro e w' ⟨rfl, rfl⟩))
        refine ⟨⟨k + 1, m, d, C, by omega, by go_num, rfl, by show _ = _; rw [HS.out]; exact HM, by omega, hmd, hd, by show SS _ _ _ _; rw [HS.out]; exact HC, hb⟩, ?_⟩
        simp [intOf]; omega
    · have e : ofK Ls k = ofL Ls := by unfold ofL; rw [show k = Ls.length by have := HN.out; omega]
      rw [e] at HM HC
      clear HR e
      go_wp2
      go_ret
      exact ⟨C, d, by rw [← HM.out]; rfl, HC.out, by rw [← HM.out]; exact hmd, hd, hb⟩

set_option maxRecDepth 100000 in
set_option maxHeartbeats 1000000 in
theorem refUnion_any (Ls Ms : List Bs) (A C : Option Addr) (n c m d B : Nat) (w : World) (HN : Hid (n = Ls.length)) (HM : Hid (m = Ms.length)) (hr : SS w B A Ls) (hr2 : SS w B C Ms) (hn : n ≤ 5000) (hm : m ≤ 5000) :
    Calls Tryd.prog 21 #[.slice A n c, .slice C m d] w (GivesStrs (unionL Ls Ms) w) := by
  obtain ⟨i0, hi0, hz0, hz1, hz2⟩ := info_parts Tryd.infoStr
  have HR : Hid (Reads w w.heap.size 1 A n (scells Ls)) := by have h := hr.lt; unfold SS at h; rwa [← HN.out] at h
  have HR2 : Hid (Reads w w.heap.size 1 C m (scells Ms)) := by have h := hr2.lt; unfold SS at h; rwa [← HM.out] at h
  have HL : Hid (n + m = (Ls ++ Ms).length) := by show _ = _; rw [List.length_append, HN.out, HM.out]
  clear hr hr2
  go_enter Tryd.func21, Tryd.ntmps21
  go_wp2_with (first
    | (at_builtin; refine wpList_append_any _ rfl (.tmp 5) (.tmp 6) _ rfl w.heap.size 9 i0 _ 1 16 Tryd.underlying22 hi0 hz0 hz1 hz2 rfl (by omega) (.slice (some ⟨w.heap.size, 0, none⟩) 0 0) 0 [] rfl (World.ownsRow_made w #[] 0 (Nat.le_refl _) (by decide) rfl) w.heap.size A n c (scells Ls) rfl (HR.out.alloc (Nat.le_refl _) _) (scells_one _) (by simp only [maxLen]; omega) (by omega) (by simp) ?_; intro v1 w1 ho1 hg1 hat1; simp only [Nat.zero_add, List.nil_append] at ho1; have b1 : Below w.heap.size w w1 := ((Below.refl _ _).alloc (Nat.le_refl _) _).grown hg1 (by simp) (by simp [Value.ownBlock]))
    | (at_builtin; refine wpList_append_any _ rfl (.tmp 7) (.tmp 8) _ rfl w.heap.size 9 i0 _ 1 16 Tryd.underlying22 hi0 hz0 hz1 hz2 rfl (by omega) _ n (scells Ls) rfl ho1 w.heap.size C m d (scells Ms) rfl (HR2.out.below b1) (scells_one _) (by simp only [maxLen]; omega) (by omega) b1.size ?_; intro v2 w2 ho2 hg2 hat2; have b2 : Below w.heap.size w w2 := b1.grown hg2 b1.size (fun q hq => (ho1.lt q hq).1); rw [← scells_append] at ho2; obtain ⟨A2, c2, rfl⟩ := sown_form ho2; have hS := Lib.hid (show SS w2 w2.heap.size A2 (Ls ++ Ms) from (by refine own_ss (base := w.heap.size) (c := c2) ?_; rw [← HL.out]; exact ho2)); have HO := Lib.hid (refOf_any (Ls ++ Ms) A2 (n + m) c2 w2.heap.size w2 HL hS.out (by omega)))
    | (go_at_call 15; (with_reducible refine HO.out.mono ?_); rintro e w3 ⟨A3, c3, rfl, hS3, hl3, hc3, hb3⟩))
  go_ret
  exact ⟨A3, c3, rfl, hS3, hl3, hc3, b2.trans (hb3.mono b2.size)⟩

set_option maxRecDepth 100000 in
set_option maxHeartbeats 1000000 in
theorem refMeet_any (Ls Ms : List Bs) (A C : Option Addr) (n c m d B : Nat) (w : World) (HN : Hid (n = Ls.length)) (HM : Hid (m = Ms.length)) (hr : SS w B A Ls) (hr2 : SS w B C Ms) (hn : n ≤ 5000) (hm : m ≤ 5000) :
    Calls Tryd.prog 23 #[.slice A n c, .slice C m d] w (GivesStrs (meetL Ls Ms) w) := by
  obtain ⟨i0, hi0, hz0, hz1, hz2⟩ := info_parts Tryd.infoStr
  have HR : Hid (0 < Ls.length → ∃ b off, A = some ⟨b, off, none⟩ ∧ b < w.heap.size ∧ ∀ k, k < Ls.length → w.cell? ⟨b, off + k, none⟩ = some (.string (text (Ls.getD k [])))) := fun h => hr.lt.at_ h
  have HR2 : Hid (SS w w.heap.size C Ms) := hr2.lt
  clear hr hr2
  go_enter Tryd.func23, Tryd.ntmps23
  go_wp2
  go_loopw [5, 6] (fun v i wr => ∃ (k y : Nat), k ≤ n ∧ i = .int .i64 (k : Int) ∧ y ≤ k ∧ Hid (y = ((Ls.take k).filter fun x => hasL Ms x).length) ∧ wr.ownsRow w.heap.size 9 1 v y (scells ((Ls.take k).filter fun x => hasL Ms x)) ∧ Below w.heap.size w wr) (fun _ i _ => n - (intOf i).toNat)
  case atStart => exact ⟨0, 0, by omega, rfl, by omega, rfl, World.ownsRow_nil _ _ _ _, Below.refl _ _⟩
  case round =>
    obtain ⟨k, y, hk, rfl, hyk, HY, hown, hb⟩ := hrel
    have u0 : (0 : Int) ≤ (k : Int) := by omega
    by_cases hlt : k < n
    · have hkL : k < Ls.length := by have := HN.out; omega
      obtain ⟨b, off, rfl, hbb, hcc⟩ := HR.out (by omega)
      obtain ⟨x, hx⟩ : ∃ x, x = Ls.getD k [] := ⟨_, rfl⟩
      obtain ⟨s, hs⟩ : ∃ s, s = text x := ⟨_, rfl⟩
      have hck := hcc k hkL
      rw [← hx, ← hs, ← hb.cell (p := ⟨b, off + k, none⟩) hbb] at hck
      have u1 : (k : Int) < (n : Int) := by omega
      have HH : Hid (Calls Tryd.prog 17 #[.slice C m d, .string s] wr fun e w' => e = .returned (.bool (hasL Ms x)) ∧ wr = w') := by
        show Calls _ _ _ _ _
        rw [hs]; exact refHas_any Ms x C m d w.heap.size wr HM (HR2.out.below hb) (by omega)
      have HS : Hid ((Ls.take (k + 1)).filter (fun x => hasL Ms x) = (Ls.take k).filter (fun x => hasL Ms x) ++ if hasL Ms x then [x] else []) := by
        show _ = _
        have e : x = Ls[k] := by rw [hx, List.getD, List.getElem?_eq_getElem hkL]; rfl
        rw [List.take_succ_eq_append_getElem hkL, List.filter_append, ← e]
        congr 1
        cases h : hasL Ms x <;> simp [h]
      have Hs := Lib.hid hs
      cases hh : hasL Ms x with
      | true =>
        rw [hh] at HH HS
        clear hx hs hcc HR hh hkL
        go_wp2_with (first
          | (go_at_call 17; (with_reducible refine HH.out.mono ?_); rintro e w' ⟨rfl, rfl⟩)
          | (at_builtin; refine wpList_append_own _ rfl (.tmp 19) (.tmp 24) _ rfl w.heap.size 9 i0 _ 1 16 Tryd.underlying22 hi0 hz0 hz1 hz2 rfl (by omega) _ y (scells ((Ls.take k).filter fun x => hasL Ms x)) rfl (hown.alloc _) ⟨wr.heap.size, 0, none⟩ 1 1 [Value.string s] rfl rfl (cell_one_new _ _ _) (by intro u hu; rw [List.mem_singleton] at hu; subst hu; rfl) (by simp only [maxLen]; omega) (by omega) (by have := hb.size; simp; omega) ?_; intro v2 w2 ho2 hg2 hat2; have b2 : Below w.heap.size w w2 := (hb.alloc hb.size _).grown hg2 (by have := hb.size; simp; omega) (fun q hq => (hown.lt q hq).1)))
        have e2 : scells ((Ls.take k).filter fun x => hasL Ms x) ++ [Value.string s] = scells ((Ls.take (k + 1)).filter fun x => hasL Ms x) := by rw [HS.out, scells_append, Hs.out]; rfl
        rw [e2] at ho2
        refine ⟨⟨k + 1, y + 1, by omega, by go_num, by omega, by show _ = _; rw [HS.out, HY.out, List.length_append]; rfl, ho2, b2⟩, ?_⟩
        simp [intOf]; omega
      | false =>
        rw [hh] at HH HS
        clear hx hs hcc HR hh hkL
        have e2 : (Ls.take (k + 1)).filter (fun x => hasL Ms x) = (Ls.take k).filter (fun x => hasL Ms x) := HS.out.trans (List.append_nil _)
        have HE := Lib.hid e2
        clear e2
        go_wp2_with (first
          | (go_at_call 17; (with_reducible refine HH.out.mono ?_); rintro e w' ⟨rfl, rfl⟩))
        refine ⟨⟨k + 1, y, by omega, by go_num, by omega, by show _ = _; rw [HE.out]; exact HY.out, by rw [HE.out]; exact hown, hb⟩, ?_⟩
        simp [intOf]; omega
    · have e : (Ls.take k).filter (fun x => hasL Ms x) = Ls.filter (fun x => hasL Ms x) := by rw [List.take_of_length_le (by have := HN.out; omega)]
      rw [e] at HY hown
      obtain ⟨A2, c2, rfl⟩ := sown_form hown
      have hS : SS wr wr.heap.size A2 (Ls.filter fun x => hasL Ms x) := by refine own_ss (base := w.heap.size) (c := c2) ?_; rw [← HY.out]; exact hown
      have HO := Lib.hid (refOf_any (Ls.filter fun x => hasL Ms x) A2 y c2 wr.heap.size wr HY hS (by omega))
      clear HR e hown hS
      go_wp2_with (first
        | (go_at_call 15; (with_reducible refine HO.out.mono ?_); rintro e w3 ⟨A3, c3, rfl, hS3, hl3, hc3, hb3⟩))
      go_ret
      exact ⟨A3, c3, rfl, hS3, hl3, hc3, hb.trans (hb3.mono hb.size)⟩

set_option maxRecDepth 100000 in
set_option maxHeartbeats 1000000 in
theorem refLess_any (Ls Ms : List Bs) (A C : Option Addr) (n c m d B : Nat) (w : World) (HN : Hid (n = Ls.length)) (HM : Hid (m = Ms.length)) (hr : SS w B A Ls) (hr2 : SS w B C Ms) (hn : n ≤ 5000) (hm : m ≤ 5000) :
    Calls Tryd.prog 25 #[.slice A n c, .slice C m d] w (GivesStrs (lessL Ls Ms) w) := by
  obtain ⟨i0, hi0, hz0, hz1, hz2⟩ := info_parts Tryd.infoStr
  have HR : Hid (0 < Ls.length → ∃ b off, A = some ⟨b, off, none⟩ ∧ b < w.heap.size ∧ ∀ k, k < Ls.length → w.cell? ⟨b, off + k, none⟩ = some (.string (text (Ls.getD k [])))) := fun h => hr.lt.at_ h
  have HR2 : Hid (SS w w.heap.size C Ms) := hr2.lt
  clear hr hr2
  go_enter Tryd.func25, Tryd.ntmps25
  go_wp2
  go_loopw [5, 6] (fun v i wr => ∃ (k y : Nat), k ≤ n ∧ i = .int .i64 (k : Int) ∧ y ≤ k ∧ Hid (y = ((Ls.take k).filter fun x => !hasL Ms x).length) ∧ wr.ownsRow w.heap.size 9 1 v y (scells ((Ls.take k).filter fun x => !hasL Ms x)) ∧ Below w.heap.size w wr) (fun _ i _ => n - (intOf i).toNat)
  case atStart => exact ⟨0, 0, by omega, rfl, by omega, rfl, World.ownsRow_nil _ _ _ _, Below.refl _ _⟩
  case round =>
    obtain ⟨k, y, hk, rfl, hyk, HY, hown, hb⟩ := hrel
    have u0 : (0 : Int) ≤ (k : Int) := by omega
    by_cases hlt : k < n
    · have hkL : k < Ls.length := by have := HN.out; omega
      obtain ⟨b, off, rfl, hbb, hcc⟩ := HR.out (by omega)
      obtain ⟨x, hx⟩ : ∃ x, x = Ls.getD k [] := ⟨_, rfl⟩
      obtain ⟨s, hs⟩ : ∃ s, s = text x := ⟨_, rfl⟩
      have hck := hcc k hkL
      rw [← hx, ← hs, ← hb.cell (p := ⟨b, off + k, none⟩) hbb] at hck
      have u1 : (k : Int) < (n : Int) := by omega
      have HH : Hid (Calls Tryd.prog 17 #[.slice C m d, .string s] wr fun e w' => e = .returned (.bool (hasL Ms x)) ∧ wr = w') := by
        show Calls _ _ _ _ _
        rw [hs]; exact refHas_any Ms x C m d w.heap.size wr HM (HR2.out.below hb) (by omega)
      have HS : Hid ((Ls.take (k + 1)).filter (fun x => !hasL Ms x) = (Ls.take k).filter (fun x => !hasL Ms x) ++ if hasL Ms x then [] else [x]) := by
        show _ = _
        have e : x = Ls[k] := by rw [hx, List.getD, List.getElem?_eq_getElem hkL]; rfl
        rw [List.take_succ_eq_append_getElem hkL, List.filter_append, ← e]
        congr 1
        cases h : hasL Ms x <;> simp [h]
      have Hs := Lib.hid hs
      cases hh : hasL Ms x with
      | false =>
        rw [hh] at HH HS
        clear hx hs hcc HR hh hkL
        go_wp2_with (first
          | (go_at_call 17; (with_reducible refine HH.out.mono ?_); rintro e w' ⟨rfl, rfl⟩)
          | (at_builtin; refine wpList_append_own _ rfl (.tmp 20) (.tmp 25) _ rfl w.heap.size 9 i0 _ 1 16 Tryd.underlying22 hi0 hz0 hz1 hz2 rfl (by omega) _ y (scells ((Ls.take k).filter fun x => !hasL Ms x)) rfl (hown.alloc _) ⟨wr.heap.size, 0, none⟩ 1 1 [Value.string s] rfl rfl (cell_one_new _ _ _) (by intro u hu; rw [List.mem_singleton] at hu; subst hu; rfl) (by simp only [maxLen]; omega) (by omega) (by have := hb.size; simp; omega) ?_; intro v2 w2 ho2 hg2 hat2; have b2 : Below w.heap.size w w2 := (hb.alloc hb.size _).grown hg2 (by have := hb.size; simp; omega) (fun q hq => (hown.lt q hq).1)))
        have e2 : scells ((Ls.take k).filter fun x => !hasL Ms x) ++ [Value.string s] = scells ((Ls.take (k + 1)).filter fun x => !hasL Ms x) := by rw [HS.out, scells_append, Hs.out]; rfl
        rw [e2] at ho2
        refine ⟨⟨k + 1, y + 1, by omega, by go_num, by omega, by show _ = _; rw [HS.out, HY.out, List.length_append]; rfl, ho2, b2⟩, ?_⟩
        simp [intOf]; omega
      | true =>
        rw [hh] at HH HS
        clear hx hs hcc HR hh hkL
        have e2 : (Ls.take (k + 1)).filter (fun x => !hasL Ms x) = (Ls.take k).filter (fun x => !hasL Ms x) := HS.out.trans (List.append_nil _)
        have HE := Lib.hid e2
        clear e2
        go_wp2_with (first
          | (go_at_call 17; (with_reducible refine HH.out.mono ?_); rintro e w' ⟨rfl, rfl⟩))
        refine ⟨⟨k + 1, y, by omega, by go_num, by omega, by show _ = _; rw [HE.out]; exact HY.out, by rw [HE.out]; exact hown, hb⟩, ?_⟩
        simp [intOf]; omega
    · have e : (Ls.take k).filter (fun x => !hasL Ms x) = Ls.filter (fun x => !hasL Ms x) := by rw [List.take_of_length_le (by have := HN.out; omega)]
      rw [e] at HY hown
      obtain ⟨A2, c2, rfl⟩ := sown_form hown
      have hS : SS wr wr.heap.size A2 (Ls.filter fun x => !hasL Ms x) := by refine own_ss (base := w.heap.size) (c := c2) ?_; rw [← HY.out]; exact hown
      have HO := Lib.hid (refOf_any (Ls.filter fun x => !hasL Ms x) A2 y c2 wr.heap.size wr HY hS (by omega))
      clear HR e hown hS
      go_wp2_with (first
        | (go_at_call 15; (with_reducible refine HO.out.mono ?_); rintro e w3 ⟨A3, c3, rfl, hS3, hl3, hc3, hb3⟩))
      go_ret
      exact ⟨A3, c3, rfl, hS3, hl3, hc3, hb.trans (hb3.mono hb.size)⟩

end Go.Proofs.YtmmilgjdngdnfaaDoor
