/- ShaParts returns true for every slice of slices of bytes, and leaves memory that was there as it was; the rounds' numbers lie as the program's text lays them (the card ties that); nothing else is assumed beyond the statement itself. -/
import Derived.Test.YtdpamanndcnolaaDoorShaOne
import Derived.Test.YtdpamanndcnolaaDoorOpenParts
set_option linter.unusedVariables false
namespace Go.Proofs.YtdpamanndcnolaaDoor
open Go.ChangeShapes Go.WideShapes Go.ChangeAt Go.RowKit

theorem HashAt.grown {w w' : World} {g : Nat} {L : List UInt8} {row : Option Nat} (h : HashAt w g L) (hg : w.grownBy w' row) (hne : some g ≠ row) : HashAt w' g L := by
  obtain ⟨blk, h1, h2⟩ := h
  exact ⟨blk, ⟨h1.1.grown hg hne, h1.2⟩, h2⟩
theorem own_only {w w' : World} {base g n : Nat} {v : Value} {xs : List Value} (h : w.ownsRow base 5 1 v n xs) (ho : Only w w' g) (hg : g < base) : w'.ownsRow base 5 1 v n xs := by
  refine World.ownsRow.kept h ho ?_
  cases hv : v.ownBlock with
  | none => exact .inl rfl
  | some k => exact .inr (by intro e; injection e with e; have := (h.lt k hv).1; omega)
theorem size_gives (L : List UInt8) (g n : Nat) (w : World) (h : HashAt w g L) (hl : L.length < 9223372036854775808) (hn : L.length = n) :
    Calls Tryd.prog 12 #[.pointer (some ⟨g, 0, none⟩)] w fun e w' => e = .returned (.int .i64 (n : Int)) ∧ w = w' := by
  subst hn
  exact size_any L g w h hl

set_option maxRecDepth 100000 in
set_option maxHeartbeats 2000000 in
theorem parts_any (Ls : List (List UInt8)) (A : Option Addr) (N c : Nat) (w : World) (HN : Hid (N = Ls.length)) (hp : Parts w w.heap.size A Ls) (hT : Tab w) :
    Calls Tryd.prog 4 #[.slice A N c] w fun e w' => e = .returned (.bool true) ∧ Below w.heap.size w w' := by
  have HTb : Hid (Tab w) := hT
  have hT0 := hT.lt
  have HAw : Hid (∀ V, Below w.heap.size w V → Calls Tryd.prog 6 #[] V fun e w' => e = .returned (.bool true) ∧ Below V.heap.size V w') := fun V hb => awake_any V (hT.below hb)
  have HBg := Lib.hid (fun V => begin_gives V)
  have HP : Hid (Parts w w.heap.size A Ls) := hp
  clear hT hp
  by_cases hl : 20 < N
  · have d1 : decide (20 < (N : Int)) = true := by simp; omega
    go_enter Tryd.func4, Tryd.ntmps4
    go_wp2_with (first
      | (go_at_call 9; (with_reducible refine (HBg.out w).mono ?_); rintro e w1 ⟨g, rfl, Hg, HK1, hb1⟩)
      | (go_at_call 6; (with_reducible refine (HAw.out _ hb1).mono ?_); rintro e w2 ⟨rfl, hb2⟩))
    go_ret
    exact ⟨rfl, hb1.trans (hb2.mono hb1.size)⟩
  have d1 : decide (20 < (N : Int)) = false := by simp; omega
  obtain ⟨i0, hi0, hz0, hz1, hz2⟩ := info_parts Tryd.info5
  go_enter Tryd.func4, Tryd.ntmps4
  go_wp2_with (first
    | (go_at_call 9; (with_reducible refine (HBg.out w).mono ?_); rintro e w1 ⟨g, rfl, Hg, HK1, hb1⟩))
  have hg1 : w.heap.size ≤ g := by have := Hg.out; omega
  have hg2 : g < w1.heap.size := HK1.out.lt
  go_loopw [4, 5, 6] (fun v i v6 wr => ∃ (k y : Nat), k ≤ N ∧ i = .int .i64 (k : Int) ∧ y ≤ 200 * k ∧ Hid (y = (Ls.take k).flatten.length) ∧ wr.ownsRow w1.heap.size 5 1 v y (cells (Ls.take k).flatten) ∧ Hid (HashAt wr g (Ls.take k).flatten) ∧ Below w.heap.size w wr ∧ w1.heap.size ≤ wr.heap.size) (fun _ i _ _ => N - (intOf i).toNat)
  case atStart => exact ⟨0, 0, by omega, rfl, by omega, rfl, World.ownsRow_nil _ _ _ _, HK1, hb1, Nat.le_refl _⟩
  case round =>
    obtain ⟨k, y, hk, rfl, hy, HY, hown, HK, hb, hz⟩ := hrel
    by_cases hlt : k < N
    · have hkL : k < Ls.length := by have := HN.out; omega
      obtain ⟨b, off, hA, hbb, hcs⟩ := HP.out (by omega)
      obtain ⟨Ai, ci, hci, hri, hli, hcm⟩ := hcs k hkL
      obtain ⟨M, hM⟩ : ∃ M, M = Ls[k] := ⟨_, rfl⟩
      rw [← hM] at hci hri hli
      obtain ⟨m, hm⟩ : ∃ m, m = M.length := ⟨_, rfl⟩
      rw [← hm] at hci hli
      have HF : Hid ((Ls.take (k + 1)).flatten = (Ls.take k).flatten ++ M) := by
        show _ = _
        rw [List.take_succ_eq_append_getElem hkL, List.flatten_append, hM]
        simp
      obtain ⟨F, hF⟩ : ∃ F, F = (Ls.take k).flatten := ⟨_, rfl⟩
      rw [← hF] at HY hown HK HF
      subst hA
      have cp : wr.cell? ⟨b, off + k, none⟩ = some (.slice Ai m ci) := by rw [hb.cell (p := ⟨b, off + k, none⟩) hbb]; exact hci
      have HR := Lib.hid hri
      have Hm := Lib.hid hm
      have k0 : (0 : Int) ≤ (k : Int) := by omega
      have k1 : (k : Int) < (N : Int) := by omega
      clear hci hri hM hm hF hcs hkL
      by_cases hbig : 200 < m
      · have d2 : (200 : Int) < (m : Int) := by omega
        go_wp2_with (go_at_call 6; (with_reducible refine (HAw.out _ hb).mono ?_); rintro e w2 ⟨rfl, hb2⟩)
        go_ret
        exact ⟨rfl, hb.trans (hb2.mono hb.size)⟩
      · have d2 : (m : Int) ≤ 200 := by omega
        have hyF : y = F.length := HY.out
        have hmM := Hm.out
        obtain ⟨t, ht⟩ : ∃ t, t = text (idL (F ++ M)) := ⟨_, rfl⟩
        have hFM : (F ++ M).length = y + m := by rw [List.length_append]; omega
        have HAdd : Hid (Calls Tryd.prog 10 #[.pointer (some ⟨g, 0, none⟩), .slice Ai m ci] wr fun e w' => e = .returned (.tuple #[]) ∧ HashAt w' g (F ++ M) ∧ Only wr w' g) :=
          add_lies F M g w.heap.size m Ai ci wr HK.out (by omega) (HTb.out.below hb) (HR.out.below hb) hg1 hmM (by omega) (by omega) (by unfold maxLen at hcm; omega)
        have HSum : Hid (∀ V, HashAt V g (F ++ M) → Below w.heap.size w V → Calls Tryd.prog 11 #[.pointer (some ⟨g, 0, none⟩)] V fun e w' => e = .returned (.string t) ∧ Below V.heap.size V w') := fun V h hV => sum_gives _ g V t h (HTb.out.below hV) (by omega) ht.symm
        have HSz : Hid (∀ V, HashAt V g (F ++ M) → Calls Tryd.prog 12 #[.pointer (some ⟨g, 0, none⟩)] V fun e w' => e = .returned (.int .i64 ((y + m : Nat) : Int)) ∧ V = w') := fun V h => size_gives _ g _ V h (by omega) hFM
        have HRef : Hid (∀ V A' c', RB V V.heap.size A' (F ++ M) → Calls Tryd.prog 8 #[.slice A' (y + m) c'] V fun e w' => e = .returned (.string t) ∧ Below V.heap.size V w') := fun V A' c' h => by
          rw [ht]; exact refID_any (F ++ M) A' c' V.heap.size V h (y + m) hFM (by omega)
        have HL := Lib.hid hFM
        clear ht hFM hyF hmM
        go_wp2_with (first
          | (go_at_call 10; (with_reducible refine HAdd.out.mono ?_); rintro e w2 ⟨rfl, hk2, ho2⟩; have HK2 := Lib.hid hk2; have b2 : Below w.heap.size w w2 := below_only hb ho2 hg1 hb.size; have hown2 := own_only hown ho2 hg2; have z2 := ho2.size; have hr2 := HR.out.below b2; have cp2 : w2.cell? ⟨b, off + k, none⟩ = some (.slice Ai m ci) := (b2.cell (p := ⟨b, off + k, none⟩) hbb).trans ((hb.cell (p := ⟨b, off + k, none⟩) hbb).symm.trans cp); clear hk2)
          | (at_builtin; refine wpList_append_any _ rfl (.tmp 35) (.tmp 39) _ rfl w1.heap.size 5 i0 _ 1 1 Tryd.underlying22 hi0 hz0 hz1 hz2 rfl (by omega) _ y (cells F) rfl hown2 w.heap.size Ai m ci (cells M) rfl (by have h := hr2; unfold RB at h; rw [← Hm.out] at h; exact h) (cells_one _) (by simp only [maxLen]; omega) (by omega) (by omega) ?_; intro v3 w3 ho3 hg3 hat3; have b3 : Below w.heap.size w w3 := b2.grown hg3 b2.size (fun q hq => Nat.le_trans hb1.size (hown2.lt q hq).1); have HK3 := Lib.hid (HK2.out.grown hg3 (by intro e; have := (hown2.lt g e.symm).1; omega)); have z3 := hg3.size; rw [← cells_append] at ho3; obtain ⟨A3, c3, rfl⟩ := own_form ho3; have hf3 : RB w3 w3.heap.size A3 (F ++ M) := (by refine Reads.of_own (base := w1.heap.size) (e := 5) (c := c3) ?_; rw [HL.out]; exact ho3); have HS3 := HSum.out w3 HK3.out b3)
          | (go_at_call 11; (with_reducible refine HS3.mono ?_); rintro e w4 ⟨rfl, hb4⟩; have b4 : Below w.heap.size w w4 := b3.trans (hb4.mono b3.size); have HK4 := Lib.hid (HK3.out.below hb4 HK3.out.lt); have ho4 := own_kept ho3 hb4; have hf4 := (hf3.below hb4).more hb4.size; have z4 := hb4.size; have HR4 := HRef.out w4 A3 c3 hf4; clear HS3)
          | (go_at_call 8; (with_reducible refine HR4.mono ?_); rintro e w5 ⟨rfl, hb5⟩; have b5 : Below w.heap.size w w5 := b4.trans (hb5.mono b4.size); have HK5 := Lib.hid (HK4.out.below hb5 HK4.out.lt); have ho5 := own_kept ho4 hb5; have z5 := hb5.size; have HS5 := HSum.out w5 HK5.out b5; clear HR4)
          | (go_at_call 11; (with_reducible refine HS5.mono ?_); rintro e w6 ⟨rfl, hb6⟩; have b6 : Below w.heap.size w w6 := b5.trans (hb6.mono b5.size); have HK6 := Lib.hid (HK5.out.below hb6 HK5.out.lt); have ho6 := own_kept ho5 hb6; have z6 := hb6.size; have HZ6 := HSz.out w6 HK6.out; clear HS5)
          | (go_at_call 12; (with_reducible refine HZ6.mono ?_); rintro e w' ⟨rfl, rfl⟩))
        rw [← HF.out] at ho6
        refine ⟨⟨k + 1, y + m, by omega, by go_num, by omega, by show _ = _; rw [HF.out]; exact HL.out.symm, ho6, by show HashAt _ _ _; rw [HF.out]; exact HK6.out, b6, by omega⟩, ?_⟩
        simp [intOf]; omega
    · have hkN : k = N := by omega
      clear HK hown
      go_wp2_with (go_at_call 6; (with_reducible refine (HAw.out _ hb).mono ?_); rintro e w2 ⟨rfl, hb2⟩)
      go_ret
      exact ⟨rfl, hb.trans (hb2.mono hb.size)⟩

theorem Tryd.cells22s : Tryd.prog.cellsOf 22 = 1 := by kernel_rfl
set_option maxRecDepth 100000 in
theorem parts_lifted (os : Os) (started : os.Started) (H : Type) (enc : TypeId × Value → H) :
    ReturnsInHanded {} Tryd.checked os 4 .any (fun w args => (Rows.shaPartsSpec.pre enc Tryd.prog Tryd.f4 [] false w args ∧ laidMetH Tryd.prog laidS w) ∧ sizedMet enc Tryd.prog Tryd.f4 (OpenSpec.ofChange Rows.shaPartsSpec) false w args)
      (Rows.shaPartsSpec.post enc Tryd.prog Tryd.f4 false true false false) := by
  refine returnsInHanded_of_change_and (C := Tryd.checked) (X := fun w _ => laidMetH Tryd.prog laidS w) (fun _ _ _ hh h => h.of_heap hh) Tryd.own started (by kernel_rfl) Tryd.func4
    (ChangeSpec.witness_shaped (enc := enc) (C := Tryd.checked) (os := os) (X := fun w _ => laidMetH Tryd.prog laidS w) false (World.doorLaid Tryd.prog 400 os) #[.slice none 0 0] 8 rfl (World.shaped_of_RefB (by kernel_rfl) (by kernel_rfl)) (by kernel_rfl) (by kernel_rfl) (by kernel_rfl) (door_met os _)) ?_
  intro W base args ds gs before hval0 hW hcnd hsz0 hL _
  have hval : ∀ (j : Nat) t v, Tryd.f4.params[j]? = some t → args[j]? = some v → Value.okWide Tryd.prog W .any base t v := hval0
  have hW' : DataW.Whole enc Tryd.prog Tryd.f4.params.toList Rows.shaPartsSpec.vars false W args.toList ds gs before := hW
  have hWk := hW'
  obtain ⟨p, q, hA, hV, rfl, hfz, hnd⟩ := hW'
  rw [Tryd.params4] at hA hval
  obtain ⟨v0, d0, rfl, rfl, h0⟩ := trodAll_one hA
  obtain ⟨rfl, rfl⟩ := trodVars_none hV
  obtain ⟨A, Ls, c, rfl, hp, hlc, hcm⟩ := open_parts Tryd.underlying26 Tryd.underlying22 Tryd.underlying5 Tryd.cells22s Tryd.cells5s (hval 0 26 v0 rfl rfl) h0
  refine (parts_any Ls A Ls.length c W rfl hp (tab_of_laid hL)).mono fun e W' ⟨he, hb⟩ => ⟨_, he, ?_⟩
  exact law_post Tryd.laidOut hWk rfl rfl rfl rfl rfl Tryd.underlying4 (by kernel_rfl) hb
theorem parts_said : Rows.ShaPartsSaid :=
  OpenClaim.holds_of_wide 4 Tryd.f4 rfl rfl rfl rfl rfl rfl rfl ⟨rfl, rfl, rfl, rfl, rfl⟩ rfl rfl rfl rfl rfl (by kernel_rfl) Tryd.func4 (by kernel_rfl)
    (of_decide_eq_true (by kernel_rfl)) (by unfold Func.isWrapper; first | (rw [if_pos (by decide +kernel)]; kernel_rfl) | (rw [if_neg (by decide +kernel)]; exact ⟨rfl, rfl⟩))
    (fun os started H enc _ => parts_lifted os started H enc)
theorem parts_holds : Rows.ShaPartsCardSaid :=
  Claim7.holds_tied_plain_at .later [] [.data] true Rows.shaPartsCard.stood.harness false
    parts_said (fun _ h => by cases h) (by kernel_rfl) (fun _ h => by cases h) shaParts_row_tie rfl ⟨rfl, rfl⟩ (by kernel_rfl) rfl
    (fun f fn hf hfn => by
      obtain rfl : f = 4 := Option.some.inj ((show Tryd.prog.funcNamed "chantry/chantrylaw03.ShaParts" = some 4 by kernel_rfl).symm.trans hf) |>.symm
      obtain rfl : fn = Tryd.f4 := (Option.some.inj (Tryd.func4.symm.trans hfn)).symm
      exact ⟨by kernel_rfl, fun j t ht => by
        rw [Tryd.params4] at ht
        have hm : t ∈ [26] := by simpa using Array.mem_of_getElem? ht
        have hall : ([26].all fun u => !Tryd.prog.wantsStandIn u) = true := by kernel_rfl
        exact (show Tryd.prog.wantsStandIn t = false by simpa using List.all_eq_true.1 hall t hm)⟩)
    (by kernel_rfl)

end Go.Proofs.YtdpamanndcnolaaDoor
