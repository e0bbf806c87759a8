/- NumLong returns true for every int, and leaves memory that was there as it was; nothing is assumed beyond the statement itself. -/
import Derived.Test.YtdiihnpnjgadeaaAwakeb
import Derived.Test.YtdiihnpnjgadeaaLaw
namespace Go.Proofs.Ytdiihnpnjgadeaa
open Go.ChangeShapes Go.WideShapes Go.ChangeAt Go.RowKit

theorem stepText_put (L : List UInt8) (h : L.length ≤ 262144) : stepText (some (putL L.length ++ L)) = (some [], L) := by
  have hg := getL_put L.length L (by omega)
  have hn : stepNum (some (putL L.length ++ L)) = (some L, L.length) := by
    simp [stepNum, hg]
  unfold stepText
  rw [hn]
  simp only [stepTake]
  rw [if_neg (by omega), if_neg (by omega)]
  simp

theorem ctext_put (g : Nat) (L : List UInt8) (w : World) (hl : L.length ≤ 262144) (h : Cur w g (some (putL L.length ++ L))) : Calls Try.prog 19 #[.pointer (some ⟨g, 0, none⟩)] w (GivesCur g (some [], L) w) := by
  have := ctext_any g _ w h
  rwa [stepText_put L hl] at this

theorem left_0 (g : Nat) (w : World) (h : Cur w g (some [])) : Calls Try.prog 20 #[.pointer (some ⟨g, 0, none⟩)] w fun e w' => e = .returned (.int .i64 0) ∧ w = w' := left_any g _ w h
theorem bad_0 (g : Nat) (L : List UInt8) (w : World) (h : Cur w g (some L)) : Calls Try.prog 21 #[.pointer (some ⟨g, 0, none⟩)] w fun e w' => e = .returned (.bool false) ∧ w = w' := bad_any g _ w h

theorem made_rb {w w1 : World} {n : Nat} (hown : w1.ownsRow w.heap.size 5 1 (.slice (some ⟨w.heap.size, 0, none⟩) n n) n (madeCells (Value.int .u8 0).cells (n * 1)).toList) : RB w1 w1.heap.size (some ⟨w.heap.size, 0, none⟩) (List.replicate n 0) := by
  have h := World.ownsRow.lt hown w.heap.size rfl
  have e : (madeCells (Value.int .u8 0).cells (n * 1)).toList = cells (List.replicate n 0) := by
    rw [Nat.mul_one, show (Value.int IntKind.u8 0).cells = #[Value.int IntKind.u8 0] from rfl, toList_madeCells_one]
    simp [cells]
  rw [e] at hown
  have h2 := Reads.of_own hown
  unfold RB
  rw [List.length_replicate]
  exact h2

set_option maxRecDepth 100000 in
set_option maxHeartbeats 1000000 in
theorem long_any (n : Int) (w : World) : Calls Try.prog 5 #[.int .i64 n] w fun e w' => e = .returned (.bool true) ∧ Below w.heap.size w w' := by
  obtain ⟨i0, hi0, hz0, hz1, hz2⟩ := info_parts Try.info5
  have hby : i0.bytes = 1 := hz2
  by_cases h0 : n < 0
  · have hd : decide (n < 0) = true := by simp [h0]
    go_enter Try.func5, Try.ntmps5
    go_wp2_with (go_at_call 7; refine (awake_any _).mono ?_; rintro e w' ⟨rfl, hb⟩)
    go_ret
    exact ⟨rfl, hb⟩
  have hd0 : decide (n < 0) = false := by simp; omega
  by_cases h1 : 524288 < n
  · have hd : decide (524288 < n) = true := by simp [h1]
    go_enter Try.func5, Try.ntmps5
    go_wp2_with (go_at_call 7; refine (awake_any _).mono ?_; rintro e w' ⟨rfl, hb⟩)
    go_ret
    exact ⟨rfl, hb⟩
  have hd1 : decide (524288 < n) = false := by simp; omega
  obtain ⟨k, rfl⟩ : ∃ k : Nat, n = (k : Int) := ⟨n.toNat, by omega⟩
  by_cases h2 : 262144 < k
  · have h2' : (262144 : Int) < (k : Int) := by omega
    go_enter Try.func5, Try.ntmps5
    go_wp2_with (first
      | (at_make; refine wpList_make_full _ rfl _ _ 22 rfl w.heap.size 5 i0 _ 1 Try.underlying22 hi0 hz0 hz1 .i64 .i64 _ _ k rfl rfl rfl rfl (by rw [hby]; omega) (by unfold maxLen; omega) (Nat.le_refl _) ?_; intro w1 hown hgrow; have hb1 : Below w.heap.size w w1 := (Below.refl _ _).grown hgrow (Nat.le_refl _) (by simp); clear hown hgrow)
      | (go_at_call 16; (with_reducible refine (text_no [] _ _ _ _ h2).mono ?_); rintro e w' ⟨rfl, rfl⟩)
      | (go_at_call 7; refine (awake_any _).mono ?_; rintro e w2 ⟨rfl, hb2⟩))
    go_ret
    exact ⟨rfl, hb1.trans (hb2.mono hb1.size)⟩
  · obtain ⟨L, hL⟩ : ∃ L : List UInt8, L = List.replicate k 0 := ⟨_, rfl⟩
    have hl : L.length = k := by rw [hL]; simp
    have HL : Hid (List.replicate k 0 = L) := hL.symm
    have hl2 : L.length ≤ 262144 := by omega
    have hp5 := putL_len5 L.length (by omega)
    have HK : Hid (L.length = k) := hl
    clear hl hL
    obtain rfl : L.length = k := HK.out
    obtain ⟨M, hM⟩ : ∃ M : List UInt8, M = putL L.length ++ L := ⟨_, rfl⟩
    have hml : M.length ≤ 1048576 := by rw [hM]; simp; omega
    have HT : Hid (∀ (W : World) (A : Option Addr) (c : Nat), RB W W.heap.size A L → Calls Try.prog 16 #[.slice A L.length c] W (GivesBytes M W)) := by
      intro W A c h; rw [hM]; exact text_yes L A c 0 W h hl2
    have HC : Hid (∀ (W : World) (g : Nat), Cur W g (some M) → Calls Try.prog 19 #[.pointer (some ⟨g, 0, none⟩)] W (GivesCur g (some [], L) W)) := by
      intro W g h; rw [hM] at h; exact ctext_put g L W hl2 h
    clear hM hp5
    go_enter Try.func5, Try.ntmps5
    go_wp2_with (first
      | (at_make; refine wpList_make_full _ rfl _ _ 22 rfl w.heap.size 5 i0 _ 1 Try.underlying22 hi0 hz0 hz1 .i64 .i64 _ _ L.length rfl rfl rfl rfl (by rw [hby]; omega) (by unfold maxLen; omega) (Nat.le_refl _) ?_; intro w1 hown hgrow; have hb1 : Below w.heap.size w w1 := (Below.refl _ _).grown hgrow (Nat.le_refl _) (by simp); have hr1 := made_rb hown; rw [HL.out] at hr1; clear hown hgrow)
      | (go_at_call 16; (with_reducible refine (HT.out _ _ _ hr1).mono ?_); rintro e w2 ⟨A2, c2, rfl, ho2, hb2⟩)
      | (go_at_call 18; (with_reducible refine (from_any M _ _ _ (own_rb ho2) hml).mono ?_); rintro e w3 ⟨g, rfl, hg3, hcur3, hb3⟩)
      | (go_at_call 19; (with_reducible refine (HC.out _ _ hcur3).mono ?_); rintro e w4 ⟨A4, c4, rfl, hr4, hcur4, hon4⟩)
      | (go_at_call 20; (with_reducible refine (left_0 g _ hcur4).mono ?_); rintro e w' ⟨rfl, rfl⟩)
      | (go_at_call 21; (with_reducible refine (bad_0 g _ _ hcur4).mono ?_); rintro e w' ⟨rfl, rfl⟩)
      | (go_at_call 7; refine (awake_any _).mono ?_; rintro e w5 ⟨rfl, hb5⟩))
    go_ret
    have z1 := hb1.size
    have z2 := hb2.size
    have z3 := hb3.size
    have z4 := hon4.size
    exact ⟨rfl, (below_only ((hb1.trans (hb2.mono z1)).trans (hb3.mono (by omega))) hon4 (by omega) (by omega)).trans (hb5.mono (by omega))⟩

set_option maxRecDepth 100000 in
theorem long_lifted (os : Os) (started : os.Started) (H : Type) (enc : TypeId × Value → H) :
    ReturnsInHanded {} Try.checked os 5 .any (Rows.numLongSpec.pre6 enc Try.prog Try.f5 Rows.numLongRow.domain false) (Rows.numLongSpec.post enc Try.prog Try.f5 false true false false) := by
  refine returnsInHanded_of_change (C := Try.checked) Try.own started (by kernel_rfl) Try.func5
    (ChangeSpec.witness6 (enc := enc) (C := Try.checked) false ⟨#[], #[.int .i64 0], []⟩ 8 (by kernel_rfl) (by kernel_rfl) (by kernel_rfl) (by kernel_rfl)) ?_
  intro W base args ds gs before hval0 hW hcnd _
  have hval : ∀ (j : Nat) t v, Try.f5.params[j]? = some t → args[j]? = some v → Value.okWide Try.prog W .any base t v := hval0
  have hW' := hW
  obtain ⟨p, q, hA0, hV, rfl, hfz, hnd⟩ := hW
  have hA : DataW.TrodAll enc Try.prog W 0 (fun _ => true) true Try.f5.params.toList args.toList ds p := hA0
  rw [Try.params5] at hA hval
  obtain ⟨v0, d0, rfl, rfl, h0⟩ := trodAll_one hA
  obtain ⟨rfl, rfl⟩ := trodVars_none hV
  obtain ⟨a, rfl, rfl, rfl, wa⟩ := open_int Try.underlying3 (hval 0 3 v0 rfl rfl) h0
  clear hA0 hval0
  simp only [List.append_nil] at hW'
  refine (long_any a W).mono fun e W' ⟨he, hb⟩ => ?_
  subst he
  exact ⟨_, rfl, post_of_below (pa := []) (pv := []) hW' (fun _ _ _ => trodAll_mk1 (shut_bool Try.underlying4 true)) (fun sp _ => trodAll_mk1 (shut_int Try.underlying3 wa)) (fun _ _ => rfl) rfl hb
    (ok_one (by kernel_rfl) rfl (okWide_bool_mk Try.underlying4 true))⟩

theorem long_holds : Rows.NumLongSaid :=
  OpenClaim.holds_of_wide 5 Try.f5 rfl rfl rfl rfl rfl rfl rfl ⟨rfl, rfl, rfl, rfl, rfl⟩ rfl rfl rfl rfl rfl (by kernel_rfl) Try.func5 (by kernel_rfl)
    (of_decide_eq_true (by kernel_rfl)) (by unfold Func.isWrapper; first | (rw [if_pos (by decide +kernel)]; kernel_rfl) | (rw [if_neg (by decide +kernel)]; exact ⟨rfl, rfl⟩))
    (fun os started H enc _ => long_lifted os started H enc)

end Go.Proofs.Ytdiihnpnjgadeaa
