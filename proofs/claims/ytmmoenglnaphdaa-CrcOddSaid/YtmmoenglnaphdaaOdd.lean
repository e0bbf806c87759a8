/- CrcOdd returns true for every three slices of bytes, and leaves memory that was there as it was; nothing is assumed beyond the statement itself. -/
import Derived.Test.YtmmoenglnaphdaaAwake
import Derived.Test.YtmmoenglnaphdaaLaw
import Derived.Deep.RegionHeldLaw
set_option linter.unusedVariables false
namespace Go.Proofs.Ytmmoenglnaphdaa
open Go.ChangeShapes Go.WideShapes Go.ChangeAt Go.RowKit

theorem xorL_take : ∀ (L M : List UInt8) (k : Nat) (h : k < L.length) (h2 : k < M.length), xorL (L.take (k + 1)) (M.take (k + 1)) = xorL (L.take k) (M.take k) ++ [L[k] ^^^ M[k]] := by
  intro L
  induction L with
  | nil => intro M k h; simp at h
  | cons x L ih =>
    intro M k h h2
    cases M with
    | nil => simp at h2
    | cons y M =>
      cases k with
      | zero => simp [xorL]
      | succ k =>
        simp only [List.take_succ_cons, xorL, List.cons_append, List.getElem_cons_succ]
        rw [ih M k (by simpa using h) (by simpa using h2)]
theorem xor3_take (L M N : List UInt8) (k : Nat) (h : k < L.length) (h2 : k < M.length) (h3 : k < N.length) :
    xorL (xorL (L.take (k + 1)) (M.take (k + 1))) (N.take (k + 1)) = xorL (xorL (L.take k) (M.take k)) (N.take k) ++ [L[k] ^^^ M[k] ^^^ N[k]] := by
  have hl : ∀ j, j ≤ k + 1 → (xorL (L.take j) (M.take j)).length = j := fun j hj => by rw [xorL_length _ _ (by rw [List.length_take, List.length_take]; omega), List.length_take]; omega
  have e1 := xorL_take L M k h h2
  have ek := hl k (by omega)
  have hx := xorL_take (xorL (L.take (k + 1)) (M.take (k + 1))) N k (by rw [hl _ (Nat.le_refl _)]; omega) h3
  have h4 : (xorL (L.take (k + 1)) (M.take (k + 1))).take (k + 1) = xorL (L.take (k + 1)) (M.take (k + 1)) := List.take_of_length_le (by rw [hl _ (Nat.le_refl _)]; omega)
  have h5 : (xorL (L.take (k + 1)) (M.take (k + 1))).take k = xorL (L.take k) (M.take k) := by rw [e1, List.take_append_of_le_length (by omega), List.take_of_length_le (by omega)]
  rw [h4, h5] at hx
  rw [hx]
  congr 2
  simp only [e1, List.getElem_append, ek]
  simp

theorem u8_xor_byte (a b : UInt8) : bits .xor .u8 (a.toNat : Int) (b.toNat : Int) = ((a ^^^ b).toNat : Int) := by
  rw [u8_xor_nat _ _ a.toNat_lt b.toNat_lt, UInt8.toNat_xor]

set_option maxRecDepth 100000 in
set_option maxHeartbeats 4000000 in
theorem odd_core (L M N : List UInt8) (A C E : Option Addr) (c d e0 : Nat) (w : World) (hr : RB w w.heap.size A L) (hr2 : RB w w.heap.size C M) (hr3 : RB w w.heap.size E N) (hl : ¬ 500 < L.length) (n : Nat)
    (HL : Hid (L.length = n)) (HM : Hid (M.length = n)) (HN : Hid (N.length = n)) :
    Calls Try.prog 6 #[.slice A n c, .slice C n d, .slice E n e0] w fun e w' => e = .returned (.bool true) ∧ Below w.heap.size w w' := by
  obtain ⟨i0, hi0, hz0, hz1, hz2⟩ := info_parts Try.info5
  have hn5 : ¬ 500 < n := by rw [← HL.out]; exact hl
  clear hl
  go_enter Try.func6, Try.ntmps6
  go_wp2
  go_loopw [7, 8] (fun v i wr => ∃ (k : Nat), k ≤ n ∧ i = .int .i64 (k : Int) ∧ wr.ownsRow w.heap.size 5 1 v k (cells (xorL (xorL (L.take k) (M.take k)) (N.take k))) ∧ Below w.heap.size w wr) (fun _ i _ => n - (intOf i).toNat)
  case atStart => exact ⟨0, Nat.zero_le _, rfl, World.ownsRow_nil _ _ _ _, Below.refl _ _⟩
  case round =>
    obtain ⟨k, hk, rfl, hown, hbw⟩ := hrel
    by_cases hlt : k < n
    · have hkl : k < L.length := by rw [HL.out]; exact hlt
      have hkm : k < M.length := by rw [HM.out]; exact hlt
      have hkn : k < N.length := by rw [HN.out]; exact hlt
      obtain ⟨b1, o1, rfl, hb1, hc1⟩ := RB.at_ (hr.below hbw) (by omega)
      obtain ⟨b2, o2, rfl, hb2, hc2⟩ := RB.at_ (hr2.below hbw) (by omega)
      obtain ⟨b3, o3, rfl, hb3, hc3⟩ := RB.at_ (hr3.below hbw) (by omega)
      obtain ⟨x, hx⟩ : ∃ x, x = L[k] := ⟨_, rfl⟩
      obtain ⟨y, hy⟩ : ∃ y, y = M[k] := ⟨_, rfl⟩
      obtain ⟨z, hz⟩ : ∃ z, z = N[k] := ⟨_, rfl⟩
      have g1 := hc1 k hkl
      have g2 := hc2 k hkm
      have g3 := hc3 k hkn
      rw [← hx] at g1
      rw [← hy] at g2
      rw [← hz] at g3
      have HX : Hid (xorL (xorL (L.take (k + 1)) (M.take (k + 1))) (N.take (k + 1)) = xorL (xorL (L.take k) (M.take k)) (N.take k) ++ [x ^^^ y ^^^ z]) := by
        show _ = _; rw [hx, hy, hz]; exact xor3_take L M N k hkl hkm hkn
      obtain ⟨b, hb⟩ : ∃ b, b = x ^^^ y ^^^ z := ⟨_, rfl⟩
      have hq1 : bits .xor .u8 (x.toNat : Int) (y.toNat : Int) = ((x.toNat ^^^ y.toNat : Nat) : Int) := u8_xor_nat _ _ x.toNat_lt y.toNat_lt
      have hq2 : bits .xor .u8 ((x.toNat ^^^ y.toNat : Nat) : Int) (z.toNat : Int) = (b.toNat : Int) := by
        rw [hb, UInt8.toNat_xor, UInt8.toNat_xor]
        exact u8_xor_nat _ _ (Nat.xor_lt_two_pow (n := 8) x.toNat_lt y.toNat_lt) z.toNat_lt
      rw [← hb] at HX
      obtain ⟨X, hX⟩ : ∃ X, X = xorL (xorL (L.take k) (M.take k)) (N.take k) := ⟨_, rfl⟩
      rw [← hX] at HX hown
      clear hX
      clear hb hx hy hz hc1 hc2 hc3 hkl hkm hkn
      go_wp2
      have g1w := (hbw.cell (p := ⟨b1, o1 + k, none⟩) hb1).symm.trans g1
      have g2w := (hbw.cell (p := ⟨b2, o2 + k, none⟩) hb2).symm.trans g2
      have g3w := (hbw.cell (p := ⟨b3, o3 + k, none⟩) hb3).symm.trans g3
      have hnew := rb_new wr [b]
      have hz9 := hbw.size
      go_region_held_law (fun w' => w'.cell? ⟨b1, o1 + k, none⟩ = some (.int .u8 (x.toNat : Int)) ∧ w'.cell? ⟨b2, o2 + k, none⟩ = some (.int .u8 (y.toNat : Int)) ∧ w'.cell? ⟨b3, o3 + k, none⟩ = some (.int .u8 (z.toNat : Int)))
        (first | go_keep | exact ⟨(hbw1.cell (p := ⟨b1, o1 + k, none⟩) hb1).trans g1w, (hbw1.cell (p := ⟨b2, o2 + k, none⟩) hb2).trans g2w, (hbw1.cell (p := ⟨b3, o3 + k, none⟩) hb3).trans g3w⟩)
        (first | (go_loud (refine step_append_any _ rfl (.tmp 33) (.tmp 48) _ rfl w.heap.size 5 i0 _ 1 1 Try.underlying22 hi0 hz0 hz1 hz2 rfl (by omega) _ k (cells X) rfl (World.ownsRow.drew (World.ownsRow.alloc hown _)) (wr.heap.size + 1) (some ⟨wr.heap.size, 0, none⟩) 1 1 (cells [b]) rfl (RB.drew hnew) (cells_one _) (by simp only [maxLen]; omega) (by omega) (by show w.heap.size ≤ (wr.alloc _).heap.size; simp; omega) ?_; intro v1 w1 hown1 hg1 hat1; have hbw1 : Below w.heap.size w w1 := (Below.drew (hbw.alloc hz9 _)).grown hg1 (by show w.heap.size ≤ (wr.alloc _).heap.size; simp; omega) (fun j hj => (hown.lt j hj).1))))
      have HO : Hid (w1.ownsRow w.heap.size 5 1 v1 (k + 1) (cells (xorL (xorL (L.take (k + 1)) (M.take (k + 1))) (N.take (k + 1))))) := by show World.ownsRow _ _ _ _ _ _ _; rw [HX.out, cells_append]; exact hown1
      clear hown1 hg1 hat1 hnew hown g1 g2 g3 g1w g2w g3w
      go_wp2
      go_roundw
      case rel => exact ⟨k + 1, by omega, by go_num, HO.out, hbw1⟩
      case measure => simp [intOf]; omega
    · obtain rfl : n = k := by omega
      have e : xorL (xorL (L.take n) (M.take n)) (N.take n) = xorL (xorL L M) N := by
        rw [List.take_of_length_le (by rw [HL.out]; exact Nat.le_refl _), List.take_of_length_le (by rw [HM.out]; exact Nat.le_refl _), List.take_of_length_le (by rw [HN.out]; exact Nat.le_refl _)]
      rw [e] at hown
      obtain ⟨X, hX⟩ : ∃ X, X = xorL (xorL L M) N := ⟨_, rfl⟩
      rw [← hX] at hown
      have hxl : X.length = n := by
        have := hown.1
        rw [cells_length] at this
        omega
      obtain ⟨AX, cX, hv⟩ := own_form hown
      subst hv
      have frx : RB wr wr.heap.size AX X := Reads.of_own (by rw [hxl]; exact hown)
      have fr1 := (hr.below hbw).more hbw.size
      have fr2 := (hr2.below hbw).more hbw.size
      have fr3 := (hr3.below hbw).more hbw.size
      obtain ⟨s, hs⟩ : ∃ s, s = sumL L := ⟨_, rfl⟩
      obtain ⟨t, ht⟩ : ∃ t, t = sumL M := ⟨_, rfl⟩
      obtain ⟨u, hu⟩ : ∃ u, u = sumL N := ⟨_, rfl⟩
      obtain ⟨q, hq⟩ : ∃ q, q = sumL X := ⟨_, rfl⟩
      have HCX : Hid (Calls Try.prog 8 #[.slice AX n cX] wr fun e w' => e = .returned (.int .u32 (q : Int)) ∧ wr = w') := by
        have h := sum_any X AX cX _ wr frx (by omega)
        rw [hxl, ← hq] at h; exact h
      have HC1 : Hid (Calls Try.prog 8 #[.slice A n c] wr fun e w' => e = .returned (.int .u32 (s : Int)) ∧ wr = w') := by
        have h := sum_any L A c _ wr fr1 (by rw [HL.out]; omega)
        rw [HL.out, ← hs] at h; exact h
      have HC2 : Hid (Calls Try.prog 8 #[.slice C n d] wr fun e w' => e = .returned (.int .u32 (t : Int)) ∧ wr = w') := by
        have h := sum_any M C d _ wr fr2 (by rw [HM.out]; omega)
        rw [HM.out, ← ht] at h; exact h
      have HC3 : Hid (Calls Try.prog 8 #[.slice E n e0] wr fun e w' => e = .returned (.int .u32 (u : Int)) ∧ wr = w') := by
        have h := sum_any N E e0 _ wr fr3 (by rw [HN.out]; omega)
        rw [HN.out, ← hu] at h; exact h
      have hx1 : bits .xor .u32 (s : Int) (t : Int) = ((s ^^^ t : Nat) : Int) := u32_xor_nat _ _ (by rw [hs]; exact sumL_lt _) (by rw [ht]; exact sumL_lt _)
      have hx2 : bits .xor .u32 ((s ^^^ t : Nat) : Int) (u : Int) = (q : Int) := by
        rw [u32_xor_nat _ _ (Nat.xor_lt_two_pow (n := 32) (by rw [hs]; exact sumL_lt _) (by rw [ht]; exact sumL_lt _)) (by rw [hu]; exact sumL_lt _), hq, hX, hs, ht, hu]
        rw [sum_odd L M N (by rw [HL.out]; exact HM.out) (by rw [HL.out]; exact HN.out)]
      clear hs ht hu hq hX hxl e hown frx fr1 fr2 fr3
      go_wp2_with (first
        | (go_at_call 8; (with_reducible refine (HCX.out).mono ?_); rintro e w' ⟨rfl, rfl⟩)
        | (go_at_call 8; (with_reducible refine (HC1.out).mono ?_); rintro e w' ⟨rfl, rfl⟩)
        | (go_at_call 8; (with_reducible refine (HC2.out).mono ?_); rintro e w' ⟨rfl, rfl⟩)
        | (go_at_call 8; (with_reducible refine (HC3.out).mono ?_); rintro e w' ⟨rfl, rfl⟩)
        | (go_at_call 7; refine (awake_any _).mono ?_; rintro e w7 ⟨rfl, hb7⟩))
      go_ret
      exact ⟨rfl, hbw.trans (hb7.mono hbw.size)⟩

theorem odd_any (L M N : List UInt8) (A C E : Option Addr) (c d e0 : Nat) (w : World) (hr : RB w w.heap.size A L) (hr2 : RB w w.heap.size C M) (hr3 : RB w w.heap.size E N) :
    Calls Try.prog 6 #[.slice A L.length c, .slice C M.length d, .slice E N.length e0] w fun e w' => e = .returned (.bool true) ∧ Below w.heap.size w w' := by
  by_cases hl : 500 < L.length
  · have hl' : (500 : Int) < (L.length : Int) := by omega
    go_enter Try.func6, Try.ntmps6
    go_wp2_with (go_at_call 7; refine (awake_any _).mono ?_; rintro e w' ⟨rfl, hb⟩)
    go_ret
    exact ⟨rfl, hb⟩
  have hd1 : decide ((500 : Int) < (L.length : Int)) = false := by simp; omega
  by_cases hm : M.length = L.length
  · by_cases hn : N.length = L.length
    · rw [hm, hn]
      exact odd_core L M N A C E c d e0 w hr hr2 hr3 hl L.length rfl hm hn
    · have hn' : ((N.length : Int) != (L.length : Int)) = true := by simp; omega
      have hn2 : ¬ (N.length : Int) = (L.length : Int) := by omega
      have hm' : ((M.length : Int) != (L.length : Int)) = false := by simp; omega
      rw [hm]
      go_enter Try.func6, Try.ntmps6
      go_wp2_with (go_at_call 7; refine (awake_any _).mono ?_; rintro e w' ⟨rfl, hb⟩)
      go_ret
      exact ⟨rfl, hb⟩
  · have hm' : ((M.length : Int) != (L.length : Int)) = true := by simp; omega
    have hm2 : ¬ (M.length : Int) = (L.length : Int) := by omega
    go_enter Try.func6, Try.ntmps6
    go_wp2_with (go_at_call 7; refine (awake_any _).mono ?_; rintro e w' ⟨rfl, hb⟩)
    go_ret
    exact ⟨rfl, hb⟩

theorem Try.cells5c : Try.prog.cellsOf 5 = 1 := by kernel_rfl

set_option maxRecDepth 100000 in
theorem odd_lifted (os : Os) (started : os.Started) (H : Type) (enc : TypeId × Value → H) :
    ReturnsInHanded {} Try.checked os 6 .any (Rows.crcOddSpec.pre6 enc Try.prog Try.f6 Rows.crcOddRow.domain false) (Rows.crcOddSpec.post enc Try.prog Try.f6 false true false false) := by
  refine returnsInHanded_of_change (C := Try.checked) Try.own started (by kernel_rfl) Try.func6
    (ChangeSpec.witness6 (enc := enc) (C := Try.checked) false ⟨#[], #[.slice none 0 0, .slice none 0 0, .slice none 0 0], []⟩ 8 (by kernel_rfl) (by kernel_rfl) (by kernel_rfl) (by kernel_rfl)) ?_
  intro W base args ds gs before hval0 hW hcnd _
  have hval : ∀ (j : Nat) t v, Try.f6.params[j]? = some t → args[j]? = some v → Value.okWide Try.prog W .any base t v := hval0
  have hW' : DataW.Whole enc Try.prog Try.f6.params.toList Rows.crcOddSpec.vars false W args.toList ds gs before := hW
  have hWk := hW'
  obtain ⟨p, q, hA, hV, rfl, hfz, hnd⟩ := hW'
  rw [Try.params6] at hA hval
  obtain ⟨v0, v1, v2, d0, d1, d2, p0, p1, p2, rfl, rfl, rfl, h0, h1, h2⟩ := trodAll_three hA
  obtain ⟨rfl, rfl⟩ := trodVars_none hV
  obtain ⟨A, L, c, rfl, hr, hlc, hcm⟩ := open_bytes Try.underlying22 Try.underlying5 Try.cells5c (hval 0 22 v0 rfl rfl) h0
  obtain ⟨C, M, d, rfl, hr2, hmd, hdm⟩ := open_bytes Try.underlying22 Try.underlying5 Try.cells5c (hval 1 22 v1 rfl rfl) h1
  obtain ⟨E, N, e0, rfl, hr3, hne, hem⟩ := open_bytes Try.underlying22 Try.underlying5 Try.cells5c (hval 2 22 v2 rfl rfl) h2
  refine (odd_any L M N A C E c d e0 W hr hr2 hr3).mono fun e W' ⟨he, hb⟩ => ⟨_, he, ?_⟩
  exact law_post Try.laidOut hWk rfl rfl rfl rfl rfl Try.underlying4 (by kernel_rfl) hb

theorem odd_holds : Rows.CrcOddSaid :=
  OpenClaim.holds_of_wide 6 Try.f6 rfl rfl rfl rfl rfl rfl rfl ⟨rfl, rfl, rfl, rfl, rfl⟩ rfl rfl rfl rfl rfl (by kernel_rfl) Try.func6 (by kernel_rfl)
    (of_decide_eq_true (by kernel_rfl)) (by unfold Func.isWrapper; first | (rw [if_pos (by decide +kernel)]; kernel_rfl) | (rw [if_neg (by decide +kernel)]; exact ⟨rfl, rfl⟩))
    (fun os started H enc _ => odd_lifted os started H enc)

end Go.Proofs.Ytmmoenglnaphdaa
