/- Lemmas under the proofs of this place: IdsPHex, CurAt. No statement is proved here. -/
import Derived.Test.YtpcopmpmcjkamaaDoorBu08
import Derived.Laws.BitsAllLaws
set_option linter.unusedSimpArgs false
set_option linter.unusedVariables false
set_option maxRecDepth 100000
set_option maxHeartbeats 16000000
namespace Go.Proofs.YtpcopmpmcjkamaaDoor
section
open Go.RowKit
theorem idsHex_any (L : Bs) (w : World) (hl : L.length ≤ 1000) : Calls Tryd.prog 53 #[.string (text L)] w fun e w' => e = .returned (.string (text (hexL L))) ∧ Below w.heap.size w w' := by
  obtain ⟨i0, hi0, hz0, hz1, hz2⟩ := info_parts Tryd.info5
  have hby : i0.bytes = 1 := hz2
  obtain ⟨t, ht⟩ : ∃ t, t = text L := ⟨_, rfl⟩
  obtain ⟨n, hn⟩ : ∃ n, n = L.length := ⟨_, rfl⟩
  have hts : t.size = n := by rw [ht, hn]; exact text_size L
  have HI : Hid (∀ k, k < n → ∀ V, (Instr.index 9 (.string t) (.int .i64 (k : Int))).run Tryd.prog V = .ok (.int .u8 ((L.getD k 0).toNat : Int)) V) := fun k hk V => by
    rw [ht]; exact index_text L .i64 k V (by omega)
  have HD : Hid (∀ k : Nat, k < 16 → ∀ V, (Instr.index 9 (.string { data := #[48, 49, 50, 51, 52, 53, 54, 55, 56, 57, 97, 98, 99, 100, 101, 102] }) (.int .u8 (k : Int))).run Tryd.prog V = .ok (.int .u8 ((hexd k).toNat : Int)) V) := fun k hk V => by
    rw [← hexD_text]; exact index_text hexD .u8 k V hk
  have HN := Lib.hid hn
  have hn1 : n ≤ 1000 := by omega
  obtain ⟨q, hq⟩ : ∃ q, q = 2 * n := ⟨_, rfl⟩
  have hq1 : q ≤ 2000 := by omega
  have e2n : (2 : Int) * (n : Int) = (q : Int) := by omega
  clear hq
  rw [← ht]
  clear ht hn
  go_enter Tryd.func53, Tryd.ntmps53
  go_wp2_with (first
    | (at_make; refine wpList_make_own _ rfl _ _ 24 rfl w.heap.size 5 i0 _ 1 Tryd.underlying24 hi0 hz0 hz1 .i64 .i64 _ q rfl rfl (by omega) (by rw [hby]; omega) (by unfold maxLen; omega) (Nat.le_refl _) ?_; intro w2 ho2 hg2))
  have b2 : Below w.heap.size w w2 := (Below.refl _ _).grown hg2 (Nat.le_refl _) (by simp)
  obtain ⟨v2, hv2⟩ : ∃ v2, v2 = Value.slice (some ⟨w.heap.size, 0, none⟩) 0 q := ⟨_, rfl⟩
  rw [← hv2] at ho2 ⊢
  clear hg2 hv2
  go_loopw [3, 4, 11] (fun v x4 i wr => ∃ (k y : Nat), k ≤ n ∧ i = .int .i64 (k : Int) ∧ Hid (y = 2 * k) ∧ y ≤ 2000 ∧ wr.ownsRow w.heap.size 5 1 v y (cells ((L.take k).flatMap hexB)) ∧ Below w.heap.size w wr) (fun _ _ i _ => n - (intOf i).toNat)
  case atStart => exact ⟨0, 0, by omega, rfl, rfl, by omega, ho2, b2⟩
  case round =>
    obtain ⟨k, y, hk, rfl, HY, hy, hown, hb⟩ := hrel
    have u0 : (0 : Int) ≤ (k : Int) := by omega
    by_cases hlt : k < n
    · have u1 : (k : Int) < (n : Int) := by omega
      obtain ⟨b, hbx⟩ : ∃ b, b = L.getD k 0 := ⟨_, rfl⟩
      have hb256 := b.toNat_lt
      have hi := HI.out k hlt
      rw [← hbx] at hi
      obtain ⟨q2, hq⟩ : ∃ q, q = b.toNat / 16 := ⟨_, rfl⟩
      obtain ⟨r, hr⟩ : ∃ r, r = b.toNat % 16 := ⟨_, rfl⟩
      have e1 : (b.toNat : Int) / 16 = (q2 : Int) := by omega
      have e2 : bits .and .u8 (b.toNat : Int) 15 = (r : Int) := by
        rw [show (15 : Int) = ((15 : Nat) : Int) from rfl, u8_and_nat _ _ hb256 (by omega), hr, show (15 : Nat) = 2 ^ 4 - 1 from rfl, Nat.and_two_pow_sub_one_eq_mod]
      have hq16 : q2 < 16 := by omega
      have eq8 : IntKind.u8.wrap (q2 : Int) = (q2 : Int) := by rw [IntKind.wrap_u8']; omega
      have er8 : IntKind.u8.wrap (r : Int) = (r : Int) := by rw [IntKind.wrap_u8']; omega
      have hr16 : r < 16 := by omega
      obtain ⟨x1, hx1⟩ : ∃ x, x = hexd q2 := ⟨_, rfl⟩
      obtain ⟨x2, hx2⟩ : ∃ x, x = hexd r := ⟨_, rfl⟩
      have hd1 := HD.out q2 hq16
      have hd2 := HD.out r hr16
      rw [← hx1] at hd1
      rw [← hx2] at hd2
      have HF : Hid ((L.take (k + 1)).flatMap hexB = (L.take k).flatMap hexB ++ [x1, x2]) := by
        show _ = _
        have hkL : k < L.length := by have := HN.out; omega
        have e : L[k] = b := by rw [hbx, List.getD, List.getElem?_eq_getElem hkL]; rfl
        rw [List.take_succ_eq_append_getElem hkL, List.flatMap_append, e, hx1, hx2, hq, hr]
        simp [hexB]
      have hyk : y < 2000 - 1 := by have := HY.out; have := HN.out; omega
      have HLt := Lib.hid hlt
      clear hbx hq hr hx1 hx2 HI HD hb256
      go_wp2
      have HNW := Lib.hid (show Reads (wr.alloc (.cells #[.int .u8 (x1.toNat : Int), .int .u8 (x2.toNat : Int)] 5)) (wr.heap.size + 1) 1 (some ⟨wr.heap.size, 0, none⟩) 2 (cells [x1, x2]) from rb_new wr [x1, x2])
      have hz8 := hb.size
      go_region_law (refine step_append_any _ rfl (.tmp 14) (.tmp 25) _ rfl w.heap.size 5 i0 _ 1 1 Tryd.underlying24 hi0 hz0 hz1 hz2 rfl (by omega) _ y (cells ((L.take k).flatMap hexB)) rfl (World.ownsRow.drew (World.ownsRow.alloc hown _)) (wr.heap.size + 1) (some ⟨wr.heap.size, 0, none⟩) 2 2 (cells [x1, x2]) rfl (Reads.drew HNW.out) (cells_one _) (by simp only [maxLen]; omega) (by omega) (by simp; omega) ?_; intro v9 w9 ho9 hg9 hat9; have hb9 : Below w.heap.size w w9 := (Below.drew (hb.alloc hz8 _)).grown hg9 (by show w.heap.size ≤ (wr.alloc _).heap.size; simp; omega) (fun q hq => (hown.lt q hq).1); rw [← cells_append, ← HF.out] at ho9)
      all_goals
        clear hown hb hg9 hat9 HNW
        go_wp2
        have hlt := HLt.out
        refine ⟨⟨k + 1, y + 2, by omega, by go_num, by show _ = _; rw [HY.out]; omega, by omega, ho9, hb9⟩, ?_⟩
        simp [intOf]; omega
    · have hfin : (L.take k).flatMap hexB = hexL L := by unfold hexL; rw [List.take_of_length_le (by have := HN.out; omega)]
      rw [hfin] at hown
      have hlen : (hexL L).length = y := by have := hown.1; rw [cells_length] at this; omega
      obtain ⟨A8, c8, rfl⟩ := own_form hown
      have hfr : RB wr wr.heap.size A8 (hexL L) := by refine Reads.of_own (base := w.heap.size) (e := 5) (c := c8) ?_; rw [hlen]; exact hown
      have est := aw_str hfr y c8 hlen.symm
      clear hfin hlen hown hfr HI HD
      go_wp2
      go_ret
      exact ⟨rfl, hb⟩
end
section
open Go.RowKit
def CurB (B : Nat) (w : World) (g : Nat) : Option (List UInt8) → Prop
  | none => w.heap[g]? = some (.cells #[.slice none 0 0, .bool true] 75 (0, 0))
  | some L => ∃ A c, w.heap[g]? = some (.cells #[.slice A L.length c, .bool false] 75 (0, 0)) ∧ RB w B A L ∧ L.length ≤ c ∧ L.length ≤ 1048576
theorem CurB.cur {B : Nat} {w : World} {g : Nat} {st : Option (List UInt8)} (h : CurB B w g st) (hB : B ≤ w.heap.size) : Cur w g st := by
  rcases st with _ | L
  · exact h
  · obtain ⟨A, c, h1, h2, h3, h4⟩ := h
    exact ⟨A, c, h1, h2.more hB, h3, h4⟩
theorem Cur.at_ {w : World} {g : Nat} {st : Option (List UInt8)} (h : Cur w g st) : CurB w.heap.size w g st := by
  rcases st with _ | L
  · exact h
  · obtain ⟨A, c, h1, h2, h3, h4⟩ := h
    exact ⟨A, c, h1, h2, h3, h4⟩
theorem CurB.lt {B : Nat} {w : World} {g : Nat} {st : Option (List UInt8)} (h : CurB B w g st) : g < w.heap.size := by
  rcases st with _ | L
  · exact Blk.lt (t := 75) h
  · obtain ⟨A, c, h1, _⟩ := h
    exact Blk.lt (t := 75) h1
theorem CurB.keep {B : Nat} {w w' : World} {g : Nat} {st : Option (List UInt8)} (h : CurB B w g st) (hg : w'.heap[g]? = w.heap[g]?) (hk : ∀ p : Addr, p.block < B → w'.cell? p = w.cell? p) : CurB B w' g st := by
  rcases st with _ | L
  · exact hg.trans h
  · obtain ⟨A, c, h1, h2, h3, h4⟩ := h
    exact ⟨A, c, hg.trans h1, Reads.keep h2 hk, h3, h4⟩
theorem cur_cutB {w : World} {B g : Nat} {A : Option Addr} {L : List UInt8} {c k : Nat} (HG : Hid (w.heap[g]? = some (.cells #[.slice A L.length c, .bool false] 75 (0, 0)))) (hr : RB w B A L) (hc : L.length ≤ c) (hl : L.length ≤ 1048576)
    (hk : k ≤ L.length) (A' : Option Addr) (c' : Nat) (h1 : c = k → A' = A) (h2 : c ≠ k → A' = A.map (·.add k)) (hc' : c' = c - k) :
    CurB B (w.setCell ⟨g, 0, none⟩ (.slice A' (L.length - k) c')) g (some (L.drop k)) := by
  subst hc'
  have hA : A' = if c = k then A else A.map (·.add (k * 1)) := by
    rw [Nat.mul_one]
    by_cases h : c = k
    · rw [if_pos h]; exact h1 h
    · rw [if_neg h]; exact h2 h
  refine ⟨A', c - k, ?_, ?_, by rw [List.length_drop]; omega, by rw [List.length_drop]; omega⟩
  · rw [List.length_drop]
    exact Blk.set_ HG.out 0 (.slice A' (L.length - k) (c - k))
  · rw [hA]
    exact rb_far (rb_cut hr hk hc) HG.out (cur_cells _ _ _ _) _
theorem own_new {w : World} {base c : Nat} {A : Option Addr} {L : List UInt8} (h : Own w base A L c) : ∀ ad, A = some ad → base ≤ ad.block := fun ad e => by
  subst e
  rcases h.2 with ⟨h1, _⟩ | ⟨k, cap, cur, h1, h2, _⟩
  · simp at h1
  · simp only [Value.slice.injEq, Option.some.injEq] at h1
    rw [h1.1]
    exact h2
def GivesAt (B g : Nat) (r : St × List UInt8) (w : World) (e : Ending) (w' : World) : Prop :=
  ∃ A c, e = .returned (.slice A r.2.length c) ∧ RB w' w'.heap.size A r.2 ∧ (∀ ad, A = some ad → w.heap.size ≤ ad.block) ∧ CurB B w' g r.1 ∧ Only w w' g
theorem take_at (B g : Nat) (n : Int) (st : St) (w : World) (h0 : CurB B w g st) (hB : B ≤ w.heap.size) :
    Calls Tryd.prog 59 #[.pointer (some ⟨g, 0, none⟩), .int .i64 n] w (GivesAt B g (stepTake n st) w) := by
  have h := h0.cur hB
  have hb := bad_any g _ w h
  have hfl := fail_any g _ w h
  rcases st with _ | L
  · have h' := Lib.hid h0
    clear h h0
    go_enter Tryd.func59, Tryd.ntmps59
    go_wp2_with (go_at_call 65; refine hb.mono ?_; rintro e w' ⟨rfl, rfl⟩)
    go_ret
    exact ⟨none, 0, rfl, RB.none_ _ _, (fun _ e => nomatch e), h'.out, only_refl _ _⟩
  · obtain ⟨A, c, hg, hrB, hc, hl⟩ := h0
    have hr := hrB.more hB
    have HrB := Lib.hid hrB
    clear h hrB
    have hc0 : w.cell? ⟨g, 0, none⟩ = some (.slice A L.length c) := (blk_cell hg 0).1
    have hf0 : w.frozen? ⟨g, 0, none⟩ = false := (blk_cell hg 0).2
    have HG := Lib.hid hg
    clear hg
    by_cases hn : n < 0 ∨ (L.length : Int) < n
    · have HS : Hid (stepTake n (some L) = (none, [])) := by show _ = _; simp only [stepTake]; rw [if_pos hn]
      rcases hn with hn | hn
      · have hd : decide (n < 0) = true := by simp [hn]
        go_enter Tryd.func59, Tryd.ntmps59
        go_wp2_with (first
          | (go_at_call 65; refine hb.mono ?_; rintro e w' ⟨rfl, rfl⟩)
          | (go_at_call 61; refine hfl.mono ?_; rintro e w' ⟨rfl, hcur, honly, hsz⟩))
        go_ret
        rw [HS.out]
        exact ⟨none, 0, rfl, RB.none_ _ _, (fun _ e => nomatch e), hcur, honly⟩
      · have hd : decide (n < 0) = false := by simp; omega
        have hd2 : decide ((L.length : Int) < n) = true := by simp [hn]
        go_enter Tryd.func59, Tryd.ntmps59
        go_wp2_with (first
          | (go_at_call 65; refine hb.mono ?_; rintro e w' ⟨rfl, rfl⟩)
          | (go_at_call 61; refine hfl.mono ?_; rintro e w' ⟨rfl, hcur, honly, hsz⟩))
        go_ret
        rw [HS.out]
        exact ⟨none, 0, rfl, RB.none_ _ _, (fun _ e => nomatch e), hcur, honly⟩
    · have hd : decide (n < 0) = false := by simp; omega
      have hd2 : decide ((L.length : Int) < n) = false := by simp; omega
      obtain ⟨k, rfl⟩ : ∃ k : Nat, n = (k : Int) := ⟨n.toNat, by omega⟩
      have hkl : k ≤ L.length := by omega
      have HS : Hid (stepTake (k : Int) (some L) = (some (L.drop k), L.take k)) := by show _ = _; simp only [stepTake]; rw [if_neg hn]; simp
      clear hn
      go_enter Tryd.func59, Tryd.ntmps59
      have hlt : g < w.heap.size := Blk.lt HG.out
      have HLK : Hid ((L.take k).length = k) := by show _ = _; rw [List.length_take]; omega
      have hrt : RB w w.heap.size A (L.take k) := by
        refine ⟨by rw [cells_length]; simp, fun h0 => ?_⟩
        obtain ⟨ad, e, hb', hcc⟩ := hr.2 (by rw [List.length_take] at h0; omega)
        refine ⟨ad, e, hb', fun j u hu => hcc j u ?_⟩
        rw [← cells_take, List.getElem?_take] at hu
        split at hu
        · exact hu
        · cases hu
      go_wp2_with (first
        | (go_at_call 65; refine hb.mono ?_; rintro e w' ⟨rfl, rfl⟩)
        | (go_at_call 50; refine (copied_any (L.take k) k _ _ _ (by rw [List.length_take]; omega) hrt (by rw [List.length_take]; omega)).mono ?_; rintro e w1 ⟨A1, c1, he1, hown1, hb1⟩; rw [HLK.out] at he1; subst he1; have hc1 := (hb1.cell (p := ⟨g, 0, none⟩) hlt).trans hc0; have hf1 := (hb1.frozen (p := ⟨g, 0, none⟩) hlt).trans hf0))
      all_goals
        have HG1 : Hid (w1.heap[g]? = some (.cells #[.slice A L.length c, .bool false] 75 (0, 0))) := Blk.below HG.out hb1 hlt
        have hr1 : RB w1 B A L := HrB.out.below (hb1.mono hB)
        have hcur := fun A' c' a b d => cur_cutB HG1 hr1 hc hl hkl A' c' a b d
        have ho1 : RB w1 w1.heap.size A1 (L.take k) := own_rb hown1
        go_ret
        rw [HS.out]
        refine ⟨A1, c1, by show _ = Ending.returned (.slice A1 (L.take k).length c1); rw [HLK.out]; rfl, ?_, (fun ad e => own_new hown1 ad e), hcur _ _ (fun hx => by first | rfl | (exact absurd hx (by assumption))) (fun hx => by first | rfl | (exact absurd (by assumption) hx)) (by omega), only_trans (only_below hb1 g) (only_set _ _ _ _)⟩
        have hz : ∀ u, (w1.setCell ⟨g, 0, none⟩ u).heap.size = w1.heap.size := fun u => by simp [World.setCell]
        rw [hz]
        exact rb_far ho1 HG1.out (cur_cells _ _ _ _) _
end
end Go.Proofs.YtpcopmpmcjkamaaDoor
