/- Lemmas under the proofs of this place: CurAt, CrcSeal. No statement is proved here. -/
import Derived.Test.YtghenhacndaelaaBu11
import Derived.Test.YtghenhacndaelaaBu12
import Derived.Test.YtghenhacndaelaaBu09
set_option linter.unusedSimpArgs false
set_option linter.unusedVariables false
set_option maxRecDepth 100000
set_option maxHeartbeats 16000000
namespace Go.Proofs.Ytghenhacndaelaa
section
open Go.RowKit
def CurB (B : Nat) (w : World) (g : Nat) : Option (List UInt8) → Prop
  | none => w.heap[g]? = some (.cells #[.slice none 0 0, .bool true] 117 (0, 0))
  | some L => ∃ A c, w.heap[g]? = some (.cells #[.slice A L.length c, .bool false] 117 (0, 0)) ∧ RB w B A L ∧ L.length ≤ c ∧ L.length ≤ 1048576
theorem CurB.cur {B : Nat} {w : World} {g : Nat} {st : Option (List UInt8)} (h : CurB B w g st) (hB : B ≤ w.heap.size) : Cur w g st := by
  rcases st with _ | L
  · exact h
  · obtain ⟨A, c, h1, h2, h3, h4⟩ := h
    exact ⟨A, c, h1, h2.more hB, h3, h4⟩
theorem Cur.at_ {w : World} {g : Nat} {st : Option (List UInt8)} (h : Cur w g st) : CurB w.heap.size w g st := by
  rcases st with _ | L
  · exact h
  · obtain ⟨A, c, h1, h2, h3, h4⟩ := h
    exact ⟨A, c, h1, h2, h3, h4⟩
theorem CurB.lt {B : Nat} {w : World} {g : Nat} {st : Option (List UInt8)} (h : CurB B w g st) : g < w.heap.size := by
  rcases st with _ | L
  · exact Blk.lt (t := 117) h
  · obtain ⟨A, c, h1, _⟩ := h
    exact Blk.lt (t := 117) h1
theorem CurB.keep {B : Nat} {w w' : World} {g : Nat} {st : Option (List UInt8)} (h : CurB B w g st) (hg : w'.heap[g]? = w.heap[g]?) (hk : ∀ p : Addr, p.block < B → w'.cell? p = w.cell? p) : CurB B w' g st := by
  rcases st with _ | L
  · exact hg.trans h
  · obtain ⟨A, c, h1, h2, h3, h4⟩ := h
    exact ⟨A, c, hg.trans h1, Reads.keep h2 hk, h3, h4⟩
theorem cur_cutB {w : World} {B g : Nat} {A : Option Addr} {L : List UInt8} {c k : Nat} (HG : Hid (w.heap[g]? = some (.cells #[.slice A L.length c, .bool false] 117 (0, 0)))) (hr : RB w B A L) (hc : L.length ≤ c) (hl : L.length ≤ 1048576)
    (hk : k ≤ L.length) (A' : Option Addr) (c' : Nat) (h1 : c = k → A' = A) (h2 : c ≠ k → A' = A.map (·.add k)) (hc' : c' = c - k) :
    CurB B (w.setCell ⟨g, 0, none⟩ (.slice A' (L.length - k) c')) g (some (L.drop k)) := by
  subst hc'
  have hA : A' = if c = k then A else A.map (·.add (k * 1)) := by
    rw [Nat.mul_one]
    by_cases h : c = k
    · rw [if_pos h]; exact h1 h
    · rw [if_neg h]; exact h2 h
  refine ⟨A', c - k, ?_, ?_, by rw [List.length_drop]; omega, by rw [List.length_drop]; omega⟩
  · rw [List.length_drop]
    exact Blk.set_ HG.out 0 (.slice A' (L.length - k) (c - k))
  · rw [hA]
    exact rb_far (rb_cut hr hk hc) HG.out (cur_cells _ _ _ _) _
theorem own_new {w : World} {base c : Nat} {A : Option Addr} {L : List UInt8} (h : Own w base A L c) : ∀ ad, A = some ad → base ≤ ad.block := fun ad e => by
  subst e
  rcases h.2 with ⟨h1, _⟩ | ⟨k, cap, cur, h1, h2, _⟩
  · simp at h1
  · simp only [Value.slice.injEq, Option.some.injEq] at h1
    rw [h1.1]
    exact h2
def GivesAt (B g : Nat) (r : St × List UInt8) (w : World) (e : Ending) (w' : World) : Prop :=
  ∃ A c, e = .returned (.slice A r.2.length c) ∧ RB w' w'.heap.size A r.2 ∧ (∀ ad, A = some ad → w.heap.size ≤ ad.block) ∧ CurB B w' g r.1 ∧ Only w w' g
theorem take_at (B g : Nat) (n : Int) (st : St) (w : World) (h0 : CurB B w g st) (hB : B ≤ w.heap.size) :
    Calls Try.prog 56 #[.pointer (some ⟨g, 0, none⟩), .int .i64 n] w (GivesAt B g (stepTake n st) w) := by
  have h := h0.cur hB
  have hb := bad_any g _ w h
  have hfl := fail_any g _ w h
  rcases st with _ | L
  · have h' := Lib.hid h0
    clear h h0
    go_enter Try.func56, Try.ntmps56
    go_wp2_with (go_at_call 72; refine hb.mono ?_; rintro e w' ⟨rfl, rfl⟩)
    go_ret
    exact ⟨none, 0, rfl, RB.none_ _ _, (fun _ e => nomatch e), h'.out, only_refl _ _⟩
  · obtain ⟨A, c, hg, hrB, hc, hl⟩ := h0
    have hr := hrB.more hB
    have HrB := Lib.hid hrB
    clear h hrB
    have hc0 : w.cell? ⟨g, 0, none⟩ = some (.slice A L.length c) := (blk_cell hg 0).1
    have hf0 : w.frozen? ⟨g, 0, none⟩ = false := (blk_cell hg 0).2
    have HG := Lib.hid hg
    clear hg
    by_cases hn : n < 0 ∨ (L.length : Int) < n
    · have HS : Hid (stepTake n (some L) = (none, [])) := by show _ = _; simp only [stepTake]; rw [if_pos hn]
      rcases hn with hn | hn
      · have hd : decide (n < 0) = true := by simp [hn]
        go_enter Try.func56, Try.ntmps56
        go_wp2_with (first
          | (go_at_call 72; refine hb.mono ?_; rintro e w' ⟨rfl, rfl⟩)
          | (go_at_call 74; refine hfl.mono ?_; rintro e w' ⟨rfl, hcur, honly, hsz⟩))
        go_ret
        rw [HS.out]
        exact ⟨none, 0, rfl, RB.none_ _ _, (fun _ e => nomatch e), hcur, honly⟩
      · have hd : decide (n < 0) = false := by simp; omega
        have hd2 : decide ((L.length : Int) < n) = true := by simp [hn]
        go_enter Try.func56, Try.ntmps56
        go_wp2_with (first
          | (go_at_call 72; refine hb.mono ?_; rintro e w' ⟨rfl, rfl⟩)
          | (go_at_call 74; refine hfl.mono ?_; rintro e w' ⟨rfl, hcur, honly, hsz⟩))
        go_ret
        rw [HS.out]
        exact ⟨none, 0, rfl, RB.none_ _ _, (fun _ e => nomatch e), hcur, honly⟩
    · have hd : decide (n < 0) = false := by simp; omega
      have hd2 : decide ((L.length : Int) < n) = false := by simp; omega
      obtain ⟨k, rfl⟩ : ∃ k : Nat, n = (k : Int) := ⟨n.toNat, by omega⟩
      have hkl : k ≤ L.length := by omega
      have HS : Hid (stepTake (k : Int) (some L) = (some (L.drop k), L.take k)) := by show _ = _; simp only [stepTake]; rw [if_neg hn]; simp
      clear hn
      go_enter Try.func56, Try.ntmps56
      have hlt : g < w.heap.size := Blk.lt HG.out
      have HLK : Hid ((L.take k).length = k) := by show _ = _; rw [List.length_take]; omega
      have hrt : RB w w.heap.size A (L.take k) := by
        refine ⟨by rw [cells_length]; simp, fun h0 => ?_⟩
        obtain ⟨ad, e, hb', hcc⟩ := hr.2 (by rw [List.length_take] at h0; omega)
        refine ⟨ad, e, hb', fun j u hu => hcc j u ?_⟩
        rw [← cells_take, List.getElem?_take] at hu
        split at hu
        · exact hu
        · cases hu
      go_wp2_with (first
        | (go_at_call 72; refine hb.mono ?_; rintro e w' ⟨rfl, rfl⟩)
        | (go_at_call 73; refine (copied_any (L.take k) k _ _ _ (by rw [List.length_take]; omega) hrt (by rw [List.length_take]; omega)).mono ?_; rintro e w1 ⟨A1, c1, he1, hown1, hb1⟩; rw [HLK.out] at he1; subst he1; have hc1 := (hb1.cell (p := ⟨g, 0, none⟩) hlt).trans hc0; have hf1 := (hb1.frozen (p := ⟨g, 0, none⟩) hlt).trans hf0))
      all_goals
        have HG1 : Hid (w1.heap[g]? = some (.cells #[.slice A L.length c, .bool false] 117 (0, 0))) := Blk.below HG.out hb1 hlt
        have hr1 : RB w1 B A L := HrB.out.below (hb1.mono hB)
        have hcur := fun A' c' a b d => cur_cutB HG1 hr1 hc hl hkl A' c' a b d
        have ho1 : RB w1 w1.heap.size A1 (L.take k) := own_rb hown1
        go_ret
        rw [HS.out]
        refine ⟨A1, c1, by show _ = Ending.returned (.slice A1 (L.take k).length c1); rw [HLK.out]; rfl, ?_, (fun ad e => own_new hown1 ad e), hcur _ _ (fun hx => by first | rfl | (exact absurd hx (by assumption))) (fun hx => by first | rfl | (exact absurd (by assumption) hx)) (by omega), only_trans (only_below hb1 g) (only_set _ _ _ _)⟩
        have hz : ∀ u, (w1.setCell ⟨g, 0, none⟩ u).heap.size = w1.heap.size := fun u => by simp [World.setCell]
        rw [hz]
        exact rb_far ho1 HG1.out (cur_cells _ _ _ _) _
end
section
open Go.RowKit
theorem le4_fix (n : Nat) (h : n < 4294967296) : fixL 2 (n % 65536) ++ fixL 2 (n / 65536) = le4 n := by
  have e1 : n % 65536 % 256 = n % 256 := by omega
  have e2 : n % 65536 / 256 % 256 = n / 256 % 256 := by omega
  have e3 : n / 65536 / 256 % 256 = n / 16777216 := by omega
  simp only [fixL, le4, e1, e2, e3]
  rfl
theorem fix_two (n : Nat) (v : Int) (w : World) (hv : v = (n : Int)) (h : n < 65536) : Calls Try.prog 60 #[.int .i64 v, .int .i64 2] w (GivesBytes (fixL 2 n) w) := by
  subst hv
  exact fix_yes n 2 w (by omega) (by omega) (by omega) (by simpa using h)
theorem sumBytes_any (s : Nat) (w : World) (hs : s < 4294967296) : Calls Try.prog 68 #[.int .u32 (s : Int)] w (GivesOne (le4 s) w) := by
  obtain ⟨i0, hi0, hz0, hz1, hz2⟩ := info_parts Try.info5
  have HL := Lib.hid (le4_fix s hs)
  have l1 : (fixL 2 (s % 65536)).length = 2 := fixL_length _ _
  have l2 : (fixL 2 (s / 65536)).length = 2 := fixL_length _ _
  have HA : ∀ W, Calls Try.prog 60 #[.int .i64 ((s : Int) % 65536), .int .i64 2] W (GivesBytes (fixL 2 (s % 65536)) W) := fun W => fix_two _ _ W (by omega) (by omega)
  have HB : ∀ W, Calls Try.prog 60 #[.int .i64 ((s : Int) / 65536), .int .i64 2] W (GivesBytes (fixL 2 (s / 65536)) W) := fun W => fix_two _ _ W (by omega) (by omega)
  obtain ⟨X, hX⟩ : ∃ X, X = fixL 2 (s % 65536) := ⟨_, rfl⟩
  obtain ⟨Y, hY⟩ : ∃ Y, Y = fixL 2 (s / 65536) := ⟨_, rfl⟩
  rw [← hX, ← hY] at HL
  rw [← hX] at l1 HA
  rw [← hY] at l2 HB
  have HA2 := Lib.hid HA
  have HB2 := Lib.hid HB
  have hx2 : X.length ≤ 2 := by omega
  have hy2 : Y.length ≤ 2 := by omega
  clear hX hY l1 l2 HA HB
  go_enter Try.func68, Try.ntmps68
  go_wp2_with (first
    | (go_at_call 60; (with_reducible refine (HA2.out _).mono ?_); rintro e w1 ⟨A1, c1, rfl, hown1, hb1⟩; clear HA2)
    | (go_at_call 60; (with_reducible refine (HB2.out _).mono ?_); rintro e w2 ⟨A2, c2, rfl, hown2, hb2⟩; clear HB2; have z2 := hb2.size; have z1 := hb1.size; have hown3 := own_kept hown1 hb2; have hr2 := own_rb hown2)
    | (at_builtin; refine wpList_append_any _ rfl (.tmp 21) (.tmp 22) _ rfl w.heap.size 5 i0 _ 1 1 Try.underlying38 hi0 hz0 hz1 hz2 rfl (by omega) _ X.length (cells X) rfl hown3 w2.heap.size A2 Y.length c2 (cells Y) rfl hr2 (cells_one _) (by simp only [maxLen]; omega) (by omega) (by omega) ?_; intro v3 w3 hown4 hg3 hat3))
  have hb3 : Below w.heap.size w w3 := (hb1.trans (hb2.mono z1)).grown hg3 (by omega) (fun k hk => (World.ownsRow.lt hown3 k hk).1)
  rw [← cells_append, ← List.length_append, HL.out] at hown4
  obtain ⟨A3, c3, hv⟩ := own_form hown4
  go_ret
  exact ⟨A3, c3, by rw [hv]; rfl, by rw [hv] at hown4; exact hown4, hb3⟩
theorem seal_any (L : List UInt8) (A : Option Addr) (c B : Nat) (w : World) (hr : RB w B A L) (hl : L.length ≤ 1048576) :
    Calls Try.prog 61 #[.slice A L.length c] w (GivesOne (sealL L) w) := by
  obtain ⟨i0, hi0, hz0, hz1, hz2⟩ := info_parts Try.info5
  have hr := rb_lt hr
  have hs := sumL_lt L
  have HS : ∀ W E, RB W E A L → Calls Try.prog 69 #[.slice A L.length c] W fun e w' => e = .returned (.int .u32 (sumL L : Int)) ∧ W = w' := fun W E h => sum_any L A c E W h (by omega)
  have HB : ∀ W, Calls Try.prog 68 #[.int .u32 (sumL L : Int)] W (GivesOne (le4 (sumL L)) W) := fun W => sumBytes_any _ W hs
  obtain ⟨M, hM⟩ : ∃ M, M = le4 (sumL L) := ⟨_, rfl⟩
  have HM : Hid (L ++ M = sealL L) := by show _ = _; rw [hM]; rfl
  have hm : M.length ≤ 4 := by rw [hM]; exact Nat.le_refl _
  rw [← hM] at HB
  have HS2 := Lib.hid HS
  have HB2 := Lib.hid HB
  have hby : i0.bytes = 1 := hz2
  clear hM HS HB
  go_enter Try.func61, Try.ntmps61
  go_wp2_with (first
    | (at_make; refine wpList_make_own _ rfl _ _ 38 rfl w.heap.size 5 i0 _ 1 Try.underlying38 hi0 hz0 hz1 .i64 .i64 _ (L.length + 4) rfl rfl (by omega) (by rw [hby]; omega) (by unfold maxLen; omega) (Nat.le_refl _) ?_; intro w1 ho1 hg1; have hb1 : Below w.heap.size w w1 := (Below.refl _ _).grown hg1 (Nat.le_refl _) (by simp))
    | (at_builtin; refine wpList_append_any _ rfl (.tmp 8) (.tmp 9) _ rfl w.heap.size 5 i0 _ 1 1 Try.underlying38 hi0 hz0 hz1 hz2 rfl (by omega) (.slice (some ⟨w.heap.size, 0, none⟩) 0 (L.length + 4)) 0 [] rfl ho1 w.heap.size A L.length c (cells L) rfl (hr.below hb1) (cells_one _) (by simp only [maxLen]; omega) (by omega) hb1.size ?_; intro v2 w2 ho2 hg2 hat2; simp only [Nat.zero_add, List.nil_append] at ho2; have hb2 : Below w.heap.size w w2 := hb1.grown hg2 hb1.size (fun k hk => (ho1.lt k hk).1); have hr2 := hr.below hb2)
    | (go_at_call 69; (with_reducible refine (HS2.out _ _ hr2).mono ?_); rintro e w' ⟨rfl, rfl⟩)
    | (go_at_call 68; (with_reducible refine (HB2.out _).mono ?_); rintro e w3 ⟨A3, c3, rfl, ho3, hb3⟩; have hr3 := own_rb ho3; have ho4 := own_kept ho2 hb3; have z2 := hb2.size; have z3 := hb3.size)
    | (at_builtin; refine wpList_append_any _ rfl (.tmp 11) (.tmp 14) _ rfl w.heap.size 5 i0 _ 1 1 Try.underlying38 hi0 hz0 hz1 hz2 rfl (by omega) _ L.length (cells L) rfl ho4 w3.heap.size A3 M.length c3 (cells M) rfl hr3 (cells_one _) (by simp only [maxLen]; omega) (by omega) (by omega) ?_; intro v5 w5 ho5 hg5 hat5; have hb5 : Below w.heap.size w w5 := (hb2.trans (hb3.mono z2)).grown hg5 (by omega) (fun k hk => (ho4.lt k hk).1)))
  rw [← cells_append, ← List.length_append, HM.out] at ho5
  obtain ⟨A6, c6, hv⟩ := own_form ho5
  go_ret
  exact ⟨A6, c6, by rw [hv]; rfl, by rw [hv] at ho5; exact ho5, hb5⟩
end
end Go.Proofs.Ytghenhacndaelaa
