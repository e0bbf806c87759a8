/- Lemmas under the proofs of this place: RefN, CurAtC, ShaPMix. No statement is proved here. -/
import Derived.Test.YtinphkflfdpaeaaDoorBu13
import Derived.Test.YtinphkflfdpaeaaDoorBu10
import Derived.Test.YtinphkflfdpaeaaDoorBu15
import Derived.Test.YtinphkflfdpaeaaDoorBu16
set_option linter.unusedSimpArgs false
set_option linter.unusedVariables false
set_option maxRecDepth 100000
set_option maxHeartbeats 16000000
namespace Go.Proofs.YtinphkflfdpaeaaDoor
section
open Go.RowKit
def RefV (A : Option Addr) (M : List UInt8) (c : Nat) (v : Value) : St → Prop
  | none => v = .agg #[.slice none 0 0, .int .i64 0, .bool true]
  | some L => ∃ at_ : Nat, v = .agg #[.slice A M.length c, .int .i64 (at_ : Int), .bool false] ∧ at_ ≤ M.length ∧ L = M.drop at_
theorem refFrom_any (A : Option Addr) (n c : Nat) (w : World) : Calls Tryd.prog 35 #[.slice A n c] w fun e w' => e = .returned (.agg #[.slice A n c, .int .i64 0, .bool false]) ∧ Below w.heap.size w w' := by
  go_enter Tryd.func35, Tryd.ntmps35
  go_wp2
  refine bodyPost_ret (v := .agg #[.slice A n c, .int .i64 0, .bool false]) (by simp [results, Tryd.results35, go_sem]) rfl ⟨rfl, ?_⟩
  exact (Below.refl _ _).alloc (Nat.le_refl _) _
theorem spoilt_any (a b d : Value) (w : World) : Calls Tryd.prog 62 #[.agg #[a, b, d]] w fun e w' => e = .returned (.agg #[.slice none 0 0, .int .i64 0, .bool true]) ∧ Below w.heap.size w w' := by
  go_enter Tryd.func62, Tryd.ntmps62
  go_wp2
  refine bodyPost_ret (v := .agg #[.slice none 0 0, .int .i64 0, .bool true]) (by simp [results, Tryd.results62, go_sem]) rfl ⟨rfl, ?_⟩
  exact ((Below.refl _ _).alloc (Nat.le_refl _) _).alloc (by simp) _
def GivesRefN (A : Option Addr) (M : List UInt8) (c : Nat) (r : St × Nat) (w : World) (e : Ending) (w' : World) : Prop :=
  ∃ x0 x1 x2, e = .returned (.tuple #[.agg #[x0, x1, x2], .int .i64 (r.2 : Int)]) ∧ RefV A M c (.agg #[x0, x1, x2]) r.1 ∧ Below w.heap.size w w'
def GivesRefB (A : Option Addr) (M : List UInt8) (c B : Nat) (r : St × List UInt8) (w : World) (e : Ending) (w' : World) : Prop :=
  ∃ x0 x1 x2 A' c', e = .returned (.tuple #[.agg #[x0, x1, x2], .slice A' r.2.length c']) ∧ RefV A M c (.agg #[x0, x1, x2]) r.1 ∧ RB w' B A' r.2 ∧ Below w.heap.size w w'
theorem refv_form {A : Option Addr} {M : List UInt8} {c : Nat} {v : Value} {st : St} (h : RefV A M c v st) : ∃ x0 x1 x2, v = .agg #[x0, x1, x2] := by
  rcases st with _ | L
  · exact ⟨_, _, _, h⟩
  · obtain ⟨k, rfl, _⟩ := h
    exact ⟨_, _, _, rfl⟩
theorem refGet_none (L : List UInt8) (n : Nat) (A : Option Addr) (c B : Nat) (w : World) (hn : n = L.length) (hr : RB w B A L) (hl : L.length ≤ 1048576) (hs : getL L = none) :
    Calls Tryd.prog 90 #[.slice A n c] w fun e w' => e = .returned (.tuple #[.int .i64 0, .int .i64 0, .int .i64 5]) ∧ w = w' := by
  subst hn
  have h := refGet_any L A c B w hr hl
  rw [hs] at h
  exact h
theorem refGet_some (L : List UInt8) (n : Nat) (A : Option Addr) (c B : Nat) (w : World) (hn : n = L.length) (hr : RB w B A L) (hl : L.length ≤ 1048576) (m j : Nat) (hs : getL L = some (m, j)) :
    Calls Tryd.prog 90 #[.slice A n c] w fun e w' => e = .returned (.tuple #[.int .i64 (m : Int), .int .i64 (j : Int), .int .i64 0]) ∧ w = w' := by
  subst hn
  have h := refGet_any L A c B w hr hl
  rw [hs] at h
  exact h
theorem refNum_any (A : Option Addr) (M : List UInt8) (c B : Nat) (v : Value) (st : St) (w : World) (h : RefV A M c v st) (hr : RB w B A M) (hB : B ≤ w.heap.size) (hc : M.length ≤ c) (hl : M.length ≤ 1048576) :
    Calls Tryd.prog 80 #[v] w (GivesRefN A M c (stepNum st) w) := by
  rcases st with _ | L
  · obtain rfl : v = _ := h
    go_enter Tryd.func80, Tryd.ntmps80
    go_wp2
    refine bodyPost_ret (v := .tuple #[.agg #[.slice none 0 0, .int .i64 0, .bool true], .int .i64 0]) (by simp [results, Tryd.results80, go_sem]) rfl ⟨_, _, _, rfl, rfl, ?_⟩
    exact ((Below.refl _ _).alloc (Nat.le_refl _) _).alloc (by simp) _
  · obtain ⟨k, rfl, hk, hL⟩ := h
    have HD : Hid (M.length - k = L.length) := by show _ = _; rw [hL]; simp
    have hll : L.length ≤ 1048576 := by rw [← HD.out]; omega
    have HLd := Lib.hid hL
    have hrc : (c = k → RB w B A L) ∧ (c ≠ k → RB w B (A.map (fun x => x.add k)) L) := by
      rw [hL]; exact ⟨fun h => rb_cut0 hr hk hc h, fun h => rb_cut1 hr hk hc h⟩
    clear hL
    rcases hs : getL L with _ | ⟨n, j⟩
    · have HS : Hid (stepNum (some L) = (none, 0)) := by show _ = _; simp [stepNum, hs]
      have HG := Lib.hid hs
      clear hs
      by_cases hck : c = k
      · have hrb := hrc.1 hck
        clear hrc
        subst hck
        go_enter Tryd.func80, Tryd.ntmps80
        go_wp2_with (first
          | (go_at_call 90; refine (refGet_none L _ _ _ B _ (by have := HD.out; omega) ((hrb.alloc hB _).alloc (by simp; omega) _) hll HG.out).mono ?_; rintro e w' ⟨rfl, rfl⟩)
          | (go_at_call 62; refine (spoilt_any _ _ _ _).mono ?_; rintro e w1 ⟨rfl, hb1⟩; obtain ⟨hc1, hf1⟩ := bcell hb1; have hz1 : w.heap.size + 1 < w1.heap.size := by have := hb1.size; simp at this; omega))
        refine bodyPost_ret (v := .tuple #[.agg #[.slice none 0 0, .int .i64 0, .bool true], .int .i64 0]) (by simp [results, Tryd.results80, go_sem, hc1, hz1]) rfl ?_
        rw [HS.out]
        exact ⟨_, _, _, rfl, rfl, below3 (two_then hb1) (by omega) _ _ _⟩
      · have hrb := hrc.2 hck
        clear hrc
        go_enter Tryd.func80, Tryd.ntmps80
        go_wp2_with (first
          | (go_at_call 90; refine (refGet_none L _ _ _ B _ (by have := HD.out; omega) ((hrb.alloc hB _).alloc (by simp; omega) _) hll HG.out).mono ?_; rintro e w' ⟨rfl, rfl⟩)
          | (go_at_call 62; refine (spoilt_any _ _ _ _).mono ?_; rintro e w1 ⟨rfl, hb1⟩; obtain ⟨hc1, hf1⟩ := bcell hb1; have hz1 : w.heap.size + 1 < w1.heap.size := by have := hb1.size; simp at this; omega))
        refine bodyPost_ret (v := .tuple #[.agg #[.slice none 0 0, .int .i64 0, .bool true], .int .i64 0]) (by simp [results, Tryd.results80, go_sem, hc1, hz1]) rfl ?_
        rw [HS.out]
        exact ⟨_, _, _, rfl, rfl, below3 (two_then hb1) (by omega) _ _ _⟩
    · have HS : Hid (stepNum (some L) = (some (L.drop j), n)) := by show _ = _; simp [stepNum, hs]
      have HG := Lib.hid hs
      have hjl := (getL_some L n j hs).2.2.1
      have hkj : k + j ≤ M.length := by have := HD.out; omega
      have HDD : Hid (L.drop j = M.drop (k + j)) := by show _ = _; rw [HLd.out, List.drop_drop]
      clear hs
      by_cases hck : c = k
      · have hrb := hrc.1 hck
        clear hrc
        subst hck
        go_enter Tryd.func80, Tryd.ntmps80
        go_wp2_with (go_at_call 90; refine (refGet_some L _ _ _ B _ (by have := HD.out; omega) ((hrb.alloc hB _).alloc (by simp; omega) _) hll n j HG.out).mono ?_; rintro e w' ⟨rfl, rfl⟩)
        refine bodyPost_ret (v := .tuple #[.agg #[.slice A M.length c, .int .i64 ((c : Int) + (j : Int)), .bool false], .int .i64 (n : Int)]) (by simp [results, Tryd.results80, go_sem]) rfl ?_
        rw [HS.out]
        exact ⟨_, _, _, rfl, ⟨c + j, rfl, hkj, HDD.out⟩, ((Below.refl _ _).alloc (Nat.le_refl _) _).alloc (by simp) _⟩
      · have hrb := hrc.2 hck
        clear hrc
        go_enter Tryd.func80, Tryd.ntmps80
        go_wp2_with (go_at_call 90; refine (refGet_some L _ _ _ B _ (by have := HD.out; omega) ((hrb.alloc hB _).alloc (by simp; omega) _) hll n j HG.out).mono ?_; rintro e w' ⟨rfl, rfl⟩)
        refine bodyPost_ret (v := .tuple #[.agg #[.slice A M.length c, .int .i64 ((k : Int) + (j : Int)), .bool false], .int .i64 (n : Int)]) (by simp [results, Tryd.results80, go_sem]) rfl ?_
        rw [HS.out]
        exact ⟨_, _, _, rfl, ⟨k + j, rfl, hkj, HDD.out⟩, ((Below.refl _ _).alloc (Nat.le_refl _) _).alloc (by simp) _⟩
theorem refTake_any (A : Option Addr) (M : List UInt8) (c B : Nat) (v : Value) (n : Int) (st : St) (w : World) (h : RefV A M c v st) (hr : RB w B A M) (hB : B ≤ w.heap.size) (hc : M.length ≤ c) (hl : M.length ≤ 1048576) :
    Calls Tryd.prog 36 #[v, .int .i64 n] w (GivesRefB A M c B (stepTake n st) w) := by
  rcases st with _ | L
  · obtain rfl : v = _ := h
    go_enter Tryd.func36, Tryd.ntmps36
    go_wp2_with (go_at_call 62; refine (spoilt_any _ _ _ _).mono ?_; rintro e w1 ⟨rfl, hb1⟩; obtain ⟨hc1, hf1⟩ := bcell hb1; have hz1 : w.heap.size + 1 < w1.heap.size := by have := hb1.size; simp at this; omega)
    refine bodyPost_ret (v := .tuple #[.agg #[.slice none 0 0, .int .i64 0, .bool true], .slice none 0 0]) (by simp [results, Tryd.results36, go_sem, hc1, hz1]) rfl ?_
    exact ⟨_, _, _, none, 0, rfl, rfl, RB.none_ _ _, below3 (two_then hb1) (by omega) _ _ _⟩
  · obtain ⟨k, rfl, hk, hL⟩ := h
    have HD : Hid (M.length - k = L.length) := by show _ = _; rw [hL]; simp
    have HLd := Lib.hid hL
    obtain ⟨d, hd⟩ : ∃ d : Nat, d = M.length - k := ⟨_, rfl⟩
    have he : (M.length : Int) - (k : Int) = (d : Int) := by omega
    have HD2 : Hid (L.length = d) := by show _ = _; rw [hd, HD.out]
    clear hL hd
    by_cases hn : n < 0 ∨ (d : Int) < n
    · have HS : Hid (stepTake n (some L) = (none, [])) := by show _ = _; simp only [stepTake]; rw [HD2.out, if_pos hn]
      rcases hn with hn | hn
      · have hd1 : decide (n < 0) = true := by simp [hn]
        go_enter Tryd.func36, Tryd.ntmps36
        go_wp2_with (go_at_call 62; refine (spoilt_any _ _ _ _).mono ?_; rintro e w1 ⟨rfl, hb1⟩; obtain ⟨hc1, hf1⟩ := bcell hb1; have hz1 : w.heap.size + 1 < w1.heap.size := by have := hb1.size; simp at this; omega)
        refine bodyPost_ret (v := .tuple #[.agg #[.slice none 0 0, .int .i64 0, .bool true], .slice none 0 0]) (by simp [results, Tryd.results36, go_sem, hc1, hz1]) rfl ?_
        rw [HS.out]
        exact ⟨_, _, _, none, 0, rfl, rfl, RB.none_ _ _, below3 (two_then hb1) (by omega) _ _ _⟩
      · have hd1 : decide (n < 0) = false := by simp; omega
        have hd2 : decide ((d : Int) < n) = true := by simp [hn]
        go_enter Tryd.func36, Tryd.ntmps36
        go_wp2_with (go_at_call 62; refine (spoilt_any _ _ _ _).mono ?_; rintro e w1 ⟨rfl, hb1⟩; obtain ⟨hc1, hf1⟩ := bcell hb1; have hz1 : w.heap.size + 1 < w1.heap.size := by have := hb1.size; simp at this; omega)
        refine bodyPost_ret (v := .tuple #[.agg #[.slice none 0 0, .int .i64 0, .bool true], .slice none 0 0]) (by simp [results, Tryd.results36, go_sem, hc1, hz1]) rfl ?_
        rw [HS.out]
        exact ⟨_, _, _, none, 0, rfl, rfl, RB.none_ _ _, below3 (two_then hb1) (by omega) _ _ _⟩
    · have hd1 : decide (n < 0) = false := by simp; omega
      have hd2 : decide ((d : Int) < n) = false := by simp; omega
      obtain ⟨j, rfl⟩ : ∃ j : Nat, n = (j : Int) := ⟨n.toNat, by omega⟩
      have HS : Hid (stepTake (j : Int) (some L) = (some (L.drop j), L.take j)) := by show _ = _; simp only [stepTake]; rw [HD2.out, if_neg hn]; simp
      have hkj : k + j ≤ M.length := by omega
      clear hn
      have HDD : Hid (L.drop j = M.drop (k + j)) := by show _ = _; rw [HLd.out, List.drop_drop]
      have hjl : j ≤ L.length := by rw [HD2.out]; omega
      by_cases hck : c = k
      · have hrb : RB w B A (L.take j) := by rw [HLd.out]; exact rb_take (rb_cut0 hr hk hc hck) j (by rw [← HLd.out]; exact hjl)
        have HJ : Hid ((L.take j).length = j) := by show _ = _; rw [List.length_take]; omega
        subst hck
        go_enter Tryd.func36, Tryd.ntmps36
        go_wp2
        go_region
        go_wp2
        refine bodyPost_ret (v := .tuple #[.agg #[.slice A M.length c, .int .i64 ((c : Int) + (j : Int)), .bool false], .slice A (c + j - c) 0]) (by simp [results, Tryd.results36, go_sem]) rfl ?_
        rw [HS.out]
        refine ⟨_, _, _, A, 0, ?_, ⟨c + j, rfl, hkj, HDD.out⟩, ?_, ?_⟩
        · show _ = Ending.returned (.tuple #[_, .slice A (L.take j).length 0])
          rw [HJ.out, Nat.add_sub_cancel_left]; rfl
        · exact ((hrb.alloc hB _).alloc (by simp; omega) _).drew
        · exact (((Below.refl _ _).alloc (Nat.le_refl _) _).alloc (by simp) _).drew
      · have hrb : RB w B (A.map (fun x => x.add k)) (L.take j) := by rw [HLd.out]; exact rb_take (rb_cut1 hr hk hc hck) j (by rw [← HLd.out]; exact hjl)
        have HJ : Hid ((L.take j).length = j) := by show _ = _; rw [List.length_take]; omega
        go_enter Tryd.func36, Tryd.ntmps36
        go_wp2
        go_region
        go_wp2
        refine bodyPost_ret (v := .tuple #[.agg #[.slice A M.length c, .int .i64 ((k : Int) + (j : Int)), .bool false], .slice (A.map (fun x => x.add k)) (k + j - k) (c - k)]) (by simp [results, Tryd.results36, go_sem]) rfl ?_
        rw [HS.out]
        refine ⟨_, _, _, A.map (fun x => x.add k), c - k, ?_, ⟨k + j, rfl, hkj, HDD.out⟩, ?_, ?_⟩
        · show _ = Ending.returned (.tuple #[_, .slice (A.map (fun x => x.add k)) (L.take j).length (c - k)])
          rw [HJ.out, Nat.add_sub_cancel_left]; rfl
        · exact ((hrb.alloc hB _).alloc (by simp; omega) _).drew
        · exact (((Below.refl _ _).alloc (Nat.le_refl _) _).alloc (by simp) _).drew
end
section
open Go.RowKit
def GivesAtC (B g : Nat) (r : St × List UInt8) (w : World) (e : Ending) (w' : World) : Prop :=
  ∃ A c, e = .returned (.slice A r.2.length c) ∧ RB w' w'.heap.size A r.2 ∧ (∀ ad, A = some ad → w.heap.size ≤ ad.block) ∧ (r.2.length ≤ c ∧ c ≤ 9223372036854775807) ∧ CurB B w' g r.1 ∧ Only w w' g
theorem take_atc (B g : Nat) (n : Int) (st : St) (w : World) (h0 : CurB B w g st) (hB : B ≤ w.heap.size) :
    Calls Tryd.prog 26 #[.pointer (some ⟨g, 0, none⟩), .int .i64 n] w (GivesAtC B g (stepTake n st) w) := by
  have h := h0.cur hB
  have hb := bad_any g _ w h
  have hfl := fail_any g _ w h
  rcases st with _ | L
  · have h' := Lib.hid h0
    clear h h0
    go_enter Tryd.func26, Tryd.ntmps26
    go_wp2_with (go_at_call 53; refine hb.mono ?_; rintro e w' ⟨rfl, rfl⟩)
    go_ret
    exact ⟨none, 0, rfl, RB.none_ _ _, (fun _ e => nomatch e), ⟨Nat.le_refl _, Nat.zero_le _⟩, h'.out, only_refl _ _⟩
  · obtain ⟨A, c, hg, hrB, hc, hl⟩ := h0
    have hr := hrB.more hB
    have HrB := Lib.hid hrB
    clear h hrB
    have hc0 : w.cell? ⟨g, 0, none⟩ = some (.slice A L.length c) := (blk_cell hg 0).1
    have hf0 : w.frozen? ⟨g, 0, none⟩ = false := (blk_cell hg 0).2
    have HG := Lib.hid hg
    clear hg
    by_cases hn : n < 0 ∨ (L.length : Int) < n
    · have HS : Hid (stepTake n (some L) = (none, [])) := by show _ = _; simp only [stepTake]; rw [if_pos hn]
      rcases hn with hn | hn
      · have hd : decide (n < 0) = true := by simp [hn]
        go_enter Tryd.func26, Tryd.ntmps26
        go_wp2_with (first
          | (go_at_call 53; refine hb.mono ?_; rintro e w' ⟨rfl, rfl⟩)
          | (go_at_call 54; refine hfl.mono ?_; rintro e w' ⟨rfl, hcur, honly, hsz⟩))
        go_ret
        rw [HS.out]
        exact ⟨none, 0, rfl, RB.none_ _ _, (fun _ e => nomatch e), ⟨Nat.le_refl _, Nat.zero_le _⟩, hcur, honly⟩
      · have hd : decide (n < 0) = false := by simp; omega
        have hd2 : decide ((L.length : Int) < n) = true := by simp [hn]
        go_enter Tryd.func26, Tryd.ntmps26
        go_wp2_with (first
          | (go_at_call 53; refine hb.mono ?_; rintro e w' ⟨rfl, rfl⟩)
          | (go_at_call 54; refine hfl.mono ?_; rintro e w' ⟨rfl, hcur, honly, hsz⟩))
        go_ret
        rw [HS.out]
        exact ⟨none, 0, rfl, RB.none_ _ _, (fun _ e => nomatch e), ⟨Nat.le_refl _, Nat.zero_le _⟩, hcur, honly⟩
    · have hd : decide (n < 0) = false := by simp; omega
      have hd2 : decide ((L.length : Int) < n) = false := by simp; omega
      obtain ⟨k, rfl⟩ : ∃ k : Nat, n = (k : Int) := ⟨n.toNat, by omega⟩
      have hkl : k ≤ L.length := by omega
      have HS : Hid (stepTake (k : Int) (some L) = (some (L.drop k), L.take k)) := by show _ = _; simp only [stepTake]; rw [if_neg hn]; simp
      clear hn
      go_enter Tryd.func26, Tryd.ntmps26
      have hlt : g < w.heap.size := Blk.lt HG.out
      have HLK : Hid ((L.take k).length = k) := by show _ = _; rw [List.length_take]; omega
      have hrt : RB w w.heap.size A (L.take k) := by
        refine ⟨by rw [cells_length]; simp, fun h0 => ?_⟩
        obtain ⟨ad, e, hb', hcc⟩ := hr.2 (by rw [List.length_take] at h0; omega)
        refine ⟨ad, e, hb', fun j u hu => hcc j u ?_⟩
        rw [← cells_take, List.getElem?_take] at hu
        split at hu
        · exact hu
        · cases hu
      go_wp2_with (first
        | (go_at_call 53; refine hb.mono ?_; rintro e w' ⟨rfl, rfl⟩)
        | (go_at_call 52; refine (copied_any (L.take k) k _ _ _ (by rw [List.length_take]; omega) hrt (by rw [List.length_take]; omega)).mono ?_; rintro e w1 ⟨A1, c1, he1, hown1, hb1⟩; rw [HLK.out] at he1; subst he1; have hc1 := (hb1.cell (p := ⟨g, 0, none⟩) hlt).trans hc0; have hf1 := (hb1.frozen (p := ⟨g, 0, none⟩) hlt).trans hf0))
      all_goals
        have HG1 : Hid (w1.heap[g]? = some (.cells #[.slice A L.length c, .bool false] 81 (0, 0))) := Blk.below HG.out hb1 hlt
        have hr1 : RB w1 B A L := HrB.out.below (hb1.mono hB)
        have hcur := fun A' c' a b d => cur_cutB HG1 hr1 hc hl hkl A' c' a b d
        have ho1 : RB w1 w1.heap.size A1 (L.take k) := own_rb hown1
        go_ret
        rw [HS.out]
        refine ⟨A1, c1, by show _ = Ending.returned (.slice A1 (L.take k).length c1); rw [HLK.out]; rfl, ?_, (fun ad e => own_new hown1 ad e), ⟨own_le hown1, own_cap hown1⟩, hcur _ _ (fun hx => by first | rfl | (exact absurd hx (by assumption))) (fun hx => by first | rfl | (exact absurd (by assumption) hx)) (by omega), only_trans (only_below hb1 g) (only_set _ _ _ _)⟩
        have hz : ∀ u, (w1.setCell ⟨g, 0, none⟩ u).heap.size = w1.heap.size := fun u => by simp [World.setCell]
        rw [hz]
        exact rb_far ho1 HG1.out (cur_cells _ _ _ _) _
end
section
open Go.RowKit
def Tab (w : World) : Prop := ∀ n : Nat, n < 64 → w.cell? ⟨0, n, none⟩ = some (.int .u32 ((kL.getD n 0).toNat : Int))
theorem Tab.lt {w : World} (h : Tab w) : 0 < w.heap.size := World.block_lt_of_cell? w _ (h 0 (by omega))
theorem Tab.below {w w' : World} (h : Tab w) (hb : Below w.heap.size w w') : Tab w' := fun n hn => by
  rw [hb.cell (p := ⟨0, n, none⟩) h.lt]; exact h n hn
theorem Tab.only {w w' : World} {g : Nat} (h : Tab w) (hb : Only w w' g) (hg : g ≠ 0) : Tab w' := fun n hn => by
  have := hb.block 0 h.lt (by simp; omega)
  have e : w'.cell? ⟨0, n, none⟩ = w.cell? ⟨0, n, none⟩ := by simp [World.cell?, this]
  rw [e]; exact h n hn
theorem w_max (x : UInt32) : bits .xor .u32 IntKind.u32.max (x.toNat : Int) = bits .xor .u32 (x.toNat : Int) 4294967295 := by
  rw [w_not, UInt32.xor_comm]
  exact w_xor 4294967295 x
def addK (s r : S8) : Nat → List UInt32
  | 0 => s.list
  | k + 1 => (addK s r k).set k ((addK s r k).getD k 0 + r.list.getD k 0)
theorem addK_length (s r : S8) : ∀ k, (addK s r k).length = 8 := by
  intro k
  induction k with
  | zero => rfl
  | succ k ih => simp [addK, ih]
theorem addK_last (s r : S8) : addK s r 8 = (addS s r).list := rfl
theorem Tryd.shaS : (Tryd.prog.info? 100).map (fun i => (i.zero, i.size)) = some (some (.agg (wcells (List.replicate 8 0)).toArray), (wcells (List.replicate 8 0)).toArray.size) := by kernel_rfl
theorem Tryd.shaSs : (Tryd.prog.info? 100).map (·.size) = some 8 := by kernel_rfl
theorem mixed_any (s : S8) (W : List UInt32) (w : World) (hl : W.length = 64) (hT : Tab w) :
    Calls Tryd.prog 91 #[.agg (wcells s.list).toArray, .agg (wcells W).toArray] w fun e w' => e = .returned (.agg (wcells (addS s (roundsK W s 64)).list).toArray) ∧ Below w.heap.size w w' := by
  have HI : Hid (∀ n : Nat, n < 64 → ∀ V, (Instr.index 113 (.agg (wcells W).toArray) (.int .i64 (n : Int))).run Tryd.prog V = .ok (.int .u32 ((W.getD n 0).toNat : Int)) V) :=
    fun n hn V => run_index_row Tryd.underlying113 Tryd.sha4 (fun d h => by rw [Tryd.underlying66] at h; injection h with h; subst h; rfl) (by rw [Tryd.underlying66]; rfl) rfl hn (wcells_at W (by omega))
  have HT : Hid (Tab w) := hT
  have hT0 := hT.lt
  obtain ⟨SA, hSA⟩ : ∃ SA, SA = (wcells s.list).toArray := ⟨_, rfl⟩
  obtain ⟨WA, hWA⟩ : ∃ WA, WA = (wcells W).toArray := ⟨_, rfl⟩
  have sW : WA.size = 64 := by rw [hWA]; simp [wcells_length, hl]
  have HSA : Hid (SA = (wcells s.list).toArray) := hSA
  rw [← hSA, ← hWA]
  rw [← hWA] at HI
  clear hSA hWA hT hl
  go_enter Tryd.func91, Tryd.ntmps91
  go_wp2_with (first
    | (refine wpList_box_letter rfl 100 _ rfl (some 2) rfl SA rfl ?_; intro g1 w1 hw1 hg1)
    | (refine wpList_box_letter rfl 113 _ rfl (some 3) rfl WA rfl ?_; intro g2 w2 hw2 hg2)
    | (refine wpList_alloc_letter rfl 100 rfl (some 4) rfl _ Tryd.shaS ?_; intro g3 w3 hw3 hg3))
  have b1 : Below w.heap.size w w1 := letter_below hw1 (Below.refl _ _) (Nat.le_refl _)
  have b2 : Below w.heap.size w w2 := letter_below hw2 b1 (by have := letter_size hw1; omega)
  have b3 : Below w.heap.size w w3 := letter_below hw3 b2 (by have := letter_size hw1; have := letter_size hw2; omega)
  have k1 : Blk w3 g1 100 (wcells s.list).toArray := by rw [← HSA.out]; exact letter_keeps hw3 (letter_keeps hw2 (letter_blk hw1 hg1))
  have k2 : Blk w3 g2 113 WA := letter_keeps hw3 (letter_blk hw2 hg2)
  have k3 : Blk w3 g3 100 (wcells (List.replicate 8 0)).toArray := letter_blk hw3 hg3
  have n1 : w.heap.size ≤ g1 := by have := hg1.out; omega
  have n3 : g1 < g3 := by have := letter_size hw1; have := letter_size hw2; have := hg3.out; have := hg1.out; omega
  have n4 : w.heap.size < w3.heap.size := by have := letter_size hw1; have := letter_size hw2; have := letter_size hw3; omega
  clear hw1 hw2 hw3 hg1 hg2 hg3 b1 b2 HSA
  obtain ⟨ZS, hZS⟩ : ∃ ZS, ZS = (wcells (List.replicate 8 0)).toArray := ⟨_, rfl⟩
  have hz : ZS.size = 8 := by rw [hZS]; simp [wcells_length]
  rw [← hZS] at k3
  clear hZS
  obtain ⟨a0, ha0⟩ : ∃ x, x = s.a := ⟨_, rfl⟩
  obtain ⟨b0, hb0⟩ : ∃ x, x = s.b := ⟨_, rfl⟩
  obtain ⟨c0, hc0⟩ : ∃ x, x = s.c := ⟨_, rfl⟩
  obtain ⟨d0, hd0⟩ : ∃ x, x = s.d := ⟨_, rfl⟩
  obtain ⟨e1, he1⟩ : ∃ x, x = s.e := ⟨_, rfl⟩
  obtain ⟨f0, hf0⟩ : ∃ x, x = s.f := ⟨_, rfl⟩
  obtain ⟨g0, hg0⟩ : ∃ x, x = s.g := ⟨_, rfl⟩
  obtain ⟨h0, hh0⟩ : ∃ x, x = s.h := ⟨_, rfl⟩
  have HS : Hid (s = ⟨a0, b0, c0, d0, e1, f0, g0, h0⟩) := by show _ = _; rw [ha0, hb0, hc0, hd0, he1, hf0, hg0, hh0]
  have q0 : w3.cell? ⟨g1, 0, none⟩ = some (.int .u32 (a0.toNat : Int)) := by rw [ha0]; exact wblk_cell k1 (by rw [list_S8]; omega)
  have q1 : w3.cell? ⟨g1, 1, none⟩ = some (.int .u32 (b0.toNat : Int)) := by rw [hb0]; exact wblk_cell k1 (by rw [list_S8]; omega)
  have q2 : w3.cell? ⟨g1, 2, none⟩ = some (.int .u32 (c0.toNat : Int)) := by rw [hc0]; exact wblk_cell k1 (by rw [list_S8]; omega)
  have q3 : w3.cell? ⟨g1, 3, none⟩ = some (.int .u32 (d0.toNat : Int)) := by rw [hd0]; exact wblk_cell k1 (by rw [list_S8]; omega)
  have q4 : w3.cell? ⟨g1, 4, none⟩ = some (.int .u32 (e1.toNat : Int)) := by rw [he1]; exact wblk_cell k1 (by rw [list_S8]; omega)
  have q5 : w3.cell? ⟨g1, 5, none⟩ = some (.int .u32 (f0.toNat : Int)) := by rw [hf0]; exact wblk_cell k1 (by rw [list_S8]; omega)
  have q6 : w3.cell? ⟨g1, 6, none⟩ = some (.int .u32 (g0.toNat : Int)) := by rw [hg0]; exact wblk_cell k1 (by rw [list_S8]; omega)
  have q7 : w3.cell? ⟨g1, 7, none⟩ = some (.int .u32 (h0.toNat : Int)) := by rw [hh0]; exact wblk_cell k1 (by rw [list_S8]; omega)
  clear ha0 hb0 hc0 hd0 he1 hf0 hg0 hh0
  go_quiet (fail)
  clear q0 q1 q2 q3 q4 q5 q6 q7
  have K1 : Blk (w3.drewN nq) g1 100 (wcells s.list).toArray := k1.drewN nq
  have K2 : Blk (w3.drewN nq) g2 113 WA := k2.drewN nq
  have K3 : Blk (w3.drewN nq) g3 100 ZS := k3.drewN nq
  have B3 : Below w.heap.size w (w3.drewN nq) := ⟨b3.os, b3.tape, b3.output, b3.size, b3.block⟩
  generalize w3.drewN nq = w4 at K1 K2 K3 B3 ⊢
  clear k1 k2 k3 b3
  go_wp2_with (refine wpList_load_row rfl 113 _ rfl g2 rfl _ _ _ _ K2 Tryd.underlying113 rfl (by rw [sW]; exact Tryd.shaWs) ?_)
  go_loopw [5, 6, 7, 8, 9, 10, 11, 12, 13, 14, 15, 16, 17, 18, 38] (fun v5 v6 v7 v8 v9 v10 v11 v12 x13 x14 x15 x16 x17 x18 i wr => ∃ (n : Nat) (r : S8), n ≤ 64 ∧ i = .int .i64 (n : Int) ∧ Hid (r = roundsK W s n) ∧ v5 = .int .u32 (r.a.toNat : Int) ∧ v6 = .int .u32 (r.b.toNat : Int) ∧ v7 = .int .u32 (r.c.toNat : Int) ∧ v8 = .int .u32 (r.d.toNat : Int) ∧ v9 = .int .u32 (r.e.toNat : Int) ∧ v10 = .int .u32 (r.f.toNat : Int) ∧ v11 = .int .u32 (r.g.toNat : Int) ∧ v12 = .int .u32 (r.h.toNat : Int) ∧
      Blk wr g1 100 (wcells s.list).toArray ∧ Blk wr g3 100 ZS ∧ Below w.heap.size w wr) (fun _ _ _ _ _ _ _ _ _ _ _ _ _ _ i _ => 64 - (intOf i).toNat)
  case atStart => exact ⟨0, ⟨a0, b0, c0, d0, e1, f0, g0, h0⟩, by omega, rfl, HS.out.symm, rfl, rfl, rfl, rfl, rfl, rfl, rfl, rfl, K1, K3, B3⟩
  case round =>
    clear K1 K2 K3 B3
    obtain ⟨n, r, hn, rfl, HR, rfl, rfl, rfl, rfl, rfl, rfl, rfl, rfl, K1, K3, hbr⟩ := hrel
    by_cases hlt : n < 64
    · obtain ⟨kk, hkk⟩ : ∃ x, x = kL.getD n 0 := ⟨_, rfl⟩
      obtain ⟨ww, hww⟩ : ∃ x, x = W.getD n 0 := ⟨_, rfl⟩
      have hi := HI.out n hlt
      rw [← hww] at hi
      have ck : wr.cell? ⟨0, n, none⟩ = some (.int .u32 (kk.toNat : Int)) := by rw [hbr.cell (p := ⟨0, n, none⟩) hT0, HT.out _ hlt, hkk]
      have HN : Hid (roundsK W s (n + 1) = roundL r kk ww) := by show _ = _; rw [roundsK, ← HR.out, hkk, hww]
      obtain ⟨va, vb, vc, vd, ve, vf, vg, vh⟩ := r
      clear hkk hww HR HI
      dsimp only
      obtain ⟨s1, hs1⟩ : ∃ x, x = big1 ve := ⟨_, rfl⟩
      obtain ⟨s2, hs2⟩ : ∃ x, x = big0 va := ⟨_, rfl⟩
      obtain ⟨ch, hch⟩ : ∃ x, x = chL ve vf vg := ⟨_, rfl⟩
      obtain ⟨mj, hmj⟩ : ∃ x, x = majL va vb vc := ⟨_, rfl⟩
      obtain ⟨p1, hp1⟩ : ∃ x, x = vh + s1 := ⟨_, rfl⟩
      obtain ⟨p2, hp2⟩ : ∃ x, x = p1 + ch := ⟨_, rfl⟩
      obtain ⟨p3, hp3⟩ : ∃ x, x = p2 + kk := ⟨_, rfl⟩
      obtain ⟨xx, hxx⟩ : ∃ x, x = p3 + ww := ⟨_, rfl⟩
      obtain ⟨yy, hyy⟩ : ∃ x, x = s2 + mj := ⟨_, rfl⟩
      obtain ⟨na, hna⟩ : ∃ x, x = xx + yy := ⟨_, rfl⟩
      obtain ⟨ne, hne⟩ : ∃ x, x = vd + xx := ⟨_, rfl⟩
      have HX : Hid (roundL ⟨va, vb, vc, vd, ve, vf, vg, vh⟩ kk ww = ⟨na, va, vb, vc, ne, ve, vf, vg⟩) := by
        show _ = _
        unfold roundL
        rw [hna, hne, hyy, hxx, hp3, hp2, hp1, hch, hmj, hs1, hs2]
      have F1 : bits .xor .u32 (bits .xor .u32 ((rotR ve 6).toNat : Int) ((rotR ve 11).toNat : Int)) ((rotR ve 25).toNat : Int) = (s1.toNat : Int) := by rw [w_xor, w_xor, hs1]; rfl
      have F2 : bits .xor .u32 (bits .xor .u32 ((rotR va 2).toNat : Int) ((rotR va 13).toNat : Int)) ((rotR va 22).toNat : Int) = (s2.toNat : Int) := by rw [w_xor, w_xor, hs2]; rfl
      have F3 : bits .xor .u32 (bits .and .u32 (ve.toNat : Int) (vf.toNat : Int)) (bits .and .u32 (bits .xor .u32 IntKind.u32.max (ve.toNat : Int)) (vg.toNat : Int)) = (ch.toNat : Int) := by rw [w_max, w_ch, hch]
      have F4 : bits .xor .u32 (bits .xor .u32 (bits .and .u32 (va.toNat : Int) (vb.toNat : Int)) (bits .and .u32 (va.toNat : Int) (vc.toNat : Int))) (bits .and .u32 (vb.toNat : Int) (vc.toNat : Int)) = (mj.toNat : Int) := by rw [w_maj, hmj]
      have A1 : ((vh.toNat : Int) + (s1.toNat : Int)) % 4294967296 = (p1.toNat : Int) := by rw [w_add, hp1]
      have A2 : ((p1.toNat : Int) + (ch.toNat : Int)) % 4294967296 = (p2.toNat : Int) := by rw [w_add, hp2]
      have A3 : ((p2.toNat : Int) + (kk.toNat : Int)) % 4294967296 = (p3.toNat : Int) := by rw [w_add, hp3]
      have A4 : ((p3.toNat : Int) + (ww.toNat : Int)) % 4294967296 = (xx.toNat : Int) := by rw [w_add, hxx]
      have A5 : ((s2.toNat : Int) + (mj.toNat : Int)) % 4294967296 = (yy.toNat : Int) := by rw [w_add, hyy]
      have A6 : ((xx.toNat : Int) + (yy.toNat : Int)) % 4294967296 = (na.toNat : Int) := by rw [w_add, hna]
      have A7 : ((vd.toNat : Int) + (xx.toNat : Int)) % 4294967296 = (ne.toNat : Int) := by rw [w_add, hne]
      have T6 : Hid (∀ V, Calls Tryd.prog 94 #[.int .u32 (ve.toNat : Int), .int .u64 6] V fun e w' => e = .returned (.int .u32 ((rotR ve 6).toNat : Int)) ∧ V = w') := fun V => turned_any ve 6 V (by decide) (by decide)
      have T11 : Hid (∀ V, Calls Tryd.prog 94 #[.int .u32 (ve.toNat : Int), .int .u64 11] V fun e w' => e = .returned (.int .u32 ((rotR ve 11).toNat : Int)) ∧ V = w') := fun V => turned_any ve 11 V (by decide) (by decide)
      have T25 : Hid (∀ V, Calls Tryd.prog 94 #[.int .u32 (ve.toNat : Int), .int .u64 25] V fun e w' => e = .returned (.int .u32 ((rotR ve 25).toNat : Int)) ∧ V = w') := fun V => turned_any ve 25 V (by decide) (by decide)
      have T2 : Hid (∀ V, Calls Tryd.prog 94 #[.int .u32 (va.toNat : Int), .int .u64 2] V fun e w' => e = .returned (.int .u32 ((rotR va 2).toNat : Int)) ∧ V = w') := fun V => turned_any va 2 V (by decide) (by decide)
      have T13 : Hid (∀ V, Calls Tryd.prog 94 #[.int .u32 (va.toNat : Int), .int .u64 13] V fun e w' => e = .returned (.int .u32 ((rotR va 13).toNat : Int)) ∧ V = w') := fun V => turned_any va 13 V (by decide) (by decide)
      have T22 : Hid (∀ V, Calls Tryd.prog 94 #[.int .u32 (va.toNat : Int), .int .u64 22] V fun e w' => e = .returned (.int .u32 ((rotR va 22).toNat : Int)) ∧ V = w') := fun V => turned_any va 22 V (by decide) (by decide)
      have HM : Hid ((xx.toNat : Int) = (xx.toNat : Int)) := rfl
      clear hs1 hs2 hch hmj hp1 hp2 hp3 hxx hyy hna hne
      have u1 : (0 : Int) ≤ (n : Int) := by omega
      have u2 : (n : Int) < 64 := by omega
      go_wp2
      go_quiet (first
        | (with_reducible exact quiet_same T6)
        | (with_reducible exact quiet_same T11)
        | (with_reducible exact quiet_same T25))
      have hbq : Below w.heap.size w (wr.drewN nq) := ⟨hbr.os, hbr.tape, hbr.output, hbr.size, hbr.block⟩
      have K1' : Blk (wr.drewN nq) g1 100 (wcells s.list).toArray := K1.drewN nq
      have K3' : Blk (wr.drewN nq) g3 100 ZS := K3.drewN nq
      go_wp2_with (first
        | (go_at_call 94; (with_reducible refine (T2.out _).mono ?_); rintro e w' ⟨rfl, rfl⟩)
        | (go_at_call 94; (with_reducible refine (T13.out _).mono ?_); rintro e w' ⟨rfl, rfl⟩)
        | (go_at_call 94; (with_reducible refine (T22.out _).mono ?_); rintro e w' ⟨rfl, rfl⟩))
      refine ⟨⟨n + 1, ⟨na, va, vb, vc, ne, ve, vf, vg⟩, by omega, by go_num, by show _ = _; rw [HN.out, HX.out], by first | rfl | exact congrArg (Value.int .u32) A6, rfl, rfl, rfl, by first | rfl | exact congrArg (Value.int .u32) A7, rfl, rfl, rfl, K1', K3', hbq⟩, ?_⟩
      simp [intOf]; omega
    · have hn64 : n = 64 := by omega
      have HE : Hid (r = roundsK W s 64) := by rw [← hn64]; exact HR
      clear HR HI hn64 hn HS HT hT0 sW
      obtain ⟨RA, hRA⟩ : ∃ RA : Array Value, RA = (wcells r.list).toArray := ⟨_, rfl⟩
      have HI8 : Hid (∀ n : Nat, n < 8 → ∀ V, (Instr.index 100 (.agg RA) (.int .i64 (n : Int))).run Tryd.prog V = .ok (.int .u32 ((r.list.getD n 0).toNat : Int)) V) :=
        fun n hn V => by rw [hRA]; exact run_index_row Tryd.underlying100 Tryd.sha4 (fun d h => by rw [Tryd.underlying66] at h; injection h with h; subst h; rfl) (by rw [Tryd.underlying66]; rfl) rfl hn (wcells_at r.list (by rw [list_S8]; omega))
      have HRA : Hid (#[.int .u32 (r.a.toNat : Int), .int .u32 (r.b.toNat : Int), .int .u32 (r.c.toNat : Int), .int .u32 (r.d.toNat : Int), .int .u32 (r.e.toNat : Int), .int .u32 (r.f.toNat : Int), .int .u32 (r.g.toNat : Int), .int .u32 (r.h.toNat : Int)] = RA) := by rw [hRA]; rfl
      clear hRA
      obtain ⟨wo, rfl⟩ : ∃ wo : World, wo = wr := ⟨_, rfl⟩
      go_wp2
      rw [HRA.out]
      go_loopw [19, 20, 111] (fun x19 x20 i wr => ∃ n : Nat, n ≤ 8 ∧ i = .int .i64 (n : Int) ∧ Blk wr g1 100 (wcells (addK s r n)).toArray ∧ Blk wr g3 100 ZS ∧ Below w.heap.size w wr) (fun _ _ i _ => 8 - (intOf i).toNat)
      case atStart => exact ⟨0, by omega, rfl, K1, K3, hbr⟩
      case round =>
        clear K1 K3 hbr hlt
        obtain ⟨n, hn, rfl, K1, K3, hbr⟩ := hrel
        by_cases hlt : n < 8
        · have hi := HI8.out n hlt
          obtain ⟨ww, hww⟩ : ∃ x, x = r.list.getD n 0 := ⟨_, rfl⟩
          obtain ⟨xx, hxx⟩ : ∃ x, x = (addK s r n).getD n 0 := ⟨_, rfl⟩
          obtain ⟨yy, hyy⟩ : ∃ x, x = xx + ww := ⟨_, rfl⟩
          have c1 : wr.cell? ⟨g1, n, none⟩ = some (.int .u32 (xx.toNat : Int)) := by rw [hxx]; exact wblk_cell K1 (by rw [addK_length]; omega)
          have f1 : wr.frozen? ⟨g1, n, none⟩ = false := K1.frozen _
          have A1 : ((xx.toNat : Int) + (ww.toNat : Int)) % 4294967296 = (yy.toNat : Int) := by rw [w_add, hyy]
          have HN : Hid (Blk (wr.setCell ⟨g1, n, none⟩ (.int .u32 (yy.toNat : Int))) g1 100 (wcells (addK s r (n + 1))).toArray) := by
            have := wblk_set K1 n yy
            rw [hyy, hxx, hww] at this ⊢
            exact this
          rw [← hww] at hi
          have u1 : (0 : Int) ≤ (n : Int) := by omega
          have u2 : (n : Int) < 8 := by omega
          clear hww hxx hyy K1 HI8 HRA
          go_wp2
          refine ⟨⟨n + 1, by omega, by go_num, HN.out, K3.far (show g3 ≠ g1 by omega) _, hbr.setCell (show w.heap.size ≤ g1 by omega) _⟩, ?_⟩
          simp [intOf]; omega
        · have h8 : n = 8 := by omega
          have p3 : Blk wr g1 100 (wcells (addS s r).list).toArray := by rw [← addK_last, ← h8]; exact K1
          clear K1 h8
          obtain ⟨CS, hCS⟩ : ∃ CS, CS = (wcells (addS s r).list).toArray := ⟨_, rfl⟩
          have hs : CS.size = 8 := by rw [hCS]; simp [wcells_length, list_S8]
          have h1 : CS.all (·.oneCell') = true := by rw [hCS]; exact all_oneCell_toArray (wcells_one _)
          have HC : Hid (CS = (wcells (addS s r).list).toArray) := hCS
          rw [← hCS] at p3
          clear hCS HRA HI8
          go_wp2_with (first
            | (refine wpList_load_row rfl 100 _ rfl g1 rfl _ _ _ _ p3 Tryd.underlying100 rfl (by rw [hs]; exact Tryd.shaSs) ?_)
            | (refine wpList_store_rowTo rfl 100 _ _ rfl rfl g3 CS rfl rfl _ _ K3 (by rw [hs]; exact Tryd.shaSs) (by rw [hs, hz]) h1 ?_))
          have q9 : Blk (wr.setRow g3 CS) g3 100 CS := setRow_heap _ _ _ _ _ _ K3
          try simp only [Exit.inBlock, Exit.then]
          refine bodyPost_ret (results_cell_row rfl _ _ g3 _ _ _ _ rfl q9 Tryd.underlying100 rfl (by rw [hs]; exact Tryd.shaSs)) rfl ?_
          rw [HC.out, HE.out]
          exact ⟨rfl, below_setRow hbr (by omega) _⟩
end
end Go.Proofs.YtinphkflfdpaeaaDoor
