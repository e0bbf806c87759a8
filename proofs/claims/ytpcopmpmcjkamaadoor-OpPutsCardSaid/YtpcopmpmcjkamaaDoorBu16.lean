/- Lemmas under the proofs of this place: RefN. No statement is proved here. -/
import Derived.Test.YtpcopmpmcjkamaaDoorBu12
import Derived.Test.YtpcopmpmcjkamaaDoorBu10
set_option linter.unusedSimpArgs false
set_option linter.unusedVariables false
set_option maxRecDepth 100000
set_option maxHeartbeats 16000000
namespace Go.Proofs.YtpcopmpmcjkamaaDoor
open Go.RowKit
def RefV (A : Option Addr) (M : List UInt8) (c : Nat) (v : Value) : St → Prop
  | none => v = .agg #[.slice none 0 0, .int .i64 0, .bool true]
  | some L => ∃ at_ : Nat, v = .agg #[.slice A M.length c, .int .i64 (at_ : Int), .bool false] ∧ at_ ≤ M.length ∧ L = M.drop at_
theorem refFrom_any (A : Option Addr) (n c : Nat) (w : World) : Calls Tryd.prog 36 #[.slice A n c] w fun e w' => e = .returned (.agg #[.slice A n c, .int .i64 0, .bool false]) ∧ Below w.heap.size w w' := by
  go_enter Tryd.func36, Tryd.ntmps36
  go_wp2
  refine bodyPost_ret (v := .agg #[.slice A n c, .int .i64 0, .bool false]) (by simp [results, Tryd.results36, go_sem]) rfl ⟨rfl, ?_⟩
  exact (Below.refl _ _).alloc (Nat.le_refl _) _
theorem spoilt_any (a b d : Value) (w : World) : Calls Tryd.prog 56 #[.agg #[a, b, d]] w fun e w' => e = .returned (.agg #[.slice none 0 0, .int .i64 0, .bool true]) ∧ Below w.heap.size w w' := by
  go_enter Tryd.func56, Tryd.ntmps56
  go_wp2
  refine bodyPost_ret (v := .agg #[.slice none 0 0, .int .i64 0, .bool true]) (by simp [results, Tryd.results56, go_sem]) rfl ⟨rfl, ?_⟩
  exact ((Below.refl _ _).alloc (Nat.le_refl _) _).alloc (by simp) _
def GivesRefN (A : Option Addr) (M : List UInt8) (c : Nat) (r : St × Nat) (w : World) (e : Ending) (w' : World) : Prop :=
  ∃ x0 x1 x2, e = .returned (.tuple #[.agg #[x0, x1, x2], .int .i64 (r.2 : Int)]) ∧ RefV A M c (.agg #[x0, x1, x2]) r.1 ∧ Below w.heap.size w w'
def GivesRefB (A : Option Addr) (M : List UInt8) (c B : Nat) (r : St × List UInt8) (w : World) (e : Ending) (w' : World) : Prop :=
  ∃ x0 x1 x2 A' c', e = .returned (.tuple #[.agg #[x0, x1, x2], .slice A' r.2.length c']) ∧ RefV A M c (.agg #[x0, x1, x2]) r.1 ∧ RB w' B A' r.2 ∧ Below w.heap.size w w'
theorem refv_form {A : Option Addr} {M : List UInt8} {c : Nat} {v : Value} {st : St} (h : RefV A M c v st) : ∃ x0 x1 x2, v = .agg #[x0, x1, x2] := by
  rcases st with _ | L
  · exact ⟨_, _, _, h⟩
  · obtain ⟨k, rfl, _⟩ := h
    exact ⟨_, _, _, rfl⟩
theorem refGet_none (L : List UInt8) (n : Nat) (A : Option Addr) (c B : Nat) (w : World) (hn : n = L.length) (hr : RB w B A L) (hl : L.length ≤ 1048576) (hs : getL L = none) :
    Calls Tryd.prog 64 #[.slice A n c] w fun e w' => e = .returned (.tuple #[.int .i64 0, .int .i64 0, .int .i64 5]) ∧ w = w' := by
  subst hn
  have h := refGet_any L A c B w hr hl
  rw [hs] at h
  exact h
theorem refGet_some (L : List UInt8) (n : Nat) (A : Option Addr) (c B : Nat) (w : World) (hn : n = L.length) (hr : RB w B A L) (hl : L.length ≤ 1048576) (m j : Nat) (hs : getL L = some (m, j)) :
    Calls Tryd.prog 64 #[.slice A n c] w fun e w' => e = .returned (.tuple #[.int .i64 (m : Int), .int .i64 (j : Int), .int .i64 0]) ∧ w = w' := by
  subst hn
  have h := refGet_any L A c B w hr hl
  rw [hs] at h
  exact h
theorem refNum_any (A : Option Addr) (M : List UInt8) (c B : Nat) (v : Value) (st : St) (w : World) (h : RefV A M c v st) (hr : RB w B A M) (hB : B ≤ w.heap.size) (hc : M.length ≤ c) (hl : M.length ≤ 1048576) :
    Calls Tryd.prog 55 #[v] w (GivesRefN A M c (stepNum st) w) := by
  rcases st with _ | L
  · obtain rfl : v = _ := h
    go_enter Tryd.func55, Tryd.ntmps55
    go_wp2
    refine bodyPost_ret (v := .tuple #[.agg #[.slice none 0 0, .int .i64 0, .bool true], .int .i64 0]) (by simp [results, Tryd.results55, go_sem]) rfl ⟨_, _, _, rfl, rfl, ?_⟩
    exact ((Below.refl _ _).alloc (Nat.le_refl _) _).alloc (by simp) _
  · obtain ⟨k, rfl, hk, hL⟩ := h
    have HD : Hid (M.length - k = L.length) := by show _ = _; rw [hL]; simp
    have hll : L.length ≤ 1048576 := by rw [← HD.out]; omega
    have HLd := Lib.hid hL
    have hrc : (c = k → RB w B A L) ∧ (c ≠ k → RB w B (A.map (fun x => x.add k)) L) := by
      rw [hL]; exact ⟨fun h => rb_cut0 hr hk hc h, fun h => rb_cut1 hr hk hc h⟩
    clear hL
    rcases hs : getL L with _ | ⟨n, j⟩
    · have HS : Hid (stepNum (some L) = (none, 0)) := by show _ = _; simp [stepNum, hs]
      have HG := Lib.hid hs
      clear hs
      by_cases hck : c = k
      · have hrb := hrc.1 hck
        clear hrc
        subst hck
        go_enter Tryd.func55, Tryd.ntmps55
        go_wp2_with (first
          | (go_at_call 64; refine (refGet_none L _ _ _ B _ (by have := HD.out; omega) ((hrb.alloc hB _).alloc (by simp; omega) _) hll HG.out).mono ?_; rintro e w' ⟨rfl, rfl⟩)
          | (go_at_call 56; refine (spoilt_any _ _ _ _).mono ?_; rintro e w1 ⟨rfl, hb1⟩; obtain ⟨hc1, hf1⟩ := bcell hb1; have hz1 : w.heap.size + 1 < w1.heap.size := by have := hb1.size; simp at this; omega))
        refine bodyPost_ret (v := .tuple #[.agg #[.slice none 0 0, .int .i64 0, .bool true], .int .i64 0]) (by simp [results, Tryd.results55, go_sem, hc1, hz1]) rfl ?_
        rw [HS.out]
        exact ⟨_, _, _, rfl, rfl, below3 (two_then hb1) (by omega) _ _ _⟩
      · have hrb := hrc.2 hck
        clear hrc
        go_enter Tryd.func55, Tryd.ntmps55
        go_wp2_with (first
          | (go_at_call 64; refine (refGet_none L _ _ _ B _ (by have := HD.out; omega) ((hrb.alloc hB _).alloc (by simp; omega) _) hll HG.out).mono ?_; rintro e w' ⟨rfl, rfl⟩)
          | (go_at_call 56; refine (spoilt_any _ _ _ _).mono ?_; rintro e w1 ⟨rfl, hb1⟩; obtain ⟨hc1, hf1⟩ := bcell hb1; have hz1 : w.heap.size + 1 < w1.heap.size := by have := hb1.size; simp at this; omega))
        refine bodyPost_ret (v := .tuple #[.agg #[.slice none 0 0, .int .i64 0, .bool true], .int .i64 0]) (by simp [results, Tryd.results55, go_sem, hc1, hz1]) rfl ?_
        rw [HS.out]
        exact ⟨_, _, _, rfl, rfl, below3 (two_then hb1) (by omega) _ _ _⟩
    · have HS : Hid (stepNum (some L) = (some (L.drop j), n)) := by show _ = _; simp [stepNum, hs]
      have HG := Lib.hid hs
      have hjl := (getL_some L n j hs).2.2.1
      have hkj : k + j ≤ M.length := by have := HD.out; omega
      have HDD : Hid (L.drop j = M.drop (k + j)) := by show _ = _; rw [HLd.out, List.drop_drop]
      clear hs
      by_cases hck : c = k
      · have hrb := hrc.1 hck
        clear hrc
        subst hck
        go_enter Tryd.func55, Tryd.ntmps55
        go_wp2_with (go_at_call 64; refine (refGet_some L _ _ _ B _ (by have := HD.out; omega) ((hrb.alloc hB _).alloc (by simp; omega) _) hll n j HG.out).mono ?_; rintro e w' ⟨rfl, rfl⟩)
        refine bodyPost_ret (v := .tuple #[.agg #[.slice A M.length c, .int .i64 ((c : Int) + (j : Int)), .bool false], .int .i64 (n : Int)]) (by simp [results, Tryd.results55, go_sem]) rfl ?_
        rw [HS.out]
        exact ⟨_, _, _, rfl, ⟨c + j, rfl, hkj, HDD.out⟩, ((Below.refl _ _).alloc (Nat.le_refl _) _).alloc (by simp) _⟩
      · have hrb := hrc.2 hck
        clear hrc
        go_enter Tryd.func55, Tryd.ntmps55
        go_wp2_with (go_at_call 64; refine (refGet_some L _ _ _ B _ (by have := HD.out; omega) ((hrb.alloc hB _).alloc (by simp; omega) _) hll n j HG.out).mono ?_; rintro e w' ⟨rfl, rfl⟩)
        refine bodyPost_ret (v := .tuple #[.agg #[.slice A M.length c, .int .i64 ((k : Int) + (j : Int)), .bool false], .int .i64 (n : Int)]) (by simp [results, Tryd.results55, go_sem]) rfl ?_
        rw [HS.out]
        exact ⟨_, _, _, rfl, ⟨k + j, rfl, hkj, HDD.out⟩, ((Below.refl _ _).alloc (Nat.le_refl _) _).alloc (by simp) _⟩
theorem refTake_any (A : Option Addr) (M : List UInt8) (c B : Nat) (v : Value) (n : Int) (st : St) (w : World) (h : RefV A M c v st) (hr : RB w B A M) (hB : B ≤ w.heap.size) (hc : M.length ≤ c) (hl : M.length ≤ 1048576) :
    Calls Tryd.prog 39 #[v, .int .i64 n] w (GivesRefB A M c B (stepTake n st) w) := by
  rcases st with _ | L
  · obtain rfl : v = _ := h
    go_enter Tryd.func39, Tryd.ntmps39
    go_wp2_with (go_at_call 56; refine (spoilt_any _ _ _ _).mono ?_; rintro e w1 ⟨rfl, hb1⟩; obtain ⟨hc1, hf1⟩ := bcell hb1; have hz1 : w.heap.size + 1 < w1.heap.size := by have := hb1.size; simp at this; omega)
    refine bodyPost_ret (v := .tuple #[.agg #[.slice none 0 0, .int .i64 0, .bool true], .slice none 0 0]) (by simp [results, Tryd.results39, go_sem, hc1, hz1]) rfl ?_
    exact ⟨_, _, _, none, 0, rfl, rfl, RB.none_ _ _, below3 (two_then hb1) (by omega) _ _ _⟩
  · obtain ⟨k, rfl, hk, hL⟩ := h
    have HD : Hid (M.length - k = L.length) := by show _ = _; rw [hL]; simp
    have HLd := Lib.hid hL
    obtain ⟨d, hd⟩ : ∃ d : Nat, d = M.length - k := ⟨_, rfl⟩
    have he : (M.length : Int) - (k : Int) = (d : Int) := by omega
    have HD2 : Hid (L.length = d) := by show _ = _; rw [hd, HD.out]
    clear hL hd
    by_cases hn : n < 0 ∨ (d : Int) < n
    · have HS : Hid (stepTake n (some L) = (none, [])) := by show _ = _; simp only [stepTake]; rw [HD2.out, if_pos hn]
      rcases hn with hn | hn
      · have hd1 : decide (n < 0) = true := by simp [hn]
        go_enter Tryd.func39, Tryd.ntmps39
        go_wp2_with (go_at_call 56; refine (spoilt_any _ _ _ _).mono ?_; rintro e w1 ⟨rfl, hb1⟩; obtain ⟨hc1, hf1⟩ := bcell hb1; have hz1 : w.heap.size + 1 < w1.heap.size := by have := hb1.size; simp at this; omega)
        refine bodyPost_ret (v := .tuple #[.agg #[.slice none 0 0, .int .i64 0, .bool true], .slice none 0 0]) (by simp [results, Tryd.results39, go_sem, hc1, hz1]) rfl ?_
        rw [HS.out]
        exact ⟨_, _, _, none, 0, rfl, rfl, RB.none_ _ _, below3 (two_then hb1) (by omega) _ _ _⟩
      · have hd1 : decide (n < 0) = false := by simp; omega
        have hd2 : decide ((d : Int) < n) = true := by simp [hn]
        go_enter Tryd.func39, Tryd.ntmps39
        go_wp2_with (go_at_call 56; refine (spoilt_any _ _ _ _).mono ?_; rintro e w1 ⟨rfl, hb1⟩; obtain ⟨hc1, hf1⟩ := bcell hb1; have hz1 : w.heap.size + 1 < w1.heap.size := by have := hb1.size; simp at this; omega)
        refine bodyPost_ret (v := .tuple #[.agg #[.slice none 0 0, .int .i64 0, .bool true], .slice none 0 0]) (by simp [results, Tryd.results39, go_sem, hc1, hz1]) rfl ?_
        rw [HS.out]
        exact ⟨_, _, _, none, 0, rfl, rfl, RB.none_ _ _, below3 (two_then hb1) (by omega) _ _ _⟩
    · have hd1 : decide (n < 0) = false := by simp; omega
      have hd2 : decide ((d : Int) < n) = false := by simp; omega
      obtain ⟨j, rfl⟩ : ∃ j : Nat, n = (j : Int) := ⟨n.toNat, by omega⟩
      have HS : Hid (stepTake (j : Int) (some L) = (some (L.drop j), L.take j)) := by show _ = _; simp only [stepTake]; rw [HD2.out, if_neg hn]; simp
      have hkj : k + j ≤ M.length := by omega
      clear hn
      have HDD : Hid (L.drop j = M.drop (k + j)) := by show _ = _; rw [HLd.out, List.drop_drop]
      have hjl : j ≤ L.length := by rw [HD2.out]; omega
      by_cases hck : c = k
      · have hrb : RB w B A (L.take j) := by rw [HLd.out]; exact rb_take (rb_cut0 hr hk hc hck) j (by rw [← HLd.out]; exact hjl)
        have HJ : Hid ((L.take j).length = j) := by show _ = _; rw [List.length_take]; omega
        subst hck
        go_enter Tryd.func39, Tryd.ntmps39
        go_wp2
        go_region
        go_wp2
        refine bodyPost_ret (v := .tuple #[.agg #[.slice A M.length c, .int .i64 ((c : Int) + (j : Int)), .bool false], .slice A (c + j - c) 0]) (by simp [results, Tryd.results39, go_sem]) rfl ?_
        rw [HS.out]
        refine ⟨_, _, _, A, 0, ?_, ⟨c + j, rfl, hkj, HDD.out⟩, ?_, ?_⟩
        · show _ = Ending.returned (.tuple #[_, .slice A (L.take j).length 0])
          rw [HJ.out, Nat.add_sub_cancel_left]; rfl
        · exact ((hrb.alloc hB _).alloc (by simp; omega) _).drew
        · exact (((Below.refl _ _).alloc (Nat.le_refl _) _).alloc (by simp) _).drew
      · have hrb : RB w B (A.map (fun x => x.add k)) (L.take j) := by rw [HLd.out]; exact rb_take (rb_cut1 hr hk hc hck) j (by rw [← HLd.out]; exact hjl)
        have HJ : Hid ((L.take j).length = j) := by show _ = _; rw [List.length_take]; omega
        go_enter Tryd.func39, Tryd.ntmps39
        go_wp2
        go_region
        go_wp2
        refine bodyPost_ret (v := .tuple #[.agg #[.slice A M.length c, .int .i64 ((k : Int) + (j : Int)), .bool false], .slice (A.map (fun x => x.add k)) (k + j - k) (c - k)]) (by simp [results, Tryd.results39, go_sem]) rfl ?_
        rw [HS.out]
        refine ⟨_, _, _, A.map (fun x => x.add k), c - k, ?_, ⟨k + j, rfl, hkj, HDD.out⟩, ?_, ?_⟩
        · show _ = Ending.returned (.tuple #[_, .slice (A.map (fun x => x.add k)) (L.take j).length (c - k)])
          rw [HJ.out, Nat.add_sub_cancel_left]; rfl
        · exact ((hrb.alloc hB _).alloc (by simp; omega) _).drew
        · exact (((Below.refl _ _).alloc (Nat.le_refl _) _).alloc (by simp) _).drew
end Go.Proofs.YtpcopmpmcjkamaaDoor
