/- Lemmas under the proofs of this place: RefN, CrcRSeal, CrcOpen. No statement is proved here. -/
import Derived.Test.YtnmcohdlogepdaaBu11
import Derived.Test.YtnmcohdlogepdaaBu10
import Derived.Test.YtnmcohdlogepdaaBu12
import Derived.Test.YtnmcohdlogepdaaBu01
import Derived.Deep.RegionWith
import Derived.Deep.QuietTactic
import Derived.BigQuiet
import Derived.Lib.SmallJoins
section
set_option linter.unusedVariables false
set_option linter.unusedSimpArgs false
namespace Go.Proofs.Ytnmcohdlogepdaa
open Go.RowKit
def RefV (A : Option Addr) (M : List UInt8) (c : Nat) (v : Value) : St → Prop
  | none => v = .agg #[.slice none 0 0, .int .i64 0, .bool true]
  | some L => ∃ at_ : Nat, v = .agg #[.slice A M.length c, .int .i64 (at_ : Int), .bool false] ∧ at_ ≤ M.length ∧ L = M.drop at_
theorem refFrom_any (A : Option Addr) (n c : Nat) (w : World) : Calls Try.prog 24 #[.slice A n c] w fun e w' => e = .returned (.agg #[.slice A n c, .int .i64 0, .bool false]) ∧ Below w.heap.size w w' := by
  go_enter Try.func24, Try.ntmps24
  go_wp2
  refine bodyPost_ret (v := .agg #[.slice A n c, .int .i64 0, .bool false]) (by simp [results, Try.results24, go_sem]) rfl ⟨rfl, ?_⟩
  exact (Below.refl _ _).alloc (Nat.le_refl _) _
theorem spoilt_any (a b d : Value) (w : World) : Calls Try.prog 44 #[.agg #[a, b, d]] w fun e w' => e = .returned (.agg #[.slice none 0 0, .int .i64 0, .bool true]) ∧ Below w.heap.size w w' := by
  go_enter Try.func44, Try.ntmps44
  go_wp2
  refine bodyPost_ret (v := .agg #[.slice none 0 0, .int .i64 0, .bool true]) (by simp [results, Try.results44, go_sem]) rfl ⟨rfl, ?_⟩
  exact ((Below.refl _ _).alloc (Nat.le_refl _) _).alloc (by simp) _
def GivesRefN (A : Option Addr) (M : List UInt8) (c : Nat) (r : St × Nat) (w : World) (e : Ending) (w' : World) : Prop :=
  ∃ x0 x1 x2, e = .returned (.tuple #[.agg #[x0, x1, x2], .int .i64 (r.2 : Int)]) ∧ RefV A M c (.agg #[x0, x1, x2]) r.1 ∧ Below w.heap.size w w'
def GivesRefB (A : Option Addr) (M : List UInt8) (c B : Nat) (r : St × List UInt8) (w : World) (e : Ending) (w' : World) : Prop :=
  ∃ x0 x1 x2 A' c', e = .returned (.tuple #[.agg #[x0, x1, x2], .slice A' r.2.length c']) ∧ RefV A M c (.agg #[x0, x1, x2]) r.1 ∧ RB w' B A' r.2 ∧ Below w.heap.size w w'
theorem refv_form {A : Option Addr} {M : List UInt8} {c : Nat} {v : Value} {st : St} (h : RefV A M c v st) : ∃ x0 x1 x2, v = .agg #[x0, x1, x2] := by
  rcases st with _ | L
  · exact ⟨_, _, _, h⟩
  · obtain ⟨k, rfl, _⟩ := h
    exact ⟨_, _, _, rfl⟩
theorem refGet_none (L : List UInt8) (n : Nat) (A : Option Addr) (c B : Nat) (w : World) (hn : n = L.length) (hr : RB w B A L) (hl : L.length ≤ 1048576) (hs : getL L = none) :
    Calls Try.prog 46 #[.slice A n c] w fun e w' => e = .returned (.tuple #[.int .i64 0, .int .i64 0, .int .i64 5]) ∧ w = w' := by
  subst hn
  have h := refGet_any L A c B w hr hl
  rw [hs] at h
  exact h
theorem refGet_some (L : List UInt8) (n : Nat) (A : Option Addr) (c B : Nat) (w : World) (hn : n = L.length) (hr : RB w B A L) (hl : L.length ≤ 1048576) (m j : Nat) (hs : getL L = some (m, j)) :
    Calls Try.prog 46 #[.slice A n c] w fun e w' => e = .returned (.tuple #[.int .i64 (m : Int), .int .i64 (j : Int), .int .i64 0]) ∧ w = w' := by
  subst hn
  have h := refGet_any L A c B w hr hl
  rw [hs] at h
  exact h
set_option maxHeartbeats 1000000 in
theorem refNum_any (A : Option Addr) (M : List UInt8) (c B : Nat) (v : Value) (st : St) (w : World) (h : RefV A M c v st) (hr : RB w B A M) (hB : B ≤ w.heap.size) (hc : M.length ≤ c) (hl : M.length ≤ 1048576) :
    Calls Try.prog 25 #[v] w (GivesRefN A M c (stepNum st) w) := by
  rcases st with _ | L
  · obtain rfl : v = _ := h
    go_enter Try.func25, Try.ntmps25
    go_wp2
    refine bodyPost_ret (v := .tuple #[.agg #[.slice none 0 0, .int .i64 0, .bool true], .int .i64 0]) (by simp [results, Try.results25, go_sem]) rfl ⟨_, _, _, rfl, rfl, ?_⟩
    exact ((Below.refl _ _).alloc (Nat.le_refl _) _).alloc (by simp) _
  · obtain ⟨k, rfl, hk, hL⟩ := h
    have HD : Hid (M.length - k = L.length) := by show _ = _; rw [hL]; simp
    have hll : L.length ≤ 1048576 := by rw [← HD.out]; omega
    have HLd := Lib.hid hL
    have hrc : (c = k → RB w B A L) ∧ (c ≠ k → RB w B (A.map (fun x => x.add k)) L) := by
      rw [hL]; exact ⟨fun h => rb_cut0 hr hk hc h, fun h => rb_cut1 hr hk hc h⟩
    clear hL
    rcases hs : getL L with _ | ⟨n, j⟩
    · have HS : Hid (stepNum (some L) = (none, 0)) := by show _ = _; simp [stepNum, hs]
      have HG := Lib.hid hs
      clear hs
      by_cases hck : c = k
      · have hrb := hrc.1 hck
        clear hrc
        subst hck
        go_enter Try.func25, Try.ntmps25
        go_wp2_with (first
          | (go_at_call 46; refine (refGet_none L _ _ _ B _ (by have := HD.out; omega) ((hrb.alloc hB _).alloc (by simp; omega) _) hll HG.out).mono ?_; rintro e w' ⟨rfl, rfl⟩)
          | (go_at_call 44; refine (spoilt_any _ _ _ _).mono ?_; rintro e w1 ⟨rfl, hb1⟩; obtain ⟨hc1, hf1⟩ := bcell hb1; have hz1 : w.heap.size + 1 < w1.heap.size := by have := hb1.size; simp at this; omega))
        refine bodyPost_ret (v := .tuple #[.agg #[.slice none 0 0, .int .i64 0, .bool true], .int .i64 0]) (by simp [results, Try.results25, go_sem, hc1, hz1]) rfl ?_
        rw [HS.out]
        exact ⟨_, _, _, rfl, rfl, below3 (two_then hb1) (by omega) _ _ _⟩
      · have hrb := hrc.2 hck
        clear hrc
        go_enter Try.func25, Try.ntmps25
        go_wp2_with (first
          | (go_at_call 46; refine (refGet_none L _ _ _ B _ (by have := HD.out; omega) ((hrb.alloc hB _).alloc (by simp; omega) _) hll HG.out).mono ?_; rintro e w' ⟨rfl, rfl⟩)
          | (go_at_call 44; refine (spoilt_any _ _ _ _).mono ?_; rintro e w1 ⟨rfl, hb1⟩; obtain ⟨hc1, hf1⟩ := bcell hb1; have hz1 : w.heap.size + 1 < w1.heap.size := by have := hb1.size; simp at this; omega))
        refine bodyPost_ret (v := .tuple #[.agg #[.slice none 0 0, .int .i64 0, .bool true], .int .i64 0]) (by simp [results, Try.results25, go_sem, hc1, hz1]) rfl ?_
        rw [HS.out]
        exact ⟨_, _, _, rfl, rfl, below3 (two_then hb1) (by omega) _ _ _⟩
    · have HS : Hid (stepNum (some L) = (some (L.drop j), n)) := by show _ = _; simp [stepNum, hs]
      have HG := Lib.hid hs
      have hjl := (getL_some L n j hs).2.2.1
      have hkj : k + j ≤ M.length := by have := HD.out; omega
      have HDD : Hid (L.drop j = M.drop (k + j)) := by show _ = _; rw [HLd.out, List.drop_drop]
      clear hs
      by_cases hck : c = k
      · have hrb := hrc.1 hck
        clear hrc
        subst hck
        go_enter Try.func25, Try.ntmps25
        go_wp2_with (go_at_call 46; refine (refGet_some L _ _ _ B _ (by have := HD.out; omega) ((hrb.alloc hB _).alloc (by simp; omega) _) hll n j HG.out).mono ?_; rintro e w' ⟨rfl, rfl⟩)
        refine bodyPost_ret (v := .tuple #[.agg #[.slice A M.length c, .int .i64 ((c : Int) + (j : Int)), .bool false], .int .i64 (n : Int)]) (by simp [results, Try.results25, go_sem]) rfl ?_
        rw [HS.out]
        exact ⟨_, _, _, rfl, ⟨c + j, rfl, hkj, HDD.out⟩, ((Below.refl _ _).alloc (Nat.le_refl _) _).alloc (by simp) _⟩
      · have hrb := hrc.2 hck
        clear hrc
        go_enter Try.func25, Try.ntmps25
        go_wp2_with (go_at_call 46; refine (refGet_some L _ _ _ B _ (by have := HD.out; omega) ((hrb.alloc hB _).alloc (by simp; omega) _) hll n j HG.out).mono ?_; rintro e w' ⟨rfl, rfl⟩)
        refine bodyPost_ret (v := .tuple #[.agg #[.slice A M.length c, .int .i64 ((k : Int) + (j : Int)), .bool false], .int .i64 (n : Int)]) (by simp [results, Try.results25, go_sem]) rfl ?_
        rw [HS.out]
        exact ⟨_, _, _, rfl, ⟨k + j, rfl, hkj, HDD.out⟩, ((Below.refl _ _).alloc (Nat.le_refl _) _).alloc (by simp) _⟩
set_option maxHeartbeats 1000000 in
theorem refTake_any (A : Option Addr) (M : List UInt8) (c B : Nat) (v : Value) (n : Int) (st : St) (w : World) (h : RefV A M c v st) (hr : RB w B A M) (hB : B ≤ w.heap.size) (hc : M.length ≤ c) (hl : M.length ≤ 1048576) :
    Calls Try.prog 45 #[v, .int .i64 n] w (GivesRefB A M c B (stepTake n st) w) := by
  rcases st with _ | L
  · obtain rfl : v = _ := h
    go_enter Try.func45, Try.ntmps45
    go_wp2_with (go_at_call 44; refine (spoilt_any _ _ _ _).mono ?_; rintro e w1 ⟨rfl, hb1⟩; obtain ⟨hc1, hf1⟩ := bcell hb1; have hz1 : w.heap.size + 1 < w1.heap.size := by have := hb1.size; simp at this; omega)
    refine bodyPost_ret (v := .tuple #[.agg #[.slice none 0 0, .int .i64 0, .bool true], .slice none 0 0]) (by simp [results, Try.results45, go_sem, hc1, hz1]) rfl ?_
    exact ⟨_, _, _, none, 0, rfl, rfl, RB.none_ _ _, below3 (two_then hb1) (by omega) _ _ _⟩
  · obtain ⟨k, rfl, hk, hL⟩ := h
    have HD : Hid (M.length - k = L.length) := by show _ = _; rw [hL]; simp
    have HLd := Lib.hid hL
    obtain ⟨d, hd⟩ : ∃ d : Nat, d = M.length - k := ⟨_, rfl⟩
    have he : (M.length : Int) - (k : Int) = (d : Int) := by omega
    have HD2 : Hid (L.length = d) := by show _ = _; rw [hd, HD.out]
    clear hL hd
    by_cases hn : n < 0 ∨ (d : Int) < n
    · have HS : Hid (stepTake n (some L) = (none, [])) := by show _ = _; simp only [stepTake]; rw [HD2.out, if_pos hn]
      rcases hn with hn | hn
      · have hd1 : decide (n < 0) = true := by simp [hn]
        go_enter Try.func45, Try.ntmps45
        go_wp2_with (go_at_call 44; refine (spoilt_any _ _ _ _).mono ?_; rintro e w1 ⟨rfl, hb1⟩; obtain ⟨hc1, hf1⟩ := bcell hb1; have hz1 : w.heap.size + 1 < w1.heap.size := by have := hb1.size; simp at this; omega)
        refine bodyPost_ret (v := .tuple #[.agg #[.slice none 0 0, .int .i64 0, .bool true], .slice none 0 0]) (by simp [results, Try.results45, go_sem, hc1, hz1]) rfl ?_
        rw [HS.out]
        exact ⟨_, _, _, none, 0, rfl, rfl, RB.none_ _ _, below3 (two_then hb1) (by omega) _ _ _⟩
      · have hd1 : decide (n < 0) = false := by simp; omega
        have hd2 : decide ((d : Int) < n) = true := by simp [hn]
        go_enter Try.func45, Try.ntmps45
        go_wp2_with (go_at_call 44; refine (spoilt_any _ _ _ _).mono ?_; rintro e w1 ⟨rfl, hb1⟩; obtain ⟨hc1, hf1⟩ := bcell hb1; have hz1 : w.heap.size + 1 < w1.heap.size := by have := hb1.size; simp at this; omega)
        refine bodyPost_ret (v := .tuple #[.agg #[.slice none 0 0, .int .i64 0, .bool true], .slice none 0 0]) (by simp [results, Try.results45, go_sem, hc1, hz1]) rfl ?_
        rw [HS.out]
        exact ⟨_, _, _, none, 0, rfl, rfl, RB.none_ _ _, below3 (two_then hb1) (by omega) _ _ _⟩
    · have hd1 : decide (n < 0) = false := by simp; omega
      have hd2 : decide ((d : Int) < n) = false := by simp; omega
      obtain ⟨j, rfl⟩ : ∃ j : Nat, n = (j : Int) := ⟨n.toNat, by omega⟩
      have HS : Hid (stepTake (j : Int) (some L) = (some (L.drop j), L.take j)) := by show _ = _; simp only [stepTake]; rw [HD2.out, if_neg hn]; simp
      have hkj : k + j ≤ M.length := by omega
      clear hn
      have HDD : Hid (L.drop j = M.drop (k + j)) := by show _ = _; rw [HLd.out, List.drop_drop]
      have hjl : j ≤ L.length := by rw [HD2.out]; omega
      by_cases hck : c = k
      · have hrb : RB w B A (L.take j) := by rw [HLd.out]; exact rb_take (rb_cut0 hr hk hc hck) j (by rw [← HLd.out]; exact hjl)
        have HJ : Hid ((L.take j).length = j) := by show _ = _; rw [List.length_take]; omega
        subst hck
        go_enter Try.func45, Try.ntmps45
        go_wp2
        go_region
        go_wp2
        refine bodyPost_ret (v := .tuple #[.agg #[.slice A M.length c, .int .i64 ((c : Int) + (j : Int)), .bool false], .slice A (c + j - c) 0]) (by simp [results, Try.results45, go_sem]) rfl ?_
        rw [HS.out]
        refine ⟨_, _, _, A, 0, ?_, ⟨c + j, rfl, hkj, HDD.out⟩, ?_, ?_⟩
        · show _ = Ending.returned (.tuple #[_, .slice A (L.take j).length 0])
          rw [HJ.out, Nat.add_sub_cancel_left]; rfl
        · exact ((hrb.alloc hB _).alloc (by simp; omega) _).drew
        · exact (((Below.refl _ _).alloc (Nat.le_refl _) _).alloc (by simp) _).drew
      · have hrb : RB w B (A.map (fun x => x.add k)) (L.take j) := by rw [HLd.out]; exact rb_take (rb_cut1 hr hk hc hck) j (by rw [← HLd.out]; exact hjl)
        have HJ : Hid ((L.take j).length = j) := by show _ = _; rw [List.length_take]; omega
        go_enter Try.func45, Try.ntmps45
        go_wp2
        go_region
        go_wp2
        refine bodyPost_ret (v := .tuple #[.agg #[.slice A M.length c, .int .i64 ((k : Int) + (j : Int)), .bool false], .slice (A.map (fun x => x.add k)) (k + j - k) (c - k)]) (by simp [results, Try.results45, go_sem]) rfl ?_
        rw [HS.out]
        refine ⟨_, _, _, A.map (fun x => x.add k), c - k, ?_, ⟨k + j, rfl, hkj, HDD.out⟩, ?_, ?_⟩
        · show _ = Ending.returned (.tuple #[_, .slice (A.map (fun x => x.add k)) (L.take j).length (c - k)])
          rw [HJ.out, Nat.add_sub_cancel_left]; rfl
        · exact ((hrb.alloc hB _).alloc (by simp; omega) _).drew
        · exact (((Below.refl _ _).alloc (Nat.le_refl _) _).alloc (by simp) _).drew
end Go.Proofs.Ytnmcohdlogepdaa
end
section
set_option linter.unusedVariables false
namespace Go.Proofs.Ytnmcohdlogepdaa
open Go.RowKit
theorem le4_cells (n : Nat) (h : n < 4294967296) : (#[.int .u8 ((n : Int) % 256), .int .u8 ((n : Int) / 256 % 256), .int .u8 ((n : Int) / 65536 % 256), .int .u8 ((n : Int) / 16777216)] : Array Value) = (cells (le4 n)).toArray := by
  have e1 : ((n : Int) % 256) = ((UInt8.ofNat (n % 256)).toNat : Int) := by rw [ofNat_toNat _ (by omega)]; omega
  have e2 : ((n : Int) / 256 % 256) = ((UInt8.ofNat (n / 256 % 256)).toNat : Int) := by rw [ofNat_toNat _ (by omega)]; omega
  have e3 : ((n : Int) / 65536 % 256) = ((UInt8.ofNat (n / 65536 % 256)).toNat : Int) := by rw [ofNat_toNat _ (by omega)]; omega
  have e4 : ((n : Int) / 16777216) = ((UInt8.ofNat (n / 16777216)).toNat : Int) := by rw [ofNat_toNat _ (by omega)]; omega
  rw [e1, e2, e3, e4]
  rfl
theorem le4_new (n : Nat) (w : World) (h : n < 4294967296) : RB (w.alloc (.cells #[.int .u8 ((n : Int) % 256), .int .u8 ((n : Int) / 256 % 256), .int .u8 ((n : Int) / 65536 % 256), .int .u8 ((n : Int) / 16777216)] 5)) (w.heap.size + 1) (some ⟨w.heap.size, 0, none⟩) (le4 n) := by
  rw [le4_cells n h]
  exact rb_new w (le4 n)
set_option maxRecDepth 100000 in
set_option maxHeartbeats 1000000 in
theorem refSeal_any (L : List UInt8) (A : Option Addr) (c B : Nat) (w : World) (hr : RB w B A L) (hl : L.length ≤ 140737488351232) :
    Calls Try.prog 5 #[.slice A L.length c] w (GivesOne (sealL L) w) := by
  obtain ⟨i0, hi0, hz0, hz1, hz2⟩ := info_parts Try.info5
  have hr := rb_lt hr
  have hs := sumL_lt L
  have HS : ∀ W E, RB W E A L → Calls Try.prog 13 #[.slice A L.length c] W fun e w' => e = .returned (.int .u32 (sumL L : Int)) ∧ W = w' := fun W E h => refSum_any L A c E W h (by omega)
  obtain ⟨n, hn⟩ : ∃ n, n = sumL L := ⟨_, rfl⟩
  rw [← hn] at HS hs
  have HN : Hid (n = sumL L) := hn
  have HS2 := Lib.hid HS
  obtain ⟨M, hM⟩ : ∃ M, M = le4 n := ⟨_, rfl⟩
  have HM : Hid (L ++ M = sealL L) := by show _ = _; rw [hM, hn]; rfl
  have HF : Hid (∀ W : World, RB (W.alloc (.cells #[.int .u8 ((n : Int) % 256), .int .u8 ((n : Int) / 256 % 256), .int .u8 ((n : Int) / 65536 % 256), .int .u8 ((n : Int) / 16777216)] 5)) (W.heap.size + 1) (some ⟨W.heap.size, 0, none⟩) M) := by
    rw [hM]; exact fun W => le4_new n W hs
  have HM4 : Hid (∀ x : Option Addr, Value.slice x 4 4 = .slice x M.length 4) := by show ∀ x, _; intro x; rw [hM]; rfl
  have hm4 : M.length ≤ 4 := by rw [hM]; exact Nat.le_refl _
  clear hM
  clear hn HS
  go_enter Try.func5, Try.ntmps5
  go_wp2_with (first
    | (go_at_call 13; (with_reducible refine (HS2.out _ _ hr).mono ?_); rintro e w' ⟨rfl, rfl⟩)
    | (at_builtin; refine wpList_append_any _ rfl (.tmp 6) (.tmp 7) _ rfl w.heap.size 5 i0 _ 1 1 Try.underlying22 hi0 hz0 hz1 hz2 rfl (by omega) (.slice (some ⟨w.heap.size, 0, none⟩) 0 0) 0 [] rfl (World.ownsRow_made w #[] 0 (Nat.le_refl _) (by decide) rfl) w.heap.size A L.length c (cells L) rfl (hr.alloc (Nat.le_refl _) _) (cells_one _) (by simp only [maxLen]; omega) (by omega) (by simp) ?_; intro v5 w5 ho5 hg5 hat5; simp only [Nat.zero_add, List.nil_append] at ho5; have hb5 : Below w.heap.size w w5 := ((Below.refl _ _).alloc (Nat.le_refl _) _).grown hg5 (by simp) (by simp [Value.ownBlock]))
    | (at_builtin; refine wpList_append_any _ rfl (.tmp 8) (.tmp 23) _ rfl w.heap.size 5 i0 _ 1 1 Try.underlying22 hi0 hz0 hz1 hz2 rfl (by omega) _ L.length (cells L) rfl (ho5.alloc _) (w5.heap.size + 1) (some ⟨w5.heap.size, 0, none⟩) M.length 4 (cells M) (HM4.out _) (HF.out w5) (cells_one _) (by simp only [maxLen]; omega) (by omega) (by have := hb5.size; simp; omega) ?_; intro v6 w6 ho6 hg6 hat6; have hb6 : Below w.heap.size w w6 := (hb5.alloc hb5.size _).grown hg6 (by have := hb5.size; simp; omega) (fun k hk => (ho5.lt k hk).1)))
  rw [← cells_append, ← List.length_append, HM.out] at ho6
  obtain ⟨A6, c6, hv⟩ := own_form ho6
  go_ret
  exact ⟨A6, c6, by rw [hv]; rfl, by rw [hv] at ho6; exact ho6, hb6⟩
end Go.Proofs.Ytnmcohdlogepdaa
end
section
set_option linter.unusedVariables false
namespace Go.Proofs.Ytnmcohdlogepdaa
open Go.RowKit
def GivesOpen : Option (List UInt8) → World → Ending → World → Prop
  | some M, w, e, w' => GivesBytes M w e w'
  | none, w, e, w' => e = .returned (.tuple #[.slice none 0 0, .int .i64 12]) ∧ Below w.heap.size w w'
set_option maxRecDepth 100000 in
set_option maxHeartbeats 1000000 in
theorem open_short (N : Nat) (A : Option Addr) (c : Nat) (w : World) (hl : N < 4) :
    Calls Try.prog 14 #[.slice A N c] w (GivesOpen none w) := by
  have hd2 : decide ((N : Int) - 4 < 0) = true := by simp; omega
  go_enter Try.func14, Try.ntmps14
  go_wp2
  go_quiet (fail)
  go_wp2
  go_ret2
  exact ⟨rfl, ⟨rfl, rfl, rfl, Nat.le_refl _, fun _ _ => rfl⟩⟩
set_option maxRecDepth 100000 in
set_option maxHeartbeats 1000000 in
theorem open_core (n : Nat) (A : Option Addr) (c : Nat) (P Q : List UInt8) (w : World) (hc : n + 4 ≤ c) (hcap : c ≤ 9223372036854775807) (b : Bool) (R : World → Ending → World → Prop)
    (HS : Hid (∀ W, Below w.heap.size w W → Calls Try.prog 36 #[.slice A n c] W fun e w' => e = .returned (.int .u32 (sumL P : Int)) ∧ W = w'))
    (HB : Hid (∀ W, Calls Try.prog 35 #[.int .u32 (sumL P : Int)] W (GivesOne Q W)))
    (HE : Hid (∀ W C d, Below w.heap.size w W → RB W W.heap.size C Q → Calls Try.prog 34 #[.slice (Option.map (fun x => x.add n) A) 4 (c - n), .slice C Q.length d] W fun e w' => e = .returned (.bool b) ∧ W = w'))
    (HC : Hid (∀ W, Below w.heap.size w W → Calls Try.prog 37 #[.slice A n c] W (GivesOne P W)))
    (HR : Hid (b = true → ∀ e w', GivesBytes P w e w' → R w e w')) (HR2 : Hid (b = false → ∀ w', Below w.heap.size w w' → R w (.returned (.tuple #[.slice none 0 0, .int .i64 12])) w')) :
    Calls Try.prog 14 #[.slice A (n + 4) c] w (R w) := by
  have hd2 : decide ((n : Int) < 0) = false := by simp
  have hn4 : (n : Int) ≤ (n : Int) + 4 := by omega
  have hnc : (n : Int) ≤ (c : Int) := by omega
  have hcn : ¬ c = n := by omega
  rcases b with _ | _
  all_goals
    go_enter Try.func14, Try.ntmps14
    go_wp2
    refine wp_region_any (by kernel_rfl) ?_
    change wpAny _ _ _ _ _ _ _ (World.drew _)
    refine wpAny_take (i := 0) (v := ?_) rfl (by kernel_rfl) (by kernel_rfl) (by kernel_rfl) (fun _ _ _ h => h) (Or.inl ⟨by kernel_rfl, ?_⟩) ?_
    rotate_left
    · intro w; go_simp; with_reducible rfl
    rotate_left
    refine wpAny_take (i := 1) (v := ?_) rfl (by kernel_rfl) (by kernel_rfl) (by kernel_rfl) (fun _ _ _ h => h) (Or.inl ⟨by kernel_rfl, ?_⟩) ?_
    rotate_left
    · intro w; go_simp; with_reducible rfl
    rotate_left
    refine wpAny_take (i := 2) (v := ?_) rfl (by kernel_rfl) (by kernel_rfl) (by kernel_rfl) (fun _ _ _ h => h) (Or.inl ⟨by kernel_rfl, ?_⟩) ?_
    rotate_left
    · intro w; go_simp; with_reducible rfl
    rotate_left
    refine wpAny_take (i := 3) (v := ?_) rfl (by kernel_rfl) (by kernel_rfl) (by kernel_rfl) (fun _ _ _ h => h) (Or.inl ⟨by kernel_rfl, ?_⟩) ?_
    rotate_left
    · intro w; go_simp; with_reducible rfl
    rotate_left
    refine wpAny_take (i := 4) (v := ?_) rfl (by kernel_rfl) (by kernel_rfl) (by kernel_rfl) (fun _ _ _ h => h) (Or.inl ⟨by kernel_rfl, ?_⟩) ?_
    rotate_left
    · intro w; go_simp; with_reducible rfl
    rotate_left
    refine wpAny_take (i := 5) (v := ?_) rfl (by kernel_rfl) (by kernel_rfl) (by kernel_rfl) (fun _ _ _ h => h) (Or.inl ⟨by kernel_rfl, ?_⟩) ?_
    rotate_left
    · intro w; go_simp; with_reducible rfl
    rotate_left
    refine wpAny_take (i := 6) (v := ?_) rfl (by kernel_rfl) (by kernel_rfl) (by kernel_rfl) (fun _ _ _ h => h) (Or.inl ⟨by kernel_rfl, ?_⟩) ?_
    rotate_left
    · intro w; go_simp; with_reducible rfl
    rotate_left
    refine wpAny_take (i := 7) (v := ?_) rfl (by kernel_rfl) (by kernel_rfl) (by kernel_rfl) (fun _ _ _ h => h) (Or.inl ⟨by kernel_rfl, ?_⟩) ?_
    rotate_left
    · intro w; go_simp; with_reducible rfl
    rotate_left
    refine wpAny_take (i := 8) (v := ?_) rfl (by kernel_rfl) (by kernel_rfl) (by kernel_rfl) (fun _ _ _ h => h) (Or.inl ⟨by kernel_rfl, ?_⟩) ?_
    rotate_left
    · intro w; go_simp; with_reducible rfl
    rotate_left
    refine wpAny_tail 9 (by kernel_rfl) (by kernel_rfl) ?_
    simp only [List.drop_succ_cons, List.drop_zero]
    go_wp2_with (first
      | (go_at_call 36; (with_reducible refine (HS.out _ (Below.refl _ _).drew).mono ?_); rintro e w' ⟨rfl, rfl⟩)
      | (go_at_call 35; (with_reducible refine (HB.out _).mono ?_); rintro e w1 ⟨A1, c1, rfl, ho1, hb1⟩; have hb2 : Below w.heap.size w w1 := below_drew hb1)
      | (go_at_call 34; (with_reducible refine (HE.out _ _ _ hb2 (own_rb ho1)).mono ?_); rintro e w' ⟨rfl, rfl⟩)
      | (go_at_call 37; (with_reducible refine (HC.out _ hb2).mono ?_); rintro e w2 ⟨A2, c2, rfl, ho2, hb3⟩))
  · exact HR2.out (by trivial) _ hb2
  · have ho3 : Own w2 w.heap.size A2 P c2 := Joins.ownsRow_le ho2 hb2.size
    have hb4 := hb2.trans (hb3.mono hb2.size)
    exact HR.out (by trivial) _ _ ⟨A2, c2, rfl, ho3, hb4⟩
theorem open_any (L : List UInt8) (A : Option Addr) (c B : Nat) (w : World) (hr : RB w B A L) (hlc : L.length ≤ c) (hc : c ≤ 9223372036854775807) (hl : L.length ≤ 1048576) :
    Calls Try.prog 14 #[.slice A L.length c] w (GivesOpen (openL L) w) := by
  have hr := rb_lt hr
  by_cases h4 : L.length < 4
  · have e : openL L = none := by unfold openL; rw [if_neg (by omega)]
    rw [e]
    exact open_short _ A c w h4
  · obtain ⟨n, hn⟩ : ∃ n, n = L.length - 4 := ⟨_, rfl⟩
    have hn4 : L.length = n + 4 := by omega
    have hp : (L.take n).length = n := by rw [List.length_take]; omega
    have hd : (L.drop n).length = 4 := by rw [List.length_drop]; omega
    have hrp : RB w w.heap.size A (L.take n) := rb_take hr n (by omega)
    have hrd : RB w w.heap.size (A.map (fun x => x.add n)) (L.drop n) := rb_cut1 hr (by omega) hlc (by omega)
    have hop : openL L = if L.drop n = le4 (sumL (L.take n)) then some (L.take n) else none := by
      unfold openL sealL
      rw [← hn]
      have hx : (L.take n ++ le4 (sumL (L.take n)) = L) ↔ (L.drop n = le4 (sumL (L.take n))) := by
        conv => lhs; rhs; rw [← List.take_append_drop n L]
        rw [List.append_cancel_left_eq]
        exact ⟨Eq.symm, Eq.symm⟩
      by_cases hy : L.drop n = le4 (sumL (L.take n))
      · rw [if_pos ⟨by omega, hx.2 hy⟩, if_pos hy]
      · rw [if_neg (fun h => hy (hx.1 h.2)), if_neg hy]
    rw [hn4]
    refine open_core n A c (L.take n) (le4 (sumL (L.take n))) w (by omega) hc (decide (L.drop n = le4 (sumL (L.take n)))) (GivesOpen (openL L)) (fun W hb => ?_) (fun W => ?_) (fun W C d hb hC => ?_) (fun W hb => ?_) (fun hb e w' h => ?_) (fun hb w' h => ?_)
    · have := sum_any (L.take n) A c _ W (hrp.below hb) (by omega)
      rwa [hp] at this
    · exact sumBytes_any _ W (sumL_lt _)
    · have := equal_any (L.drop n) (le4 (sumL (L.take n))) (A.map (fun x => x.add n)) C (c - n) d _ _ W (hrd.below hb) hC
      rwa [hd] at this
    · have := clone_any (L.take n) A c _ W (hrp.below hb) (by omega)
      rwa [hp] at this
    · rw [hop, if_pos (by simpa using hb)]
      exact h
    · rw [hop, if_neg (by simpa using hb)]
      exact ⟨rfl, h⟩
end Go.Proofs.Ytnmcohdlogepdaa
end
