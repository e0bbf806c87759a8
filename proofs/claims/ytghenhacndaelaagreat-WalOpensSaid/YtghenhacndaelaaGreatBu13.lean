/- Lemmas under the proofs of this place: SectRMay, CrcRSeal, DiskPAsk. No statement is proved here. -/
import Derived.Test.YtghenhacndaelaaGreatBu10
import Derived.Test.YtghenhacndaelaaGreatBu03
import Derived.Test.YtghenhacndaelaaGreatBu01
import Derived.Test.YtghenhacndaelaaGreatBu08
import Derived.Test.YtghenhacndaelaaGreatBu11
set_option linter.unusedVariables false
set_option maxRecDepth 100000
set_option maxHeartbeats 16000000
namespace Go.Proofs.YtghenhacndaelaaGreat
section
open Go.RowKit
theorem rmay_any (s : Sd) (A : Option Addr) (c : Nat) (w : World) : Calls Tryz.prog 36 #[secV s A c] w fun e w' => e = .returned (.bool s.may) ∧ Below w.heap.size w w' := by
  obtain ⟨k, ep, n, l, D⟩ := s
  unfold secV
  obtain ⟨m, hm⟩ : ∃ m, m = D.length := ⟨_, rfl⟩
  have HS : Hid (Sd.may ⟨k, ep, n, l, D⟩ = (decide (1 ≤ k) && (decide (k ≤ 255) && (decide (0 ≤ ep) && (decide (ep ≤ 2147483647) && (decide (0 ≤ n) && (decide (n ≤ 2147483647) && (decide (0 ≤ l) && (decide (l ≤ 65535) && decide (m ≤ 48)))))))))) := by show _ = _; rw [hm]; rfl
  simp only
  rw [← hm]
  have HB : Hid (Below w.heap.size w (w.alloc (.cells #[.int .i64 k, .int .i64 ep, .int .i64 n, .int .i64 l, .slice A m c] 49))) := (Below.refl _ _).alloc (Nat.le_refl _) _
  clear hm
  by_cases h0 : 1 ≤ k
  rotate_left
  · have HM : Hid (Sd.may ⟨k, ep, n, l, D⟩ = false) := by show _ = _; rw [HS.out]; simp; omega
    have d0 : decide (1 ≤ k) = false := decide_eq_false h0
    have e0 : decide (k ≥ 1) = false := decide_eq_false (by omega)
    clear HS
    go_enter Tryz.func36, Tryz.ntmps36
    go_wp2
    go_ret
    rw [HM.out]
    exact ⟨rfl, HB.out⟩
  have d0 : decide (1 ≤ k) = true := decide_eq_true h0
  have e0 : decide (k ≥ 1) = true := decide_eq_true (by omega)
  by_cases h1 : k ≤ 255
  rotate_left
  · have HM : Hid (Sd.may ⟨k, ep, n, l, D⟩ = false) := by show _ = _; rw [HS.out]; simp; omega
    have d1 : decide (k ≤ 255) = false := decide_eq_false h1
    clear HS
    go_enter Tryz.func36, Tryz.ntmps36
    go_wp2
    go_ret
    rw [HM.out]
    exact ⟨rfl, HB.out⟩
  have d1 : decide (k ≤ 255) = true := decide_eq_true h1
  by_cases h2 : 0 ≤ ep
  rotate_left
  · have HM : Hid (Sd.may ⟨k, ep, n, l, D⟩ = false) := by show _ = _; rw [HS.out]; simp; omega
    have d2 : decide (0 ≤ ep) = false := decide_eq_false h2
    have e2 : decide (ep ≥ 0) = false := decide_eq_false (by omega)
    clear HS
    go_enter Tryz.func36, Tryz.ntmps36
    go_wp2
    go_ret
    rw [HM.out]
    exact ⟨rfl, HB.out⟩
  have d2 : decide (0 ≤ ep) = true := decide_eq_true h2
  have e2 : decide (ep ≥ 0) = true := decide_eq_true (by omega)
  by_cases h3 : ep ≤ 2147483647
  rotate_left
  · have HM : Hid (Sd.may ⟨k, ep, n, l, D⟩ = false) := by show _ = _; rw [HS.out]; simp; omega
    have d3 : decide (ep ≤ 2147483647) = false := decide_eq_false h3
    clear HS
    go_enter Tryz.func36, Tryz.ntmps36
    go_wp2
    go_ret
    rw [HM.out]
    exact ⟨rfl, HB.out⟩
  have d3 : decide (ep ≤ 2147483647) = true := decide_eq_true h3
  by_cases h4 : 0 ≤ n
  rotate_left
  · have HM : Hid (Sd.may ⟨k, ep, n, l, D⟩ = false) := by show _ = _; rw [HS.out]; simp; omega
    have d4 : decide (0 ≤ n) = false := decide_eq_false h4
    have e4 : decide (n ≥ 0) = false := decide_eq_false (by omega)
    clear HS
    go_enter Tryz.func36, Tryz.ntmps36
    go_wp2
    go_ret
    rw [HM.out]
    exact ⟨rfl, HB.out⟩
  have d4 : decide (0 ≤ n) = true := decide_eq_true h4
  have e4 : decide (n ≥ 0) = true := decide_eq_true (by omega)
  by_cases h5 : n ≤ 2147483647
  rotate_left
  · have HM : Hid (Sd.may ⟨k, ep, n, l, D⟩ = false) := by show _ = _; rw [HS.out]; simp; omega
    have d5 : decide (n ≤ 2147483647) = false := decide_eq_false h5
    clear HS
    go_enter Tryz.func36, Tryz.ntmps36
    go_wp2
    go_ret
    rw [HM.out]
    exact ⟨rfl, HB.out⟩
  have d5 : decide (n ≤ 2147483647) = true := decide_eq_true h5
  by_cases h6 : 0 ≤ l
  rotate_left
  · have HM : Hid (Sd.may ⟨k, ep, n, l, D⟩ = false) := by show _ = _; rw [HS.out]; simp; omega
    have d6 : decide (0 ≤ l) = false := decide_eq_false h6
    have e6 : decide (l ≥ 0) = false := decide_eq_false (by omega)
    clear HS
    go_enter Tryz.func36, Tryz.ntmps36
    go_wp2
    go_ret
    rw [HM.out]
    exact ⟨rfl, HB.out⟩
  have d6 : decide (0 ≤ l) = true := decide_eq_true h6
  have e6 : decide (l ≥ 0) = true := decide_eq_true (by omega)
  by_cases h7 : l ≤ 65535
  rotate_left
  · have HM : Hid (Sd.may ⟨k, ep, n, l, D⟩ = false) := by show _ = _; rw [HS.out]; simp; omega
    have d7 : decide (l ≤ 65535) = false := decide_eq_false h7
    clear HS
    go_enter Tryz.func36, Tryz.ntmps36
    go_wp2
    go_ret
    rw [HM.out]
    exact ⟨rfl, HB.out⟩
  have d7 : decide (l ≤ 65535) = true := decide_eq_true h7
  by_cases h8 : m ≤ 48
  rotate_left
  · have HM : Hid (Sd.may ⟨k, ep, n, l, D⟩ = false) := by show _ = _; rw [HS.out]; simp; omega
    have d8 : decide (m ≤ 48) = false := decide_eq_false h8
    have e8 : decide ((m : Int) ≤ 48) = false := decide_eq_false (by omega)
    clear HS
    go_enter Tryz.func36, Tryz.ntmps36
    go_wp2
    go_ret
    rw [HM.out]
    exact ⟨rfl, HB.out⟩
  have d8 : decide (m ≤ 48) = true := decide_eq_true h8
  have e8 : decide ((m : Int) ≤ 48) = true := decide_eq_true (by omega)
  have HM : Hid (Sd.may ⟨k, ep, n, l, D⟩ = true) := by show _ = _; rw [HS.out]; simp; omega
  clear HS
  go_enter Tryz.func36, Tryz.ntmps36
  go_wp2
  go_ret
  rw [HM.out]
  exact ⟨rfl, HB.out⟩
end
section
open Go.RowKit
theorem le4_cells (n : Nat) (h : n < 4294967296) : (#[.int .u8 ((n : Int) % 256), .int .u8 ((n : Int) / 256 % 256), .int .u8 ((n : Int) / 65536 % 256), .int .u8 ((n : Int) / 16777216)] : Array Value) = (cells (le4 n)).toArray := by
  have e1 : ((n : Int) % 256) = ((UInt8.ofNat (n % 256)).toNat : Int) := by rw [ofNat_toNat _ (by omega)]; omega
  have e2 : ((n : Int) / 256 % 256) = ((UInt8.ofNat (n / 256 % 256)).toNat : Int) := by rw [ofNat_toNat _ (by omega)]; omega
  have e3 : ((n : Int) / 65536 % 256) = ((UInt8.ofNat (n / 65536 % 256)).toNat : Int) := by rw [ofNat_toNat _ (by omega)]; omega
  have e4 : ((n : Int) / 16777216) = ((UInt8.ofNat (n / 16777216)).toNat : Int) := by rw [ofNat_toNat _ (by omega)]; omega
  rw [e1, e2, e3, e4]
  rfl
theorem le4_new (n : Nat) (w : World) (h : n < 4294967296) : RB (w.alloc (.cells #[.int .u8 ((n : Int) % 256), .int .u8 ((n : Int) / 256 % 256), .int .u8 ((n : Int) / 65536 % 256), .int .u8 ((n : Int) / 16777216)] 5)) (w.heap.size + 1) (some ⟨w.heap.size, 0, none⟩) (le4 n) := by
  rw [le4_cells n h]
  exact rb_new w (le4 n)
theorem refSeal_any (L : List UInt8) (A : Option Addr) (c B : Nat) (w : World) (hr : RB w B A L) (hl : L.length ≤ 140737488351232) :
    Calls Tryz.prog 38 #[.slice A L.length c] w (GivesOne (sealL L) w) := by
  obtain ⟨i0, hi0, hz0, hz1, hz2⟩ := info_parts Tryz.info5
  have hr := rb_lt hr
  have hs := sumL_lt L
  have HS : ∀ W E, RB W E A L → Calls Tryz.prog 65 #[.slice A L.length c] W fun e w' => e = .returned (.int .u32 (sumL L : Int)) ∧ W = w' := fun W E h => refSum_any L A c E W h (by omega)
  obtain ⟨n, hn⟩ : ∃ n, n = sumL L := ⟨_, rfl⟩
  rw [← hn] at HS hs
  have HN : Hid (n = sumL L) := hn
  have HS2 := Lib.hid HS
  obtain ⟨M, hM⟩ : ∃ M, M = le4 n := ⟨_, rfl⟩
  have HM : Hid (L ++ M = sealL L) := by show _ = _; rw [hM, hn]; rfl
  have HF : Hid (∀ W : World, RB (W.alloc (.cells #[.int .u8 ((n : Int) % 256), .int .u8 ((n : Int) / 256 % 256), .int .u8 ((n : Int) / 65536 % 256), .int .u8 ((n : Int) / 16777216)] 5)) (W.heap.size + 1) (some ⟨W.heap.size, 0, none⟩) M) := by
    rw [hM]; exact fun W => le4_new n W hs
  have HM4 : Hid (∀ x : Option Addr, Value.slice x 4 4 = .slice x M.length 4) := by show ∀ x, _; intro x; rw [hM]; rfl
  have hm4 : M.length ≤ 4 := by rw [hM]; exact Nat.le_refl _
  clear hM
  clear hn HS
  go_enter Tryz.func38, Tryz.ntmps38
  go_wp2_with (first
    | (go_at_call 65; (with_reducible refine (HS2.out _ _ hr).mono ?_); rintro e w' ⟨rfl, rfl⟩)
    | (at_builtin; refine wpList_append_any _ rfl (.tmp 6) (.tmp 7) _ rfl w.heap.size 5 i0 _ 1 1 Tryz.underlying39 hi0 hz0 hz1 hz2 rfl (by omega) (.slice (some ⟨w.heap.size, 0, none⟩) 0 0) 0 [] rfl (World.ownsRow_made w #[] 0 (Nat.le_refl _) (by decide) rfl) w.heap.size A L.length c (cells L) rfl (hr.alloc (Nat.le_refl _) _) (cells_one _) (by simp only [maxLen]; omega) (by omega) (by simp) ?_; intro v5 w5 ho5 hg5 hat5; simp only [Nat.zero_add, List.nil_append] at ho5; have hb5 : Below w.heap.size w w5 := ((Below.refl _ _).alloc (Nat.le_refl _) _).grown hg5 (by simp) (by simp [Value.ownBlock]))
    | (at_builtin; refine wpList_append_any _ rfl (.tmp 8) (.tmp 23) _ rfl w.heap.size 5 i0 _ 1 1 Tryz.underlying39 hi0 hz0 hz1 hz2 rfl (by omega) _ L.length (cells L) rfl (ho5.alloc _) (w5.heap.size + 1) (some ⟨w5.heap.size, 0, none⟩) M.length 4 (cells M) (HM4.out _) (HF.out w5) (cells_one _) (by simp only [maxLen]; omega) (by omega) (by have := hb5.size; simp; omega) ?_; intro v6 w6 ho6 hg6 hat6; have hb6 : Below w.heap.size w w6 := (hb5.alloc hb5.size _).grown hg6 (by have := hb5.size; simp; omega) (fun k hk => (ho5.lt k hk).1)))
  rw [← cells_append, ← List.length_append, HM.out] at ho6
  obtain ⟨A6, c6, hv⟩ := own_form ho6
  go_ret
  exact ⟨A6, c6, by rw [hv]; rfl, by rw [hv] at ho6; exact ho6, hb6⟩
end
section
open Go.ChangeShapes Go.WideShapes Go.ChangeAt Go.RowKit
theorem off_any {w : World} {g : Nat} {F : Nat → Prop} {d : Dk} (h : PDisk w g F d) :
    Calls Tryz.prog 54 #[.pointer (some ⟨g, 0, none⟩)] w fun e w' => e = .returned (.bool d.off) ∧ w = w' := by
  obtain ⟨a, ca, b, cb, n, V, ends, lf, h⟩ := h
  have z0 := fun w' => Tryz.dIsNil g w'
  have c3 := h.c3
  clear h
  go_enter Tryz.func54, Tryz.ntmps54
  go_wp2
  go_ret
  exact ⟨rfl, rfl⟩
theorem waits_any {w : World} {g : Nat} {F : Nat → Prop} {d : Dk} (h : PDisk w g F d) :
    Calls Tryz.prog 55 #[.pointer (some ⟨g, 0, none⟩)] w fun e w' => e = .returned (.int .i64 (d.waits.length : Int)) ∧ w = w' := by
  obtain ⟨a, ca, b, cb, n, V, ends, lf, h⟩ := h
  have z0 := fun w' => Tryz.dIsNil g w'
  obtain ⟨A, c, rfl, _, _⟩ := h.vform
  have c2 := h.c2
  clear h
  go_enter Tryz.func55, Tryz.ntmps55
  go_wp2
  go_ret
  exact ⟨rfl, rfl⟩
end
end Go.Proofs.YtghenhacndaelaaGreat
