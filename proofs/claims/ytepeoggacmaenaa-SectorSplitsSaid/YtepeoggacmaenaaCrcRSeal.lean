/- The walk of the reference's Seal. -/
import Derived.Test.YtepeoggacmaenaaCrcSeal
set_option linter.unusedVariables false
namespace Go.Proofs.Ytepeoggacmaenaa
open Go.RowKit

theorem le4_cells (n : Nat) (h : n < 4294967296) : (#[.int .u8 ((n : Int) % 256), .int .u8 ((n : Int) / 256 % 256), .int .u8 ((n : Int) / 65536 % 256), .int .u8 ((n : Int) / 16777216)] : Array Value) = (cells (le4 n)).toArray := by
  have e1 : ((n : Int) % 256) = ((UInt8.ofNat (n % 256)).toNat : Int) := by rw [ofNat_toNat _ (by omega)]; omega
  have e2 : ((n : Int) / 256 % 256) = ((UInt8.ofNat (n / 256 % 256)).toNat : Int) := by rw [ofNat_toNat _ (by omega)]; omega
  have e3 : ((n : Int) / 65536 % 256) = ((UInt8.ofNat (n / 65536 % 256)).toNat : Int) := by rw [ofNat_toNat _ (by omega)]; omega
  have e4 : ((n : Int) / 16777216) = ((UInt8.ofNat (n / 16777216)).toNat : Int) := by rw [ofNat_toNat _ (by omega)]; omega
  rw [e1, e2, e3, e4]
  rfl
theorem le4_new (n : Nat) (w : World) (h : n < 4294967296) : RB (w.alloc (.cells #[.int .u8 ((n : Int) % 256), .int .u8 ((n : Int) / 256 % 256), .int .u8 ((n : Int) / 65536 % 256), .int .u8 ((n : Int) / 16777216)] 5)) (w.heap.size + 1) (some ⟨w.heap.size, 0, none⟩) (le4 n) := by
  rw [le4_cells n h]
  exact rb_new w (le4 n)
set_option maxRecDepth 100000 in
set_option maxHeartbeats 1000000 in
theorem refSeal_any (L : List UInt8) (A : Option Addr) (c B : Nat) (w : World) (hr : RB w B A L) (hl : L.length ≤ 140737488351232) :
    Calls Try.prog 25 #[.slice A L.length c] w (GivesOne (sealL L) w) := by
  obtain ⟨i0, hi0, hz0, hz1, hz2⟩ := info_parts Try.info5
  have hr := rb_lt hr
  have hs := sumL_lt L
  have HS : ∀ W E, RB W E A L → Calls Try.prog 40 #[.slice A L.length c] W fun e w' => e = .returned (.int .u32 (sumL L : Int)) ∧ W = w' := fun W E h => refSum_any L A c E W h (by omega)
  obtain ⟨n, hn⟩ : ∃ n, n = sumL L := ⟨_, rfl⟩
  rw [← hn] at HS hs
  have HN : Hid (n = sumL L) := hn
  have HS2 := Lib.hid HS
  obtain ⟨M, hM⟩ : ∃ M, M = le4 n := ⟨_, rfl⟩
  have HM : Hid (L ++ M = sealL L) := by show _ = _; rw [hM, hn]; rfl
  have HF : Hid (∀ W : World, RB (W.alloc (.cells #[.int .u8 ((n : Int) % 256), .int .u8 ((n : Int) / 256 % 256), .int .u8 ((n : Int) / 65536 % 256), .int .u8 ((n : Int) / 16777216)] 5)) (W.heap.size + 1) (some ⟨W.heap.size, 0, none⟩) M) := by
    rw [hM]; exact fun W => le4_new n W hs
  have HM4 : Hid (∀ x : Option Addr, Value.slice x 4 4 = .slice x M.length 4) := by show ∀ x, _; intro x; rw [hM]; rfl
  have hm4 : M.length ≤ 4 := by rw [hM]; exact Nat.le_refl _
  clear hM
  clear hn HS
  go_enter Try.func25, Try.ntmps25
  go_wp2_with (first
    | (go_at_call 40; (with_reducible refine (HS2.out _ _ hr).mono ?_); rintro e w' ⟨rfl, rfl⟩)
    | (at_builtin; refine wpList_append_any _ rfl (.tmp 6) (.tmp 7) _ rfl w.heap.size 5 i0 _ 1 1 Try.underlying22 hi0 hz0 hz1 hz2 rfl (by omega) (.slice (some ⟨w.heap.size, 0, none⟩) 0 0) 0 [] rfl (World.ownsRow_made w #[] 0 (Nat.le_refl _) (by decide) rfl) w.heap.size A L.length c (cells L) rfl (hr.alloc (Nat.le_refl _) _) (cells_one _) (by simp only [maxLen]; omega) (by omega) (by simp) ?_; intro v5 w5 ho5 hg5 hat5; simp only [Nat.zero_add, List.nil_append] at ho5; have hb5 : Below w.heap.size w w5 := ((Below.refl _ _).alloc (Nat.le_refl _) _).grown hg5 (by simp) (by simp [Value.ownBlock]))
    | (at_builtin; refine wpList_append_any _ rfl (.tmp 8) (.tmp 23) _ rfl w.heap.size 5 i0 _ 1 1 Try.underlying22 hi0 hz0 hz1 hz2 rfl (by omega) _ L.length (cells L) rfl (ho5.alloc _) (w5.heap.size + 1) (some ⟨w5.heap.size, 0, none⟩) M.length 4 (cells M) (HM4.out _) (HF.out w5) (cells_one _) (by simp only [maxLen]; omega) (by omega) (by have := hb5.size; simp; omega) ?_; intro v6 w6 ho6 hg6 hat6; have hb6 : Below w.heap.size w w6 := (hb5.alloc hb5.size _).grown hg6 (by have := hb5.size; simp; omega) (fun k hk => (ho5.lt k hk).1)))
  rw [← cells_append, ← List.length_append, HM.out] at ho6
  obtain ⟨A6, c6, hv⟩ := own_form ho6
  go_ret
  exact ⟨A6, c6, by rw [hv]; rfl, by rw [hv] at ho6; exact ho6, hb6⟩

end Go.Proofs.Ytepeoggacmaenaa
