/- The walks of the reference's list, List, Free (layer 11). -/
import Derived.Test.YtibaaideleinhaaDoorPoolMem
import Derived.Test.YtibaaideleinhaaDoorGuard
import Derived.Test.YtibaaideleinhaaDoorBitsInts
import Derived.Maps.AppendAt
set_option linter.unusedVariables false
namespace Go.Proofs.YtibaaideleinhaaDoor
open Go.RowKit

set_option maxRecDepth 100000 in
set_option maxHeartbeats 1000000 in
theorem rplist_any (p : Pl) (q : Bool) (A : Option Addr) (c : Nat) (w : World) (h : PlAt w p A c) : Calls Tryd.prog 35 #[plV p A c, .bool q] w (GivesZ (p.list q) w) := by
  obtain ⟨i0, hi0, hz0, hz1, hz2⟩ := info_parts Tryd.infoInt
  obtain ⟨n, hn⟩ : ∃ n, n = p.tk.length := ⟨_, rfl⟩
  obtain ⟨lo, hlo⟩ : ∃ n, n = p.lo := ⟨_, rfl⟩
  have hn4 : n ≤ 1024 := by have := h.small.2; omega
  have hl4 : 0 ≤ lo ∧ lo ≤ 1024 := by have := h.small.1; omega
  have HR : Hid (0 < n → ∃ b off, A = some ⟨b, off, none⟩ ∧ b < w.heap.size ∧ ∀ k, k < n → w.cell? ⟨b, off + k, none⟩ = some (.bool (p.tk.getD k false))) := fun h' => by rw [hn]; exact h.bs.at_ (by omega)
  have HE : Hid (∀ k, p.tk.getD k false = q → p.listK q (k + 1) = p.listK q k ++ [lo + (k : Int)]) := fun k hk => by rw [Pl.listK, if_pos hk, hlo]
  have HE2 : Hid (∀ k, p.tk.getD k false ≠ q → p.listK q (k + 1) = p.listK q k) := fun k hk => by rw [Pl.listK, if_neg hk]
  have HL : Hid (p.listK q n = p.list q) := by show _ = _; rw [hn]; rfl
  unfold plV
  rw [← hn, ← hlo]
  clear hn hlo h
  go_enter Tryd.func35, Tryd.ntmps35
  go_wp2
  obtain ⟨w1, hw1⟩ : ∃ w1, w1 = w.alloc (.cells #[.int .i64 lo, .slice A n c] 29) := ⟨_, rfl⟩
  obtain ⟨g, hg⟩ : ∃ g, g = w.heap.size := ⟨_, rfl⟩
  have B1 : Below g w w1 := by rw [hw1, hg]; exact (Below.refl _ _).alloc (Nat.le_refl _) _
  have HW : Hid (Below w.heap.size w w1) := by show Below _ _ _; rw [← hg]; exact B1
  have K0 : w1.cell? ⟨g, 0, none⟩ = some (.int .i64 lo) := by rw [hw1, hg]; exact (Blk.new _ _ _).cell 0
  have K1 : w1.cell? ⟨g, 1, none⟩ = some (.slice A n c) := by rw [hw1, hg]; exact (Blk.new _ _ _).cell 1
  have G1 : g < w1.heap.size := by rw [hw1, hg]; exact (Blk.new _ _ _).lt
  have HR1 : Hid (0 < n → ∃ b off, A = some ⟨b, off, none⟩ ∧ b < w1.heap.size ∧ ∀ k, k < n → w1.cell? ⟨b, off + k, none⟩ = some (.bool (p.tk.getD k false))) := by
    intro h
    obtain ⟨b, off, e, hb, hc⟩ := HR.out h
    exact ⟨b, off, e, by omega, fun k hk => (B1.cell (p := ⟨b, off + k, none⟩) (by rw [hg]; exact hb)).trans (hc k hk)⟩
  rw [← hw1, ← hg]
  have S1 : w.heap.size ≤ w1.heap.size := by omega
  clear hw1 HR B1 hg
  go_loopw [5, 6] (fun v i wr => ∃ (k y : Nat), k ≤ n ∧ i = .int .i64 (k : Int) ∧ y ≤ k ∧ Hid (y = (p.listK q k).length) ∧ wr.ownsRow w1.heap.size 3 1 v y (zcells (p.listK q k)) ∧ Below w1.heap.size w1 wr) (fun _ i _ => n - (intOf i).toNat)
  case atStart => exact ⟨0, 0, by omega, rfl, by omega, rfl, World.ownsRow_nil _ _ _ _, Below.refl _ _⟩
  case round =>
    obtain ⟨k, y, hk, rfl, hyk, HY, hown, hb⟩ := hrel
    have c0 := (hb.cell (p := ⟨g, 0, none⟩) G1).trans K0
    have c1 := (hb.cell (p := ⟨g, 1, none⟩) G1).trans K1
    have u0 : (0 : Int) ≤ (k : Int) := by omega
    have y7 : IntKind.i64.wrap (lo + (k : Int)) = lo + (k : Int) := IntWalk.i64_in _ (by omega)
    have y8 : IntKind.i64.wrap ((k : Int) + 1) = (k : Int) + 1 := IntWalk.i64_in _ (by omega)
    by_cases hlt : k < n
    · obtain ⟨b, off, rfl, hbb, hcc⟩ := HR1.out (by omega)
      obtain ⟨x, hx⟩ : ∃ x, x = p.tk.getD k false := ⟨_, rfl⟩
      have hck := hcc k hlt
      rw [← hx, ← hb.cell (p := ⟨b, off + k, none⟩) hbb] at hck
      have u1 : (k : Int) < (n : Int) := by omega
      have d1 : decide ((k : Int) < (n : Int)) = true := decide_eq_true u1
      by_cases hxq : x = q
      · subst hxq
        have HX : Hid (p.listK x (k + 1) = p.listK x k ++ [lo + (k : Int)]) := HE.out k hx.symm
        clear hx hcc HR1 HE HE2
        go_wp2_with (first
          | (at_builtin; refine wpList_append_own _ rfl (.tmp 21) (.tmp 26) _ rfl w1.heap.size 3 i0 _ 1 8 Tryd.underlying36 hi0 hz0 hz1 hz2 rfl (by omega) _ y (zcells (p.listK x k)) rfl (hown.alloc _) ⟨wr.heap.size, 0, none⟩ 1 1 [Value.int .i64 (lo + (k : Int))] rfl rfl (cell_one_new _ _ _) (by intro u hu; rw [List.mem_singleton] at hu; subst hu; rfl) (by simp only [maxLen]; omega) (by omega) (by have := hb.size; simp; omega) ?_; intro v2 w2 ho2 hg2 hat2; have b2 : Below w1.heap.size w1 w2 := (hb.alloc hb.size _).grown hg2 (by have := hb.size; simp; omega) (fun q hq => (hown.lt q hq).1)))
        have e2 : zcells (p.listK x k) ++ [Value.int .i64 (lo + (k : Int))] = zcells (p.listK x (k + 1)) := by rw [HX.out, zcells_append]; rfl
        rw [e2] at ho2
        refine ⟨⟨k + 1, y + 1, by omega, by go_num, by omega, by show _ = _; rw [HX.out, HY.out, List.length_append]; rfl, ho2, b2⟩, ?_⟩
        simp [intOf]; omega
      · have HX : Hid (p.listK q (k + 1) = p.listK q k) := HE2.out k (by rw [← hx]; exact hxq)
        have q0 : (x == q) = false := by simpa using hxq
        have q1 : decide (x = q) = false := decide_eq_false hxq
        clear hx hcc HR1 HE HE2
        go_wp2
        refine ⟨⟨k + 1, y, by omega, by go_num, by omega, by show _ = _; rw [HX.out]; exact HY.out, by rw [HX.out]; exact hown, hb⟩, ?_⟩
        simp [intOf]; omega
    · obtain rfl : k = n := by omega
      have u1 : ¬ (k : Int) < (k : Int) := by omega
      have d1 : decide ((k : Int) < (k : Int)) = false := decide_eq_false u1
      have HO := Lib.hid hown
      clear HR1 hown
      go_wp2
      go_ret
      obtain ⟨A', c', rfl, r1, r2, r3⟩ := zown_form HY.out HO.out
      rw [HL.out] at r1 r2 ⊢
      exact ⟨A', c', rfl, r1, r2, fun ad e => Nat.le_trans S1 (r3 ad e), HW.out.trans (hb.mono S1)⟩
theorem rpList_any (p : Pl) (A : Option Addr) (c : Nat) (w : World) (h : PlAt w p A c) : Calls Tryd.prog 26 #[plV p A c] w (GivesZ (p.list true) w) := by
  have HL : Hid (∀ W, Below w.heap.size w W → Calls Tryd.prog 35 #[.agg #[.int .i64 p.lo, .slice A p.tk.length c], .bool true] W (GivesZ (p.list true) W)) := fun W hb => rplist_any p true A c W (h.up hb)
  have a0 := fun w' => Tryd.poolAgg w'
  have s0 := fun w' => Tryd.poolSize w'
  have hb0 : Below w.heap.size w (w.alloc (.cells #[.int .i64 p.lo, .slice A p.tk.length c] 29)) := (Below.refl _ _).alloc (Nat.le_refl _) _
  unfold plV
  clear h
  go_enter Tryd.func26, Tryd.ntmps26
  go_wp2_with (go_at_call 35; (with_reducible refine (HL.out _ hb0).mono ?_); rintro e w1 ⟨A1, c1, rfl, r1, r2, r3, b1⟩)
  go_ret
  exact ⟨A1, c1, rfl, r1, r2, fun ad e => Nat.le_trans hb0.size (r3 ad e), hb0.trans (b1.mono hb0.size)⟩
theorem rpfree_any (p : Pl) (A : Option Addr) (c : Nat) (w : World) (h : PlAt w p A c) : Calls Tryd.prog 25 #[plV p A c] w fun e w' => e = .returned (.int .i64 ((p.list false).length : Int)) ∧ Below w.heap.size w w' := by
  have HL : Hid (∀ W, Below w.heap.size w W → Calls Tryd.prog 35 #[.agg #[.int .i64 p.lo, .slice A p.tk.length c], .bool false] W (GivesZ (p.list false) W)) := fun W hb => rplist_any p false A c W (h.up hb)
  have a0 := fun w' => Tryd.poolAgg w'
  have s0 := fun w' => Tryd.poolSize w'
  have hb0 : Below w.heap.size w (w.alloc (.cells #[.int .i64 p.lo, .slice A p.tk.length c] 29)) := (Below.refl _ _).alloc (Nat.le_refl _) _
  unfold plV
  clear h
  go_enter Tryd.func25, Tryd.ntmps25
  go_wp2_with (go_at_call 35; (with_reducible refine (HL.out _ hb0).mono ?_); rintro e w1 ⟨A1, c1, rfl, r1, r2, r3, b1⟩)
  go_ret
  exact ⟨rfl, hb0.trans (b1.mono hb0.size)⟩
end Go.Proofs.YtibaaideleinhaaDoor
