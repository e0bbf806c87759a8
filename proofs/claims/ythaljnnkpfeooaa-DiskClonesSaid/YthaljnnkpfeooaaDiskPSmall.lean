/- The walks of the program's fits, Blocks, Off, Waits, reach, block, falls, and of slices.Clone of bytes (layer 6). -/
import Derived.Test.YthaljnnkpfeooaaDiskMem
import Derived.Test.YthaljnnkpfeooaaSlices
import Derived.Laws.LoneSync
import Derived.IntWalk
import Derived.Deep.QuietTactic
import Derived.BigQuiet
import Derived.Lib.SliceRun
set_option linter.unusedVariables false
namespace Go.Proofs.Ythaljnnkpfeooaa
open Go.RowKit

theorem Try.dNotNil (g : Nat) (w : World) : Sem.run Try.prog (binOp BinOp.neq 25 (Value.pointer (some ⟨g, 0, none⟩)) (Value.pointer none)) w = Result.ok (Value.bool true) w := by kernel_rfl
theorem Try.dIsNil (g : Nat) (w : World) : Sem.run Try.prog (binOp BinOp.eql 25 (Value.pointer (some ⟨g, 0, none⟩)) (Value.pointer none)) w = Result.ok (Value.bool false) w := by kernel_rfl
theorem Try.dNilNot (w : World) : Sem.run Try.prog (binOp BinOp.neq 25 (Value.pointer none) (Value.pointer none)) w = Result.ok (Value.bool false) w := by kernel_rfl
theorem Try.dNilIs (w : World) : Sem.run Try.prog (binOp BinOp.eql 25 (Value.pointer none) (Value.pointer none)) w = Result.ok (Value.bool true) w := by kernel_rfl
theorem Try.notFalse (w : World) : Sem.run Try.prog (Op.unary UnOp.not (Value.bool false)) w = Result.ok (Value.bool true) w := rfl
theorem Try.notTrue (w : World) : Sem.run Try.prog (Op.unary UnOp.not (Value.bool true)) w = Result.ok (Value.bool false) w := rfl

section
variable {w w' : World} {g : Nat} {F F' : Nat → Prop} {d : Dk} {a ca b cb n : Nat} {V : Value} {ends : Bool} {lf : Int}
theorem PD.c0 (h : PD w g F d a ca b cb n V ends lf) : w.cell? ⟨g, 0, none⟩ = some (.slice (some ⟨a, 0, none⟩) n ca) := by rw [h.blk.cell]; rfl
theorem PD.c1 (h : PD w g F d a ca b cb n V ends lf) : w.cell? ⟨g, 1, none⟩ = some (.slice (some ⟨b, 0, none⟩) n cb) := by rw [h.blk.cell]; rfl
theorem PD.c2 (h : PD w g F d a ca b cb n V ends lf) : w.cell? ⟨g, 2, none⟩ = some V := by rw [h.blk.cell]; rfl
theorem PD.c3 (h : PD w g F d a ca b cb n V ends lf) : w.cell? ⟨g, 3, none⟩ = some (.bool d.off) := by rw [h.blk.cell]; rfl
theorem PD.c4 (h : PD w g F d a ca b cb n V ends lf) : w.cell? ⟨g, 4, none⟩ = some (.bool ends) := by rw [h.blk.cell]; rfl
theorem PD.c5 (h : PD w g F d a ca b cb n V ends lf) : w.cell? ⟨g, 5, none⟩ = some (.int .i64 lf) := by rw [h.blk.cell]; rfl
theorem PD.c6 (h : PD w g F d a ca b cb n V ends lf) : w.cell? ⟨g, 6, none⟩ = some (.int .i64 (d.reads : Int)) := by rw [h.blk.cell]; rfl
theorem PD.c7 (h : PD w g F d a ca b cb n V ends lf) : w.cell? ⟨g, 7, none⟩ = some (.int .i64 (d.writes : Int)) := by rw [h.blk.cell]; rfl
theorem PD.c8 (h : PD w g F d a ca b cb n V ends lf) : w.cell? ⟨g, 8, none⟩ = some (.int .i64 (d.flushes : Int)) := by rw [h.blk.cell]; rfl
theorem PD.fz (h : PD w g F d a ca b cb n V ends lf) (k : Nat) : w.frozen? ⟨g, k, none⟩ = false := h.blk.frozen k
/-- What waits is a slice. -/
theorem PD.vform (h : PD w g F d a ca b cb n V ends lf) : ∃ A c, V = .slice A d.waits.length c ∧ d.waits.length ≤ c ∧ c ≤ 9223372036854775807 := by
  rcases h.wait.2 with ⟨rfl, h0⟩ | ⟨k, cap, cur, rfl, h2, h3, h4, h5, _⟩
  · exact ⟨none, 0, by rw [h0], by omega, by omega⟩
  · exact ⟨_, _, rfl, h4, h5⟩
end

set_option maxRecDepth 100000 in
theorem fits_any (i : Int) (w : World) : Calls Try.prog 30 #[.int .i64 i] w fun e w' => e = .returned (.bool (decide (16 ≤ i ∧ i ≤ 1024))) ∧ w = w' := by
  by_cases h1 : 16 ≤ i
  · by_cases h2 : i ≤ 1024
    · have HV : Hid (decide (16 ≤ i ∧ i ≤ 1024) = true) := decide_eq_true ⟨h1, h2⟩
      have d1 : decide (i ≥ 16) = true := decide_eq_true h1
      have d2 : decide (i ≤ 1024) = true := decide_eq_true h2
      go_enter Try.func30, Try.ntmps30
      go_wp2
      go_ret
      exact ⟨by first | rfl | (rw [HV.out]; rfl), rfl⟩
    · have HV : Hid (decide (16 ≤ i ∧ i ≤ 1024) = false) := decide_eq_false fun h => h2 h.2
      have d1 : decide (i ≥ 16) = true := decide_eq_true h1
      have d2 : decide (i ≤ 1024) = false := decide_eq_false h2
      go_enter Try.func30, Try.ntmps30
      go_wp2
      go_ret
      exact ⟨by first | rfl | (rw [HV.out]; rfl), rfl⟩
  · have HV : Hid (decide (16 ≤ i ∧ i ≤ 1024) = false) := decide_eq_false fun h => h1 h.1
    have d1 : decide (i ≥ 16) = false := decide_eq_false h1
    have d2 : decide ((16 : Int) ≤ i) = false := decide_eq_false h1
    go_enter Try.func30, Try.ntmps30
    go_wp2
    go_ret
    exact ⟨by first | rfl | (rw [HV.out]; rfl), rfl⟩

set_option maxRecDepth 100000 in
set_option maxHeartbeats 1000000 in
/-- slices.Clone of bytes. -/
theorem sclone_some (L : List UInt8) (ad : Addr) (c B : Nat) (w : World) (hr : RB w B (some ad) L) (hl : L.length ≤ 140737488351232) :
    Calls Try.prog 42 #[.slice (some ad) L.length c] w (GivesOne L w) := by
  obtain ⟨i0, hi0, hz0, hz1, hz2⟩ := info_parts Try.info5
  have hr := rb_lt hr
  have hn : (binOp .eql 33 (.slice (some ad) L.length c) (.slice none 0 0)).run Try.prog w = .ok (.bool false) w := Lib.run_eql_slice_nil w 33 5 (some ad) L.length c 0 0 Try.underlying33
  go_enter Try.func42, Try.ntmps42
  go_wp2_with (at_builtin; refine wpList_append_any _ rfl (.tmp 5) (.tmp 6) _ rfl w.heap.size 5 i0 _ 1 1 Try.underlying33 hi0 hz0 hz1 hz2 rfl (by omega) (.slice (some ⟨w.heap.size, 0, none⟩) 0 0) 0 [] rfl (World.ownsRow_made w #[] 0 (Nat.le_refl _) (by decide) rfl) w.heap.size (some ad) L.length c (cells L) rfl (hr.alloc (Nat.le_refl _) _) (cells_one _) (by simp only [maxLen]; omega) (by omega) (by simp) ?_; intro v5 w5 ho5 hg5 hat5; simp only [Nat.zero_add, List.nil_append] at ho5; have hb5 : Below w.heap.size w w5 := ((Below.refl _ _).alloc (Nat.le_refl _) _).grown hg5 (by simp) (by simp [Value.ownBlock]))
  obtain ⟨A3, c3, hv⟩ := own_form ho5
  go_ret
  exact ⟨A3, c3, by rw [hv]; rfl, by rw [hv] at ho5; exact ho5, hb5⟩
theorem sclone_none (n c : Nat) (w : World) : Calls Try.prog 42 #[.slice none n c] w fun e w' => e = .returned (.slice none 0 0) ∧ w = w' := by
  have hn : (binOp .eql 33 (.slice none n c) (.slice none 0 0)).run Try.prog w = .ok (.bool true) w := Lib.run_eql_slice_nil w 33 5 none n c 0 0 Try.underlying33
  go_enter Try.func42, Try.ntmps42
  go_wp2
  go_ret
  exact ⟨rfl, rfl⟩
theorem sclone_any (L : List UInt8) (A : Option Addr) (c B : Nat) (w : World) (hr : RB w B A L) (hl : L.length ≤ 140737488351232) :
    Calls Try.prog 42 #[.slice A L.length c] w (GivesOne L w) := by
  rcases A with _ | ad
  · have hL : L = [] := by
      rcases L with _ | ⟨x, L⟩
      · rfl
      · obtain ⟨ad, h, _⟩ := hr.2 (by simp)
        cases h
    subst hL
    refine (sclone_none _ c w).mono fun e w' h => ?_
    obtain ⟨he, rfl⟩ := h
    exact ⟨none, 0, he, World.ownsRow_nil _ _ _ _, Below.refl _ _⟩
  · exact sclone_some L ad c B w hr hl

set_option maxRecDepth 100000 in
theorem blocks_core (g a n ca m : Nat) (w : World) (h0 : w.cell? ⟨g, 0, none⟩ = some (.slice (some ⟨a, 0, none⟩) n ca)) (hm : n = 256 * m) (hm2 : m ≤ 1024) :
    Calls Try.prog 28 #[.pointer (some ⟨g, 0, none⟩)] w fun e w' => e = .returned (.int .i64 (m : Int)) ∧ w = w' := by
  have z0 := fun w' => Try.dIsNil g w'
  have u0 : (0 : Int) ≤ (n : Int) := by omega
  have u1 : (n : Int) ≤ 1000000 := by omega
  have e1 : (n : Int) / 256 = (m : Int) := by omega
  have e2 : (n : Int).tdiv 256 = (m : Int) := by rw [Int.tdiv_eq_ediv_of_nonneg u0]; exact e1
  clear hm
  go_enter Try.func28, Try.ntmps28
  go_wp2
  go_ret
  exact ⟨rfl, rfl⟩
theorem blocks_any {w : World} {g : Nat} {F : Nat → Prop} {d : Dk} (h : PDisk w g F d) :
    Calls Try.prog 28 #[.pointer (some ⟨g, 0, none⟩)] w fun e w' => e = .returned (.int .i64 (d.safe.length : Int)) ∧ w = w' := by
  obtain ⟨a, ca, b, cb, n, V, ends, lf, h⟩ := h
  exact blocks_core g a n ca d.safe.length w h.c0 h.size h.good.many
theorem blocks_none (w : World) : Calls Try.prog 28 #[.pointer none] w fun e w' => e = .returned (.int .i64 0) ∧ w = w' := by
  have z0 := fun w' => Try.dNilIs w'
  go_enter Try.func28, Try.ntmps28
  go_wp2
  go_ret
  exact ⟨rfl, rfl⟩

set_option maxRecDepth 100000 in
theorem off_any {w : World} {g : Nat} {F : Nat → Prop} {d : Dk} (h : PDisk w g F d) :
    Calls Try.prog 21 #[.pointer (some ⟨g, 0, none⟩)] w fun e w' => e = .returned (.bool d.off) ∧ w = w' := by
  obtain ⟨a, ca, b, cb, n, V, ends, lf, h⟩ := h
  have z0 := fun w' => Try.dIsNil g w'
  have c3 := h.c3
  clear h
  go_enter Try.func21, Try.ntmps21
  go_wp2
  go_ret
  exact ⟨rfl, rfl⟩
theorem off_none (w : World) : Calls Try.prog 21 #[.pointer none] w fun e w' => e = .returned (.bool true) ∧ w = w' := by
  have z0 := fun w' => Try.dNilIs w'
  go_enter Try.func21, Try.ntmps21
  go_wp2
  go_ret
  exact ⟨rfl, rfl⟩

set_option maxRecDepth 100000 in
theorem waits_any {w : World} {g : Nat} {F : Nat → Prop} {d : Dk} (h : PDisk w g F d) :
    Calls Try.prog 22 #[.pointer (some ⟨g, 0, none⟩)] w fun e w' => e = .returned (.int .i64 (d.waits.length : Int)) ∧ w = w' := by
  obtain ⟨a, ca, b, cb, n, V, ends, lf, h⟩ := h
  have z0 := fun w' => Try.dIsNil g w'
  obtain ⟨A, c, rfl, _, _⟩ := h.vform
  have c2 := h.c2
  clear h
  go_enter Try.func22, Try.ntmps22
  go_wp2
  go_ret
  exact ⟨rfl, rfl⟩
theorem waits_none (w : World) : Calls Try.prog 22 #[.pointer none] w fun e w' => e = .returned (.int .i64 0) ∧ w = w' := by
  have z0 := fun w' => Try.dNilIs w'
  go_enter Try.func22, Try.ntmps22
  go_wp2
  go_ret
  exact ⟨rfl, rfl⟩

set_option maxRecDepth 100000 in
/-- The bytes of block k of an image. -/
theorem block_of (a n c k : Nat) (w : World) (hk : 256 * k + 256 ≤ n) (hn : n ≤ 1000000) (hc : n ≤ c) (hcm : c ≤ 9223372036854775807) :
    Calls Try.prog 44 #[.slice (some ⟨a, 0, none⟩) n c, .int .i64 (k : Int)] w fun e w' => e = .returned (.slice (some ⟨a, 256 * k, none⟩) 256 (c - 256 * k)) ∧ w = w' := by
  obtain ⟨s, hs⟩ : ∃ s, s = 256 * k := ⟨_, rfl⟩
  have e1 : (k : Int) * 256 = (s : Int) := by omega
  have u0 : (0 : Int) ≤ (s : Int) := by omega
  have u1 : (s : Int) ≤ (n : Int) := by omega
  have u4 : IntKind.i64.wrap (s : Int) = (s : Int) := IntWalk.i64_in _ (by omega)
  have HS1 := fun W => sl_from a 0 n c s (s : Int) rfl (by omega) (by omega) W
  have HS2 := fun W => sl_to a (0 + s) (n - s) (c - s) 256 256 rfl (by omega) (by omega) W
  rw [Nat.zero_add] at HS1 HS2
  have HE := Lib.hid hs
  clear hk hs
  rw [← HE.out]
  go_enter Try.func44, Try.ntmps44
  go_wp2
  go_ret
  exact ⟨rfl, rfl⟩

/-- sync/atomic: a number is counted up, read, stored. -/
theorem Try.addInt64 (a : Addr) (x y s : Int) (w : World) (hc : w.cell? a = some (.int .i64 x)) (hz : w.frozen? a = false) (hs : IntKind.i64.wrap (x + y) = s) :
    (callFunc 55 #[.pointer (some a), .int .i64 y]).run Try.prog w = .ok (.value (.int .i64 s)) (w.setCell a (.int .i64 s)) :=
  run_call_add Try.func55 (by kernel_rfl) (by kernel_rfl) (by kernel_rfl) .i64 (by kernel_rfl) hc hz (by simp [go_sem, hs])
theorem Try.loadInt64 (a : Addr) (x : Int) (w : World) (hc : w.cell? a = some (.int .i64 x)) :
    (callFunc 54 #[.pointer (some a)]).run Try.prog w = .ok (.value (.int .i64 x)) w :=
  run_call_load Try.func54 (by kernel_rfl) (by kernel_rfl) (by kernel_rfl) .i64 (by kernel_rfl) hc
theorem Try.storeInt64 (a : Addr) (y : Int) (u : Value) (w : World) (hc : w.cell? a = some u) (hz : w.frozen? a = false) :
    (callFunc 56 #[.pointer (some a), .int .i64 y]).run Try.prog w = .ok (.value (.tuple #[])) (w.setCell a (.int .i64 y)) :=
  run_call_store Try.func56 (by kernel_rfl) (by kernel_rfl) (by kernel_rfl) (by kernel_rfl) hc hz
theorem aadd_any (g k x : Nat) (w : World) (hx : x < 1000000) (hc : w.cell? ⟨g, k, none⟩ = some (.int .i64 (x : Int))) (hz : w.frozen? ⟨g, k, none⟩ = false) :
    Calls Try.prog 45 #[.pointer (some ⟨g, k, none⟩), .int .i64 1] w fun e w' => w' = w.setCell ⟨g, k, none⟩ (.int .i64 ((x + 1 : Nat) : Int)) ∧ e = .returned (.int .i64 ((x + 1 : Nat) : Int)) := by
  have HA := Try.addInt64 ⟨g, k, none⟩ (x : Int) 1 ((x + 1 : Nat) : Int) w hc hz (by rw [IntWalk.i64_in _ (by omega)]; omega)
  clear hc hz hx
  obtain ⟨y, hy⟩ : ∃ y : Int, y = ((x + 1 : Nat) : Int) := ⟨_, rfl⟩
  rw [← hy] at HA ⊢
  clear hy
  go_enter Try.func45, Try.ntmps45
  go_wp2
  go_ret
  exact ⟨rfl, rfl⟩
theorem aload_any (g k : Nat) (x : Int) (w : World) (hc : w.cell? ⟨g, k, none⟩ = some (.int .i64 x)) :
    Calls Try.prog 41 #[.pointer (some ⟨g, k, none⟩)] w fun e w' => e = .returned (.int .i64 x) ∧ w = w' := by
  have HA := Try.loadInt64 ⟨g, k, none⟩ x w hc
  clear hc
  go_enter Try.func41, Try.ntmps41
  go_wp2
  go_ret
  exact ⟨rfl, rfl⟩

set_option maxRecDepth 100000 in
theorem falls_no (g : Nat) (w : World) (h4 : w.cell? ⟨g, 4, none⟩ = some (.bool false)) :
    Calls Try.prog 43 #[.pointer (some ⟨g, 0, none⟩)] w fun e w' => e = .returned (.bool false) ∧ w = w' := by
  have n0 := fun w' => Try.notFalse w'
  go_enter Try.func43, Try.ntmps43
  go_wp2
  go_ret
  exact ⟨rfl, rfl⟩
set_option maxRecDepth 100000 in
theorem falls_yes (g : Nat) (lf : Int) (o : Bool) (w : World) (hl : 0 ≤ lf ∧ lf ≤ 9223372036854775807) (h3 : w.cell? ⟨g, 3, none⟩ = some (.bool o)) (h4 : w.cell? ⟨g, 4, none⟩ = some (.bool true)) (h5 : w.cell? ⟨g, 5, none⟩ = some (.int .i64 lf))
    (f3 : w.frozen? ⟨g, 3, none⟩ = false) (f5 : w.frozen? ⟨g, 5, none⟩ = false) :
    Calls Try.prog 43 #[.pointer (some ⟨g, 0, none⟩)] w fun e w' => e = .returned (.bool (decide (lf = 0))) ∧ w' = (w.setCell ⟨g, 3, none⟩ (.bool (decide (lf = 0)))).setCell ⟨g, 5, none⟩ (.int .i64 (lf - 1)) := by
  have n0 := fun w' => Try.notTrue w'
  obtain ⟨r, hr⟩ : ∃ r, r = decide (lf = 0) := ⟨_, rfl⟩
  have e0 : (lf == 0) = r := by rw [hr]; by_cases h : lf = 0 <;> simp [h]
  obtain ⟨y, hy⟩ : ∃ y, y = lf - 1 := ⟨_, rfl⟩
  have e1 : IntKind.i64.wrap (lf - 1) = y := by rw [hy]; exact IntWalk.i64_in _ (by omega)
  rw [← hr, ← hy]
  clear hr hy hl
  go_enter Try.func43, Try.ntmps43
  go_wp2
  go_ret
  exact ⟨rfl, rfl⟩

/-- What is to be said of a block ahead of all else. -/
def Dk.reach (d : Dk) (i : Int) : Int := if d.off = true then 9 else if d.there i = true then 0 else 10
set_option maxRecDepth 100000 in
theorem reach_any {w : World} {g : Nat} {F : Nat → Prop} {d : Dk} (h : PDisk w g F d) (i : Int) :
    Calls Try.prog 46 #[.pointer (some ⟨g, 0, none⟩), .int .i64 i] w fun e w' => e = .returned (.int .i64 (d.reach i)) ∧ w = w' := by
  have HB := Lib.hid (blocks_any h)
  obtain ⟨a, ca, b, cb, n, V, ends, lf, h⟩ := h
  have z0 := fun w' => Try.dIsNil g w'
  have c3 := h.c3
  obtain ⟨m, hm⟩ : ∃ m, m = d.safe.length := ⟨_, rfl⟩
  have HT : Hid (d.there i = decide (0 ≤ i ∧ i < (m : Int))) := by show _ = _; rw [hm]; rfl
  rw [← hm] at HB
  clear h hm
  cases ho : d.off with
  | true =>
    rw [ho] at c3
    have HR : Hid (d.reach i = 9) := by show _ = _; unfold Dk.reach; rw [if_pos ho]
    clear ho
    go_enter Try.func46, Try.ntmps46
    go_wp2
    go_ret
    exact ⟨by rw [HR.out]; rfl, rfl⟩
  | false =>
    rw [ho] at c3
    have HR : Hid (d.reach i = if d.there i = true then 0 else 10) := by show _ = _; unfold Dk.reach; rw [ho]; rfl
    clear ho
    by_cases h0 : i < 0
    · have HV : Hid (d.there i = false) := by rw [HT.out]; exact decide_eq_false (by omega)
      have d0 : decide (i < 0) = true := decide_eq_true h0
      go_enter Try.func46, Try.ntmps46
      go_wp2
      go_ret
      exact ⟨by rw [HR.out, HV.out]; rfl, rfl⟩
    · have d0 : decide (i < 0) = false := decide_eq_false h0
      by_cases h1 : (m : Int) ≤ i
      · have HV : Hid (d.there i = false) := by rw [HT.out]; exact decide_eq_false (by omega)
        have d1 : decide (i ≥ (m : Int)) = true := decide_eq_true h1
        have d2 : decide ((m : Int) ≤ i) = true := decide_eq_true h1
        go_enter Try.func46, Try.ntmps46
        go_wp2_with (go_at_call 28; (with_reducible refine HB.out.mono ?_); rintro e w1 ⟨rfl, rfl⟩)
        go_ret
        exact ⟨by rw [HR.out, HV.out]; rfl, rfl⟩
      · have HV : Hid (d.there i = true) := by rw [HT.out]; exact decide_eq_true (by omega)
        have d1 : decide (i ≥ (m : Int)) = false := decide_eq_false h1
        have d2 : decide ((m : Int) ≤ i) = false := decide_eq_false h1
        go_enter Try.func46, Try.ntmps46
        go_wp2_with (go_at_call 28; (with_reducible refine HB.out.mono ?_); rintro e w1 ⟨rfl, rfl⟩)
        go_ret
        exact ⟨by rw [HR.out, HV.out]; rfl, rfl⟩

end Go.Proofs.Ythaljnnkpfeooaa
