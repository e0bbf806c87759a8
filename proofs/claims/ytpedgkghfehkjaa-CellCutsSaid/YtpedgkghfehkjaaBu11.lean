/- Lemmas under the proofs of this place: CellMem, Gen9, CrcSeal. No statement is proved here. -/
import Derived.Test.YtpedgkghfehkjaaBu08
import Derived.Test.YtpedgkghfehkjaaBu05
import Derived.Test.YtpedgkghfehkjaaBu03
import Derived.Test.YtpedgkghfehkjaaBu06
import Derived.Test.YtpedgkghfehkjaaBu02
import Derived.Test.YtpedgkghfehkjaaBu01
import Derived.Test.YtpedgkghfehkjaaBu09
section
set_option linter.unusedVariables false
namespace Go.Proofs.Ytpedgkghfehkjaa
open Go.RowKit
theorem Try.aggCell (w : World) : (isAgg 24).run Try.prog w = .ok true w := by kernel_rfl
theorem Try.sizeCell (w : World) : (sizeOf 24).run Try.prog w = .ok 4 w := by kernel_rfl
theorem Try.cellBuild0 (w : World) : Sem.run Try.prog (Instr.build 24 #[]) w = .ok (.agg #[.int .i64 0, .int .i64 0, .int .i64 0, .slice none 0 0]) w := by kernel_rfl
theorem Try.cellBuild4 (o n x : Int) (A : Option Addr) (m c : Nat) (w : World) : Sem.run Try.prog (Instr.build 24 #[(0, .int .i64 o), (1, .int .i64 n), (2, .int .i64 x), (3, .slice A m c)]) w = .ok (.agg #[.int .i64 o, .int .i64 n, .int .i64 x, .slice A m c]) w := by kernel_rfl
def CL (w : World) (B : Nat) (A : Option Addr) (l : List Ce) : Prop :=
  0 < l.length → ∃ b off, A = some ⟨b, off, none⟩ ∧ b < B ∧ ∀ i (hi : i < l.length), ∃ dA dc, RB w B dA l[i].data ∧
    w.cell? ⟨b, off + i * 4, none⟩ = some (.int .i64 l[i].owner) ∧ w.cell? ⟨b, off + i * 4 + 1, none⟩ = some (.int .i64 l[i].number) ∧ w.cell? ⟨b, off + i * 4 + 2, none⟩ = some (.int .i64 l[i].next) ∧
    w.cell? ⟨b, off + i * 4 + 3, none⟩ = some (.slice dA l[i].data.length dc)
section
variable {w w' : World} {B : Nat} {A : Option Addr} {l : List Ce}
theorem CL.below (h : CL w B A l) (hb : Below B w w') : CL w' B A l := fun h0 => by
  obtain ⟨b, off, e, hlt, hc⟩ := h h0
  refine ⟨b, off, e, hlt, fun i hi => ?_⟩
  obtain ⟨dA, dc, h1, h2, h3, h4, h5⟩ := hc i hi
  have k : ∀ j, w'.cell? ⟨b, j, none⟩ = w.cell? ⟨b, j, none⟩ := fun j => hb.cell (p := ⟨b, j, none⟩) hlt
  exact ⟨dA, dc, h1.below hb, by rw [k]; exact h2, by rw [k]; exact h3, by rw [k]; exact h4, by rw [k]; exact h5⟩
theorem CL.more {B' : Nat} (h : CL w B A l) (hb : B ≤ B') : CL w B' A l := fun h0 => by
  obtain ⟨b, off, e, hlt, hc⟩ := h h0
  refine ⟨b, off, e, Nat.lt_of_lt_of_le hlt hb, fun i hi => ?_⟩
  obtain ⟨dA, dc, h1, h2⟩ := hc i hi
  exact ⟨dA, dc, h1.more hb, h2⟩
theorem CL.up (h : CL w w.heap.size A l) (hb : Below w.heap.size w w') : CL w' w'.heap.size A l := (h.below hb).more hb.size
theorem CL.nil : CL w B A [] := fun h => absurd h (by simp)
end
def ceC (x : Ce × Option Addr × Nat) : List Value := [.int .i64 x.1.owner, .int .i64 x.1.number, .int .i64 x.1.next, .slice x.2.1 x.1.data.length x.2.2]
def rowE (r : List (Ce × Option Addr × Nat)) : List Value := r.flatMap ceC
theorem rowE_get (r : List (Ce × Option Addr × Nat)) (i : Nat) (hi : i < r.length) : (rowE r)[i * 4]? = some (.int .i64 (r[i]).1.owner) ∧ (rowE r)[i * 4 + 1]? = some (.int .i64 (r[i]).1.number) ∧ (rowE r)[i * 4 + 2]? = some (.int .i64 (r[i]).1.next) ∧ (rowE r)[i * 4 + 3]? = some (.slice (r[i]).2.1 (r[i]).1.data.length (r[i]).2.2) :=
  by
  induction r generalizing i with
  | nil => simp at hi
  | cons x r ih =>
    have e : rowE (x :: r) = .int .i64 x.1.owner :: .int .i64 x.1.number :: .int .i64 x.1.next :: .slice x.2.1 x.1.data.length x.2.2 :: rowE r := rfl
    rw [e]
    match i with
    | 0 => simp
    | i + 1 =>
      have := ih i (by simpa using hi)
      rw [show (i + 1) * 4 = i * 4 + 4 by omega, show i * 4 + 4 + 1 = i * 4 + 1 + 4 by omega, show i * 4 + 4 + 2 = i * 4 + 2 + 4 by omega, show i * 4 + 4 + 3 = i * 4 + 3 + 4 by omega]
      simpa using this
theorem rowE_snoc (r : List (Ce × Option Addr × Nat)) (x : Ce × Option Addr × Nat) : rowE (r ++ [x]) = rowE r ++ ceC x := by simp [rowE]
theorem CL.of_own {w : World} {base n c : Nat} {A : Option Addr} {r : List (Ce × Option Addr × Nat)} (h : w.ownsRow base 24 4 (.slice A n c) n (rowE r)) (hn : n = r.length) (hr : ∀ x ∈ r, RB w w.heap.size x.2.1 x.1.data) : CL w w.heap.size A (r.map (·.1)) := fun h0 => by
  subst hn
  rw [List.length_map] at h0
  rcases h.2 with ⟨_, h1⟩ | ⟨k, cap, cur, he, h2, h3, _⟩
  · omega
  · simp only [Value.slice.injEq] at he
    obtain ⟨rfl, -, rfl⟩ := he
    have hc := World.ownsRow.cells h (g := k) rfl
    have ea : ∀ j, (⟨k, 0, none⟩ : Addr).add j = ⟨k, j, none⟩ := fun j => by unfold Addr.add; split <;> simp_all
    refine ⟨k, 0, rfl, Blk.lt (t := 24) h3, fun i hi => ?_⟩
    rw [List.length_map] at hi
    obtain ⟨g0, g1, g2, g3⟩ := rowE_get r i hi
    have c0 := hc _ _ g0
    have c1 := hc _ _ g1
    have c2 := hc _ _ g2
    have c3 := hc _ _ g3
    rw [ea] at c0 c1 c2 c3
    simp only [Nat.zero_add, List.getElem_map]
    exact ⟨r[i].2.1, r[i].2.2, hr _ (List.getElem_mem hi), c0, c1, c2, c3⟩
def GivesCL (r : List Ce × Int) (w : World) (e : Ending) (w' : World) : Prop :=
  ∃ A c, e = .returned (.tuple #[.slice A r.1.length c, .int .i64 r.2]) ∧ CL w' w'.heap.size A r.1 ∧ Below w.heap.size w w'
def GivesCc (r : Ce × Int) (w : World) (e : Ending) (w' : World) : Prop :=
  ∃ A c, e = .returned (.tuple #[ceV r.1 A c, .int .i64 r.2]) ∧ RBc w' A r.1.data c ∧ Below w.heap.size w w'
def CLIn (w : World) (P : Nat → Prop) (A : Option Addr) (l : List Ce) : Prop :=
  0 < l.length → ∃ b off, A = some ⟨b, off, none⟩ ∧ b < w.heap.size ∧ P b ∧ ∀ i (hi : i < l.length), ∃ dA dc, RB w w.heap.size dA l[i].data ∧ (∀ ad, dA = some ad → P ad.block) ∧ l[i].data.length ≤ dc ∧ dc ≤ 9223372036854775807 ∧
    w.cell? ⟨b, off + i * 4, none⟩ = some (.int .i64 l[i].owner) ∧ w.cell? ⟨b, off + i * 4 + 1, none⟩ = some (.int .i64 l[i].number) ∧ w.cell? ⟨b, off + i * 4 + 2, none⟩ = some (.int .i64 l[i].next) ∧
    w.cell? ⟨b, off + i * 4 + 3, none⟩ = some (.slice dA l[i].data.length dc)
theorem CLIn.cl {w : World} {P : Nat → Prop} {A : Option Addr} {l : List Ce} (h : CLIn w P A l) : CL w w.heap.size A l := fun h0 => by
  obtain ⟨b, off, e, hlt, _, hc⟩ := h h0
  refine ⟨b, off, e, hlt, fun i hi => ?_⟩
  obtain ⟨dA, dc, h1, _, _, _, h2⟩ := hc i hi
  exact ⟨dA, dc, h1, h2⟩
theorem CLIn.of_own {w : World} {base n c : Nat} {P : Nat → Prop} {A : Option Addr} {r : List (Ce × Option Addr × Nat)} (h : w.ownsRow base 24 4 (.slice A n c) n (rowE r)) (hn : n = r.length) (hr : ∀ x ∈ r, RB w w.heap.size x.2.1 x.1.data) (hp : ∀ x ∈ r, ∀ ad, x.2.1 = some ad → P ad.block) (hd : ∀ x ∈ r, x.1.data.length ≤ x.2.2 ∧ x.2.2 ≤ 9223372036854775807) (hb : ∀ k, base ≤ k → P k) : CLIn w P A (r.map (·.1)) := fun h0 => by
  subst hn
  rw [List.length_map] at h0
  rcases h.2 with ⟨_, h1⟩ | ⟨k, cap, cur, he, h2, h3, _⟩
  · omega
  · simp only [Value.slice.injEq] at he
    obtain ⟨rfl, -, rfl⟩ := he
    have hc := World.ownsRow.cells h (g := k) rfl
    have ea : ∀ j, (⟨k, 0, none⟩ : Addr).add j = ⟨k, j, none⟩ := fun j => by unfold Addr.add; split <;> simp_all
    refine ⟨k, 0, rfl, Blk.lt (t := 24) h3, hb k h2, fun i hi => ?_⟩
    rw [List.length_map] at hi
    obtain ⟨g0, g1, g2, g3⟩ := rowE_get r i hi
    have c0 := hc _ _ g0
    have c1 := hc _ _ g1
    have c2 := hc _ _ g2
    have c3 := hc _ _ g3
    rw [ea] at c0 c1 c2 c3
    simp only [Nat.zero_add, List.getElem_map]
    have hm := List.getElem_mem hi
    exact ⟨r[i].2.1, r[i].2.2, hr _ hm, hp _ hm, (hd _ hm).1, (hd _ hm).2, c0, c1, c2, c3⟩
theorem CLIn.below {w w' : World} {P : Nat → Prop} {A : Option Addr} {l : List Ce} (h : CLIn w P A l) (hb : Below w.heap.size w w') : CLIn w' P A l := fun h0 => by
  obtain ⟨b, off, e, hlt, hp, hc⟩ := h h0
  refine ⟨b, off, e, Nat.lt_of_lt_of_le hlt hb.size, hp, fun i hi => ?_⟩
  obtain ⟨dA, dc, h1, h2, h3, h4, c0, c1, c2, c3⟩ := hc i hi
  have k : ∀ j, w'.cell? ⟨b, j, none⟩ = w.cell? ⟨b, j, none⟩ := fun j => hb.cell (p := ⟨b, j, none⟩) hlt
  exact ⟨dA, dc, rb_up7 h1 hb, h2, h3, h4, by rw [k]; exact c0, by rw [k]; exact c1, by rw [k]; exact c2, by rw [k]; exact c3⟩
def GivesCLIn (r : List Ce × Int) (B : Option Addr) (w : World) (e : Ending) (w' : World) : Prop :=
  ∃ A c, e = .returned (.tuple #[.slice A r.1.length c, .int .i64 r.2]) ∧ CLIn w' (fun k => (∃ ad, B = some ad ∧ k = ad.block) ∨ w.heap.size ≤ k) A r.1 ∧ Below w.heap.size w w'
theorem GivesCLIn.weak {r : List Ce × Int} {B : Option Addr} {w : World} {e : Ending} {w' : World} (h : GivesCLIn r B w e w') : GivesCL r w e w' := by
  obtain ⟨A, c, he, hc, hb⟩ := h
  exact ⟨A, c, he, hc.cl, hb⟩
theorem GivesCLIn.none_ {r : List Ce × Int} {B : Option Addr} {w w' : World} {z : Int} (hr : r = ([], z)) (hb : Below w.heap.size w w') : GivesCLIn r B w (.returned (.tuple #[.slice none 0 0, .int .i64 z])) w' := by
  subst hr
  exact ⟨none, 0, rfl, fun h => absurd h (by simp), hb⟩
def GivesC (r : Ce × Int) (w : World) (e : Ending) (w' : World) : Prop :=
  ∃ A c, e = .returned (.tuple #[ceV r.1 A c, .int .i64 r.2]) ∧ RB w' w'.heap.size A r.1.data ∧ Below w.heap.size w w'
def GivesJC (r : Option (List UInt8)) (w : World) (e : Ending) (w' : World) : Prop :=
  ∃ A c, e = .returned (.tuple #[.slice A (r.getD []).length c, .bool r.isSome]) ∧ RB w' w'.heap.size A (r.getD []) ∧ Below w.heap.size w w'
theorem cell_at (w W : World) (o n x : Int) (A : Option Addr) (m c : Nat) (hb : Below (w.alloc (.cells #[.int .i64 o, .int .i64 n, .int .i64 x, .slice A m c] 24)).heap.size (w.alloc (.cells #[.int .i64 o, .int .i64 n, .int .i64 x, .slice A m c] 24)) W) : W.cell? ⟨w.heap.size, 0, none⟩ = some (.int .i64 o) ∧ W.cell? ⟨w.heap.size, 1, none⟩ = some (.int .i64 n) ∧ W.cell? ⟨w.heap.size, 2, none⟩ = some (.int .i64 x) ∧ W.cell? ⟨w.heap.size, 3, none⟩ = some (.slice A m c) := by
  have h0 : Blk W w.heap.size 24 #[.int .i64 o, .int .i64 n, .int .i64 x, .slice A m c] := Blk.below (Blk.new w _ _) hb (by simp)
  exact ⟨by rw [h0.cell]; rfl, by rw [h0.cell]; rfl, by rw [h0.cell]; rfl, by rw [h0.cell]; rfl⟩
def ResC (W : World) (g : Nat) : Prop := (W.cell? ⟨g, 0, none⟩ = some (.int .i64 0) ∧ W.cell? ⟨g, 1, none⟩ = some (.int .i64 0) ∧ W.cell? ⟨g, 2, none⟩ = some (.int .i64 0) ∧ W.cell? ⟨g, 3, none⟩ = some (.slice none 0 0)) ∧ W.frozen? ⟨g, 0, none⟩ = false ∧ W.frozen? ⟨g, 1, none⟩ = false ∧ W.frozen? ⟨g, 2, none⟩ = false ∧ W.frozen? ⟨g, 3, none⟩ = false
theorem res_c (w W : World) (hb : Below (w.alloc (.cells #[.int .i64 0, .int .i64 0, .int .i64 0, .slice none 0 0] 24)).heap.size (w.alloc (.cells #[.int .i64 0, .int .i64 0, .int .i64 0, .slice none 0 0] 24)) W) : ResC W w.heap.size := by
  have h0 : Blk W w.heap.size 24 #[.int .i64 0, .int .i64 0, .int .i64 0, .slice none 0 0] := Blk.below (Blk.new w _ _) hb (by simp)
  exact ⟨⟨by rw [h0.cell]; rfl, by rw [h0.cell]; rfl, by rw [h0.cell]; rfl, by rw [h0.cell]; rfl⟩, h0.frozen 0, h0.frozen 1, h0.frozen 2, h0.frozen 3⟩
theorem below_four {w0 W : World} {B g : Nat} (h : Below B w0 W) (hg : B ≤ g) (v0 v1 v2 v3 : Value) : Below B w0 ((((W.setCell ⟨g, 0, none⟩ v0).setCell ⟨g, 1, none⟩ v1).setCell ⟨g, 2, none⟩ v2).setCell ⟨g, 3, none⟩ v3) :=
  (((h.setCell hg _).setCell hg _).setCell hg _).setCell hg _
end Go.Proofs.Ytpedgkghfehkjaa
end
section
set_option linter.unusedVariables false
set_option linter.unusedSimpArgs false
namespace Go.Proofs.Ytpedgkghfehkjaa
open Go.RowKit
def No8 (cs : Array Value) : Prop := ∀ (j : Nat) (z : Int), cs[j]? ≠ some (.int .u8 z)
theorem no8_cur (A : Option Addr) (n c : Nat) (b : Bool) : No8 #[.slice A n c, .bool b] := fun j z => cur_cells A n c b j _ z
theorem rb_ne8 {w : World} {B g : Nat} {t : TypeId} {A : Option Addr} {L : List UInt8} {cs : Array Value} (h : RB w B A L) (hg : Blk w g t cs) (hcs : No8 cs) (hn : 0 < L.length) : ∀ ad, A = some ad → ad.block ≠ g := fun ad e => by
  obtain ⟨b, off, rfl, hb, hc⟩ := RB.at_ h hn
  injection e with e
  subst e
  rintro rfl
  have h0 := hc 0 hn
  rw [Nat.add_zero, (blk_cell hg off).1] at h0
  exact hcs _ _ h0
theorem rb_only8 {w w' : World} {g : Nat} {t : TypeId} {A : Option Addr} {L : List UInt8} {cs : Array Value} (h : RB w w.heap.size A L) (hg : Blk w g t cs) (hcs : No8 cs) (ho : Only w w' g) : RB w' w'.heap.size A L := by
  refine ⟨h.1, fun hn => ?_⟩
  obtain ⟨ad, e, hb, hc⟩ := h.2 hn
  have hne := rb_ne8 h hg hcs hn ad e
  refine ⟨ad, e, Nat.lt_of_lt_of_le hb ho.size, fun j u hu => ?_⟩
  rw [World.cell?_of_block (ho.block (ad.add j).block (by rw [block_of_add]; exact hb) (by rw [block_of_add]; simp; exact hne))]
  exact hc j u hu
theorem rb_set8 {w : World} {g i : Nat} {t : TypeId} {A : Option Addr} {L : List UInt8} {cs : Array Value} (h : RB w w.heap.size A L) (hg : Blk w g t cs) (hcs : No8 cs) (u : Value) : RB (w.setCell ⟨g, i, none⟩ u) (w.setCell ⟨g, i, none⟩ u).heap.size A L := rb_only8 h hg hcs (only_set _ _ _ _)
theorem cur_blk {w : World} {g : Nat} {st : Option (List UInt8)} (h : Cur w g st) : ∃ A n c b, Blk w g 70 #[.slice A n c, .bool b] := by
  rcases st with _ | L
  · exact ⟨_, _, _, _, h⟩
  · obtain ⟨A, c, h, _⟩ := h
    exact ⟨_, _, _, _, h⟩
theorem cur_only8 {w w' : World} {g k : Nat} {t : TypeId} {cs : Array Value} {st : Option (List UInt8)} (h : Cur w g st) (hk : Blk w k t cs) (hcs : No8 cs) (hne : g ≠ k) (ho : Only w w' k) : Cur w' g st := by
  rcases st with _ | L
  · exact Blk.only (t := 70) h ho hne
  · obtain ⟨A, c, hb, hr, hc, hl⟩ := h
    exact ⟨A, c, Blk.only (t := 70) hb ho hne, rb_only8 hr hk hcs ho, hc, hl⟩
theorem cur_set8 {w : World} {g k i : Nat} {t : TypeId} {cs : Array Value} {st : Option (List UInt8)} (h : Cur w g st) (hk : Blk w k t cs) (hcs : No8 cs) (hne : g ≠ k) (u : Value) : Cur (w.setCell ⟨k, i, none⟩ u) g st := cur_only8 h hk hcs hne (only_set _ _ _ _)
theorem cur_below {w w' : World} {g : Nat} {st : Option (List UInt8)} (h : Cur w g st) (hb : Below w.heap.size w w') : Cur w' g st := by
  rcases st with _ | L
  · exact Blk.below (t := 70) h hb (Blk.lt (t := 70) h)
  · obtain ⟨A, c, hk, hr, hc, hl⟩ := h
    exact ⟨A, c, Blk.below (t := 70) hk hb (Blk.lt (t := 70) hk), (hr.below hb).more hb.size, hc, hl⟩
theorem cur_alloc {w : World} {g : Nat} {st : Option (List UInt8)} (h : Cur w g st) (o : Obj) : Cur (w.alloc o) g st := cur_below h ((Below.refl _ _).alloc (Nat.le_refl _) o)
def fieldZ (L : List UInt8) : Int := if (unfixR L).2 = 0 then ((unfixR L).1 : Int) else -1
theorem step_ok {n : Nat} {L : List UInt8} (h : n ≤ L.length) : stepTake (n : Int) (some L) = (some (L.drop n), L.take n) := by
  simp only [stepTake]
  rw [if_neg (by omega)]
  simp
theorem step_no {n : Nat} {L : List UInt8} (h : L.length < n) : stepTake (n : Int) (some L) = (none, []) := by
  simp only [stepTake]
  rw [if_pos (by omega)]
def capZ (n : Nat) : Int := if n ≤ 2147483647 then (n : Int) else -1
theorem fieldZ_cap {L : List UInt8} (h1 : 1 ≤ L.length) (h4 : L.length ≤ 4) : fieldZ L = capZ (unfixL L) := by
  unfold fieldZ capZ
  by_cases h : unfixL L ≤ 2147483647
  · rw [unfix_ok rfl h1 h4 h, if_pos rfl, if_pos h]
  · rw [unfix_bad rfl h1 h4 h, if_neg (by decide), if_neg h]
theorem fieldZ_small {L : List UInt8} (h1 : 1 ≤ L.length) (h2 : L.length ≤ 2) : fieldZ L = (unfixL L : Int) := by
  have h := unfixL_lt L
  have h3 : (256 : Nat) ^ L.length ≤ 256 ^ 2 := Nat.pow_le_pow_right (by omega) h2
  rw [fieldZ_cap h1 (by omega)]
  unfold capZ
  rw [if_pos (by omega)]
theorem only_new {a w : World} {g gs i : Nat} (h : Only a w g) (hg : a.heap.size ≤ gs) (u : Value) : Only a (w.setCell ⟨gs, i, none⟩ u) g :=
  ⟨h.os, h.tape, h.output, by simpa [World.setCell] using h.size, fun k hk hn => (heap_setCell_other w ⟨gs, i, none⟩ k u (by show k ≠ gs; omega)).trans (h.block k hk hn)⟩
theorem only_more {a b w : World} {g : Nat} (h : Only a b g) (hb : Below b.heap.size b w) : Only a w g := only_trans h (only_below hb g)
theorem wpList_make_yes {P : Program} (w : World) {ops : Array Oper} {rest : List Oper} {o : Oper} {a : Act} {Q : Exit → Act → World → Prop}
    (hw : Region.wanted o (yielded ops a.tmps) = true) (l c : Operand) (t : TypeId) (hop : o.op = Op.makeSlice t l c)
    (base : Nat) (e : TypeId) (i : TypeInfo) (z : Value) (size : Nat) (h1 : P.underlying t = some (.slice e)) (h2 : P.info? e = some i) (h3 : i.zero = some z) (h4 : i.size = size)
    (kl kc : IntKind) (L C : Int) (n : Nat) (hl : a.eval l = .int kl L) (hc : a.eval c = .int kc C) (hL : L = (n : Int)) (hC : C = (n : Int)) (b2 : i.bytes * n ≤ 281474976710656) (b3 : n ≤ maxLen) (b4 : base ≤ w.heap.size)
    (hK : ∀ w', w'.ownsRow base e size (.slice (some ⟨w.heap.size, 0, none⟩) n n) n (madeCells z.cells (n * size)).toList → w.grownBy w' none → wpList P ops Q rest (a.put o.dst (.slice (some ⟨w.heap.size, 0, none⟩) n n)) w') :
    wpList P ops Q (o :: rest) a w := by
  refine wpList_wanted hw fun K hK' => ?_
  obtain ⟨w', hrun, r1, r2⟩ := run_make_full (P := P) w base t e i z size h1 h2 h3 h4 kl kc n b2 b3 b4
  subst hL
  subst hC
  unfold Oper.wp
  simp [execOp, hop, hl, hc, hrun, Result.andThen]
  exact hK' _ _ (hK w' r1 r2)
theorem made_rb7 {w w' : World} {r : Nat} (h : w'.ownsRow w.heap.size 5 1 (.slice (some ⟨w.heap.size, 0, none⟩) r r) r (madeCells (Value.int .u8 0).cells (r * 1)).toList) : RB w' w'.heap.size (some ⟨w.heap.size, 0, none⟩) (List.replicate r 0) := by
  simp only [Nat.mul_one, show (Value.int IntKind.u8 0).cells = #[Value.int IntKind.u8 0] from rfl, toList_madeCells_one] at h
  have h2 := Reads.of_own h
  unfold RB
  rw [List.length_replicate]
  have e : cells (List.replicate r 0) = List.replicate r (Value.int .u8 0) := by simp [cells]
  rw [e]
  exact h2
def PutAt (w : World) (gb : Nat) (L : List UInt8) : Prop := ∃ A c, Blk w gb 22 #[.slice A L.length c] ∧ w.ownsRow gb 5 1 (.slice A L.length c) L.length (cells L)
theorem ne_row {w : World} {gb base n : Nat} {cs : Array Value} {v : Value} {xs : List Value} (h : Blk w gb 22 cs) (ho : w.ownsRow base 5 1 v n xs) : some gb ≠ v.ownBlock := fun e => by
  obtain ⟨_, cs', h'⟩ := own_lt ho e.symm
  exact Blk.ne_ h h' (by decide) rfl
theorem put_new (w : World) : PutAt (w.alloc (.cells #[.slice none 0 0] 22)) w.heap.size [] := ⟨none, 0, Blk.new w _ _, World.ownsRow_nil _ _ _ _⟩
end Go.Proofs.Ytpedgkghfehkjaa
end
section
set_option linter.unusedVariables false
namespace Go.Proofs.Ytpedgkghfehkjaa
open Go.RowKit
theorem le4_fix (n : Nat) (h : n < 4294967296) : fixL 2 (n % 65536) ++ fixL 2 (n / 65536) = le4 n := by
  have e1 : n % 65536 % 256 = n % 256 := by omega
  have e2 : n % 65536 / 256 % 256 = n / 256 % 256 := by omega
  have e3 : n / 65536 / 256 % 256 = n / 16777216 := by omega
  simp only [fixL, le4, e1, e2, e3]
  rfl
theorem fix_two (n : Nat) (v : Int) (w : World) (hv : v = (n : Int)) (h : n < 65536) : Calls Try.prog 20 #[.int .i64 v, .int .i64 2] w (GivesBytes (fixL 2 n) w) := by
  subst hv
  exact fix_yes n 2 w (by omega) (by omega) (by omega) (by simpa using h)
set_option maxRecDepth 100000 in
set_option maxHeartbeats 1000000 in
theorem sumBytes_any (s : Nat) (w : World) (hs : s < 4294967296) : Calls Try.prog 38 #[.int .u32 (s : Int)] w (GivesOne (le4 s) w) := by
  obtain ⟨i0, hi0, hz0, hz1, hz2⟩ := info_parts Try.info5
  have HL := Lib.hid (le4_fix s hs)
  have l1 : (fixL 2 (s % 65536)).length = 2 := fixL_length _ _
  have l2 : (fixL 2 (s / 65536)).length = 2 := fixL_length _ _
  have HA : ∀ W, Calls Try.prog 20 #[.int .i64 ((s : Int) % 65536), .int .i64 2] W (GivesBytes (fixL 2 (s % 65536)) W) := fun W => fix_two _ _ W (by omega) (by omega)
  have HB : ∀ W, Calls Try.prog 20 #[.int .i64 ((s : Int) / 65536), .int .i64 2] W (GivesBytes (fixL 2 (s / 65536)) W) := fun W => fix_two _ _ W (by omega) (by omega)
  obtain ⟨X, hX⟩ : ∃ X, X = fixL 2 (s % 65536) := ⟨_, rfl⟩
  obtain ⟨Y, hY⟩ : ∃ Y, Y = fixL 2 (s / 65536) := ⟨_, rfl⟩
  rw [← hX, ← hY] at HL
  rw [← hX] at l1 HA
  rw [← hY] at l2 HB
  have HA2 := Lib.hid HA
  have HB2 := Lib.hid HB
  have hx2 : X.length ≤ 2 := by omega
  have hy2 : Y.length ≤ 2 := by omega
  clear hX hY l1 l2 HA HB
  go_enter Try.func38, Try.ntmps38
  go_wp2_with (first
    | (go_at_call 20; (with_reducible refine (HA2.out _).mono ?_); rintro e w1 ⟨A1, c1, rfl, hown1, hb1⟩; clear HA2)
    | (go_at_call 20; (with_reducible refine (HB2.out _).mono ?_); rintro e w2 ⟨A2, c2, rfl, hown2, hb2⟩; clear HB2; have z2 := hb2.size; have z1 := hb1.size; have hown3 := own_kept hown1 hb2; have hr2 := own_rb hown2)
    | (at_builtin; refine wpList_append_any _ rfl (.tmp 21) (.tmp 22) _ rfl w.heap.size 5 i0 _ 1 1 Try.underlying22 hi0 hz0 hz1 hz2 rfl (by omega) _ X.length (cells X) rfl hown3 w2.heap.size A2 Y.length c2 (cells Y) rfl hr2 (cells_one _) (by simp only [maxLen]; omega) (by omega) (by omega) ?_; intro v3 w3 hown4 hg3 hat3))
  have hb3 : Below w.heap.size w w3 := (hb1.trans (hb2.mono z1)).grown hg3 (by omega) (fun k hk => (World.ownsRow.lt hown3 k hk).1)
  rw [← cells_append, ← List.length_append, HL.out] at hown4
  obtain ⟨A3, c3, hv⟩ := own_form hown4
  go_ret
  exact ⟨A3, c3, by rw [hv]; rfl, by rw [hv] at hown4; exact hown4, hb3⟩
set_option maxRecDepth 100000 in
set_option maxHeartbeats 1000000 in
theorem seal_any (L : List UInt8) (A : Option Addr) (c B : Nat) (w : World) (hr : RB w B A L) (hl : L.length ≤ 1048576) :
    Calls Try.prog 21 #[.slice A L.length c] w (GivesOne (sealL L) w) := by
  obtain ⟨i0, hi0, hz0, hz1, hz2⟩ := info_parts Try.info5
  have hr := rb_lt hr
  have hs := sumL_lt L
  have HS : ∀ W E, RB W E A L → Calls Try.prog 39 #[.slice A L.length c] W fun e w' => e = .returned (.int .u32 (sumL L : Int)) ∧ W = w' := fun W E h => sum_any L A c E W h (by omega)
  have HB : ∀ W, Calls Try.prog 38 #[.int .u32 (sumL L : Int)] W (GivesOne (le4 (sumL L)) W) := fun W => sumBytes_any _ W hs
  obtain ⟨M, hM⟩ : ∃ M, M = le4 (sumL L) := ⟨_, rfl⟩
  have HM : Hid (L ++ M = sealL L) := by show _ = _; rw [hM]; rfl
  have hm : M.length ≤ 4 := by rw [hM]; exact Nat.le_refl _
  rw [← hM] at HB
  have HS2 := Lib.hid HS
  have HB2 := Lib.hid HB
  have hby : i0.bytes = 1 := hz2
  clear hM HS HB
  go_enter Try.func21, Try.ntmps21
  go_wp2_with (first
    | (at_make; refine wpList_make_own _ rfl _ _ 22 rfl w.heap.size 5 i0 _ 1 Try.underlying22 hi0 hz0 hz1 .i64 .i64 _ (L.length + 4) rfl rfl (by omega) (by rw [hby]; omega) (by unfold maxLen; omega) (Nat.le_refl _) ?_; intro w1 ho1 hg1; have hb1 : Below w.heap.size w w1 := (Below.refl _ _).grown hg1 (Nat.le_refl _) (by simp))
    | (at_builtin; refine wpList_append_any _ rfl (.tmp 8) (.tmp 9) _ rfl w.heap.size 5 i0 _ 1 1 Try.underlying22 hi0 hz0 hz1 hz2 rfl (by omega) (.slice (some ⟨w.heap.size, 0, none⟩) 0 (L.length + 4)) 0 [] rfl ho1 w.heap.size A L.length c (cells L) rfl (hr.below hb1) (cells_one _) (by simp only [maxLen]; omega) (by omega) hb1.size ?_; intro v2 w2 ho2 hg2 hat2; simp only [Nat.zero_add, List.nil_append] at ho2; have hb2 : Below w.heap.size w w2 := hb1.grown hg2 hb1.size (fun k hk => (ho1.lt k hk).1); have hr2 := hr.below hb2)
    | (go_at_call 39; (with_reducible refine (HS2.out _ _ hr2).mono ?_); rintro e w' ⟨rfl, rfl⟩)
    | (go_at_call 38; (with_reducible refine (HB2.out _).mono ?_); rintro e w3 ⟨A3, c3, rfl, ho3, hb3⟩; have hr3 := own_rb ho3; have ho4 := own_kept ho2 hb3; have z2 := hb2.size; have z3 := hb3.size)
    | (at_builtin; refine wpList_append_any _ rfl (.tmp 11) (.tmp 14) _ rfl w.heap.size 5 i0 _ 1 1 Try.underlying22 hi0 hz0 hz1 hz2 rfl (by omega) _ L.length (cells L) rfl ho4 w3.heap.size A3 M.length c3 (cells M) rfl hr3 (cells_one _) (by simp only [maxLen]; omega) (by omega) (by omega) ?_; intro v5 w5 ho5 hg5 hat5; have hb5 : Below w.heap.size w w5 := (hb2.trans (hb3.mono z2)).grown hg5 (by omega) (fun k hk => (ho4.lt k hk).1)))
  rw [← cells_append, ← List.length_append, HM.out] at ho5
  obtain ⟨A6, c6, hv⟩ := own_form ho5
  go_ret
  exact ⟨A6, c6, by rw [hv]; rfl, by rw [hv] at ho5; exact ho5, hb5⟩
end Go.Proofs.Ytpedgkghfehkjaa
end
