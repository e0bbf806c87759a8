/- Sectors as they lie in memory (layer 7). Plain lemmas. -/
import Derived.Test.YtepeoggacmaenaaNots
import Derived.Test.YtepeoggacmaenaaSectRPut
import Derived.Test.YtepeoggacmaenaaSlB
set_option linter.unusedVariables false
namespace Go.Proofs.Ytepeoggacmaenaa
open Go.RowKit

/-- Sectors: the slice value of address A reads as l, all of it below block B. -/
def SL (w : World) (B : Nat) (A : Option Addr) (l : List Sd) : Prop :=
  0 < l.length → ∃ b off, A = some ⟨b, off, none⟩ ∧ b < B ∧ ∀ i (hi : i < l.length), ∃ dA dc, RB w B dA l[i].data ∧
    w.cell? ⟨b, off + i * 5, none⟩ = some (.int .i64 l[i].kind) ∧ w.cell? ⟨b, off + i * 5 + 1, none⟩ = some (.int .i64 l[i].epoch) ∧ w.cell? ⟨b, off + i * 5 + 2, none⟩ = some (.int .i64 l[i].number) ∧
    w.cell? ⟨b, off + i * 5 + 3, none⟩ = some (.int .i64 l[i].left) ∧ w.cell? ⟨b, off + i * 5 + 4, none⟩ = some (.slice dA l[i].data.length dc)
section
variable {w w' : World} {B : Nat} {A : Option Addr} {l : List Sd}
theorem SL.below (h : SL w B A l) (hb : Below B w w') : SL w' B A l := fun h0 => by
  obtain ⟨b, off, e, hlt, hc⟩ := h h0
  refine ⟨b, off, e, hlt, fun i hi => ?_⟩
  obtain ⟨dA, dc, h1, h2, h3, h4, h5, h6⟩ := hc i hi
  have k : ∀ j, w'.cell? ⟨b, j, none⟩ = w.cell? ⟨b, j, none⟩ := fun j => hb.cell (p := ⟨b, j, none⟩) hlt
  exact ⟨dA, dc, h1.below hb, by rw [k]; exact h2, by rw [k]; exact h3, by rw [k]; exact h4, by rw [k]; exact h5, by rw [k]; exact h6⟩
theorem SL.more {B' : Nat} (h : SL w B A l) (hb : B ≤ B') : SL w B' A l := fun h0 => by
  obtain ⟨b, off, e, hlt, hc⟩ := h h0
  refine ⟨b, off, e, Nat.lt_of_lt_of_le hlt hb, fun i hi => ?_⟩
  obtain ⟨dA, dc, h1, h2⟩ := hc i hi
  exact ⟨dA, dc, h1.more hb, h2⟩
theorem SL.up (h : SL w w.heap.size A l) (hb : Below w.heap.size w w') : SL w' w'.heap.size A l := (h.below hb).more hb.size
theorem SL.nil : SL w B A [] := fun h => absurd h (by simp)
end
/-- The cells of sectors, each with where its bytes lie. -/
def secC (x : Sd × Option Addr × Nat) : List Value := [.int .i64 x.1.kind, .int .i64 x.1.epoch, .int .i64 x.1.number, .int .i64 x.1.left, .slice x.2.1 x.1.data.length x.2.2]
def rowC (r : List (Sd × Option Addr × Nat)) : List Value := r.flatMap secC
theorem rowC_length (r : List (Sd × Option Addr × Nat)) : (rowC r).length = r.length * 5 := by
  induction r with
  | nil => rfl
  | cons x r ih =>
    show (secC x ++ rowC r).length = _
    rw [List.length_append, ih, List.length_cons]
    show 5 + _ = _
    omega
theorem rowC_one (r : List (Sd × Option Addr × Nat)) : ∀ u ∈ rowC r, u.oneCell' = true := fun u hu => by
  obtain ⟨x, hx, hu⟩ := List.mem_flatMap.1 hu
  simp only [secC, List.mem_cons, List.not_mem_nil, or_false] at hu
  rcases hu with rfl | rfl | rfl | rfl | rfl <;> rfl
theorem rowC_get (r : List (Sd × Option Addr × Nat)) (i : Nat) (hi : i < r.length) : (rowC r)[i * 5]? = some (.int .i64 (r[i]).1.kind) ∧ (rowC r)[i * 5 + 1]? = some (.int .i64 (r[i]).1.epoch) ∧ (rowC r)[i * 5 + 2]? = some (.int .i64 (r[i]).1.number) ∧ (rowC r)[i * 5 + 3]? = some (.int .i64 (r[i]).1.left) ∧ (rowC r)[i * 5 + 4]? = some (.slice (r[i]).2.1 (r[i]).1.data.length (r[i]).2.2) := by
  induction r generalizing i with
  | nil => simp at hi
  | cons x r ih =>
    have e : rowC (x :: r) = .int .i64 x.1.kind :: .int .i64 x.1.epoch :: .int .i64 x.1.number :: .int .i64 x.1.left :: .slice x.2.1 x.1.data.length x.2.2 :: rowC r := rfl
    rw [e]
    match i with
    | 0 => simp
    | i + 1 =>
      have := ih i (by simpa using hi)
      rw [show (i + 1) * 5 = i * 5 + 5 by omega, show i * 5 + 5 + 1 = i * 5 + 1 + 5 by omega, show i * 5 + 5 + 2 = i * 5 + 2 + 5 by omega, show i * 5 + 5 + 3 = i * 5 + 3 + 5 by omega, show i * 5 + 5 + 4 = i * 5 + 4 + 5 by omega]
      simpa using this
theorem rowC_snoc (r : List (Sd × Option Addr × Nat)) (x : Sd × Option Addr × Nat) : rowC (r ++ [x]) = rowC r ++ secC x := by simp [rowC]
/-- Own sectors read as such. -/
theorem SL.of_own {w : World} {base n c : Nat} {A : Option Addr} {r : List (Sd × Option Addr × Nat)} (h : w.ownsRow base 24 5 (.slice A n c) n (rowC r)) (hn : n = r.length) (hr : ∀ x ∈ r, RB w w.heap.size x.2.1 x.1.data) : SL w w.heap.size A (r.map (·.1)) := fun h0 => by
  subst hn
  rw [List.length_map] at h0
  rcases h.2 with ⟨_, h1⟩ | ⟨k, cap, cur, he, h2, h3, _⟩
  · omega
  · simp only [Value.slice.injEq] at he
    obtain ⟨rfl, -, rfl⟩ := he
    have hc := World.ownsRow.cells h (g := k) rfl
    have ea : ∀ j, (⟨k, 0, none⟩ : Addr).add j = ⟨k, j, none⟩ := fun j => by unfold Addr.add; split <;> simp_all
    refine ⟨k, 0, rfl, Blk.lt (t := 24) h3, fun i hi => ?_⟩
    rw [List.length_map] at hi
    obtain ⟨g0, g1, g2, g3, g4⟩ := rowC_get r i hi
    have c0 := hc _ _ g0
    have c1 := hc _ _ g1
    have c2 := hc _ _ g2
    have c3 := hc _ _ g3
    have c4 := hc _ _ g4
    rw [ea] at c0 c1 c2 c3 c4
    simp only [Nat.zero_add, List.getElem_map]
    exact ⟨r[i].2.1, r[i].2.2, hr _ (List.getElem_mem hi), c0, c1, c2, c3, c4⟩
/-- A call that gives sectors, and an error's number. -/
def GivesSL (r : List Sd × Int) (w : World) (e : Ending) (w' : World) : Prop :=
  ∃ A c, e = .returned (.tuple #[.slice A r.1.length c, .int .i64 r.2]) ∧ SL w' w'.heap.size A r.1 ∧ Below w.heap.size w w'
/-- A call that gives one sector, and an error's number. -/
def GivesS (r : Sd × Int) (w : World) (e : Ending) (w' : World) : Prop :=
  ∃ A c, e = .returned (.tuple #[secV r.1 A c, .int .i64 r.2]) ∧ RB w' w'.heap.size A r.1.data ∧ Below w.heap.size w w'

/-- Bytes, and that their slice has room for just these. -/
def RBc (w : World) (A : Option Addr) (L : List UInt8) (c : Nat) : Prop := RB w w.heap.size A L ∧ L.length ≤ c ∧ c ≤ 9223372036854775807
theorem rbc_none (w : World) : RBc w none [] 0 := ⟨RB.none_ _ _, Nat.le_refl _, by omega⟩
/-- A call that gives one sector, in whose bytes' slice there is room, and an error's number. -/
def GivesSc (r : Sd × Int) (w : World) (e : Ending) (w' : World) : Prop :=
  ∃ A c, e = .returned (.tuple #[secV r.1 A c, .int .i64 r.2]) ∧ RBc w' A r.1.data c ∧ Below w.heap.size w w'
theorem GivesSc.weak {r : Sd × Int} {w : World} {e : Ending} {w' : World} (h : GivesSc r w e w') : GivesS r w e w' := by
  obtain ⟨A, c, he, hr, hb⟩ := h
  exact ⟨A, c, he, hr.1, hb⟩
theorem own_cap7 {w : World} {base c : Nat} {A : Option Addr} {L : List UInt8} (h : Own w base A L c) : RBc w A L c := by
  refine ⟨own_rb h, ?_⟩
  rcases h.2 with ⟨h1, h2⟩ | ⟨g, cap, cur, h1, _, _, h3, h4, _⟩
  · simp only [Value.slice.injEq] at h1
    omega
  · simp only [Value.slice.injEq] at h1
    unfold maxLen at h4
    omega
end Go.Proofs.Ytepeoggacmaenaa
