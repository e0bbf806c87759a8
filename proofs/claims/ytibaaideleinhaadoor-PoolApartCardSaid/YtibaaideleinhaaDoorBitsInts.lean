/- Slices of ints in memory (layer 5): what they read as, rows of one's own. Plain lemmas; no statement is proved here. -/
import Derived.Test.YtibaaideleinhaaDoorBitsMem
set_option linter.unusedVariables false
namespace Go.Proofs.YtibaaideleinhaaDoor
open Go.RowKit

def icells (l : List Nat) : List Value := l.map fun (n : Nat) => .int .i64 (n : Int)
theorem icells_length (l : List Nat) : (icells l).length = l.length := by simp [icells]
theorem icells_append (l m : List Nat) : icells (l ++ m) = icells l ++ icells m := by simp [icells]
theorem icells_one (l : List Nat) : ∀ u ∈ icells l, u.oneCell' = true := by
  intro u hu
  simp only [icells, List.mem_map] at hu
  obtain ⟨b, _, rfl⟩ := hu
  rfl
theorem icells_get (l : List Nat) (k : Nat) (h : k < l.length) : (icells l)[k]? = some (.int .i64 ((l.getD k 0 : Nat) : Int)) := by
  simp [icells, List.getD, List.getElem?_eq_getElem h]
/-- Ints: the slice value of address A reads as l, and lies below block B. -/
def IS (w : World) (B : Nat) (A : Option Addr) (l : List Nat) : Prop := Reads w B 1 A l.length (icells l)
theorem IS.at_ {w : World} {B : Nat} {A : Option Addr} {l : List Nat} (h : IS w B A l) (hn : 0 < l.length) : ∃ b off, A = some ⟨b, off, none⟩ ∧ b < B ∧ ∀ k, k < l.length → w.cell? ⟨b, off + k, none⟩ = some (.int .i64 ((l.getD k 0 : Nat) : Int)) := by
  obtain ⟨ad, e, hb, hc⟩ := h.2 hn
  have h0 := hc 0 _ (icells_get l 0 hn)
  obtain ⟨b, off, p⟩ := ad
  have e0 : (⟨b, off, p⟩ : Addr).add 0 = ⟨b, off, p⟩ := by simp [Addr.add]
  rw [e0] at h0
  have hp : p = none := World.cell?_spot h0
  subst hp
  refine ⟨b, off, e, hb, fun k hk => ?_⟩
  have := hc k _ (icells_get l k hk)
  have ea : (⟨b, off, none⟩ : Addr).add k = ⟨b, off + k, none⟩ := by unfold Addr.add; split <;> simp_all
  rwa [ea] at this
theorem IS.below {w w' : World} {B : Nat} {A : Option Addr} {l : List Nat} (h : IS w B A l) (hb : Below B w w') : IS w' B A l := Reads.below h hb
theorem IS.more {w : World} {B B' : Nat} {A : Option Addr} {l : List Nat} (h : IS w B A l) (hB : B ≤ B') : IS w B' A l := Reads.more h hB
theorem own_is {w : World} {base : Nat} {A : Option Addr} {l : List Nat} {c : Nat} (h : w.ownsRow base 3 1 (.slice A l.length c) l.length (icells l)) : IS w w.heap.size A l := Reads.of_own h
theorem iown_form {w : World} {base : Nat} {v : Value} {n : Nat} {xs : List Value} (h : w.ownsRow base 3 1 v n xs) : ∃ A c, v = .slice A n c := by
  rcases h.2 with ⟨rfl, rfl⟩ | ⟨g, cap, cur, rfl, _⟩
  · exact ⟨none, 0, rfl⟩
  · exact ⟨_, _, rfl⟩
theorem iown_cap {w : World} {base n : Nat} {A : Option Addr} {c : Nat} {xs : List Value} (h : w.ownsRow base 3 1 (.slice A n c) n xs) : n ≤ c ∧ c ≤ 9223372036854775807 := by
  rcases h.2 with ⟨h', h0⟩ | ⟨g, cap, cur, h', _, _, hn, hm, _⟩
  · simp only [Value.slice.injEq] at h'
    omega
  · simp only [Value.slice.injEq] at h'
    have hm' : cap ≤ 9223372036854775807 := hm
    omega
theorem Tryd.infoInt : (Tryd.prog.info? 3).map (fun i => (i.zero, i.size, i.bytes)) = some (some (.int .i64 0), 1, 8) := by kernel_rfl
/-- A call that gives ints. -/
def GivesInts (l : List Nat) (w : World) (e : Ending) (w' : World) : Prop := ∃ A c, e = .returned (.slice A l.length c) ∧ IS w' w'.heap.size A l ∧ l.length ≤ c ∧ c ≤ 9223372036854775807 ∧ Below w.heap.size w w'
theorem GivesInts.own {l : List Nat} {w w' : World} {v : Value} {base : Nat} (h : w'.ownsRow base 3 1 v l.length (icells l)) (hb : Below w.heap.size w w') : GivesInts l w (.returned v) w' := by
  obtain ⟨A, c, rfl⟩ := iown_form h
  obtain ⟨h1, h2⟩ := iown_cap h
  exact ⟨A, c, rfl, own_is h, h1, h2, hb⟩

end Go.Proofs.YtibaaideleinhaaDoor
