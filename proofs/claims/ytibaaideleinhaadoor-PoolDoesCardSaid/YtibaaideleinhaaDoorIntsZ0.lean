/- Slices of ints (of either sign) in memory: what they read as, rows of one's own, slice expressions. Plain lemmas; no statement is proved here. -/
import Derived.Test.YtibaaideleinhaaDoorBase
import Derived.Laws.Slices
import Derived.Test.YtibaaideleinhaaDoorLaw

set_option linter.unusedVariables false
namespace Go.Proofs.YtibaaideleinhaaDoor
open Go.RowKit

theorem zadd_at (a off s : Nat) : (⟨a, off, none⟩ : Addr).add s = ⟨a, off + s, none⟩ := by unfold Addr.add; split <;> simp_all
def zcells (l : List Int) : List Value := l.map fun z => .int .i64 z
theorem zcells_length (l : List Int) : (zcells l).length = l.length := by simp [zcells]
theorem zcells_append (l m : List Int) : zcells (l ++ m) = zcells l ++ zcells m := by simp [zcells]
theorem zcells_drop (l : List Int) (k : Nat) : (zcells l).drop k = zcells (l.drop k) := by simp [zcells]
theorem zcells_one (l : List Int) : ∀ u ∈ zcells l, u.oneCell' = true := by
  intro u hu
  simp only [zcells, List.mem_map] at hu
  obtain ⟨b, _, rfl⟩ := hu
  rfl
theorem zcells_get (l : List Int) (k : Nat) (h : k < l.length) : (zcells l)[k]? = some (.int .i64 l[k]) := by simp [zcells, h]
/-- Ints as a reading. -/
def RZ (w : World) (B : Nat) (A : Option Addr) (l : List Int) : Prop := Reads w B 1 A l.length (zcells l)
theorem RZ.ri {w : World} {B : Nat} {A : Option Addr} {l : List Int} (h : RZ w B A l) : RI w B A l := fun hn => by
  obtain ⟨ad, e, hb, hc⟩ := h.2 hn
  have h0 := hc 0 _ (zcells_get l 0 hn)
  obtain ⟨b, off, p⟩ := ad
  have e0 : (⟨b, off, p⟩ : Addr).add 0 = ⟨b, off, p⟩ := by simp [Addr.add]
  rw [e0] at h0
  have hp : p = none := World.cell?_spot h0
  subst hp
  refine ⟨b, off, e, hb, fun k hk => ?_⟩
  have := hc k _ (zcells_get l k hk)
  rwa [zadd_at] at this
theorem RI.rz {w : World} {B : Nat} {A : Option Addr} {l : List Int} (h : RI w B A l) : RZ w B A l := by
  refine ⟨by rw [zcells_length, Nat.mul_one], fun hn => ?_⟩
  obtain ⟨b, off, e, hb, hc⟩ := h hn
  refine ⟨_, e, hb, fun j u hu => ?_⟩
  have hj : j < l.length := by
    have := (List.getElem?_eq_some_iff.1 hu).1
    rwa [zcells_length] at this
  rw [zcells_get l j hj] at hu
  rw [zadd_at, hc j hj]
  exact hu
theorem RI.more {w : World} {B B' : Nat} {A : Option Addr} {l : List Int} (h : RI w B A l) (hB : B ≤ B') : RI w B' A l := fun hn => by
  obtain ⟨b, off, e, hb, hc⟩ := h hn
  exact ⟨b, off, e, Nat.lt_of_lt_of_le hb hB, hc⟩
theorem ri_up {w w' : World} {A : Option Addr} {l : List Int} (h : RI w w.heap.size A l) (hb : Below w.heap.size w w') : RI w' w'.heap.size A l := (h.below hb).more hb.size
theorem Tryd.infoZ : (Tryd.prog.info? 3).map (fun i => (i.zero, i.size, i.bytes)) = some (some (.int .i64 0), 1, 8) := by kernel_rfl
theorem zown_ri {w : World} {base c : Nat} {A : Option Addr} {l : List Int} {n : Nat} (hn : n = l.length) (h : w.ownsRow base 3 1 (.slice A n c) n (zcells l)) : RI w w.heap.size A l := by
  subst hn
  exact RZ.ri (Reads.of_own h)
/-- 's[i:]' of ints. -/
theorem zsl_from (A : Option Addr) (n c s : Nat) (i : Int) (hi : i = (s : Int)) (h1 : s ≤ n) (h2 : n ≤ c) (W : World) :
    (Instr.sliceAt 36 (.slice A n c) (some (.int .i64 i)) none none).run Tryd.prog W = .ok (.slice (if c = s then A else A.map (·.add (s * 1))) (n - s) (c - s)) W := by
  subst hi
  have hu : Tryd.prog.underlying 36 = some (.slice (Tryd.prog.elem 36)) := by kernel_rfl
  have he : Tryd.prog.elem 36 = 3 := by kernel_rfl
  have hsz : (sizeOf 3).run Tryd.prog W = .ok 1 W := by kernel_rfl
  have e : (s : Int).toNat = s := by omega
  rw [run_sliceAt_slice _ _ _ _ _ _ hu, run_slice_l _ _ _ _ _ hu .i64 (s : Int) (by omega) (by omega), he, hsz]
  simp only [Result.andThen_ok, e, sliced]
theorem addr_zero (A : Option Addr) (c : Nat) : (if c = 0 then A else A.map (·.add (0 * 1))) = A := by
  split
  · rfl
  · cases A with
    | none => rfl
    | some a => simp [Addr.add]
/-- 's[:h]' of ints. -/
theorem zsl_to (A : Option Addr) (n c h : Nat) (j : Int) (hj : j = (h : Int)) (h1 : h ≤ c) (W : World) :
    (Instr.sliceAt 36 (.slice A n c) none (some (.int .i64 j)) none).run Tryd.prog W = .ok (.slice A h c) W := by
  subst hj
  have hu : Tryd.prog.underlying 36 = some (.slice (Tryd.prog.elem 36)) := by kernel_rfl
  have he : Tryd.prog.elem 36 = 3 := by kernel_rfl
  have hsz : (sizeOf 3).run Tryd.prog W = .ok 1 W := by kernel_rfl
  have e : (h : Int).toNat = h := by omega
  rw [run_sliceAt_slice _ _ _ _ _ _ hu, run_slice_h _ _ _ _ _ hu .i64 (h : Int) (by omega) (by omega), he, hsz]
  simp only [Result.andThen_ok, e, sliced, Nat.sub_zero, addr_zero]
/-- A row of one's own, cut to nothing. -/
theorem zown_empty {w : World} {base n c : Nat} {A : Option Addr} {xs : List Value} (h : w.ownsRow base 3 1 (.slice A n c) n xs) : w.ownsRow base 3 1 (.slice A 0 c) 0 [] := by
  refine ⟨rfl, ?_⟩
  rcases h.2 with ⟨h1, h0⟩ | ⟨g, cap, cur, he, h2, h3, h4, h5, h6, h7⟩
  · simp only [Value.slice.injEq] at h1
    obtain ⟨rfl, rfl, rfl⟩ := h1
    exact .inl ⟨rfl, rfl⟩
  · simp only [Value.slice.injEq] at he
    obtain ⟨rfl, -, rfl⟩ := he
    exact .inr ⟨g, c, cur, rfl, h2, h3, Nat.zero_le _, h5, h6, by simp⟩
end Go.Proofs.YtibaaideleinhaaDoor
