/- Slices of texts in memory: what they read as, rows of one's own, what is appended. Plain lemmas; no statement is proved here. -/
import Derived.Test.YtmmilgjdngdnfaaDoorMem
import Derived.Test.YtmmilgjdngdnfaaDoorGuard
import Derived.Test.YtmmilgjdngdnfaaDoorIdsPlain
import Derived.Deep.QuietTactic
import Derived.BigQuiet
import Derived.IntWalk
set_option linter.unusedVariables false
namespace Go.Proofs.YtmmilgjdngdnfaaDoor
open Go.RowKit

/-- Texts as cells. -/
def scells (Ls : List Bs) : List Value := Ls.map fun L => .string (text L)
theorem scells_length (Ls : List Bs) : (scells Ls).length = Ls.length := by simp [scells]
theorem scells_append (Ls Ms : List Bs) : scells (Ls ++ Ms) = scells Ls ++ scells Ms := by simp [scells]
theorem scells_take (Ls : List Bs) (k : Nat) : (scells Ls).take k = scells (Ls.take k) := by simp [scells]
theorem scells_drop (Ls : List Bs) (k : Nat) : (scells Ls).drop k = scells (Ls.drop k) := by simp [scells]
theorem scells_one (Ls : List Bs) : ∀ u ∈ scells Ls, u.oneCell' = true := by
  intro u hu
  simp only [scells, List.mem_map] at hu
  obtain ⟨b, _, rfl⟩ := hu
  rfl
theorem scells_get (Ls : List Bs) (k : Nat) (h : k < Ls.length) : (scells Ls)[k]? = some (.string (text (Ls.getD k []))) := by
  simp [scells, List.getD, List.getElem?_eq_getElem h]
/-- Texts: the slice value of address A reads as Ls, and lies below block B. -/
def SS (w : World) (B : Nat) (A : Option Addr) (Ls : List Bs) : Prop := Reads w B 1 A Ls.length (scells Ls)
theorem SS.at_ {w : World} {B : Nat} {A : Option Addr} {Ls : List Bs} (h : SS w B A Ls) (hn : 0 < Ls.length) : ∃ b off, A = some ⟨b, off, none⟩ ∧ b < B ∧ ∀ k, k < Ls.length → w.cell? ⟨b, off + k, none⟩ = some (.string (text (Ls.getD k []))) := by
  obtain ⟨ad, e, hb, hc⟩ := h.2 hn
  have h0 := hc 0 _ (scells_get Ls 0 hn)
  obtain ⟨b, off, p⟩ := ad
  have e0 : (⟨b, off, p⟩ : Addr).add 0 = ⟨b, off, p⟩ := by simp [Addr.add]
  rw [e0] at h0
  have hp : p = none := World.cell?_spot h0
  subst hp
  refine ⟨b, off, e, hb, fun k hk => ?_⟩
  have := hc k _ (scells_get Ls k hk)
  have ea : (⟨b, off, none⟩ : Addr).add k = ⟨b, off + k, none⟩ := by unfold Addr.add; split <;> simp_all
  rwa [ea] at this
theorem SS.below {w w' : World} {B : Nat} {A : Option Addr} {Ls : List Bs} (h : SS w B A Ls) (hb : Below B w w') : SS w' B A Ls := Reads.below h hb
theorem SS.more {w : World} {B B' : Nat} {A : Option Addr} {Ls : List Bs} (h : SS w B A Ls) (hB : B ≤ B') : SS w B' A Ls := Reads.more h hB
theorem SS.nil (w : World) (B : Nat) (A : Option Addr) : SS w B A [] := ⟨by simp [scells], fun h => by simp at h⟩
theorem SS.take {w : World} {B : Nat} {A : Option Addr} {Ls : List Bs} (h : SS w B A Ls) (k : Nat) (hk : k ≤ Ls.length) : SS w B A (Ls.take k) := by
  refine ⟨by rw [scells_length]; simp, fun h0 => ?_⟩
  obtain ⟨ad, e, hb', hcc⟩ := h.2 (by rw [List.length_take] at h0; omega)
  refine ⟨ad, e, hb', fun j u hu => hcc j u ?_⟩
  rw [← scells_take, List.getElem?_take] at hu
  split at hu
  · exact hu
  · cases hu
theorem SS.cut {w : World} {B : Nat} {A : Option Addr} {Ls : List Bs} (h : SS w B A Ls) {k c : Nat} (hk : k ≤ Ls.length) (hc : Ls.length ≤ c) : SS w B (if c = k then A else A.map (·.add (k * 1))) (Ls.drop k) := by
  have h1 := Reads.cut h hk hc
  unfold SS
  rw [List.length_drop, ← scells_drop]
  simpa using h1
theorem SS.lt {w : World} {B : Nat} {A : Option Addr} {Ls : List Bs} (h : SS w B A Ls) : SS w w.heap.size A Ls := by
  refine ⟨h.1, fun hn => ?_⟩
  obtain ⟨ad, e, hb, hc⟩ := h.2 hn
  refine ⟨ad, e, ?_, hc⟩
  have h0 := hc 0 _ (scells_get Ls 0 hn)
  have := World.block_lt_of_cell? w _ h0
  rwa [block_of_add] at this
theorem own_ss {w : World} {base : Nat} {A : Option Addr} {Ls : List Bs} {c : Nat} (h : w.ownsRow base 9 1 (.slice A Ls.length c) Ls.length (scells Ls)) : SS w w.heap.size A Ls := Reads.of_own h
theorem sown_form {w : World} {base : Nat} {v : Value} {n : Nat} {xs : List Value} (h : w.ownsRow base 9 1 v n xs) : ∃ A c, v = .slice A n c := by
  rcases h.2 with ⟨rfl, rfl⟩ | ⟨g, cap, cur, rfl, _⟩
  · exact ⟨none, 0, rfl⟩
  · exact ⟨_, _, rfl⟩
theorem sown_kept {w w' : World} {base n : Nat} {v : Value} {xs : List Value} (h : w.ownsRow base 9 1 v n xs) (hb : Below w.heap.size w w') : w'.ownsRow base 9 1 v n xs :=
  World.ownsRow.kept h (row := none) ⟨hb.os, hb.tape, hb.output, hb.size, fun i hi _ => hb.block i hi⟩ (Classical.em _)
theorem Tryd.infoStr : (Tryd.prog.info? 9).map (fun i => (i.zero, i.size, i.bytes)) = some (some (.string ⟨#[]⟩), 1, 16) := by kernel_rfl
/-- A call that gives texts. -/
def GivesStrs (Ls : List Bs) (w : World) (e : Ending) (w' : World) : Prop := ∃ A c, e = .returned (.slice A Ls.length c) ∧ SS w' w'.heap.size A Ls ∧ Ls.length ≤ c ∧ c ≤ 9223372036854775807 ∧ Below w.heap.size w w'
theorem sown_cap {w : World} {base n : Nat} {A : Option Addr} {c : Nat} {xs : List Value} (h : w.ownsRow base 9 1 (.slice A n c) n xs) : n ≤ c ∧ c ≤ 9223372036854775807 := by
  rcases h.2 with ⟨h', h0⟩ | ⟨g, cap, cur, h', _, _, hn, hm, _⟩
  · simp only [Value.slice.injEq] at h'
    omega
  · simp only [Value.slice.injEq] at h'
    have hm' : cap ≤ 9223372036854775807 := hm
    omega
theorem GivesStrs.own {Ls : List Bs} {w w' : World} {v : Value} {base : Nat} (h : w'.ownsRow base 9 1 v Ls.length (scells Ls)) (hb : Below w.heap.size w w') : GivesStrs Ls w (.returned v) w' := by
  obtain ⟨A, c, rfl⟩ := sown_form h
  obtain ⟨h1, h2⟩ := sown_cap h
  exact ⟨A, c, rfl, own_ss h, h1, h2, hb⟩
theorem text_size (L : Bs) : (text L).size = L.length := by
  show L.toArray.size = _
  simp
theorem text_less (L M : Bs) : Op.bytesLess (text L).toList (text M).toList = Op.bytesLess L M := by rw [text_toList, text_toList]
theorem sslice_front (A : Option Addr) (n c k : Nat) (W : World) (hk : k ≤ c) : (Instr.sliceAt 22 (.slice A n c) none (some (.int .i64 (k : Int))) none).run Tryd.prog W = .ok (.slice A k c) W := by
  have hu : Tryd.prog.underlying 22 = some (.slice (Tryd.prog.elem 22)) := by kernel_rfl
  have he : Tryd.prog.elem 22 = 9 := by kernel_rfl
  have hs : (sizeOf 9).run Tryd.prog W = .ok 1 W := by kernel_rfl
  have e : (k : Int).toNat = k := by omega
  have e0 : Option.map (fun x : Addr => x.add (0 * 1)) A = A := by
    rcases A with _ | x
    · rfl
    · simp [Addr.add]
  rw [run_sliceAt_slice _ _ _ _ _ _ hu, run_slice_h _ _ _ _ _ hu .i64 (k : Int) (by omega) (by omega), he, hs]
  simp only [Result.andThen_ok, e, sliced, e0]
  simp
theorem sslice_back (A : Option Addr) (n c k : Nat) (W : World) (hk : k ≤ n) : (Instr.sliceAt 22 (.slice A n c) (some (.int .i64 (k : Int))) none none).run Tryd.prog W = .ok (.slice (if c = k then A else A.map (fun x => x.add (k * 1))) (n - k) (c - k)) W := by
  have hu : Tryd.prog.underlying 22 = some (.slice (Tryd.prog.elem 22)) := by kernel_rfl
  have he : Tryd.prog.elem 22 = 9 := by kernel_rfl
  have hs : (sizeOf 9).run Tryd.prog W = .ok 1 W := by kernel_rfl
  have e : (k : Int).toNat = k := by omega
  rw [run_sliceAt_slice _ _ _ _ _ _ hu, run_slice_l _ _ _ _ _ hu .i64 (k : Int) (by omega) (by omega), he, hs]
  simp only [Result.andThen_ok, e, sliced]

end Go.Proofs.YtmmilgjdngdnfaaDoor
