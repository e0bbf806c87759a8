/- An argument that is a slice of deeds with a pool, opened; the walk of layer 11's few. -/
import Derived.Test.YtibaaideleinhaaDoorPoolMem
import Derived.Test.YtibaaideleinhaaDoorLaw
import Derived.Deep.Slices
import Derived.Deep.SlicePairs
set_option linter.unusedVariables false
namespace Go.Proofs.YtibaaideleinhaaDoor
open Go.ChangeShapes Go.WideShapes Go.ChangeAt Go.RowKit

/-- A deed with a pool, as plain data. -/
structure Dp where
  kind : Int
  n : Int
  l : List Int
instance : Inhabited Dp := ⟨⟨0, 0, []⟩⟩
structure DpV (w : World) (x : Dp) (A : Option Addr) (c : Nat) : Prop where
  ri : RI w w.heap.size A x.l
  cap : x.l.length ≤ c ∧ c ≤ 9223372036854775807
  nin : InZ x.n
  lin : ∀ z ∈ x.l, InZ z
theorem DpV.up {w w' : World} {x : Dp} {A : Option Addr} {c : Nat} (h : DpV w x A c) (hb : Below w.heap.size w w') : DpV w' x A c := ⟨ri_up h.ri hb, h.cap, h.nin, h.lin⟩
/-- Deeds: the slice value of address A reads as l, all of it below block B. -/
def DpL (w : World) (B : Nat) (A : Option Addr) (l : List Dp) : Prop :=
  0 < l.length → ∃ b off, A = some ⟨b, off, none⟩ ∧ b < B ∧ ∀ i (hi : i < l.length), ∃ pA pc, DpV w l[i] pA pc ∧
    w.cell? ⟨b, off + i * 3, none⟩ = some (.int .i64 l[i].kind) ∧ w.cell? ⟨b, off + i * 3 + 1, none⟩ = some (.int .i64 l[i].n) ∧ w.cell? ⟨b, off + i * 3 + 2, none⟩ = some (.slice pA l[i].l.length pc)
theorem addr_addP (b off k : Nat) : (⟨b, off, none⟩ : Addr).add k = ⟨b, off + k, none⟩ := zadd_at b off k
theorem inz_wf {z : Int} (h : (Lit.int .i64 z).wf = true) : InZ z := by
  simpa [InZ, Lit.wf, IntKind.min, IntKind.max, IntKind.bits, IntKind.signed] using h
section
variable {H : Type} {enc : TypeId × Value → H} {P : Program}
theorem intl_wfP {W : World} {t e : TypeId} {fuel : Nat} {v : Value} {x : DataW H × List MemPlace} (ht : P.underlying t = some (.slice e)) (he : P.underlying e = some (.int .i64)) (hc : P.cellsOf e = 1)
    (hf : DataW.trod enc P W 0 (fun _ => true) true fuel t [v] = some x) :
    ∃ (A : Option Addr) (Z : List Int) (c : Nat), v = .slice A Z.length c ∧ RI W W.heap.size A Z ∧ (Z.length ≤ c ∧ c ≤ 9223372036854775807) ∧ ∀ z ∈ Z, InZ z := by
  rcases open_ints ht he hc hf with ⟨hcs, hx⟩ | ⟨a, len, cap, zs, hcs, _, hl, hm, hz, hx, hcell, hwz⟩
  · simp at hcs
    exact ⟨none, [], 0, hcs, fun h => absurd h (by simp), ⟨Nat.le_refl _, by omega⟩, fun z hz => by cases hz⟩
  · simp at hcs
    simp only [if_true] at hz
    have hlen : (zs.take len).length = len := by rw [List.length_take]; omega
    refine ⟨some a, zs.take len, cap, by rw [hlen]; exact hcs, fun hn => ?_, ⟨by rw [hlen]; exact hl, by unfold maxLen at hm; omega⟩, fun z hz => inz_wf (hwz z (List.mem_of_mem_take hz))⟩
    rw [hlen] at hn
    obtain ⟨b, off, rfl, hcc⟩ := ints_at hcell (by omega)
    have hblk := World.block_lt_of_cell? W _ (hcc 0 (by omega))
    refine ⟨b, off, rfl, hblk, fun k hk => ?_⟩
    rw [hlen] at hk
    rw [hcc k (by omega)]
    simp [List.getD, List.getElem?_eq_getElem (show k < zs.length by omega), List.getElem_take]
theorem open_deedsl {W : World} {fuel : Nat} {t e : TypeId} {f0 f1 f2 : Field} {r : TypeId} {v : Value} {x : DataW H × List MemPlace} (ht : P.underlying t = some (.slice e)) (he : P.underlying e = some (.struct #[f0, f1, f2]))
    (ce : P.cellsOf e = 3) (o0 : f0.offset = 0) (o1 : f1.offset = 1) (o2 : f2.offset = 2)
    (c0 : P.cellsOf f0.type = 1) (c1 : P.cellsOf f1.type = 1) (c2 : P.cellsOf f2.type = 1)
    (k0 : P.underlying f0.type = some (.int .i64)) (k1 : P.underlying f1.type = some (.int .i64)) (k2 : P.underlying f2.type = some (.slice r))
    (hr : P.underlying r = some (.int .i64)) (cr : P.cellsOf r = 1)
    (hf : DataW.trod enc P W 0 (fun _ => true) true fuel t [v] = some x) :
    ∃ (A : Option Addr) (D : List Dp) (c : Nat), v = .slice A D.length c ∧ DpL W W.heap.size A D ∧ D.length ≤ c ∧ c ≤ 9223372036854775807 := by
  rcases Deep.open_slice ht hf with ⟨hcs, hx⟩ | ⟨a, len, cap, m, n, D, Pl', hcs, _, hl, hm, hmm, hx, hel⟩
  · simp at hcs
    exact ⟨none, [], 0, hcs, fun h => absurd h (by simp), Nat.le_refl _, by omega⟩
  · simp at hcs
    have hml : len ≤ m := by rw [hmm]; split <;> omega
    have each : ∀ i, i < len → ∃ z : Dp × (Option Addr × Nat), DpV W z.1 z.2.1 z.2.2 ∧
        W.cell? (a.add (i * 3)) = some (.int .i64 z.1.kind) ∧ W.cell? (a.add (i * 3 + 1)) = some (.int .i64 z.1.n) ∧ W.cell? (a.add (i * 3 + 2)) = some (.slice z.2.1 z.1.l.length z.2.2) := by
      intro i hi
      obtain ⟨cs', h1, h2⟩ := hel i (by omega)
      rw [ce] at h1
      obtain ⟨_, hlen, hcell⟩ := World.cells?_some h1
      obtain ⟨xs, k, hk, hxy, _, hxl, hff⟩ := DataW.trod_struct he h2
      match xs, hxl, cs', hlen with
      | [y0, y1, y2], _, [v0, v1, v2], _ =>
        have g0 := hff 0 f0 rfl
        have g1 := hff 1 f1 rfl
        have g2 := hff 2 f2 rfl
        simp [o0, o1, o2, c0, c1, c2] at g0 g1 g2
        have e0 := hcell 0 (by omega)
        have e1 := hcell 1 (by omega)
        have e2 := hcell 2 (by omega)
        rw [Deep.add_add] at e0 e1 e2
        obtain ⟨z0, hz0, _, w0⟩ := DataW.trod_int k0 g0
        obtain ⟨z1, hz1, _, w1⟩ := DataW.trod_int k1 g1
        obtain ⟨pA, pL, pc, rfl, hp1, hp2, hp3⟩ := intl_wfP k2 hr cr g2
        simp only [List.cons.injEq, and_true] at hz0 hz1
        subst hz0 hz1
        refine ⟨(⟨z0, z1, pL⟩, (pA, pc)), ⟨hp1, hp2, inz_wf w1, hp3⟩, ?_, ?_, ?_⟩
        · simpa using e0
        · simpa using e1
        · simpa using e2
    obtain ⟨z, hz⟩ := Deep.choose_lt each
    refine ⟨some a, (List.range len).map fun i => (z i).1, cap, by simpa using hcs, fun hn => ?_, by simpa using hl, hm⟩
    simp only [List.length_map, List.length_range] at hn
    obtain ⟨b, off, p⟩ := a
    have h0 := (hz 0 (by omega)).2.1
    have e00 : (⟨b, off, p⟩ : Addr).add (0 * 3) = ⟨b, off, p⟩ := by simp [Addr.add]
    rw [e00] at h0
    have hp : p = none := World.cell?_spot h0
    subst hp
    have hblk := World.block_lt_of_cell? W _ h0
    refine ⟨b, off, rfl, hblk, fun k hk => ?_⟩
    simp only [List.length_map, List.length_range] at hk
    have ea := addr_addP b off
    have hc := hz k (by omega)
    simp only [ea] at hc
    have eg : ((List.range len).map fun i => (z i).1)[k]'(by simpa using hk) = (z k).1 := by simp
    rw [eg]
    exact ⟨_, _, hc⟩
end
/-- Few: at most 30, each with 30 numbers at most. -/
def fewP (l : List Dp) : Bool := decide (l.length ≤ 30) && l.all fun x => decide (x.l.length ≤ 30)
theorem fewP_all {l : List Dp} (h : fewP l = true) : l.length ≤ 30 ∧ ∀ i (hi : i < l.length), l[i].l.length ≤ 30 := by
  unfold fewP at h
  simp only [Bool.and_eq_true, decide_eq_true_eq, List.all_eq_true] at h
  exact ⟨h.1, fun i hi => h.2 _ (List.getElem_mem hi)⟩
set_option maxRecDepth 100000 in
set_option maxHeartbeats 1000000 in
theorem fewP_any {w0 w : World} (l : List Dp) (A : Option Addr) (n c : Nat) (hb0 : Below w0.heap.size w0 w) (hD : DpL w0 w0.heap.size A l) (hn : n = l.length) :
    Calls Tryd.prog 8 #[.slice A n c] w fun e w' => e = .returned (.bool (fewP l)) ∧ Below w.heap.size w w' := by
  by_cases h8 : l.length ≤ 30
  · have HE : Hid (fewP l = l.all fun x => decide (x.l.length ≤ 30)) := by show _ = _; unfold fewP; rw [decide_eq_true h8]; rfl
    have g1 : decide (30 < (n : Int)) = false := decide_eq_false (by omega)
    have g2 : decide (30 < n) = false := decide_eq_false (by omega)
    have HN := Lib.hid hn
    have HD := Lib.hid hD
    have HB0 := Lib.hid hb0
    have h8' : n ≤ 30 := by omega
    clear hn hD hb0 h8
    go_enter Tryd.func8, Tryd.ntmps8
    go_wp2
    go_loopw [3] (fun v wr => ∃ k : Nat, v = .int .i64 (k : Int) ∧ k ≤ n ∧ Hid ((∀ i (hi : i < l.length), i < k → l[i].l.length ≤ 30) ∧ Below w.heap.size w wr)) (fun v _ => n - (intOf v).toNat)
    case atStart => exact ⟨0, rfl, by omega, fun i hi h => absurd h (by omega), Below.refl _ _⟩
    case round =>
      obtain ⟨k, rfl, hk, hs⟩ := hrel
      by_cases hkn : k < n
      · have d0 : decide ((k : Int) < (n : Int)) = true := decide_eq_true (by omega)
        have d1 : decide (k < n) = true := decide_eq_true hkn
        have hkl : k < l.length := by rw [← HN.out]; exact hkn
        obtain ⟨b, off, hA, hlt, hc⟩ := HD.out (by omega)
        obtain ⟨pA, pc, hV, -, -, hc2⟩ := hc k hkl
        have hcell : ∀ W, Below w.heap.size w W → W.cell? ⟨b, off + k * 3 + 2, none⟩ = some (.slice pA l[k].l.length pc) := fun W hb => by
          have h1 : Below w0.heap.size w0 W := HB0.out.trans (hb.mono HB0.out.size)
          exact (h1.cell (p := ⟨b, off + k * 3 + 2, none⟩) hlt).trans hc2
        subst hA
        have hC2 := hcell _ hs.out.2
        obtain ⟨p, hp⟩ : ∃ m, m = l[k].l.length := ⟨_, rfl⟩
        have HM : Hid (p = l[k].l.length) := hp
        rw [← hp] at hC2
        have HNo : Hid (¬ (p ≤ 30) → (l.all fun x => decide (x.l.length ≤ 30)) = false) := fun hh => by
          rw [List.all_eq_false]
          refine ⟨l[k], List.getElem_mem _, ?_⟩
          simp only [decide_eq_true_eq]
          omega
        clear hp hcell hc2 hV hc hlt
        by_cases h6 : p ≤ 30
        · have e0 : decide (30 < (p : Int)) = false := decide_eq_false (by omega)
          have e1 : decide (30 < p) = false := decide_eq_false (by omega)
          go_wp2
          refine ⟨⟨k + 1, by go_num, by omega, fun i hi h => ?_, hs.out.2⟩, ?_⟩
          · by_cases hik : i = k
            · subst hik; have := HM.out; omega
            · exact hs.out.1 i hi (by omega)
          · simp [intOf]; omega
        · have e0 : decide (30 < (p : Int)) = true := decide_eq_true (by omega)
          have e1 : decide (30 < p) = true := decide_eq_true (by omega)
          go_wp2
          go_ret
          rw [HE.out, HNo.out (by omega)]
          exact ⟨rfl, hs.out.2⟩
      · have d0 : decide ((k : Int) < (n : Int)) = false := decide_eq_false (by omega)
        have d1 : decide (k < n) = false := decide_eq_false hkn
        go_wp2
        go_ret
        have hall : (l.all fun x => decide (x.l.length ≤ 30)) = true := by
          rw [List.all_eq_true]
          intro x hx
          obtain ⟨i, hi, rfl⟩ := List.mem_iff_getElem.1 hx
          have := hs.out.1 i hi (by have := HN.out; omega)
          simpa using this
        rw [HE.out, hall]
        exact ⟨rfl, hs.out.2⟩
  · have HE : Hid (fewP l = false) := by show _ = _; unfold fewP; rw [decide_eq_false h8]; rfl
    have g1 : decide (30 < (n : Int)) = true := decide_eq_true (by omega)
    have g2 : decide (30 < n) = true := decide_eq_true (by omega)
    clear hD hn h8
    go_enter Tryd.func8, Tryd.ntmps8
    go_wp2
    go_ret
    rw [HE.out]
    exact ⟨rfl, (Below.refl _ _)⟩
set_option maxRecDepth 100000 in
theorem open_dpl {H : Type} {enc : TypeId × Value → H} {W : World} {base : Nat} {v : Value} {d : DataW H} {ps : List MemPlace} (hv : Value.okWide Tryd.prog W .any base 22 v) (h : DataW.Trod enc Tryd.prog W 0 (fun _ => true) true 22 v d ps) :
    ∃ (A : Option Addr) (D : List Dp) (c : Nat), v = .slice A D.length c ∧ DpL W W.heap.size A D ∧ D.length ≤ c ∧ c ≤ 9223372036854775807 := by
  obtain ⟨a0, len, cap, rfl⟩ := okWide_slice Tryd.underlying22 hv
  obtain ⟨fuel, hf⟩ := h
  exact open_deedsl (fuel := fuel) Tryd.underlying22 Tryd.underlying38 (by kernel_rfl) rfl rfl rfl (by kernel_rfl) (by kernel_rfl) (by kernel_rfl) Tryd.underlying3 Tryd.underlying3 Tryd.underlying36 Tryd.underlying3 (by kernel_rfl) (by simpa [Value.cells] using hf)
end Go.Proofs.YtibaaideleinhaaDoor
