/- Lemmas under the proofs of this place: WalDeeds. No statement is proved here. -/
import Derived.Test.YtghenhacndaelaaGreatBs33
import Derived.Test.YtghenhacndaelaaGreatBu11
import Derived.Deep.Slices
set_option linter.unusedVariables false
set_option maxRecDepth 100000
set_option maxHeartbeats 16000000
namespace Go.Proofs.YtghenhacndaelaaGreat
open Go.ChangeShapes Go.WideShapes Go.ChangeAt Go.RowKit
def DL13 (w : World) (B : Nat) (A : Option Addr) (l : List Wx) : Prop :=
 0 < l.length → ∃ b off, A = some ⟨b, off, none⟩ ∧ b < B ∧ ∀ i (hi : i < l.length), ∃ dA dc mA mc, WV w l[i] dA dc mA mc ∧
  w.cell? ⟨b, off + i * 5, none⟩ = some (.int .i64 l[i].kind) ∧ w.cell? ⟨b, off + i * 5 + 1, none⟩ = some (.int .i64 l[i].n) ∧ w.cell? ⟨b, off + i * 5 + 2, none⟩ = some (.int .i64 l[i].m) ∧
  w.cell? ⟨b, off + i * 5 + 3, none⟩ = some (.slice dA l[i].data.length dc) ∧ w.cell? ⟨b, off + i * 5 + 4, none⟩ = some (.slice mA l[i].masks.length mc)
instance : Inhabited Wx := ⟨⟨0, 0, 0, [], []⟩⟩
section
variable {H : Type} {enc : TypeId × Value → H} {P : Program}
theorem open_deedl13 {W : World} {fuel : Nat} {t e : TypeId} {f0 f1 f2 f3 f4 : Field} {q r : TypeId} {v : Value} {x : DataW H × List MemPlace} (ht : P.underlying t = some (.slice e)) (he : P.underlying e = some (.struct #[f0, f1, f2, f3, f4]))
  (ce : P.cellsOf e = 5) (o0 : f0.offset = 0) (o1 : f1.offset = 1) (o2 : f2.offset = 2) (o3 : f3.offset = 3) (o4 : f4.offset = 4)
  (c0 : P.cellsOf f0.type = 1) (c1 : P.cellsOf f1.type = 1) (c2 : P.cellsOf f2.type = 1) (c3 : P.cellsOf f3.type = 1) (c4 : P.cellsOf f4.type = 1)
  (k0 : P.underlying f0.type = some (.int .i64)) (k1 : P.underlying f1.type = some (.int .i64)) (k2 : P.underlying f2.type = some (.int .i64)) (k3 : P.underlying f3.type = some (.slice q)) (k4 : P.underlying f4.type = some (.slice r))
  (hq : P.underlying q = some (.int .u8)) (cq : P.cellsOf q = 1) (hr : P.underlying r = some (.int .i64)) (cr : P.cellsOf r = 1)
  (hf : DataW.trod enc P W 0 (fun _ => true) true fuel t [v] = some x) :
  ∃ (A : Option Addr) (D : List Wx) (c : Nat), v = .slice A D.length c ∧ DL13 W W.heap.size A D ∧ D.length ≤ c ∧ c ≤ 9223372036854775807 := by
 rcases Deep.open_slice ht hf with ⟨hcs, hx⟩ | ⟨a, len, cap, m, n, D, Pl, hcs, _, hl, hm, hmm, hx, hel⟩
 ·simp at hcs
  exact ⟨none, [], 0, hcs, fun h => absurd h (by simp), Nat.le_refl _, by omega⟩
 ·simp at hcs
  have hml : len ≤ m := by rw [hmm]; split <;> omega
  have each : ∀ i, i < len → ∃ z : Wx × (Option Addr × Nat) × (Option Addr × Nat), WV W z.1 z.2.1.1 z.2.1.2 z.2.2.1 z.2.2.2 ∧
    W.cell? (a.add (i * 5)) = some (.int .i64 z.1.kind) ∧ W.cell? (a.add (i * 5 + 1)) = some (.int .i64 z.1.n) ∧ W.cell? (a.add (i * 5 + 2)) = some (.int .i64 z.1.m) ∧
    W.cell? (a.add (i * 5 + 3)) = some (.slice z.2.1.1 z.1.data.length z.2.1.2) ∧ W.cell? (a.add (i * 5 + 4)) = some (.slice z.2.2.1 z.1.masks.length z.2.2.2) := by
   intro i hi
   obtain ⟨cs', h1, h2⟩ := hel i (by omega)
   rw [ce] at h1
   obtain ⟨_, hlen, hcell⟩ := World.cells?_some h1
   obtain ⟨xs, k, hk, hxy, _, hxl, hff⟩ := DataW.trod_struct he h2
   match xs, hxl, cs', hlen with
   | [y0, y1, y2, y3, y4], _, [v0, v1, v2, v3, v4], _ =>
    have g0 := hff 0 f0 rfl
    have g1 := hff 1 f1 rfl
    have g2 := hff 2 f2 rfl
    have g3 := hff 3 f3 rfl
    have g4 := hff 4 f4 rfl
    simp [o0, o1, o2, o3, o4, c0, c1, c2, c3, c4] at g0 g1 g2 g3 g4
    have e0 := hcell 0 (by omega)
    have e1 := hcell 1 (by omega)
    have e2 := hcell 2 (by omega)
    have e3 := hcell 3 (by omega)
    have e4 := hcell 4 (by omega)
    rw [Deep.add_add] at e0 e1 e2 e3 e4
    obtain ⟨z0, hz0, _, w0⟩ := DataW.trod_int k0 g0
    obtain ⟨z1, hz1, _, w1⟩ := DataW.trod_int k1 g1
    obtain ⟨z2, hz2, _, w2⟩ := DataW.trod_int k2 g2
    obtain ⟨dA, dL, dc, rfl, hd1, hd2, hd3⟩ := bytes_of k3 hq cq g3
    obtain ⟨mA, mL, mc, rfl, hm1⟩ := intl_of k4 hr cr g4
    simp only [List.cons.injEq, and_true] at hz0 hz1 hz2
    subst hz0
    subst hz1
    subst hz2
    refine ⟨(⟨z0, z1, z2, dL, mL⟩, (dA, dc), (mA, mc)), ⟨hd1, hm1, hd2, hd3, ini_wf6 w1, ini_wf6 w2⟩, ?_, ?_, ?_, ?_, ?_⟩
    ·simpa using e0
    ·simpa using e1
    ·simpa using e2
    ·simpa using e3
    ·simpa using e4
  obtain ⟨z, hz⟩ := Deep.choose_lt each
  refine ⟨some a, (List.range len).map fun i => (z i).1, cap, by simpa using hcs, fun hn => ?_, by simpa using hl, hm⟩
  simp only [List.length_map, List.length_range] at hn
  obtain ⟨b, off, p⟩ := a
  have h0 := (hz 0 (by omega)).2.1
  have e00 : (⟨b, off, p⟩ : Addr).add (0 * 5) = ⟨b, off, p⟩ := by simp [Addr.add]
  rw [e00] at h0
  have hp : p = none := World.cell?_spot h0
  subst hp
  have hblk := World.block_lt_of_cell? W _ h0
  refine ⟨b, off, rfl, hblk, fun k hk => ?_⟩
  simp only [List.length_map, List.length_range] at hk
  have ea := addr_add6 b off
  have hc := hz k (by omega)
  simp only [ea] at hc
  have eg : ((List.range len).map fun i => (z i).1)[k]'(by simpa using hk) = (z k).1 := by simp
  rw [eg]
  exact ⟨_, _, _, _, hc⟩
end
def fewW (l : List Wx) : Bool := decide (l.length ≤ 20) && l.all fun x => decide (x.data.length ≤ 700)
theorem few13_any {w0 w : World} (l : List Wx) (A : Option Addr) (n c : Nat) (hb0 : Below w0.heap.size w0 w) (hD : DL13 w0 w0.heap.size A l) (hn : n = l.length) :
  Calls Tryz.prog 5 #[.slice A n c] w fun e w' => e = .returned (.bool (fewW l)) ∧ Below w.heap.size w w' := by
 by_cases h40 : l.length ≤ 20
 ·have HE : Hid (fewW l = l.all fun x => decide (x.data.length ≤ 700)) := by show _ = _; unfold fewW; rw [decide_eq_true h40]; rfl
  have g1 : decide (20 < (n : Int)) = false := decide_eq_false (by omega)
  have g2 : decide (20 < n) = false := decide_eq_false (by omega)
  have HN := Lib.hid hn
  have HD := Lib.hid hD
  have HB0 := Lib.hid hb0
  have h40' : n ≤ 20 := by omega
  clear hn hD hb0 h40
  go_enter Tryz.func5, Tryz.ntmps5
  go_wp2
  go_loopw [3] (fun v wr => ∃ k : Nat, v = .int .i64 (k : Int) ∧ k ≤ n ∧ Hid ((∀ i (hi : i < l.length), i < k → l[i].data.length ≤ 700) ∧ Below w.heap.size w wr)) (fun v _ => n - (intOf v).toNat)
  case atStart => exact ⟨0, rfl, by omega, fun i hi h => absurd h (by omega), Below.refl _ _⟩
  case round =>
   obtain ⟨k, rfl, hk, hs⟩ := hrel
   by_cases hkn : k < n
   ·have d0 : decide ((k : Int) < (n : Int)) = true := decide_eq_true (by omega)
    have d1 : decide (k < n) = true := decide_eq_true hkn
    have hkl : k < l.length := by rw [← HN.out]; exact hkn
    obtain ⟨b, off, hA, hlt, hc⟩ := HD.out (by omega)
    obtain ⟨dA, dc, mA, mc, hV, -, -, -, hc2, -⟩ := hc k hkl
    have hcell : ∀ W, Below w.heap.size w W → W.cell? ⟨b, off + k * 5 + 3, none⟩ = some (.slice dA l[k].data.length dc) := fun W hb => by
     have h1 : Below w0.heap.size w0 W := HB0.out.trans (hb.mono HB0.out.size)
     exact (h1.cell (p := ⟨b, off + k * 5 + 3, none⟩) hlt).trans hc2
    subst hA
    have hC := hcell _ hs.out.2
    obtain ⟨m, hm⟩ : ∃ m, m = l[k].data.length := ⟨_, rfl⟩
    have HM := Lib.hid hm
    have HKL : Hid (k < l.length ∧ True) := ⟨hkl, trivial⟩
    rw [← hm] at hC
    clear hm hcell hc2 hV hc hlt
    by_cases h6 : m ≤ 700
    ·have e0 : decide (700 < (m : Int)) = false := decide_eq_false (by omega)
     have e1 : decide (700 < m) = false := decide_eq_false (by omega)
     go_wp2
     refine ⟨⟨k + 1, by go_num, by omega, fun i hi h => ?_, hs.out.2⟩, ?_⟩
     ·by_cases hik : i = k
      ·subst hik; have := HM.out; omega
      ·exact hs.out.1 i hi (by omega)
     ·simp [intOf]; omega
    ·have e0 : decide (700 < (m : Int)) = true := decide_eq_true (by omega)
     have e1 : decide (700 < m) = true := decide_eq_true (by omega)
     go_wp2
     go_ret
     have hall : (l.all fun x => decide (x.data.length ≤ 700)) = false := by
      rw [List.all_eq_false]
      exact ⟨l[k]'HKL.out.1, List.getElem_mem _, by have := HM.out; simp; omega⟩
     rw [HE.out, hall]
     exact ⟨rfl, hs.out.2⟩
   ·have d0 : decide ((k : Int) < (n : Int)) = false := decide_eq_false (by omega)
    have d1 : decide (k < n) = false := decide_eq_false hkn
    go_wp2
    go_ret
    have hall : (l.all fun x => decide (x.data.length ≤ 700)) = true := by
     rw [List.all_eq_true]
     intro x hx
     obtain ⟨i, hi, rfl⟩ := List.mem_iff_getElem.1 hx
     have := hs.out.1 i hi (by have := HN.out; omega)
     simpa using this
    rw [HE.out, hall]
    exact ⟨rfl, hs.out.2⟩
 ·have HE : Hid (fewW l = false) := by show _ = _; unfold fewW; rw [decide_eq_false h40]; rfl
  have g1 : decide (20 < (n : Int)) = true := decide_eq_true (by omega)
  have g2 : decide (20 < n) = true := decide_eq_true (by omega)
  clear hD hn h40
  go_enter Tryz.func5, Tryz.ntmps5
  go_wp2
  go_ret
  rw [HE.out]
  exact ⟨rfl, (Below.refl _ _)⟩
end Go.Proofs.YtghenhacndaelaaGreat
