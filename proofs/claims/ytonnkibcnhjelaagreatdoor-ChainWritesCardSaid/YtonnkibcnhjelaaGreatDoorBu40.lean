/- Lemmas under the proofs of this place: DiskDoesM, ChainText. No statement is proved here. -/
import Derived.Test.YtonnkibcnhjelaaGreatDoorBu39
import Derived.Test.YtonnkibcnhjelaaGreatDoorBu08
import Derived.Test.YtonnkibcnhjelaaGreatDoorBu20
section
set_option linter.unusedVariables false
namespace Go.Proofs.YtonnkibcnhjelaaGreatDoor
open Go.ChangeShapes Go.WideShapes Go.ChangeAt Go.RowKit
theorem deed_load (d : Dk) : d.deed.1.load = d.load := by
  unfold Dk.deed
  split
  · rfl
  · split
    · rfl
    · rfl
theorem step_load (d : Dk) (x : Dd) : (stepD d x).load ≤ d.load + 2 := by
  unfold stepD Dk.step
  split
  · exact Nat.le_succ_of_le (read_load d x.n)
  split
  · unfold Dk.write
    split
    · exact Nat.le_add_right _ _
    split
    · exact Nat.le_add_right _ _
    split
    · exact Nat.le_add_right _ _
    have h := deed_load { d with waits := d.waits ++ [(x.n.toNat, dataL x)] }
    have h2 : ({ d with waits := d.waits ++ [(x.n.toNat, dataL x)] } : Dk).load = d.load + 1 := by unfold Dk.load; simp; omega
    split
    · rename_i e he
      rw [he] at h
      show e.load ≤ _
      have h' : e.load = _ := h
      omega
    · rename_i e he
      rw [he] at h
      have h' : e.load = _ := h
      show e.reads + (e.writes + 1) + e.flushes + e.waits.length ≤ _
      unfold Dk.load at h' h2 ⊢
      omega
  split
  · unfold Dk.flush
    split
    · exact Nat.le_add_right _ _
    have h := deed_load d
    split
    · rename_i e he
      rw [he] at h
      have h' : e.load = _ := h
      show e.load ≤ _
      omega
    · rename_i e he
      rw [he] at h
      have h' : e.load = _ := h
      show e.reads + e.writes + (e.flushes + 1) + 0 ≤ _
      unfold Dk.load at h' ⊢
      omega
  split
  · unfold Dk.stop
    split
    · exact Nat.le_add_right _ _
    · exact Nat.le_add_right _ _
  split
  · show d.reads + d.writes + d.flushes + 0 ≤ _
    unfold Dk.load
    omega
  · exact Nat.le_add_right _ _
theorem blank_load (m : Nat) : (Dk.blank m).load = 0 := rfl
theorem Two.gives {D : Dk} {w0 w w1 w2 : World} {g q : Nat} {F G B : Nat → Prop} (hb : Below w0.heap.size w0 w) (hp : GivesDisk D w w1 g F) (hr : GivesRef D w1 w2 q G B) : Two [] w0 w2 g F D q G B D := by
  have h1 := Has.gives hb hp
  have hs := h1.below.size
  refine ⟨h1.more hr.2.1, hr.1, fun k hk => ?_, fun k hk hg => ?_, fun k hk hg => ?_, fun x hx => by cases hx⟩
  · have := hr.2.2.1 k hk; omega
  · have := hr.2.2.1 k hg; have := h1.flt k hk; omega
  · have := hr.2.2.2 k hg; have := h1.flt k hk; omega
theorem fewL_all {l : List Dd} (h : fewL l = true) : l.length ≤ 40 ∧ ∀ i (hi : i < l.length), l[i].data.length ≤ 600 := by
  unfold fewL at h
  simp only [Bool.and_eq_true, decide_eq_true_eq, List.all_eq_true] at h
  exact ⟨h.1, fun i hi => h.2 _ (List.getElem_mem hi)⟩
theorem Tryz.agg36 (w : World) : (isAgg 45).run Tryz.prog w = .ok true w := by kernel_rfl
theorem Tryz.size36 (w : World) : (sizeOf 45).run Tryz.prog w = .ok 5 w := by kernel_rfl
theorem Tryz.rNotNil (g : Nat) (w : World) : Sem.run Tryz.prog (binOp BinOp.neq 28 (Value.pointer (some ⟨g, 0, none⟩)) (Value.pointer none)) w = Result.ok (Value.bool true) w := by kernel_rfl
theorem Tryz.cells36 : Tryz.prog.cellsOf 45 = 5 := by kernel_rfl
theorem Tryz.cells4 : Tryz.prog.cellsOf 4 = 1 := by kernel_rfl
theorem Tryz.cells34 : Tryz.prog.cellsOf 38 = 1 := by kernel_rfl
set_option maxRecDepth 100000 in
theorem open_dl {H : Type} {enc : TypeId × Value → H} {W : World} {base : Nat} {v : Value} {d : DataW H} {ps : List MemPlace} (hv : Value.okWide Tryz.prog W .any base 23 v) (h : DataW.Trod enc Tryz.prog W 0 (fun _ => true) true 23 v d ps) :
    ∃ (A : Option Addr) (D : List Dd) (c : Nat), v = .slice A D.length c ∧ DL W W.heap.size A D ∧ D.length ≤ c ∧ c ≤ 9223372036854775807 := by
  obtain ⟨a0, len, cap, rfl⟩ := okWide_slice Tryz.underlying23 hv
  obtain ⟨fuel, hf⟩ := h
  exact open_deedl (fuel := fuel) Tryz.underlying23 Tryz.underlying45 Tryz.cells36 rfl rfl rfl rfl rfl Tryz.cells3 Tryz.cells3 Tryz.cells33 Tryz.cells4 Tryz.cells34 Tryz.underlying3 Tryz.underlying3 Tryz.underlying39 Tryz.underlying4 Tryz.underlying38 Tryz.underlying5 Tryz.cells5 Tryz.underlying3 Tryz.cells3 (by simpa [Value.cells] using hf)
end Go.Proofs.YtonnkibcnhjelaaGreatDoor
end
section
set_option linter.unusedVariables false
namespace Go.Proofs.YtonnkibcnhjelaaGreatDoor
open Go.ChangeShapes Go.WideShapes Go.ChangeAt Go.RowKit
structure Tx where
  owner : Int
  places : List Int
  data : List UInt8
instance : Inhabited Tx := ⟨⟨0, [], []⟩⟩
structure TV (w : World) (x : Tx) (pA : Option Addr) (pc : Nat) (dA : Option Addr) (dc : Nat) : Prop where
  ri : RI w w.heap.size pA x.places
  rb : RB w w.heap.size dA x.data
  plen : x.places.length ≤ pc ∧ pc ≤ 9223372036854775807
  dlen : x.data.length ≤ dc ∧ dc ≤ 9223372036854775807
  oin : InI x.owner
  pin : ∀ p ∈ x.places, InI p
theorem ri_up10 {w w' : World} {A : Option Addr} {Z : List Int} (h : RI w w.heap.size A Z) (hb : Below w.heap.size w w') : RI w' w'.heap.size A Z := fun hn => by
  obtain ⟨b, off, e, hlt, hc⟩ := (h.below hb) hn
  exact ⟨b, off, e, Nat.lt_of_lt_of_le hlt hb.size, hc⟩
theorem TV.up {w w' : World} {x : Tx} {pA dA : Option Addr} {pc dc : Nat} (h : TV w x pA pc dA dc) (hb : Below w.heap.size w w') : TV w' x pA pc dA dc := ⟨ri_up10 h.ri hb, rb_up7 h.rb hb, h.plen, h.dlen, h.oin, h.pin⟩
def TL (w : World) (B : Nat) (A : Option Addr) (l : List Tx) : Prop :=
  0 < l.length → ∃ b off, A = some ⟨b, off, none⟩ ∧ b < B ∧ ∀ i (hi : i < l.length), ∃ pA pc dA dc, TV w l[i] pA pc dA dc ∧
    w.cell? ⟨b, off + i * 3, none⟩ = some (.int .i64 l[i].owner) ∧ w.cell? ⟨b, off + i * 3 + 1, none⟩ = some (.slice pA l[i].places.length pc) ∧ w.cell? ⟨b, off + i * 3 + 2, none⟩ = some (.slice dA l[i].data.length dc)
section
variable {H : Type} {enc : TypeId × Value → H} {P : Program}
theorem intl_wf_of {W : World} {t e : TypeId} {fuel : Nat} {v : Value} {x : DataW H × List MemPlace} (ht : P.underlying t = some (.slice e)) (he : P.underlying e = some (.int .i64)) (hc : P.cellsOf e = 1)
    (hf : DataW.trod enc P W 0 (fun _ => true) true fuel t [v] = some x) :
    ∃ (A : Option Addr) (Z : List Int) (c : Nat), v = .slice A Z.length c ∧ RI W W.heap.size A Z ∧ (Z.length ≤ c ∧ c ≤ 9223372036854775807) ∧ ∀ z ∈ Z, InI z := by
  rcases open_ints ht he hc hf with ⟨hcs, hx⟩ | ⟨a, len, cap, zs, hcs, _, hl, hm, hz, hx, hcell, hwz⟩
  · simp at hcs
    exact ⟨none, [], 0, hcs, fun h => absurd h (by simp), ⟨Nat.le_refl _, by omega⟩, fun z hz => by cases hz⟩
  · simp at hcs
    simp only [if_true] at hz
    have hlen : (zs.take len).length = len := by rw [List.length_take]; omega
    refine ⟨some a, zs.take len, cap, by rw [hlen]; exact hcs, fun hn => ?_, ⟨by rw [hlen]; exact hl, by unfold maxLen at hm; omega⟩, fun z hz => ini_wf6 (hwz z (List.mem_of_mem_take hz))⟩
    rw [hlen] at hn
    obtain ⟨b, off, rfl, hcc⟩ := ints_at hcell (by omega)
    have hblk := World.block_lt_of_cell? W _ (hcc 0 (by omega))
    refine ⟨b, off, rfl, hblk, fun k hk => ?_⟩
    rw [hlen] at hk
    rw [hcc k (by omega)]
    simp [List.getD, List.getElem?_eq_getElem (show k < zs.length by omega), List.getElem_take]
theorem open_textl {W : World} {fuel : Nat} {t e : TypeId} {f0 f1 f2 : Field} {q r : TypeId} {v : Value} {x : DataW H × List MemPlace} (ht : P.underlying t = some (.slice e)) (he : P.underlying e = some (.struct #[f0, f1, f2]))
    (ce : P.cellsOf e = 3) (o0 : f0.offset = 0) (o1 : f1.offset = 1) (o2 : f2.offset = 2)
    (c0 : P.cellsOf f0.type = 1) (c1 : P.cellsOf f1.type = 1) (c2 : P.cellsOf f2.type = 1)
    (k0 : P.underlying f0.type = some (.int .i64)) (k1 : P.underlying f1.type = some (.slice r)) (k2 : P.underlying f2.type = some (.slice q))
    (hq : P.underlying q = some (.int .u8)) (cq : P.cellsOf q = 1) (hr : P.underlying r = some (.int .i64)) (cr : P.cellsOf r = 1)
    (hf : DataW.trod enc P W 0 (fun _ => true) true fuel t [v] = some x) :
    ∃ (A : Option Addr) (D : List Tx) (c : Nat), v = .slice A D.length c ∧ TL W W.heap.size A D ∧ D.length ≤ c ∧ c ≤ 9223372036854775807 := by
  rcases Deep.open_slice ht hf with ⟨hcs, hx⟩ | ⟨a, len, cap, m, n, D, Pl, hcs, _, hl, hm, hmm, hx, hel⟩
  · simp at hcs
    exact ⟨none, [], 0, hcs, fun h => absurd h (by simp), Nat.le_refl _, by omega⟩
  · simp at hcs
    have hml : len ≤ m := by rw [hmm]; split <;> omega
    have each : ∀ i, i < len → ∃ z : Tx × (Option Addr × Nat) × (Option Addr × Nat), TV W z.1 z.2.1.1 z.2.1.2 z.2.2.1 z.2.2.2 ∧
        W.cell? (a.add (i * 3)) = some (.int .i64 z.1.owner) ∧ W.cell? (a.add (i * 3 + 1)) = some (.slice z.2.1.1 z.1.places.length z.2.1.2) ∧ W.cell? (a.add (i * 3 + 2)) = some (.slice z.2.2.1 z.1.data.length z.2.2.2) := by
      intro i hi
      obtain ⟨cs', h1, h2⟩ := hel i (by omega)
      rw [ce] at h1
      obtain ⟨_, hlen, hcell⟩ := World.cells?_some h1
      obtain ⟨xs, k, hk, hxy, _, hxl, hff⟩ := DataW.trod_struct he h2
      match xs, hxl, cs', hlen with
      | [y0, y1, y2], _, [v0, v1, v2], _ =>
        have g0 := hff 0 f0 rfl
        have g1 := hff 1 f1 rfl
        have g2 := hff 2 f2 rfl
        simp [o0, o1, o2, c0, c1, c2] at g0 g1 g2
        have e0 := hcell 0 (by omega)
        have e1 := hcell 1 (by omega)
        have e2 := hcell 2 (by omega)
        rw [Deep.add_add] at e0 e1 e2
        obtain ⟨z0, hz0, _, w0⟩ := DataW.trod_int k0 g0
        obtain ⟨pA, pL, pc, rfl, hp1, hp2, hp3⟩ := intl_wf_of k1 hr cr g1
        obtain ⟨dA, dL, dc, rfl, hd1, hd2, hd3⟩ := bytes_of k2 hq cq g2
        simp only [List.cons.injEq, and_true] at hz0
        subst hz0
        refine ⟨(⟨z0, pL, dL⟩, (pA, pc), (dA, dc)), ⟨hp1, hd1, hp2, ⟨hd2, by unfold maxLen at hd3; omega⟩, ini_wf6 w0, hp3⟩, ?_, ?_, ?_⟩
        · simpa using e0
        · simpa using e1
        · simpa using e2
    obtain ⟨z, hz⟩ := Deep.choose_lt each
    refine ⟨some a, (List.range len).map fun i => (z i).1, cap, by simpa using hcs, fun hn => ?_, by simpa using hl, hm⟩
    simp only [List.length_map, List.length_range] at hn
    obtain ⟨b, off, p⟩ := a
    have h0 := (hz 0 (by omega)).2.1
    have e00 : (⟨b, off, p⟩ : Addr).add (0 * 3) = ⟨b, off, p⟩ := by simp [Addr.add]
    rw [e00] at h0
    have hp : p = none := World.cell?_spot h0
    subst hp
    have hblk := World.block_lt_of_cell? W _ h0
    refine ⟨b, off, rfl, hblk, fun k hk => ?_⟩
    simp only [List.length_map, List.length_range] at hk
    have ea := addr_add6 b off
    have hc := hz k (by omega)
    simp only [ea] at hc
    have eg : ((List.range len).map fun i => (z i).1)[k]'(by simpa using hk) = (z k).1 := by simp
    rw [eg]
    exact ⟨_, _, _, _, hc⟩
end
def fewT (l : List Tx) : Bool := decide (l.length ≤ 8) && l.all fun x => decide (x.places.length ≤ 12) && decide (x.data.length ≤ 1500)
theorem fewT_all {l : List Tx} (h : fewT l = true) : l.length ≤ 8 ∧ ∀ i (hi : i < l.length), l[i].places.length ≤ 12 ∧ l[i].data.length ≤ 1500 := by
  unfold fewT at h
  simp only [Bool.and_eq_true, decide_eq_true_eq, List.all_eq_true] at h
  exact ⟨h.1, fun i hi => h.2 _ (List.getElem_mem hi)⟩
set_option maxRecDepth 100000 in
set_option maxHeartbeats 1000000 in
theorem fewT_any {w0 w : World} (l : List Tx) (A : Option Addr) (n c : Nat) (hb0 : Below w0.heap.size w0 w) (hD : TL w0 w0.heap.size A l) (hn : n = l.length) :
    Calls Tryz.prog 7 #[.slice A n c] w fun e w' => e = .returned (.bool (fewT l)) ∧ Below w.heap.size w w' := by
  by_cases h8 : l.length ≤ 8
  · have HE : Hid (fewT l = l.all fun x => decide (x.places.length ≤ 12) && decide (x.data.length ≤ 1500)) := by show _ = _; unfold fewT; rw [decide_eq_true h8]; rfl
    have g1 : decide (8 < (n : Int)) = false := decide_eq_false (by omega)
    have g2 : decide (8 < n) = false := decide_eq_false (by omega)
    have HN := Lib.hid hn
    have HD := Lib.hid hD
    have HB0 := Lib.hid hb0
    have h8' : n ≤ 8 := by omega
    clear hn hD hb0 h8
    go_enter Tryz.func7, Tryz.ntmps7
    go_wp2
    go_loopw [3] (fun v wr => ∃ k : Nat, v = .int .i64 (k : Int) ∧ k ≤ n ∧ Hid ((∀ i (hi : i < l.length), i < k → l[i].places.length ≤ 12 ∧ l[i].data.length ≤ 1500) ∧ Below w.heap.size w wr)) (fun v _ => n - (intOf v).toNat)
    case atStart => exact ⟨0, rfl, by omega, fun i hi h => absurd h (by omega), Below.refl _ _⟩
    case round =>
      obtain ⟨k, rfl, hk, hs⟩ := hrel
      by_cases hkn : k < n
      · have d0 : decide ((k : Int) < (n : Int)) = true := decide_eq_true (by omega)
        have d1 : decide (k < n) = true := decide_eq_true hkn
        have hkl : k < l.length := by rw [← HN.out]; exact hkn
        obtain ⟨b, off, hA, hlt, hc⟩ := HD.out (by omega)
        obtain ⟨pA, pc, dA, dc, hV, -, hc1, hc2⟩ := hc k hkl
        have hcell : ∀ W, Below w.heap.size w W → W.cell? ⟨b, off + k * 3 + 1, none⟩ = some (.slice pA l[k].places.length pc) ∧ W.cell? ⟨b, off + k * 3 + 2, none⟩ = some (.slice dA l[k].data.length dc) := fun W hb => by
          have h1 : Below w0.heap.size w0 W := HB0.out.trans (hb.mono HB0.out.size)
          exact ⟨(h1.cell (p := ⟨b, off + k * 3 + 1, none⟩) hlt).trans hc1, (h1.cell (p := ⟨b, off + k * 3 + 2, none⟩) hlt).trans hc2⟩
        subst hA
        obtain ⟨hC1, hC2⟩ := hcell _ hs.out.2
        obtain ⟨m, hm⟩ : ∃ m, m = l[k].data.length := ⟨_, rfl⟩
        obtain ⟨p, hp⟩ : ∃ m, m = l[k].places.length := ⟨_, rfl⟩
        have HM : Hid (m = l[k].data.length ∧ p = l[k].places.length) := ⟨hm, hp⟩
        have HKL : Hid (k < l.length ∧ True) := ⟨hkl, trivial⟩
        rw [← hp] at hC1
        rw [← hm] at hC2
        have HNo : Hid (¬ (p ≤ 12 ∧ m ≤ 1500) → (l.all fun x => decide (x.places.length ≤ 12) && decide (x.data.length ≤ 1500)) = false) := fun hh => by
          rw [List.all_eq_false]
          refine ⟨l[k], List.getElem_mem _, ?_⟩
          simp only [Bool.and_eq_true, decide_eq_true_eq]
          omega
        clear hm hp hcell hc1 hc2 hV hc hlt
        by_cases h6 : p ≤ 12
        · have e0 : decide (12 < (p : Int)) = false := decide_eq_false (by omega)
          have e1 : decide (12 < p) = false := decide_eq_false (by omega)
          by_cases h7 : m ≤ 1500
          · have e2 : decide (1500 < (m : Int)) = false := decide_eq_false (by omega)
            have e3 : decide (1500 < m) = false := decide_eq_false (by omega)
            go_wp2
            refine ⟨⟨k + 1, by go_num, by omega, fun i hi h => ?_, hs.out.2⟩, ?_⟩
            · by_cases hik : i = k
              · subst hik; have := HM.out; omega
              · exact hs.out.1 i hi (by omega)
            · simp [intOf]; omega
          · have e2 : decide (1500 < (m : Int)) = true := decide_eq_true (by omega)
            have e3 : decide (1500 < m) = true := decide_eq_true (by omega)
            go_wp2
            go_ret
            rw [HE.out, HNo.out (by omega)]
            exact ⟨rfl, hs.out.2⟩
        · have e0 : decide (12 < (p : Int)) = true := decide_eq_true (by omega)
          have e1 : decide (12 < p) = true := decide_eq_true (by omega)
          go_wp2
          go_ret
          rw [HE.out, HNo.out (by omega)]
          exact ⟨rfl, hs.out.2⟩
      · have d0 : decide ((k : Int) < (n : Int)) = false := decide_eq_false (by omega)
        have d1 : decide (k < n) = false := decide_eq_false hkn
        go_wp2
        go_ret
        have hall : (l.all fun x => decide (x.places.length ≤ 12) && decide (x.data.length ≤ 1500)) = true := by
          rw [List.all_eq_true]
          intro x hx
          obtain ⟨i, hi, rfl⟩ := List.mem_iff_getElem.1 hx
          have := hs.out.1 i hi (by have := HN.out; omega)
          simpa using this
        rw [HE.out, hall]
        exact ⟨rfl, hs.out.2⟩
  · have HE : Hid (fewT l = false) := by show _ = _; unfold fewT; rw [decide_eq_false h8]; rfl
    have g1 : decide (8 < (n : Int)) = true := decide_eq_true (by omega)
    have g2 : decide (8 < n) = true := decide_eq_true (by omega)
    clear hD hn h8
    go_enter Tryz.func7, Tryz.ntmps7
    go_wp2
    go_ret
    rw [HE.out]
    exact ⟨rfl, (Below.refl _ _)⟩
end Go.Proofs.YtonnkibcnhjelaaGreatDoor
end
