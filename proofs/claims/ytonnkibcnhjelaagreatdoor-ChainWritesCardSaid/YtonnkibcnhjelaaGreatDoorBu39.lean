/- Lemmas under the proofs of this place: DiskDeeds, DiskAlike. No statement is proved here. -/
import Derived.Test.YtonnkibcnhjelaaGreatDoorBu38
import Derived.Test.YtonnkibcnhjelaaGreatDoorBu05
import Derived.Deep.Slices
import Derived.Deep.RegionHeldLaw
section
set_option linter.unusedVariables false
namespace Go.Proofs.YtonnkibcnhjelaaGreatDoor
open Go.ChangeShapes Go.WideShapes Go.ChangeAt Go.RowKit
def DL (w : World) (B : Nat) (A : Option Addr) (l : List Dd) : Prop :=
  0 < l.length → ∃ b off, A = some ⟨b, off, none⟩ ∧ b < B ∧ ∀ i (hi : i < l.length), ∃ dA dc mA mc, DV w l[i] dA dc mA mc ∧
    w.cell? ⟨b, off + i * 5, none⟩ = some (.int .i64 l[i].kind) ∧ w.cell? ⟨b, off + i * 5 + 1, none⟩ = some (.int .i64 l[i].n) ∧ w.cell? ⟨b, off + i * 5 + 2, none⟩ = some (.slice dA l[i].data.length dc) ∧
    w.cell? ⟨b, off + i * 5 + 3, none⟩ = some (.bool l[i].odd) ∧ w.cell? ⟨b, off + i * 5 + 4, none⟩ = some (.slice mA l[i].masks.length mc)
instance : Inhabited Dd := ⟨⟨0, 0, [], false, []⟩⟩
theorem ini_wf6 {z : Int} (h : (Lit.int .i64 z).wf = true) : InI z := by
  simpa [InI, Lit.wf, IntKind.min, IntKind.max, IntKind.signed, IntKind.bits] using h
theorem addr_add6 (b off j : Nat) : (⟨b, off, none⟩ : Addr).add j = ⟨b, off + j, none⟩ := by unfold Addr.add; split <;> simp_all
section
variable {H : Type} {enc : TypeId × Value → H} {P : Program}
theorem bytes_of {W : World} {t e : TypeId} {fuel : Nat} {v : Value} {x : DataW H × List MemPlace} (ht : P.underlying t = some (.slice e)) (he : P.underlying e = some (.int .u8)) (hc : P.cellsOf e = 1)
    (hf : DataW.trod enc P W 0 (fun _ => true) true fuel t [v] = some x) :
    ∃ (A : Option Addr) (L : List UInt8) (c : Nat), v = .slice A L.length c ∧ RB W W.heap.size A L ∧ L.length ≤ c ∧ c ≤ maxLen := by
  rcases open_ints ht he hc hf with ⟨hcs, hx⟩ | ⟨a, len, cap, zs, hcs, _, hl, hm, hz, hx, hcell, hwz⟩
  · simp at hcs
    exact ⟨none, [], 0, hcs, RB.none_ _ _, Nat.le_refl _, Nat.zero_le _⟩
  · simp at hcs
    simp only [if_true] at hz
    have hll : (bytesOfInts (zs.take len)).length = len := by simp [bytesOfInts]; omega
    refine ⟨some a, bytesOfInts (zs.take len), cap, by rw [hll]; exact hcs, ?_, by rw [hll]; exact hl, hm⟩
    exact rb_of_ints len (by omega) hwz (by intro h; cases h) (fun a' ha c' hc' => by injection ha with ha; subst ha; exact hcell c' hc')
theorem intl_of {W : World} {t e : TypeId} {fuel : Nat} {v : Value} {x : DataW H × List MemPlace} (ht : P.underlying t = some (.slice e)) (he : P.underlying e = some (.int .i64)) (hc : P.cellsOf e = 1)
    (hf : DataW.trod enc P W 0 (fun _ => true) true fuel t [v] = some x) :
    ∃ (A : Option Addr) (Z : List Int) (c : Nat), v = .slice A Z.length c ∧ RI W W.heap.size A Z := by
  rcases open_ints ht he hc hf with ⟨hcs, hx⟩ | ⟨a, len, cap, zs, hcs, _, hl, hm, hz, hx, hcell, hwz⟩
  · simp at hcs
    exact ⟨none, [], 0, hcs, fun h => absurd h (by simp)⟩
  · simp at hcs
    simp only [if_true] at hz
    have hlen : (zs.take len).length = len := by rw [List.length_take]; omega
    refine ⟨some a, zs.take len, cap, by rw [hlen]; exact hcs, fun hn => ?_⟩
    rw [hlen] at hn
    obtain ⟨b, off, rfl, hcc⟩ := ints_at hcell (by omega)
    have hblk := World.block_lt_of_cell? W _ (hcc 0 (by omega))
    refine ⟨b, off, rfl, hblk, fun k hk => ?_⟩
    rw [hlen] at hk
    rw [hcc k (by omega)]
    simp [List.getD, List.getElem?_eq_getElem (show k < zs.length by omega), List.getElem_take]
theorem open_deedl {W : World} {fuel : Nat} {t e : TypeId} {f0 f1 f2 f3 f4 : Field} {q r : TypeId} {v : Value} {x : DataW H × List MemPlace} (ht : P.underlying t = some (.slice e)) (he : P.underlying e = some (.struct #[f0, f1, f2, f3, f4]))
    (ce : P.cellsOf e = 5) (o0 : f0.offset = 0) (o1 : f1.offset = 1) (o2 : f2.offset = 2) (o3 : f3.offset = 3) (o4 : f4.offset = 4)
    (c0 : P.cellsOf f0.type = 1) (c1 : P.cellsOf f1.type = 1) (c2 : P.cellsOf f2.type = 1) (c3 : P.cellsOf f3.type = 1) (c4 : P.cellsOf f4.type = 1)
    (k0 : P.underlying f0.type = some (.int .i64)) (k1 : P.underlying f1.type = some (.int .i64)) (k2 : P.underlying f2.type = some (.slice q)) (k3 : P.underlying f3.type = some .bool) (k4 : P.underlying f4.type = some (.slice r))
    (hq : P.underlying q = some (.int .u8)) (cq : P.cellsOf q = 1) (hr : P.underlying r = some (.int .i64)) (cr : P.cellsOf r = 1)
    (hf : DataW.trod enc P W 0 (fun _ => true) true fuel t [v] = some x) :
    ∃ (A : Option Addr) (D : List Dd) (c : Nat), v = .slice A D.length c ∧ DL W W.heap.size A D ∧ D.length ≤ c ∧ c ≤ 9223372036854775807 := by
  rcases Deep.open_slice ht hf with ⟨hcs, hx⟩ | ⟨a, len, cap, m, n, D, Pl, hcs, _, hl, hm, hmm, hx, hel⟩
  · simp at hcs
    exact ⟨none, [], 0, hcs, fun h => absurd h (by simp), Nat.le_refl _, by omega⟩
  · simp at hcs
    have hml : len ≤ m := by rw [hmm]; split <;> omega
    have each : ∀ i, i < len → ∃ z : Dd × (Option Addr × Nat) × (Option Addr × Nat), DV W z.1 z.2.1.1 z.2.1.2 z.2.2.1 z.2.2.2 ∧
        W.cell? (a.add (i * 5)) = some (.int .i64 z.1.kind) ∧ W.cell? (a.add (i * 5 + 1)) = some (.int .i64 z.1.n) ∧ W.cell? (a.add (i * 5 + 2)) = some (.slice z.2.1.1 z.1.data.length z.2.1.2) ∧
        W.cell? (a.add (i * 5 + 3)) = some (.bool z.1.odd) ∧ W.cell? (a.add (i * 5 + 4)) = some (.slice z.2.2.1 z.1.masks.length z.2.2.2) := by
      intro i hi
      obtain ⟨cs', h1, h2⟩ := hel i (by omega)
      rw [ce] at h1
      obtain ⟨_, hlen, hcell⟩ := World.cells?_some h1
      obtain ⟨xs, k, hk, hxy, _, hxl, hff⟩ := DataW.trod_struct he h2
      match xs, hxl, cs', hlen with
      | [y0, y1, y2, y3, y4], _, [v0, v1, v2, v3, v4], _ =>
        have g0 := hff 0 f0 rfl
        have g1 := hff 1 f1 rfl
        have g2 := hff 2 f2 rfl
        have g3 := hff 3 f3 rfl
        have g4 := hff 4 f4 rfl
        simp [o0, o1, o2, o3, o4, c0, c1, c2, c3, c4] at g0 g1 g2 g3 g4
        have e0 := hcell 0 (by omega)
        have e1 := hcell 1 (by omega)
        have e2 := hcell 2 (by omega)
        have e3 := hcell 3 (by omega)
        have e4 := hcell 4 (by omega)
        rw [Deep.add_add] at e0 e1 e2 e3 e4
        obtain ⟨z0, hz0, _, w0⟩ := DataW.trod_int k0 g0
        obtain ⟨z1, hz1, _, w1⟩ := DataW.trod_int k1 g1
        obtain ⟨dA, dL, dc, rfl, hd1, hd2, hd3⟩ := bytes_of k2 hq cq g2
        obtain ⟨o, ho, _⟩ := DataW.trod_bool k3 g3
        obtain ⟨mA, mL, mc, rfl, hm1⟩ := intl_of k4 hr cr g4
        simp only [List.cons.injEq, and_true] at hz0 hz1 ho
        subst hz0
        subst hz1
        subst ho
        refine ⟨(⟨z0, z1, dL, o, mL⟩, (dA, dc), (mA, mc)), ⟨hd1, hm1, ⟨hd2, hd3⟩, ini_wf6 w0, ini_wf6 w1⟩, ?_, ?_, ?_, ?_, ?_⟩
        · simpa using e0
        · simpa using e1
        · simpa using e2
        · simpa using e3
        · simpa using e4
    obtain ⟨z, hz⟩ := Deep.choose_lt each
    refine ⟨some a, (List.range len).map fun i => (z i).1, cap, by simpa using hcs, fun hn => ?_, by simpa using hl, hm⟩
    simp only [List.length_map, List.length_range] at hn
    obtain ⟨b, off, p⟩ := a
    have h0 := (hz 0 (by omega)).2.1
    have e00 : (⟨b, off, p⟩ : Addr).add (0 * 5) = ⟨b, off, p⟩ := by simp [Addr.add]
    rw [e00] at h0
    have hp : p = none := World.cell?_spot h0
    subst hp
    have hblk := World.block_lt_of_cell? W _ h0
    refine ⟨b, off, rfl, hblk, fun k hk => ?_⟩
    simp only [List.length_map, List.length_range] at hk
    have ea := addr_add6 b off
    have hc := hz k (by omega)
    simp only [ea] at hc
    have eg : ((List.range len).map fun i => (z i).1)[k]'(by simpa using hk) = (z k).1 := by simp
    rw [eg]
    exact ⟨_, _, _, _, hc⟩
end
def fewL (l : List Dd) : Bool := decide (l.length ≤ 40) && l.all fun x => decide (x.data.length ≤ 600)
set_option maxRecDepth 100000 in
set_option maxHeartbeats 1000000 in
theorem few_any {w0 w : World} (l : List Dd) (A : Option Addr) (n c : Nat) (hb0 : Below w0.heap.size w0 w) (hD : DL w0 w0.heap.size A l) (hn : n = l.length) :
    Calls Tryz.prog 8 #[.slice A n c] w fun e w' => e = .returned (.bool (fewL l)) ∧ Below w.heap.size w w' := by
  by_cases h40 : l.length ≤ 40
  · have HE : Hid (fewL l = l.all fun x => decide (x.data.length ≤ 600)) := by show _ = _; unfold fewL; rw [decide_eq_true h40]; rfl
    have g1 : decide (40 < (n : Int)) = false := decide_eq_false (by omega)
    have g2 : decide (40 < n) = false := decide_eq_false (by omega)
    have HN := Lib.hid hn
    have HD := Lib.hid hD
    have HB0 := Lib.hid hb0
    have h40' : n ≤ 40 := by omega
    clear hn hD hb0 h40
    go_enter Tryz.func8, Tryz.ntmps8
    go_wp2
    go_loopw [3] (fun v wr => ∃ k : Nat, v = .int .i64 (k : Int) ∧ k ≤ n ∧ Hid ((∀ i (hi : i < l.length), i < k → l[i].data.length ≤ 600) ∧ Below w.heap.size w wr)) (fun v _ => n - (intOf v).toNat)
    case atStart => exact ⟨0, rfl, by omega, fun i hi h => absurd h (by omega), Below.refl _ _⟩
    case round =>
      obtain ⟨k, rfl, hk, hs⟩ := hrel
      by_cases hkn : k < n
      · have d0 : decide ((k : Int) < (n : Int)) = true := decide_eq_true (by omega)
        have d1 : decide (k < n) = true := decide_eq_true hkn
        have hkl : k < l.length := by rw [← HN.out]; exact hkn
        obtain ⟨b, off, hA, hlt, hc⟩ := HD.out (by omega)
        obtain ⟨dA, dc, mA, mc, hV, -, -, hc2, -, -⟩ := hc k hkl
        have hcell : ∀ W, Below w.heap.size w W → W.cell? ⟨b, off + k * 5 + 2, none⟩ = some (.slice dA l[k].data.length dc) := fun W hb => by
          have h1 : Below w0.heap.size w0 W := HB0.out.trans (hb.mono HB0.out.size)
          exact (h1.cell (p := ⟨b, off + k * 5 + 2, none⟩) hlt).trans hc2
        subst hA
        have hC := hcell _ hs.out.2
        obtain ⟨m, hm⟩ : ∃ m, m = l[k].data.length := ⟨_, rfl⟩
        have HM := Lib.hid hm
        have HKL : Hid (k < l.length ∧ True) := ⟨hkl, trivial⟩
        rw [← hm] at hC
        clear hm hcell hc2 hV hc hlt
        by_cases h6 : m ≤ 600
        · have e0 : decide (600 < (m : Int)) = false := decide_eq_false (by omega)
          have e1 : decide (600 < m) = false := decide_eq_false (by omega)
          go_wp2
          refine ⟨⟨k + 1, by go_num, by omega, fun i hi h => ?_, hs.out.2⟩, ?_⟩
          · by_cases hik : i = k
            · subst hik; have := HM.out; omega
            · exact hs.out.1 i hi (by omega)
          · simp [intOf]; omega
        · have e0 : decide (600 < (m : Int)) = true := decide_eq_true (by omega)
          have e1 : decide (600 < m) = true := decide_eq_true (by omega)
          go_wp2
          go_ret
          have hall : (l.all fun x => decide (x.data.length ≤ 600)) = false := by
            rw [List.all_eq_false]
            exact ⟨l[k]'HKL.out.1, List.getElem_mem _, by have := HM.out; simp; omega⟩
          rw [HE.out, hall]
          exact ⟨rfl, hs.out.2⟩
      · have d0 : decide ((k : Int) < (n : Int)) = false := decide_eq_false (by omega)
        have d1 : decide (k < n) = false := decide_eq_false hkn
        go_wp2
        go_ret
        have hall : (l.all fun x => decide (x.data.length ≤ 600)) = true := by
          rw [List.all_eq_true]
          intro x hx
          obtain ⟨i, hi, rfl⟩ := List.mem_iff_getElem.1 hx
          have := hs.out.1 i hi (by have := HN.out; omega)
          simpa using this
        rw [HE.out, hall]
        exact ⟨rfl, hs.out.2⟩
  · have HE : Hid (fewL l = false) := by show _ = _; unfold fewL; rw [decide_eq_false h40]; rfl
    have g1 : decide (40 < (n : Int)) = true := decide_eq_true (by omega)
    have g2 : decide (40 < n) = true := decide_eq_true (by omega)
    clear hD hn h40
    go_enter Tryz.func8, Tryz.ntmps8
    go_wp2
    go_ret
    rw [HE.out]
    exact ⟨rfl, (Below.refl _ _)⟩
end Go.Proofs.YtonnkibcnhjelaaGreatDoor
end
section
set_option linter.unusedVariables false
namespace Go.Proofs.YtonnkibcnhjelaaGreatDoor
open Go.RowKit
theorem one_out {L : List UInt8} {n : Nat} (hn : n = L.length) {w : World} {e : Ending} {w' : World} (h : GivesOne L w e w') : ∃ A c, e = .returned (.slice A n c) ∧ RB w' w'.heap.size A L ∧ Below w.heap.size w w' := by
  obtain ⟨A, c, he, ho, hb⟩ := h
  exact ⟨A, c, by rw [hn]; exact he, own_rb ho, hb⟩
theorem rb_up {w w' : World} {A : Option Addr} {L : List UInt8} (h : RB w w.heap.size A L) (hb : Below w.heap.size w w') : RB w' w'.heap.size A L := (h.below hb).more hb.size
section
variable {K : Kps} {w0 w : World} {g q : Nat} {F G B : Nat → Prop} {d : Dk}
set_option maxRecDepth 100000 in
set_option maxHeartbeats 4000000 in
theorem alike_any (h : Two K w0 w g F d q G B d) (hl : d.load ≤ 100000) : Calls Tryz.prog 13 #[.pointer (some ⟨g, 0, none⟩), .pointer (some ⟨q, 0, none⟩)] w fun e w' => e = .returned (.bool true) ∧ Two K w0 w' g F d q G B d ∧ Below w.heap.size w w' := by
  obtain ⟨s, cs, V, hs, hv, hR⟩ := h.r
  obtain ⟨n, hn⟩ : ∃ n, n = d.safe.length := ⟨_, rfl⟩
  obtain ⟨m, hm⟩ : ∃ m, m = d.waits.length := ⟨_, rfl⟩
  obtain ⟨o, ho⟩ : ∃ o, o = d.off := ⟨_, rfl⟩
  obtain ⟨ni, hni⟩ : ∃ n, n = d.image.length := ⟨_, rfl⟩
  obtain ⟨ns, hns⟩ : ∃ n, n = d.sure.length := ⟨_, rfl⟩
  have hbR := hR.blk
  obtain ⟨A, c, hV⟩ : ∃ A c, V = .slice A m c := by
    obtain ⟨A, c, hV, _, _⟩ := hR.vform
    exact ⟨A, c, by rw [hm]; exact hV⟩
  subst hV
  rw [← hn] at hbR
  have HOff : Hid (∀ W, Two K w0 W g F d q G B d → Calls Tryz.prog 39 #[.pointer (some ⟨g, 0, none⟩)] W fun e w' => e = .returned (.bool o) ∧ W = w') := fun W hW => by rw [ho]; exact off_any hW.p.disk
  have HWt : Hid (∀ W, Two K w0 W g F d q G B d → Calls Tryz.prog 40 #[.pointer (some ⟨g, 0, none⟩)] W fun e w' => e = .returned (.int .i64 (m : Int)) ∧ W = w') := fun W hW => by rw [hm]; exact waits_any hW.p.disk
  have HBl : Hid (∀ W, Two K w0 W g F d q G B d → Calls Tryz.prog 25 #[.pointer (some ⟨g, 0, none⟩)] W fun e w' => e = .returned (.int .i64 (n : Int)) ∧ W = w') := fun W hW => by rw [hn]; exact blocks_any hW.p.disk
  have HIm : Hid (∀ W, Two K w0 W g F d q G B d → Calls Tryz.prog 41 #[.pointer (some ⟨g, 0, none⟩)] W fun e w' => ∃ A c, e = .returned (.slice A ni c) ∧ RB w' w'.heap.size A d.image ∧ Below W.heap.size W w') := fun W hW => (image_any hW.p.disk).mono fun e w' hh => one_out hni hh
  have HSa : Hid (∀ W, Two K w0 W g F d q G B d → Calls Tryz.prog 43 #[.pointer (some ⟨g, 0, none⟩)] W fun e w' => ∃ A c, e = .returned (.slice A ns c) ∧ RB w' w'.heap.size A d.sure ∧ Below W.heap.size W w') := fun W hW => (safe_any hW.p.disk).mono fun e w' hh => one_out hns hh
  have HRI : Hid (∀ W, Two K w0 W g F d q G B d → Calls Tryz.prog 42 #[.pointer (some ⟨q, 0, none⟩)] W fun e w' => ∃ A c, e = .returned (.slice A ni c) ∧ RB w' w'.heap.size A d.image ∧ Below W.heap.size W w') := fun W hW => (rimage_any hW.r hl).mono fun e w' hh => one_out hni hh
  have HRS : Hid (∀ W, Two K w0 W g F d q G B d → Calls Tryz.prog 44 #[.pointer (some ⟨q, 0, none⟩)] W fun e w' => ∃ A c, e = .returned (.slice A ns c) ∧ RB w' w'.heap.size A d.sure ∧ Below W.heap.size W w') := fun W hW => (rsure_any hW.r).mono fun e w' hh => one_out hns hh
  have HNi := Lib.hid hni
  have HNs := Lib.hid hns
  have hqlt := hbR.lt
  have HC : Hid (∀ W, Below w.heap.size w W → W.cell? ⟨q, 0, none⟩ = some (.slice (some ⟨s, 0, none⟩) n cs) ∧ W.cell? ⟨q, 1, none⟩ = some (.slice A m c) ∧ W.cell? ⟨q, 3, none⟩ = some (.bool o)) := fun W hb => by
    have h1 := Blk.below hbR hb hqlt
    rw [ho]
    exact ⟨by rw [Blk.cell h1]; rfl, by rw [Blk.cell h1]; rfl, by rw [Blk.cell h1]; rfl⟩
  have hT := h
  clear h hl hR hbR hn hm ho hni hns hqlt
  go_enter Tryz.func13, Tryz.ntmps13
  go_wp2
  have b0 : Below w.heap.size w w.drew := (Below.refl _ _).drew
  have t0 : Two K w0 w.drew g F d q G B d := hT.more b0
  have hS0 := HC.out _ b0
  clear hT
  go_region_held_law (fun w' => w'.cell? ⟨q, 0, none⟩ = some (.slice (some ⟨s, 0, none⟩) n cs) ∧ w'.cell? ⟨q, 1, none⟩ = some (.slice A m c) ∧ w'.cell? ⟨q, 3, none⟩ = some (.bool o))
    (first | exact hS0 | exact hS1 | exact hS2 | exact hS3 | exact hS4)
    (first
      | (go_at_call 39; (with_reducible refine (HOff.out _ t0).mono ?_); rintro e w1 ⟨rfl, rfl⟩)
      | (go_at_call 40; (with_reducible refine (HWt.out _ t0).mono ?_); rintro e w1 ⟨rfl, rfl⟩)
      | (go_at_call 25; (with_reducible refine (HBl.out _ t0).mono ?_); rintro e w1 ⟨rfl, rfl⟩)
      | (go_at_call 41; (with_reducible refine (HIm.out _ t0).mono ?_); rintro e w1 ⟨A1, c1, rfl, r1, k1⟩; have b1 := b0.trans (k1.mono b0.size); have t1 := t0.more k1; have hS1 := HC.out _ b1; have s1 := aw_str r1 ni c1 HNi.out)
      | (go_at_call 42; (with_reducible refine (HRI.out _ t1).mono ?_); rintro e w2 ⟨A2, c2, rfl, r2, k2⟩; have b2 := b1.trans (k2.mono b1.size); have t2 := t1.more k2; have hS2 := HC.out _ b2; have s21 := aw_str (rb_up r1 k2) ni c1 HNi.out; have s2 := aw_str r2 ni c2 HNi.out)
      | (go_at_call 43; (with_reducible refine (HSa.out _ t2).mono ?_); rintro e w3 ⟨A3, c3, rfl, r3, k3⟩; have b3 := b2.trans (k3.mono b2.size); have t3 := t2.more k3; have hS3 := HC.out _ b3; have s3 := aw_str r3 ns c3 HNs.out)
      | (go_at_call 44; (with_reducible refine (HRS.out _ t3).mono ?_); rintro e w4 ⟨A4, c4, rfl, r4, k4⟩; have b4 := b3.trans (k4.mono b3.size); have t4 := t3.more k4; have hS4 := HC.out _ b4; have s43 := aw_str (rb_up r3 k4) ns c3 HNs.out; have s4 := aw_str r4 ns c4 HNs.out))
  all_goals first
    | (go_ret; exact ⟨rfl, t4, b4⟩)
    | (go_wp2; go_ret; exact ⟨rfl, t4, b4⟩)
end
end Go.Proofs.YtonnkibcnhjelaaGreatDoor
end
