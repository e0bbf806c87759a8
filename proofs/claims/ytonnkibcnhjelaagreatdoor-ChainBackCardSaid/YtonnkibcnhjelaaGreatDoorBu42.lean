/- Lemmas under the proofs of this place: ChainBackS. No statement is proved here. -/
import Derived.Test.YtonnkibcnhjelaaGreatDoorBu41
import Derived.Test.YtonnkibcnhjelaaGreatDoorBu40
import Derived.Test.YtonnkibcnhjelaaGreatDoorBu24
import Derived.Test.YtonnkibcnhjelaaGreatDoorBu27
import Derived.Test.YtonnkibcnhjelaaGreatDoorBu15
set_option linter.unusedVariables false
namespace Go.Proofs.YtonnkibcnhjelaaGreatDoor
open Go.ChangeShapes Go.WideShapes Go.ChangeAt Go.RowKit
theorem back_ok {o : Int} {ps : List Int} {t : List UInt8} (h : (chWrite (Dk.blank 16) o ps t).2.2 = 0) : (chWrite (Dk.blank 16) o ps t).1.flush.2 = 0 := by
  have hcut : (cutC o ps t).2 = 0 := by
    apply Classical.byContradiction
    intro hc
    unfold chWrite at h
    rw [if_pos hc] at h
    exact hc h
  have hpl : placesOk ps (Dk.blank 16).safe.length = true := by
    apply Classical.byContradiction
    intro hc
    unfold chWrite at h
    rw [if_neg (by omega), if_pos (by simpa using hc)] at h
    simp at h
  obtain ⟨_, e2, e3, _⟩ := chWrite_on10 (d := Dk.blank 16) rfl rfl hcut hpl
  unfold Dk.flush
  rw [if_neg (by rw [e2]; simp)]
  have hd : Dk.deed (chWrite (Dk.blank 16) o ps t).1 = ((chWrite (Dk.blank 16) o ps t).1, true) := by
    unfold Dk.deed
    rw [e3, if_neg (by decide), if_neg (by decide)]
  rw [hd]
theorem back_bad {d : Dk} {o : Int} {ps : List Int} {t : List UInt8} (h : (chWrite d o ps t).2.2 ≠ 0) : (chWrite d o ps t).2.1 = .zero := by
  unfold chWrite at h ⊢
  by_cases h1 : (cutC o ps t).2 ≠ 0
  · rw [if_pos h1]
  · rw [if_neg h1] at h ⊢
    by_cases h2 : placesOk ps d.safe.length = false
    · rw [if_pos h2]
    · rw [if_neg h2] at h ⊢
      by_cases h3 : (writeL d (cellW o ps t)).2 = 0
      · rw [if_pos h3] at h; exact absurd rfl h
      · rw [if_neg h3]
theorem chWrite_part {d : Dk} {o : Int} {ps : List Int} {t : List UInt8} (h : (chWrite d o ps t).2.2 = 0) : (chWrite d o ps t).2.1 = ⟨ps.getD 0 0, t.length, o⟩ := by
  unfold chWrite at h ⊢
  by_cases h1 : (cutC o ps t).2 ≠ 0
  · rw [if_pos h1] at h; exact absurd h h1
  · rw [if_neg h1] at h ⊢
    by_cases h2 : placesOk ps d.safe.length = false
    · rw [if_pos h2] at h; simp at h
    · rw [if_neg h2] at h ⊢
      by_cases h3 : (writeL d (cellW o ps t)).2 = 0
      · rw [if_pos h3]
      · rw [if_neg h3] at h; exact absurd h h3
structure BkS (w W : World) (g g3 g4 : Nat) (A3 A4 : Array Value) (F : Nat → Prop) (D : Dk) : Prop where
  has : Has w W g F D
  b3 : Blk W g3 41 A3
  b4 : Blk W g4 41 A4
  n3 : ¬ F g3
  n4 : ¬ F g4
theorem not_foot {W W' : World} {F F' : Nat → Prop} {k : Nat} (ht : Turns W W' F F') (hk : k < W.heap.size) (hn : ¬ F k) : ¬ F' k := fun hf => by
  rcases ht.foot _ hf with h1 | h1
  · exact hn h1
  · omega
theorem BkS.turned {w W W' : World} {g g3 g4 : Nat} {A3 A4 : Array Value} {F F' : Nat → Prop} {D D' : Dk} (h : BkS w W g g3 g4 A3 A4 F D) (hp : PDisk W' g F' D') (ht : Turns W W' F F') : BkS w W' g g3 g4 A3 A4 F' D' :=
  ⟨h.has.turned hp ht, h.b3.turns ht h.n3, h.b4.turns ht h.n4, not_foot ht h.b3.lt h.n3, not_foot ht h.b4.lt h.n4⟩
theorem BkS.more {w W W' : World} {g g3 g4 : Nat} {A3 A4 : Array Value} {F : Nat → Prop} {D : Dk} (h : BkS w W g g3 g4 A3 A4 F D) (hb : Below W.heap.size W W') : BkS w W' g g3 g4 A3 A4 F D := h.turned (h.has.disk.below hb) (Turns.of_below hb F)
theorem BkS.alloc {w W : World} {g g3 g4 : Nat} {A3 A4 : Array Value} {F : Nat → Prop} {D : Dk} (h : BkS w W g g3 g4 A3 A4 F D) (o : Obj) : BkS w (W.alloc o) g g3 g4 A3 A4 F D := h.more ((Below.refl _ _).alloc (Nat.le_refl _) o)
theorem BkS.cells {w W : World} {g g3 g4 : Nat} {a0 a1 a2 b0 b1 b2 : Value} {F : Nat → Prop} {D : Dk} (h : BkS w W g g3 g4 #[a0, a1, a2] #[b0, b1, b2] F D) :
    W.cell? ⟨g3, 0, none⟩ = some a0 ∧ W.cell? ⟨g3, 1, none⟩ = some a1 ∧ W.cell? ⟨g3, 2, none⟩ = some a2 ∧ W.cell? ⟨g4, 0, none⟩ = some b0 ∧ W.cell? ⟨g4, 1, none⟩ = some b1 ∧ W.cell? ⟨g4, 2, none⟩ = some b2 :=
  ⟨by rw [h.b3.cell]; rfl, by rw [h.b3.cell]; rfl, by rw [h.b3.cell]; rfl, by rw [h.b4.cell]; rfl, by rw [h.b4.cell]; rfl, by rw [h.b4.cell]; rfl⟩
theorem bks_first {w w1 : World} {g : Nat} {F : Nat → Prop} {A3 A4 : Array Value} {D : Dk} (hG : GivesDisk D ((w.alloc (.cells A3 41)).alloc (.cells A4 41)) w1 g F) : BkS w w1 g w.heap.size (w.heap.size + 1) A3 A4 F D := by
  have hb1 : Below w.heap.size w (w.alloc (.cells A3 41)) := (Below.refl _ _).alloc (Nat.le_refl _) _
  have hb2 : Below w.heap.size w ((w.alloc (.cells A3 41)).alloc (.cells A4 41)) := hb1.alloc hb1.size _
  have e1 : (w.alloc (.cells A3 41)).heap.size = w.heap.size + 1 := by simp
  have e2 : ((w.alloc (.cells A3 41)).alloc (.cells A4 41)).heap.size = w.heap.size + 2 := by simp
  have k3 : Blk ((w.alloc (.cells A3 41)).alloc (.cells A4 41)) w.heap.size 41 A3 := (Blk.new w _ _).alloc _
  have k4 : Blk ((w.alloc (.cells A3 41)).alloc (.cells A4 41)) (w.heap.size + 1) 41 A4 := by
    have := Blk.new (w.alloc (.cells A3 41)) 41 A4
    rw [e1] at this
    exact this
  exact ⟨Has.gives hb2 hG, Blk.below k3 hG.2.1 k3.lt, Blk.below k4 hG.2.1 k4.lt, fun hf => by have := hG.2.2 _ hf; omega, fun hf => by have := hG.2.2 _ hf; omega⟩
theorem Has.oldI {w W : World} {g : Nat} {F : Nat → Prop} {D : Dk} (h : Has w W g F D) {A : Option Addr} {Z : List Int} (hr : RI w w.heap.size A Z) : RI W W.heap.size A Z ∧ (0 < Z.length → ∀ ad, A = some ad → ¬ F ad.block) := by
  refine ⟨fun h0 => ?_, fun h0 ad e hf => ?_⟩
  · obtain ⟨b, off, e, hlt, hc⟩ := hr h0
    exact ⟨b, off, e, Nat.lt_of_lt_of_le hlt h.below.size, fun k hk => (h.below.cell (p := ⟨b, off + k, none⟩) hlt).trans (hc k hk)⟩
  · obtain ⟨b, off, e2, hlt, _⟩ := hr h0
    rw [e] at e2
    injection e2 with e2
    subst e2
    have := h.own _ hf
    simp at this
    omega
theorem two_tl (V : World) (a b : Tx) (pA dA pB dB : Option Addr) (pc1 dc1 pc2 dc2 : Nat) (ha : TV V a pA pc1 dA dc1) (hb : TV V b pB pc2 dB dc2) :
    TL (V.alloc (.cells #[.int .i64 a.owner, .slice pA a.places.length pc1, .slice dA a.data.length dc1, .int .i64 b.owner, .slice pB b.places.length pc2, .slice dB b.data.length dc2] 41))
      (V.alloc (.cells #[.int .i64 a.owner, .slice pA a.places.length pc1, .slice dA a.data.length dc1, .int .i64 b.owner, .slice pB b.places.length pc2, .slice dB b.data.length dc2] 41)).heap.size (some ⟨V.heap.size, 0, none⟩) [a, b] := fun _ => by
  have h0 := Blk.new V 41 #[.int .i64 a.owner, .slice pA a.places.length pc1, .slice dA a.data.length dc1, .int .i64 b.owner, .slice pB b.places.length pc2, .slice dB b.data.length dc2]
  have hbl : Below V.heap.size V (V.alloc (.cells #[.int .i64 a.owner, .slice pA a.places.length pc1, .slice dA a.data.length dc1, .int .i64 b.owner, .slice pB b.places.length pc2, .slice dB b.data.length dc2] 41)) := (Below.refl _ _).alloc (Nat.le_refl _) _
  refine ⟨V.heap.size, 0, rfl, by simp, fun i hi => ?_⟩
  have hi : i < 2 := hi
  rcases (show i = 0 ∨ i = 1 by omega) with rfl | rfl
  · exact ⟨pA, pc1, dA, dc1, ha.up hbl, by rw [h0.cell]; rfl, by rw [h0.cell]; rfl, by rw [h0.cell]; rfl⟩
  · exact ⟨pB, pc2, dB, dc2, hb.up hbl, by rw [h0.cell]; rfl, by rw [h0.cell]; rfl, by rw [h0.cell]; rfl⟩
set_option maxRecDepth 100000 in
theorem fewT_two {a b : Tx} (h : fewT [a, b] = true) : (a.places.length ≤ 12 ∧ a.data.length ≤ 1500) ∧ b.places.length ≤ 12 ∧ b.data.length ≤ 1500 := by
  have h1 := (fewT_all h).2
  exact ⟨h1 0 (by simp), h1 1 (by simp)⟩
theorem list3t {α : Type} (l : List α) (h : l.toArray.size = 3) : ∃ a b c, l = [a, b, c] := by
  match l, h with
  | [a, b, c], _ => exact ⟨a, b, c, rfl⟩
def txV (x : Tx) (pA : Option Addr) (pc : Nat) (dA : Option Addr) (dc : Nat) : Value := .agg #[.int .i64 x.owner, .slice pA x.places.length pc, .slice dA x.data.length dc]
theorem Tryz.cellsText10 : Tryz.prog.cellsOf 41 = 3 := by kernel_rfl
theorem Tryz.cellsInts10 : Tryz.prog.cellsOf 38 = 1 := by kernel_rfl
set_option maxRecDepth 100000 in
theorem open_text {H : Type} {enc : TypeId × Value → H} {W : World} {base : Nat} {v : Value} {d : DataW H} {ps : List MemPlace} (hv : Value.okWide Tryz.prog W .any base 41 v) (h : DataW.Trod enc Tryz.prog W 0 (fun _ => true) true 41 v d ps) :
    ∃ (x : Tx) (pA : Option Addr) (pc : Nat) (dA : Option Addr) (dc : Nat), v = txV x pA pc dA dc ∧ TV W x pA pc dA dc := by
  obtain ⟨cs, rfl, hsz⟩ := okWide_struct Tryz.underlying41 hv
  rw [Tryz.cellsText10] at hsz
  obtain ⟨cl⟩ := cs
  obtain ⟨a, b, c, rfl⟩ := list3t cl hsz
  obtain ⟨fuel, hf⟩ := h
  obtain ⟨xs, k, hk, hxy, _, hxl, hff⟩ := DataW.trod_struct Tryz.underlying41 hf
  match xs, hxl with
  | [y0, y1, y2], _ =>
    have g0 := hff 0 _ rfl
    have g1 := hff 1 _ rfl
    have g2 := hff 2 _ rfl
    simp [Value.cells, Tryz.cellsI7, Tryz.cellsS7, Tryz.cellsInts10] at g0 g1 g2
    obtain ⟨z0, h0, _, w0⟩ := DataW.trod_int Tryz.underlying3 g0
    obtain ⟨pA, pL, pc, rfl, hp1, hp2, hp3⟩ := intl_wf_of Tryz.underlying38 Tryz.underlying3 Tryz.cells3 g1
    obtain ⟨dA, dL, dc, rfl, hd1, hd2, hd3⟩ := bytes_of7 Tryz.underlying39 Tryz.underlying5 Tryz.cellsB7 g2
    have e0 : a = .int .i64 z0 := by simpa using h0
    subst e0
    exact ⟨⟨z0, pL, dL⟩, pA, pc, dA, dc, rfl, hp1, hd1, hp2, ⟨hd2, by unfold maxLen at hd3; omega⟩, ini_wf6 w0, hp3⟩
end Go.Proofs.YtonnkibcnhjelaaGreatDoor
