/- Lemmas under the proofs of this place: SupImage. No statement is proved here. -/
import Derived.Test.YtkockhggnbfahaaBu19
import Derived.Test.YtkockhggnbfahaaBu09
import Derived.Test.YtkockhggnbfahaaBu26
import Derived.BigFrame
set_option linter.unusedVariables false
set_option linter.unusedSimpArgs false
namespace Go.Proofs.Ytkockhggnbfahaa
open Go.RowKit
theorem made_own8 {w' : World} {base n : Nat} {v : Value} (h : w'.ownsRow base 5 1 v n (madeCells (Value.int .u8 0).cells (n * 1)).toList) : ∃ L : List UInt8, L.length = n ∧ w'.ownsRow base 5 1 v n (cells L) := by
  refine ⟨List.replicate n 0, List.length_replicate, ?_⟩
  simp only [Nat.mul_one, show (Value.int IntKind.u8 0).cells = #[Value.int IntKind.u8 0] from rfl, toList_madeCells_one] at h
  have e : cells (List.replicate n 0) = List.replicate n (Value.int .u8 0) := by simp [cells]
  rw [e]
  exact h
theorem put_at8 {w : World} {base g n c j : Nat} {L : List UInt8} (h : w.ownsRow base 5 1 (.slice (some ⟨g, 0, none⟩) n c) n (cells L)) (hl : L.length = n) (b : UInt8) : ∃ M : List UInt8, M.length = n ∧ (w.setCell ⟨g, j, none⟩ (.int .u8 (b.toNat : Int))).ownsRow base 5 1 (.slice (some ⟨g, 0, none⟩) n c) n (cells M) := by
  refine ⟨L.set j b, by rw [List.length_set, hl], ?_⟩
  have h1 := (h.stored j (.int .u8 (b.toNat : Int))).1
  have e : (cells L).set j (.int .u8 (b.toNat : Int)) = cells (L.set j b) := by unfold cells; rw [List.map_set]
  rw [e] at h1
  exact h1
theorem get_at8 {w : World} {base g n c j : Nat} {L : List UInt8} (h : w.ownsRow base 5 1 (.slice (some ⟨g, 0, none⟩) n c) n (cells L)) (hl : L.length = n) (hj : j < n) : ∃ b : UInt8, w.cell? ⟨g, j, none⟩ = some (.int .u8 (b.toNat : Int)) ∧ w.frozen? ⟨g, j, none⟩ = false := by
  refine ⟨L[j]'(by omega), ?_, h.frozenAt j⟩
  rw [h.cellAt j (by omega), cells_get _ _ (by omega)]
theorem new_at8 {w : World} {base c : Nat} {A : Option Addr} {L : List UInt8} (h : Own w base A L c) : ∀ ad, A = some ad → base ≤ ad.block := fun ad e => by
  subst e
  rcases h.2 with ⟨h1, _⟩ | ⟨k, cap, cur, h1, h2, _⟩
  · simp at h1
  · simp only [Value.slice.injEq, Option.some.injEq] at h1
    rw [h1.1]
    exact h2
theorem ne_at8 {W : World} {g : Nat} {A : Option Addr} {n c : Nat} {xs : List Value} (h : W.ownsRow g 5 1 (.slice (some ⟨g, 0, none⟩) n c) n xs) (hA : ∀ ad, A = some ad → W.heap.size ≤ ad.block) : ∀ ad, A = some ad → ad.block ≠ g := fun ad e hh => by
  have h1 := hA ad e
  have h2 := (h.lt g rfl).2
  omega
theorem store_rb8 {w : World} {g j : Nat} {A : Option Addr} {P : List UInt8} (h : RB w w.heap.size A P) (hn : ∀ ad, A = some ad → ad.block ≠ g) (u : Value) : RB (w.setCell ⟨g, j, none⟩ u) (w.setCell ⟨g, j, none⟩ u).heap.size A P :=
  (Reads.only h (Nat.le_refl _) (only_set w g j u) hn).more (by simp [World.setCell])
theorem rsput_any8 (s : Pu) (W : World) : Calls Try.prog 8 #[supV s] W fun e w' => ∃ (A : Option Addr) (q c : Nat) (z : Int), e = .returned (.tuple #[.slice A q c, .int .i64 z]) ∧ q ≤ 64 ∧ Hid (∃ P : List UInt8, q = P.length ∧ RB w' w'.heap.size A P) ∧ Hid (∀ ad, A = some ad → W.heap.size ≤ ad.block) ∧ Below W.heap.size W w' := by
  cases hm : s.may with
  | true =>
    refine (rsput_yes s W hm).mono fun e w' hh => ?_
    obtain ⟨A, c, he, ho, hb⟩ := hh
    rw [s.bytes_length] at he
    exact ⟨A, 64, c, 0, he, Nat.le_refl _, ⟨s.bytes, s.bytes_length.symm, own_rb ho⟩, new_at8 ho, hb⟩
  | false =>
    refine (rsput_no s W hm).mono fun e w' hh => ?_
    exact ⟨none, 0, 0, 1, hh.1, by omega, ⟨[], rfl, RB.none_ _ _⟩, (fun ad e => nomatch e), hh.2⟩
set_option maxRecDepth 100000 in
set_option maxHeartbeats 8000000 in
theorem image_any8 (s0 s1 : Pu) (x0 x1 : UInt8) (h0 h1 : Bool) (a0 a1 t0 t1 : UInt8) (w : World) :
    Calls Try.prog 14 #[.agg #[.int .i64 s0.gen, .int .i64 s0.blocks, .int .i64 s0.log, .int .i64 s0.first, .int .i64 s0.size, .int .i64 s0.owner, .int .i64 s1.gen, .int .i64 s1.blocks, .int .i64 s1.log, .int .i64 s1.first, .int .i64 s1.size, .int .i64 s1.owner, .int .u8 (x0.toNat : Int), .int .u8 (x1.toNat : Int), .bool h0, .bool h1, .int .u8 (a0.toNat : Int), .int .u8 (a1.toNat : Int), .int .u8 (t0.toNat : Int), .int .u8 (t1.toNat : Int)]] w fun e w' => ∃ g, e = .returned (.slice (some ⟨g, 0, none⟩) 4096 4096) ∧ Hid (∃ L : List UInt8, L.length = 4096 ∧ RB w' w'.heap.size (some ⟨g, 0, none⟩) L) ∧ Below w.heap.size w w' := by
  obtain ⟨i0, hi0, hz0, hz1, hz2⟩ := info_parts Try.info5
  have hby : i0.bytes = 1 := hz2
  have HBo : Hid (Below w.heap.size w (w.alloc (.cells #[.int .i64 s0.gen, .int .i64 s0.blocks, .int .i64 s0.log, .int .i64 s0.first, .int .i64 s0.size, .int .i64 s0.owner, .int .i64 s1.gen, .int .i64 s1.blocks, .int .i64 s1.log, .int .i64 s1.first, .int .i64 s1.size, .int .i64 s1.owner, .int .u8 (x0.toNat : Int), .int .u8 (x1.toNat : Int), .bool h0, .bool h1, .int .u8 (a0.toNat : Int), .int .u8 (a1.toNat : Int), .int .u8 (t0.toNat : Int), .int .u8 (t1.toNat : Int)] 40))) := (Below.refl _ _).alloc (Nat.le_refl _) _
  have HBk : Hid (∀ W, Below (w.alloc (.cells #[.int .i64 s0.gen, .int .i64 s0.blocks, .int .i64 s0.log, .int .i64 s0.first, .int .i64 s0.size, .int .i64 s0.owner, .int .i64 s1.gen, .int .i64 s1.blocks, .int .i64 s1.log, .int .i64 s1.first, .int .i64 s1.size, .int .i64 s1.owner, .int .u8 (x0.toNat : Int), .int .u8 (x1.toNat : Int), .bool h0, .bool h1, .int .u8 (a0.toNat : Int), .int .u8 (a1.toNat : Int), .int .u8 (t0.toNat : Int), .int .u8 (t1.toNat : Int)] 40)).heap.size (w.alloc (.cells #[.int .i64 s0.gen, .int .i64 s0.blocks, .int .i64 s0.log, .int .i64 s0.first, .int .i64 s0.size, .int .i64 s0.owner, .int .i64 s1.gen, .int .i64 s1.blocks, .int .i64 s1.log, .int .i64 s1.first, .int .i64 s1.size, .int .i64 s1.owner, .int .u8 (x0.toNat : Int), .int .u8 (x1.toNat : Int), .bool h0, .bool h1, .int .u8 (a0.toNat : Int), .int .u8 (a1.toNat : Int), .int .u8 (t0.toNat : Int), .int .u8 (t1.toNat : Int)] 40)) W → Blk W w.heap.size 40 #[.int .i64 s0.gen, .int .i64 s0.blocks, .int .i64 s0.log, .int .i64 s0.first, .int .i64 s0.size, .int .i64 s0.owner, .int .i64 s1.gen, .int .i64 s1.blocks, .int .i64 s1.log, .int .i64 s1.first, .int .i64 s1.size, .int .i64 s1.owner, .int .u8 (x0.toNat : Int), .int .u8 (x1.toNat : Int), .bool h0, .bool h1, .int .u8 (a0.toNat : Int), .int .u8 (a1.toNat : Int), .int .u8 (t0.toNat : Int), .int .u8 (t1.toNat : Int)]) := fun W hb => Blk.below (Blk.new w _ _) hb (by simp)
  have a24 := fun w' => Try.aggSup w'
  have s24 := fun w' => Try.sizeSup w'
  go_enter Try.func14, Try.ntmps14
  go_wp2_with (at_make; refine wpList_make_full _ rfl _ _ 26 rfl (w.alloc (.cells #[.int .i64 s0.gen, .int .i64 s0.blocks, .int .i64 s0.log, .int .i64 s0.first, .int .i64 s0.size, .int .i64 s0.owner, .int .i64 s1.gen, .int .i64 s1.blocks, .int .i64 s1.log, .int .i64 s1.first, .int .i64 s1.size, .int .i64 s1.owner, .int .u8 (x0.toNat : Int), .int .u8 (x1.toNat : Int), .bool h0, .bool h1, .int .u8 (a0.toNat : Int), .int .u8 (a1.toNat : Int), .int .u8 (t0.toNat : Int), .int .u8 (t1.toNat : Int)] 40)).heap.size 5 i0 _ 1 Try.underlying26 hi0 hz0 hz1 .i64 .i64 _ _ 4096 rfl rfl rfl rfl (by rw [hby]; omega) (by unfold maxLen; omega) (Nat.le_refl _) ?_; intro w0 hown hgrow)
  obtain ⟨L0, hL0, ho0⟩ := made_own8 hown
  have hb0 : Below (w.alloc (.cells #[.int .i64 s0.gen, .int .i64 s0.blocks, .int .i64 s0.log, .int .i64 s0.first, .int .i64 s0.size, .int .i64 s0.owner, .int .i64 s1.gen, .int .i64 s1.blocks, .int .i64 s1.log, .int .i64 s1.first, .int .i64 s1.size, .int .i64 s1.owner, .int .u8 (x0.toNat : Int), .int .u8 (x1.toNat : Int), .bool h0, .bool h1, .int .u8 (a0.toNat : Int), .int .u8 (a1.toNat : Int), .int .u8 (t0.toNat : Int), .int .u8 (t1.toNat : Int)] 40)).heap.size (w.alloc (.cells #[.int .i64 s0.gen, .int .i64 s0.blocks, .int .i64 s0.log, .int .i64 s0.first, .int .i64 s0.size, .int .i64 s0.owner, .int .i64 s1.gen, .int .i64 s1.blocks, .int .i64 s1.log, .int .i64 s1.first, .int .i64 s1.size, .int .i64 s1.owner, .int .u8 (x0.toNat : Int), .int .u8 (x1.toNat : Int), .bool h0, .bool h1, .int .u8 (a0.toNat : Int), .int .u8 (a1.toNat : Int), .int .u8 (t0.toNat : Int), .int .u8 (t1.toNat : Int)] 40)) w0 := (Below.refl _ _).grown hgrow (Nat.le_refl _) (by simp)
  have hz : (w.alloc (.cells #[.int .i64 s0.gen, .int .i64 s0.blocks, .int .i64 s0.log, .int .i64 s0.first, .int .i64 s0.size, .int .i64 s0.owner, .int .i64 s1.gen, .int .i64 s1.blocks, .int .i64 s1.log, .int .i64 s1.first, .int .i64 s1.size, .int .i64 s1.owner, .int .u8 (x0.toNat : Int), .int .u8 (x1.toNat : Int), .bool h0, .bool h1, .int .u8 (a0.toNat : Int), .int .u8 (a1.toNat : Int), .int .u8 (t0.toNat : Int), .int .u8 (t1.toNat : Int)] 40)).heap.size = w.heap.size + 1 := by simp
  obtain ⟨g, hg⟩ : ∃ g, g = w.heap.size + 1 := ⟨_, rfl⟩
  have HG : Hid ((w.alloc (.cells #[.int .i64 s0.gen, .int .i64 s0.blocks, .int .i64 s0.log, .int .i64 s0.first, .int .i64 s0.size, .int .i64 s0.owner, .int .i64 s1.gen, .int .i64 s1.blocks, .int .i64 s1.log, .int .i64 s1.first, .int .i64 s1.size, .int .i64 s1.owner, .int .u8 (x0.toNat : Int), .int .u8 (x1.toNat : Int), .bool h0, .bool h1, .int .u8 (a0.toNat : Int), .int .u8 (a1.toNat : Int), .int .u8 (t0.toNat : Int), .int .u8 (t1.toNat : Int)] 40)).heap.size = g) := by show _ = g; rw [hz, hg]
  have ho0' : w0.ownsRow g 5 1 (.slice (some ⟨g, 0, none⟩) 4096 4096) 4096 (cells L0) := by rw [hz, ← hg] at ho0; exact ho0
  have HL0 := Lib.hid hL0
  have HO0 := Lib.hid ho0'
  have HB0 := Lib.hid hb0
  rw [← hg]
  clear hown hgrow hL0 ho0 ho0' hb0 hg hz
  go_loopw [4, 5, 6, 7, 8] (fun v _ _ _ _ wr => ∃ i : Nat, i ≤ 2 ∧ v = .int .i64 (i : Int) ∧ ∃ L : List UInt8, Hid (L.length = 4096) ∧ Hid (wr.ownsRow g 5 1 (.slice (some ⟨g, 0, none⟩) 4096 4096) 4096 (cells L)) ∧ Hid (Below (w.alloc (.cells #[.int .i64 s0.gen, .int .i64 s0.blocks, .int .i64 s0.log, .int .i64 s0.first, .int .i64 s0.size, .int .i64 s0.owner, .int .i64 s1.gen, .int .i64 s1.blocks, .int .i64 s1.log, .int .i64 s1.first, .int .i64 s1.size, .int .i64 s1.owner, .int .u8 (x0.toNat : Int), .int .u8 (x1.toNat : Int), .bool h0, .bool h1, .int .u8 (a0.toNat : Int), .int .u8 (a1.toNat : Int), .int .u8 (t0.toNat : Int), .int .u8 (t1.toNat : Int)] 40)).heap.size (w.alloc (.cells #[.int .i64 s0.gen, .int .i64 s0.blocks, .int .i64 s0.log, .int .i64 s0.first, .int .i64 s0.size, .int .i64 s0.owner, .int .i64 s1.gen, .int .i64 s1.blocks, .int .i64 s1.log, .int .i64 s1.first, .int .i64 s1.size, .int .i64 s1.owner, .int .u8 (x0.toNat : Int), .int .u8 (x1.toNat : Int), .bool h0, .bool h1, .int .u8 (a0.toNat : Int), .int .u8 (a1.toNat : Int), .int .u8 (t0.toNat : Int), .int .u8 (t1.toNat : Int)] 40)) wr)) (fun v _ _ _ _ _ => 2 - (intOf v).toNat)
  case atStart => exact ⟨0, by omega, rfl, L0, HL0, HO0, HB0⟩
  case round =>
    clear HL0 HO0 HB0
    obtain ⟨i, hi, rfl, L, HL, HO, hB⟩ := hrel
    by_cases hlt : i < 2
    · rcases (show i = 0 ∨ i = 1 by omega) with rfl | rfl
      ·
        have HS : Hid (∀ W, Below (w.alloc (.cells #[.int .i64 s0.gen, .int .i64 s0.blocks, .int .i64 s0.log, .int .i64 s0.first, .int .i64 s0.size, .int .i64 s0.owner, .int .i64 s1.gen, .int .i64 s1.blocks, .int .i64 s1.log, .int .i64 s1.first, .int .i64 s1.size, .int .i64 s1.owner, .int .u8 (x0.toNat : Int), .int .u8 (x1.toNat : Int), .bool h0, .bool h1, .int .u8 (a0.toNat : Int), .int .u8 (a1.toNat : Int), .int .u8 (t0.toNat : Int), .int .u8 (t1.toNat : Int)] 40)).heap.size (w.alloc (.cells #[.int .i64 s0.gen, .int .i64 s0.blocks, .int .i64 s0.log, .int .i64 s0.first, .int .i64 s0.size, .int .i64 s0.owner, .int .i64 s1.gen, .int .i64 s1.blocks, .int .i64 s1.log, .int .i64 s1.first, .int .i64 s1.size, .int .i64 s1.owner, .int .u8 (x0.toNat : Int), .int .u8 (x1.toNat : Int), .bool h0, .bool h1, .int .u8 (a0.toNat : Int), .int .u8 (a1.toNat : Int), .int .u8 (t0.toNat : Int), .int .u8 (t1.toNat : Int)] 40)) W → W.cell? ⟨w.heap.size, 0, none⟩ = some (.int .i64 s0.gen) ∧ W.cell? ⟨w.heap.size, 1, none⟩ = some (.int .i64 s0.blocks) ∧ W.cell? ⟨w.heap.size, 2, none⟩ = some (.int .i64 s0.log) ∧ W.cell? ⟨w.heap.size, 3, none⟩ = some (.int .i64 s0.first) ∧ W.cell? ⟨w.heap.size, 4, none⟩ = some (.int .i64 s0.size) ∧ W.cell? ⟨w.heap.size, 5, none⟩ = some (.int .i64 s0.owner)) := fun W hb => by
          have h1 := HBk.out W hb
          exact ⟨by rw [h1.cell]; rfl, by rw [h1.cell]; rfl, by rw [h1.cell]; rfl, by rw [h1.cell]; rfl, by rw [h1.cell]; rfl, by rw [h1.cell]; rfl⟩
        have HX : Hid (∀ W, Below (w.alloc (.cells #[.int .i64 s0.gen, .int .i64 s0.blocks, .int .i64 s0.log, .int .i64 s0.first, .int .i64 s0.size, .int .i64 s0.owner, .int .i64 s1.gen, .int .i64 s1.blocks, .int .i64 s1.log, .int .i64 s1.first, .int .i64 s1.size, .int .i64 s1.owner, .int .u8 (x0.toNat : Int), .int .u8 (x1.toNat : Int), .bool h0, .bool h1, .int .u8 (a0.toNat : Int), .int .u8 (a1.toNat : Int), .int .u8 (t0.toNat : Int), .int .u8 (t1.toNat : Int)] 40)).heap.size (w.alloc (.cells #[.int .i64 s0.gen, .int .i64 s0.blocks, .int .i64 s0.log, .int .i64 s0.first, .int .i64 s0.size, .int .i64 s0.owner, .int .i64 s1.gen, .int .i64 s1.blocks, .int .i64 s1.log, .int .i64 s1.first, .int .i64 s1.size, .int .i64 s1.owner, .int .u8 (x0.toNat : Int), .int .u8 (x1.toNat : Int), .bool h0, .bool h1, .int .u8 (a0.toNat : Int), .int .u8 (a1.toNat : Int), .int .u8 (t0.toNat : Int), .int .u8 (t1.toNat : Int)] 40)) W → W.cell? ⟨w.heap.size, 12, none⟩ = some (.int .u8 (x0.toNat : Int)) ∧ W.cell? ⟨w.heap.size, 14, none⟩ = some (.bool h0) ∧ W.cell? ⟨w.heap.size, 16, none⟩ = some (.int .u8 (a0.toNat : Int)) ∧ W.cell? ⟨w.heap.size, 18, none⟩ = some (.int .u8 (t0.toNat : Int))) := fun W hb => by
          have h1 := HBk.out W hb
          exact ⟨by rw [h1.cell]; rfl, by rw [h1.cell]; rfl, by rw [h1.cell]; rfl, by rw [h1.cell]; rfl⟩
        have HP : Hid (∀ W, Calls Try.prog 8 #[.agg #[.int .i64 s0.gen, .int .i64 s0.blocks, .int .i64 s0.log, .int .i64 s0.first, .int .i64 s0.size, .int .i64 s0.owner]] W fun e w' => ∃ (A : Option Addr) (q c : Nat) (z : Int), e = .returned (.tuple #[.slice A q c, .int .i64 z]) ∧ q ≤ 64 ∧ Hid (∃ P : List UInt8, q = P.length ∧ RB w' w'.heap.size A P) ∧ Hid (∀ ad, A = some ad → W.heap.size ≤ ad.block) ∧ Below W.heap.size W w') := fun W => rsput_any8 s0 W
        obtain ⟨r, hr⟩ : ∃ r, r = x0.toNat % 2 := ⟨_, rfl⟩
        obtain ⟨at_, hat⟩ : ∃ n, n = 256 * r := ⟨_, rfl⟩
        have hr2 : r < 2 := by omega
        have hx256 := x0.toNat_lt
        have y1 : (x0.toNat : Int).tmod 2 = (r : Int) := by rw [Int.tmod_eq_emod_of_nonneg (by omega)]; omega
        have y2 : IntKind.u8.wrap (r : Int) = (r : Int) := IntWalk.u8_in _ (by omega)
        have y3 : IntKind.i64.wrap (r : Int) = (r : Int) := IntWalk.i64_in _ (by omega)
        have y4 : (256 : Int) * (r : Int) = (at_ : Int) := by omega
        have y5 : IntKind.i64.wrap (at_ : Int) = (at_ : Int) := IntWalk.i64_in _ (by omega)
        have hat2 : at_ ≤ 256 := by omega
        obtain ⟨c0, c1, c2, c3, c4, c5⟩ := HS.out _ hB.out
        clear hr hat hr2 hx256
        go_wp2_with (first
          | (go_at_call 8; (with_reducible refine (HP.out _).mono ?_); rintro e w1 ⟨Ap, q, cp, ze, rfl, hq, hP, hNw, hb1⟩; have hNe := Lib.hid (ne_at8 HO.out hNw.out); have b1 := Lib.hid (hB.out.trans (hb1.mono hB.out.size)); have o1 := Lib.hid (own_kept HO.out hb1); obtain ⟨d0, d1, d2, d3⟩ := HX.out _ b1.out))
        clear c0 c1 c2 c3 c4 c5
        go_loopw [8] (fun v wi => ∃ k : Nat, k ≤ q ∧ v = .int .i64 (k : Int) ∧ ∃ M : List UInt8, Hid (M.length = 4096) ∧ Hid (∃ P : List UInt8, q = P.length ∧ RB wi wi.heap.size Ap P) ∧ Hid (wi.ownsRow g 5 1 (.slice (some ⟨g, 0, none⟩) 4096 4096) 4096 (cells M)) ∧ Hid (Below (w.alloc (.cells #[.int .i64 s0.gen, .int .i64 s0.blocks, .int .i64 s0.log, .int .i64 s0.first, .int .i64 s0.size, .int .i64 s0.owner, .int .i64 s1.gen, .int .i64 s1.blocks, .int .i64 s1.log, .int .i64 s1.first, .int .i64 s1.size, .int .i64 s1.owner, .int .u8 (x0.toNat : Int), .int .u8 (x1.toNat : Int), .bool h0, .bool h1, .int .u8 (a0.toNat : Int), .int .u8 (a1.toNat : Int), .int .u8 (t0.toNat : Int), .int .u8 (t1.toNat : Int)] 40)).heap.size (w.alloc (.cells #[.int .i64 s0.gen, .int .i64 s0.blocks, .int .i64 s0.log, .int .i64 s0.first, .int .i64 s0.size, .int .i64 s0.owner, .int .i64 s1.gen, .int .i64 s1.blocks, .int .i64 s1.log, .int .i64 s1.first, .int .i64 s1.size, .int .i64 s1.owner, .int .u8 (x0.toNat : Int), .int .u8 (x1.toNat : Int), .bool h0, .bool h1, .int .u8 (a0.toNat : Int), .int .u8 (a1.toNat : Int), .int .u8 (t0.toNat : Int), .int .u8 (t1.toNat : Int)] 40)) wi)) (fun v _ => q - (intOf v).toNat)
        case atStart => exact ⟨0, Nat.zero_le _, rfl, L, HL, hP, o1, b1⟩
        case round =>
          obtain ⟨k, hk, rfl, M, HMi, HPi, HOi, hBi⟩ := hrel
          by_cases hkq : k < q
          · have e1 : decide ((k : Int) < (q : Int)) = true := decide_eq_true (by omega)
            have e2 : decide (k < q) = true := decide_eq_true hkq
            obtain hh | hh : h0 = true ∨ h0 = false := by cases h0 <;> simp
            · by_cases hz : ze = 0
              · have e3 : (ze == 0) = true := by simpa using hz
                obtain ⟨P, hPl, hPr⟩ := HPi.out
                obtain ⟨bp, op, rfl, _, hPc⟩ := hPr.at_ (by omega)
                have pk := hPc k (by omega)
                obtain ⟨x0c, x1c, x2c, x3c⟩ := HX.out _ hBi.out
                rw [hh] at x1c
                obtain ⟨pb, hpb⟩ : ∃ b, b = P[k]'(by omega) := ⟨_, rfl⟩
                rw [← hpb] at pk
                obtain ⟨jj, hjj⟩ : ∃ n, n = at_ + k := ⟨_, rfl⟩
                have hjl : jj < 4096 := by omega
                have z2 : (at_ : Int) + (k : Int) = (jj : Int) := by omega
                have z3 : IntKind.i64.wrap (jj : Int) = (jj : Int) := IntWalk.i64_in _ (by omega)
                have z4 : IntKind.i64.wrap ((k : Int) + 1) = (k : Int) + 1 := IntWalk.i64_in _ (by omega)
                obtain ⟨ob, hob, hof⟩ := get_at8 HOi.out HMi.out hjl
                obtain ⟨N, hN, hNo⟩ := put_at8 (j := jj) HOi.out HMi.out pb
                have hPs := Lib.hid (store_rb8 (j := jj) hPr hNe.out (.int .u8 (pb.toNat : Int)))
                have hBn := Lib.hid (hBi.out.setCell (p := ⟨g, jj, none⟩) (by rw [HG.out]; exact Nat.le_refl _) (.int .u8 (pb.toNat : Int)))
                have HNo := Lib.hid hNo
                have HPl := Lib.hid hPl
                have HN := Lib.hid hN
                clear hjj hpb hPc hPr hNo hPl hN HOi HMi HPi hBi
                go_wp2
                refine ⟨⟨k + 1, by omega, by go_num, N, HN, ⟨P, HPl.out, hPs.out⟩, HNo, hBn⟩, ?_⟩
                simp [intOf]; omega
              · have e3 : (ze == 0) = false := by simpa using hz
                obtain ⟨x0c, x1c, x2c, x3c⟩ := HX.out _ hBi.out
                rw [hh] at x1c
                obtain ⟨jj, hjj⟩ : ∃ n, n = at_ + a0.toNat := ⟨_, rfl⟩
                have ha256 := a0.toNat_lt
                have hjl : jj < 4096 := by omega
                have z1 : IntKind.i64.wrap (a0.toNat : Int) = (a0.toNat : Int) := IntWalk.i64_in _ (by omega)
                have z2 : (at_ : Int) + (a0.toNat : Int) = (jj : Int) := by omega
                have z3 : IntKind.i64.wrap (jj : Int) = (jj : Int) := IntWalk.i64_in _ (by omega)
                obtain ⟨ob, hob, hof⟩ := get_at8 HOi.out HMi.out hjl
                obtain ⟨nb, hnb⟩ : ∃ b, b = ob ^^^ t0 := ⟨_, rfl⟩
                have hq1 : bits .xor .u8 (ob.toNat : Int) (t0.toNat : Int) = (nb.toNat : Int) := by rw [hnb, UInt8.toNat_xor]; exact u8_xor_nat _ _ ob.toNat_lt t0.toNat_lt
                have HNx : Hid (∃ M : List UInt8, M.length = 4096 ∧ (wr.setCell ⟨g, jj, none⟩ (.int .u8 (nb.toNat : Int))).ownsRow g 5 1 (.slice (some ⟨g, 0, none⟩) 4096 4096) 4096 (cells M)) := put_at8 HOi.out HMi.out nb
                have hBn := Lib.hid (hBi.out.setCell (p := ⟨g, jj, none⟩) (by rw [HG.out]; exact Nat.le_refl _) (.int .u8 (nb.toNat : Int)))
                clear hjj ha256 hnb HOi HMi
                go_wp2
                go_region
                go_wp2
                obtain ⟨M2, hM2, hO2⟩ := HNx.out
                refine ⟨⟨1, by omega, by go_num, M2, hM2, hO2, hBn.out.drew⟩, ?_⟩
                simp [intOf]
            ·
              obtain ⟨x0c, x1c, x2c, x3c⟩ := HX.out _ hBi.out
              rw [hh] at x1c
              obtain ⟨jj, hjj⟩ : ∃ n, n = at_ + a0.toNat := ⟨_, rfl⟩
              have ha256 := a0.toNat_lt
              have hjl : jj < 4096 := by omega
              have z1 : IntKind.i64.wrap (a0.toNat : Int) = (a0.toNat : Int) := IntWalk.i64_in _ (by omega)
              have z2 : (at_ : Int) + (a0.toNat : Int) = (jj : Int) := by omega
              have z3 : IntKind.i64.wrap (jj : Int) = (jj : Int) := IntWalk.i64_in _ (by omega)
              obtain ⟨ob, hob, hof⟩ := get_at8 HOi.out HMi.out hjl
              obtain ⟨nb, hnb⟩ : ∃ b, b = ob ^^^ t0 := ⟨_, rfl⟩
              have hq1 : bits .xor .u8 (ob.toNat : Int) (t0.toNat : Int) = (nb.toNat : Int) := by rw [hnb, UInt8.toNat_xor]; exact u8_xor_nat _ _ ob.toNat_lt t0.toNat_lt
              have HNx : Hid (∃ M : List UInt8, M.length = 4096 ∧ (wr.setCell ⟨g, jj, none⟩ (.int .u8 (nb.toNat : Int))).ownsRow g 5 1 (.slice (some ⟨g, 0, none⟩) 4096 4096) 4096 (cells M)) := put_at8 HOi.out HMi.out nb
              have hBn := Lib.hid (hBi.out.setCell (p := ⟨g, jj, none⟩) (by rw [HG.out]; exact Nat.le_refl _) (.int .u8 (nb.toNat : Int)))
              clear hjj ha256 hnb HOi HMi
              go_wp2
              go_region
              go_wp2
              obtain ⟨M2, hM2, hO2⟩ := HNx.out
              refine ⟨⟨1, by omega, by go_num, M2, hM2, hO2, hBn.out.drew⟩, ?_⟩
              simp [intOf]
          · obtain rfl : k = q := by omega
            have e1 : decide ((k : Int) < (k : Int)) = false := decide_eq_false (by omega)
            have e2 : decide (k < k) = false := decide_eq_false (by omega)
            obtain ⟨x0c, x1c, x2c, x3c⟩ := HX.out _ hBi.out
            obtain ⟨jj, hjj⟩ : ∃ n, n = at_ + a0.toNat := ⟨_, rfl⟩
            have ha256 := a0.toNat_lt
            have hjl : jj < 4096 := by omega
            have z1 : IntKind.i64.wrap (a0.toNat : Int) = (a0.toNat : Int) := IntWalk.i64_in _ (by omega)
            have z2 : (at_ : Int) + (a0.toNat : Int) = (jj : Int) := by omega
            have z3 : IntKind.i64.wrap (jj : Int) = (jj : Int) := IntWalk.i64_in _ (by omega)
            obtain ⟨ob, hob, hof⟩ := get_at8 HOi.out HMi.out hjl
            obtain ⟨nb, hnb⟩ : ∃ b, b = ob ^^^ t0 := ⟨_, rfl⟩
            have hq1 : bits .xor .u8 (ob.toNat : Int) (t0.toNat : Int) = (nb.toNat : Int) := by rw [hnb, UInt8.toNat_xor]; exact u8_xor_nat _ _ ob.toNat_lt t0.toNat_lt
            have HNx : Hid (∃ M : List UInt8, M.length = 4096 ∧ (wr.setCell ⟨g, jj, none⟩ (.int .u8 (nb.toNat : Int))).ownsRow g 5 1 (.slice (some ⟨g, 0, none⟩) 4096 4096) 4096 (cells M)) := put_at8 HOi.out HMi.out nb
            have hBn := Lib.hid (hBi.out.setCell (p := ⟨g, jj, none⟩) (by rw [HG.out]; exact Nat.le_refl _) (.int .u8 (nb.toNat : Int)))
            clear hjj ha256 hnb HOi HMi
            go_wp2
            go_region
            go_wp2
            obtain ⟨M2, hM2, hO2⟩ := HNx.out
            refine ⟨⟨1, by omega, by go_num, M2, hM2, hO2, hBn.out.drew⟩, ?_⟩
            simp [intOf]
      ·
        have HS : Hid (∀ W, Below (w.alloc (.cells #[.int .i64 s0.gen, .int .i64 s0.blocks, .int .i64 s0.log, .int .i64 s0.first, .int .i64 s0.size, .int .i64 s0.owner, .int .i64 s1.gen, .int .i64 s1.blocks, .int .i64 s1.log, .int .i64 s1.first, .int .i64 s1.size, .int .i64 s1.owner, .int .u8 (x0.toNat : Int), .int .u8 (x1.toNat : Int), .bool h0, .bool h1, .int .u8 (a0.toNat : Int), .int .u8 (a1.toNat : Int), .int .u8 (t0.toNat : Int), .int .u8 (t1.toNat : Int)] 40)).heap.size (w.alloc (.cells #[.int .i64 s0.gen, .int .i64 s0.blocks, .int .i64 s0.log, .int .i64 s0.first, .int .i64 s0.size, .int .i64 s0.owner, .int .i64 s1.gen, .int .i64 s1.blocks, .int .i64 s1.log, .int .i64 s1.first, .int .i64 s1.size, .int .i64 s1.owner, .int .u8 (x0.toNat : Int), .int .u8 (x1.toNat : Int), .bool h0, .bool h1, .int .u8 (a0.toNat : Int), .int .u8 (a1.toNat : Int), .int .u8 (t0.toNat : Int), .int .u8 (t1.toNat : Int)] 40)) W → W.cell? ⟨w.heap.size, 6, none⟩ = some (.int .i64 s1.gen) ∧ W.cell? ⟨w.heap.size, 7, none⟩ = some (.int .i64 s1.blocks) ∧ W.cell? ⟨w.heap.size, 8, none⟩ = some (.int .i64 s1.log) ∧ W.cell? ⟨w.heap.size, 9, none⟩ = some (.int .i64 s1.first) ∧ W.cell? ⟨w.heap.size, 10, none⟩ = some (.int .i64 s1.size) ∧ W.cell? ⟨w.heap.size, 11, none⟩ = some (.int .i64 s1.owner)) := fun W hb => by
          have h1 := HBk.out W hb
          exact ⟨by rw [h1.cell]; rfl, by rw [h1.cell]; rfl, by rw [h1.cell]; rfl, by rw [h1.cell]; rfl, by rw [h1.cell]; rfl, by rw [h1.cell]; rfl⟩
        have HX : Hid (∀ W, Below (w.alloc (.cells #[.int .i64 s0.gen, .int .i64 s0.blocks, .int .i64 s0.log, .int .i64 s0.first, .int .i64 s0.size, .int .i64 s0.owner, .int .i64 s1.gen, .int .i64 s1.blocks, .int .i64 s1.log, .int .i64 s1.first, .int .i64 s1.size, .int .i64 s1.owner, .int .u8 (x0.toNat : Int), .int .u8 (x1.toNat : Int), .bool h0, .bool h1, .int .u8 (a0.toNat : Int), .int .u8 (a1.toNat : Int), .int .u8 (t0.toNat : Int), .int .u8 (t1.toNat : Int)] 40)).heap.size (w.alloc (.cells #[.int .i64 s0.gen, .int .i64 s0.blocks, .int .i64 s0.log, .int .i64 s0.first, .int .i64 s0.size, .int .i64 s0.owner, .int .i64 s1.gen, .int .i64 s1.blocks, .int .i64 s1.log, .int .i64 s1.first, .int .i64 s1.size, .int .i64 s1.owner, .int .u8 (x0.toNat : Int), .int .u8 (x1.toNat : Int), .bool h0, .bool h1, .int .u8 (a0.toNat : Int), .int .u8 (a1.toNat : Int), .int .u8 (t0.toNat : Int), .int .u8 (t1.toNat : Int)] 40)) W → W.cell? ⟨w.heap.size, 13, none⟩ = some (.int .u8 (x1.toNat : Int)) ∧ W.cell? ⟨w.heap.size, 15, none⟩ = some (.bool h1) ∧ W.cell? ⟨w.heap.size, 17, none⟩ = some (.int .u8 (a1.toNat : Int)) ∧ W.cell? ⟨w.heap.size, 19, none⟩ = some (.int .u8 (t1.toNat : Int))) := fun W hb => by
          have h1 := HBk.out W hb
          exact ⟨by rw [h1.cell]; rfl, by rw [h1.cell]; rfl, by rw [h1.cell]; rfl, by rw [h1.cell]; rfl⟩
        have HP : Hid (∀ W, Calls Try.prog 8 #[.agg #[.int .i64 s1.gen, .int .i64 s1.blocks, .int .i64 s1.log, .int .i64 s1.first, .int .i64 s1.size, .int .i64 s1.owner]] W fun e w' => ∃ (A : Option Addr) (q c : Nat) (z : Int), e = .returned (.tuple #[.slice A q c, .int .i64 z]) ∧ q ≤ 64 ∧ Hid (∃ P : List UInt8, q = P.length ∧ RB w' w'.heap.size A P) ∧ Hid (∀ ad, A = some ad → W.heap.size ≤ ad.block) ∧ Below W.heap.size W w') := fun W => rsput_any8 s1 W
        obtain ⟨r, hr⟩ : ∃ r, r = x1.toNat % 2 := ⟨_, rfl⟩
        obtain ⟨at_, hat⟩ : ∃ n, n = 256 * r := ⟨_, rfl⟩
        have hr2 : r < 2 := by omega
        have hx256 := x1.toNat_lt
        have y1 : (x1.toNat : Int).tmod 2 = (r : Int) := by rw [Int.tmod_eq_emod_of_nonneg (by omega)]; omega
        have y2 : IntKind.u8.wrap (r : Int) = (r : Int) := IntWalk.u8_in _ (by omega)
        have y3 : IntKind.i64.wrap (r : Int) = (r : Int) := IntWalk.i64_in _ (by omega)
        have y4 : (256 : Int) * (r : Int) = (at_ : Int) := by omega
        have y5 : IntKind.i64.wrap (at_ : Int) = (at_ : Int) := IntWalk.i64_in _ (by omega)
        have hat2 : at_ ≤ 256 := by omega
        obtain ⟨c0, c1, c2, c3, c4, c5⟩ := HS.out _ hB.out
        clear hr hat hr2 hx256
        go_wp2_with (first
          | (go_at_call 8; (with_reducible refine (HP.out _).mono ?_); rintro e w1 ⟨Ap, q, cp, ze, rfl, hq, hP, hNw, hb1⟩; have hNe := Lib.hid (ne_at8 HO.out hNw.out); have b1 := Lib.hid (hB.out.trans (hb1.mono hB.out.size)); have o1 := Lib.hid (own_kept HO.out hb1); obtain ⟨d0, d1, d2, d3⟩ := HX.out _ b1.out))
        clear c0 c1 c2 c3 c4 c5
        go_loopw [8] (fun v wi => ∃ k : Nat, k ≤ q ∧ v = .int .i64 (k : Int) ∧ ∃ M : List UInt8, Hid (M.length = 4096) ∧ Hid (∃ P : List UInt8, q = P.length ∧ RB wi wi.heap.size Ap P) ∧ Hid (wi.ownsRow g 5 1 (.slice (some ⟨g, 0, none⟩) 4096 4096) 4096 (cells M)) ∧ Hid (Below (w.alloc (.cells #[.int .i64 s0.gen, .int .i64 s0.blocks, .int .i64 s0.log, .int .i64 s0.first, .int .i64 s0.size, .int .i64 s0.owner, .int .i64 s1.gen, .int .i64 s1.blocks, .int .i64 s1.log, .int .i64 s1.first, .int .i64 s1.size, .int .i64 s1.owner, .int .u8 (x0.toNat : Int), .int .u8 (x1.toNat : Int), .bool h0, .bool h1, .int .u8 (a0.toNat : Int), .int .u8 (a1.toNat : Int), .int .u8 (t0.toNat : Int), .int .u8 (t1.toNat : Int)] 40)).heap.size (w.alloc (.cells #[.int .i64 s0.gen, .int .i64 s0.blocks, .int .i64 s0.log, .int .i64 s0.first, .int .i64 s0.size, .int .i64 s0.owner, .int .i64 s1.gen, .int .i64 s1.blocks, .int .i64 s1.log, .int .i64 s1.first, .int .i64 s1.size, .int .i64 s1.owner, .int .u8 (x0.toNat : Int), .int .u8 (x1.toNat : Int), .bool h0, .bool h1, .int .u8 (a0.toNat : Int), .int .u8 (a1.toNat : Int), .int .u8 (t0.toNat : Int), .int .u8 (t1.toNat : Int)] 40)) wi)) (fun v _ => q - (intOf v).toNat)
        case atStart => exact ⟨0, Nat.zero_le _, rfl, L, HL, hP, o1, b1⟩
        case round =>
          obtain ⟨k, hk, rfl, M, HMi, HPi, HOi, hBi⟩ := hrel
          by_cases hkq : k < q
          · have e1 : decide ((k : Int) < (q : Int)) = true := decide_eq_true (by omega)
            have e2 : decide (k < q) = true := decide_eq_true hkq
            obtain hh | hh : h1 = true ∨ h1 = false := by cases h1 <;> simp
            · by_cases hz : ze = 0
              · have e3 : (ze == 0) = true := by simpa using hz
                obtain ⟨P, hPl, hPr⟩ := HPi.out
                obtain ⟨bp, op, rfl, _, hPc⟩ := hPr.at_ (by omega)
                have pk := hPc k (by omega)
                obtain ⟨x0c, x1c, x2c, x3c⟩ := HX.out _ hBi.out
                rw [hh] at x1c
                obtain ⟨pb, hpb⟩ : ∃ b, b = P[k]'(by omega) := ⟨_, rfl⟩
                rw [← hpb] at pk
                obtain ⟨jj, hjj⟩ : ∃ n, n = at_ + k := ⟨_, rfl⟩
                have hjl : jj < 4096 := by omega
                have z2 : (at_ : Int) + (k : Int) = (jj : Int) := by omega
                have z3 : IntKind.i64.wrap (jj : Int) = (jj : Int) := IntWalk.i64_in _ (by omega)
                have z4 : IntKind.i64.wrap ((k : Int) + 1) = (k : Int) + 1 := IntWalk.i64_in _ (by omega)
                obtain ⟨ob, hob, hof⟩ := get_at8 HOi.out HMi.out hjl
                obtain ⟨N, hN, hNo⟩ := put_at8 (j := jj) HOi.out HMi.out pb
                have hPs := Lib.hid (store_rb8 (j := jj) hPr hNe.out (.int .u8 (pb.toNat : Int)))
                have hBn := Lib.hid (hBi.out.setCell (p := ⟨g, jj, none⟩) (by rw [HG.out]; exact Nat.le_refl _) (.int .u8 (pb.toNat : Int)))
                have HNo := Lib.hid hNo
                have HPl := Lib.hid hPl
                have HN := Lib.hid hN
                clear hjj hpb hPc hPr hNo hPl hN HOi HMi HPi hBi
                go_wp2
                refine ⟨⟨k + 1, by omega, by go_num, N, HN, ⟨P, HPl.out, hPs.out⟩, HNo, hBn⟩, ?_⟩
                simp [intOf]; omega
              · have e3 : (ze == 0) = false := by simpa using hz
                obtain ⟨x0c, x1c, x2c, x3c⟩ := HX.out _ hBi.out
                rw [hh] at x1c
                obtain ⟨jj, hjj⟩ : ∃ n, n = at_ + a1.toNat := ⟨_, rfl⟩
                have ha256 := a1.toNat_lt
                have hjl : jj < 4096 := by omega
                have z1 : IntKind.i64.wrap (a1.toNat : Int) = (a1.toNat : Int) := IntWalk.i64_in _ (by omega)
                have z2 : (at_ : Int) + (a1.toNat : Int) = (jj : Int) := by omega
                have z3 : IntKind.i64.wrap (jj : Int) = (jj : Int) := IntWalk.i64_in _ (by omega)
                obtain ⟨ob, hob, hof⟩ := get_at8 HOi.out HMi.out hjl
                obtain ⟨nb, hnb⟩ : ∃ b, b = ob ^^^ t1 := ⟨_, rfl⟩
                have hq1 : bits .xor .u8 (ob.toNat : Int) (t1.toNat : Int) = (nb.toNat : Int) := by rw [hnb, UInt8.toNat_xor]; exact u8_xor_nat _ _ ob.toNat_lt t1.toNat_lt
                have HNx : Hid (∃ M : List UInt8, M.length = 4096 ∧ (wr.setCell ⟨g, jj, none⟩ (.int .u8 (nb.toNat : Int))).ownsRow g 5 1 (.slice (some ⟨g, 0, none⟩) 4096 4096) 4096 (cells M)) := put_at8 HOi.out HMi.out nb
                have hBn := Lib.hid (hBi.out.setCell (p := ⟨g, jj, none⟩) (by rw [HG.out]; exact Nat.le_refl _) (.int .u8 (nb.toNat : Int)))
                clear hjj ha256 hnb HOi HMi
                go_wp2
                go_region
                go_wp2
                obtain ⟨M2, hM2, hO2⟩ := HNx.out
                refine ⟨⟨2, by omega, by go_num, M2, hM2, hO2, hBn.out.drew⟩, ?_⟩
                simp [intOf]
            ·
              obtain ⟨x0c, x1c, x2c, x3c⟩ := HX.out _ hBi.out
              rw [hh] at x1c
              obtain ⟨jj, hjj⟩ : ∃ n, n = at_ + a1.toNat := ⟨_, rfl⟩
              have ha256 := a1.toNat_lt
              have hjl : jj < 4096 := by omega
              have z1 : IntKind.i64.wrap (a1.toNat : Int) = (a1.toNat : Int) := IntWalk.i64_in _ (by omega)
              have z2 : (at_ : Int) + (a1.toNat : Int) = (jj : Int) := by omega
              have z3 : IntKind.i64.wrap (jj : Int) = (jj : Int) := IntWalk.i64_in _ (by omega)
              obtain ⟨ob, hob, hof⟩ := get_at8 HOi.out HMi.out hjl
              obtain ⟨nb, hnb⟩ : ∃ b, b = ob ^^^ t1 := ⟨_, rfl⟩
              have hq1 : bits .xor .u8 (ob.toNat : Int) (t1.toNat : Int) = (nb.toNat : Int) := by rw [hnb, UInt8.toNat_xor]; exact u8_xor_nat _ _ ob.toNat_lt t1.toNat_lt
              have HNx : Hid (∃ M : List UInt8, M.length = 4096 ∧ (wr.setCell ⟨g, jj, none⟩ (.int .u8 (nb.toNat : Int))).ownsRow g 5 1 (.slice (some ⟨g, 0, none⟩) 4096 4096) 4096 (cells M)) := put_at8 HOi.out HMi.out nb
              have hBn := Lib.hid (hBi.out.setCell (p := ⟨g, jj, none⟩) (by rw [HG.out]; exact Nat.le_refl _) (.int .u8 (nb.toNat : Int)))
              clear hjj ha256 hnb HOi HMi
              go_wp2
              go_region
              go_wp2
              obtain ⟨M2, hM2, hO2⟩ := HNx.out
              refine ⟨⟨2, by omega, by go_num, M2, hM2, hO2, hBn.out.drew⟩, ?_⟩
              simp [intOf]
          · obtain rfl : k = q := by omega
            have e1 : decide ((k : Int) < (k : Int)) = false := decide_eq_false (by omega)
            have e2 : decide (k < k) = false := decide_eq_false (by omega)
            obtain ⟨x0c, x1c, x2c, x3c⟩ := HX.out _ hBi.out
            obtain ⟨jj, hjj⟩ : ∃ n, n = at_ + a1.toNat := ⟨_, rfl⟩
            have ha256 := a1.toNat_lt
            have hjl : jj < 4096 := by omega
            have z1 : IntKind.i64.wrap (a1.toNat : Int) = (a1.toNat : Int) := IntWalk.i64_in _ (by omega)
            have z2 : (at_ : Int) + (a1.toNat : Int) = (jj : Int) := by omega
            have z3 : IntKind.i64.wrap (jj : Int) = (jj : Int) := IntWalk.i64_in _ (by omega)
            obtain ⟨ob, hob, hof⟩ := get_at8 HOi.out HMi.out hjl
            obtain ⟨nb, hnb⟩ : ∃ b, b = ob ^^^ t1 := ⟨_, rfl⟩
            have hq1 : bits .xor .u8 (ob.toNat : Int) (t1.toNat : Int) = (nb.toNat : Int) := by rw [hnb, UInt8.toNat_xor]; exact u8_xor_nat _ _ ob.toNat_lt t1.toNat_lt
            have HNx : Hid (∃ M : List UInt8, M.length = 4096 ∧ (wr.setCell ⟨g, jj, none⟩ (.int .u8 (nb.toNat : Int))).ownsRow g 5 1 (.slice (some ⟨g, 0, none⟩) 4096 4096) 4096 (cells M)) := put_at8 HOi.out HMi.out nb
            have hBn := Lib.hid (hBi.out.setCell (p := ⟨g, jj, none⟩) (by rw [HG.out]; exact Nat.le_refl _) (.int .u8 (nb.toNat : Int)))
            clear hjj ha256 hnb HOi HMi
            go_wp2
            go_region
            go_wp2
            obtain ⟨M2, hM2, hO2⟩ := HNx.out
            refine ⟨⟨2, by omega, by go_num, M2, hM2, hO2, hBn.out.drew⟩, ?_⟩
            simp [intOf]
    · obtain rfl : i = 2 := by omega
      have HR : Hid (∃ L : List UInt8, L.length = 4096 ∧ RB wr wr.heap.size (some ⟨g, 0, none⟩) L) := ⟨L, HL.out, by
        refine Reads.of_own (base := g) (e := 5) (c := 4096) ?_
        rw [HL.out]; exact HO.out⟩
      have HE := Lib.hid (HBo.out.trans (hB.out.mono HBo.out.size))
      clear HL HO hB
      go_wp2
      go_ret
      exact ⟨g, rfl, HR, HE.out⟩
end Go.Proofs.Ytkockhggnbfahaa
