/- Lemmas under the proofs of this place: ChainPRows, DiskPCrash, ChainPAre. No statement is proved here. -/
import Derived.Test.YtonnkibcnhjelaaGreatDoorBu24
import Derived.Test.YtonnkibcnhjelaaGreatDoorBu13
import Derived.Test.YtonnkibcnhjelaaGreatDoorBu09
import Derived.Test.YtonnkibcnhjelaaGreatDoorBu02
import Derived.Test.YtonnkibcnhjelaaGreatDoorBu05
import Derived.Test.YtonnkibcnhjelaaGreatDoorBu16
section
set_option linter.unusedVariables false
namespace Go.Proofs.YtonnkibcnhjelaaGreatDoor
open Go.RowKit
theorem own_apart10 {w : World} {b1 b2 n1 n2 s1 s2 : Nat} {t1 t2 : TypeId} {v1 v2 : Value} {x1 x2 : List Value} (h1 : w.ownsRow b1 t1 s1 v1 n1 x1) (h2 : w.ownsRow b2 t2 s2 v2 n2 x2) (ht : t1 ≠ t2) : v1.ownBlock = none ∨ v1.ownBlock ≠ v2.ownBlock := by
  rcases h1.2 with ⟨rfl, _⟩ | ⟨g, cap, cur, rfl, hb, hg, _⟩
  · exact .inl rfl
  · rcases h2.2 with ⟨rfl, _⟩ | ⟨g2, cap2, cur2, rfl, hb2, hg2, _⟩
    · exact .inr (by simp [Value.ownBlock])
    · refine .inr (fun e => ?_)
      have e2 : g = g2 := by simpa [Value.ownBlock] using e
      subst e2
      rw [hg] at hg2
      injection hg2 with h3
      injection h3 with _ h4
      exact ht h4
theorem rb_grown10 {w w' : World} {row : Option Nat} {A : Option Addr} {L : List UInt8} (h : RB w w.heap.size A L) (hg : w.grownBy w' row) (hn : ∀ ad, A = some ad → row ≠ some ad.block) : RB w' w'.heap.size A L :=
  (Reads.turns (F := fun k => row = some k) h (Nat.le_refl _) (Turns.grown hg (fun k e => e)) hn).more hg.size
theorem disk_grown10 {w w' : World} {row : Option Nat} {g B : Nat} {F : Nat → Prop} {D : Dk} (hp : PDisk w g F D) (hF : ∀ k, F k → k < B) (hg : w.grownBy w' row) (hr : ∀ k, row = some k → B ≤ k) : PDisk w' g F D :=
  hp.turns (E := fun k => row = some k) (Turns.grown hg (fun k e => e)) (fun k hk e => by have := hF k hk; have := hr k e; omega)
theorem only_grown10 {a w w' : World} {row : Option Nat} {g : Nat} (h : Only a w g) (hg : w.grownBy w' row) (hr : ∀ k, row = some k → a.heap.size ≤ k) : Only a w' g :=
  ⟨hg.os.trans h.os, hg.tape.trans h.tape, hg.output.trans h.output, Nat.le_trans h.size hg.size, fun k hk hn => (hg.block k (Nat.lt_of_lt_of_le hk h.size) (fun e => by have := hr k e.symm; omega)).trans (h.block k hk hn)⟩
structure FR (B g : Nat) (L : Value) (m : Nat) (P : Value) (q : Nat) (rows : List (Ce × Option Addr × Nat)) (ps : List Int) (w : World) : Prop where
  ownL : w.ownsRow B 64 4 L m (rowE rows)
  ownP : w.ownsRow B 3 1 P q (zcells ps)
  lenR : rows.length = m
  lenP : ps.length = q
  dat : ∀ x ∈ rows, RB w w.heap.size x.2.1 x.1.data ∧ ∀ ad, x.2.1 = some ad → B ≤ ad.block ∧ ad.block < w.heap.size ∧ L.ownBlock ≠ some ad.block ∧ P.ownBlock ≠ some ad.block
  gB : g < B
section
variable {B g m q : Nat} {L L' P P' : Value} {rows : List (Ce × Option Addr × Nat)} {ps : List Int} {w w' : World}
theorem FR.only (h : FR B g L m P q rows ps w) (ho : Only w w' g) : FR B g L m P q rows ps w' := by
  have hL : ∀ k, L.ownBlock = some k → k ≠ g := fun k hk => by have := (h.ownL.lt k hk).1; have := h.gB; omega
  have hP : ∀ k, P.ownBlock = some k → k ≠ g := fun k hk => by have := (h.ownP.lt k hk).1; have := h.gB; omega
  refine ⟨own_only h.ownL ho (fun e => hL g e rfl), own_only h.ownP ho (fun e => hP g e rfl), h.lenR, h.lenP, fun x hx => ?_, h.gB⟩
  obtain ⟨h1, h2⟩ := h.dat x hx
  refine ⟨rb_grown10 h1 ho (fun ad e e2 => ?_), fun ad e => ?_⟩
  · injection e2 with e2
    have := (h2 ad e).1; have := h.gB; omega
  · obtain ⟨a1, a2, a3, a4⟩ := h2 ad e
    exact ⟨a1, Nat.lt_of_lt_of_le a2 ho.size, a3, a4⟩
theorem FR.below (h : FR B g L m P q rows ps w) (hb : Below w.heap.size w w') : FR B g L m P q rows ps w' := h.only (only_below hb g)
theorem FR.pushL (h : FR B g L m P q rows ps w) (x : Ce × Option Addr × Nat) (ho : w'.ownsRow B 64 4 L' (m + 1) (rowE rows ++ ceC x)) (hg : w.grownBy w' L.ownBlock) (hat : L'.ownBlock = L.ownBlock ∨ L'.ownBlock = some w.heap.size)
    (hr : RB w w.heap.size x.2.1 x.1.data) (hx : ∀ ad, x.2.1 = some ad → B ≤ ad.block ∧ ad.block < w.heap.size ∧ L.ownBlock ≠ some ad.block ∧ P.ownBlock ≠ some ad.block) : FR B g L' (m + 1) P q (rows ++ [x]) ps w' := by
  have hk : ∀ y : Ce × Option Addr × Nat, RB w w.heap.size y.2.1 y.1.data → (∀ ad, y.2.1 = some ad → B ≤ ad.block ∧ ad.block < w.heap.size ∧ L.ownBlock ≠ some ad.block ∧ P.ownBlock ≠ some ad.block) → RB w' w'.heap.size y.2.1 y.1.data ∧ ∀ ad, y.2.1 = some ad → B ≤ ad.block ∧ ad.block < w'.heap.size ∧ L'.ownBlock ≠ some ad.block ∧ P.ownBlock ≠ some ad.block := fun y h1 h2 => by
    refine ⟨rb_grown10 h1 hg (fun ad e => (h2 ad e).2.2.1), fun ad e => ?_⟩
    obtain ⟨a1, a2, a3, a4⟩ := h2 ad e
    refine ⟨a1, Nat.lt_of_lt_of_le a2 hg.size, ?_, a4⟩
    rcases hat with e2 | e2
    · rw [e2]; exact a3
    · rw [e2]; intro e3; injection e3 with e3; omega
  refine ⟨by rw [rowE_snoc]; exact ho, h.ownP.kept hg (own_apart10 h.ownP h.ownL (by decide)), by simp [h.lenR], h.lenP, fun y hy => ?_, h.gB⟩
  rcases List.mem_append.1 hy with hy | hy
  · exact hk y (h.dat y hy).1 (h.dat y hy).2
  · rw [List.mem_singleton.1 hy]; exact hk x hr hx
theorem FR.pushP (h : FR B g L m P q rows ps w) (z : Int) (ho : w'.ownsRow B 3 1 P' (q + 1) (zcells ps ++ [.int .i64 z])) (hg : w.grownBy w' P.ownBlock) (hat : P'.ownBlock = P.ownBlock ∨ P'.ownBlock = some w.heap.size) : FR B g L m P' (q + 1) rows (ps ++ [z]) w' := by
  refine ⟨h.ownL.kept hg (own_apart10 h.ownL h.ownP (by decide)), by rw [zcells_append]; exact ho, h.lenR, by simp [h.lenP], fun y hy => ?_, h.gB⟩
  obtain ⟨h1, h2⟩ := h.dat y hy
  refine ⟨rb_grown10 h1 hg (fun ad e => (h2 ad e).2.2.2), fun ad e => ?_⟩
  obtain ⟨a1, a2, a3, a4⟩ := h2 ad e
  refine ⟨a1, Nat.lt_of_lt_of_le a2 hg.size, a3, ?_⟩
  rcases hat with e2 | e2
  · rw [e2]; exact a4
  · rw [e2]; intro e3; injection e3 with e3; omega
end
theorem four_src10 (w : World) (v0 v1 v2 v3 : Value) (t : TypeId) : Reads (w.alloc (.cells #[v0, v1, v2, v3] t)) (w.heap.size + 1) 4 (some ⟨w.heap.size, 0, none⟩) 1 [v0, v1, v2, v3] := by
  refine ⟨rfl, fun _ => ⟨_, rfl, by simp, fun j u hu => ?_⟩⟩
  rw [zadd_at]
  have h0 : Blk (w.alloc (.cells #[v0, v1, v2, v3] t)) w.heap.size t #[v0, v1, v2, v3] := Blk.new w t _
  rw [Nat.zero_add, h0.cell]
  simpa using hu
theorem one_src10 (w : World) (v0 : Value) (t : TypeId) : Reads (w.alloc (.cells #[v0] t)) (w.heap.size + 1) 1 (some ⟨w.heap.size, 0, none⟩) 1 [v0] := by
  refine ⟨rfl, fun _ => ⟨_, rfl, by simp, fun j u hu => ?_⟩⟩
  rw [zadd_at]
  have h0 : Blk (w.alloc (.cells #[v0] t)) w.heap.size t #[v0] := Blk.new w t _
  rw [Nat.zero_add, h0.cell]
  simpa using hu
end Go.Proofs.YtonnkibcnhjelaaGreatDoor
end
section
set_option linter.unusedVariables false
namespace Go.Proofs.YtonnkibcnhjelaaGreatDoor
open Go.RowKit
theorem i64_and1 (n : Int) : bits .and .i64 n 1 = n % 2 := by
  have h1 : (BitVec.ofInt 64 1).toNat = 2 ^ 1 - 1 := by decide
  have key : (BitVec.ofInt 64 n &&& BitVec.ofInt 64 1).toNat = (n % ((2 ^ 64 : Nat) : Int)).toNat % 2 ^ 1 := by
    rw [BitVec.toNat_and, BitVec.toNat_ofInt, h1, Nat.and_two_pow_sub_one_eq_mod]
  show IntKind.i64.wrap ((BitVec.ofInt 64 n &&& BitVec.ofInt 64 1).toNat : Nat) = n % 2
  rw [key, IntKind.wrap_i64]
  omega
theorem bit_test (m : Int) (k : Nat) : (bits BinOp.and IntKind.i64 (m / 2 ^ k) 1 == 1) = Dk.bitOf m k := by
  rw [i64_and1]
  unfold Dk.bitOf
  by_cases h : m / 2 ^ k % 2 = 1 <;> simp [h]
set_option maxRecDepth 100000 in
set_option maxHeartbeats 4000000 in
theorem keep_any {w : World} {a n ca gv o xn : Nat} {L xb : List UInt8} (m : Int) (hA : Arr w a L) (hx : w.cell? ⟨gv, o, none⟩ = some (.int .i64 (xn : Int))) (hb : ∀ j, j < 256 → w.cell? ⟨gv, o + 1 + j, none⟩ = (cells xb)[j]?) (hva : gv ≠ a) (hvl : gv < w.heap.size)
    (h256 : xb.length = 256) (hn : n = L.length) (hfit : 256 * xn + 256 ≤ L.length) (hbig : L.length ≤ 1000000) (hc : n ≤ ca ∧ ca ≤ 9223372036854775807) :
    Calls Tryz.prog 48 #[.slice (some ⟨a, 0, none⟩) n ca, .pointer (some ⟨gv, o, none⟩), .int .i64 m] w fun e w' => e = .returned (.tuple #[]) ∧ Turns w w' (fun k => k = a) (fun k => k = a) ∧ Arr w' a (splice L (256 * xn) (Dk.torn ((L.drop (256 * xn)).take 256) xb m)) := by
  obtain ⟨was, hwas⟩ : ∃ was, was = (L.drop (256 * xn)).take 256 := ⟨_, rfl⟩
  have hwl : was.length = 256 := by rw [hwas]; simp; omega
  rw [← hwas]
  have HBl := Lib.hid (fun W => block_of a n ca xn W (by omega) (by omega) hc.1 hc.2)
  have Hca : Hid (256 * xn + 256 ≤ ca) := by show _ ≤ _; omega
  have H0 : Hid (splice L (256 * xn) was = L) := by show _ = _; rw [hwas]; exact Dk.splice_self _ _ _ hfit
  have HA := Lib.hid hA
  have Hw := Lib.hid hwl
  have Hx := Lib.hid h256
  have Hb := Lib.hid hb
  have Hf := Lib.hid hfit
  clear hwas hA hwl h256 hb hfit hn hbig hc
  go_enter Tryz.func48, Tryz.ntmps48
  go_wp2_with (first
    | (go_at_call 46; (with_reducible refine (HBl.out _).mono ?_); rintro e w6 ⟨rfl, rfl⟩))
  go_loopw [15] (fun x wr => ∃ k : Nat, k ≤ 4 ∧ x = .int .i64 (k : Int) ∧ Hid (Turns w wr (fun k => k = a) (fun k => k = a)) ∧ Hid (Arr wr a (splice L (256 * xn) (Dk.tornK was xb m k)))) (fun x _ => 4 - (intOf x).toNat)
  case atStart => exact ⟨0, by omega, rfl, Turns.refl _ _, by show Arr _ _ _; rw [Dk.tornK, H0.out]; exact HA.out⟩
  case round =>
    obtain ⟨k, hk, rfl, HT, HK⟩ := hrel
    by_cases hlt : k < 4
    · have u0 : (0 : Int) ≤ (k : Int) := by omega
      have u1 : (k : Int) < 4 := by omega
      obtain ⟨bt, hbt⟩ : ∃ bt, bt = Dk.bitOf m k := ⟨_, rfl⟩
      have bt1 : (bits BinOp.and IntKind.i64 (m / 2 ^ k) 1 == 1) = bt := by rw [hbt]; exact bit_test m k
      have HKK := HK.out
      rcases bt with _ | _
      · have HN : Hid (Arr wr a (splice L (256 * xn) (Dk.tornK was xb m (k + 1)))) := by
          show Arr _ _ _
          rw [Dk.tornK, ← hbt]; exact HKK
        clear hbt HKK HK
        go_wp2
        refine ⟨⟨k + 1, by omega, by go_num, HT, HN⟩, ?_⟩
        simp [intOf]; omega
      · obtain ⟨sp, hsp⟩ := HKK
        obtain ⟨q, hq⟩ : ∃ q, q = 64 * k := ⟨_, rfl⟩
        have e1 : (k : Int) * 64 = (q : Int) := by omega
        have e2 : IntKind.i64.wrap ((q : Int) + 64) = (q : Int) + 64 := IntWalk.i64_in _ (by omega)
        have v0 : (0 : Int) ≤ (q : Int) := by omega
        have v1 : (q : Int) < 256 := by omega
        have HS1 := fun W => sl_both a (256 * xn) 256 (ca - 256 * xn) q (q + 64) (q : Int) ((q : Int) + 64) rfl (by omega) (by omega) (by have := Hca.out; omega) (by have := Hca.out; omega) W
        have HS2 := fun W => sa_from gv (o + 1) q (q : Int) rfl (by omega) W
        rw [show q + 64 - q = 64 by omega] at HS1
        have hts : (Dk.tornK was xb m k).length = 256 := Dk.tornK_length was xb m Hw.out Hx.out k hk
        have hse : (Dk.sector xb k).length = 64 := Dk.sector_length xb Hx.out k hlt
        have hspl : (splice L (256 * xn) (Dk.tornK was xb m k)).length = L.length := length_splice _ _ _ (by rw [hts]; exact Hf.out)
        have HNew : Hid (∀ w7, Hid (Blk w7 a 5 (splice (cells (splice L (256 * xn) (Dk.tornK was xb m k)) ++ sp) (256 * xn + q) (cells (Dk.sector xb k))).toArray) → Arr w7 a (splice L (256 * xn) (Dk.tornK was xb m (k + 1)))) := by
          intro w7 h7
          have h7 := h7.out
          rw [splice_cells _ _ _ _ (by rw [hspl, hse]; have := Hf.out; omega), Dk.splice_in _ _ (by rw [hts]; exact Hf.out) (by rw [hts, hse]; omega)] at h7
          refine ⟨sp, ?_⟩
          rw [Dk.tornK, ← hbt, if_pos rfl, ← hq]
          exact h7
        have Hcp : Hid ((cells (Dk.sector xb k)).length = Nat.min (256 - q) 64) := by
          show _ = _
          rw [cells_length, hse]
          have : (256 - q).min 64 = min (256 - q) 64 := rfl
          omega
        have Hft : Hid (256 * xn + q + (cells (Dk.sector xb k)).length ≤ (cells (splice L (256 * xn) (Dk.tornK was xb m k)) ++ sp).length) := by
          show _ ≤ _
          rw [List.length_append, cells_length, cells_length, hspl, hse]
          have := Hf.out
          omega
        have hcur := hsp
        obtain ⟨cur, hcc⟩ : ∃ cur, cur = cells (splice L (256 * xn) (Dk.tornK was xb m k)) ++ sp := ⟨_, rfl⟩
        rw [← hcc] at hsp HNew Hft
        obtain ⟨sec, hsec⟩ : ∃ sec, sec = Dk.sector xb k := ⟨_, rfl⟩
        have Hsrc : Hid (∀ j v, (cells sec)[j]? = some v → wr.cell? ((⟨gv, o + 1 + q, none⟩ : Addr).add j) = some v) := by
          intro j v hv
          have hj : j < 64 := by have := (List.getElem?_eq_some_iff.1 hv).1; rw [cells_length, hsec, hse] at this; exact this
          rw [add_at, HT.out.cell (p := ⟨gv, o + 1 + q + j, none⟩) hvl hva, show o + 1 + q + j = o + 1 + (q + j) by omega, Hb.out (q + j) (by omega), ← hv, hsec]
          unfold Dk.sector
          rw [← cells_take, ← cells_drop, List.getElem?_take, if_pos hj, List.getElem?_drop, hq]
        rw [← hsec] at HNew Hcp Hft
        have Hsp := Lib.hid hsp
        clear hbt hq hts hse hspl hsp hcur hcc hsec
        go_wp2
        refine wp_region_any (by kernel_rfl) ?_
        change wpAny _ _ _ _ _ _ _ (World.drew _)
        refine any_as (a' := ⟨#[.slice (some ⟨a, 0, none⟩) n ca, .pointer (some ⟨gv, o, none⟩), .int .i64 m, undef, undef, undef, .slice (some ⟨a, 256 * xn, none⟩) 256 (ca - 256 * xn), .int .i64 (k : Int), .int .i64 (q : Int), .slice (some ⟨a, 0, none⟩) n ca, .pointer (some ⟨gv, o, none⟩), .pointer (some ⟨gv, o, none⟩), .pointer (some ⟨gv, o, none⟩), .int .i64 (xn : Int), .slice (some ⟨a, 256 * xn, none⟩) 256 (ca - 256 * xn), .int .i64 (k : Int), .bool true, .int .i64 (k : Int), .int .i64 m, .int .i64 (k : Int), .int .i64 (m / 2 ^ k), .int .i64 (bits .and .i64 (m / 2 ^ k) 1), .bool true, .int .i64 (k : Int), .int .i64 (q : Int), u25, u26, u27, u28, u29, u30, u31, u32, u33, u34, u35, u36], []⟩) (by kernel_rfl) (listed' := #[false, false, false, false, false, false, false, false, false, false, false]) (by kernel_rfl) ?_
        refine any_pure (i := 0) (.slice (some ⟨a, 256 * xn, none⟩) 256 (ca - 256 * xn)) rfl (by kernel_rfl) (by kernel_rfl) (by kernel_rfl) (by kernel_rfl) (fun W => by kernel_rfl) (by kernel_rfl) (by kernel_rfl) (fun _ _ _ h => h) (listed' := #[true, false, false, false, false, false, false, false, false, false, false]) (a' := ⟨#[.slice (some ⟨a, 0, none⟩) n ca, .pointer (some ⟨gv, o, none⟩), .int .i64 m, undef, undef, undef, .slice (some ⟨a, 256 * xn, none⟩) 256 (ca - 256 * xn), .int .i64 (k : Int), .int .i64 (q : Int), .slice (some ⟨a, 0, none⟩) n ca, .pointer (some ⟨gv, o, none⟩), .pointer (some ⟨gv, o, none⟩), .pointer (some ⟨gv, o, none⟩), .int .i64 (xn : Int), .slice (some ⟨a, 256 * xn, none⟩) 256 (ca - 256 * xn), .int .i64 (k : Int), .bool true, .int .i64 (k : Int), .int .i64 m, .int .i64 (k : Int), .int .i64 (m / 2 ^ k), .int .i64 (bits .and .i64 (m / 2 ^ k) 1), .bool true, .int .i64 (k : Int), .int .i64 (q : Int), .slice (some ⟨a, 256 * xn, none⟩) 256 (ca - 256 * xn), u26, u27, u28, u29, u30, u31, u32, u33, u34, u35, u36], []⟩) ?_
        refine any_pure (i := 1) (.int .i64 (q : Int)) rfl (by kernel_rfl) (by kernel_rfl) (by kernel_rfl) (by kernel_rfl) (fun W => by kernel_rfl) (by kernel_rfl) (by kernel_rfl) (fun _ _ _ h => h) (listed' := #[true, true, false, false, false, false, false, false, false, false, false]) (a' := ⟨#[.slice (some ⟨a, 0, none⟩) n ca, .pointer (some ⟨gv, o, none⟩), .int .i64 m, undef, undef, undef, .slice (some ⟨a, 256 * xn, none⟩) 256 (ca - 256 * xn), .int .i64 (k : Int), .int .i64 (q : Int), .slice (some ⟨a, 0, none⟩) n ca, .pointer (some ⟨gv, o, none⟩), .pointer (some ⟨gv, o, none⟩), .pointer (some ⟨gv, o, none⟩), .int .i64 (xn : Int), .slice (some ⟨a, 256 * xn, none⟩) 256 (ca - 256 * xn), .int .i64 (k : Int), .bool true, .int .i64 (k : Int), .int .i64 m, .int .i64 (k : Int), .int .i64 (m / 2 ^ k), .int .i64 (bits .and .i64 (m / 2 ^ k) 1), .bool true, .int .i64 (k : Int), .int .i64 (q : Int), .slice (some ⟨a, 256 * xn, none⟩) 256 (ca - 256 * xn), .int .i64 (q : Int), u27, u28, u29, u30, u31, u32, u33, u34, u35, u36], []⟩) ?_
        refine any_pure (i := 2) (.int .i64 (q : Int)) rfl (by kernel_rfl) (by kernel_rfl) (by kernel_rfl) (by kernel_rfl) (fun W => by kernel_rfl) (by kernel_rfl) (by kernel_rfl) (fun _ _ _ h => h) (listed' := #[true, true, true, false, false, false, false, false, false, false, false]) (a' := ⟨#[.slice (some ⟨a, 0, none⟩) n ca, .pointer (some ⟨gv, o, none⟩), .int .i64 m, undef, undef, undef, .slice (some ⟨a, 256 * xn, none⟩) 256 (ca - 256 * xn), .int .i64 (k : Int), .int .i64 (q : Int), .slice (some ⟨a, 0, none⟩) n ca, .pointer (some ⟨gv, o, none⟩), .pointer (some ⟨gv, o, none⟩), .pointer (some ⟨gv, o, none⟩), .int .i64 (xn : Int), .slice (some ⟨a, 256 * xn, none⟩) 256 (ca - 256 * xn), .int .i64 (k : Int), .bool true, .int .i64 (k : Int), .int .i64 m, .int .i64 (k : Int), .int .i64 (m / 2 ^ k), .int .i64 (bits .and .i64 (m / 2 ^ k) 1), .bool true, .int .i64 (k : Int), .int .i64 (q : Int), .slice (some ⟨a, 256 * xn, none⟩) 256 (ca - 256 * xn), .int .i64 (q : Int), .int .i64 (q : Int), u28, u29, u30, u31, u32, u33, u34, u35, u36], []⟩) ?_
        refine any_pure (i := 3) (.int .i64 ((q : Int) + 64)) rfl (by kernel_rfl) (by kernel_rfl) (by kernel_rfl) (by kernel_rfl) (fun W => by go_simp) (by kernel_rfl) (by kernel_rfl) (fun _ _ _ h => h) (listed' := #[true, true, true, true, false, false, false, false, false, false, false]) (a' := ⟨#[.slice (some ⟨a, 0, none⟩) n ca, .pointer (some ⟨gv, o, none⟩), .int .i64 m, undef, undef, undef, .slice (some ⟨a, 256 * xn, none⟩) 256 (ca - 256 * xn), .int .i64 (k : Int), .int .i64 (q : Int), .slice (some ⟨a, 0, none⟩) n ca, .pointer (some ⟨gv, o, none⟩), .pointer (some ⟨gv, o, none⟩), .pointer (some ⟨gv, o, none⟩), .int .i64 (xn : Int), .slice (some ⟨a, 256 * xn, none⟩) 256 (ca - 256 * xn), .int .i64 (k : Int), .bool true, .int .i64 (k : Int), .int .i64 m, .int .i64 (k : Int), .int .i64 (m / 2 ^ k), .int .i64 (bits .and .i64 (m / 2 ^ k) 1), .bool true, .int .i64 (k : Int), .int .i64 (q : Int), .slice (some ⟨a, 256 * xn, none⟩) 256 (ca - 256 * xn), .int .i64 (q : Int), .int .i64 (q : Int), .int .i64 ((q : Int) + 64), u29, u30, u31, u32, u33, u34, u35, u36], []⟩) ?_
        refine any_pure (i := 4) (.slice (some ⟨a, 256 * xn + q, none⟩) 64 (ca - 256 * xn - q)) rfl (by kernel_rfl) (by kernel_rfl) (by kernel_rfl) (by kernel_rfl) (fun W => slice_run 39 (.tmp 25) (some (.tmp 26)) (some (.tmp 28)) rfl _ _ _ _ (by kernel_rfl) (by kernel_rfl) (by kernel_rfl) (HS1 W)) (by kernel_rfl) (by kernel_rfl) (fun _ _ _ h => h) (listed' := #[true, true, true, true, true, false, false, false, false, false, false]) (a' := ⟨#[.slice (some ⟨a, 0, none⟩) n ca, .pointer (some ⟨gv, o, none⟩), .int .i64 m, undef, undef, undef, .slice (some ⟨a, 256 * xn, none⟩) 256 (ca - 256 * xn), .int .i64 (k : Int), .int .i64 (q : Int), .slice (some ⟨a, 0, none⟩) n ca, .pointer (some ⟨gv, o, none⟩), .pointer (some ⟨gv, o, none⟩), .pointer (some ⟨gv, o, none⟩), .int .i64 (xn : Int), .slice (some ⟨a, 256 * xn, none⟩) 256 (ca - 256 * xn), .int .i64 (k : Int), .bool true, .int .i64 (k : Int), .int .i64 m, .int .i64 (k : Int), .int .i64 (m / 2 ^ k), .int .i64 (bits .and .i64 (m / 2 ^ k) 1), .bool true, .int .i64 (k : Int), .int .i64 (q : Int), .slice (some ⟨a, 256 * xn, none⟩) 256 (ca - 256 * xn), .int .i64 (q : Int), .int .i64 (q : Int), .int .i64 ((q : Int) + 64), .slice (some ⟨a, 256 * xn + q, none⟩) 64 (ca - 256 * xn - q), u30, u31, u32, u33, u34, u35, u36], []⟩) ?_
        refine any_pure (i := 5) (.pointer (some ⟨gv, o, none⟩)) rfl (by kernel_rfl) (by kernel_rfl) (by kernel_rfl) (by kernel_rfl) (fun W => by kernel_rfl) (by kernel_rfl) (by kernel_rfl) (fun _ _ _ h => h) (listed' := #[true, true, true, true, true, true, false, false, false, false, false]) (a' := ⟨#[.slice (some ⟨a, 0, none⟩) n ca, .pointer (some ⟨gv, o, none⟩), .int .i64 m, undef, undef, undef, .slice (some ⟨a, 256 * xn, none⟩) 256 (ca - 256 * xn), .int .i64 (k : Int), .int .i64 (q : Int), .slice (some ⟨a, 0, none⟩) n ca, .pointer (some ⟨gv, o, none⟩), .pointer (some ⟨gv, o, none⟩), .pointer (some ⟨gv, o, none⟩), .int .i64 (xn : Int), .slice (some ⟨a, 256 * xn, none⟩) 256 (ca - 256 * xn), .int .i64 (k : Int), .bool true, .int .i64 (k : Int), .int .i64 m, .int .i64 (k : Int), .int .i64 (m / 2 ^ k), .int .i64 (bits .and .i64 (m / 2 ^ k) 1), .bool true, .int .i64 (k : Int), .int .i64 (q : Int), .slice (some ⟨a, 256 * xn, none⟩) 256 (ca - 256 * xn), .int .i64 (q : Int), .int .i64 (q : Int), .int .i64 ((q : Int) + 64), .slice (some ⟨a, 256 * xn + q, none⟩) 64 (ca - 256 * xn - q), .pointer (some ⟨gv, o, none⟩), u31, u32, u33, u34, u35, u36], []⟩) ?_
        refine any_pure (i := 6) (.pointer (some ⟨gv, o, none⟩)) rfl (by kernel_rfl) (by kernel_rfl) (by kernel_rfl) (by kernel_rfl) (fun W => by kernel_rfl) (by kernel_rfl) (by kernel_rfl) (fun _ _ _ h => h) (listed' := #[true, true, true, true, true, true, true, false, false, false, false]) (a' := ⟨#[.slice (some ⟨a, 0, none⟩) n ca, .pointer (some ⟨gv, o, none⟩), .int .i64 m, undef, undef, undef, .slice (some ⟨a, 256 * xn, none⟩) 256 (ca - 256 * xn), .int .i64 (k : Int), .int .i64 (q : Int), .slice (some ⟨a, 0, none⟩) n ca, .pointer (some ⟨gv, o, none⟩), .pointer (some ⟨gv, o, none⟩), .pointer (some ⟨gv, o, none⟩), .int .i64 (xn : Int), .slice (some ⟨a, 256 * xn, none⟩) 256 (ca - 256 * xn), .int .i64 (k : Int), .bool true, .int .i64 (k : Int), .int .i64 m, .int .i64 (k : Int), .int .i64 (m / 2 ^ k), .int .i64 (bits .and .i64 (m / 2 ^ k) 1), .bool true, .int .i64 (k : Int), .int .i64 (q : Int), .slice (some ⟨a, 256 * xn, none⟩) 256 (ca - 256 * xn), .int .i64 (q : Int), .int .i64 (q : Int), .int .i64 ((q : Int) + 64), .slice (some ⟨a, 256 * xn + q, none⟩) 64 (ca - 256 * xn - q), .pointer (some ⟨gv, o, none⟩), .pointer (some ⟨gv, o, none⟩), u32, u33, u34, u35, u36], []⟩) ?_
        refine any_pure (i := 7) (.pointer (some ⟨gv, o + 1, none⟩)) rfl (by kernel_rfl) (by kernel_rfl) (by kernel_rfl) (by kernel_rfl) (fun W => by kernel_rfl) (by kernel_rfl) (by kernel_rfl) (fun _ _ _ h => h) (listed' := #[true, true, true, true, true, true, true, true, false, false, false]) (a' := ⟨#[.slice (some ⟨a, 0, none⟩) n ca, .pointer (some ⟨gv, o, none⟩), .int .i64 m, undef, undef, undef, .slice (some ⟨a, 256 * xn, none⟩) 256 (ca - 256 * xn), .int .i64 (k : Int), .int .i64 (q : Int), .slice (some ⟨a, 0, none⟩) n ca, .pointer (some ⟨gv, o, none⟩), .pointer (some ⟨gv, o, none⟩), .pointer (some ⟨gv, o, none⟩), .int .i64 (xn : Int), .slice (some ⟨a, 256 * xn, none⟩) 256 (ca - 256 * xn), .int .i64 (k : Int), .bool true, .int .i64 (k : Int), .int .i64 m, .int .i64 (k : Int), .int .i64 (m / 2 ^ k), .int .i64 (bits .and .i64 (m / 2 ^ k) 1), .bool true, .int .i64 (k : Int), .int .i64 (q : Int), .slice (some ⟨a, 256 * xn, none⟩) 256 (ca - 256 * xn), .int .i64 (q : Int), .int .i64 (q : Int), .int .i64 ((q : Int) + 64), .slice (some ⟨a, 256 * xn + q, none⟩) 64 (ca - 256 * xn - q), .pointer (some ⟨gv, o, none⟩), .pointer (some ⟨gv, o, none⟩), .pointer (some ⟨gv, o + 1, none⟩), u33, u34, u35, u36], []⟩) ?_
        refine any_pure (i := 8) (.int .i64 (q : Int)) rfl (by kernel_rfl) (by kernel_rfl) (by kernel_rfl) (by kernel_rfl) (fun W => by kernel_rfl) (by kernel_rfl) (by kernel_rfl) (fun _ _ _ h => h) (listed' := #[true, true, true, true, true, true, true, true, true, false, false]) (a' := ⟨#[.slice (some ⟨a, 0, none⟩) n ca, .pointer (some ⟨gv, o, none⟩), .int .i64 m, undef, undef, undef, .slice (some ⟨a, 256 * xn, none⟩) 256 (ca - 256 * xn), .int .i64 (k : Int), .int .i64 (q : Int), .slice (some ⟨a, 0, none⟩) n ca, .pointer (some ⟨gv, o, none⟩), .pointer (some ⟨gv, o, none⟩), .pointer (some ⟨gv, o, none⟩), .int .i64 (xn : Int), .slice (some ⟨a, 256 * xn, none⟩) 256 (ca - 256 * xn), .int .i64 (k : Int), .bool true, .int .i64 (k : Int), .int .i64 m, .int .i64 (k : Int), .int .i64 (m / 2 ^ k), .int .i64 (bits .and .i64 (m / 2 ^ k) 1), .bool true, .int .i64 (k : Int), .int .i64 (q : Int), .slice (some ⟨a, 256 * xn, none⟩) 256 (ca - 256 * xn), .int .i64 (q : Int), .int .i64 (q : Int), .int .i64 ((q : Int) + 64), .slice (some ⟨a, 256 * xn + q, none⟩) 64 (ca - 256 * xn - q), .pointer (some ⟨gv, o, none⟩), .pointer (some ⟨gv, o, none⟩), .pointer (some ⟨gv, o + 1, none⟩), .int .i64 (q : Int), u34, u35, u36], []⟩) ?_
        refine any_pure (i := 9) (.slice (some ⟨gv, o + 1 + q, none⟩) (256 - q) (256 - q)) rfl (by kernel_rfl) (by kernel_rfl) (by kernel_rfl) (by kernel_rfl) (fun W => slice_run 87 (.tmp 32) (some (.tmp 33)) none rfl _ _ _ _ (by kernel_rfl) (by kernel_rfl) (by kernel_rfl) (HS2 W)) (by kernel_rfl) (by kernel_rfl) (fun _ _ _ h => h) (listed' := #[true, true, true, true, true, true, true, true, true, true, false]) (a' := ⟨#[.slice (some ⟨a, 0, none⟩) n ca, .pointer (some ⟨gv, o, none⟩), .int .i64 m, undef, undef, undef, .slice (some ⟨a, 256 * xn, none⟩) 256 (ca - 256 * xn), .int .i64 (k : Int), .int .i64 (q : Int), .slice (some ⟨a, 0, none⟩) n ca, .pointer (some ⟨gv, o, none⟩), .pointer (some ⟨gv, o, none⟩), .pointer (some ⟨gv, o, none⟩), .int .i64 (xn : Int), .slice (some ⟨a, 256 * xn, none⟩) 256 (ca - 256 * xn), .int .i64 (k : Int), .bool true, .int .i64 (k : Int), .int .i64 m, .int .i64 (k : Int), .int .i64 (m / 2 ^ k), .int .i64 (bits .and .i64 (m / 2 ^ k) 1), .bool true, .int .i64 (k : Int), .int .i64 (q : Int), .slice (some ⟨a, 256 * xn, none⟩) 256 (ca - 256 * xn), .int .i64 (q : Int), .int .i64 (q : Int), .int .i64 ((q : Int) + 64), .slice (some ⟨a, 256 * xn + q, none⟩) 64 (ca - 256 * xn - q), .pointer (some ⟨gv, o, none⟩), .pointer (some ⟨gv, o, none⟩), .pointer (some ⟨gv, o + 1, none⟩), .int .i64 (q : Int), .slice (some ⟨gv, o + 1 + q, none⟩) (256 - q) (256 - q), u35, u36], []⟩) ?_
        refine wpAny_tail 10 (by kernel_rfl) (by kernel_rfl) ?_
        simp only [List.drop_succ_cons, List.drop_zero]
        go_wp2_with (refine wpList_copy_foot rfl (.tmp 29) (.tmp 34) _ _ rfl 5 Tryz.underlying39 Tryz.size5 (some ⟨a, 256 * xn + q, none⟩) (some ⟨gv, o + 1 + q, none⟩) 64 (ca - 256 * xn - q) (256 - q) (256 - q) rfl rfl a (256 * xn + q) cur 5 Hsp.out.drew (cells sec) Hcp.out (fun _ => ⟨rfl, _, rfl, Hsrc.out⟩) Hft.out (cells_one _) ?_; intro w7 h7 ht7; have HT7 : Hid (Turns w w7 (fun k => k = a) (fun k => k = a)) := HT.out.trans (Turns.of_drew ht7.out); have HA7 := Lib.hid (HNew.out w7 h7); clear h7 ht7)
        refine ⟨⟨k + 1, by omega, by go_num, HT7, HA7⟩, ?_⟩
        simp [intOf]; omega
    · have hk4 : k = 4 := by omega
      have HE : Hid (Arr wr a (splice L (256 * xn) (Dk.torn was xb m))) := by
        have := HK.out
        rw [hk4, Dk.tornK_all was xb m Hw.out Hx.out] at this
        exact this
      have d0 : decide ((k : Int) < 4) = false := decide_eq_false (by omega)
      clear hk4 HK
      go_wp2
      go_end0
      exact ⟨rfl, HT.out, HE.out⟩
theorem tear_flatten {safe : List (List UInt8)} {masks : List Int} {x : Nat × List UInt8} {i : Nat} (hs : ∀ b ∈ safe, b.length = 256) (hx : x.1 < safe.length) (h2 : x.2.length = 256) (hi : i < masks.length) :
    (Dk.tear masks safe x i).flatten = splice safe.flatten (256 * x.1) (Dk.torn ((safe.flatten.drop (256 * x.1)).take 256) x.2 (masks.getD i 0)) := by
  unfold Dk.tear
  rw [if_pos hi, Dk.flatten_get safe x.1 hs hx]
  have hw : (safe.getD x.1 []).length = 256 := by
    rw [List.getD, List.getElem?_eq_getElem hx]; exact hs _ (List.getElem_mem hx)
  exact Dk.flatten_set _ _ _ hs hx (Dk.torn_length _ _ _ hw h2)
theorem crash_end {w1 wr w2 : World} {g : Nat} {F : Nat → Prop} {d : Dk} {a ca b cb n : Nat} {V : Value} {ends : Bool} {lf : Int} {masks : List Int} {sp : List Value} (h : PD w1 g F d a ca b cb n V ends lf) (ht : Turns w1 wr (fun k => k = a) (fun k => k = a))
    (hA : Arr wr a (Dk.crashed masks d.safe d.waits 0).flatten) (h2 : Hid (Blk w2 b 5 (splice (cells d.image ++ sp) 0 (cells (Dk.crashed masks d.safe d.waits 0).flatten)).toArray)) (ht2 : Hid (Turns wr.drew w2 (fun k => k = b) (fun k => k = b))) :
    PD ((((w2.setCell ⟨g, 2, none⟩ (.slice none 0 0)).setCell ⟨g, 3, none⟩ (.bool false)).setCell ⟨g, 4, none⟩ (.bool false)).setCell ⟨g, 5, none⟩ (.int .i64 0)) g F (d.crash masks) a ca b cb n (.slice none 0 0) false 0 ∧
    Turns w1 ((((w2.setCell ⟨g, 2, none⟩ (.slice none 0 0)).setCell ⟨g, 3, none⟩ (.bool false)).setCell ⟨g, 4, none⟩ (.bool false)).setCell ⟨g, 5, none⟩ (.int .i64 0)) F F ∧
    (∀ k, k < 9 → w2.cell? ⟨g, k, none⟩ = w1.cell? ⟨g, k, none⟩ ∧ w2.frozen? ⟨g, k, none⟩ = false) := by
  obtain ⟨n1, n2, n3, n4, n5⟩ := h.ne
  have hs : (Dk.crashed masks d.safe d.waits 0).length = d.safe.length := Dk.crashed_length _ _ _ _
  have hf : ∀ b ∈ Dk.crashed masks d.safe d.waits 0, b.length = 256 := Dk.crashed_fit _ _ _ _ h.good.fit.1 h.good.fit.2
  have t2 : Turns wr w2 (fun k => k = b) (fun k => k = b) := Turns.of_drew ht2.out
  have t3 : Turns w1 w2 F F := (ht.wide (E := F) (E' := F) (fun k hk => by rw [hk]; exact h.fa) (fun k hk => .inl hk)).trans (t2.wide (E := F) (E' := F) (fun k hk => by rw [hk]; exact h.fb) (fun k hk => .inl hk))
  have t4 := (((t3.trans (Turns.set_ h.fg 2 (.slice none 0 0))).trans (Turns.set_ h.fg 3 (.bool false))).trans (Turns.set_ h.fg 4 (.bool false))).trans (Turns.set_ h.fg 5 (.int .i64 0))
  have b1 : Blk w2 g 85 (diskCells a ca b cb n V ends lf d) := (h.blk.turns ht n1).turns t2 n2
  have hlen : (Dk.crashed masks d.safe d.waits 0).flatten.length = d.image.length := by rw [Dk.flatten_length hf, hs, Dk.image_length h.good.fit]
  have hb := h2.out
  rw [show (splice (cells d.image ++ sp) 0 (cells (Dk.crashed masks d.safe d.waits 0).flatten)) = cells (Dk.crashed masks d.safe d.waits 0).flatten ++ sp by
    rw [splice_cells _ _ _ _ (by omega), splice_all _ _ hlen.symm]] at hb
  have fg : ∀ {L : List UInt8} {x : Nat} {W : World} (j : Nat) (u : Value), x ≠ g → Arr W x L → Arr (W.setCell ⟨g, j, none⟩ u) x L := fun j u hx hA => hA.set_far (p := ⟨g, j, none⟩) hx u
  refine ⟨⟨(((b1.set_ 2 (.slice none 0 0)).set_ 3 (.bool false)).set_ 4 (.bool false)).set_ 5 (.int .i64 0), by simp only [Dk.crash, hs]; exact h.size, h.capa, h.capb, ?_, ?_, World.ownsRow_nil _ _ _ _, h.ab, h.fg, h.fa, h.fb, fun k hk => by simp [Value.ownBlock] at hk, fun k hk => Nat.lt_of_lt_of_le (h.flt k hk) t4.size, ?_, fun _ => rfl, fun _ h => absurd h (by show ¬ (0 : Int) ≤ -1; omega)⟩, t4, fun k hk => ⟨by rw [b1.cell, h.blk.cell], b1.frozen k⟩⟩
  · exact fg _ _ (fun e => n1 e.symm) (fg _ _ (fun e => n1 e.symm) (fg _ _ (fun e => n1 e.symm) (fg _ _ (fun e => n1 e.symm) (hA.turns t2 h.ab))))
  · rw [Dk.image_calm _ rfl]
    exact fg _ _ (fun e => n2 e.symm) (fg _ _ (fun e => n2 e.symm) (fg _ _ (fun e => n2 e.symm) (fg _ _ (fun e => n2 e.symm) ⟨sp, hb⟩)))
  · exact ⟨⟨hf, fun x hx => by cases hx⟩, by simp only [Dk.crash, hs]; exact h.good.few, by simp only [Dk.crash, hs]; exact h.good.many, ⟨Int.le_refl _, by show (-1 : Int) ≤ _; omega⟩⟩
set_option maxRecDepth 100000 in
set_option maxHeartbeats 4000000 in
theorem crash_any {w : World} {g : Nat} {F : Nat → Prop} {d : Dk} (h : PDisk w g F d) (masks : List Int) (A : Option Addr) (mn c2 : Nat) (hmn : mn = masks.length) (hM : RI w w.heap.size A masks) (hMF : 0 < masks.length → ∀ ad, A = some ad → ¬ F ad.block) :
    Calls Tryz.prog 15 #[.pointer (some ⟨g, 0, none⟩), .slice A mn c2] w fun e w' => e = .returned (.tuple #[]) ∧ Deeds (d.crash masks) F w w' g := by
  have z0 := fun w' => Tryz.dIsNil g w'
  obtain ⟨a, ca, b, cb, n, V, ends, lf, hP⟩ := h
  obtain ⟨A1, c, rfl, hc1, hc2⟩ := hP.vform
  have k2 := hP.c2
  obtain ⟨m, hm⟩ : ∃ m, m = d.waits.length := ⟨_, rfl⟩
  rw [← hm] at k2 hc1
  have Hm := Lib.hid hm
  have HP := Lib.hid hP
  have HM := Lib.hid hM
  have HMF := Lib.hid hMF
  have Hmn := Lib.hid hmn
  clear hP hm hM hMF hmn
  go_enter Tryz.func15, Tryz.ntmps15
  go_wp2
  go_loopw [12] (fun x wr => ∃ i : Nat, i ≤ m ∧ x = .int .i64 (i : Int) ∧ Hid (Turns w wr (fun k => k = a) (fun k => k = a)) ∧ Hid (Arr wr a (Dk.crashed masks d.safe (d.waits.take i) 0).flatten)) (fun x _ => m - (intOf x).toNat)
  case atStart => exact ⟨0, by omega, rfl, Turns.refl _ _, by show Arr _ _ _; rw [List.take_zero]; exact HP.out.safe⟩
  case round =>
    obtain ⟨i, hi, rfl, HT2, HA⟩ := hrel
    have HPr : Hid (∀ k, k ≠ a → ∀ j, k < w.heap.size → wr.cell? ⟨k, j, none⟩ = w.cell? ⟨k, j, none⟩) := fun k hk j hlt => HT2.out.cell (p := ⟨k, j, none⟩) hlt hk
    have r2 : wr.cell? ⟨g, 2, none⟩ = some (.slice A1 m c) := by rw [HPr.out g HP.out.ne.1 2 (HP.out.flt g HP.out.fg)]; exact k2
    have r0 : wr.cell? ⟨g, 0, none⟩ = some (.slice (some ⟨a, 0, none⟩) n ca) := by rw [HPr.out g HP.out.ne.1 0 (HP.out.flt g HP.out.fg)]; exact HP.out.c0
    have r1 : wr.cell? ⟨g, 1, none⟩ = some (.slice (some ⟨b, 0, none⟩) n cb) := by rw [HPr.out g HP.out.ne.1 1 (HP.out.flt g HP.out.fg)]; exact HP.out.c1
    by_cases hlt : i < m
    · obtain ⟨gv, cv, hV, hva, hvb, hvg, hvl, hm1, hm2, hcell⟩ := HP.out.row (by have := Hm.out; omega)
      obtain ⟨rfl, -, rfl⟩ : A1 = some ⟨gv, 0, none⟩ ∧ m = d.waits.length ∧ c = cv := by
        have := Hm.out
        simp only [Value.slice.injEq] at hV
        exact ⟨hV.1, this, hV.2.2⟩
      have hi2 : i < d.waits.length := by have := Hm.out; omega
      obtain ⟨hcn, hcb⟩ := hcell i hi2
      obtain ⟨x, hx⟩ : ∃ x, x = d.waits[i] := ⟨_, rfl⟩
      rw [← hx] at hcn hcb
      have u0 : (0 : Int) ≤ (i : Int) := by omega
      have u1 : (i : Int) < (m : Int) := by omega
      have hsn : Dk.crashed masks d.safe (d.waits.take (i + 1)) 0 = Dk.tear masks (Dk.crashed masks d.safe (d.waits.take i) 0) x i := by
        rw [List.take_succ_eq_append_getElem hi2, ← hx, Dk.crashed_snoc, List.length_take, Nat.zero_add, Nat.min_eq_left (by omega)]
      by_cases hik : i < mn
      · have hik2 : i < masks.length := by have := Hmn.out; omega
        obtain ⟨mb, mo, rfl, hmb, hmc⟩ := HM.out (by omega)
        have hma : mb ≠ a := fun e => HMF.out (by omega) _ rfl (by rw [show (⟨mb, mo, none⟩ : Addr).block = a from e]; exact HP.out.fa)
        obtain ⟨mk, hmk⟩ : ∃ mk, mk = masks.getD i 0 := ⟨_, rfl⟩
        have rm : wr.cell? ⟨mb, mo + i, none⟩ = some (.int .i64 mk) := by
          rw [HPr.out mb hma _ hmb, hmc i hik2, hmk]
          simp [List.getD, hik2]
        have hfit := HP.out.good.fit
        have hxm : x ∈ d.waits := by rw [hx]; exact List.getElem_mem hi2
        obtain ⟨hx1, hx2⟩ := hfit.2 x hxm
        have hsf : ∀ b ∈ Dk.crashed masks d.safe (d.waits.take i) 0, b.length = 256 := Dk.crashed_fit _ _ _ _ hfit.1 (fun y hy => hfit.2 y (List.mem_of_mem_take hy))
        have hsl : (Dk.crashed masks d.safe (d.waits.take i) 0).length = d.safe.length := Dk.crashed_length _ _ _ _
        have htf := tear_flatten (x := x) (i := i) hsf (by rw [hsl]; exact hx1) hx2 hik2
        have hfl : (Dk.crashed masks d.safe (d.waits.take i) 0).flatten.length = n := by rw [Dk.flatten_length hsf, hsl, HP.out.size]
        have hsz := HP.out.size
        have hmany := HP.out.good.many
        have hws := HT2.out.size
        have HKp : Hid (Calls Tryz.prog 48 #[.slice (some ⟨a, 0, none⟩) n ca, .pointer (some ⟨gv, i * 257, none⟩), .int .i64 mk] wr.drew fun e w' => e = .returned (.tuple #[]) ∧ Turns wr.drew w' (fun k => k = a) (fun k => k = a) ∧ Arr w' a (Dk.crashed masks d.safe (d.waits.take (i + 1)) 0).flatten) := by
          rw [hsn, htf, ← hmk]
          refine keep_any (w := wr.drew) mk (show Arr wr a _ from HA.out) (show wr.cell? _ = _ by rw [HPr.out gv hva _ hvl]; exact hcn) (fun j hj => (show wr.cell? ⟨gv, i * 257 + 1 + j, none⟩ = _ by rw [HPr.out gv hva _ hvl]; exact hcb j hj)) hva (show gv < wr.heap.size by omega) hx2 hfl.symm (by rw [hfl]; omega) (by omega) HP.out.capa
        have v0 : (i : Int) < (mn : Int) := by omega
        clear hV hcell hcn hcb hx hsn hmc hmk hfit hxm hx1 hx2 hsf hsl htf hfl hsz hmany hws HA
        go_wp2
        refine wp_region_still_tail 14 (by kernel_rfl) (by kernel_rfl) ?_
        simp only [List.take_succ_cons, List.take_zero, List.drop_succ_cons, List.drop_zero]
        iterate 14 still_step
        refine wpStill_nil ?_
        change wpList _ _ _ _ _ wr.drew
        go_wp2_with (go_at_call 48; (with_reducible refine HKp.out.mono ?_); rintro e w7 ⟨rfl, ht7, hA7⟩; have HT7 : Hid (Turns w w7 (fun k => k = a) (fun k => k = a)) := HT2.out.trans (Turns.of_drew ht7); have HA7 := Lib.hid hA7; clear ht7 hA7)
        refine ⟨⟨i + 1, by omega, by go_num, HT7, HA7⟩, ?_⟩
        simp [intOf]; omega
      · have HN : Hid (Arr wr a (Dk.crashed masks d.safe (d.waits.take (i + 1)) 0).flatten) := by
          show Arr _ _ _
          rw [hsn]
          unfold Dk.tear
          rw [if_neg (by have := Hmn.out; omega)]
          exact HA.out
        have d2 : decide ((i : Int) < (mn : Int)) = false := decide_eq_false (by omega)
        have d3 : decide (i < mn) = false := decide_eq_false hik
        clear hV hcell hcn hcb hx hsn HA hik
        go_wp2
        refine ⟨⟨i + 1, by omega, by go_num, HT2, HN⟩, ?_⟩
        simp [intOf]; omega
    · have him : i = m := by omega
      have hi2 : d.waits.take i = d.waits := by rw [him, Hm.out]; exact List.take_length
      have HA' := HA.out
      rw [hi2] at HA'
      have hA2 := Lib.hid HA'
      have d0 : decide ((i : Int) < (m : Int)) = false := decide_eq_false (by omega)
      have d1 : decide (i < m) = false := decide_eq_false hlt
      obtain ⟨sp, hsp⟩ := HP.out.last
      have hspr : Blk wr b 5 (cells d.image ++ sp).toArray := hsp.turns HT2.out (fun e => HP.out.ab e.symm)
      have hcf : ∀ b ∈ Dk.crashed masks d.safe d.waits 0, b.length = 256 := Dk.crashed_fit _ _ _ _ HP.out.good.fit.1 HP.out.good.fit.2
      obtain ⟨L2, hL2⟩ : ∃ L2, L2 = (Dk.crashed masks d.safe d.waits 0).flatten := ⟨_, rfl⟩
      have hl2 : L2.length = n := by rw [hL2, Dk.flatten_length hcf, Dk.crashed_length, HP.out.size]
      have Hcp : Hid ((cells L2).length = Nat.min n n) := by show _ = _; rw [cells_length, hl2]; exact (Nat.min_self n).symm
      have Hft : Hid (0 + (cells L2).length ≤ (cells d.image ++ sp).length) := by
        show _ ≤ _
        rw [List.length_append, cells_length, cells_length, hl2, Dk.image_length HP.out.good.fit, HP.out.size]; omega
      have Hrb := Lib.hid (show RB wr wr.heap.size (some ⟨a, 0, none⟩) L2 by rw [hL2]; exact HA'.all)
      have HE : Hid (∀ w2, Hid (Blk w2 b 5 (splice (cells d.image ++ sp) 0 (cells L2)).toArray) → Hid (Turns wr.drew w2 (fun k => k = b) (fun k => k = b)) → _) := fun w2 h1 h2 => crash_end HP.out HT2.out HA' (by rw [← hL2]; exact h1) h2
      obtain ⟨cur, hcur⟩ : ∃ cur, cur = cells d.image ++ sp := ⟨_, rfl⟩
      rw [← hcur] at hspr Hft HE
      have Hsp := Lib.hid hspr
      clear him hi2 HA' HA hlt hi hsp hspr hcf hL2 hl2 hcur
      go_wp2
      refine wp_region_still_tail 8 (by kernel_rfl) (by kernel_rfl) ?_
      simp only [List.take_succ_cons, List.take_zero, List.drop_succ_cons, List.drop_zero]
      iterate 8 still_step
      refine wpStill_nil ?_
      change wpList _ _ _ _ _ wr.drew
      go_wp2_with (refine wpList_copy_foot rfl (.tmp 38) (.tmp 42) _ _ rfl 5 Tryz.underlying39 Tryz.size5 (some ⟨b, 0, none⟩) (some ⟨a, 0, none⟩) n cb n ca rfl rfl b 0 cur 5 Hsp.out.drew (cells L2) Hcp.out (rb_src Hrb.out _) Hft.out (cells_one _) ?_; intro w7 h7 ht7; have HEE := Lib.hid (HE.out w7 h7 ht7); have q2 := (HEE.out.2.2 2 (by omega)).1; have q3 := (HEE.out.2.2 3 (by omega)).1; have q4 := (HEE.out.2.2 4 (by omega)).1; have q5 := (HEE.out.2.2 5 (by omega)).1; have f2 := (HEE.out.2.2 2 (by omega)).2; have f3 := (HEE.out.2.2 3 (by omega)).2; have f4 := (HEE.out.2.2 4 (by omega)).2; have f5 := (HEE.out.2.2 5 (by omega)).2; rw [HP.out.c2] at q2; rw [HP.out.c3] at q3; rw [HP.out.c4] at q4; rw [HP.out.c5] at q5)
      go_end0
      exact ⟨rfl, ⟨_, _, _, _, _, _, _, _, HEE.out.1⟩, HEE.out.2.1⟩
end Go.Proofs.YtonnkibcnhjelaaGreatDoor
end
section
set_option linter.unusedVariables false
set_option linter.unusedSimpArgs false
namespace Go.Proofs.YtonnkibcnhjelaaGreatDoor
open Go.RowKit
def riseAt (S : List Int) (n : Int) (i : Nat) : Prop := (2 ≤ S.getD i 0 ∧ S.getD i 0 < n) ∧ (0 < i → S.getD i 0 ≠ S.getD (i - 1) 0)
theorem getD_at {l : List Int} {i : Nat} (h : i < l.length) : l.getD i 0 = l[i] := by rw [List.getD_eq_getElem?_getD, List.getElem?_eq_getElem h]; rfl
theorem rise_iff (ps : List Int) (n : Int) : (∀ i, i < ps.length → riseAt (sortZ ps) n i) ↔ placesOk ps n = true := by
  have hup := List.pairwise_iff_getElem.1 (sortZ_up ps)
  have hl := sortZ_length ps
  have hp := sortZ_perm ps
  have hnd : ps.Nodup ↔ ∀ i j (hi : i < ps.length) (hj : j < ps.length), i < j → ps[i] ≠ ps[j] := List.pairwise_iff_getElem
  constructor
  · intro h
    have hst : ∀ k, ∀ i, i < k → (hk : k < (sortZ ps).length) → ∀ hi : i < (sortZ ps).length, (sortZ ps)[i] < (sortZ ps)[k] := by
      intro k i hik hk hi
      have h1 := (h k (by omega)).2 (by omega)
      rw [getD_at hk, getD_at (by omega : k - 1 < (sortZ ps).length)] at h1
      have h2 := hup (k - 1) k (by omega) hk (by omega)
      have h3 : (sortZ ps)[i] ≤ (sortZ ps)[k - 1] := by
        rcases Nat.lt_or_ge i (k - 1) with h4 | h4
        · exact hup i (k - 1) hi (by omega) h4
        · have : i = k - 1 := by omega
          subst this
          exact Int.le_refl _
      omega
    have hnd2 : (sortZ ps).Nodup := List.pairwise_iff_getElem.2 fun i j hi hj hij => by have := hst j i hij hj hi; omega
    have hnd3 := hnd.1 (hp.nodup_iff.1 hnd2)
    refine placesOk_iff.2 fun j hj => placeAt_iff.2 ?_
    have hm : ps[j] ∈ sortZ ps := hp.mem_iff.2 (List.getElem_mem hj)
    obtain ⟨i, hi, e⟩ := List.mem_iff_getElem.1 hm
    have h1 := (h i (by omega)).1
    rw [getD_at hi, e] at h1
    rw [getD_at hj]
    refine ⟨h1.1, h1.2, fun k hk => ?_⟩
    rw [getD_at (by omega : k < ps.length)]
    exact hnd3 k j (by omega) hj hk
  · intro h i hi
    have h' := placesOk_iff.1 h
    have hnd2 : ps.Nodup := hnd.2 fun a b ha hb hab => by
      have := (placeAt_iff.1 (h' b hb)).2.2 a hab
      rwa [getD_at ha, getD_at hb] at this
    have hnd3 : (sortZ ps).Nodup := hp.nodup_iff.2 hnd2
    have hi' : i < (sortZ ps).length := by omega
    refine ⟨?_, fun h0 => ?_⟩
    · rw [getD_at hi']
      have hm : (sortZ ps)[i] ∈ ps := hp.mem_iff.1 (List.getElem_mem hi')
      obtain ⟨j, hj, e⟩ := List.mem_iff_getElem.1 hm
      have := placeAt_iff.1 (h' j hj)
      rw [getD_at hj, e] at this
      exact ⟨this.1, this.2.1⟩
    · rw [getD_at hi', getD_at (by omega : i - 1 < (sortZ ps).length)]
      have := List.pairwise_iff_getElem.1 hnd3 (i - 1) i (by omega) hi' (by omega)
      exact fun e => this e.symm
theorem rise_no {ps : List Int} {n : Int} {i : Nat} (hi : i < ps.length) (h : ¬ riseAt (sortZ ps) n i) : placesOk ps n = false := by
  rw [← Bool.not_eq_true]
  exact fun hh => h ((rise_iff ps n).2 hh i hi)
set_option maxRecDepth 100000 in
set_option maxHeartbeats 4000000 in
theorem pareblocks_any (ps : List Int) (n : Int) (N : Nat) (A : Option Addr) (c : Nat) (w : World) (hN : N = ps.length) (hA : RI w w.heap.size A ps) (hs : N ≤ 1000000) :
    Calls Tryz.prog 24 #[.slice A N c, .int .i64 n] w fun e w' => e = .returned (.bool (placesOk ps n)) ∧ Below w.heap.size w w' := by
  have HNo : Hid (∀ j, j < N → ¬ riseAt (sortZ ps) n j → placesOk ps n = false) := fun j hj h => rise_no (by omega) h
  have HYes : Hid ((∀ j, j < N → riseAt (sortZ ps) n j) → placesOk ps n = true) := fun h => (rise_iff ps n).1 (fun j hj => h j (by omega))
  have HCl : Hid (Calls Tryz.prog 62 #[.slice A N c] w fun e w' => ∃ A' c', e = .returned (.slice A' N c') ∧ w'.ownsRow w.heap.size 3 1 (.slice A' N c') N (zcells ps) ∧ Below w.heap.size w w') := cloneZ_any ps A N c w hN hA hs
  have HSl : Hid (N = (sortZ ps).length) := by rw [sortZ_length]; exact hN
  have nf := fun w' => Tryz.notFalse w'
  have nt := fun w' => Tryz.notTrue w'
  have HS : Hid (∀ W A' c', W.ownsRow w.heap.size 3 1 (.slice A' N c') N (zcells ps) → w.heap.size ≤ W.heap.size → Calls Tryz.prog 63 #[.slice A' N c'] W fun e w' => e = .returned (.tuple #[]) ∧ RI w' w'.heap.size A' (sortZ ps) ∧ Below w.heap.size W w') := fun W A' c' ho hb => sortZ_own ho hs hb
  clear hN hA
  go_enter Tryz.func24, Tryz.ntmps24
  go_wp2_with (first
    | (go_at_call 62; (with_reducible refine HCl.out.mono ?_); rintro e w1 ⟨A1, c1, rfl, ho1, hb1⟩)
    | (go_at_call 63; (with_reducible refine (HS.out _ _ _ ho1 hb1.size).mono ?_); rintro e w2 ⟨rfl, hR, hb2⟩))
  have HB : Hid (Below w.heap.size w w2) := hb1.trans hb2
  have HR := Lib.hid hR
  obtain ⟨S, hS⟩ : ∃ S, S = sortZ ps := ⟨_, rfl⟩
  rw [← hS] at HNo HYes HSl HR
  clear hS ho1 hb1 hb2 hR HCl HS
  go_loop [14] (fun x => ∃ i : Nat, i ≤ N ∧ x = .int .i64 (i : Int) ∧ Hid (∀ j, j < i → riseAt S n j)) (fun x => N - (intOf x).toNat)
  case atStart => exact ⟨0, by omega, rfl, fun j hj => by omega⟩
  case round =>
    obtain ⟨i, hi, rfl, HI⟩ := hrel
    by_cases hlt : i < N
    · have d0 : decide ((i : Int) < (N : Int)) = true := decide_eq_true (by omega)
      have d1 : decide (i < N) = true := decide_eq_true hlt
      obtain ⟨pb, po, rfl, hlb, hcs⟩ := HR.out (by rw [← HSl.out]; omega)
      have hpi := hcs i (by rw [← HSl.out]; exact hlt)
      obtain ⟨pi, hpv⟩ : ∃ z : Int, z = S.getD i 0 := ⟨_, rfl⟩
      rw [← getD_at, ← hpv] at hpi
      have Hpv := Lib.hid hpv
      have HC := Lib.hid hcs
      have y7 : IntKind.i64.wrap ((i : Int) + 1) = (i : Int) + 1 := IntWalk.i64_in _ (by omega)
      clear hpv hcs hlb
      cases hb : isBlk pi n with
      | false =>
        have H1 : Hid (∀ W, Calls Tryz.prog 53 #[.int .i64 pi, .int .i64 n] W fun e w' => e = .returned (.bool false) ∧ W = w') := fun W => pisblock_gives pi n false hb W
        have R : Hid (placesOk ps n = false) := HNo.out i hlt (fun h => by
          have h1 := h.1
          rw [← Hpv.out] at h1
          have := hb; unfold isBlk at this; rw [decide_eq_true h1.1, decide_eq_true h1.2] at this; cases this)
        clear hb
        go_wp2_with (go_at_call 53; (with_reducible refine (H1.out _).mono ?_); rintro e w3 ⟨rfl, rfl⟩)
        go_ret
        rw [R.out]
        exact ⟨rfl, HB.out⟩
      | true =>
        have H1 : Hid (∀ W, Calls Tryz.prog 53 #[.int .i64 pi, .int .i64 n] W fun e w' => e = .returned (.bool true) ∧ W = w') := fun W => pisblock_gives pi n true hb W
        have HI1 : Hid (2 ≤ pi ∧ pi < n) := by
          have := hb; unfold isBlk at this; simp only [Bool.and_eq_true, decide_eq_true_eq] at this; exact this
        clear hb
        by_cases h0 : i = 0
        · have g0 : decide ((i : Int) > 0) = false := decide_eq_false (by omega)
          have g1 : decide (0 < i) = false := decide_eq_false (by omega)
          have HI2 : Hid (∀ j, j < i + 1 → riseAt S n j) := fun j hj => by
            obtain rfl : j = i := by omega
            exact ⟨by rw [← Hpv.out]; exact HI1.out, fun h => absurd h (by omega)⟩
          clear h0
          go_wp2_with (go_at_call 53; (with_reducible refine (H1.out _).mono ?_); rintro e w3 ⟨rfl, rfl⟩)
          go_round
          case rel => exact ⟨i + 1, by omega, by go_num, HI2⟩
          case measure => simp [intOf]; omega
        · have g0 : decide ((i : Int) > 0) = true := decide_eq_true (by omega)
          have g1 : decide (0 < i) = true := decide_eq_true (by omega)
          have y8 : IntKind.i64.wrap ((i : Int) - 1) = ((i - 1 : Nat) : Int) := (IntWalk.i64_in _ (by omega)).trans (by omega)
          have hpk := HC.out (i - 1) (by rw [← HSl.out]; omega)
          obtain ⟨pk, hpkv⟩ : ∃ z : Int, z = S.getD (i - 1) 0 := ⟨_, rfl⟩
          rw [← getD_at, ← hpkv] at hpk
          have Hpk := Lib.hid hpkv
          obtain ⟨i1, hi1⟩ : ∃ i1, i1 = i - 1 := ⟨_, rfl⟩
          have bi1 : i1 < N := by omega
          rw [← hi1] at y8 hpk
          have HI1' := Lib.hid hi1
          clear hpkv hi1
          by_cases heq : pi = pk
          · have q0 : (pi == pk) = true := by simpa using heq
            have q1 : decide (pi = pk) = true := decide_eq_true heq
            have R : Hid (placesOk ps n = false) := HNo.out i hlt (fun h => h.2 (by omega) (by rw [← Hpv.out, ← Hpk.out]; exact heq))
            clear heq h0
            go_wp2_with (go_at_call 53; (with_reducible refine (H1.out _).mono ?_); rintro e w3 ⟨rfl, rfl⟩)
            go_ret
            rw [R.out]
            exact ⟨rfl, HB.out⟩
          · have q0 : (pi == pk) = false := by simpa using heq
            have q1 : decide (pi = pk) = false := decide_eq_false heq
            have HI2 : Hid (∀ j, j < i + 1 → riseAt S n j) := fun j hj => by
              by_cases hji : j < i
              · exact HI.out j hji
              · obtain rfl : j = i := by omega
                exact ⟨by rw [← Hpv.out]; exact HI1.out, fun _ => by rw [← Hpv.out, ← Hpk.out]; exact heq⟩
            clear heq h0
            go_wp2_with (go_at_call 53; (with_reducible refine (H1.out _).mono ?_); rintro e w3 ⟨rfl, rfl⟩)
            go_round
            case rel => exact ⟨i + 1, by omega, by go_num, HI2⟩
            case measure => simp [intOf]; omega
    · have d0 : decide ((i : Int) < (N : Int)) = false := decide_eq_false (by omega)
      have d1 : decide (i < N) = false := decide_eq_false hlt
      obtain rfl : i = N := by omega
      go_wp2
      go_ret
      rw [HYes.out HI.out]
      exact ⟨rfl, HB.out⟩
end Go.Proofs.YtonnkibcnhjelaaGreatDoor
end
