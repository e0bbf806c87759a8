/- Lemmas under the proofs of this place: ChainPlain, SlB, Nots, DiskBlock. No statement is proved here. -/
import Derived.Test.YtonnkibcnhjelaaGreatDoorBu04
import Derived.Test.YtonnkibcnhjelaaGreatDoorBu02
section
set_option linter.unusedVariables false
namespace Go.Proofs.YtonnkibcnhjelaaGreatDoor
structure Pt where
  first : Int
  size : Int
  owner : Int
deriving DecidableEq
def Pt.zero : Pt := ⟨0, 0, 0⟩
def Pt.may (p : Pt) (n : Int) : Bool := decide (2 ≤ p.first) && (decide (p.first < n) && (decide (1 ≤ p.size) && (decide (p.size ≤ 262144) && (decide (1 ≤ p.owner) && decide (p.owner ≤ 2147483647)))))
def placeAt (ps : List Int) (n : Int) (j : Nat) : Bool := decide (2 ≤ ps.getD j 0) && (decide (ps.getD j 0 < n) && (List.range j).all fun k => !decide (ps.getD k 0 = ps.getD j 0))
def placesOk (ps : List Int) (n : Int) : Bool := (List.range ps.length).all (placeAt ps n)
theorem placeAt_iff {ps : List Int} {n : Int} {j : Nat} : placeAt ps n j = true ↔ 2 ≤ ps.getD j 0 ∧ ps.getD j 0 < n ∧ ∀ k, k < j → ps.getD k 0 ≠ ps.getD j 0 := by
  unfold placeAt
  simp only [Bool.and_eq_true, decide_eq_true_eq, List.all_eq_true, List.mem_range, Bool.not_eq_true', decide_eq_false_iff_not]
theorem placesOk_iff {ps : List Int} {n : Int} : placesOk ps n = true ↔ ∀ j, j < ps.length → placeAt ps n j = true := by
  unfold placesOk
  simp only [List.all_eq_true, List.mem_range]
theorem placesOk_no {ps : List Int} {n : Int} {j : Nat} (hj : j < ps.length) (h : placeAt ps n j = false) : placesOk ps n = false := by
  rw [← Bool.not_eq_true]
  intro hh
  rw [placesOk_iff.1 hh j hj] at h
  cases h
def writeL (d : Dk) : List (Int × List UInt8) → Dk × Int
  | [] => (d, 0)
  | x :: l => if (d.write x.1 x.2).2 = 0 then writeL (d.write x.1 x.2).1 l else d.write x.1 x.2
theorem writeL_snoc (x : Int × List UInt8) : ∀ (l : List (Int × List UInt8)) (d : Dk), writeL d (l ++ [x]) = if (writeL d l).2 = 0 then (writeL d l).1.write x.1 x.2 else writeL d l
  | [], d => by
    show (if (d.write x.1 x.2).2 = 0 then ((d.write x.1 x.2).1, (0 : Int)) else d.write x.1 x.2) = _
    rw [if_pos (show (writeL d []).2 = 0 from rfl)]
    show _ = d.write x.1 x.2
    by_cases h : (d.write x.1 x.2).2 = 0
    · rw [if_pos h]; exact Prod.ext rfl h.symm
    · rw [if_neg h]
  | y :: l, d => by
    show (if (d.write y.1 y.2).2 = 0 then writeL (d.write y.1 y.2).1 (l ++ [x]) else d.write y.1 y.2) = _
    by_cases h : (d.write y.1 y.2).2 = 0
    · rw [if_pos h, writeL_snoc x l]
      have e : writeL d (y :: l) = writeL (d.write y.1 y.2).1 l := by show (if _ then _ else _) = _; rw [if_pos h]
      rw [e]
    · rw [if_neg h]
      have e : writeL d (y :: l) = d.write y.1 y.2 := by show (if _ then _ else _) = _; rw [if_neg h]
      rw [e, if_neg h]
theorem writeL_stop : ∀ (l m : List (Int × List UInt8)) (d : Dk), (writeL d l).2 ≠ 0 → writeL d (l ++ m) = writeL d l
  | [], m, d, h => absurd rfl h
  | y :: l, m, d, h => by
    show (if (d.write y.1 y.2).2 = 0 then writeL (d.write y.1 y.2).1 (l ++ m) else d.write y.1 y.2) = (if (d.write y.1 y.2).2 = 0 then writeL (d.write y.1 y.2).1 l else d.write y.1 y.2)
    by_cases h1 : (d.write y.1 y.2).2 = 0
    · rw [if_pos h1, if_pos h1]
      refine writeL_stop l m _ (fun h2 => h ?_)
      show (if _ then _ else _ : Dk × Int).2 = 0
      rw [if_pos h1]; exact h2
    · rw [if_neg h1, if_neg h1]
theorem deed_counts (d : Dk) : (Dk.deed d).1.reads = d.reads ∧ (Dk.deed d).1.writes = d.writes ∧ (Dk.deed d).1.flushes = d.flushes ∧ (Dk.deed d).1.waits = d.waits ∧ (Dk.deed d).1.safe = d.safe := by
  unfold Dk.deed
  split
  · exact ⟨rfl, rfl, rfl, rfl, rfl⟩
  · split <;> exact ⟨rfl, rfl, rfl, rfl, rfl⟩
theorem write_load (d : Dk) (i : Int) (b : List UInt8) : (d.write i b).1.reads + (d.write i b).1.writes + (d.write i b).1.flushes + (d.write i b).1.waits.length ≤ d.reads + d.writes + d.flushes + d.waits.length + 2 ∧ (d.write i b).1.safe = d.safe := by
  unfold Dk.write
  by_cases h1 : d.off = true
  · rw [if_pos h1]; exact ⟨by show d.reads + d.writes + d.flushes + d.waits.length ≤ _; omega, rfl⟩
  · rw [if_neg h1]
    by_cases h2 : (!d.there i) = true
    · rw [if_pos h2]; exact ⟨by show d.reads + d.writes + d.flushes + d.waits.length ≤ _; omega, rfl⟩
    · rw [if_neg h2]
      by_cases h3 : b.length ≠ 256
      · rw [if_pos h3]; exact ⟨by show d.reads + d.writes + d.flushes + d.waits.length ≤ _; omega, rfl⟩
      · rw [if_neg h3]
        obtain ⟨c1, c2, c3, c4, c5⟩ := deed_counts { d with waits := d.waits ++ [(i.toNat, b)] }
        cases hd : Dk.deed { d with waits := d.waits ++ [(i.toNat, b)] } with
        | mk e v =>
          rw [hd] at c1 c2 c3 c4 c5
          have l4 : e.waits.length = d.waits.length + 1 := by rw [c4]; simp
          cases v with
          | false => exact ⟨by show e.reads + e.writes + e.flushes + e.waits.length ≤ _; rw [l4, c1, c2, c3]; show d.reads + d.writes + d.flushes + _ ≤ _; omega, c5⟩
          | true => exact ⟨by show e.reads + (e.writes + 1) + e.flushes + e.waits.length ≤ _; rw [l4, c1, c2, c3]; show d.reads + (d.writes + 1) + d.flushes + _ ≤ _; omega, c5⟩
theorem writeL_load : ∀ (l : List (Int × List UInt8)) (d : Dk), (writeL d l).1.reads + (writeL d l).1.writes + (writeL d l).1.flushes + (writeL d l).1.waits.length ≤ d.reads + d.writes + d.flushes + d.waits.length + 2 * l.length ∧ (writeL d l).1.safe = d.safe
  | [], d => ⟨by show d.reads + d.writes + d.flushes + d.waits.length ≤ _; omega, rfl⟩
  | x :: l, d => by
    have h1 := write_load d x.1 x.2
    have h2 := writeL_load l (d.write x.1 x.2).1
    by_cases h : (d.write x.1 x.2).2 = 0
    · have e : writeL d (x :: l) = writeL (d.write x.1 x.2).1 l := by show (if _ then _ else _) = _; rw [if_pos h]
      rw [e, List.length_cons]
      exact ⟨by omega, h2.2.trans h1.2⟩
    · have e : writeL d (x :: l) = d.write x.1 x.2 := by show (if _ then _ else _) = _; rw [if_neg h]
      rw [e, List.length_cons]
      exact ⟨by omega, h1.2⟩
def cellW (o : Int) (ps : List Int) (t : List UInt8) : List (Int × List UInt8) := (List.range ps.length).map fun i => (ps.getD i 0, (cutAt o ps t i).bytes)
def chWrite (d : Dk) (o : Int) (ps : List Int) (t : List UInt8) : Dk × Pt × Int :=
  if (cutC o ps t).2 ≠ 0 then (d, .zero, (cutC o ps t).2) else if placesOk ps d.safe.length = false then (d, .zero, 1) else
  if (writeL d (cellW o ps t)).2 = 0 then ((writeL d (cellW o ps t)).1, ⟨ps.getD 0 0, t.length, o⟩, 0) else ((writeL d (cellW o ps t)).1, .zero, (writeL d (cellW o ps t)).2)
def readCells (d : Dk) (o : Int) : Nat → Nat → Int → List Ce × List Int × Int
  | 0, _, _ => ([], [], 0)
  | n + 1, i, at_ =>
    if d.off then ([], [], 9) else if ¬ (2 ≤ at_ ∧ at_ < (d.safe.length : Int)) then ([], [], 13) else
    let c := getC (d.now at_.toNat)
    if c.2 ≠ 0 ∨ c.1.owner ≠ o ∨ c.1.number ≠ (i : Int) then ([], [], 13) else
    let r := readCells d o n (i + 1) c.1.next
    if r.2.2 ≠ 0 then ([], [], r.2.2) else (c.1 :: r.1, at_ :: r.2.1, 0)
def chRead (d : Dk) (p : Pt) : List UInt8 × List Int × Int :=
  if p.may d.safe.length = false then ([], [], 1) else
  let r := readCells d p.owner (needC p.size.toNat) 0 p.first
  if r.2.2 ≠ 0 then ([], [], r.2.2) else
  match joinC r.1 with
  | some t => if (t.length : Int) = p.size then (t, r.2.1, 0) else ([], [], 13)
  | none => ([], [], 13)
theorem cellW_length (o : Int) (ps : List Int) (t : List UInt8) : (cellW o ps t).length = ps.length := by unfold cellW; simp
theorem cellW_take (o : Int) (ps : List Int) (t : List UInt8) (i : Nat) (hi : i < ps.length) : (cellW o ps t).take (i + 1) = (cellW o ps t).take i ++ [(ps.getD i 0, (cutAt o ps t i).bytes)] := by
  rw [List.take_succ_eq_append_getElem (by rw [cellW_length]; exact hi)]
  congr 1
  unfold cellW
  simp
def wroteN (d : Dk) (o : Int) (ps : List Int) (t : List UInt8) (i : Nat) : Dk × Int := writeL d ((cellW o ps t).take i)
theorem wroteN_succ {d : Dk} {o : Int} {ps : List Int} {t : List UInt8} {i : Nat} (hi : i < ps.length) (h : (wroteN d o ps t i).2 = 0) : wroteN d o ps t (i + 1) = (wroteN d o ps t i).1.write (ps.getD i 0) (cutAt o ps t i).bytes := by
  unfold wroteN at h ⊢
  rw [cellW_take o ps t i hi, writeL_snoc, if_pos h]
theorem wroteN_all (d : Dk) (o : Int) (ps : List Int) (t : List UInt8) : wroteN d o ps t ps.length = writeL d (cellW o ps t) := by
  unfold wroteN
  rw [List.take_of_length_le (by rw [cellW_length]; exact Nat.le_refl _)]
theorem wroteN_stop {d : Dk} {o : Int} {ps : List Int} {t : List UInt8} {i : Nat} (h : (wroteN d o ps t i).2 ≠ 0) : writeL d (cellW o ps t) = wroteN d o ps t i := by
  unfold wroteN at h ⊢
  have e := List.take_append_drop i (cellW o ps t)
  have := writeL_stop ((cellW o ps t).take i) ((cellW o ps t).drop i) d h
  rw [e] at this
  exact this
end Go.Proofs.YtonnkibcnhjelaaGreatDoor
end
section
set_option linter.unusedVariables false
namespace Go.Proofs.YtonnkibcnhjelaaGreatDoor
open Go.RowKit
theorem add_at (a off s : Nat) : (⟨a, off, none⟩ : Addr).add s = ⟨a, off + s, none⟩ := by unfold Addr.add; split <;> simp_all
theorem sl_from (a off n c s : Nat) (i : Int) (hi : i = (s : Int)) (h1 : s ≤ n) (h2 : s < c) (W : World) :
    (Instr.sliceAt 39 (.slice (some ⟨a, off, none⟩) n c) (some (.int .i64 i)) none none).run Tryz.prog W = .ok (.slice (some ⟨a, off + s, none⟩) (n - s) (c - s)) W := by
  subst hi
  have hu : Tryz.prog.underlying 39 = some (.slice (Tryz.prog.elem 39)) := by kernel_rfl
  have he : Tryz.prog.elem 39 = 5 := by kernel_rfl
  have hsz : (sizeOf 5).run Tryz.prog W = .ok 1 W := by kernel_rfl
  have e : (s : Int).toNat = s := by omega
  rw [run_sliceAt_slice _ _ _ _ _ _ hu, run_slice_l _ _ _ _ _ hu .i64 (s : Int) (by omega) (by omega), he, hsz]
  simp only [Result.andThen_ok, e, sliced]
  rw [if_neg (show ¬ c = s by omega)]
  simp only [Option.map_some, Nat.mul_one, add_at]
theorem sl_to (a off n c h : Nat) (j : Int) (hj : j = (h : Int)) (h1 : h ≤ c) (h0 : 0 < c) (W : World) :
    (Instr.sliceAt 39 (.slice (some ⟨a, off, none⟩) n c) none (some (.int .i64 j)) none).run Tryz.prog W = .ok (.slice (some ⟨a, off, none⟩) h c) W := by
  subst hj
  have hu : Tryz.prog.underlying 39 = some (.slice (Tryz.prog.elem 39)) := by kernel_rfl
  have he : Tryz.prog.elem 39 = 5 := by kernel_rfl
  have hsz : (sizeOf 5).run Tryz.prog W = .ok 1 W := by kernel_rfl
  have e : (h : Int).toNat = h := by omega
  rw [run_sliceAt_slice _ _ _ _ _ _ hu, run_slice_h _ _ _ _ _ hu .i64 (h : Int) (by omega) (by omega), he, hsz]
  simp only [Result.andThen_ok, e, sliced]
  rw [if_neg (show ¬ c = 0 by omega)]
  simp only [Option.map_some, Nat.zero_mul, add_at, Nat.add_zero, Nat.sub_zero]
theorem sl_both (a off n c s h : Nat) (i j : Int) (hi : i = (s : Int)) (hj : j = (h : Int)) (h1 : s ≤ h) (h2 : h ≤ c) (h3 : s < c) (W : World) :
    (Instr.sliceAt 39 (.slice (some ⟨a, off, none⟩) n c) (some (.int .i64 i)) (some (.int .i64 j)) none).run Tryz.prog W = .ok (.slice (some ⟨a, off + s, none⟩) (h - s) (c - s)) W := by
  subst hi hj
  have hu : Tryz.prog.underlying 39 = some (.slice (Tryz.prog.elem 39)) := by kernel_rfl
  have he : Tryz.prog.elem 39 = 5 := by kernel_rfl
  have hsz : (sizeOf 5).run Tryz.prog W = .ok 1 W := by kernel_rfl
  have e : (h : Int).toNat = h := by omega
  have e2 : (s : Int).toNat = s := by omega
  rw [run_sliceAt_slice _ _ _ _ _ _ hu, run_slice_lh _ _ _ _ _ hu .i64 .i64 (s : Int) (h : Int) (by omega) (by omega) (by omega), he, hsz]
  simp only [Result.andThen_ok, e, e2, sliced]
  rw [if_neg (show ¬ c = s by omega)]
  simp only [Option.map_some, Nat.mul_one, add_at]
end Go.Proofs.YtonnkibcnhjelaaGreatDoor
end
section
set_option linter.unusedVariables false
namespace Go.Proofs.YtonnkibcnhjelaaGreatDoor
open Go.RowKit
theorem Tryz.notFalse (w : World) : Sem.run Tryz.prog (Op.unary UnOp.not (Value.bool false)) w = Result.ok (Value.bool true) w := rfl
theorem Tryz.notTrue (w : World) : Sem.run Tryz.prog (Op.unary UnOp.not (Value.bool true)) w = Result.ok (Value.bool false) w := rfl
end Go.Proofs.YtonnkibcnhjelaaGreatDoor
end
section
set_option linter.unusedVariables false
namespace Go.Proofs.YtonnkibcnhjelaaGreatDoor
open Go.RowKit
def blockK (b : List UInt8) : Nat → List UInt8
  | 0 => List.replicate 256 0
  | k + 1 => (blockK b k).set k (b.getD (k % b.length) 0)
def blockL (b : List UInt8) : List UInt8 := if b.length = 0 then List.replicate 256 0 else blockK b 256
theorem blockK_length (b : List UInt8) : ∀ k, (blockK b k).length = 256
  | 0 => List.length_replicate ..
  | k + 1 => by rw [blockK, List.length_set, blockK_length b k]
theorem blockL_length (b : List UInt8) : (blockL b).length = 256 := by
  unfold blockL; split
  · exact List.length_replicate ..
  · exact blockK_length b 256
theorem made_blk {w w1 : World} {n : Nat} (hown : w1.ownsRow w.heap.size 5 1 (.slice (some ⟨w.heap.size, 0, none⟩) n n) n (madeCells (Value.int .u8 0).cells (n * 1)).toList) : Blk w1 w.heap.size 5 (cells (List.replicate n 0)).toArray := by
  have h := made_block hown
  have e : (cells (List.replicate n 0)).toArray = (List.replicate n (Value.int .u8 0)).toArray := by simp [cells]
  unfold Blk
  rw [e]; exact h
theorem rb_blk6 {w : World} {g : Nat} {t : TypeId} {L : List UInt8} (h : Blk w g t (cells L).toArray) : RB w w.heap.size (some ⟨g, 0, none⟩) L := by
  refine ⟨by simp [cells_length], fun h0 => ⟨_, rfl, h.lt, fun j u hu => ?_⟩⟩
  have e : (⟨g, 0, none⟩ : Addr).add j = ⟨g, j, none⟩ := by unfold Addr.add; split <;> simp_all
  rw [e, (blk_cell h j).1]
  simpa using hu
theorem cells_at6 (L : List UInt8) {k : Nat} (hk : k < L.length) : (cells L).toArray[k]? = some (.int .u8 ((L.getD k 0).toNat : Int)) := by
  simp [cells, List.getD, List.getElem?_eq_getElem hk]
theorem cblk_cell6 {w : World} {g : Nat} {t : TypeId} {L : List UInt8} (h : Blk w g t (cells L).toArray) {k : Nat} (hk : k < L.length) : w.cell? ⟨g, k, none⟩ = some (.int .u8 ((L.getD k 0).toNat : Int)) := by
  rw [h.cell k, cells_at6 L hk]
theorem cblk_set6 {w : World} {g : Nat} {t : TypeId} {L : List UInt8} (h : Blk w g t (cells L).toArray) (k : Nat) (x : UInt8) : Blk (w.setCell ⟨g, k, none⟩ (.int .u8 (x.toNat : Int))) g t (cells (L.set k x)).toArray := by
  have h1 := h.set_ k (.int .u8 (x.toNat : Int))
  have e : (cells L).toArray.setIfInBounds k (.int .u8 (x.toNat : Int)) = (cells (L.set k x)).toArray := by
    apply Array.toList_inj.1
    simp [cells, List.map_set]
  rwa [e] at h1
set_option maxRecDepth 100000 in
set_option maxHeartbeats 1000000 in
theorem block_any (L : List UInt8) (A : Option Addr) (n c : Nat) (w : World) (hr : RB w w.heap.size A L) (hn : n = L.length) (hl : L.length ≤ 100000) :
    Calls Tryz.prog 75 #[.slice A n c] w fun e w' => ∃ g, e = .returned (.slice (some ⟨g, 0, none⟩) 256 256) ∧ w.heap.size ≤ g ∧ Blk w' g 5 (cells (blockL L)).toArray ∧ Below w.heap.size w w' := by
  obtain ⟨i0, hi0, hz0, hz1, hz2⟩ := info_parts Tryz.info5
  have hby : i0.bytes = 1 := hz2
  have HN := Lib.hid hn
  have HR : Hid (0 < L.length → ∃ b off, A = some ⟨b, off, none⟩ ∧ b < w.heap.size ∧ ∀ k (hk : k < L.length), w.cell? ⟨b, off + k, none⟩ = some (.int .u8 (L[k].toNat : Int))) := fun h => hr.at_ h
  clear hr hn
  go_enter Tryz.func75, Tryz.ntmps75
  go_wp2_with (first
    | (at_make; refine wpList_make_full _ rfl _ _ 39 rfl w.heap.size 5 i0 _ 1 Tryz.underlying39 hi0 hz0 hz1 .i64 .i64 _ _ 256 rfl rfl rfl rfl (by rw [hby]; omega) (by unfold maxLen; omega) (Nat.le_refl _) ?_; intro w2 ho2 hg2))
  have b2 : Below w.heap.size w w2 := (Below.refl _ _).grown hg2 (Nat.le_refl _) (by simp)
  have k2 : Blk w2 w.heap.size 5 (cells (blockK L 0)).toArray := made_blk ho2
  clear ho2 hg2
  obtain ⟨g, hg⟩ : ∃ g, g = w.heap.size := ⟨_, rfl⟩
  have HG : Hid (w.heap.size ≤ g) := by show _ ≤ _; omega
  rw [← hg] at k2
  rw [← hg]
  clear hg
  go_loopw [4] (fun v wr => ∃ k : Nat, k ≤ 256 ∧ v = .int .i64 (k : Int) ∧ Hid (L.length = 0 → k = 0) ∧ Blk wr g 5 (cells (blockK L k)).toArray ∧ Below w.heap.size w wr) (fun v _ => 256 - (intOf v).toNat)
  case atStart => exact ⟨0, by omega, rfl, fun _ => rfl, k2, b2⟩
  case round =>
    clear k2 b2
    obtain ⟨k, hk, rfl, HZ, hB, hb⟩ := hrel
    have u0 : (0 : Int) ≤ (k : Int) := by omega
    by_cases hlt : k < 256
    · have u1 : (k : Int) < 256 := by omega
      by_cases h0 : 0 < n
      · have hL0 : 0 < L.length := by have := HN.out; omega
        obtain ⟨b, off, rfl, hbb, hcc⟩ := HR.out hL0
        obtain ⟨r, hrr⟩ : ∃ r, r = k % n := ⟨_, rfl⟩
        have hrn : r < n := by rw [hrr]; exact Nat.mod_lt _ h0
        have hrL : r < L.length := by have := HN.out; omega
        obtain ⟨x, hx⟩ : ∃ x, x = L.getD r 0 := ⟨_, rfl⟩
        have hck := hcc r hrL
        have hxe : L[r] = x := by rw [hx, List.getD, List.getElem?_eq_getElem hrL]; rfl
        rw [hxe, ← hb.cell (p := ⟨b, off + r, none⟩) hbb] at hck
        have em : (k : Int) % (n : Int) = (r : Int) := by rw [hrr]; omega
        have em2 : (k : Int).tmod (n : Int) = (r : Int) := by rw [Int.tmod_eq_emod_of_nonneg u0]; exact em
        have hne : ¬ (n : Int) = 0 := by omega
        have u2 : (r : Int) < (n : Int) := by omega
        have u3 : (0 : Int) < (n : Int) := by omega
        have f3 : wr.frozen? ⟨g, k, none⟩ = false := hB.frozen _
        have c3 := cblk_cell6 hB (k := k) (by rw [blockK_length]; exact hlt)
        have HB2 : Hid (Blk (wr.setCell ⟨g, k, none⟩ (.int .u8 (x.toNat : Int))) g 5 (cells (blockK L (k + 1))).toArray) := by
          have := cblk_set6 hB k x
          rw [hx, hrr, HN.out] at this
          rw [hx, hrr, HN.out, blockK]
          exact this
        have HL0 := Lib.hid hL0
        clear hcc hx hxe hrL hbb hB hrr hL0
        go_wp2
        refine ⟨⟨k + 1, by omega, by go_num, fun h => absurd h (by have := HL0.out; omega), HB2.out, hb.setCell (p := ⟨g, k, none⟩) HG.out _⟩, ?_⟩
        simp [intOf]; omega
      · have hn0 : n = 0 := by omega
        have hL0 : L.length = 0 := by have := HN.out; omega
        have hk0 := HZ.out hL0
        have HV : Hid (blockL L = blockK L k) := by show _ = _; unfold blockL; rw [if_pos hL0, hk0]; rfl
        subst hn0
        clear HZ hL0 hk0 h0
        go_wp2
        go_ret
        exact ⟨g, rfl, HG.out, by rw [HV.out]; exact hB, hb⟩
    · have hk256 : k = 256 := by omega
      have HV : Hid (blockL L = blockK L k) := by
        show _ = _
        unfold blockL
        split
        · rename_i h; have := HZ.out h; omega
        · rw [hk256]
      have u2 : ¬ (k : Int) < 256 := by omega
      have d0 : decide ((k : Int) < 256) = false := decide_eq_false u2
      clear hk256 HZ
      go_wp2
      go_ret
      exact ⟨g, rfl, HG.out, by rw [HV.out]; exact hB, hb⟩
set_option maxRecDepth 100000 in
theorem may_any (i : Int) (w : World) : Calls Tryz.prog 20 #[.int .i64 i] w fun e w' => e = .returned (.bool (decide (16 ≤ i ∧ i ≤ 1024))) ∧ w = w' := by
  by_cases h1 : 16 ≤ i
  · by_cases h2 : i ≤ 1024
    · have HV : Hid (decide (16 ≤ i ∧ i ≤ 1024) = true) := decide_eq_true ⟨h1, h2⟩
      have d1 : decide (i ≥ 16) = true := decide_eq_true h1
      have d2 : decide (i ≤ 1024) = true := decide_eq_true h2
      go_enter Tryz.func20, Tryz.ntmps20
      go_wp2
      go_ret
      exact ⟨by first | rfl | (rw [HV.out]; rfl), rfl⟩
    · have HV : Hid (decide (16 ≤ i ∧ i ≤ 1024) = false) := decide_eq_false fun h => h2 h.2
      have d1 : decide (i ≥ 16) = true := decide_eq_true h1
      have d2 : decide (i ≤ 1024) = false := decide_eq_false h2
      go_enter Tryz.func20, Tryz.ntmps20
      go_wp2
      go_ret
      exact ⟨by first | rfl | (rw [HV.out]; rfl), rfl⟩
  · have HV : Hid (decide (16 ≤ i ∧ i ≤ 1024) = false) := decide_eq_false fun h => h1 h.1
    have d1 : decide (i ≥ 16) = false := decide_eq_false h1
    have d2 : decide ((16 : Int) ≤ i) = false := decide_eq_false h1
    go_enter Tryz.func20, Tryz.ntmps20
    go_wp2
    go_ret
    exact ⟨by first | rfl | (rw [HV.out]; rfl), rfl⟩
end Go.Proofs.YtonnkibcnhjelaaGreatDoor
end
