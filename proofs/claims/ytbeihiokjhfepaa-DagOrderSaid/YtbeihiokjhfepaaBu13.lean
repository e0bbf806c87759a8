/- Lemmas under the proofs of this place: DagPMem, DagRFind, IdsWith. No statement is proved here. -/
import Derived.Test.YtbeihiokjhfepaaBu07
import Derived.Test.YtbeihiokjhfepaaBu10
import Derived.Test.YtbeihiokjhfepaaBu04
import Derived.Test.YtbeihiokjhfepaaBu11
import Derived.Maps.Own
import Derived.ChangeMaps5
set_option linter.unusedSimpArgs false
set_option linter.unusedVariables false
set_option maxRecDepth 100000
set_option maxHeartbeats 16000000
namespace Go.Proofs.Ytbeihiokjhfepaa
section
open Go.RowKit Go.Maps Go.ChangeMaps Go.WideMaps Go.WideElems
structure NdP where
  id : Bs
  pA : Option Addr
  pc : Nat
  ps : List Nat
  kA : Option Addr
  kc : Nat
  ks : List Nat
  d : Nat
def nP : NdP := ⟨[], none, 0, [], none, 0, [], 0⟩
def ndp (x : NdP) : List Value := [.string (text x.id), .slice x.pA x.ps.length x.pc, .slice x.kA x.ks.length x.kc, .int .i64 (x.d : Int)]
def rowP (r : List NdP) : List Value := r.flatMap ndp
theorem rowP_one (r : List NdP) : ∀ u ∈ rowP r, u.oneCell' = true := fun u hu => by
  obtain ⟨x, hx, hu⟩ := List.mem_flatMap.1 hu
  simp only [ndp, List.mem_cons, List.not_mem_nil, or_false] at hu
  rcases hu with rfl | rfl | rfl | rfl <;> rfl
theorem rowP_get (r : List NdP) (i : Nat) (hi : i < r.length) : (rowP r)[i * 4]? = some (.string (text (r.getD i nP).id)) ∧ (rowP r)[i * 4 + 1]? = some (.slice (r.getD i nP).pA (r.getD i nP).ps.length (r.getD i nP).pc) ∧
    (rowP r)[i * 4 + 2]? = some (.slice (r.getD i nP).kA (r.getD i nP).ks.length (r.getD i nP).kc) ∧ (rowP r)[i * 4 + 3]? = some (.int .i64 ((r.getD i nP).d : Int)) := by
  induction r generalizing i with
  | nil => simp at hi
  | cons x r ih =>
    have e : rowP (x :: r) = .string (text x.id) :: .slice x.pA x.ps.length x.pc :: .slice x.kA x.ks.length x.kc :: .int .i64 (x.d : Int) :: rowP r := rfl
    rw [e]
    match i with
    | 0 => simp
    | i + 1 =>
      have := ih i (by simpa using hi)
      rw [show (i + 1) * 4 = i * 4 + 4 by omega, show i * 4 + 4 + 1 = i * 4 + 1 + 4 by omega, show i * 4 + 4 + 2 = i * 4 + 2 + 4 by omega, show i * 4 + 4 + 3 = i * 4 + 3 + 4 by omega]
      simpa using this
theorem rowP_snoc (r : List NdP) (x : NdP) : rowP (r ++ [x]) = rowP r ++ ndp x := by simp [rowP]
def NdP.kid (x : NdP) (kA : Option Addr) (kc : Nat) (ks : List Nat) : NdP := { x with kA := kA, kc := kc, ks := ks }
theorem rowP_set (r : List NdP) (i : Nat) (hi : i < r.length) (kA : Option Addr) (kc : Nat) (ks : List Nat) : (rowP r).set (i * 4 + 2) (.slice kA ks.length kc) = rowP (r.set i ((r.getD i nP).kid kA kc ks)) := by
  induction r generalizing i with
  | nil => simp at hi
  | cons x r ih =>
    match i with
    | 0 => rfl
    | i + 1 =>
      have := ih i (by simpa using hi)
      have e : rowP (x :: r) = .string (text x.id) :: .slice x.pA x.ps.length x.pc :: .slice x.kA x.ks.length x.kc :: .int .i64 (x.d : Int) :: rowP r := rfl
      have e2 : rowP ((x :: r).set (i + 1) (((x :: r).getD (i + 1) nP).kid kA kc ks)) = .string (text x.id) :: .slice x.pA x.ps.length x.pc :: .slice x.kA x.ks.length x.kc :: .int .i64 (x.d : Int) :: rowP (r.set i ((r.getD i nP).kid kA kc ks)) := by
        simp [rowP, ndp]
      rw [e, e2, ← this, show (i + 1) * 4 + 2 = (i * 4 + 2) + 1 + 1 + 1 + 1 by omega]
      rfl
def MapAt (w : World) (b : Nat) (I : List Bs) : Prop := ∃ es clock, w.heap[b]? = some (.map es clock) ∧ es.toList.map (fun e => (e.key, e.val)) = I.zipIdx.map fun p => (Value.string (text p.1), Value.int .i64 (p.2 : Int))
def MapV (w : World) (mv : Value) (I : List Bs) : Prop := (mv = .map none ∧ I = []) ∨ ∃ b, mv = .map (some b) ∧ MapAt w b I
theorem text_inj {x y : Bs} : (text x == text y) = decide (x = y) := by
  show (x.toArray == y.toArray) = _
  by_cases h : x = y
  · subst h; simp
  · have h2 : x.toArray ≠ y.toArray := fun e => h (by simpa using e)
    rw [decide_eq_false h]
    exact beq_eq_false_iff_ne.2 h2
theorem find_places (x : Bs) : ∀ (es : List MapEntry) (I : List Bs) (j : Nat), es.map (fun e => (e.key, e.val)) = (I.zipIdx j).map (fun p => (Value.string (text p.1), Value.int .i64 (p.2 : Int))) →
    Instr.findNow .string (.string (text x)) es j = some (if x ∈ I then some (j + I.idxOf x, .int .i64 ((j + I.idxOf x : Nat) : Int)) else none)
  | [], [], j, _ => by simp [Instr.findNow]
  | [], a :: I, j, h => by simp at h
  | e :: es, [], j, h => by simp at h
  | e :: es, a :: I, j, h => by
    simp only [List.map_cons, List.zipIdx_cons, List.cons.injEq, Prod.mk.injEq] at h
    obtain ⟨⟨h1, h2⟩, h3⟩ := h
    have ih := find_places x es I (j + 1) h3
    unfold Instr.findNow
    rw [h1]
    simp only [Instr.sameNow, text_inj]
    by_cases hx : x = a
    · subst hx
      simp [h2]
    · rw [decide_eq_false hx]
      simp only [ih]
      by_cases hI : x ∈ I
      · have hm : x ∈ a :: I := List.mem_cons_of_mem _ hI
        have hna : (a == x) = false := beq_eq_false_iff_ne.2 (fun e => hx e.symm)
        rw [if_pos hI, if_pos hm, List.idxOf_cons, hna, cond_false]
        have e : j + 1 + List.idxOf x I = j + (List.idxOf x I + 1) := by omega
        rw [e]
      · have hm : x ∉ a :: I := fun hh => by
          rcases List.mem_cons.1 hh with h4 | h4
          · exact hx h4
          · exact hI h4
        rw [if_neg hI, if_neg hm]
theorem Try.chkN (b : Bool) (n : Nat) (s : ByteArray) (w : World) : (Instr.checkKey b (n + 1) 9 (.string s)).run Try.prog w = .ok () w := by
  simp [Instr.checkKey, run_underlying Try.underlying9]
theorem Try.chkS (b : Bool) (s : ByteArray) (w : World) : (Instr.checkKey b 10000 9 (.string s)).run Try.prog w = .ok () w := Try.chkN b 9999 s w
theorem Try.zeroI (w : World) : (zeroValue 3).run Try.prog w = .ok (.int .i64 0) w := by kernel_rfl
theorem MapAt.below {B : Nat} {w w' : World} {b : Nat} {I : List Bs} (h : MapAt w b I) (hb : Below B w w') (hB : b < B) : MapAt w' b I := by
  obtain ⟨es, clock, h1, h2⟩ := h
  exact ⟨es, clock, (hb.block b hB).trans h1, h2⟩
theorem MapAt.lt {w : World} {b : Nat} {I : List Bs} (h : MapAt w b I) : b < w.heap.size := by
  obtain ⟨es, clock, h1, _⟩ := h
  exact (Array.getElem?_eq_some_iff.1 h1).1
theorem map_find {w : World} {b : Nat} {I : List Bs} {es : Array MapEntry} (he : es.toList.map (fun e => (e.key, e.val)) = I.zipIdx.map fun p => (Value.string (text p.1), Value.int .i64 (p.2 : Int))) (x : Bs) :
    (Instr.findKey 9 (.string (text x)) es.toList).run Try.prog w = .ok (if x ∈ I then some (I.idxOf x, .int .i64 ((I.idxOf x : Nat) : Int)) else none) w := by
  have h := find_places x es.toList I 0 he
  simp only [Nat.zero_add] at h
  unfold Instr.findKey
  simp [run_underlying Try.underlying9, h]
theorem map_look {w : World} {b : Nat} {I : List Bs} (h : MapAt w b I) (x : Bs) :
    (Instr.lookup 59 (.map (some b)) (.string (text x)) true).run Try.prog w = .ok (.tuple #[.int .i64 ((if x ∈ I then I.idxOf x else 0 : Nat) : Int), .bool (decide (x ∈ I))]) w := by
  obtain ⟨es, clock, hb, he⟩ := h
  have hf := map_find (w := w) (b := b) he x
  by_cases hi : x ∈ I
  · simp [Instr.lookup, run_underlying Try.underlying59, MapKept.run_getObj_map hb, Try.chkS _ (text x) w, hf, hi, Result.andThen]
  · simp [Instr.lookup, run_underlying Try.underlying59, MapKept.run_getObj_map hb, Try.chkS _ (text x) w, hf, hi, Try.zeroI w, Result.andThen]
theorem map_look_nil {w : World} (x : Bs) :
    (Instr.lookup 59 (.map none) (.string (text x)) true).run Try.prog w = .ok (.tuple #[.int .i64 0, .bool false]) w := by
  simp [Instr.lookup, run_underlying Try.underlying59, Try.chkS _ (text x) w, Instr.findKey, Instr.findNow, run_underlying Try.underlying9, Try.zeroI w, Result.andThen]
theorem mapv_look {w : World} {mv : Value} {I : List Bs} (h : MapV w mv I) (x : Bs) :
    (Instr.lookup 59 mv (.string (text x)) true).run Try.prog w = .ok (.tuple #[.int .i64 ((if x ∈ I then I.idxOf x else 0 : Nat) : Int), .bool (decide (x ∈ I))]) w := by
  rcases h with ⟨rfl, rfl⟩ | ⟨b, rfl, h⟩
  · rw [map_look_nil x]; simp
  · exact map_look h x
theorem map_new {w : World} {b : Nat} {I : List Bs} (h : MapAt w b I) (x : Bs) (hn : x ∉ I) :
    ∃ w', (Instr.mapUpdate 59 (.map (some b)) (.string (text x)) (.int .i64 (I.length : Int))).run Try.prog w = .ok () w' ∧ MapAt w' b (I ++ [x]) ∧ Only w w' b := by
  obtain ⟨es, clock, hb, he⟩ := h
  have hf := map_find (w := w) (b := b) he x
  rw [if_neg hn] at hf
  refine ⟨setBlock w b (.map (es.push { key := .string (text x), val := .int .i64 (I.length : Int), born := clock }) (clock + 1)), ?_, ⟨_, _, heap_setBlock_same hb _, ?_⟩, ?_⟩
  · simp [Instr.mapUpdate, run_underlying Try.underlying59, MapKept.run_getObj_map hb, Try.chkS _ (text x) w, hf, MapKept.run_setObj_map _ hb, Result.andThen, setBlock]
  · simp [he, List.zipIdx_append]
  · exact ⟨rfl, rfl, rfl, by simp [setBlock], fun i _ hi => heap_setBlock_other hb _ (fun e => hi (by rw [e]))⟩
end
section
open Go.RowKit
theorem below16 {w w1 w2 : World} (h : Below w.heap.size w w1) (k : Below w1.heap.size w1 w2) : Below w.heap.size w w2 := h.trans (k.mono h.size)
def DgV (w wb : World) (A : Option Addr) (n c : Nat) : Prop := wb = w.alloc (.cells #[.slice A n c] 27)
theorem DgV.below {w wb : World} {A : Option Addr} {n c : Nat} (h : DgV w wb A n c) : Below w.heap.size w wb := by
  rw [show wb = _ from h]
  exact (Below.refl _ _).alloc (Nat.le_refl _) _
theorem DgV.cell {w wb W : World} {A : Option Addr} {n c : Nat} (h : DgV w wb A n c) (hb : Below wb.heap.size wb W) : W.cell? ⟨w.heap.size, 0, none⟩ = some (.slice A n c) ∧ w.heap.size < W.heap.size ∧ (∀ i, W.frozen? ⟨w.heap.size, i, none⟩ = false) := by
  have K : Blk wb w.heap.size 27 #[.slice A n c] := by rw [show wb = _ from h]; exact Blk.new _ _ _
  have K2 := K.below hb K.lt
  exact ⟨K2.cell 0, K2.lt, K2.frozen⟩
theorem Try.dagAgg (w : World) : (isAgg 27).run Try.prog w = .ok true w := by kernel_rfl
theorem Try.dagSize (w : World) : (sizeOf 27).run Try.prog w = .ok 1 w := by kernel_rfl
def idxZ (g : Gr) (x : Bs) : Int := if idxG g x < g.length then (idxG g x : Int) else -1
theorem idxZ_at {g : Gr} {x : Bs} {k : Nat} (hk : k < g.length) (e : (g.getD k nd0).id = x) (hf : ∀ j, j < k → (g.getD j nd0).id ≠ x) : idxZ g x = (k : Int) := by
  have h := idx_first hk e hf
  unfold idxZ
  rw [h, if_pos hk]
theorem idxZ_no {g : Gr} {x : Bs} (hf : ∀ j, j < g.length → (g.getD j nd0).id ≠ x) : idxZ g x = -1 := by
  unfold idxZ
  rw [idx_none hf, if_neg (Nat.lt_irrefl _)]
theorem idxZ_pos {g : Gr} {x : Bs} (h : x ∈ idsG g) : idxZ g x = (idxG g x : Int) := if_pos (idx_lt.2 h)
theorem idxZ_neg {g : Gr} {x : Bs} (h : x ∉ idsG g) : idxZ g x = -1 := if_neg fun e => h (idx_lt.1 e)
theorem rfind_any (g : Gr) (x : Bs) (A : Option Addr) (n c : Nat) (w : World) (hn : n = g.length) (h : NL w w.heap.size A g) (hl : n ≤ 1000000) :
    Calls Try.prog 47 #[.agg #[.slice A n c], .string (text x)] w fun e w' => e = .returned (.int .i64 (idxZ g x)) ∧ Below w.heap.size w w' := by
  have HR : Hid (0 < g.length → ∃ b off, A = some ⟨b, off, none⟩ ∧ b < w.heap.size ∧ ∀ i, i < g.length → ∃ pA pc, SS w w.heap.size pA (g.getD i nd0).preds ∧ ((g.getD i nd0).preds.length ≤ pc ∧ pc ≤ 9223372036854775807) ∧ w.cell? ⟨b, off + i * 2, none⟩ = some (.string (text (g.getD i nd0).id)) ∧ w.cell? ⟨b, off + i * 2 + 1, none⟩ = some (.slice pA (g.getD i nd0).preds.length pc)) := fun hh => h.at_ hh
  have HN := Lib.hid hn
  obtain ⟨t, ht⟩ : ∃ t, t = text x := ⟨_, rfl⟩
  rw [← ht]
  have HT := Lib.hid ht
  clear hn h ht
  obtain ⟨wb, hwb⟩ : ∃ wb, wb = w.alloc (.cells #[.slice A n c] 27) := ⟨_, rfl⟩
  have HV : Hid (DgV w wb A n c) := hwb
  have HWb := Lib.hid hwb
  clear hwb
  go_enter Try.func47, Try.ntmps47
  go_wp2
  rw [← HWb.out]
  go_loopw [5] (fun i wr => ∃ k : Nat, k ≤ n ∧ i = .int .i64 (k : Int) ∧ Hid (∀ j, j < k → (g.getD j nd0).id ≠ x) ∧ Hid (Below wb.heap.size wb wr)) (fun i _ => n - (intOf i).toNat)
  case atStart => exact ⟨0, Nat.zero_le _, rfl, fun j hj => by omega, Below.refl _ _⟩
  case round =>
    obtain ⟨k, hk, rfl, HF, HB⟩ := hrel
    obtain ⟨c0, cl, cf⟩ := HV.out.cell HB.out
    have hB := below16 HV.out.below HB.out
    by_cases hlt : k < n
    · have hkg : k < g.length := by have := HN.out; omega
      have d0 : decide ((k : Int) < (n : Int)) = true := decide_eq_true (by omega)
      obtain ⟨b, off, rfl, hb, hc⟩ := HR.out (by omega)
      obtain ⟨pA, pc, -, -, hc0, -⟩ := hc k hkg
      rw [← hB.cell (p := ⟨b, off + k * 2, none⟩) hb] at hc0
      obtain ⟨s, hs⟩ : ∃ s, s = text (g.getD k nd0).id := ⟨_, rfl⟩
      rw [← hs] at hc0
      have u0 : (0 : Int) ≤ (k : Int) := by omega
      have u1 : (k : Int) < (n : Int) := by omega
      have HB2 := Lib.hid hB
      by_cases he : (g.getD k nd0).id = x
      · have heq : (s.toList == t.toList) = true := by rw [hs, HT.out, text_eq]; exact decide_eq_true he
        have HZ := Lib.hid (idxZ_at hkg he HF.out)
        clear hs hc HR he hkg HF hB hb
        go_wp2
        go_ret
        exact ⟨by rw [HZ.out]; rfl, HB2.out⟩
      · have heq : (s.toList == t.toList) = false := by rw [hs, HT.out, text_eq]; exact decide_eq_false he
        have HF2 : Hid (∀ j, j < k + 1 → (g.getD j nd0).id ≠ x) := fun j hj => by
          rcases Nat.lt_or_ge j k with h1 | h1
          · exact HF.out j h1
          · rw [show j = k by omega]; exact he
        clear hs hc HR he hkg hB hb
        go_wp2
        go_roundw
        case rel => exact ⟨k + 1, by omega, by go_num, HF2.out, HB.out⟩
        case measure => simp [intOf]; omega
    · have d0 : decide ((k : Int) < (n : Int)) = false := decide_eq_false (by omega)
      have HZ : Hid (idxZ g x = -1) := idxZ_no fun j hj => HF.out j (by have := HN.out; omega)
      have HB2 := Lib.hid hB
      clear hB HR
      go_wp2
      go_ret
      exact ⟨by rw [HZ.out]; rfl, HB2.out⟩
theorem rhasg_any (g : Gr) (x : Bs) (A : Option Addr) (n c : Nat) (w : World) (hn : n = g.length) (h : NL w w.heap.size A g) (hl : n ≤ 1000000) :
    Calls Try.prog 19 #[.agg #[.slice A n c], .string (text x)] w fun e w' => e = .returned (.bool (hasG g x)) ∧ Below w.heap.size w w' := by
  obtain ⟨z, hz⟩ : ∃ z, z = idxZ g x := ⟨_, rfl⟩
  have HF : Hid (∀ W, Below w.heap.size w W → Calls Try.prog 47 #[.agg #[.slice A n c], .string (text x)] W fun e w' => e = .returned (.int .i64 z) ∧ Below W.heap.size W w') := fun W hb => by
    rw [hz]
    exact rfind_any g x A n c W hn (h.up hb) hl
  have HZ : Hid (decide (0 ≤ z) = hasG g x) := by
    show _ = _
    rw [hz, hasG_idx, idxZ]
    split <;> rename_i h1 <;> simp [h1]
  obtain ⟨t, ht⟩ : ∃ t, t = text x := ⟨_, rfl⟩
  rw [← ht] at HF ⊢
  have a27 := fun w' => Try.dagAgg w'
  have s27 := fun w' => Try.dagSize w'
  clear ht hz hn h
  obtain ⟨wb, hwb⟩ : ∃ wb, wb = w.alloc (.cells #[.slice A n c] 27) := ⟨_, rfl⟩
  have HV : Hid (DgV w wb A n c) := hwb
  have HWb := Lib.hid hwb
  clear hwb
  obtain ⟨c0, cl, cf⟩ := HV.out.cell (Below.refl _ _)
  rw [HWb.out] at c0
  have HB := Lib.hid HV.out.below
  rw [HWb.out] at HB
  go_enter Try.func19, Try.ntmps19
  go_wp2_with (go_at_call 47; (with_reducible refine (HF.out _ HB.out).mono ?_); rintro e w1 ⟨rfl, b1⟩)
  go_ret
  rw [← HZ.out]
  exact ⟨rfl, below16 HB.out b1⟩
def GivesP (l : List Bs) (w : World) (e : Ending) (w' : World) : Prop := ∃ A c, e = .returned (.slice A l.length c) ∧ Hid (SS w' w'.heap.size A l) ∧ Hid (l.length ≤ c ∧ c ≤ 9223372036854775807) ∧ Hid (Below w.heap.size w w')
theorem rpredsg_any (g : Gr) (x : Bs) (A : Option Addr) (n c : Nat) (w : World) (hn : n = g.length) (h : NL w w.heap.size A g) (hl : n ≤ 1000000) :
    Calls Try.prog 23 #[.agg #[.slice A n c], .string (text x)] w (GivesP (predsG g x) w) := by
  obtain ⟨z, hz⟩ : ∃ z, z = idxZ g x := ⟨_, rfl⟩
  have HF : Hid (∀ W, Below w.heap.size w W → Calls Try.prog 47 #[.agg #[.slice A n c], .string (text x)] W fun e w' => e = .returned (.int .i64 z) ∧ Below W.heap.size W w') := fun W hb => by
    rw [hz]
    exact rfind_any g x A n c W hn (h.up hb) hl
  obtain ⟨t, ht⟩ : ∃ t, t = text x := ⟨_, rfl⟩
  rw [← ht] at HF ⊢
  have a27 := fun w' => Try.dagAgg w'
  have s27 := fun w' => Try.dagSize w'
  obtain ⟨wb, hwb⟩ : ∃ wb, wb = w.alloc (.cells #[.slice A n c] 27) := ⟨_, rfl⟩
  have HV : Hid (DgV w wb A n c) := hwb
  have HWb := Lib.hid hwb
  clear hwb ht
  obtain ⟨c0, cl, cf⟩ := HV.out.cell (Below.refl _ _)
  rw [HWb.out] at c0
  have HB := Lib.hid HV.out.below
  rw [HWb.out] at HB
  by_cases hx : x ∈ idsG g
  · have hi := idx_lt.2 hx
    obtain ⟨b, off, rfl, hb, hc⟩ := h.at_ (by omega)
    obtain ⟨pA, pc, hs, hcap, -, hc1⟩ := hc (idxG g x) hi
    rw [idxZ_pos hx] at hz
    obtain ⟨k, hk⟩ : ∃ k, k = idxG g x := ⟨_, rfl⟩
    rw [← hk] at hz hi hs hcap hc1
    have hP : predsG g x = (g.getD k nd0).preds := by rw [hk]; rfl
    rw [hP]
    obtain ⟨l, hll⟩ : ∃ l, l = (g.getD k nd0).preds := ⟨_, rfl⟩
    rw [← hll] at hs hcap hc1 ⊢
    obtain ⟨m, hm⟩ : ∃ m, m = l.length := ⟨_, rfl⟩
    have HM := Lib.hid hm
    rw [← hm] at hc1 hcap
    have HS := Lib.hid hs
    have HC := Lib.hid hcap
    have HC1 : Hid (∀ W, Below w.heap.size w W → W.cell? ⟨b, off + k * 2 + 1, none⟩ = some (.slice pA m pc)) := fun W hW => (hW.cell (p := ⟨b, off + k * 2 + 1, none⟩) hb).trans hc1
    subst hz
    have d1 : decide ((k : Int) < 0) = false := decide_eq_false (by omega)
    have u0 : (0 : Int) ≤ (k : Int) := by omega
    have u1 : (k : Int) < (n : Int) := by omega
    clear hm hll hP hk hx hc hs hcap hc1 hn h hi
    go_enter Try.func23, Try.ntmps23
    go_wp2_with (go_at_call 47; (with_reducible refine (HF.out _ HB.out).mono ?_); rintro e w1 ⟨rfl, b1⟩; have q1 := HC1.out _ (below16 HB.out b1); clear c0 cl cf; obtain ⟨c0, cl, cf⟩ := HV.out.cell (by rw [HWb.out]; exact b1))
    go_ret
    refine ⟨pA, pc, by rw [HM.out]; rfl, ?_, ?_, below16 HB.out b1⟩
    · exact (HS.out.below (below16 HB.out b1)).more (below16 HB.out b1).size
    · rw [← HM.out]; exact HC.out
  · rw [idxZ_neg hx] at hz
    subst hz
    rw [preds_no hx]
    have d1 : decide ((-1 : Int) < 0) = true := by decide
    clear hx hn h
    go_enter Try.func23, Try.ntmps23
    go_wp2_with (go_at_call 47; (with_reducible refine (HF.out _ HB.out).mono ?_); rintro e w1 ⟨rfl, b1⟩)
    go_ret
    exact ⟨none, 0, rfl, SS.nil _ _ _, ⟨Nat.le_refl _, Nat.zero_le _⟩, below16 HB.out b1⟩
end
section
open Go.RowKit
theorem refWith_any (Ls : List Bs) (x : Bs) (A : Option Addr) (n c : Nat) (w : World) (HN : Hid (n = Ls.length)) (hr : SS w w.heap.size A Ls) (hn : n ≤ 10000) (hc : n ≤ c) (hcm : c ≤ 9223372036854775807) :
    Calls Try.prog 64 #[.slice A n c, .string (text x)] w (GivesStrs (withL Ls x) w) := by
  obtain ⟨i0, hi0, hz0, hz1, hz2⟩ := info_parts Try.infoStr
  obtain ⟨t, ht⟩ : ∃ t, t = text x := ⟨_, rfl⟩
  have Ht := Lib.hid ht
  have HS : Hid (SS w w.heap.size A Ls) := hr
  have HR : Hid (0 < Ls.length → ∃ b off, A = some ⟨b, off, none⟩ ∧ b < w.heap.size ∧ ∀ k, k < Ls.length → w.cell? ⟨b, off + k, none⟩ = some (.string (text (Ls.getD k [])))) := fun h => hr.at_ h
  rw [← ht]
  clear ht hr
  go_enter Try.func64, Try.ntmps64
  go_wp2
  go_loopw [5] (fun i wr => ∃ k : Nat, k ≤ n ∧ i = .int .i64 (k : Int) ∧ Hid (∀ j, j < k → Op.bytesLess (Ls.getD j []) x = true) ∧ w = wr) (fun i _ => n - (intOf i).toNat)
  case atStart => exact ⟨0, by omega, rfl, by intro j hj; omega, by trivial⟩
  case round =>
    obtain ⟨k, hk, rfl, HF, rfl⟩ := hrel
    have u0 : (0 : Int) ≤ (k : Int) := by omega
    have hnL := HN.out
    have after : Hid (k = placeL Ls x → True) := fun _ => trivial
    by_cases hlt : k < n
    · have hkL : k < Ls.length := by omega
      obtain ⟨b, off, hA, _, hcc⟩ := HR.out (by omega)
      obtain ⟨y, hy⟩ : ∃ y, y = Ls.getD k [] := ⟨_, rfl⟩
      obtain ⟨s, hs⟩ : ∃ s, s = text y := ⟨_, rfl⟩
      have hck := hcc k hkL
      rw [← hy, ← hs] at hck
      subst hA
      have d0 : decide ((k : Int) < (n : Int)) = true := decide_eq_true (by omega)
      have d1 : decide (k < n) = true := decide_eq_true hlt
      have u1 : (k : Int) < (n : Int) := by omega
      cases hls : Op.bytesLess y x with
      | true =>
        have hl : Op.bytesLess s.toList t.toList = true := by rw [hs, Ht.out, text_less]; exact hls
        have HH : Hid (∀ j, j < k + 1 → Op.bytesLess (Ls.getD j []) x = true) := fun j hj => by
          rcases Nat.lt_or_ge j k with h | h
          · exact HF.out j h
          · rw [show j = k by omega, ← hy]; exact hls
        clear hy hs hcc HR HF hls hnL hkL
        go_wp2
        refine ⟨⟨k + 1, by omega, by go_num, HH, by trivial⟩, ?_⟩
        simp [intOf]; omega
      | false =>
        have hl : Op.bytesLess s.toList t.toList = false := by rw [hs, Ht.out, text_less]; exact hls
        have HP : Hid (k = placeL Ls x) := placeL_unique Ls x k (by omega) HF.out (fun _ => by rw [← hy]; exact hls)
        by_cases he : y = x
        · have heq : (s.toList == t.toList) = true := by rw [hs, Ht.out, text_eq]; exact decide_eq_true he
          have HW : Hid (withL Ls x = Ls) := by
            show _ = _
            unfold withL
            rw [if_pos ⟨by rw [← HP.out]; exact hkL, by rw [← HP.out, ← hy]; exact he⟩]
          clear hy hs hcc HR HF hls HP he hnL hkL
          go_wp2
          go_ret
          refine ⟨_, c, ?_, by rw [HW.out]; exact HS.out, by rw [HW.out]; have := HN.out; omega, hcm, Below.refl _ _⟩
          rw [HW.out, ← HN.out]
          rfl
        · have heq : (s.toList == t.toList) = false := by rw [hs, Ht.out, text_eq]; exact decide_eq_false he
          have HW : Hid (withL Ls x = Ls.take k ++ x :: Ls.drop k) := by
            show _ = _
            unfold withL
            rw [if_neg (by rw [← HP.out, ← hy]; exact fun h => he h.2), ← HP.out]
          clear hy hs hcc HF hls HP he hkL
          have hkn : k ≤ n := hk
          have HT1 : Hid (Reads w w.heap.size 1 (some ⟨b, off, none⟩) k (scells (Ls.take k))) := by
            have h := HS.out.take k (by omega)
            unfold SS at h
            rwa [List.length_take, Nat.min_eq_left (by omega)] at h
          obtain ⟨Ak, hAk⟩ : ∃ Ak, Ak = (if c = k then (some ⟨b, off, none⟩ : Option Addr) else (some ⟨b, off, none⟩ : Option Addr).map (fun x => x.add (k * 1))) := ⟨_, rfl⟩
          have HT2 : Hid (Reads w w.heap.size 1 Ak (n - k) (scells (Ls.drop k))) := by
            have h := HS.out.cut (k := k) (c := c) (by omega) (by omega)
            rw [← hAk] at h
            unfold SS at h
            rwa [List.length_drop, ← hnL] at h
          have S1 : ∀ V, (Instr.sliceAt 33 (.slice (some ⟨b, off, none⟩) n c) none (some (.int .i64 (k : Int))) none).run Try.prog V = .ok (.slice (some ⟨b, off, none⟩) k c) V := fun V => sslice_front (some ⟨b, off, none⟩) n c k V (by omega)
          have S2 : ∀ V, (Instr.sliceAt 33 (.slice (some ⟨b, off, none⟩) n c) (some (.int .i64 (k : Int))) none none).run Try.prog V = .ok (.slice Ak (n - k) (c - k)) V := fun V => by rw [hAk]; exact sslice_back (some ⟨b, off, none⟩) n c k V hkn
          have HE : Hid (scells (Ls.take k) ++ [Value.string t] ++ scells (Ls.drop k) = scells (withL Ls x) ∧ k + 1 + (n - k) = (withL Ls x).length) := by
            refine ⟨?_, ?_⟩
            · rw [HW.out, Ht.out, scells_append]; simp [scells]
            · rw [HW.out, List.length_append, List.length_take, List.length_cons, List.length_drop]; omega
          clear hAk HR hnL
          go_wp2_with (first
            | (at_builtin; refine wpList_append_any _ rfl (.tmp 34) (.tmp 37) _ rfl w.heap.size 9 i0 _ 1 16 Try.underlying33 hi0 hz0 hz1 hz2 rfl (by omega) (.slice (some ⟨w.heap.size, 0, none⟩) 0 0) 0 [] rfl (World.ownsRow_made w #[] 0 (Nat.le_refl _) (by decide) rfl) w.heap.size (some ⟨b, off, none⟩) k c (scells (Ls.take k)) rfl (HT1.out.alloc (Nat.le_refl _) _) (scells_one _) (by simp only [maxLen]; omega) (by omega) (by simp) ?_; intro v1 w1 ho1 hg1 hat1; simp only [Nat.zero_add, List.nil_append] at ho1; have b1 : Below w.heap.size w w1 := ((Below.refl _ _).alloc (Nat.le_refl _) _).grown hg1 (by simp) (by simp [Value.ownBlock]))
            | (at_builtin; refine wpList_append_own _ rfl (.tmp 39) (.tmp 41) _ rfl w.heap.size 9 i0 _ 1 16 Try.underlying33 hi0 hz0 hz1 hz2 rfl (by omega) _ k (scells (Ls.take k)) rfl (ho1.alloc _) ⟨w1.heap.size, 0, none⟩ 1 1 [Value.string t] rfl rfl (cell_one_new _ _ _) (by intro u hu; rw [List.mem_singleton] at hu; subst hu; rfl) (by simp only [maxLen]; omega) (by omega) (by have := b1.size; simp; omega) ?_; intro v2 w2 ho2 hg2 hat2; have b2 : Below w.heap.size w w2 := (b1.alloc b1.size _).grown hg2 (by have := b1.size; simp; omega) (fun q hq => (ho1.lt q hq).1))
            | (at_builtin; refine wpList_append_any _ rfl (.tmp 43) (.tmp 46) _ rfl w.heap.size 9 i0 _ 1 16 Try.underlying33 hi0 hz0 hz1 hz2 rfl (by omega) _ (k + 1) (scells (Ls.take k) ++ [Value.string t]) rfl ho2 w.heap.size Ak (n - k) (c - k) (scells (Ls.drop k)) rfl (HT2.out.below b2) (scells_one _) (by simp only [maxLen]; omega) (by omega) b2.size ?_; intro v3 w3 ho3 hg3 hat3; have b3 : Below w.heap.size w w3 := b2.grown hg3 b2.size (fun q hq => (ho2.lt q hq).1)))
          rw [HE.out.1, HE.out.2] at ho3
          go_ret
          exact GivesStrs.own ho3 b3
    · have hkn2 : k = n := by omega
      have HP : Hid (k = placeL Ls x) := placeL_unique Ls x k (by omega) HF.out (fun h => by omega)
      have HW : Hid (withL Ls x = Ls.take k ++ x :: Ls.drop k) := by
        show _ = _
        unfold withL
        rw [if_neg (by rw [← HP.out]; exact fun h => by omega), ← HP.out]
      have d0 : decide ((k : Int) < (n : Int)) = false := decide_eq_false (by omega)
      have d1 : decide (k < n) = false := decide_eq_false (by omega)
      clear HP HF hkn2 hlt
      have hkn : k ≤ n := hk
      have HT1 : Hid (Reads w w.heap.size 1 A k (scells (Ls.take k))) := by
        have h := HS.out.take k (by omega)
        unfold SS at h
        rwa [List.length_take, Nat.min_eq_left (by omega)] at h
      obtain ⟨Ak, hAk⟩ : ∃ Ak, Ak = (if c = k then A else A.map (fun x => x.add (k * 1))) := ⟨_, rfl⟩
      have HT2 : Hid (Reads w w.heap.size 1 Ak (n - k) (scells (Ls.drop k))) := by
        have h := HS.out.cut (k := k) (c := c) (by omega) (by omega)
        rw [← hAk] at h
        unfold SS at h
        rwa [List.length_drop, ← hnL] at h
      have S1 : ∀ V, (Instr.sliceAt 33 (.slice A n c) none (some (.int .i64 (k : Int))) none).run Try.prog V = .ok (.slice A k c) V := fun V => sslice_front A n c k V (by omega)
      have S2 : ∀ V, (Instr.sliceAt 33 (.slice A n c) (some (.int .i64 (k : Int))) none none).run Try.prog V = .ok (.slice Ak (n - k) (c - k)) V := fun V => by rw [hAk]; exact sslice_back A n c k V hkn
      have HE : Hid (scells (Ls.take k) ++ [Value.string t] ++ scells (Ls.drop k) = scells (withL Ls x) ∧ k + 1 + (n - k) = (withL Ls x).length) := by
        refine ⟨?_, ?_⟩
        · rw [HW.out, Ht.out, scells_append]; simp [scells]
        · rw [HW.out, List.length_append, List.length_take, List.length_cons, List.length_drop]; omega
      clear hAk HR hnL
      go_wp2_with (first
        | (at_builtin; refine wpList_append_any _ rfl (.tmp 34) (.tmp 37) _ rfl w.heap.size 9 i0 _ 1 16 Try.underlying33 hi0 hz0 hz1 hz2 rfl (by omega) (.slice (some ⟨w.heap.size, 0, none⟩) 0 0) 0 [] rfl (World.ownsRow_made w #[] 0 (Nat.le_refl _) (by decide) rfl) w.heap.size A k c (scells (Ls.take k)) rfl (HT1.out.alloc (Nat.le_refl _) _) (scells_one _) (by simp only [maxLen]; omega) (by omega) (by simp) ?_; intro v1 w1 ho1 hg1 hat1; simp only [Nat.zero_add, List.nil_append] at ho1; have b1 : Below w.heap.size w w1 := ((Below.refl _ _).alloc (Nat.le_refl _) _).grown hg1 (by simp) (by simp [Value.ownBlock]))
        | (at_builtin; refine wpList_append_own _ rfl (.tmp 39) (.tmp 41) _ rfl w.heap.size 9 i0 _ 1 16 Try.underlying33 hi0 hz0 hz1 hz2 rfl (by omega) _ k (scells (Ls.take k)) rfl (ho1.alloc _) ⟨w1.heap.size, 0, none⟩ 1 1 [Value.string t] rfl rfl (cell_one_new _ _ _) (by intro u hu; rw [List.mem_singleton] at hu; subst hu; rfl) (by simp only [maxLen]; omega) (by omega) (by have := b1.size; simp; omega) ?_; intro v2 w2 ho2 hg2 hat2; have b2 : Below w.heap.size w w2 := (b1.alloc b1.size _).grown hg2 (by have := b1.size; simp; omega) (fun q hq => (ho1.lt q hq).1))
        | (at_builtin; refine wpList_append_any _ rfl (.tmp 43) (.tmp 46) _ rfl w.heap.size 9 i0 _ 1 16 Try.underlying33 hi0 hz0 hz1 hz2 rfl (by omega) _ (k + 1) (scells (Ls.take k) ++ [Value.string t]) rfl ho2 w.heap.size Ak (n - k) (c - k) (scells (Ls.drop k)) rfl (HT2.out.below b2) (scells_one _) (by simp only [maxLen]; omega) (by omega) b2.size ?_; intro v3 w3 ho3 hg3 hat3; have b3 : Below w.heap.size w w3 := b2.grown hg3 b2.size (fun q hq => (ho2.lt q hq).1)))
      rw [HE.out.1, HE.out.2] at ho3
      go_ret
      exact GivesStrs.own ho3 b3
end
end Go.Proofs.Ytbeihiokjhfepaa
