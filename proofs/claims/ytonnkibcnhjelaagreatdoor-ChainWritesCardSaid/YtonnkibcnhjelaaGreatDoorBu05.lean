/- Lemmas under the proofs of this place: DiskMore, Drawn, OpenParts, IntsZ0. No statement is proved here. -/
import Derived.Test.YtonnkibcnhjelaaGreatDoorBu02
import Derived.Test.YtonnkibcnhjelaaGreatDoorBu03
import Derived.Test.YtonnkibcnhjelaaGreatDoorBu00
import Derived.Laws.CopyOwn
import Derived.Deep.RegionWith
import Derived.Deep.Matrix
import Derived.Laws.Slices
section
set_option linter.unusedVariables false
namespace Go.Proofs.YtonnkibcnhjelaaGreatDoor
namespace Dk
theorem flatten_length {l : List (List UInt8)} (h : ∀ b ∈ l, b.length = 256) : l.flatten.length = 256 * l.length := by
  induction l with
  | nil => rfl
  | cons x l ih =>
    rw [List.flatten_cons, List.length_append, ih (fun y hy => h y (List.mem_cons_of_mem _ hy)), h x (List.mem_cons_self ..), List.length_cons]
    omega
theorem flatten_set : ∀ (l : List (List UInt8)) (n : Nat) (b : List UInt8), (∀ b ∈ l, b.length = 256) → n < l.length → b.length = 256 → (l.set n b).flatten = splice l.flatten (256 * n) b
  | [], n, b, _, hn, _ => by simp at hn
  | x :: l, 0, b, h, _, hb => by
    have hx := h x (List.mem_cons_self ..)
    simp only [List.set_cons_zero, List.flatten_cons, splice, Nat.mul_zero, List.take_zero, List.nil_append, Nat.zero_add, hb]
    rw [List.drop_append, List.drop_eq_nil_of_le (by omega), List.nil_append, hx, Nat.sub_self, List.drop_zero]
  | x :: l, n + 1, b, h, hn, hb => by
    have hx := h x (List.mem_cons_self ..)
    have ih := flatten_set l n b (fun y hy => h y (List.mem_cons_of_mem _ hy)) (by simpa using hn) hb
    simp only [List.set_cons_succ, List.flatten_cons, ih, splice, hb]
    have e1 : (x ++ l.flatten).take (256 * (n + 1)) = x ++ l.flatten.take (256 * n) := by
      rw [List.take_append, List.take_of_length_le (by omega), hx, show 256 * (n + 1) - 256 = 256 * n by omega]
    have e2 : (x ++ l.flatten).drop (256 * (n + 1) + 256) = l.flatten.drop (256 * n + 256) := by
      rw [List.drop_append, List.drop_eq_nil_of_le (by omega), List.nil_append, hx, show 256 * (n + 1) + 256 - 256 = 256 * n + 256 by omega]
    rw [e1, e2, List.append_assoc]
theorem flatten_get : ∀ (l : List (List UInt8)) (n : Nat), (∀ b ∈ l, b.length = 256) → n < l.length → (l.flatten.drop (256 * n)).take 256 = l.getD n []
  | [], n, _, hn => by simp at hn
  | x :: l, 0, h, _ => by
    have hx := h x (List.mem_cons_self ..)
    rw [List.flatten_cons, Nat.mul_zero, List.drop_zero, List.take_append_of_le_length (by omega), List.take_of_length_le (by omega)]; simp
  | x :: l, n + 1, h, hn => by
    have hx := h x (List.mem_cons_self ..)
    have ih := flatten_get l n (fun y hy => h y (List.mem_cons_of_mem _ hy)) (by simpa using hn)
    rw [List.flatten_cons, List.drop_append, List.drop_eq_nil_of_le (by omega), List.nil_append, hx, show 256 * (n + 1) - 256 = 256 * n by omega, ih]; simp
def nows (d : Dk) : List (List UInt8) := (List.range d.safe.length).map d.now
theorem image_nows (d : Dk) : d.image = d.nows.flatten := by unfold image nows; rw [List.flatMap_def]
theorem nows_length (d : Dk) : d.nows.length = d.safe.length := by unfold nows; simp
theorem nows_fit {d : Dk} (h : d.fit) : ∀ b ∈ d.nows, b.length = 256 := by
  intro b hb
  unfold nows at hb
  obtain ⟨k, hk, rfl⟩ := List.mem_map.1 hb
  exact fit_now h (List.mem_range.1 hk)
theorem nows_get (d : Dk) (n : Nat) (h : n < d.safe.length) : d.nows.getD n [] = d.now n := by
  unfold nows; simp [List.getD, h]
theorem nows_at (d : Dk) (k : Nat) (h : k < d.nows.length) : d.nows[k] = d.now k := by simp [nows]
theorem nows_calm (d : Dk) (h : d.waits = []) : d.nows = d.safe := by
  apply List.ext_getElem
  · rw [nows_length]
  · intro k h1 h2
    rw [nows_at]
    unfold now
    rw [h]
    simp [lastOf, List.getD, h2]
theorem nows_write (d : Dk) (n : Nat) (b : List UInt8) (hn : n < d.safe.length) : nows { d with waits := d.waits ++ [(n, b)] } = d.nows.set n b := by
  apply List.ext_getElem
  · rw [List.length_set, nows_length, nows_length]
  · intro k h1 h2
    rw [nows_at, List.getElem_set, nows_at]
    unfold now
    rw [lastOf_append]
    by_cases h : n = k
    · simp [h]
    · simp [h]
theorem image_length {d : Dk} (h : d.fit) : d.image.length = 256 * d.safe.length := by rw [image_nows, flatten_length (nows_fit h), nows_length]
theorem image_calm (d : Dk) (h : d.waits = []) : d.image = d.safe.flatten := by rw [image_nows, nows_calm d h]
theorem image_write {d : Dk} (hf : d.fit) (n : Nat) (b : List UInt8) (hn : n < d.safe.length) (hb : b.length = 256) : image { d with waits := d.waits ++ [(n, b)] } = splice d.image (256 * n) b := by
  rw [image_nows, nows_write d n b hn, flatten_set _ _ _ (nows_fit hf) (by rw [nows_length]; exact hn) hb, ← image_nows]
theorem image_get {d : Dk} (hf : d.fit) (n : Nat) (hn : n < d.safe.length) : (d.image.drop (256 * n)).take 256 = d.now n := by
  rw [image_nows, flatten_get _ _ (nows_fit hf) (by rw [nows_length]; exact hn), nows_get d n hn]
theorem laid_snoc (x : Nat × List UInt8) : ∀ (l : List (Nat × List UInt8)) (safe : List (List UInt8)), laid safe (l ++ [x]) = (laid safe l).set x.1 x.2
  | [], safe => rfl
  | y :: l, safe => by rw [List.cons_append, laid, laid_snoc x l, laid]
theorem laid_nows (d : Dk) : laid d.safe d.waits = d.nows := by
  apply List.ext_getElem
  · rw [laid_length, nows_length]
  · intro k h1 h2
    have hk : k < d.safe.length := by rwa [laid_length] at h1
    have h3 := laid_get k d.waits d.safe hk
    have h4 := nows_get d k hk
    rw [List.getD, List.getElem?_eq_getElem h1] at h3
    rw [List.getD, List.getElem?_eq_getElem h2] at h4
    simp only [Option.getD_some] at h3 h4
    rw [h3, h4]; rfl
def tear (masks : List Int) (safe : List (List UInt8)) (x : Nat × List UInt8) (i : Nat) : List (List UInt8) :=
  if i < masks.length then safe.set x.1 (torn (safe.getD x.1 []) x.2 (masks.getD i 0)) else safe
theorem crashed_snoc (masks : List Int) (x : Nat × List UInt8) : ∀ (l : List (Nat × List UInt8)) (safe : List (List UInt8)) (i : Nat), crashed masks safe (l ++ [x]) i = tear masks (crashed masks safe l i) x (i + l.length)
  | [], safe, i => by
    rw [List.nil_append, crashed, crashed, crashed]
    unfold tear
    simp only [List.length_nil, Nat.add_zero, crashed]
  | y :: l, safe, i => by
    rw [List.cons_append, crashed, crashed_snoc masks x l, crashed_snoc masks x l, crashed, List.length_cons, show i + 1 + l.length = i + (l.length + 1) by omega]
    split <;> rfl
def tornK (was b : List UInt8) (m : Int) : Nat → List UInt8
  | 0 => was
  | k + 1 => if bitOf m k = true then splice (tornK was b m k) (64 * k) (sector b k) else tornK was b m k
theorem sector_length (b : List UInt8) (h : b.length = 256) (k : Nat) (hk : k < 4) : (sector b k).length = 64 := by unfold sector; simp; omega
theorem tornK_form (was b : List UInt8) (m : Int) (h1 : was.length = 256) (h2 : b.length = 256) : ∀ k, k ≤ 4 → tornK was b m k = ((List.range k).flatMap fun j => sector (if bitOf m j then b else was) j) ++ was.drop (64 * k) ∧ ((List.range k).flatMap fun j => sector (if bitOf m j then b else was) j).length = 64 * k := by
  intro k
  induction k with
  | zero => intro _; simp [tornK]
  | succ k ih =>
    intro hk
    obtain ⟨e1, e2⟩ := ih (by omega)
    have hs : (sector (if bitOf m k then b else was) k).length = 64 := sector_length _ (by split <;> assumption) k (by omega)
    rw [List.range_succ, List.flatMap_append, List.flatMap_cons, List.flatMap_nil, List.append_nil, tornK]
    refine ⟨?_, by rw [List.length_append, e2, hs]; omega⟩
    split
    · rename_i hm
      unfold splice
      rw [sector_length b h2 k (by omega), e1]
      rw [List.take_append_of_le_length (by omega), List.take_of_length_le (by omega), List.drop_append, List.drop_eq_nil_of_le (by omega), List.nil_append, e2, List.drop_drop, List.append_assoc]
      congr 3
      congr 1
      omega
    · rename_i hm
      rw [e1, List.append_assoc]
      congr 1
      have e : was.drop (64 * k) = sector was k ++ was.drop (64 * (k + 1)) := by
        unfold sector
        have := (List.take_append_drop 64 (was.drop (64 * k))).symm
        rw [List.drop_drop] at this
        rw [show 64 * (k + 1) = 64 * k + 64 by omega]
        exact this
      exact e
theorem tornK_all (was b : List UInt8) (m : Int) (h1 : was.length = 256) (h2 : b.length = 256) : tornK was b m 4 = torn was b m := by
  rw [(tornK_form was b m h1 h2 4 (by omega)).1, List.drop_eq_nil_of_le (by omega), List.append_nil]
  rfl
theorem tornK_length (was b : List UInt8) (m : Int) (h1 : was.length = 256) (h2 : b.length = 256) (k : Nat) (hk : k ≤ 4) : (tornK was b m k).length = 256 := by
  obtain ⟨e1, e2⟩ := tornK_form was b m h1 h2 k hk
  rw [e1, List.length_append, e2, List.length_drop, h1]; omega
theorem splice_in {L X Y : List UInt8} (n k : Nat) (hL : n + X.length ≤ L.length) (hk : k + Y.length ≤ X.length) : splice (splice L n X) (n + k) Y = splice L n (splice X k Y) := by
  have hl : (splice X k Y).length = X.length := length_splice X k Y hk
  unfold splice at hl ⊢
  rw [hl]
  have e1 : (L.take n ++ (X ++ L.drop (n + X.length))).take (n + k) = L.take n ++ X.take k := by
    rw [List.take_append, List.take_of_length_le (by rw [List.length_take]; omega), List.length_take, show n + k - min n L.length = k by omega, List.take_append_of_le_length (by omega)]
  have e2 : (L.take n ++ (X ++ L.drop (n + X.length))).drop (n + k + Y.length) = X.drop (k + Y.length) ++ L.drop (n + X.length) := by
    rw [List.drop_append, List.drop_eq_nil_of_le (by rw [List.length_take]; omega), List.nil_append, List.length_take, show n + k + Y.length - min n L.length = k + Y.length by omega, List.drop_append_of_le_length (by omega)]
  rw [e1, e2]
  simp [List.append_assoc]
theorem splice_self (L : List UInt8) (n m : Nat) (h : n + m ≤ L.length) : splice L n ((L.drop n).take m) = L := by
  have hl : ((L.drop n).take m).length = m := by simp; omega
  unfold splice
  rw [hl, ← List.drop_drop, List.take_append_drop, List.take_append_drop]
def chunks : Nat → List UInt8 → List (List UInt8)
  | 0, _ => []
  | m + 1, L => L.take 256 :: chunks m (L.drop 256)
theorem chunks_length : ∀ (m : Nat) (L : List UInt8), (chunks m L).length = m
  | 0, _ => rfl
  | m + 1, L => by rw [chunks, List.length_cons, chunks_length]
theorem chunks_fit : ∀ (m : Nat) (L : List UInt8), L.length = 256 * m → ∀ b ∈ chunks m L, b.length = 256
  | 0, L, _, b, hb => by cases hb
  | m + 1, L, h, b, hb => by
    rw [chunks] at hb
    rcases List.mem_cons.1 hb with rfl | hb
    · rw [List.length_take]; omega
    · exact chunks_fit m (L.drop 256) (by rw [List.length_drop]; omega) b hb
theorem chunks_flatten : ∀ (m : Nat) (L : List UInt8), L.length = 256 * m → (chunks m L).flatten = L
  | 0, L, h => by rw [chunks]; exact (List.eq_nil_of_length_eq_zero (by omega)).symm
  | m + 1, L, h => by rw [chunks, List.flatten_cons, chunks_flatten m _ (by rw [List.length_drop]; omega), List.take_append_drop]
theorem chunks_get : ∀ (m : Nat) (L : List UInt8) (k : Nat) (h : k < m), (chunks m L)[k]'(by rw [chunks_length]; exact h) = (L.drop (256 * k)).take 256
  | m + 1, L, 0, _ => by simp [chunks]
  | m + 1, L, k + 1, h => by
    simp only [chunks, List.getElem_cons_succ]
    rw [chunks_get m (L.drop 256) k (by omega), List.drop_drop]
    congr 2; omega
theorem chunks_zero : ∀ m : Nat, chunks m (List.replicate (256 * m) 0) = List.replicate m (List.replicate 256 0)
  | 0 => rfl
  | m + 1 => by
    rw [chunks, List.take_replicate, List.drop_replicate, List.replicate_succ, show min 256 (256 * (m + 1)) = 256 by omega, show 256 * (m + 1) - 256 = 256 * m by omega, chunks_zero m]
def ofImage (L : List UInt8) : Dk := ⟨chunks (L.length / 256) L, [], -1, false, 0, 0, 0⟩
theorem ofImage_zero (m : Nat) : ofImage (List.replicate (256 * m) 0) = blank m := by
  unfold ofImage blank
  rw [List.length_replicate, show 256 * m / 256 = m by omega, chunks_zero]
def mayL (L : List UInt8) : Prop := L.length % 256 = 0 ∧ 16 ≤ L.length / 256 ∧ L.length / 256 ≤ 1024
end Dk
end Go.Proofs.YtonnkibcnhjelaaGreatDoor
end
section
set_option linter.unusedVariables false
namespace Go.Proofs.YtonnkibcnhjelaaGreatDoor
open Go.RowKit
section
variable {P : Program} {ops : Array Oper} {Q : Exit → Act → World → Prop} {md : Region.Mode}
theorem any_pure {i fuel : Nat} {oi : Oper} {listed listed' : Array Bool} {a a' : Act} {w : World} (v : Value) (hi : ops[i]? = some oi) (hs : Region.noSelect ops = true) (hf : Region.free md ops listed i = true) (hr : (Region.ready md ops listed).contains i = true)
    (hw : Region.wanted oi (yielded ops a.tmps) = true) (hy : ∀ w, (execOp a.eval oi).run P w = .ok (.value v) w) (ha : a.put oi.dst v = a') (hl : listed.setIfInBounds i true = listed') (hQ : ∀ c a w, Q (.panic c) (a.put oi.dst v) w → Q (.panic c) a w)
    (h : wpAny P md ops Q fuel listed' a' w) : wpAny P md ops Q (fuel + 1) listed a w := by
  subst ha hl
  exact wpAny_take hi hs hf hr hQ (.inl ⟨hw, hy⟩) h
theorem any_as {fuel : Nat} {listed listed' : Array Bool} {a a' : Act} {w : World} (ha : a = a') (hl : listed = listed') (h : wpAny P md ops Q fuel listed' a' w) : wpAny P md ops Q fuel listed a w := by
  subst ha hl; exact h
theorem op_value {i : Nat} {oi : Oper} {K : Act → World → Prop} {a a' : Act} {w w' : World} (v : Value) (hi : ops[i]? = some oi) (hw : Region.wanted oi (yielded ops a.tmps) = true) (hy : (execOp a.eval oi).run P w = .ok (.value v) w') (ha : a.put oi.dst v = a')
    (h : K a' w') : wpOp P ops Q i K a w := by
  subst ha
  refine wpOp_step hi fun K' hK => ?_
  rw [if_pos hw]
  unfold Oper.wp
  rw [hy]
  exact hK _ _ h
theorem op_enter {i : Nat} {oi : Oper} {K : Act → World → Prop} {a : Act} {w : World} (f : FuncId) (args : Array Value) (dst : Option Tmp) (hi : ops[i]? = some oi) (hw : Region.wanted oi (yielded ops a.tmps) = true) (hy : (execOp a.eval oi).run P w = .ok (.enter f args) w) (hd : oi.dst = dst)
    (h : Calls P f args w fun e w' => ∃ v, e = .returned v ∧ K (a.put dst v) w') : wpOp P ops Q i K a w := by
  subst hd
  refine wpOp_step hi fun K' hK => ?_
  rw [if_pos hw]
  unfold Oper.wp
  rw [hy, Oper.upon_enter]
  refine h.mono ?_
  rintro e w' ⟨v, rfl, hv⟩
  exact hK _ _ hv
theorem load_run {o : Oper} {a : Act} {w : World} (ty : TypeId) (x : Operand) (b off : Nat) (cs : List Value) (d : TypeDesc) (ho : o.op = .load ty x) (hx : a.eval x = .pointer (some ⟨b, off, none⟩)) (hc : w.rangeAt b off cs)
    (hu : P.underlying ty = some d) (hd : d.isRow = true) (hi : (P.info? ty).map (·.size) = some cs.length) (C : Array Value) (hC : cs.toArray = C) : (execOp a.eval o).run P w = .ok (.value (.agg C)) w := by
  subst hC
  unfold execOp
  simp only [ho, hx, Instr.loadAt, Instr.sureAddr, Sem.run_bind, Sem.run_pure, Result.andThen_ok, run_loadVar_mid w b off ty cs d hc hu hd hi]
end
end Go.Proofs.YtonnkibcnhjelaaGreatDoor
end
section
set_option linter.unusedVariables false
namespace Go.Proofs.YtonnkibcnhjelaaGreatDoor
open Go.ChangeShapes Go.WideShapes Go.ChangeAt Go.RowKit
def bytesOfInts (zs : List Int) : List UInt8 := zs.map fun z => UInt8.ofNat z.toNat
theorem cells_of_ints (zs : List Int) (h : ∀ n ∈ zs, (Lit.int .u8 n).wf = true) : cells (bytesOfInts zs) = zs.map (Value.int .u8) := by
  unfold cells bytesOfInts
  rw [List.map_map]
  apply List.map_congr_left
  intro z hz'
  have hw := h z hz'
  have hb : 0 ≤ z ∧ z ≤ 255 := by simpa [Lit.wf, IntKind.min, IntKind.max, IntKind.signed, IntKind.bits] using hw
  show Value.int .u8 _ = Value.int .u8 z
  rw [ofNat_toNat _ (by omega)]
  congr 1
  omega
theorem rb_of_ints {W : World} {A : Option Addr} {zs : List Int} (len : Nat) (hl : len ≤ zs.length) (hw : ∀ n ∈ zs, (Lit.int .u8 n).wf = true)
    (hA : A = none → zs.length = 0) (hc : ∀ a, A = some a → ∀ c, c < zs.length → W.cell? (a.add c) = some (.int .u8 (zs.getD c 0))) : RB W W.heap.size A (bytesOfInts (zs.take len)) := by
  have hlen : (zs.take len).length = len := by rw [List.length_take]; omega
  unfold RB
  rw [cells_of_ints _ (fun n hn => hw n (List.mem_of_mem_take hn))]
  refine ⟨by simp [bytesOfInts], fun hn => ?_⟩
  have hn' : 0 < len := by simp [bytesOfInts] at hn; omega
  rcases A with _ | a
  · have := hA rfl; omega
  · have h0 := hc a rfl 0 (by omega)
    have hblk := World.block_lt_of_cell? W _ h0
    refine ⟨a, rfl, by rw [block_of_add] at hblk; exact hblk, fun j u hu => ?_⟩
    rw [List.getElem?_map, List.getElem?_take] at hu
    split at hu
    · rename_i hj
      rw [hc a rfl j (by omega)]
      rw [List.getElem?_eq_getElem (by omega)] at hu
      simp only [Option.map_some, Option.some.injEq] at hu
      rw [← hu]
      simp [List.getD, List.getElem?_eq_getElem (show j < zs.length by omega)]
    · cases hu
def Parts (w : World) (B : Nat) (A : Option Addr) (Ls : List (List UInt8)) : Prop :=
  0 < Ls.length → ∃ b off, A = some ⟨b, off, none⟩ ∧ b < B ∧ ∀ i (hi : i < Ls.length), ∃ (Ai : Option Addr) (ci : Nat), w.cell? ⟨b, off + i, none⟩ = some (.slice Ai Ls[i].length ci) ∧ RB w B Ai Ls[i] ∧ Ls[i].length ≤ ci ∧ ci ≤ maxLen
theorem Parts.below {w w' : World} {B : Nat} {A : Option Addr} {Ls : List (List UInt8)} (h : Parts w B A Ls) (hb : Below B w w') : Parts w' B A Ls := fun hn => by
  obtain ⟨b, off, e, hlt, hc⟩ := h hn
  refine ⟨b, off, e, hlt, fun i hi => ?_⟩
  obtain ⟨Ai, ci, h1, h2, h3, h4⟩ := hc i hi
  exact ⟨Ai, ci, (hb.cell (p := ⟨b, off + i, none⟩) hlt).trans h1, h2.below hb, h3, h4⟩
end Go.Proofs.YtonnkibcnhjelaaGreatDoor
end
section
set_option linter.unusedVariables false
namespace Go.Proofs.YtonnkibcnhjelaaGreatDoor
open Go.RowKit
theorem zadd_at (a off s : Nat) : (⟨a, off, none⟩ : Addr).add s = ⟨a, off + s, none⟩ := by unfold Addr.add; split <;> simp_all
def zcells (l : List Int) : List Value := l.map fun z => .int .i64 z
theorem zcells_length (l : List Int) : (zcells l).length = l.length := by simp [zcells]
theorem zcells_append (l m : List Int) : zcells (l ++ m) = zcells l ++ zcells m := by simp [zcells]
theorem zcells_drop (l : List Int) (k : Nat) : (zcells l).drop k = zcells (l.drop k) := by simp [zcells]
theorem zcells_one (l : List Int) : ∀ u ∈ zcells l, u.oneCell' = true := by
  intro u hu
  simp only [zcells, List.mem_map] at hu
  obtain ⟨b, _, rfl⟩ := hu
  rfl
theorem zcells_get (l : List Int) (k : Nat) (h : k < l.length) : (zcells l)[k]? = some (.int .i64 l[k]) := by simp [zcells, h]
def RZ (w : World) (B : Nat) (A : Option Addr) (l : List Int) : Prop := Reads w B 1 A l.length (zcells l)
theorem RZ.ri {w : World} {B : Nat} {A : Option Addr} {l : List Int} (h : RZ w B A l) : RI w B A l := fun hn => by
  obtain ⟨ad, e, hb, hc⟩ := h.2 hn
  have h0 := hc 0 _ (zcells_get l 0 hn)
  obtain ⟨b, off, p⟩ := ad
  have e0 : (⟨b, off, p⟩ : Addr).add 0 = ⟨b, off, p⟩ := by simp [Addr.add]
  rw [e0] at h0
  have hp : p = none := World.cell?_spot h0
  subst hp
  refine ⟨b, off, e, hb, fun k hk => ?_⟩
  have := hc k _ (zcells_get l k hk)
  rwa [zadd_at] at this
theorem RI.rz {w : World} {B : Nat} {A : Option Addr} {l : List Int} (h : RI w B A l) : RZ w B A l := by
  refine ⟨by rw [zcells_length, Nat.mul_one], fun hn => ?_⟩
  obtain ⟨b, off, e, hb, hc⟩ := h hn
  refine ⟨_, e, hb, fun j u hu => ?_⟩
  have hj : j < l.length := by
    have := (List.getElem?_eq_some_iff.1 hu).1
    rwa [zcells_length] at this
  rw [zcells_get l j hj] at hu
  rw [zadd_at, hc j hj]
  exact hu
theorem RI.more {w : World} {B B' : Nat} {A : Option Addr} {l : List Int} (h : RI w B A l) (hB : B ≤ B') : RI w B' A l := fun hn => by
  obtain ⟨b, off, e, hb, hc⟩ := h hn
  exact ⟨b, off, e, Nat.lt_of_lt_of_le hb hB, hc⟩
theorem ri_up {w w' : World} {A : Option Addr} {l : List Int} (h : RI w w.heap.size A l) (hb : Below w.heap.size w w') : RI w' w'.heap.size A l := (h.below hb).more hb.size
theorem Tryz.infoZ : (Tryz.prog.info? 3).map (fun i => (i.zero, i.size, i.bytes)) = some (some (.int .i64 0), 1, 8) := by kernel_rfl
theorem zown_ri {w : World} {base c : Nat} {A : Option Addr} {l : List Int} {n : Nat} (hn : n = l.length) (h : w.ownsRow base 3 1 (.slice A n c) n (zcells l)) : RI w w.heap.size A l := by
  subst hn
  exact RZ.ri (Reads.of_own h)
theorem zsl_from (A : Option Addr) (n c s : Nat) (i : Int) (hi : i = (s : Int)) (h1 : s ≤ n) (h2 : n ≤ c) (W : World) :
    (Instr.sliceAt 38 (.slice A n c) (some (.int .i64 i)) none none).run Tryz.prog W = .ok (.slice (if c = s then A else A.map (·.add (s * 1))) (n - s) (c - s)) W := by
  subst hi
  have hu : Tryz.prog.underlying 38 = some (.slice (Tryz.prog.elem 38)) := by kernel_rfl
  have he : Tryz.prog.elem 38 = 3 := by kernel_rfl
  have hsz : (sizeOf 3).run Tryz.prog W = .ok 1 W := by kernel_rfl
  have e : (s : Int).toNat = s := by omega
  rw [run_sliceAt_slice _ _ _ _ _ _ hu, run_slice_l _ _ _ _ _ hu .i64 (s : Int) (by omega) (by omega), he, hsz]
  simp only [Result.andThen_ok, e, sliced]
theorem addr_zero (A : Option Addr) (c : Nat) : (if c = 0 then A else A.map (·.add (0 * 1))) = A := by
  split
  · rfl
  · cases A with
    | none => rfl
    | some a => simp [Addr.add]
theorem zsl_to (A : Option Addr) (n c h : Nat) (j : Int) (hj : j = (h : Int)) (h1 : h ≤ c) (W : World) :
    (Instr.sliceAt 38 (.slice A n c) none (some (.int .i64 j)) none).run Tryz.prog W = .ok (.slice A h c) W := by
  subst hj
  have hu : Tryz.prog.underlying 38 = some (.slice (Tryz.prog.elem 38)) := by kernel_rfl
  have he : Tryz.prog.elem 38 = 3 := by kernel_rfl
  have hsz : (sizeOf 3).run Tryz.prog W = .ok 1 W := by kernel_rfl
  have e : (h : Int).toNat = h := by omega
  rw [run_sliceAt_slice _ _ _ _ _ _ hu, run_slice_h _ _ _ _ _ hu .i64 (h : Int) (by omega) (by omega), he, hsz]
  simp only [Result.andThen_ok, e, sliced, Nat.sub_zero, addr_zero]
theorem zown_empty {w : World} {base n c : Nat} {A : Option Addr} {xs : List Value} (h : w.ownsRow base 3 1 (.slice A n c) n xs) : w.ownsRow base 3 1 (.slice A 0 c) 0 [] := by
  refine ⟨rfl, ?_⟩
  rcases h.2 with ⟨h1, h0⟩ | ⟨g, cap, cur, he, h2, h3, h4, h5, h6, h7⟩
  · simp only [Value.slice.injEq] at h1
    obtain ⟨rfl, rfl, rfl⟩ := h1
    exact .inl ⟨rfl, rfl⟩
  · simp only [Value.slice.injEq] at he
    obtain ⟨rfl, -, rfl⟩ := he
    exact .inr ⟨g, c, cur, rfl, h2, h3, Nat.zero_le _, h5, h6, by simp⟩
end Go.Proofs.YtonnkibcnhjelaaGreatDoor
end
