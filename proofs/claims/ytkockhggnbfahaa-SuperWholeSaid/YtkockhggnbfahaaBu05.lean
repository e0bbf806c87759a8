/- Lemmas under the proofs of this place: SupPlain, DiskMore, OpenParts. No statement is proved here. -/
import Derived.Test.YtkockhggnbfahaaBu01
import Derived.Test.YtkockhggnbfahaaBu02
import Derived.Laws.CopyOwn
import Derived.Deep.Matrix
section
set_option linter.unusedVariables false
namespace Go.Proofs.Ytkockhggnbfahaa
structure Pu where
  gen : Int
  blocks : Int
  log : Int
  first : Int
  size : Int
  owner : Int
deriving DecidableEq
def Pu.zero : Pu := ⟨0, 0, 0, 0, 0, 0⟩
def Pu.mayP (s : Pu) : Prop := 1 ≤ s.gen ∧ s.gen ≤ 2147483647 ∧ 16 ≤ s.blocks ∧ s.blocks ≤ 1024 ∧ 1 ≤ s.log ∧ s.log ≤ s.gen ∧ ((s.first = 0 ∧ s.size = 0 ∧ s.owner = 0) ∨ (2 ≤ s.first ∧ s.first < s.blocks ∧ 1 ≤ s.size ∧ s.size ≤ 262144 ∧ 1 ≤ s.owner ∧ s.owner ≤ s.gen))
instance (s : Pu) : Decidable s.mayP := by unfold Pu.mayP; exact inferInstance
def Pu.may (s : Pu) : Bool := decide s.mayP
theorem Pu.may_iff (s : Pu) : s.may = true ↔ s.mayP := decide_eq_true_iff
def Pu.data (s : Pu) : List UInt8 := fixL 4 s.log.toNat ++ (fixL 4 s.first.toNat ++ (fixL 4 s.size.toNat ++ fixL 4 s.owner.toNat))
def Pu.sec (s : Pu) : Sd := ⟨1, s.gen, s.blocks, 0, s.data⟩
def Pu.bytes (s : Pu) : List UInt8 := s.sec.bytes
theorem Pu.data_length (s : Pu) : s.data.length = 16 := by unfold Pu.data; simp [fixL_length]
theorem Pu.sec_may {s : Pu} (h : s.may = true) : s.sec.may = true := by
  obtain ⟨h1, h2, h3, h4, h5, h6, h7⟩ := s.may_iff.1 h
  refine (Sd.may_iff _).2 ⟨?_, ?_, ?_, ?_, ?_, ?_, ?_, ?_, ?_⟩
  · show (1 : Int) ≤ 1; omega
  · show (1 : Int) ≤ 255; omega
  · show 0 ≤ s.gen; omega
  · show s.gen ≤ 2147483647; omega
  · show 0 ≤ s.blocks; omega
  · show s.blocks ≤ 2147483647; omega
  · show (0 : Int) ≤ 0; omega
  · show (0 : Int) ≤ 65535; omega
  · show s.data.length ≤ 48; rw [s.data_length]; omega
theorem Pu.bytes_length (s : Pu) : s.bytes.length = 64 := Sd.bytes_length _ (by show s.data.length ≤ 48; rw [s.data_length]; omega)
def supOf (x : Sd) : Pu := ⟨x.epoch, x.number, (unfixL (x.data.take 4) : Int), (unfixL ((x.data.drop 4).take 4) : Int), (unfixL ((x.data.drop 8).take 4) : Int), (unfixL ((x.data.drop 12).take 4) : Int)⟩
theorem sec_supOf (x : Sd) (h16 : x.data.length = 16) : (supOf x).sec = x ↔ x.kind = 1 ∧ x.left = 0 := by
  obtain ⟨k, e, n, l, D⟩ := x
  simp only at h16
  match D, h16 with
  | [a0, a1, a2, a3, b0, b1, b2, b3, c0, c1, c2, c3, d0, d1, d2, d3], _ =>
    have fa := fix_unfix6 [a0, a1, a2, a3]
    have fb := fix_unfix6 [b0, b1, b2, b3]
    have fc := fix_unfix6 [c0, c1, c2, c3]
    have fd := fix_unfix6 [d0, d1, d2, d3]
    have e0 : (supOf ⟨k, e, n, l, [a0, a1, a2, a3, b0, b1, b2, b3, c0, c1, c2, c3, d0, d1, d2, d3]⟩).sec = ⟨1, e, n, 0, [a0, a1, a2, a3, b0, b1, b2, b3, c0, c1, c2, c3, d0, d1, d2, d3]⟩ := by
      unfold supOf Pu.sec Pu.data
      simp only [List.take_succ_cons, List.take_zero, List.drop_succ_cons, List.drop_zero, Int.toNat_natCast]
      simp only [List.length_cons, List.length_nil, Nat.zero_add, Nat.reduceAdd] at fa fb fc fd
      rw [fa, fb, fc, fd]
      rfl
    rw [e0]
    simp only [Sd.mk.injEq, true_and, and_true]
    exact ⟨fun h => ⟨h.1.symm, h.2.symm⟩, fun h => ⟨h.1.symm, h.2.symm⟩⟩
theorem supOf_sec (s : Pu) (h : s.may = true) : supOf s.sec = s := by
  obtain ⟨h1, h2, h3, h4, h5, h6, h7⟩ := s.may_iff.1 h
  obtain ⟨g, b, l, f, z, o⟩ := s
  simp only at h1 h2 h3 h4 h5 h6 h7
  obtain ⟨x0, x1, x2, x3, hx⟩ := fixL_four l.toNat
  obtain ⟨y0, y1, y2, y3, hy⟩ := fixL_four f.toNat
  obtain ⟨z0, z1, z2, z3, hz⟩ := fixL_four z.toNat
  obtain ⟨w0, w1, w2, w3, hw⟩ := fixL_four o.toNat
  have ux := unfix_fix 4 l.toNat (by omega)
  have uy := unfix_fix 4 f.toNat (by omega)
  have uz := unfix_fix 4 z.toNat (by omega)
  have uw := unfix_fix 4 o.toNat (by omega)
  rw [hx] at ux
  rw [hy] at uy
  rw [hz] at uz
  rw [hw] at uw
  unfold supOf Pu.sec Pu.data
  simp only [hx, hy, hz, hw, List.cons_append, List.nil_append, List.take_succ_cons, List.take_zero, List.drop_succ_cons, List.drop_zero, ux, uy, uz, uw]
  congr 1 <;> omega
def getU (b : List UInt8) : Pu × Int :=
  if (getS b).2 ≠ 0 then (.zero, (getS b).2) else
  if (getS b).1.data.length = 16 ∧ (supOf (getS b).1).may = true ∧ (supOf (getS b).1).sec = (getS b).1 then (supOf (getS b).1, 0) else (.zero, 5)
theorem getU_put (s : Pu) (h : s.may = true) : getU s.bytes = (s, 0) := by
  have h1 : getS s.bytes = (s.sec, 0) := getS_put s.sec (Pu.sec_may h)
  unfold getU
  rw [h1]
  simp only [ne_eq, not_true, if_false]
  rw [supOf_sec s h, if_pos ⟨s.data_length, h, rfl⟩]
theorem getU_bytes {b : List UInt8} (h : (getU b).2 = 0) : (getU b).1.may = true ∧ (getU b).1.bytes = b := by
  unfold getU at h ⊢
  by_cases h0 : (getS b).2 = 0
  · rw [if_neg (by simpa using h0)] at h ⊢
    split at h
    · rename_i h1
      rw [if_pos h1]
      refine ⟨h1.2.1, ?_⟩
      show (supOf (getS b).1).sec.bytes = b
      rw [h1.2.2]
      exact (getS_bytes h0).2
    · simp at h
  · rw [if_pos h0] at h; exact absurd h h0
theorem getU_cases (b : List UInt8) : (getU b).2 = 0 ∨ ((getU b).1 = .zero ∧ (getU b).2 ≠ 0) := by
  unfold getU
  by_cases h0 : (getS b).2 = 0
  · rw [if_neg (by simpa using h0)]
    split
    · exact .inl rfl
    · exact .inr ⟨rfl, by decide⟩
  · rw [if_pos h0]; exact .inr ⟨rfl, h0⟩
theorem zero_may : Pu.zero.may = false := by decide
def slotU (n k : Int) (b : List UInt8) : Option Pu := if (getU (b.take 64)).2 = 0 ∧ (getU (b.take 64)).1.blocks = n ∧ (getU (b.take 64)).1.gen % 2 = k then some (getU (b.take 64)).1 else none
def bestU (n : Int) (b0 b1 : List UInt8) : Pu × Int :=
  match slotU n 0 b0, slotU n 1 b1 with
  | some s, some t => if t.gen > s.gen then (t, 0) else (s, 0)
  | some s, none => (s, 0)
  | none, some t => (t, 0)
  | none, none => if b0.all (· == 0) && b1.all (· == 0) then (.zero, 6) else (.zero, 13)
def readU (d : Dk) : Dk × Pu × Int :=
  if (d.read 0).2.2 ≠ 0 then ((d.read 0).1, .zero, (d.read 0).2.2) else
  if ((d.read 0).1.read 1).2.2 ≠ 0 then (((d.read 0).1.read 1).1, .zero, ((d.read 0).1.read 1).2.2) else
  (((d.read 0).1.read 1).1, bestU d.safe.length (d.read 0).2.1 ((d.read 0).1.read 1).2.1)
def writeU (d : Dk) (s : Pu) : Dk × Int :=
  if s.may = false then (d, 1) else if s.blocks ≠ d.safe.length then (d, 1) else
  if (d.write (s.gen % 2) (s.bytes ++ List.replicate 192 0)).2 ≠ 0 then d.write (s.gen % 2) (s.bytes ++ List.replicate 192 0) else
  (d.write (s.gen % 2) (s.bytes ++ List.replicate 192 0)).1.flush
end Go.Proofs.Ytkockhggnbfahaa
end
section
set_option linter.unusedVariables false
namespace Go.Proofs.Ytkockhggnbfahaa
namespace Dk
theorem flatten_length {l : List (List UInt8)} (h : ∀ b ∈ l, b.length = 256) : l.flatten.length = 256 * l.length := by
  induction l with
  | nil => rfl
  | cons x l ih =>
    rw [List.flatten_cons, List.length_append, ih (fun y hy => h y (List.mem_cons_of_mem _ hy)), h x (List.mem_cons_self ..), List.length_cons]
    omega
theorem flatten_set : ∀ (l : List (List UInt8)) (n : Nat) (b : List UInt8), (∀ b ∈ l, b.length = 256) → n < l.length → b.length = 256 → (l.set n b).flatten = splice l.flatten (256 * n) b
  | [], n, b, _, hn, _ => by simp at hn
  | x :: l, 0, b, h, _, hb => by
    have hx := h x (List.mem_cons_self ..)
    simp only [List.set_cons_zero, List.flatten_cons, splice, Nat.mul_zero, List.take_zero, List.nil_append, Nat.zero_add, hb]
    rw [List.drop_append, List.drop_eq_nil_of_le (by omega), List.nil_append, hx, Nat.sub_self, List.drop_zero]
  | x :: l, n + 1, b, h, hn, hb => by
    have hx := h x (List.mem_cons_self ..)
    have ih := flatten_set l n b (fun y hy => h y (List.mem_cons_of_mem _ hy)) (by simpa using hn) hb
    simp only [List.set_cons_succ, List.flatten_cons, ih, splice, hb]
    have e1 : (x ++ l.flatten).take (256 * (n + 1)) = x ++ l.flatten.take (256 * n) := by
      rw [List.take_append, List.take_of_length_le (by omega), hx, show 256 * (n + 1) - 256 = 256 * n by omega]
    have e2 : (x ++ l.flatten).drop (256 * (n + 1) + 256) = l.flatten.drop (256 * n + 256) := by
      rw [List.drop_append, List.drop_eq_nil_of_le (by omega), List.nil_append, hx, show 256 * (n + 1) + 256 - 256 = 256 * n + 256 by omega]
    rw [e1, e2, List.append_assoc]
theorem flatten_get : ∀ (l : List (List UInt8)) (n : Nat), (∀ b ∈ l, b.length = 256) → n < l.length → (l.flatten.drop (256 * n)).take 256 = l.getD n []
  | [], n, _, hn => by simp at hn
  | x :: l, 0, h, _ => by
    have hx := h x (List.mem_cons_self ..)
    rw [List.flatten_cons, Nat.mul_zero, List.drop_zero, List.take_append_of_le_length (by omega), List.take_of_length_le (by omega)]; simp
  | x :: l, n + 1, h, hn => by
    have hx := h x (List.mem_cons_self ..)
    have ih := flatten_get l n (fun y hy => h y (List.mem_cons_of_mem _ hy)) (by simpa using hn)
    rw [List.flatten_cons, List.drop_append, List.drop_eq_nil_of_le (by omega), List.nil_append, hx, show 256 * (n + 1) - 256 = 256 * n by omega, ih]; simp
def nows (d : Dk) : List (List UInt8) := (List.range d.safe.length).map d.now
theorem image_nows (d : Dk) : d.image = d.nows.flatten := by unfold image nows; rw [List.flatMap_def]
theorem nows_length (d : Dk) : d.nows.length = d.safe.length := by unfold nows; simp
theorem nows_fit {d : Dk} (h : d.fit) : ∀ b ∈ d.nows, b.length = 256 := by
  intro b hb
  unfold nows at hb
  obtain ⟨k, hk, rfl⟩ := List.mem_map.1 hb
  exact fit_now h (List.mem_range.1 hk)
theorem nows_get (d : Dk) (n : Nat) (h : n < d.safe.length) : d.nows.getD n [] = d.now n := by
  unfold nows; simp [List.getD, h]
theorem nows_at (d : Dk) (k : Nat) (h : k < d.nows.length) : d.nows[k] = d.now k := by simp [nows]
theorem nows_calm (d : Dk) (h : d.waits = []) : d.nows = d.safe := by
  apply List.ext_getElem
  · rw [nows_length]
  · intro k h1 h2
    rw [nows_at]
    unfold now
    rw [h]
    simp [lastOf, List.getD, h2]
theorem nows_write (d : Dk) (n : Nat) (b : List UInt8) (hn : n < d.safe.length) : nows { d with waits := d.waits ++ [(n, b)] } = d.nows.set n b := by
  apply List.ext_getElem
  · rw [List.length_set, nows_length, nows_length]
  · intro k h1 h2
    rw [nows_at, List.getElem_set, nows_at]
    unfold now
    rw [lastOf_append]
    by_cases h : n = k
    · simp [h]
    · simp [h]
theorem image_length {d : Dk} (h : d.fit) : d.image.length = 256 * d.safe.length := by rw [image_nows, flatten_length (nows_fit h), nows_length]
theorem image_calm (d : Dk) (h : d.waits = []) : d.image = d.safe.flatten := by rw [image_nows, nows_calm d h]
theorem image_write {d : Dk} (hf : d.fit) (n : Nat) (b : List UInt8) (hn : n < d.safe.length) (hb : b.length = 256) : image { d with waits := d.waits ++ [(n, b)] } = splice d.image (256 * n) b := by
  rw [image_nows, nows_write d n b hn, flatten_set _ _ _ (nows_fit hf) (by rw [nows_length]; exact hn) hb, ← image_nows]
theorem image_get {d : Dk} (hf : d.fit) (n : Nat) (hn : n < d.safe.length) : (d.image.drop (256 * n)).take 256 = d.now n := by
  rw [image_nows, flatten_get _ _ (nows_fit hf) (by rw [nows_length]; exact hn), nows_get d n hn]
theorem laid_snoc (x : Nat × List UInt8) : ∀ (l : List (Nat × List UInt8)) (safe : List (List UInt8)), laid safe (l ++ [x]) = (laid safe l).set x.1 x.2
  | [], safe => rfl
  | y :: l, safe => by rw [List.cons_append, laid, laid_snoc x l, laid]
theorem laid_nows (d : Dk) : laid d.safe d.waits = d.nows := by
  apply List.ext_getElem
  · rw [laid_length, nows_length]
  · intro k h1 h2
    have hk : k < d.safe.length := by rwa [laid_length] at h1
    have h3 := laid_get k d.waits d.safe hk
    have h4 := nows_get d k hk
    rw [List.getD, List.getElem?_eq_getElem h1] at h3
    rw [List.getD, List.getElem?_eq_getElem h2] at h4
    simp only [Option.getD_some] at h3 h4
    rw [h3, h4]; rfl
def tear (masks : List Int) (safe : List (List UInt8)) (x : Nat × List UInt8) (i : Nat) : List (List UInt8) :=
  if i < masks.length then safe.set x.1 (torn (safe.getD x.1 []) x.2 (masks.getD i 0)) else safe
theorem crashed_snoc (masks : List Int) (x : Nat × List UInt8) : ∀ (l : List (Nat × List UInt8)) (safe : List (List UInt8)) (i : Nat), crashed masks safe (l ++ [x]) i = tear masks (crashed masks safe l i) x (i + l.length)
  | [], safe, i => by
    rw [List.nil_append, crashed, crashed, crashed]
    unfold tear
    simp only [List.length_nil, Nat.add_zero, crashed]
  | y :: l, safe, i => by
    rw [List.cons_append, crashed, crashed_snoc masks x l, crashed_snoc masks x l, crashed, List.length_cons, show i + 1 + l.length = i + (l.length + 1) by omega]
    split <;> rfl
def tornK (was b : List UInt8) (m : Int) : Nat → List UInt8
  | 0 => was
  | k + 1 => if bitOf m k = true then splice (tornK was b m k) (64 * k) (sector b k) else tornK was b m k
theorem sector_length (b : List UInt8) (h : b.length = 256) (k : Nat) (hk : k < 4) : (sector b k).length = 64 := by unfold sector; simp; omega
theorem tornK_form (was b : List UInt8) (m : Int) (h1 : was.length = 256) (h2 : b.length = 256) : ∀ k, k ≤ 4 → tornK was b m k = ((List.range k).flatMap fun j => sector (if bitOf m j then b else was) j) ++ was.drop (64 * k) ∧ ((List.range k).flatMap fun j => sector (if bitOf m j then b else was) j).length = 64 * k := by
  intro k
  induction k with
  | zero => intro _; simp [tornK]
  | succ k ih =>
    intro hk
    obtain ⟨e1, e2⟩ := ih (by omega)
    have hs : (sector (if bitOf m k then b else was) k).length = 64 := sector_length _ (by split <;> assumption) k (by omega)
    rw [List.range_succ, List.flatMap_append, List.flatMap_cons, List.flatMap_nil, List.append_nil, tornK]
    refine ⟨?_, by rw [List.length_append, e2, hs]; omega⟩
    split
    · rename_i hm
      unfold splice
      rw [sector_length b h2 k (by omega), e1]
      rw [List.take_append_of_le_length (by omega), List.take_of_length_le (by omega), List.drop_append, List.drop_eq_nil_of_le (by omega), List.nil_append, e2, List.drop_drop, List.append_assoc]
      congr 3
      congr 1
      omega
    · rename_i hm
      rw [e1, List.append_assoc]
      congr 1
      have e : was.drop (64 * k) = sector was k ++ was.drop (64 * (k + 1)) := by
        unfold sector
        have := (List.take_append_drop 64 (was.drop (64 * k))).symm
        rw [List.drop_drop] at this
        rw [show 64 * (k + 1) = 64 * k + 64 by omega]
        exact this
      exact e
theorem tornK_all (was b : List UInt8) (m : Int) (h1 : was.length = 256) (h2 : b.length = 256) : tornK was b m 4 = torn was b m := by
  rw [(tornK_form was b m h1 h2 4 (by omega)).1, List.drop_eq_nil_of_le (by omega), List.append_nil]
  rfl
theorem tornK_length (was b : List UInt8) (m : Int) (h1 : was.length = 256) (h2 : b.length = 256) (k : Nat) (hk : k ≤ 4) : (tornK was b m k).length = 256 := by
  obtain ⟨e1, e2⟩ := tornK_form was b m h1 h2 k hk
  rw [e1, List.length_append, e2, List.length_drop, h1]; omega
theorem splice_in {L X Y : List UInt8} (n k : Nat) (hL : n + X.length ≤ L.length) (hk : k + Y.length ≤ X.length) : splice (splice L n X) (n + k) Y = splice L n (splice X k Y) := by
  have hl : (splice X k Y).length = X.length := length_splice X k Y hk
  unfold splice at hl ⊢
  rw [hl]
  have e1 : (L.take n ++ (X ++ L.drop (n + X.length))).take (n + k) = L.take n ++ X.take k := by
    rw [List.take_append, List.take_of_length_le (by rw [List.length_take]; omega), List.length_take, show n + k - min n L.length = k by omega, List.take_append_of_le_length (by omega)]
  have e2 : (L.take n ++ (X ++ L.drop (n + X.length))).drop (n + k + Y.length) = X.drop (k + Y.length) ++ L.drop (n + X.length) := by
    rw [List.drop_append, List.drop_eq_nil_of_le (by rw [List.length_take]; omega), List.nil_append, List.length_take, show n + k + Y.length - min n L.length = k + Y.length by omega, List.drop_append_of_le_length (by omega)]
  rw [e1, e2]
  simp [List.append_assoc]
theorem splice_self (L : List UInt8) (n m : Nat) (h : n + m ≤ L.length) : splice L n ((L.drop n).take m) = L := by
  have hl : ((L.drop n).take m).length = m := by simp; omega
  unfold splice
  rw [hl, ← List.drop_drop, List.take_append_drop, List.take_append_drop]
def chunks : Nat → List UInt8 → List (List UInt8)
  | 0, _ => []
  | m + 1, L => L.take 256 :: chunks m (L.drop 256)
theorem chunks_length : ∀ (m : Nat) (L : List UInt8), (chunks m L).length = m
  | 0, _ => rfl
  | m + 1, L => by rw [chunks, List.length_cons, chunks_length]
theorem chunks_fit : ∀ (m : Nat) (L : List UInt8), L.length = 256 * m → ∀ b ∈ chunks m L, b.length = 256
  | 0, L, _, b, hb => by cases hb
  | m + 1, L, h, b, hb => by
    rw [chunks] at hb
    rcases List.mem_cons.1 hb with rfl | hb
    · rw [List.length_take]; omega
    · exact chunks_fit m (L.drop 256) (by rw [List.length_drop]; omega) b hb
theorem chunks_flatten : ∀ (m : Nat) (L : List UInt8), L.length = 256 * m → (chunks m L).flatten = L
  | 0, L, h => by rw [chunks]; exact (List.eq_nil_of_length_eq_zero (by omega)).symm
  | m + 1, L, h => by rw [chunks, List.flatten_cons, chunks_flatten m _ (by rw [List.length_drop]; omega), List.take_append_drop]
theorem chunks_get : ∀ (m : Nat) (L : List UInt8) (k : Nat) (h : k < m), (chunks m L)[k]'(by rw [chunks_length]; exact h) = (L.drop (256 * k)).take 256
  | m + 1, L, 0, _ => by simp [chunks]
  | m + 1, L, k + 1, h => by
    simp only [chunks, List.getElem_cons_succ]
    rw [chunks_get m (L.drop 256) k (by omega), List.drop_drop]
    congr 2; omega
theorem chunks_zero : ∀ m : Nat, chunks m (List.replicate (256 * m) 0) = List.replicate m (List.replicate 256 0)
  | 0 => rfl
  | m + 1 => by
    rw [chunks, List.take_replicate, List.drop_replicate, List.replicate_succ, show min 256 (256 * (m + 1)) = 256 by omega, show 256 * (m + 1) - 256 = 256 * m by omega, chunks_zero m]
def ofImage (L : List UInt8) : Dk := ⟨chunks (L.length / 256) L, [], -1, false, 0, 0, 0⟩
theorem ofImage_zero (m : Nat) : ofImage (List.replicate (256 * m) 0) = blank m := by
  unfold ofImage blank
  rw [List.length_replicate, show 256 * m / 256 = m by omega, chunks_zero]
def mayL (L : List UInt8) : Prop := L.length % 256 = 0 ∧ 16 ≤ L.length / 256 ∧ L.length / 256 ≤ 1024
end Dk
end Go.Proofs.Ytkockhggnbfahaa
end
section
set_option linter.unusedVariables false
namespace Go.Proofs.Ytkockhggnbfahaa
open Go.ChangeShapes Go.WideShapes Go.ChangeAt Go.RowKit
def bytesOfInts (zs : List Int) : List UInt8 := zs.map fun z => UInt8.ofNat z.toNat
theorem cells_of_ints (zs : List Int) (h : ∀ n ∈ zs, (Lit.int .u8 n).wf = true) : cells (bytesOfInts zs) = zs.map (Value.int .u8) := by
  unfold cells bytesOfInts
  rw [List.map_map]
  apply List.map_congr_left
  intro z hz'
  have hw := h z hz'
  have hb : 0 ≤ z ∧ z ≤ 255 := by simpa [Lit.wf, IntKind.min, IntKind.max, IntKind.signed, IntKind.bits] using hw
  show Value.int .u8 _ = Value.int .u8 z
  rw [ofNat_toNat _ (by omega)]
  congr 1
  omega
theorem rb_of_ints {W : World} {A : Option Addr} {zs : List Int} (len : Nat) (hl : len ≤ zs.length) (hw : ∀ n ∈ zs, (Lit.int .u8 n).wf = true)
    (hA : A = none → zs.length = 0) (hc : ∀ a, A = some a → ∀ c, c < zs.length → W.cell? (a.add c) = some (.int .u8 (zs.getD c 0))) : RB W W.heap.size A (bytesOfInts (zs.take len)) := by
  have hlen : (zs.take len).length = len := by rw [List.length_take]; omega
  unfold RB
  rw [cells_of_ints _ (fun n hn => hw n (List.mem_of_mem_take hn))]
  refine ⟨by simp [bytesOfInts], fun hn => ?_⟩
  have hn' : 0 < len := by simp [bytesOfInts] at hn; omega
  rcases A with _ | a
  · have := hA rfl; omega
  · have h0 := hc a rfl 0 (by omega)
    have hblk := World.block_lt_of_cell? W _ h0
    refine ⟨a, rfl, by rw [block_of_add] at hblk; exact hblk, fun j u hu => ?_⟩
    rw [List.getElem?_map, List.getElem?_take] at hu
    split at hu
    · rename_i hj
      rw [hc a rfl j (by omega)]
      rw [List.getElem?_eq_getElem (by omega)] at hu
      simp only [Option.map_some, Option.some.injEq] at hu
      rw [← hu]
      simp [List.getD, List.getElem?_eq_getElem (show j < zs.length by omega)]
    · cases hu
def Parts (w : World) (B : Nat) (A : Option Addr) (Ls : List (List UInt8)) : Prop :=
  0 < Ls.length → ∃ b off, A = some ⟨b, off, none⟩ ∧ b < B ∧ ∀ i (hi : i < Ls.length), ∃ (Ai : Option Addr) (ci : Nat), w.cell? ⟨b, off + i, none⟩ = some (.slice Ai Ls[i].length ci) ∧ RB w B Ai Ls[i] ∧ Ls[i].length ≤ ci ∧ ci ≤ maxLen
theorem Parts.below {w w' : World} {B : Nat} {A : Option Addr} {Ls : List (List UInt8)} (h : Parts w B A Ls) (hb : Below B w w') : Parts w' B A Ls := fun hn => by
  obtain ⟨b, off, e, hlt, hc⟩ := h hn
  refine ⟨b, off, e, hlt, fun i hi => ?_⟩
  obtain ⟨Ai, ci, h1, h2, h3, h4⟩ := hc i hi
  exact ⟨Ai, ci, (hb.cell (p := ⟨b, off + i, none⟩) hlt).trans h1, h2.below hb, h3, h4⟩
end Go.Proofs.Ytkockhggnbfahaa
end
