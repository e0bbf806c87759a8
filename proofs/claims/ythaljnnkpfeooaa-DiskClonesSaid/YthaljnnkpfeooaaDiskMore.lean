/- More of the plain mathematics of a disk (layer 6): its blocks as one text. Nothing of the program. -/
import Derived.Test.YthaljnnkpfeooaaDiskPlain
import Derived.Laws.CopyOwn
set_option linter.unusedVariables false
namespace Go.Proofs.Ythaljnnkpfeooaa
namespace Dk

theorem flatten_length {l : List (List UInt8)} (h : ∀ b ∈ l, b.length = 256) : l.flatten.length = 256 * l.length := by
  induction l with
  | nil => rfl
  | cons x l ih =>
    rw [List.flatten_cons, List.length_append, ih (fun y hy => h y (List.mem_cons_of_mem _ hy)), h x (List.mem_cons_self ..), List.length_cons]
    omega
theorem flatten_set : ∀ (l : List (List UInt8)) (n : Nat) (b : List UInt8), (∀ b ∈ l, b.length = 256) → n < l.length → b.length = 256 → (l.set n b).flatten = splice l.flatten (256 * n) b
  | [], n, b, _, hn, _ => by simp at hn
  | x :: l, 0, b, h, _, hb => by
    have hx := h x (List.mem_cons_self ..)
    simp only [List.set_cons_zero, List.flatten_cons, splice, Nat.mul_zero, List.take_zero, List.nil_append, Nat.zero_add, hb]
    rw [List.drop_append, List.drop_eq_nil_of_le (by omega), List.nil_append, hx, Nat.sub_self, List.drop_zero]
  | x :: l, n + 1, b, h, hn, hb => by
    have hx := h x (List.mem_cons_self ..)
    have ih := flatten_set l n b (fun y hy => h y (List.mem_cons_of_mem _ hy)) (by simpa using hn) hb
    simp only [List.set_cons_succ, List.flatten_cons, ih, splice, hb]
    have e1 : (x ++ l.flatten).take (256 * (n + 1)) = x ++ l.flatten.take (256 * n) := by
      rw [List.take_append, List.take_of_length_le (by omega), hx, show 256 * (n + 1) - 256 = 256 * n by omega]
    have e2 : (x ++ l.flatten).drop (256 * (n + 1) + 256) = l.flatten.drop (256 * n + 256) := by
      rw [List.drop_append, List.drop_eq_nil_of_le (by omega), List.nil_append, hx, show 256 * (n + 1) + 256 - 256 = 256 * n + 256 by omega]
    rw [e1, e2, List.append_assoc]
theorem flatten_get : ∀ (l : List (List UInt8)) (n : Nat), (∀ b ∈ l, b.length = 256) → n < l.length → (l.flatten.drop (256 * n)).take 256 = l.getD n []
  | [], n, _, hn => by simp at hn
  | x :: l, 0, h, _ => by
    have hx := h x (List.mem_cons_self ..)
    rw [List.flatten_cons, Nat.mul_zero, List.drop_zero, List.take_append_of_le_length (by omega), List.take_of_length_le (by omega)]; simp
  | x :: l, n + 1, h, hn => by
    have hx := h x (List.mem_cons_self ..)
    have ih := flatten_get l n (fun y hy => h y (List.mem_cons_of_mem _ hy)) (by simpa using hn)
    rw [List.flatten_cons, List.drop_append, List.drop_eq_nil_of_le (by omega), List.nil_append, hx, show 256 * (n + 1) - 256 = 256 * n by omega, ih]; simp
/-- All blocks, as they were written last. -/
def nows (d : Dk) : List (List UInt8) := (List.range d.safe.length).map d.now
theorem image_nows (d : Dk) : d.image = d.nows.flatten := by unfold image nows; rw [List.flatMap_def]
theorem nows_length (d : Dk) : d.nows.length = d.safe.length := by unfold nows; simp
theorem nows_fit {d : Dk} (h : d.fit) : ∀ b ∈ d.nows, b.length = 256 := by
  intro b hb
  unfold nows at hb
  obtain ⟨k, hk, rfl⟩ := List.mem_map.1 hb
  exact fit_now h (List.mem_range.1 hk)
theorem nows_get (d : Dk) (n : Nat) (h : n < d.safe.length) : d.nows.getD n [] = d.now n := by
  unfold nows; simp [List.getD, h]
theorem nows_at (d : Dk) (k : Nat) (h : k < d.nows.length) : d.nows[k] = d.now k := by simp [nows]
theorem nows_calm (d : Dk) (h : d.waits = []) : d.nows = d.safe := by
  apply List.ext_getElem
  · rw [nows_length]
  · intro k h1 h2
    rw [nows_at]
    unfold now
    rw [h]
    simp [lastOf, List.getD, h2]
theorem nows_write (d : Dk) (n : Nat) (b : List UInt8) (hn : n < d.safe.length) : nows { d with waits := d.waits ++ [(n, b)] } = d.nows.set n b := by
  apply List.ext_getElem
  · rw [List.length_set, nows_length, nows_length]
  · intro k h1 h2
    rw [nows_at, List.getElem_set, nows_at]
    unfold now
    rw [lastOf_append]
    by_cases h : n = k
    · simp [h]
    · simp [h]
theorem image_length {d : Dk} (h : d.fit) : d.image.length = 256 * d.safe.length := by rw [image_nows, flatten_length (nows_fit h), nows_length]
theorem image_calm (d : Dk) (h : d.waits = []) : d.image = d.safe.flatten := by rw [image_nows, nows_calm d h]
theorem image_write {d : Dk} (hf : d.fit) (n : Nat) (b : List UInt8) (hn : n < d.safe.length) (hb : b.length = 256) : image { d with waits := d.waits ++ [(n, b)] } = splice d.image (256 * n) b := by
  rw [image_nows, nows_write d n b hn, flatten_set _ _ _ (nows_fit hf) (by rw [nows_length]; exact hn) hb, ← image_nows]
theorem image_get {d : Dk} (hf : d.fit) (n : Nat) (hn : n < d.safe.length) : (d.image.drop (256 * n)).take 256 = d.now n := by
  rw [image_nows, flatten_get _ _ (nows_fit hf) (by rw [nows_length]; exact hn), nows_get d n hn]
theorem laid_snoc (x : Nat × List UInt8) : ∀ (l : List (Nat × List UInt8)) (safe : List (List UInt8)), laid safe (l ++ [x]) = (laid safe l).set x.1 x.2
  | [], safe => rfl
  | y :: l, safe => by rw [List.cons_append, laid, laid_snoc x l, laid]
theorem laid_nows (d : Dk) : laid d.safe d.waits = d.nows := by
  apply List.ext_getElem
  · rw [laid_length, nows_length]
  · intro k h1 h2
    have hk : k < d.safe.length := by rwa [laid_length] at h1
    have h3 := laid_get k d.waits d.safe hk
    have h4 := nows_get d k hk
    rw [List.getD, List.getElem?_eq_getElem h1] at h3
    rw [List.getD, List.getElem?_eq_getElem h2] at h4
    simp only [Option.getD_some] at h3 h4
    rw [h3, h4]; rfl
/-- What one write leaves of safe blocks, with its mask, if there is one. -/
def tear (masks : List Int) (safe : List (List UInt8)) (x : Nat × List UInt8) (i : Nat) : List (List UInt8) :=
  if i < masks.length then safe.set x.1 (torn (safe.getD x.1 []) x.2 (masks.getD i 0)) else safe
theorem crashed_snoc (masks : List Int) (x : Nat × List UInt8) : ∀ (l : List (Nat × List UInt8)) (safe : List (List UInt8)) (i : Nat), crashed masks safe (l ++ [x]) i = tear masks (crashed masks safe l i) x (i + l.length)
  | [], safe, i => by
    rw [List.nil_append, crashed, crashed, crashed]
    unfold tear
    simp only [List.length_nil, Nat.add_zero, crashed]
  | y :: l, safe, i => by
    rw [List.cons_append, crashed, crashed_snoc masks x l, crashed_snoc masks x l, crashed, List.length_cons, show i + 1 + l.length = i + (l.length + 1) by omega]
    split <;> rfl
/-- The first k sectors of a block that is torn. -/
def tornK (was b : List UInt8) (m : Int) : Nat → List UInt8
  | 0 => was
  | k + 1 => if bitOf m k = true then splice (tornK was b m k) (64 * k) (sector b k) else tornK was b m k
theorem sector_length (b : List UInt8) (h : b.length = 256) (k : Nat) (hk : k < 4) : (sector b k).length = 64 := by unfold sector; simp; omega
theorem tornK_form (was b : List UInt8) (m : Int) (h1 : was.length = 256) (h2 : b.length = 256) : ∀ k, k ≤ 4 → tornK was b m k = ((List.range k).flatMap fun j => sector (if bitOf m j then b else was) j) ++ was.drop (64 * k) ∧ ((List.range k).flatMap fun j => sector (if bitOf m j then b else was) j).length = 64 * k := by
  intro k
  induction k with
  | zero => intro _; simp [tornK]
  | succ k ih =>
    intro hk
    obtain ⟨e1, e2⟩ := ih (by omega)
    have hs : (sector (if bitOf m k then b else was) k).length = 64 := sector_length _ (by split <;> assumption) k (by omega)
    rw [List.range_succ, List.flatMap_append, List.flatMap_cons, List.flatMap_nil, List.append_nil, tornK]
    refine ⟨?_, by rw [List.length_append, e2, hs]; omega⟩
    split
    · rename_i hm
      unfold splice
      rw [sector_length b h2 k (by omega), e1]
      rw [List.take_append_of_le_length (by omega), List.take_of_length_le (by omega), List.drop_append, List.drop_eq_nil_of_le (by omega), List.nil_append, e2, List.drop_drop, List.append_assoc]
      congr 3
      congr 1
      omega
    · rename_i hm
      rw [e1, List.append_assoc]
      congr 1
      have e : was.drop (64 * k) = sector was k ++ was.drop (64 * (k + 1)) := by
        unfold sector
        have := (List.take_append_drop 64 (was.drop (64 * k))).symm
        rw [List.drop_drop] at this
        rw [show 64 * (k + 1) = 64 * k + 64 by omega]
        exact this
      exact e
theorem tornK_all (was b : List UInt8) (m : Int) (h1 : was.length = 256) (h2 : b.length = 256) : tornK was b m 4 = torn was b m := by
  rw [(tornK_form was b m h1 h2 4 (by omega)).1, List.drop_eq_nil_of_le (by omega), List.append_nil]
  rfl
theorem tornK_length (was b : List UInt8) (m : Int) (h1 : was.length = 256) (h2 : b.length = 256) (k : Nat) (hk : k ≤ 4) : (tornK was b m k).length = 256 := by
  obtain ⟨e1, e2⟩ := tornK_form was b m h1 h2 k hk
  rw [e1, List.length_append, e2, List.length_drop, h1]; omega
/-- A splice in a splice. -/
theorem splice_in {L X Y : List UInt8} (n k : Nat) (hL : n + X.length ≤ L.length) (hk : k + Y.length ≤ X.length) : splice (splice L n X) (n + k) Y = splice L n (splice X k Y) := by
  have hl : (splice X k Y).length = X.length := length_splice X k Y hk
  unfold splice at hl ⊢
  rw [hl]
  have e1 : (L.take n ++ (X ++ L.drop (n + X.length))).take (n + k) = L.take n ++ X.take k := by
    rw [List.take_append, List.take_of_length_le (by rw [List.length_take]; omega), List.length_take, show n + k - min n L.length = k by omega, List.take_append_of_le_length (by omega)]
  have e2 : (L.take n ++ (X ++ L.drop (n + X.length))).drop (n + k + Y.length) = X.drop (k + Y.length) ++ L.drop (n + X.length) := by
    rw [List.drop_append, List.drop_eq_nil_of_le (by rw [List.length_take]; omega), List.nil_append, List.length_take, show n + k + Y.length - min n L.length = k + Y.length by omega, List.drop_append_of_le_length (by omega)]
  rw [e1, e2]
  simp [List.append_assoc]
theorem splice_self (L : List UInt8) (n m : Nat) (h : n + m ≤ L.length) : splice L n ((L.drop n).take m) = L := by
  have hl : ((L.drop n).take m).length = m := by simp; omega
  unfold splice
  rw [hl, ← List.drop_drop, List.take_append_drop, List.take_append_drop]
/-- A text in blocks of 256 bytes. -/
def chunks : Nat → List UInt8 → List (List UInt8)
  | 0, _ => []
  | m + 1, L => L.take 256 :: chunks m (L.drop 256)
theorem chunks_length : ∀ (m : Nat) (L : List UInt8), (chunks m L).length = m
  | 0, _ => rfl
  | m + 1, L => by rw [chunks, List.length_cons, chunks_length]
theorem chunks_fit : ∀ (m : Nat) (L : List UInt8), L.length = 256 * m → ∀ b ∈ chunks m L, b.length = 256
  | 0, L, _, b, hb => by cases hb
  | m + 1, L, h, b, hb => by
    rw [chunks] at hb
    rcases List.mem_cons.1 hb with rfl | hb
    · rw [List.length_take]; omega
    · exact chunks_fit m (L.drop 256) (by rw [List.length_drop]; omega) b hb
theorem chunks_flatten : ∀ (m : Nat) (L : List UInt8), L.length = 256 * m → (chunks m L).flatten = L
  | 0, L, h => by rw [chunks]; exact (List.eq_nil_of_length_eq_zero (by omega)).symm
  | m + 1, L, h => by rw [chunks, List.flatten_cons, chunks_flatten m _ (by rw [List.length_drop]; omega), List.take_append_drop]
theorem chunks_get : ∀ (m : Nat) (L : List UInt8) (k : Nat) (h : k < m), (chunks m L)[k]'(by rw [chunks_length]; exact h) = (L.drop (256 * k)).take 256
  | m + 1, L, 0, _ => by simp [chunks]
  | m + 1, L, k + 1, h => by
    simp only [chunks, List.getElem_cons_succ]
    rw [chunks_get m (L.drop 256) k (by omega), List.drop_drop]
    congr 2; omega
theorem chunks_zero : ∀ m : Nat, chunks m (List.replicate (256 * m) 0) = List.replicate m (List.replicate 256 0)
  | 0 => rfl
  | m + 1 => by
    rw [chunks, List.take_replicate, List.drop_replicate, List.replicate_succ, show min 256 (256 * (m + 1)) = 256 by omega, show 256 * (m + 1) - 256 = 256 * m by omega, chunks_zero m]
/-- A disk of an image. -/
def ofImage (L : List UInt8) : Dk := ⟨chunks (L.length / 256) L, [], -1, false, 0, 0, 0⟩
theorem ofImage_zero (m : Nat) : ofImage (List.replicate (256 * m) 0) = blank m := by
  unfold ofImage blank
  rw [List.length_replicate, show 256 * m / 256 = m by omega, chunks_zero]
/-- May a text be a disk's? -/
def mayL (L : List UInt8) : Prop := L.length % 256 = 0 ∧ 16 ≤ L.length / 256 ∧ L.length / 256 ≤ 1024

end Dk
end Go.Proofs.Ythaljnnkpfeooaa
