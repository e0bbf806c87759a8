/- Lemmas under the proofs of this place: Foot, JoinM, DiskMore. No statement is proved here. -/
import Derived.Test.YtghenhacndaelaaBu01
import Derived.Test.YtghenhacndaelaaBu02
import Derived.Laws.CopyOwn
set_option linter.unusedVariables false
namespace Go.Proofs.Ytghenhacndaelaa
section
open Go.RowKit
structure Turns (w w' : World) (F F' : Nat → Prop) : Prop where
  os : w'.os = w.os
  tape : w'.tape = w.tape
  output : w'.output = w.output
  size : w.heap.size ≤ w'.heap.size
  block : ∀ k, k < w.heap.size → ¬ F k → w'.heap[k]? = w.heap[k]?
  foot : ∀ k, F' k → F k ∨ w.heap.size ≤ k
section
variable {a b w w' : World} {F F' F'' : Nat → Prop}
theorem Turns.refl (w : World) (F : Nat → Prop) : Turns w w F F := ⟨rfl, rfl, rfl, Nat.le_refl _, fun _ _ _ => rfl, fun _ h => .inl h⟩
theorem Turns.trans {c : World} (h : Turns a b F F') (k : Turns b c F' F'') : Turns a c F F'' :=
  ⟨k.os.trans h.os, k.tape.trans h.tape, k.output.trans h.output, Nat.le_trans h.size k.size,
   fun i hi hn => (k.block i (Nat.lt_of_lt_of_le hi h.size) (fun hf => by rcases h.foot i hf with h1 | h1; exact hn h1; omega)).trans (h.block i hi hn),
   fun i hi => by
    rcases k.foot i hi with h1 | h1
    · exact h.foot i h1
    · exact .inr (Nat.le_trans h.size h1)⟩
theorem Turns.of_below (h : Below w.heap.size w w') (F : Nat → Prop) : Turns w w' F F := ⟨h.os, h.tape, h.output, h.size, fun k hk _ => h.block k hk, fun _ h => .inl h⟩
theorem Turns.below {B : Nat} (h : Turns w w' F F') (hF : ∀ k, F k → B ≤ k) (hB : B ≤ w.heap.size) : Below B w w' :=
  ⟨h.os, h.tape, h.output, h.size, fun k hk => h.block k (Nat.lt_of_lt_of_le hk hB) (fun hf => by have := hF k hf; omega)⟩
theorem Turns.set_ {g : Nat} (hg : F g) (i : Nat) (u : Value) : Turns w (w.setCell ⟨g, i, none⟩ u) F F :=
  ⟨rfl, rfl, rfl, by simp [World.setCell], fun k _ hk => heap_setCell_other w ⟨g, i, none⟩ k u (fun e => hk (by subst e; exact hg)), fun _ h => .inl h⟩
theorem Turns.row {g : Nat} (hg : F g) (cs : Array Value) : Turns w (w.setRow g cs) F F :=
  ⟨rfl, rfl, rfl, by simp [World.setRow], fun k _ hk => setRow_other w g k cs (fun e => hk (by subst e; exact hg)), fun _ h => .inl h⟩
theorem Turns.grown {row : Option Nat} (h : w.grownBy w' row) (hr : ∀ k, row = some k → F k) : Turns w w' F F :=
  ⟨h.os, h.tape, h.output, h.size, fun k hk hn => h.block k hk (fun e => hn (hr k e.symm)), fun _ h => .inl h⟩
theorem Turns.alloc (o : Obj) (F : Nat → Prop) : Turns w (w.alloc o) F F := Turns.of_below ((Below.refl _ _).alloc (Nat.le_refl _) o) F
theorem Turns.drew (F : Nat → Prop) : Turns w w.drew F F := Turns.of_below ((Below.refl _ _).drew) F
theorem Turns.of_drew (h : Turns w.drew w' F F') : Turns w w' F F' := ⟨h.os, h.tape, h.output, h.size, h.block, h.foot⟩
theorem Turns.foot_ (h : Turns w w' F F') (hf : ∀ k, F'' k → F' k ∨ w.heap.size ≤ k) : Turns w w' F F'' :=
  ⟨h.os, h.tape, h.output, h.size, h.block, fun k hk => by
    rcases hf k hk with h1 | h1
    · exact h.foot k h1
    · exact .inr h1⟩
theorem Turns.wide {E E' : Nat → Prop} (h : Turns w w' F F') (h1 : ∀ k, F k → E k) (h2 : ∀ k, E' k → E k ∨ F' k ∨ w.heap.size ≤ k) : Turns w w' E E' :=
  ⟨h.os, h.tape, h.output, h.size, fun k hk hn => h.block k hk (fun hf => hn (h1 k hf)), fun k hk => by
    rcases h2 k hk with h3 | h3 | h3
    · exact .inl h3
    · rcases h.foot k h3 with h4 | h4
      · exact .inl (h1 k h4)
      · exact .inr h4
    · exact .inr h3⟩
theorem Turns.cell {p : Addr} (h : Turns w w' F F') (hp : p.block < w.heap.size) (hn : ¬ F p.block) : w'.cell? p = w.cell? p := World.cell?_of_block (h.block _ hp hn)
theorem Turns.frozen {p : Addr} (h : Turns w w' F F') (hp : p.block < w.heap.size) (hn : ¬ F p.block) : w'.frozen? p = w.frozen? p := World.frozen?_of_block (h.block _ hp hn)
theorem Blk.turns {g : Nat} {t : TypeId} {cs : Array Value} (h : Blk w g t cs) (ht : Turns w w' F F') (hn : ¬ F g) : Blk w' g t cs := (ht.block g h.lt hn).trans h
theorem Reads.turns {B size n : Nat} {A : Option Addr} {xs : List Value} (h : Reads w B size A n xs) (hB : B ≤ w.heap.size) (ht : Turns w w' F F') (hn : ∀ ad, A = some ad → ¬ F ad.block) : Reads w' B size A n xs :=
  ⟨h.1, fun h0 => by
    obtain ⟨ad, e, hb, hc⟩ := h.2 h0
    refine ⟨ad, e, hb, fun j u hu => ?_⟩
    rw [ht.cell (p := ad.add j) (by rw [block_of_add]; omega) (by rw [block_of_add]; exact hn ad e)]
    exact hc j u hu⟩
theorem own_turns {base : Nat} {e : TypeId} {size n : Nat} {v : Value} {xs : List Value} (h : w.ownsRow base e size v n xs) (ht : Turns w w' F F') (hn : ∀ k, v.ownBlock = some k → ¬ F k) : w'.ownsRow base e size v n xs := by
  refine ⟨h.1, ?_⟩
  rcases h.2 with h1 | ⟨g, cap, cur, rfl, h2, h3, h4⟩
  · exact .inl h1
  · exact .inr ⟨g, cap, cur, rfl, h2, (ht.block g (Blk.lt (t := e) h3) (hn g rfl)).trans h3, h4⟩
theorem own_lt {base : Nat} {e : TypeId} {size n : Nat} {v : Value} {xs : List Value} (h : w.ownsRow base e size v n xs) {k : Nat} (hk : v.ownBlock = some k) : k < w.heap.size ∧ ∃ cs, Blk w k e cs := by
  rcases h.2 with ⟨rfl, _⟩ | ⟨g, cap, cur, rfl, h2, h3, h4⟩
  · cases hk
  · have : g = k := by simpa [Value.ownBlock] using hk
    subst this
    exact ⟨Blk.lt (t := e) h3, cur, h3⟩
end
end
section
def joinS (l : List Sd) : List UInt8 × Bool :=
  match l with
  | [] => ([], false)
  | x :: r => if splitS x ((x :: r).flatMap (·.data)) = (x :: r, 0) then ((x :: r).flatMap (·.data), true) else ([], false)
theorem split_cases (s : Sd) (t : List UInt8) : (splitS s t = ((List.range (needN t.length)).map (s.part t (needN t.length)), 0) ∧ needN t.length ≠ 0) ∨ ((splitS s t).1 = [] ∧ (splitS s t).2 ≠ 0) := by
  unfold splitS
  by_cases h0 : needN t.length = 0
  · rw [if_pos h0]; exact .inr ⟨rfl, by decide⟩
  · rw [if_neg h0]
    by_cases h1 : 65536 < needN t.length
    · rw [if_pos h1]; exact .inr ⟨rfl, by decide⟩
    · rw [if_neg h1]
      by_cases h2 : (List.range (needN t.length)).all (fun i => (s.part t (needN t.length) i).may) = true
      · rw [if_pos h2]; exact .inl ⟨rfl, h0⟩
      · rw [if_neg h2]; exact .inr ⟨rfl, by decide⟩
theorem part_part (s : Sd) (t : List UInt8) (n i : Nat) : (s.part t n 0).part t n i = s.part t n i := by
  unfold Sd.part
  simp
theorem split_part (s : Sd) (t : List UInt8) : splitS (s.part t (needN t.length) 0) t = splitS s t := by
  unfold splitS
  have e : (s.part t (needN t.length) 0).part t (needN t.length) = s.part t (needN t.length) := funext fun i => part_part s t _ i
  rw [e]
theorem join_split (s : Sd) (t : List UInt8) (h : (splitS s t).2 = 0) : joinS (splitS s t).1 = (t, true) := by
  rcases split_cases s t with ⟨h1, h0⟩ | ⟨_, h2⟩
  · rw [h1]
    have ht : ((List.range (needN t.length)).map (s.part t (needN t.length))).flatMap (·.data) = t := split_text s t _ _ rfl
    obtain ⟨n, hn⟩ : ∃ n, needN t.length = n + 1 := ⟨needN t.length - 1, by omega⟩
    have hc : (List.range (needN t.length)).map (s.part t (needN t.length)) = s.part t (needN t.length) 0 :: (List.range n).map (fun i => s.part t (needN t.length) (i + 1)) := by
      rw [hn, List.range_succ_eq_map]
      simp [Function.comp_def]
    rw [hc] at ht h1 ⊢
    unfold joinS
    simp only
    rw [ht, if_pos]
    rw [split_part, h1]
  · exact absurd h h2
end
section
namespace Dk
theorem flatten_length {l : List (List UInt8)} (h : ∀ b ∈ l, b.length = 256) : l.flatten.length = 256 * l.length := by
  induction l with
  | nil => rfl
  | cons x l ih =>
    rw [List.flatten_cons, List.length_append, ih (fun y hy => h y (List.mem_cons_of_mem _ hy)), h x (List.mem_cons_self ..), List.length_cons]
    omega
theorem flatten_set : ∀ (l : List (List UInt8)) (n : Nat) (b : List UInt8), (∀ b ∈ l, b.length = 256) → n < l.length → b.length = 256 → (l.set n b).flatten = splice l.flatten (256 * n) b
  | [], n, b, _, hn, _ => by simp at hn
  | x :: l, 0, b, h, _, hb => by
    have hx := h x (List.mem_cons_self ..)
    simp only [List.set_cons_zero, List.flatten_cons, splice, Nat.mul_zero, List.take_zero, List.nil_append, Nat.zero_add, hb]
    rw [List.drop_append, List.drop_eq_nil_of_le (by omega), List.nil_append, hx, Nat.sub_self, List.drop_zero]
  | x :: l, n + 1, b, h, hn, hb => by
    have hx := h x (List.mem_cons_self ..)
    have ih := flatten_set l n b (fun y hy => h y (List.mem_cons_of_mem _ hy)) (by simpa using hn) hb
    simp only [List.set_cons_succ, List.flatten_cons, ih, splice, hb]
    have e1 : (x ++ l.flatten).take (256 * (n + 1)) = x ++ l.flatten.take (256 * n) := by
      rw [List.take_append, List.take_of_length_le (by omega), hx, show 256 * (n + 1) - 256 = 256 * n by omega]
    have e2 : (x ++ l.flatten).drop (256 * (n + 1) + 256) = l.flatten.drop (256 * n + 256) := by
      rw [List.drop_append, List.drop_eq_nil_of_le (by omega), List.nil_append, hx, show 256 * (n + 1) + 256 - 256 = 256 * n + 256 by omega]
    rw [e1, e2, List.append_assoc]
theorem flatten_get : ∀ (l : List (List UInt8)) (n : Nat), (∀ b ∈ l, b.length = 256) → n < l.length → (l.flatten.drop (256 * n)).take 256 = l.getD n []
  | [], n, _, hn => by simp at hn
  | x :: l, 0, h, _ => by
    have hx := h x (List.mem_cons_self ..)
    rw [List.flatten_cons, Nat.mul_zero, List.drop_zero, List.take_append_of_le_length (by omega), List.take_of_length_le (by omega)]; simp
  | x :: l, n + 1, h, hn => by
    have hx := h x (List.mem_cons_self ..)
    have ih := flatten_get l n (fun y hy => h y (List.mem_cons_of_mem _ hy)) (by simpa using hn)
    rw [List.flatten_cons, List.drop_append, List.drop_eq_nil_of_le (by omega), List.nil_append, hx, show 256 * (n + 1) - 256 = 256 * n by omega, ih]; simp
def nows (d : Dk) : List (List UInt8) := (List.range d.safe.length).map d.now
theorem image_nows (d : Dk) : d.image = d.nows.flatten := by unfold image nows; rw [List.flatMap_def]
theorem nows_length (d : Dk) : d.nows.length = d.safe.length := by unfold nows; simp
theorem nows_fit {d : Dk} (h : d.fit) : ∀ b ∈ d.nows, b.length = 256 := by
  intro b hb
  unfold nows at hb
  obtain ⟨k, hk, rfl⟩ := List.mem_map.1 hb
  exact fit_now h (List.mem_range.1 hk)
theorem nows_get (d : Dk) (n : Nat) (h : n < d.safe.length) : d.nows.getD n [] = d.now n := by
  unfold nows; simp [List.getD, h]
theorem nows_at (d : Dk) (k : Nat) (h : k < d.nows.length) : d.nows[k] = d.now k := by simp [nows]
theorem nows_calm (d : Dk) (h : d.waits = []) : d.nows = d.safe := by
  apply List.ext_getElem
  · rw [nows_length]
  · intro k h1 h2
    rw [nows_at]
    unfold now
    rw [h]
    simp [lastOf, List.getD, h2]
theorem nows_write (d : Dk) (n : Nat) (b : List UInt8) (hn : n < d.safe.length) : nows { d with waits := d.waits ++ [(n, b)] } = d.nows.set n b := by
  apply List.ext_getElem
  · rw [List.length_set, nows_length, nows_length]
  · intro k h1 h2
    rw [nows_at, List.getElem_set, nows_at]
    unfold now
    rw [lastOf_append]
    by_cases h : n = k
    · simp [h]
    · simp [h]
theorem image_length {d : Dk} (h : d.fit) : d.image.length = 256 * d.safe.length := by rw [image_nows, flatten_length (nows_fit h), nows_length]
theorem image_calm (d : Dk) (h : d.waits = []) : d.image = d.safe.flatten := by rw [image_nows, nows_calm d h]
theorem image_write {d : Dk} (hf : d.fit) (n : Nat) (b : List UInt8) (hn : n < d.safe.length) (hb : b.length = 256) : image { d with waits := d.waits ++ [(n, b)] } = splice d.image (256 * n) b := by
  rw [image_nows, nows_write d n b hn, flatten_set _ _ _ (nows_fit hf) (by rw [nows_length]; exact hn) hb, ← image_nows]
theorem image_get {d : Dk} (hf : d.fit) (n : Nat) (hn : n < d.safe.length) : (d.image.drop (256 * n)).take 256 = d.now n := by
  rw [image_nows, flatten_get _ _ (nows_fit hf) (by rw [nows_length]; exact hn), nows_get d n hn]
theorem laid_snoc (x : Nat × List UInt8) : ∀ (l : List (Nat × List UInt8)) (safe : List (List UInt8)), laid safe (l ++ [x]) = (laid safe l).set x.1 x.2
  | [], safe => rfl
  | y :: l, safe => by rw [List.cons_append, laid, laid_snoc x l, laid]
theorem laid_nows (d : Dk) : laid d.safe d.waits = d.nows := by
  apply List.ext_getElem
  · rw [laid_length, nows_length]
  · intro k h1 h2
    have hk : k < d.safe.length := by rwa [laid_length] at h1
    have h3 := laid_get k d.waits d.safe hk
    have h4 := nows_get d k hk
    rw [List.getD, List.getElem?_eq_getElem h1] at h3
    rw [List.getD, List.getElem?_eq_getElem h2] at h4
    simp only [Option.getD_some] at h3 h4
    rw [h3, h4]; rfl
def tear (masks : List Int) (safe : List (List UInt8)) (x : Nat × List UInt8) (i : Nat) : List (List UInt8) :=
  if i < masks.length then safe.set x.1 (torn (safe.getD x.1 []) x.2 (masks.getD i 0)) else safe
theorem crashed_snoc (masks : List Int) (x : Nat × List UInt8) : ∀ (l : List (Nat × List UInt8)) (safe : List (List UInt8)) (i : Nat), crashed masks safe (l ++ [x]) i = tear masks (crashed masks safe l i) x (i + l.length)
  | [], safe, i => by
    rw [List.nil_append, crashed, crashed, crashed]
    unfold tear
    simp only [List.length_nil, Nat.add_zero, crashed]
  | y :: l, safe, i => by
    rw [List.cons_append, crashed, crashed_snoc masks x l, crashed_snoc masks x l, crashed, List.length_cons, show i + 1 + l.length = i + (l.length + 1) by omega]
    split <;> rfl
def tornK (was b : List UInt8) (m : Int) : Nat → List UInt8
  | 0 => was
  | k + 1 => if bitOf m k = true then splice (tornK was b m k) (64 * k) (sector b k) else tornK was b m k
theorem sector_length (b : List UInt8) (h : b.length = 256) (k : Nat) (hk : k < 4) : (sector b k).length = 64 := by unfold sector; simp; omega
theorem tornK_form (was b : List UInt8) (m : Int) (h1 : was.length = 256) (h2 : b.length = 256) : ∀ k, k ≤ 4 → tornK was b m k = ((List.range k).flatMap fun j => sector (if bitOf m j then b else was) j) ++ was.drop (64 * k) ∧ ((List.range k).flatMap fun j => sector (if bitOf m j then b else was) j).length = 64 * k := by
  intro k
  induction k with
  | zero => intro _; simp [tornK]
  | succ k ih =>
    intro hk
    obtain ⟨e1, e2⟩ := ih (by omega)
    have hs : (sector (if bitOf m k then b else was) k).length = 64 := sector_length _ (by split <;> assumption) k (by omega)
    rw [List.range_succ, List.flatMap_append, List.flatMap_cons, List.flatMap_nil, List.append_nil, tornK]
    refine ⟨?_, by rw [List.length_append, e2, hs]; omega⟩
    split
    · rename_i hm
      unfold splice
      rw [sector_length b h2 k (by omega), e1]
      rw [List.take_append_of_le_length (by omega), List.take_of_length_le (by omega), List.drop_append, List.drop_eq_nil_of_le (by omega), List.nil_append, e2, List.drop_drop, List.append_assoc]
      congr 3
      congr 1
      omega
    · rename_i hm
      rw [e1, List.append_assoc]
      congr 1
      have e : was.drop (64 * k) = sector was k ++ was.drop (64 * (k + 1)) := by
        unfold sector
        have := (List.take_append_drop 64 (was.drop (64 * k))).symm
        rw [List.drop_drop] at this
        rw [show 64 * (k + 1) = 64 * k + 64 by omega]
        exact this
      exact e
theorem tornK_all (was b : List UInt8) (m : Int) (h1 : was.length = 256) (h2 : b.length = 256) : tornK was b m 4 = torn was b m := by
  rw [(tornK_form was b m h1 h2 4 (by omega)).1, List.drop_eq_nil_of_le (by omega), List.append_nil]
  rfl
theorem tornK_length (was b : List UInt8) (m : Int) (h1 : was.length = 256) (h2 : b.length = 256) (k : Nat) (hk : k ≤ 4) : (tornK was b m k).length = 256 := by
  obtain ⟨e1, e2⟩ := tornK_form was b m h1 h2 k hk
  rw [e1, List.length_append, e2, List.length_drop, h1]; omega
theorem splice_in {L X Y : List UInt8} (n k : Nat) (hL : n + X.length ≤ L.length) (hk : k + Y.length ≤ X.length) : splice (splice L n X) (n + k) Y = splice L n (splice X k Y) := by
  have hl : (splice X k Y).length = X.length := length_splice X k Y hk
  unfold splice at hl ⊢
  rw [hl]
  have e1 : (L.take n ++ (X ++ L.drop (n + X.length))).take (n + k) = L.take n ++ X.take k := by
    rw [List.take_append, List.take_of_length_le (by rw [List.length_take]; omega), List.length_take, show n + k - min n L.length = k by omega, List.take_append_of_le_length (by omega)]
  have e2 : (L.take n ++ (X ++ L.drop (n + X.length))).drop (n + k + Y.length) = X.drop (k + Y.length) ++ L.drop (n + X.length) := by
    rw [List.drop_append, List.drop_eq_nil_of_le (by rw [List.length_take]; omega), List.nil_append, List.length_take, show n + k + Y.length - min n L.length = k + Y.length by omega, List.drop_append_of_le_length (by omega)]
  rw [e1, e2]
  simp [List.append_assoc]
theorem splice_self (L : List UInt8) (n m : Nat) (h : n + m ≤ L.length) : splice L n ((L.drop n).take m) = L := by
  have hl : ((L.drop n).take m).length = m := by simp; omega
  unfold splice
  rw [hl, ← List.drop_drop, List.take_append_drop, List.take_append_drop]
def chunks : Nat → List UInt8 → List (List UInt8)
  | 0, _ => []
  | m + 1, L => L.take 256 :: chunks m (L.drop 256)
theorem chunks_length : ∀ (m : Nat) (L : List UInt8), (chunks m L).length = m
  | 0, _ => rfl
  | m + 1, L => by rw [chunks, List.length_cons, chunks_length]
theorem chunks_fit : ∀ (m : Nat) (L : List UInt8), L.length = 256 * m → ∀ b ∈ chunks m L, b.length = 256
  | 0, L, _, b, hb => by cases hb
  | m + 1, L, h, b, hb => by
    rw [chunks] at hb
    rcases List.mem_cons.1 hb with rfl | hb
    · rw [List.length_take]; omega
    · exact chunks_fit m (L.drop 256) (by rw [List.length_drop]; omega) b hb
theorem chunks_flatten : ∀ (m : Nat) (L : List UInt8), L.length = 256 * m → (chunks m L).flatten = L
  | 0, L, h => by rw [chunks]; exact (List.eq_nil_of_length_eq_zero (by omega)).symm
  | m + 1, L, h => by rw [chunks, List.flatten_cons, chunks_flatten m _ (by rw [List.length_drop]; omega), List.take_append_drop]
theorem chunks_zero : ∀ m : Nat, chunks m (List.replicate (256 * m) 0) = List.replicate m (List.replicate 256 0)
  | 0 => rfl
  | m + 1 => by
    rw [chunks, List.take_replicate, List.drop_replicate, List.replicate_succ, show min 256 (256 * (m + 1)) = 256 by omega, show 256 * (m + 1) - 256 = 256 * m by omega, chunks_zero m]
def ofImage (L : List UInt8) : Dk := ⟨chunks (L.length / 256) L, [], -1, false, 0, 0, 0⟩
theorem ofImage_zero (m : Nat) : ofImage (List.replicate (256 * m) 0) = blank m := by
  unfold ofImage blank
  rw [List.length_replicate, show 256 * m / 256 = m by omega, chunks_zero]
end Dk
end
end Go.Proofs.Ytghenhacndaelaa
