/- Lemmas under the proofs of this place: Gen7, WalDisk, DiskMem. No statement is proved here. -/
import Derived.Test.YtghenhacndaelaaBu07
import Derived.Test.YtghenhacndaelaaBu04
import Derived.Test.YtghenhacndaelaaBu05
import Derived.Test.YtghenhacndaelaaBu02
import Derived.Test.YtghenhacndaelaaBu01
set_option linter.unusedVariables false
namespace Go.Proofs.Ytghenhacndaelaa
section
open Go.RowKit
def slLen : Value → Nat
  | .slice _ n _ => n
  | _ => 0
theorem chain7 {w0 w w' : World} (h : Below w0.heap.size w0 w) (k : Below w.heap.size w w') : Below w0.heap.size w0 w' := h.trans (k.mono h.size)
theorem rb_up7 {w w' : World} {A : Option Addr} {L : List UInt8} (h : RB w w.heap.size A L) (hb : Below w.heap.size w w') : RB w' w'.heap.size A L := (h.below hb).more hb.size
def RBc (w : World) (A : Option Addr) (L : List UInt8) (c : Nat) : Prop := RB w w.heap.size A L ∧ L.length ≤ c ∧ c ≤ 9223372036854775807
theorem own_cap7 {w : World} {base c : Nat} {A : Option Addr} {L : List UInt8} (h : Own w base A L c) : RBc w A L c := by
  refine ⟨own_rb h, ?_⟩
  rcases h.2 with ⟨h1, h2⟩ | ⟨g, cap, cur, h1, _, _, h3, h4, _⟩
  · simp only [Value.slice.injEq] at h1
    omega
  · simp only [Value.slice.injEq] at h1
    unfold maxLen at h4
    omega
theorem five_new (W : World) (v0 v1 v2 v3 v4 : Value) (t : TypeId) : Reads (W.alloc (.cells #[v0, v1, v2, v3, v4] t)) (W.heap.size + 1) 5 (some ⟨W.heap.size, 0, none⟩) 1 [v0, v1, v2, v3, v4] := by
  refine ⟨by simp, fun h0 => ⟨_, rfl, by simp, fun j u hu => ?_⟩⟩
  have h := heap_alloc_new W (.cells #[v0, v1, v2, v3, v4] t)
  have e : (⟨W.heap.size, 0, none⟩ : Addr).add j = ⟨W.heap.size, j, none⟩ := by unfold Addr.add; split <;> simp_all
  rw [e, (blk_cell h j).1]
  simpa using hu
theorem own_slice7 {w : World} {base : Nat} {e : TypeId} {size n : Nat} {v : Value} {xs : List Value} (h : w.ownsRow base e size v n xs) : ∃ A c, v = .slice A n c := by
  rcases h.2 with ⟨rfl, h0⟩ | ⟨g, cap, cur, rfl, h2, _⟩
  · exact ⟨none, 0, by rw [h0]⟩
  · exact ⟨_, _, rfl⟩
theorem append_far {ops : Array Oper} {rest : List Oper} {o : Oper} {a : Act} {Q : Exit → Act → World → Prop} (hgd : o.guard = none) (s x : Operand)
    (ho : o.op = .call { callee := .builtin .append, args := #[s, x], argTypes := #[38, 38] })
    {B B2 : Nat} {w0 wr : World} {v : Value} {P L : List UInt8} {A : Option Addr} {n m c k : Nat} (hs : a.eval s = v) (hown : wr.ownsRow B 5 1 v n (cells P)) (hb : Below B w0 wr) (hB : B ≤ w0.heap.size)
    (hx : a.eval x = .slice A m c) (hr : RB wr B2 A L) (hm : m = L.length) (hlen : n + m ≤ 1048576) (hk : n + m = k)
    (h : ∀ A' c' w1, w1.ownsRow B 5 1 (.slice A' k c') k (cells (P ++ L)) → Below B w0 w1 → wr.heap.size ≤ w1.heap.size → (∀ p u, wr.cell? p = some u → v.ownBlock ≠ some p.block → w1.cell? p = some u) →
      (∀ g, g < wr.heap.size → v.ownBlock ≠ some g → (Value.slice A' k c').ownBlock ≠ some g) → wpList Try.prog ops Q rest (a.put o.dst (.slice A' k c')) w1) :
    wpList Try.prog ops Q (o :: rest) a wr := by
  obtain ⟨i0, hi0, hz0, hz1, hz2⟩ := info_parts Try.info5
  subst hk hm
  refine wpList_append_any wr hgd s x 38 ho B 5 i0 _ 1 1 Try.underlying38 hi0 hz0 hz1 hz2 rfl (by omega) v n (cells P) hs hown B2 A L.length c (cells L) hx hr (cells_one _) (by unfold maxLen; omega) (by omega) (Nat.le_trans hB hb.size) fun v' w' ho' hg hat => ?_
  obtain ⟨A', c', rfl⟩ := own_form ho'
  rw [cells_append] at h
  refine h A' c' w' ho' (hb.grown hg (Nat.le_trans hB hb.size) fun j hj => (hown.lt j hj).1) hg.size (fun p u hp hne => hg.cell hp (fun e => hne e.symm)) (fun g hlt hne he => ?_)
  rcases hat with h1 | h1
  · exact hne (h1 ▸ he)
  · rw [he] at h1
    injection h1 with h1
    omega
theorem append_rb {ops : Array Oper} {rest : List Oper} {o : Oper} {a : Act} {Q : Exit → Act → World → Prop} (hgd : o.guard = none) (s x : Operand)
    (ho : o.op = .call { callee := .builtin .append, args := #[s, x], argTypes := #[38, 38] })
    {B B2 : Nat} {w0 wr : World} {v : Value} {P L : List UInt8} {A : Option Addr} {n m c k : Nat} (hs : a.eval s = v) (hown : wr.ownsRow B 5 1 v n (cells P)) (hb : Below B w0 wr) (hB : B ≤ w0.heap.size)
    (hx : a.eval x = .slice A m c) (hr : RB wr B2 A L) (hm : m = L.length) (hlen : n + m ≤ 1048576) (hk : n + m = k)
    (h : ∀ A' c' w1, w1.ownsRow B 5 1 (.slice A' k c') k (cells (P ++ L)) → Below B w0 w1 → wpList Try.prog ops Q rest (a.put o.dst (.slice A' k c')) w1) :
    wpList Try.prog ops Q (o :: rest) a wr := append_far hgd s x ho hs hown hb hB hx hr hm hlen hk fun A' c' w1 h1 h2 _ _ _ => h A' c' w1 h1 h2
theorem make_zeros {ops : Array Oper} {rest : List Oper} {o : Oper} {a : Act} {Q : Exit → Act → World → Prop} (hgd : o.guard = none) (n : Nat) (l c : Operand) (ho : o.op = .makeSlice 38 l c) (hl : a.eval l = .int .i64 (n : Int)) (hc : a.eval c = .int .i64 (n : Int)) (hn : n ≤ 1048576) {wr : World}
    (h : ∀ w1, RB w1 w1.heap.size (some ⟨wr.heap.size, 0, none⟩) (List.replicate n 0) → Below wr.heap.size wr w1 → wr.heap.size < w1.heap.size → wpList Try.prog ops Q rest (a.put o.dst (.slice (some ⟨wr.heap.size, 0, none⟩) n n)) w1) :
    wpList Try.prog ops Q (o :: rest) a wr := by
  obtain ⟨i0, hi0, hz0, hz1, hz2⟩ := info_parts Try.info5
  refine wpList_make_full _ hgd l c 38 ho wr.heap.size 5 i0 _ 1 Try.underlying38 hi0 hz0 hz1 .i64 .i64 _ _ n hl hc rfl rfl (by have : i0.bytes = 1 := hz2; rw [this]; omega) (by unfold maxLen; omega) (Nat.le_refl _) fun w1 hown hg => ?_
  exact h w1 (made_rb hown) ((Below.refl _ _).grown hg (Nat.le_refl _) (by simp)) (World.ownsRow.lt hown wr.heap.size rfl).2
end
section
namespace Wal
def bytesAt (blk : Nat → List UInt8) (frm j : Nat) : List UInt8 := Dk.sector (blk (frm + j / 4)) (j % 4)
def secD (blk : Nat → List UInt8) (frm : Nat) : Sec := fun j => getS (bytesAt blk frm j)
theorem sane_d (blk : Nat → List UInt8) (frm : Nat) : Sane (secD blk frm) := fun j h => (getS_bytes h).1
def padN (n : Nat) : Nat := (256 - n % 256) % 256
theorem pad_mod (n : Nat) : (n + padN n) % 256 = 0 := by unfold padN; omega
theorem pad_lt (n : Nat) : padN n < 256 := by unfold padN; omega
def allW (b x : List UInt8) : List UInt8 := b ++ (x ++ List.replicate (padN (b.length + x.length)) 0)
def blkW (all : List UInt8) (k : Nat) : List UInt8 := (all.drop (256 * k)).take 256
def secL (all : List UInt8) (j : Nat) : List UInt8 := (all.drop (64 * j)).take 64
theorem all_length (b x : List UInt8) : (allW b x).length = b.length + x.length + padN (b.length + x.length) := by
  unfold allW
  rw [List.length_append, List.length_append, List.length_replicate]
  omega
theorem blk_sector (all : List UInt8) (k i : Nat) (hi : i < 4) : Dk.sector (blkW all k) i = secL all (4 * k + i) := by
  unfold Dk.sector blkW secL
  rw [List.drop_take, List.drop_drop, List.take_take]
  congr 1
  · omega
  · congr 1
    omega
theorem blk_length (b x : List UInt8) (k : Nat) (hk : 256 * k < (allW b x).length) : (blkW (allW b x) k).length = 256 := by
  have h1 := pad_mod (b.length + x.length)
  rw [← all_length] at h1
  unfold blkW
  rw [List.length_take, List.length_drop]
  omega
theorem sec_old (b x : List UInt8) (u j : Nat) (hb : b.length = 64 * u) (hj : j < u) : secL (allW b x) j = secL b j := by
  unfold secL allW
  rw [List.drop_append_of_le_length (by omega), List.take_append_of_le_length (by rw [List.length_drop]; omega)]
theorem sec_new (b x : List UInt8) (u n i : Nat) (hb : b.length = 64 * u) (hx : x.length = 64 * n) (hi : i < n) : secL (allW b x) (u + i) = secL x i := by
  unfold secL allW
  rw [show 64 * (u + i) = b.length + 64 * i by omega, ← List.drop_drop, List.drop_left, List.drop_append_of_le_length (by omega), List.take_append_of_le_length (by rw [List.length_drop]; omega)]
theorem sec_zero (b x : List UInt8) (u n j : Nat) (hb : b.length = 64 * u) (hx : x.length = 64 * n) (hj : u + n ≤ j) : ∃ m, secL (allW b x) j = List.replicate m 0 := by
  unfold secL allW
  obtain ⟨r, rfl⟩ : ∃ r, j = u + n + r := ⟨j - (u + n), by omega⟩
  rw [show 64 * (u + n + r) = b.length + (x.length + 64 * r) by omega, ← List.drop_drop, List.drop_left, ← List.drop_drop, List.drop_left, List.drop_replicate, List.take_replicate]
  exact ⟨_, rfl⟩
theorem zero_bad (m : Nat) : (getS (List.replicate m 0)).2 ≠ 0 := fun h => by
  obtain ⟨h1, h2⟩ := getS_bytes h
  obtain ⟨s, hs⟩ : ∃ s, s = (getS (List.replicate m 0)).1 := ⟨_, rfl⟩
  rw [← hs] at h1 h2
  have h3 := (Sd.may_iff _).1 h1
  have h4 : s.bytes = UInt8.ofNat s.kind.toNat :: s.bytes.tail := rfl
  rw [h2] at h4
  have h5 : (List.replicate m (0 : UInt8))[0]? = some (UInt8.ofNat s.kind.toNat) := by rw [h4]; rfl
  have h6 := List.mem_of_getElem? h5
  have h7 := List.eq_of_mem_replicate h6
  have h8 := congrArg UInt8.toNat h7
  rw [UInt8.toNat_ofNat'] at h8
  have h9 : (0 : UInt8).toNat = 0 := rfl
  omega
def recBytes (at_ : Nat) (e : Int) (t : List UInt8) : List UInt8 := (List.range (needN t.length)).flatMap fun i => (partW at_ e t i).bytes
theorem flat64 (f : Nat → List UInt8) : ∀ n, (∀ i, i < n → (f i).length = 64) → ((List.range n).flatMap f).length = 64 * n ∧ ∀ i, i < n → secL ((List.range n).flatMap f) i = f i
  | 0, _ => ⟨rfl, fun i hi => by omega⟩
  | n + 1, h => by
    obtain ⟨h1, h2⟩ := flat64 f n fun i hi => h i (by omega)
    rw [List.range_succ, List.flatMap_append]
    simp only [List.flatMap_cons, List.flatMap_nil, List.append_nil]
    refine ⟨by rw [List.length_append, h1, h n (by omega)]; omega, fun i hi => ?_⟩
    by_cases hin : i < n
    · rw [← h2 i hin]
      unfold secL
      rw [List.drop_append_of_le_length (by omega), List.take_append_of_le_length (by rw [List.length_drop]; omega)]
    · obtain rfl : i = n := by omega
      unfold secL
      rw [← h1, List.drop_left]
      exact List.take_of_length_le (by rw [h i (by omega)]; exact Nat.le_refl _)
theorem part_data (at_ : Nat) (e : Int) (t : List UInt8) (i : Nat) : (partW at_ e t i).data.length ≤ 48 := by
  show ((t.drop (48 * i)).take 48).length ≤ 48
  rw [List.length_take]
  omega
theorem rec_bytes (at_ : Nat) (e : Int) (t : List UInt8) : (recBytes at_ e t).length = 64 * needN t.length ∧ ∀ i, i < needN t.length → secL (recBytes at_ e t) i = (partW at_ e t i).bytes :=
  flat64 _ _ fun i _ => Sd.bytes_length _ (part_data at_ e t i)
theorem part_may {at_ : Nat} {e : Int} {t : List UInt8} {i : Nat} (he : 0 ≤ e ∧ e ≤ 2147483647) (hi : i < needN t.length) (hb : needN t.length ≤ 65536) (ha : at_ + needN t.length ≤ 2147483647) : (partW at_ e t i).may = true := by
  rw [Sd.may_iff]
  have hd : (partW at_ e t i).data.length = min 48 (t.length - 48 * i) := by
    show ((t.drop (48 * i)).take 48).length = _
    rw [List.length_take, List.length_drop]
  have hn : needN t.length = (t.length + 47) / 48 := rfl
  have hk := part_kind (at_ := at_) (e := e) (t := t) i
  have hu := part_number (at_ := at_) (e := e) (t := t) i
  have hl := part_left (at_ := at_) (e := e) (t := t) i
  have hee := part_epoch (at_ := at_) (e := e) (t := t) i
  have hk2 : (partW at_ e t i).kind = 2 ∨ (partW at_ e t i).kind = 3 := by rw [hk]; split <;> simp
  rw [hu, hl, hee, hd]
  refine ⟨by omega, by omega, he.1, he.2, by omega, by omega, by omega, by omega, by omega⟩
structure Wrote (blk : Nat → List UInt8) (frm u : Nat) (e : Int) (t b : List UInt8) : Prop where
  len : b.length = 64 * u
  old : ∀ j, j < u → secL b j = bytesAt blk frm j
def isNew (u n k : Nat) : Prop := u / 4 ≤ k ∧ 4 * k < u + n
section
variable {blk blk' : Nat → List UInt8} {frm u N : Nat} {e : Int} {t b : List UInt8}
theorem at_new (h : Wrote blk frm u e t b) (j : Nat) : Dk.sector (blkW (allW b (recBytes u e t)) (j / 4)) (j % 4) = secL (allW b (recBytes u e t)) j := by
  rw [blk_sector _ _ _ (by omega)]
  congr 1
  omega
theorem wrote_cases (h : Wrote blk frm u e t b) (he : 0 ≤ e ∧ e ≤ 2147483647) (hb : needN t.length ≤ 65536) (ha : u + needN t.length ≤ 2147483647)
    (hd : ∀ j, bytesAt blk' frm j = bytesAt blk frm j ∨ (isNew u (needN t.length) (j / 4) ∧ bytesAt blk' frm j = Dk.sector (blkW (allW b (recBytes u e t)) (j / 4)) (j % 4))) :
    (∀ j, j < u → secD blk' frm j = secD blk frm j) ∧ (∀ i, i < needN t.length → secD blk' frm (u + i) = secD blk frm (u + i) ∨ secD blk' frm (u + i) = (partW u e t i, 0)) ∧ (∀ j, u + needN t.length ≤ j → secD blk' frm j = secD blk frm j ∨ (secD blk' frm j).2 ≠ 0) := by
  obtain ⟨r1, r2⟩ := rec_bytes u e t
  refine ⟨fun j hj => ?_, fun i hi => ?_, fun j hj => ?_⟩
  · unfold secD
    rcases hd j with h1 | ⟨_, h1⟩
    · rw [h1]
    · rw [h1, at_new h, sec_old b _ u j h.len hj, h.old j hj]
  · unfold secD
    rcases hd (u + i) with h1 | ⟨_, h1⟩
    · exact .inl (by rw [h1])
    · right
      rw [h1, at_new h, sec_new b _ u _ i h.len r1 hi, r2 i hi]
      exact getS_put _ (part_may he hi hb ha)
  · unfold secD
    rcases hd j with h1 | ⟨_, h1⟩
    · exact .inl (by rw [h1])
    · right
      obtain ⟨m, hm⟩ := sec_zero b (recBytes u e t) u _ j h.len r1 hj
      rw [h1, at_new h, hm]
      exact zero_bad m
theorem wrote_all (h : Wrote blk frm u e t b) (he : 0 ≤ e ∧ e ≤ 2147483647) (hb : needN t.length ≤ 65536) (ha : u + needN t.length ≤ 2147483647)
    (hd : ∀ j, isNew u (needN t.length) (j / 4) → bytesAt blk' frm j = Dk.sector (blkW (allW b (recBytes u e t)) (j / 4)) (j % 4)) : ∀ i, i < needN t.length → secD blk' frm (u + i) = (partW u e t i, 0) := fun i hi => by
  obtain ⟨r1, r2⟩ := rec_bytes u e t
  unfold secD
  rw [hd (u + i) ⟨by omega, by omega⟩, at_new h, sec_new b _ u _ i h.len r1 hi, r2 i hi]
  exact getS_put _ (part_may he hi hb ha)
theorem Wrote.next (h : Wrote blk frm u e t b) (hd : ∀ j, bytesAt blk' frm j = bytesAt blk frm j ∨ (isNew u (needN t.length) (j / 4) ∧ bytesAt blk' frm j = Dk.sector (blkW (allW b (recBytes u e t)) (j / 4)) (j % 4)))
    (hn : ∀ j, isNew u (needN t.length) (j / 4) → bytesAt blk' frm j = Dk.sector (blkW (allW b (recBytes u e t)) (j / 4)) (j % 4)) (e' : Int) (t' : List UInt8) : Wrote blk' frm (u + needN t.length) e' t' (b ++ recBytes u e t) := by
  obtain ⟨r1, r2⟩ := rec_bytes u e t
  have hl : ∀ j, j < u + needN t.length → secL (b ++ recBytes u e t) j = secL (allW b (recBytes u e t)) j := fun j hj => by
    unfold secL allW
    rw [← List.append_assoc, List.drop_append_of_le_length (l₁ := b ++ recBytes u e t) (by rw [List.length_append, h.len, r1]; omega), List.take_append_of_le_length (by rw [List.length_drop, List.length_append, h.len, r1]; omega)]
  refine ⟨by rw [List.length_append, h.len, r1]; omega, fun j hj => ?_⟩
  rw [hl j hj]
  by_cases hj2 : j < u
  · rw [sec_old b _ u j h.len hj2, h.old j hj2]
    rcases hd j with h1 | ⟨_, h1⟩
    · rw [h1]
    · rw [h1, at_new h, sec_old b _ u j h.len hj2, h.old j hj2]
  · rw [hn j ⟨by omega, by omega⟩, at_new h]
end
end Wal
end
section
open Go.RowKit
def InI (i : Int) : Prop := -9223372036854775808 ≤ i ∧ i ≤ 9223372036854775807
def Arr (w : World) (a : Nat) (L : List UInt8) : Prop := ∃ spare : List Value, Blk w a 5 (cells L ++ spare).toArray
section
variable {w w' : World} {a : Nat} {L : List UInt8} {F F' : Nat → Prop}
theorem Arr.lt (h : Arr w a L) : a < w.heap.size := by obtain ⟨s, h⟩ := h; exact h.lt
theorem Arr.turns (h : Arr w a L) (ht : Turns w w' F F') (hn : ¬ F a) : Arr w' a L := by obtain ⟨s, h⟩ := h; exact ⟨s, h.turns ht hn⟩
theorem Arr.set_far (h : Arr w a L) {p : Addr} (hp : a ≠ p.block) (u : Value) : Arr (w.setCell p u) a L := by obtain ⟨s, h⟩ := h; exact ⟨s, h.far hp u⟩
theorem Arr.cell (h : Arr w a L) {k : Nat} (hk : k < L.length) : w.cell? ⟨a, k, none⟩ = some (.int .u8 (L[k].toNat : Int)) := by
  obtain ⟨s, h⟩ := h
  rw [h.cell k]
  simp only [List.getElem?_toArray]
  rw [List.getElem?_append_left (by rw [cells_length]; exact hk), cells_get L k hk]
theorem Arr.rb (h : Arr w a L) (off n : Nat) (hn : off + n ≤ L.length) : RB w w.heap.size (some ⟨a, off, none⟩) ((L.drop off).take n) := by
  refine ⟨by simp [cells_length], fun h0 => ⟨_, rfl, h.lt, fun j u hu => ?_⟩⟩
  have e : (⟨a, off, none⟩ : Addr).add j = ⟨a, off + j, none⟩ := by unfold Addr.add; split <;> simp_all
  have hj : j < ((L.drop off).take n).length := by have := (List.getElem?_eq_some_iff.1 hu).1; rwa [cells_length] at this
  rw [List.length_take, List.length_drop] at hj
  rw [e, h.cell (k := off + j) (by omega), ← hu, cells_get _ _ (by rw [List.length_take, List.length_drop]; exact hj)]
  simp
theorem Arr.all (h : Arr w a L) : RB w w.heap.size (some ⟨a, 0, none⟩) L := by
  have := h.rb 0 L.length (by omega)
  simpa using this
theorem own_arr {base c : Nat} {A : Option Addr} (h : Own w base A L c) (h0 : 0 < L.length) : ∃ a, A = some ⟨a, 0, none⟩ ∧ Arr w a L ∧ L.length ≤ c ∧ c ≤ 9223372036854775807 ∧ base ≤ a := by
  have hc := own_cap h
  have hl := own_le h
  rcases h.2 with ⟨h', h1⟩ | ⟨g, cap, cur, h', hb, hg, hn, hm, hs, ht⟩
  · omega
  · simp only [Value.slice.injEq] at h'
    obtain ⟨rfl, _, rfl⟩ := h'
    refine ⟨g, rfl, ⟨cur.toList.drop L.length, ?_⟩, hl, hc, hb⟩
    have e : (cells L ++ cur.toList.drop L.length).toArray = cur := by
      apply Array.toList_inj.1
      rw [← ht, Nat.mul_one]
      simp
    rw [e]; exact hg
theorem splice_cells (L X : List UInt8) (s : List Value) (off : Nat) (h : off + X.length ≤ L.length) : splice (cells L ++ s) off (cells X) = cells (splice L off X) ++ s := by
  unfold splice
  rw [List.take_append_of_le_length (by rw [cells_length]; omega), List.drop_append_of_le_length (by rw [cells_length, cells_length]; omega), cells_length, cells_take, cells_drop, cells_append, cells_append]
  simp [List.append_assoc]
end
def waitCells (l : List (Nat × List UInt8)) : List Value := l.flatMap fun x => .int .i64 (x.1 : Int) :: cells x.2
theorem waitCells_append (l m : List (Nat × List UInt8)) : waitCells (l ++ m) = waitCells l ++ waitCells m := by simp [waitCells]
theorem waitCells_length (l : List (Nat × List UInt8)) (h : ∀ x ∈ l, x.2.length = 256) : (waitCells l).length = l.length * 257 := by
  induction l with
  | nil => rfl
  | cons x l ih =>
    have h1 : waitCells (x :: l) = (.int .i64 (x.1 : Int) :: cells x.2) ++ waitCells l := by simp [waitCells]
    rw [h1, List.length_append, ih (fun y hy => h y (List.mem_cons_of_mem _ hy)), List.length_cons, cells_length, h x (List.mem_cons_self ..), List.length_cons]
    omega
theorem waitCells_get (l : List (Nat × List UInt8)) (h : ∀ x ∈ l, x.2.length = 256) (i : Nat) (hi : i < l.length) (j : Nat) (hj : j < 257) : (waitCells l)[i * 257 + j]? = (Value.int .i64 ((l[i]).1 : Int) :: cells (l[i]).2)[j]? := by
  induction l generalizing i with
  | nil => simp at hi
  | cons x l ih =>
    have h1 : waitCells (x :: l) = (.int .i64 (x.1 : Int) :: cells x.2) ++ waitCells l := by simp [waitCells]
    have hx : (Value.int .i64 (x.1 : Int) :: cells x.2).length = 257 := by rw [List.length_cons, cells_length, h x (List.mem_cons_self ..)]
    rw [h1]
    match i with
    | 0 => rw [List.getElem?_append_left (by rw [hx]; omega)]; simp
    | i + 1 =>
      rw [List.getElem?_append_right (by rw [hx]; omega), hx, show (i + 1) * 257 + j - 257 = i * 257 + j by omega, ih (fun y hy => h y (List.mem_cons_of_mem _ hy)) i (by simpa using hi)]
      simp
theorem waitCells_one (l : List (Nat × List UInt8)) : ∀ u ∈ waitCells l, u.oneCell' = true := by
  intro u hu
  simp only [waitCells, List.mem_flatMap, List.mem_cons] at hu
  obtain ⟨x, _, rfl | h⟩ := hu
  · rfl
  · exact cells_one _ u h
def Dk.load (d : Dk) : Nat := d.reads + d.writes + d.flushes + d.waits.length
structure Dk.good (d : Dk) : Prop where
  fit : d.fit
  few : 16 ≤ d.safe.length
  many : d.safe.length ≤ 1024
  left : -1 ≤ d.left ∧ d.left ≤ 9223372036854775807
def diskCells (a ca b cb n : Nat) (V : Value) (ends : Bool) (lf : Int) (d : Dk) : Array Value :=
  #[.slice (some ⟨a, 0, none⟩) n ca, .slice (some ⟨b, 0, none⟩) n cb, V, .bool d.off, .bool ends, .int .i64 lf, .int .i64 (d.reads : Int), .int .i64 (d.writes : Int), .int .i64 (d.flushes : Int)]
structure PD (w : World) (g : Nat) (F : Nat → Prop) (d : Dk) (a ca b cb n : Nat) (V : Value) (ends : Bool) (lf : Int) : Prop where
  blk : Blk w g 65 (diskCells a ca b cb n V ends lf d)
  size : n = 256 * d.safe.length
  capa : n ≤ ca ∧ ca ≤ 9223372036854775807
  capb : n ≤ cb ∧ cb ≤ 9223372036854775807
  safe : Arr w a d.safe.flatten
  last : Arr w b d.image
  wait : w.ownsRow 0 69 257 V d.waits.length (waitCells d.waits)
  ab : a ≠ b
  fg : F g
  fa : F a
  fb : F b
  fv : ∀ k, V.ownBlock = some k → F k
  flt : ∀ k, F k → k < w.heap.size
  good : d.good
  ends_ : d.off = false → ends = decide (0 ≤ d.left)
  left_ : d.off = false → 0 ≤ d.left → lf = d.left
def PDisk (w : World) (g : Nat) (F : Nat → Prop) (d : Dk) : Prop := ∃ a ca b cb n V ends lf, PD w g F d a ca b cb n V ends lf
section
variable {w w' : World} {g : Nat} {F F' : Nat → Prop} {d : Dk} {a ca b cb n : Nat} {V : Value} {ends : Bool} {lf : Int}
theorem PD.ne (h : PD w g F d a ca b cb n V ends lf) : g ≠ a ∧ g ≠ b ∧ V.ownBlock ≠ some g ∧ V.ownBlock ≠ some a ∧ V.ownBlock ≠ some b := by
  obtain ⟨s1, h1⟩ := h.safe
  obtain ⟨s2, h2⟩ := h.last
  exact ⟨h.blk.ne_ h1 (by decide), h.blk.ne_ h2 (by decide), own_blk_ne h.wait h.blk (by decide), own_blk_ne h.wait h1 (by decide), own_blk_ne h.wait h2 (by decide)⟩
theorem PD.turns {E E' : Nat → Prop} (h : PD w g F d a ca b cb n V ends lf) (ht : Turns w w' E E') (hn : ∀ k, F k → ¬ E k) : PD w' g F d a ca b cb n V ends lf :=
  ⟨h.blk.turns ht (hn g h.fg), h.size, h.capa, h.capb, h.safe.turns ht (hn a h.fa), h.last.turns ht (hn b h.fb), own_turns h.wait ht (fun k hk => hn k (h.fv k hk)), h.ab, h.fg, h.fa, h.fb, h.fv,
   fun k hk => Nat.lt_of_lt_of_le (h.flt k hk) ht.size, h.good, h.ends_, h.left_⟩
theorem PDisk.turns {E E' : Nat → Prop} (h : PDisk w g F d) (ht : Turns w w' E E') (hn : ∀ k, F k → ¬ E k) : PDisk w' g F d := by
  obtain ⟨a, ca, b, cb, n, V, ends, lf, h⟩ := h
  exact ⟨a, ca, b, cb, n, V, ends, lf, h.turns ht hn⟩
theorem PDisk.below (h : PDisk w g F d) (hb : Below w.heap.size w w') : PDisk w' g F d := by
  have ht := Turns.of_below hb (fun _ => False)
  exact h.turns ht (fun _ _ h => h)
theorem PDisk.flt (h : PDisk w g F d) : ∀ k, F k → k < w.heap.size := by
  obtain ⟨a, ca, b, cb, n, V, ends, lf, h⟩ := h
  exact h.flt
theorem PDisk.good (h : PDisk w g F d) : d.good := by
  obtain ⟨a, ca, b, cb, n, V, ends, lf, h⟩ := h
  exact h.good
theorem PD.len (h : PD w g F d a ca b cb n V ends lf) : d.safe.flatten.length = n := by
  rw [h.size, List.length_flatten]
  have : ∀ l : List (List UInt8), (∀ b ∈ l, b.length = 256) → (l.map List.length).sum = 256 * l.length := by
    intro l
    induction l with
    | nil => intro _; rfl
    | cons x l ih => intro hx; rw [List.map_cons, List.sum_cons, ih (fun y hy => hx y (List.mem_cons_of_mem _ hy)), hx x (List.mem_cons_self ..), List.length_cons]; omega
  exact this _ h.good.fit.1
end
end
end Go.Proofs.Ytghenhacndaelaa
