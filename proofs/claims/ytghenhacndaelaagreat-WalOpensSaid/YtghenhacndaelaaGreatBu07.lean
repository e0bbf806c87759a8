/- Lemmas under the proofs of this place: Gen7, WalDisk, DiskMem, Slices, Copy, CurT. No statement is proved here. -/
import Derived.Test.YtghenhacndaelaaGreatBu05
import Derived.Test.YtghenhacndaelaaGreatBu03
import Derived.Test.YtghenhacndaelaaGreatBu01
import Derived.Laws.CopyOwn
set_option linter.unusedSimpArgs false
set_option linter.unusedVariables false
set_option maxRecDepth 100000
set_option maxHeartbeats 16000000
namespace Go.Proofs.YtghenhacndaelaaGreat
section
open Go.RowKit
def slLen : Value → Nat
  | .slice _ n _ => n
  | _ => 0
theorem chain7 {w0 w w' : World} (h : Below w0.heap.size w0 w) (k : Below w.heap.size w w') : Below w0.heap.size w0 w' := h.trans (k.mono h.size)
theorem rb_up7 {w w' : World} {A : Option Addr} {L : List UInt8} (h : RB w w.heap.size A L) (hb : Below w.heap.size w w') : RB w' w'.heap.size A L := (h.below hb).more hb.size
theorem byte2_new (k m : Nat) (hk : k < 256) (hm : m < 256) (base : Nat) (W : World) (hb : base ≤ W.heap.size) : (W.alloc (.cells #[.int .u8 (k : Int), .int .u8 (m : Int)] 5)).ownsRow base 5 1 (.slice (some ⟨W.heap.size, 0, none⟩) 2 2) 2 (cells [UInt8.ofNat k, UInt8.ofNat m]) := by
  have e1 : (k : Int) = ((UInt8.ofNat k).toNat : Int) := by rw [ofNat_toNat _ hk]
  have e2 : (m : Int) = ((UInt8.ofNat m).toNat : Int) := by rw [ofNat_toNat _ hm]
  rw [e1, e2]
  exact World.ownsRow_lit W _ 2 hb (by decide) rfl
def RBc (w : World) (A : Option Addr) (L : List UInt8) (c : Nat) : Prop := RB w w.heap.size A L ∧ L.length ≤ c ∧ c ≤ 9223372036854775807
theorem rbc_none (w : World) : RBc w none [] 0 := ⟨RB.none_ _ _, Nat.le_refl _, by omega⟩
theorem own_cap7 {w : World} {base c : Nat} {A : Option Addr} {L : List UInt8} (h : Own w base A L c) : RBc w A L c := by
  refine ⟨own_rb h, ?_⟩
  rcases h.2 with ⟨h1, h2⟩ | ⟨g, cap, cur, h1, _, _, h3, h4, _⟩
  · simp only [Value.slice.injEq] at h1
    omega
  · simp only [Value.slice.injEq] at h1
    unfold maxLen at h4
    omega
theorem five_new (W : World) (v0 v1 v2 v3 v4 : Value) (t : TypeId) : Reads (W.alloc (.cells #[v0, v1, v2, v3, v4] t)) (W.heap.size + 1) 5 (some ⟨W.heap.size, 0, none⟩) 1 [v0, v1, v2, v3, v4] := by
  refine ⟨by simp, fun h0 => ⟨_, rfl, by simp, fun j u hu => ?_⟩⟩
  have h := heap_alloc_new W (.cells #[v0, v1, v2, v3, v4] t)
  have e : (⟨W.heap.size, 0, none⟩ : Addr).add j = ⟨W.heap.size, j, none⟩ := by unfold Addr.add; split <;> simp_all
  rw [e, (blk_cell h j).1]
  simpa using hu
theorem own_slice7 {w : World} {base : Nat} {e : TypeId} {size n : Nat} {v : Value} {xs : List Value} (h : w.ownsRow base e size v n xs) : ∃ A c, v = .slice A n c := by
  rcases h.2 with ⟨rfl, h0⟩ | ⟨g, cap, cur, rfl, h2, _⟩
  · exact ⟨none, 0, by rw [h0]⟩
  · exact ⟨_, _, rfl⟩
theorem append_far {ops : Array Oper} {rest : List Oper} {o : Oper} {a : Act} {Q : Exit → Act → World → Prop} (hgd : o.guard = none) (s x : Operand)
    (ho : o.op = .call { callee := .builtin .append, args := #[s, x], argTypes := #[39, 39] })
    {B B2 : Nat} {w0 wr : World} {v : Value} {P L : List UInt8} {A : Option Addr} {n m c k : Nat} (hs : a.eval s = v) (hown : wr.ownsRow B 5 1 v n (cells P)) (hb : Below B w0 wr) (hB : B ≤ w0.heap.size)
    (hx : a.eval x = .slice A m c) (hr : RB wr B2 A L) (hm : m = L.length) (hlen : n + m ≤ 1048576) (hk : n + m = k)
    (h : ∀ A' c' w1, w1.ownsRow B 5 1 (.slice A' k c') k (cells (P ++ L)) → Below B w0 w1 → wr.heap.size ≤ w1.heap.size → (∀ p u, wr.cell? p = some u → v.ownBlock ≠ some p.block → w1.cell? p = some u) →
      (∀ g, g < wr.heap.size → v.ownBlock ≠ some g → (Value.slice A' k c').ownBlock ≠ some g) → wpList Tryz.prog ops Q rest (a.put o.dst (.slice A' k c')) w1) :
    wpList Tryz.prog ops Q (o :: rest) a wr := by
  obtain ⟨i0, hi0, hz0, hz1, hz2⟩ := info_parts Tryz.info5
  subst hk hm
  refine wpList_append_any wr hgd s x 39 ho B 5 i0 _ 1 1 Tryz.underlying39 hi0 hz0 hz1 hz2 rfl (by omega) v n (cells P) hs hown B2 A L.length c (cells L) hx hr (cells_one _) (by unfold maxLen; omega) (by omega) (Nat.le_trans hB hb.size) fun v' w' ho' hg hat => ?_
  obtain ⟨A', c', rfl⟩ := own_form ho'
  rw [cells_append] at h
  refine h A' c' w' ho' (hb.grown hg (Nat.le_trans hB hb.size) fun j hj => (hown.lt j hj).1) hg.size (fun p u hp hne => hg.cell hp (fun e => hne e.symm)) (fun g hlt hne he => ?_)
  rcases hat with h1 | h1
  · exact hne (h1 ▸ he)
  · rw [he] at h1
    injection h1 with h1
    omega
theorem append_rb {ops : Array Oper} {rest : List Oper} {o : Oper} {a : Act} {Q : Exit → Act → World → Prop} (hgd : o.guard = none) (s x : Operand)
    (ho : o.op = .call { callee := .builtin .append, args := #[s, x], argTypes := #[39, 39] })
    {B B2 : Nat} {w0 wr : World} {v : Value} {P L : List UInt8} {A : Option Addr} {n m c k : Nat} (hs : a.eval s = v) (hown : wr.ownsRow B 5 1 v n (cells P)) (hb : Below B w0 wr) (hB : B ≤ w0.heap.size)
    (hx : a.eval x = .slice A m c) (hr : RB wr B2 A L) (hm : m = L.length) (hlen : n + m ≤ 1048576) (hk : n + m = k)
    (h : ∀ A' c' w1, w1.ownsRow B 5 1 (.slice A' k c') k (cells (P ++ L)) → Below B w0 w1 → wpList Tryz.prog ops Q rest (a.put o.dst (.slice A' k c')) w1) :
    wpList Tryz.prog ops Q (o :: rest) a wr := append_far hgd s x ho hs hown hb hB hx hr hm hlen hk fun A' c' w1 h1 h2 _ _ _ => h A' c' w1 h1 h2
theorem make_zeros {ops : Array Oper} {rest : List Oper} {o : Oper} {a : Act} {Q : Exit → Act → World → Prop} (hgd : o.guard = none) (n : Nat) (l c : Operand) (ho : o.op = .makeSlice 39 l c) (hl : a.eval l = .int .i64 (n : Int)) (hc : a.eval c = .int .i64 (n : Int)) (hn : n ≤ 1048576) {wr : World}
    (h : ∀ w1, RB w1 w1.heap.size (some ⟨wr.heap.size, 0, none⟩) (List.replicate n 0) → Below wr.heap.size wr w1 → wr.heap.size < w1.heap.size → wpList Tryz.prog ops Q rest (a.put o.dst (.slice (some ⟨wr.heap.size, 0, none⟩) n n)) w1) :
    wpList Tryz.prog ops Q (o :: rest) a wr := by
  obtain ⟨i0, hi0, hz0, hz1, hz2⟩ := info_parts Tryz.info5
  refine wpList_make_full _ hgd l c 39 ho wr.heap.size 5 i0 _ 1 Tryz.underlying39 hi0 hz0 hz1 .i64 .i64 _ _ n hl hc rfl rfl (by have : i0.bytes = 1 := hz2; rw [this]; omega) (by unfold maxLen; omega) (Nat.le_refl _) fun w1 hown hg => ?_
  exact h w1 (made_rb hown) ((Below.refl _ _).grown hg (Nat.le_refl _) (by simp)) (World.ownsRow.lt hown wr.heap.size rfl).2
end
section
namespace Wal
def padN (n : Nat) : Nat := (256 - n % 256) % 256
theorem pad_lt (n : Nat) : padN n < 256 := by unfold padN; omega
def allW (b x : List UInt8) : List UInt8 := b ++ (x ++ List.replicate (padN (b.length + x.length)) 0)
def blkW (all : List UInt8) (k : Nat) : List UInt8 := (all.drop (256 * k)).take 256
def secL (all : List UInt8) (j : Nat) : List UInt8 := (all.drop (64 * j)).take 64
theorem all_length (b x : List UInt8) : (allW b x).length = b.length + x.length + padN (b.length + x.length) := by
  unfold allW
  rw [List.length_append, List.length_append, List.length_replicate]
  omega
def recBytes (at_ : Nat) (e : Int) (t : List UInt8) : List UInt8 := (List.range (needN t.length)).flatMap fun i => (partW at_ e t i).bytes
theorem flat64 (f : Nat → List UInt8) : ∀ n, (∀ i, i < n → (f i).length = 64) → ((List.range n).flatMap f).length = 64 * n ∧ ∀ i, i < n → secL ((List.range n).flatMap f) i = f i
  | 0, _ => ⟨rfl, fun i hi => by omega⟩
  | n + 1, h => by
    obtain ⟨h1, h2⟩ := flat64 f n fun i hi => h i (by omega)
    rw [List.range_succ, List.flatMap_append]
    simp only [List.flatMap_cons, List.flatMap_nil, List.append_nil]
    refine ⟨by rw [List.length_append, h1, h n (by omega)]; omega, fun i hi => ?_⟩
    by_cases hin : i < n
    · rw [← h2 i hin]
      unfold secL
      rw [List.drop_append_of_le_length (by omega), List.take_append_of_le_length (by rw [List.length_drop]; omega)]
    · obtain rfl : i = n := by omega
      unfold secL
      rw [← h1, List.drop_left]
      exact List.take_of_length_le (by rw [h i (by omega)]; exact Nat.le_refl _)
theorem part_data (at_ : Nat) (e : Int) (t : List UInt8) (i : Nat) : (partW at_ e t i).data.length ≤ 48 := by
  show ((t.drop (48 * i)).take 48).length ≤ 48
  rw [List.length_take]
  omega
theorem rec_bytes (at_ : Nat) (e : Int) (t : List UInt8) : (recBytes at_ e t).length = 64 * needN t.length ∧ ∀ i, i < needN t.length → secL (recBytes at_ e t) i = (partW at_ e t i).bytes :=
  flat64 _ _ fun i _ => Sd.bytes_length _ (part_data at_ e t i)
end Wal
end
section
open Go.RowKit
def InI (i : Int) : Prop := -9223372036854775808 ≤ i ∧ i ≤ 9223372036854775807
def Arr (w : World) (a : Nat) (L : List UInt8) : Prop := ∃ spare : List Value, Blk w a 5 (cells L ++ spare).toArray
section
variable {w w' : World} {a : Nat} {L : List UInt8} {F F' : Nat → Prop}
theorem Arr.lt (h : Arr w a L) : a < w.heap.size := by obtain ⟨s, h⟩ := h; exact h.lt
theorem Arr.turns (h : Arr w a L) (ht : Turns w w' F F') (hn : ¬ F a) : Arr w' a L := by obtain ⟨s, h⟩ := h; exact ⟨s, h.turns ht hn⟩
theorem Arr.set_far (h : Arr w a L) {p : Addr} (hp : a ≠ p.block) (u : Value) : Arr (w.setCell p u) a L := by obtain ⟨s, h⟩ := h; exact ⟨s, h.far hp u⟩
theorem Arr.cell (h : Arr w a L) {k : Nat} (hk : k < L.length) : w.cell? ⟨a, k, none⟩ = some (.int .u8 (L[k].toNat : Int)) := by
  obtain ⟨s, h⟩ := h
  rw [h.cell k]
  simp only [List.getElem?_toArray]
  rw [List.getElem?_append_left (by rw [cells_length]; exact hk), cells_get L k hk]
theorem Arr.rb (h : Arr w a L) (off n : Nat) (hn : off + n ≤ L.length) : RB w w.heap.size (some ⟨a, off, none⟩) ((L.drop off).take n) := by
  refine ⟨by simp [cells_length], fun h0 => ⟨_, rfl, h.lt, fun j u hu => ?_⟩⟩
  have e : (⟨a, off, none⟩ : Addr).add j = ⟨a, off + j, none⟩ := by unfold Addr.add; split <;> simp_all
  have hj : j < ((L.drop off).take n).length := by have := (List.getElem?_eq_some_iff.1 hu).1; rwa [cells_length] at this
  rw [List.length_take, List.length_drop] at hj
  rw [e, h.cell (k := off + j) (by omega), ← hu, cells_get _ _ (by rw [List.length_take, List.length_drop]; exact hj)]
  simp
theorem Arr.all (h : Arr w a L) : RB w w.heap.size (some ⟨a, 0, none⟩) L := by
  have := h.rb 0 L.length (by omega)
  simpa using this
theorem own_arr {base c : Nat} {A : Option Addr} (h : Own w base A L c) (h0 : 0 < L.length) : ∃ a, A = some ⟨a, 0, none⟩ ∧ Arr w a L ∧ L.length ≤ c ∧ c ≤ 9223372036854775807 ∧ base ≤ a := by
  have hc := own_cap h
  have hl := own_le h
  rcases h.2 with ⟨h', h1⟩ | ⟨g, cap, cur, h', hb, hg, hn, hm, hs, ht⟩
  · omega
  · simp only [Value.slice.injEq] at h'
    obtain ⟨rfl, _, rfl⟩ := h'
    refine ⟨g, rfl, ⟨cur.toList.drop L.length, ?_⟩, hl, hc, hb⟩
    have e : (cells L ++ cur.toList.drop L.length).toArray = cur := by
      apply Array.toList_inj.1
      rw [← ht, Nat.mul_one]
      simp
    rw [e]; exact hg
theorem splice_cells (L X : List UInt8) (s : List Value) (off : Nat) (h : off + X.length ≤ L.length) : splice (cells L ++ s) off (cells X) = cells (splice L off X) ++ s := by
  unfold splice
  rw [List.take_append_of_le_length (by rw [cells_length]; omega), List.drop_append_of_le_length (by rw [cells_length, cells_length]; omega), cells_length, cells_take, cells_drop, cells_append, cells_append]
  simp [List.append_assoc]
end
def waitCells (l : List (Nat × List UInt8)) : List Value := l.flatMap fun x => .int .i64 (x.1 : Int) :: cells x.2
theorem waitCells_append (l m : List (Nat × List UInt8)) : waitCells (l ++ m) = waitCells l ++ waitCells m := by simp [waitCells]
theorem waitCells_length (l : List (Nat × List UInt8)) (h : ∀ x ∈ l, x.2.length = 256) : (waitCells l).length = l.length * 257 := by
  induction l with
  | nil => rfl
  | cons x l ih =>
    have h1 : waitCells (x :: l) = (.int .i64 (x.1 : Int) :: cells x.2) ++ waitCells l := by simp [waitCells]
    rw [h1, List.length_append, ih (fun y hy => h y (List.mem_cons_of_mem _ hy)), List.length_cons, cells_length, h x (List.mem_cons_self ..), List.length_cons]
    omega
theorem waitCells_get (l : List (Nat × List UInt8)) (h : ∀ x ∈ l, x.2.length = 256) (i : Nat) (hi : i < l.length) (j : Nat) (hj : j < 257) : (waitCells l)[i * 257 + j]? = (Value.int .i64 ((l[i]).1 : Int) :: cells (l[i]).2)[j]? := by
  induction l generalizing i with
  | nil => simp at hi
  | cons x l ih =>
    have h1 : waitCells (x :: l) = (.int .i64 (x.1 : Int) :: cells x.2) ++ waitCells l := by simp [waitCells]
    have hx : (Value.int .i64 (x.1 : Int) :: cells x.2).length = 257 := by rw [List.length_cons, cells_length, h x (List.mem_cons_self ..)]
    rw [h1]
    match i with
    | 0 => rw [List.getElem?_append_left (by rw [hx]; omega)]; simp
    | i + 1 =>
      rw [List.getElem?_append_right (by rw [hx]; omega), hx, show (i + 1) * 257 + j - 257 = i * 257 + j by omega, ih (fun y hy => h y (List.mem_cons_of_mem _ hy)) i (by simpa using hi)]
      simp
def Dk.load (d : Dk) : Nat := d.reads + d.writes + d.flushes + d.waits.length
structure Dk.good (d : Dk) : Prop where
  fit : d.fit
  few : 16 ≤ d.safe.length
  many : d.safe.length ≤ 1024
  left : -1 ≤ d.left ∧ d.left ≤ 9223372036854775807
def diskCells (a ca b cb n : Nat) (V : Value) (ends : Bool) (lf : Int) (d : Dk) : Array Value :=
  #[.slice (some ⟨a, 0, none⟩) n ca, .slice (some ⟨b, 0, none⟩) n cb, V, .bool d.off, .bool ends, .int .i64 lf, .int .i64 (d.reads : Int), .int .i64 (d.writes : Int), .int .i64 (d.flushes : Int)]
structure PD (w : World) (g : Nat) (F : Nat → Prop) (d : Dk) (a ca b cb n : Nat) (V : Value) (ends : Bool) (lf : Int) : Prop where
  blk : Blk w g 94 (diskCells a ca b cb n V ends lf d)
  size : n = 256 * d.safe.length
  capa : n ≤ ca ∧ ca ≤ 9223372036854775807
  capb : n ≤ cb ∧ cb ≤ 9223372036854775807
  safe : Arr w a d.safe.flatten
  last : Arr w b d.image
  wait : w.ownsRow 0 99 257 V d.waits.length (waitCells d.waits)
  ab : a ≠ b
  fg : F g
  fa : F a
  fb : F b
  fv : ∀ k, V.ownBlock = some k → F k
  flt : ∀ k, F k → k < w.heap.size
  good : d.good
  ends_ : d.off = false → ends = decide (0 ≤ d.left)
  left_ : d.off = false → 0 ≤ d.left → lf = d.left
def PDisk (w : World) (g : Nat) (F : Nat → Prop) (d : Dk) : Prop := ∃ a ca b cb n V ends lf, PD w g F d a ca b cb n V ends lf
section
variable {w w' : World} {g : Nat} {F F' : Nat → Prop} {d : Dk} {a ca b cb n : Nat} {V : Value} {ends : Bool} {lf : Int}
theorem PD.ne (h : PD w g F d a ca b cb n V ends lf) : g ≠ a ∧ g ≠ b ∧ V.ownBlock ≠ some g ∧ V.ownBlock ≠ some a ∧ V.ownBlock ≠ some b := by
  obtain ⟨s1, h1⟩ := h.safe
  obtain ⟨s2, h2⟩ := h.last
  exact ⟨h.blk.ne_ h1 (by decide), h.blk.ne_ h2 (by decide), own_blk_ne h.wait h.blk (by decide), own_blk_ne h.wait h1 (by decide), own_blk_ne h.wait h2 (by decide)⟩
theorem PD.turns {E E' : Nat → Prop} (h : PD w g F d a ca b cb n V ends lf) (ht : Turns w w' E E') (hn : ∀ k, F k → ¬ E k) : PD w' g F d a ca b cb n V ends lf :=
  ⟨h.blk.turns ht (hn g h.fg), h.size, h.capa, h.capb, h.safe.turns ht (hn a h.fa), h.last.turns ht (hn b h.fb), own_turns h.wait ht (fun k hk => hn k (h.fv k hk)), h.ab, h.fg, h.fa, h.fb, h.fv,
   fun k hk => Nat.lt_of_lt_of_le (h.flt k hk) ht.size, h.good, h.ends_, h.left_⟩
theorem PDisk.turns {E E' : Nat → Prop} (h : PDisk w g F d) (ht : Turns w w' E E') (hn : ∀ k, F k → ¬ E k) : PDisk w' g F d := by
  obtain ⟨a, ca, b, cb, n, V, ends, lf, h⟩ := h
  exact ⟨a, ca, b, cb, n, V, ends, lf, h.turns ht hn⟩
theorem PDisk.below (h : PDisk w g F d) (hb : Below w.heap.size w w') : PDisk w' g F d := by
  have ht := Turns.of_below hb (fun _ => False)
  exact h.turns ht (fun _ _ h => h)
theorem PDisk.flt (h : PDisk w g F d) : ∀ k, F k → k < w.heap.size := by
  obtain ⟨a, ca, b, cb, n, V, ends, lf, h⟩ := h
  exact h.flt
theorem PDisk.good (h : PDisk w g F d) : d.good := by
  obtain ⟨a, ca, b, cb, n, V, ends, lf, h⟩ := h
  exact h.good
theorem PD.len (h : PD w g F d a ca b cb n V ends lf) : d.safe.flatten.length = n := by
  rw [h.size, List.length_flatten]
  have : ∀ l : List (List UInt8), (∀ b ∈ l, b.length = 256) → (l.map List.length).sum = 256 * l.length := by
    intro l
    induction l with
    | nil => intro _; rfl
    | cons x l ih => intro hx; rw [List.map_cons, List.sum_cons, ih (fun y hy => hx y (List.mem_cons_of_mem _ hy)), hx x (List.mem_cons_self ..), List.length_cons]; omega
  exact this _ h.good.fit.1
end
end
section
open Go.RowKit
theorem sa_all (a off : Nat) (W : World) : (Instr.sliceAt 97 (.pointer (some ⟨a, off, none⟩)) none none none).run Tryz.prog W = .ok (.slice (some ⟨a, off, none⟩) 256 256) W := by
  have hu : Tryz.prog.underlying 97 = some (.array (Tryz.prog.arrayLen 97) (Tryz.prog.elem 97)) := by kernel_rfl
  have he : Tryz.prog.elem 97 = 5 := by kernel_rfl
  have hl : Tryz.prog.arrayLen 97 = 256 := by kernel_rfl
  have hsz : (sizeOf 5).run Tryz.prog W = .ok 1 W := by kernel_rfl
  rw [run_sliceAt_array_all _ _ _ hu, he, hsz, hl]
  simp only [Result.andThen_ok, slicedAt]
  rw [if_neg (by omega)]
  simp only [Nat.zero_mul, add_at, Nat.add_zero, Nat.sub_zero]
theorem sa_from (a off s : Nat) (i : Int) (hi : i = (s : Int)) (h1 : s < 256) (W : World) : (Instr.sliceAt 97 (.pointer (some ⟨a, off, none⟩)) (some (.int .i64 i)) none none).run Tryz.prog W = .ok (.slice (some ⟨a, off + s, none⟩) (256 - s) (256 - s)) W := by
  subst hi
  have hu : Tryz.prog.underlying 97 = some (.array (Tryz.prog.arrayLen 97) (Tryz.prog.elem 97)) := by kernel_rfl
  have he : Tryz.prog.elem 97 = 5 := by kernel_rfl
  have hl : Tryz.prog.arrayLen 97 = 256 := by kernel_rfl
  have hsz : (sizeOf 5).run Tryz.prog W = .ok 1 W := by kernel_rfl
  have e : (s : Int).toNat = s := by omega
  rw [run_sliceAt_array_l _ _ _ hu .i64 (s : Int) (by omega) (by rw [hl]; omega), he, hsz, hl]
  simp only [Result.andThen_ok, slicedAt, e]
  rw [if_neg (by omega)]
  simp only [Nat.mul_one, add_at]
end
section
open Go.RowKit
section
variable {P : Program} {w : World} {ops : Array Oper} {o : Oper} {a : Act} {Q : Exit → Act → World → Prop}
theorem wp_copy_foot {K : Act → World → Prop} (d s : Operand) (dT sT : TypeId)
    (ho : o.op = .call { callee := .builtin .copy, args := #[d, s], argTypes := #[dT, sT] }) (elem : TypeId) (hu : P.underlying dT = some (.slice elem)) (hsz : (P.info? elem).map (·.size) = some 1)
    (dp sp : Option Addr) (dLen dCap sLen sCap : Nat) (hd : a.eval d = .slice dp dLen dCap) (hs : a.eval s = .slice sp sLen sCap)
    (g off : Nat) (cur : List Value) (t : TypeId) (hg : Blk w g t cur.toArray) (cs : List Value) (hn : cs.length = Nat.min sLen dLen)
    (hpos : 0 < cs.length → dp = some ⟨g, off, none⟩ ∧ ∃ ad, sp = some ad ∧ ∀ j v, cs[j]? = some v → w.cell? (ad.add j) = some v)
    (hfit : off + cs.length ≤ cur.length) (h1 : ∀ v ∈ cs, v.oneCell' = true)
    (h : ∀ w', Hid (Blk w' g t (splice cur off cs).toArray) → Hid (Turns w w' (fun k => k = g) (fun k => k = g)) → K (a.put o.dst (goInt cs.length)) w') : o.wp P a w K Q := by
  by_cases h0 : cs.length = 0
  · obtain rfl : cs = [] := List.eq_nil_of_length_eq_zero h0
    have hrun := run_copy_none (P := P) w dT sT o.type elem dp sp dLen dCap sLen sCap hu hsz (by simpa using hn.symm)
    unfold Oper.wp
    simp [execOp, ho, resolve, invoke, builtin, hd, hs, hrun, Result.andThen]
    have hk : Blk w g t (splice cur off ([] : List Value)).toArray := by
      have e : splice cur off ([] : List Value) = cur := by simp [splice]
      rw [e]; exact hg
    exact h w hk (Turns.refl _ _)
  · obtain ⟨rfl, ad, rfl, hsrc⟩ := hpos (by omega)
    have hrun := run_copy_row (P := P) w dT sT o.type elem g off dLen dCap ad sLen sCap cur.toArray t cs hu hsz hg hn hsrc (by simpa using hfit) h1
    unfold Oper.wp
    simp [execOp, ho, resolve, invoke, builtin, hd, hs, hrun, Result.andThen]
    exact h _ (show _ = _ by simpa [splice] using setRow_heap w g _ _ t _ hg) (Turns.row (F := fun k => k = g) rfl _)
theorem wpList_copy_foot {rest : List Oper} (hgd : o.guard = none) (d s : Operand) (dT sT : TypeId)
    (ho : o.op = .call { callee := .builtin .copy, args := #[d, s], argTypes := #[dT, sT] }) (elem : TypeId) (hu : P.underlying dT = some (.slice elem)) (hsz : (P.info? elem).map (·.size) = some 1)
    (dp sp : Option Addr) (dLen dCap sLen sCap : Nat) (hd : a.eval d = .slice dp dLen dCap) (hs : a.eval s = .slice sp sLen sCap)
    (g off : Nat) (cur : List Value) (t : TypeId) (hg : Blk w g t cur.toArray) (cs : List Value) (hn : cs.length = Nat.min sLen dLen)
    (hpos : 0 < cs.length → dp = some ⟨g, off, none⟩ ∧ ∃ ad, sp = some ad ∧ ∀ j v, cs[j]? = some v → w.cell? (ad.add j) = some v)
    (hfit : off + cs.length ≤ cur.length) (h1 : ∀ v ∈ cs, v.oneCell' = true)
    (h : ∀ w', Hid (Blk w' g t (splice cur off cs).toArray) → Hid (Turns w w' (fun k => k = g) (fun k => k = g)) → wpList P ops Q rest (a.put o.dst (goInt cs.length)) w') : wpList P ops Q (o :: rest) a w :=
  wpList_plain hgd fun K hK => wp_copy_foot d s dT sT ho elem hu hsz dp sp dLen dCap sLen sCap hd hs g off cur t hg cs hn hpos hfit h1 fun w' h2 h3 => hK _ _ (h w' h2 h3)
theorem step_copy_foot {K : Act → World → Prop} {E : Prop} (hgd : o.guard = none) (d s : Operand) (dT sT : TypeId)
    (ho : o.op = .call { callee := .builtin .copy, args := #[d, s], argTypes := #[dT, sT] }) (elem : TypeId) (hu : P.underlying dT = some (.slice elem)) (hsz : (P.info? elem).map (·.size) = some 1)
    (dp sp : Option Addr) (dLen dCap sLen sCap : Nat) (hd : a.eval d = .slice dp dLen dCap) (hs : a.eval s = .slice sp sLen sCap)
    (g off : Nat) (cur : List Value) (t : TypeId) (hg : Blk w g t cur.toArray) (cs : List Value) (hn : cs.length = Nat.min sLen dLen)
    (hpos : 0 < cs.length → dp = some ⟨g, off, none⟩ ∧ ∃ ad, sp = some ad ∧ ∀ j v, cs[j]? = some v → w.cell? (ad.add j) = some v)
    (hfit : off + cs.length ≤ cur.length) (h1 : ∀ v ∈ cs, v.oneCell' = true)
    (h : ∀ w', Hid (Blk w' g t (splice cur off cs).toArray) → Hid (Turns w w' (fun k => k = g) (fun k => k = g)) → K (a.put o.dst (goInt cs.length)) w') : if Region.wanted o (yielded ops a.tmps) = true then Oper.wp P o a w K Q else E := by
  have hw : Region.wanted o (yielded ops a.tmps) = true := by simp [Region.wanted, hgd]
  rw [if_pos hw]
  exact wp_copy_foot d s dT sT ho elem hu hsz dp sp dLen dCap sLen sCap hd hs g off cur t hg cs hn hpos hfit h1 h
end
end
section
open Go.RowKit
abbrev St := Option (List UInt8)
def stepTake (n : Int) : St → St × List UInt8
  | none => (none, [])
  | some L => if n < 0 ∨ (L.length : Int) < n then (none, []) else (some (L.drop n.toNat), L.take n.toNat)
theorem cur_cut {w : World} {g : Nat} {A : Option Addr} {L : List UInt8} {c k : Nat} (HG : Hid (w.heap[g]? = some (.cells #[.slice A L.length c, .bool false] 143 (0, 0)))) (hr : RB w w.heap.size A L) (hc : L.length ≤ c) (hl : L.length ≤ 1048576)
    (hk : k ≤ L.length) (A' : Option Addr) (c' : Nat) (h1 : c = k → A' = A) (h2 : c ≠ k → A' = A.map (·.add k)) (hc' : c' = c - k) :
    Cur (w.setCell ⟨g, 0, none⟩ (.slice A' (L.length - k) c')) g (some (L.drop k)) := by
  subst hc'
  have hA : A' = if c = k then A else A.map (·.add (k * 1)) := by
    rw [Nat.mul_one]
    by_cases h : c = k
    · rw [if_pos h]; exact h1 h
    · rw [if_neg h]; exact h2 h
  have hz : ∀ u, (w.setCell ⟨g, 0, none⟩ u).heap.size = w.heap.size := fun u => by simp [World.setCell]
  refine ⟨A', c - k, ?_, ?_, by rw [List.length_drop]; omega, by rw [List.length_drop]; omega⟩
  · rw [List.length_drop]
    exact Blk.set_ HG.out 0 (.slice A' (L.length - k) (c - k))
  · rw [hz, hA]
    exact rb_far (rb_cut hr hk hc) HG.out (cur_cells _ _ _ _) _
def GivesCur (g : Nat) (r : St × List UInt8) (w : World) (e : Ending) (w' : World) : Prop :=
  ∃ A c, e = .returned (.slice A r.2.length c) ∧ RB w' w'.heap.size A r.2 ∧ Cur w' g r.1 ∧ Only w w' g
theorem take_any (g : Nat) (n : Int) (st : St) (w : World) (h : Cur w g st) :
    Calls Tryz.prog 88 #[.pointer (some ⟨g, 0, none⟩), .int .i64 n] w (GivesCur g (stepTake n st) w) := by
  have hb := bad_any g _ w h
  have hfl := fail_any g _ w h
  rcases st with _ | L
  · have h' := Lib.hid h
    clear h
    go_enter Tryz.func88, Tryz.ntmps88
    go_wp2_with (go_at_call 106; refine hb.mono ?_; rintro e w' ⟨rfl, rfl⟩)
    go_ret
    exact ⟨none, 0, rfl, RB.none_ _ _, h'.out, only_refl _ _⟩
  · obtain ⟨A, c, hg, hr, hc, hl⟩ := h
    have hc0 : w.cell? ⟨g, 0, none⟩ = some (.slice A L.length c) := (blk_cell hg 0).1
    have hf0 : w.frozen? ⟨g, 0, none⟩ = false := (blk_cell hg 0).2
    have HG := Lib.hid hg
    clear hg
    by_cases hn : n < 0 ∨ (L.length : Int) < n
    · have HS : Hid (stepTake n (some L) = (none, [])) := by show _ = _; simp only [stepTake]; rw [if_pos hn]
      rcases hn with hn | hn
      · have hd : decide (n < 0) = true := by simp [hn]
        go_enter Tryz.func88, Tryz.ntmps88
        go_wp2_with (first
          | (go_at_call 106; refine hb.mono ?_; rintro e w' ⟨rfl, rfl⟩)
          | (go_at_call 108; refine hfl.mono ?_; rintro e w' ⟨rfl, hcur, honly, hsz⟩))
        go_ret
        rw [HS.out]
        exact ⟨none, 0, rfl, RB.none_ _ _, hcur, honly⟩
      · have hd : decide (n < 0) = false := by simp; omega
        have hd2 : decide ((L.length : Int) < n) = true := by simp [hn]
        go_enter Tryz.func88, Tryz.ntmps88
        go_wp2_with (first
          | (go_at_call 106; refine hb.mono ?_; rintro e w' ⟨rfl, rfl⟩)
          | (go_at_call 108; refine hfl.mono ?_; rintro e w' ⟨rfl, hcur, honly, hsz⟩))
        go_ret
        rw [HS.out]
        exact ⟨none, 0, rfl, RB.none_ _ _, hcur, honly⟩
    · have hd : decide (n < 0) = false := by simp; omega
      have hd2 : decide ((L.length : Int) < n) = false := by simp; omega
      obtain ⟨k, rfl⟩ : ∃ k : Nat, n = (k : Int) := ⟨n.toNat, by omega⟩
      have hkl : k ≤ L.length := by omega
      have HS : Hid (stepTake (k : Int) (some L) = (some (L.drop k), L.take k)) := by show _ = _; simp only [stepTake]; rw [if_neg hn]; simp
      clear hn
      go_enter Tryz.func88, Tryz.ntmps88
      have hlt : g < w.heap.size := Blk.lt HG.out
      have HLK : Hid ((L.take k).length = k) := by show _ = _; rw [List.length_take]; omega
      have hrt : RB w w.heap.size A (L.take k) := by
        refine ⟨by rw [cells_length]; simp, fun h0 => ?_⟩
        obtain ⟨ad, e, hb', hcc⟩ := hr.2 (by rw [List.length_take] at h0; omega)
        refine ⟨ad, e, hb', fun j u hu => hcc j u ?_⟩
        rw [← cells_take, List.getElem?_take] at hu
        split at hu
        · exact hu
        · cases hu
      go_wp2_with (first
        | (go_at_call 106; refine hb.mono ?_; rintro e w' ⟨rfl, rfl⟩)
        | (go_at_call 107; refine (copied_any (L.take k) k _ _ _ (by rw [List.length_take]; omega) hrt (by rw [List.length_take]; omega)).mono ?_; rintro e w1 ⟨A1, c1, he1, hown1, hb1⟩; rw [HLK.out] at he1; subst he1; have hc1 := (hb1.cell (p := ⟨g, 0, none⟩) hlt).trans hc0; have hf1 := (hb1.frozen (p := ⟨g, 0, none⟩) hlt).trans hf0))
      all_goals
        have HG1 : Hid (w1.heap[g]? = some (.cells #[.slice A L.length c, .bool false] 143 (0, 0))) := Blk.below HG.out hb1 hlt
        have hr1 : RB w1 w1.heap.size A L := (hr.below hb1).more hb1.size
        have hcur := fun A' c' a b d => cur_cut HG1 hr1 hc hl hkl A' c' a b d
        have ho1 : RB w1 w1.heap.size A1 (L.take k) := own_rb hown1
        go_ret
        rw [HS.out]
        refine ⟨A1, c1, by show _ = Ending.returned (.slice A1 (L.take k).length c1); rw [HLK.out]; rfl, ?_, hcur _ _ (fun hx => by first | rfl | (exact absurd hx (by assumption))) (fun hx => by first | rfl | (exact absurd (by assumption) hx)) (by omega), only_trans (only_below hb1 g) (only_set _ _ _ _)⟩
        have hz : ∀ u, (w1.setCell ⟨g, 0, none⟩ u).heap.size = w1.heap.size := fun u => by simp [World.setCell]
        rw [hz]
        exact rb_far ho1 HG1.out (cur_cells _ _ _ _) _
end
end Go.Proofs.YtghenhacndaelaaGreat
