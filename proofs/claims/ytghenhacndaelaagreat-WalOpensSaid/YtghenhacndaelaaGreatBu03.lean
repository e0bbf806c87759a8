/- Lemmas under the proofs of this place: Mem, Nots, Foot, JoinM, DiskMore, Drawn. No statement is proved here. -/
import Derived.Test.YtghenhacndaelaaGreatBu01
import Derived.Test.YtghenhacndaelaaGreatRows
import Derived.Test.YtghenhacndaelaaGreatBu00
import Derived.WalkKit
import Derived.WalkSpells
import Derived.WalkLawsBesides
import Derived.Lib.Hide
import Derived.Laws.CopyOwn
import Derived.Still
import Derived.Lib.Index
import Derived.Deep.RegionWith
set_option linter.unusedSimpArgs false
set_option linter.unusedVariables false
namespace Go.Proofs.YtghenhacndaelaaGreat
section
open Go.RowKit
theorem Tryz.info5 : (Tryz.prog.info? 5).map (fun i => (i.zero, i.size, i.bytes)) = some (some (.int .u8 0), 1, 1) := by kernel_rfl
def Own (w : World) (base : Nat) (A : Option Addr) (L : List UInt8) (c : Nat) : Prop := w.ownsRow base 5 1 (.slice A L.length c) L.length (cells L)
def GivesBytes (L : List UInt8) (w : World) (e : Ending) (w' : World) : Prop :=
  ∃ A c, e = .returned (.tuple #[.slice A L.length c, .int .i64 0]) ∧ Own w' w.heap.size A L c ∧ Below w.heap.size w w'
theorem own_form {w : World} {base : Nat} {v : Value} {n : Nat} {xs : List Value} (h : w.ownsRow base 5 1 v n xs) : ∃ A c, v = .slice A n c := by
  rcases h.2 with ⟨rfl, rfl⟩ | ⟨g, cap, cur, rfl, _⟩
  · exact ⟨none, 0, rfl⟩
  · exact ⟨_, _, rfl⟩
theorem append_byte {ops : Array Oper} {rest : List Oper} {o : Oper} {a : Act} {Q : Exit → Act → World → Prop} (hgd : o.guard = none) (s x : Operand)
    (ho : o.op = .call { callee := .builtin .append, args := #[s, x], argTypes := #[39, 39] })
    {B : Nat} {w0 wr : World} {v : Value} {P : List UInt8} {z : Int} (b : UInt8) (hs : a.eval s = v) (hown : wr.ownsRow B 5 1 v P.length (cells P)) (hb : Below B w0 wr) (hB : B ≤ w0.heap.size)
    (hz : z = (b.toNat : Int)) (hx : a.eval x = .slice (some ⟨wr.heap.size, 0, none⟩) 1 1) (hlen : P.length + 1 ≤ 1048576)
    (h : ∀ v' w1, w1.ownsRow B 5 1 v' (P ++ [b]).length (cells (P ++ [b])) → Below B w0 w1 → wpList Tryz.prog ops Q rest (a.put o.dst v') w1) :
    wpList Tryz.prog ops Q (o :: rest) a (wr.alloc (.cells #[.int .u8 z] 5)) := by
  obtain ⟨i0, hi0, hz0, hz1, hz2⟩ := info_parts Tryz.info5
  subst hz
  refine wpList_append_own _ hgd s x 39 ho B 5 i0 _ 1 1 Tryz.underlying39 hi0 hz0 hz1 hz2 rfl (by decide) v P.length (cells P) hs (hown.alloc _) ⟨wr.heap.size, 0, none⟩ 1 1 (cells [b]) hx rfl (cell_one_new _ _ _) (cells_one _)
    (by unfold maxLen; omega) (by omega) (by have := hb.size; simp; omega) ?_
  intro v' w1 hown' hgrow _
  have e : (P ++ [b]).length = P.length + 1 := by simp
  refine h v' w1 (by rw [e, cells_append]; exact hown') ?_
  exact ((hb.alloc (Nat.le_trans hB hb.size) _)).grown hgrow (by have := hb.size; simp; omega) (fun k hk => (hown.lt k hk).1)
theorem or_shl (acc y e : Nat) (ha : acc < 2 ^ e) (hf : acc + y * 2 ^ e < 18446744073709551616) :
    bits .or .u64 (acc : Int) (IntKind.u64.wrap ((y : Int) * 2 ^ e)) = ((acc + y * 2 ^ e : Nat) : Int) := by
  have h1 : IntKind.u64.wrap ((y : Int) * 2 ^ e) = ((y * 2 ^ e : Nat) : Int) := by
    rw [IntKind.wrap_u64]
    have hc : ((y : Int) * 2 ^ e) = ((y * 2 ^ e : Nat) : Int) := by simp
    rw [hc]
    exact Int.emod_eq_of_lt (by omega) (by omega)
  rw [h1, u64_or_nat _ _ (by omega) (by omega)]
  have h2 := Nat.two_pow_add_eq_or_of_lt ha y
  rw [Nat.or_comm, Nat.mul_comm y, ← h2, Nat.add_comm]
theorem pow_256 (k : Nat) : (256 : Nat) ^ k = 2 ^ (8 * k) := by rw [Nat.pow_mul]
theorem run_str {P : Program} {w : World} {B : Nat} {A : Option Addr} {L : List UInt8} (src e dst : TypeId) (hs : P.underlying src = some (.slice e)) (he : P.underlying e = some (.int .u8)) (hd : P.underlying dst = some .string)
    (h : RB w B A L) (n c : Nat) (hn : n = L.length) : (convert src dst (.slice A n c)).run P w = .ok (.string (text L)) w := by
  subst hn
  rcases A with _ | ad
  · have hL : L = [] := by
      rcases L with _ | ⟨x, L⟩
      · rfl
      · obtain ⟨ad, h, _⟩ := h.2 (by simp)
        cases h
    subst hL
    exact run_convert_bytes_nil w src e hs he 0 c dst hd
  · have hl : (loadCells ad L.length).run P w = .ok ((L.map fun b => (b.toNat : Int)).map (Value.int .u8)).toArray w := by
      have := run_loadCells_list (P := P) w ad (cells L) (fun j v hj => by
        rcases Nat.eq_zero_or_pos L.length with h0 | h0
        · have hL : L = [] := List.eq_nil_of_length_eq_zero h0
          subst hL; simp [cells] at hj
        · obtain ⟨ad', h1, _, hc⟩ := h.2 h0
          injection h1 with h1
          subst h1
          exact hc j v hj)
      have e : (L.map fun b => (b.toNat : Int)).map (Value.int .u8) = cells L := by simp [cells]
      rw [e]
      simpa [cells_length] using this
    rw [run_convert_bytes_string w src dst e _ _ c hs he hd, run_bytesToString w ad _ c _ hl, foldl_push_bytes]
    have e2 : (L.map fun b => (b.toNat : Int)).map (fun n => UInt8.ofNat n.toNat) = L := by
      rw [List.map_map]
      conv => rhs; rw [← List.map_id L]
      apply List.map_congr_left
      intro b _
      simp
    rw [e2]
    simp [text, ByteArray.empty, ByteArray.emptyWithCapacity]
    rfl
theorem own_rb {w : World} {base : Nat} {A : Option Addr} {L : List UInt8} {c : Nat} (h : Own w base A L c) : RB w w.heap.size A L := Reads.of_own h
def GivesOne (L : List UInt8) (w : World) (e : Ending) (w' : World) : Prop :=
  ∃ A c, e = .returned (.slice A L.length c) ∧ Own w' w.heap.size A L c ∧ Below w.heap.size w w'
theorem own_block {w : World} {base g n cap : Nat} {xs : List Value} (h : w.ownsRow base 5 1 (.slice (some ⟨g, 0, none⟩) n n) n xs) : w.heap[g]? = some (.cells xs.toArray 5 (0, 0)) := by
  rcases h.2 with ⟨h', _⟩ | ⟨g', cap', cur, h', hb, hg, hnc, hcm, hcs, htake⟩
  · simp at h'
  · simp only [Value.slice.injEq, Option.some.injEq, Addr.mk.injEq, and_true, true_and] at h'
    obtain ⟨rfl, rfl⟩ := h'
    have : cur = xs.toArray := by
      apply Array.toList_inj.1
      rw [← htake, List.take_of_length_le (by simp [hcs])]
    rw [← this]; exact hg
theorem block_own {w : World} {base g : Nat} {L : List UInt8} (h : w.heap[g]? = some (.cells (cells L).toArray 5 (0, 0))) (hb : base ≤ g) (hl : L.length ≤ 1048576) : Own w base (some ⟨g, 0, none⟩) L L.length :=
  ⟨by simp [cells_length], .inr ⟨g, L.length, _, rfl, hb, h, Nat.le_refl _, by unfold maxLen; omega, by simp [cells_length], by simp [cells_length]; exact List.take_of_length_le (by rw [cells_length]; omega)⟩⟩
theorem Tryz.size5 : (Tryz.prog.info? 5).map (·.size) = some 1 := by kernel_rfl
theorem made_block {w w1 : World} {n : Nat} (hown : w1.ownsRow w.heap.size 5 1 (.slice (some ⟨w.heap.size, 0, none⟩) n n) n (madeCells (Value.int .u8 0).cells (n * 1)).toList) : w1.heap[w.heap.size]? = some (.cells (List.replicate n (.int .u8 0)).toArray 5 (0, 0)) := by
  have h := own_block (cap := 0) hown
  rwa [Nat.mul_one, show (Value.int IntKind.u8 0).cells = #[Value.int IntKind.u8 0] from rfl, toList_madeCells_one] at h
theorem rb_src {w : World} {B : Nat} {A : Option Addr} {L : List UInt8} (h : RB w B A L) (x : Addr) :
    0 < (cells L).length → some x = some x ∧ ∃ ad, A = some ad ∧ ∀ j v, (cells L)[j]? = some v → w.cell? (ad.add j) = some v := by
  intro h0
  rw [cells_length] at h0
  obtain ⟨ad, e, _, hc⟩ := h.2 h0
  exact ⟨rfl, ad, e, hc⟩
theorem splice_all {α : Type} (Z X : List α) (h : Z.length = X.length) : splice Z 0 X = X := by
  simp [splice]; omega
theorem own_le {w : World} {base : Nat} {A : Option Addr} {L : List UInt8} {c : Nat} (h : Own w base A L c) : L.length ≤ c := by
  rcases h.2 with ⟨h', h0⟩ | ⟨g, cap, cur, h', _, _, hn, _⟩
  · omega
  · simp only [Value.slice.injEq] at h'
    omega
theorem blk_cell {w : World} {g : Nat} {cs : Array Value} {t : TypeId} (h : w.heap[g]? = some (.cells cs t (0, 0))) (i : Nat) : w.cell? ⟨g, i, none⟩ = cs[i]? ∧ w.frozen? ⟨g, i, none⟩ = false := ⟨Blk.cell h i, Blk.frozen h i⟩
theorem rb_cut {w : World} {B : Nat} {A : Option Addr} {L : List UInt8} (h : RB w B A L) {k c : Nat} (hk : k ≤ L.length) (hc : L.length ≤ c) : RB w B (if c = k then A else A.map (·.add (k * 1))) (L.drop k) := by
  have h1 := Reads.cut h hk hc
  unfold RB
  rw [List.length_drop, ← cells_drop]
  simpa using h1
theorem rb_cut1 {w : World} {B : Nat} {A : Option Addr} {L : List UInt8} (h : RB w B A L) {k c : Nat} (hk : k ≤ L.length) (hc : L.length ≤ c) (hck : c ≠ k) : RB w B (A.map (fun x => x.add k)) (L.drop k) := by
  have h1 := rb_cut h hk hc
  rw [if_neg hck, Nat.mul_one] at h1
  exact h1
theorem rb_take {w : World} {B : Nat} {A : Option Addr} {L : List UInt8} (h : RB w B A L) (k : Nat) (hk : k ≤ L.length) : RB w B A (L.take k) := by
  refine ⟨by rw [cells_length]; simp, fun h0 => ?_⟩
  obtain ⟨ad, e, hb', hcc⟩ := h.2 (by rw [List.length_take] at h0; omega)
  refine ⟨ad, e, hb', fun j u hu => hcc j u ?_⟩
  rw [← cells_take, List.getElem?_take] at hu
  split at hu
  · exact hu
  · cases hu
theorem rb_new (w : World) (L : List UInt8) : RB (w.alloc (.cells (cells L).toArray 5)) (w.heap.size + 1) (some ⟨w.heap.size, 0, none⟩) L := by
  refine ⟨by simp [cells_length], fun h0 => ⟨_, rfl, by simp, fun j u hu => ?_⟩⟩
  have h := heap_alloc_new w (.cells (cells L).toArray 5)
  have e : (⟨w.heap.size, 0, none⟩ : Addr).add j = ⟨w.heap.size, j, none⟩ := by unfold Addr.add; split <;> simp_all
  rw [e, (blk_cell h j).1]
  simpa using hu
theorem rb_newm (w : World) (L : List UInt8) (fr : Nat × Nat) : RB (w.alloc (.cells (cells L).toArray 5 fr)) (w.heap.size + 1) (some ⟨w.heap.size, 0, none⟩) L := by
  refine ⟨by simp [cells_length], fun h0 => ⟨_, rfl, by simp, fun j u hu => ?_⟩⟩
  have e : (⟨w.heap.size, 0, none⟩ : Addr).add j = ⟨w.heap.size, j, none⟩ := by unfold Addr.add; split <;> simp_all
  rw [e, World.cell?_alloc_mark]
  simpa using hu
theorem aw_str {w : World} {A : Option Addr} {L : List UInt8} (h : RB w w.heap.size A L) (n c : Nat) (hn : n = L.length) : (convert 39 9 (.slice A n c)).run Tryz.prog w = .ok (.string ⟨L.toArray⟩) w :=
  run_str 39 5 9 Tryz.underlying39 Tryz.underlying5 Tryz.underlying9 h n c hn
theorem made_rb {w w1 : World} {n : Nat} (hown : w1.ownsRow w.heap.size 5 1 (.slice (some ⟨w.heap.size, 0, none⟩) n n) n (madeCells (Value.int .u8 0).cells (n * 1)).toList) : RB w1 w1.heap.size (some ⟨w.heap.size, 0, none⟩) (List.replicate n 0) := by
  have h := World.ownsRow.lt hown w.heap.size rfl
  have e : (madeCells (Value.int .u8 0).cells (n * 1)).toList = cells (List.replicate n 0) := by
    rw [Nat.mul_one, show (Value.int IntKind.u8 0).cells = #[Value.int IntKind.u8 0] from rfl, toList_madeCells_one]
    simp [cells]
  rw [e] at hown
  have h2 := Reads.of_own hown
  unfold RB
  rw [List.length_replicate]
  exact h2
theorem own_kept {w w' : World} {base n : Nat} {v : Value} {xs : List Value} (h : w.ownsRow base 5 1 v n xs) (hb : Below w.heap.size w w') : w'.ownsRow base 5 1 v n xs :=
  World.ownsRow.kept h (row := none) ⟨hb.os, hb.tape, hb.output, hb.size, fun i hi _ => hb.block i hi⟩ (Classical.em _)
theorem text_toList (L : List UInt8) : (text L).toList = L := by
  rw [Lib.toList_data]
  rfl
theorem text_eq (L M : List UInt8) : ((text L).toList == (text M).toList) = decide (L = M) := by
  rw [text_toList, text_toList, Bool.eq_iff_iff]
  simp
theorem rb_lt {w : World} {B : Nat} {A : Option Addr} {L : List UInt8} (h : RB w B A L) : RB w w.heap.size A L := by
  refine ⟨h.1, fun hn => ?_⟩
  obtain ⟨ad, e, hb, hc⟩ := h.2 hn
  refine ⟨ad, e, ?_, hc⟩
  have h0 := hc 0 _ (cells_get L 0 hn)
  have := World.block_lt_of_cell? w _ h0
  rwa [block_of_add] at this
theorem own_cap {w : World} {base : Nat} {A : Option Addr} {L : List UInt8} {c : Nat} (h : Own w base A L c) : c ≤ 9223372036854775807 := by
  rcases h.2 with ⟨h', h0⟩ | ⟨g, cap, cur, h', _, _, hn, hm, _⟩
  · simp only [Value.slice.injEq] at h'
    omega
  · simp only [Value.slice.injEq] at h'
    have hm' : cap ≤ 9223372036854775807 := hm
    omega
end
section
open Go.RowKit
theorem Tryz.notFalse (w : World) : Sem.run Tryz.prog (Op.unary UnOp.not (Value.bool false)) w = Result.ok (Value.bool true) w := rfl
theorem Tryz.notTrue (w : World) : Sem.run Tryz.prog (Op.unary UnOp.not (Value.bool true)) w = Result.ok (Value.bool false) w := rfl
end
section
open Go.RowKit
structure Turns (w w' : World) (F F' : Nat → Prop) : Prop where
  os : w'.os = w.os
  tape : w'.tape = w.tape
  output : w'.output = w.output
  size : w.heap.size ≤ w'.heap.size
  block : ∀ k, k < w.heap.size → ¬ F k → w'.heap[k]? = w.heap[k]?
  foot : ∀ k, F' k → F k ∨ w.heap.size ≤ k
section
variable {a b w w' : World} {F F' F'' : Nat → Prop}
theorem Turns.refl (w : World) (F : Nat → Prop) : Turns w w F F := ⟨rfl, rfl, rfl, Nat.le_refl _, fun _ _ _ => rfl, fun _ h => .inl h⟩
theorem Turns.trans {c : World} (h : Turns a b F F') (k : Turns b c F' F'') : Turns a c F F'' :=
  ⟨k.os.trans h.os, k.tape.trans h.tape, k.output.trans h.output, Nat.le_trans h.size k.size,
   fun i hi hn => (k.block i (Nat.lt_of_lt_of_le hi h.size) (fun hf => by rcases h.foot i hf with h1 | h1; exact hn h1; omega)).trans (h.block i hi hn),
   fun i hi => by
    rcases k.foot i hi with h1 | h1
    · exact h.foot i h1
    · exact .inr (Nat.le_trans h.size h1)⟩
theorem Turns.of_below (h : Below w.heap.size w w') (F : Nat → Prop) : Turns w w' F F := ⟨h.os, h.tape, h.output, h.size, fun k hk _ => h.block k hk, fun _ h => .inl h⟩
theorem Turns.below {B : Nat} (h : Turns w w' F F') (hF : ∀ k, F k → B ≤ k) (hB : B ≤ w.heap.size) : Below B w w' :=
  ⟨h.os, h.tape, h.output, h.size, fun k hk => h.block k (Nat.lt_of_lt_of_le hk hB) (fun hf => by have := hF k hf; omega)⟩
theorem Turns.set_ {g : Nat} (hg : F g) (i : Nat) (u : Value) : Turns w (w.setCell ⟨g, i, none⟩ u) F F :=
  ⟨rfl, rfl, rfl, by simp [World.setCell], fun k _ hk => heap_setCell_other w ⟨g, i, none⟩ k u (fun e => hk (by subst e; exact hg)), fun _ h => .inl h⟩
theorem Turns.row {g : Nat} (hg : F g) (cs : Array Value) : Turns w (w.setRow g cs) F F :=
  ⟨rfl, rfl, rfl, by simp [World.setRow], fun k _ hk => setRow_other w g k cs (fun e => hk (by subst e; exact hg)), fun _ h => .inl h⟩
theorem Turns.grown {row : Option Nat} (h : w.grownBy w' row) (hr : ∀ k, row = some k → F k) : Turns w w' F F :=
  ⟨h.os, h.tape, h.output, h.size, fun k hk hn => h.block k hk (fun e => hn (hr k e.symm)), fun _ h => .inl h⟩
theorem Turns.alloc (o : Obj) (F : Nat → Prop) : Turns w (w.alloc o) F F := Turns.of_below ((Below.refl _ _).alloc (Nat.le_refl _) o) F
theorem Turns.drew (F : Nat → Prop) : Turns w w.drew F F := Turns.of_below ((Below.refl _ _).drew) F
theorem Turns.of_drew (h : Turns w.drew w' F F') : Turns w w' F F' := ⟨h.os, h.tape, h.output, h.size, h.block, h.foot⟩
theorem Turns.foot_ (h : Turns w w' F F') (hf : ∀ k, F'' k → F' k ∨ w.heap.size ≤ k) : Turns w w' F F'' :=
  ⟨h.os, h.tape, h.output, h.size, h.block, fun k hk => by
    rcases hf k hk with h1 | h1
    · exact h.foot k h1
    · exact .inr h1⟩
theorem Turns.wide {E E' : Nat → Prop} (h : Turns w w' F F') (h1 : ∀ k, F k → E k) (h2 : ∀ k, E' k → E k ∨ F' k ∨ w.heap.size ≤ k) : Turns w w' E E' :=
  ⟨h.os, h.tape, h.output, h.size, fun k hk hn => h.block k hk (fun hf => hn (h1 k hf)), fun k hk => by
    rcases h2 k hk with h3 | h3 | h3
    · exact .inl h3
    · rcases h.foot k h3 with h4 | h4
      · exact .inl (h1 k h4)
      · exact .inr h4
    · exact .inr h3⟩
theorem Turns.cell {p : Addr} (h : Turns w w' F F') (hp : p.block < w.heap.size) (hn : ¬ F p.block) : w'.cell? p = w.cell? p := World.cell?_of_block (h.block _ hp hn)
theorem Turns.frozen {p : Addr} (h : Turns w w' F F') (hp : p.block < w.heap.size) (hn : ¬ F p.block) : w'.frozen? p = w.frozen? p := World.frozen?_of_block (h.block _ hp hn)
theorem Blk.turns {g : Nat} {t : TypeId} {cs : Array Value} (h : Blk w g t cs) (ht : Turns w w' F F') (hn : ¬ F g) : Blk w' g t cs := (ht.block g h.lt hn).trans h
theorem Reads.turns {B size n : Nat} {A : Option Addr} {xs : List Value} (h : Reads w B size A n xs) (hB : B ≤ w.heap.size) (ht : Turns w w' F F') (hn : ∀ ad, A = some ad → ¬ F ad.block) : Reads w' B size A n xs :=
  ⟨h.1, fun h0 => by
    obtain ⟨ad, e, hb, hc⟩ := h.2 h0
    refine ⟨ad, e, hb, fun j u hu => ?_⟩
    rw [ht.cell (p := ad.add j) (by rw [block_of_add]; omega) (by rw [block_of_add]; exact hn ad e)]
    exact hc j u hu⟩
theorem own_turns {base : Nat} {e : TypeId} {size n : Nat} {v : Value} {xs : List Value} (h : w.ownsRow base e size v n xs) (ht : Turns w w' F F') (hn : ∀ k, v.ownBlock = some k → ¬ F k) : w'.ownsRow base e size v n xs := by
  refine ⟨h.1, ?_⟩
  rcases h.2 with h1 | ⟨g, cap, cur, rfl, h2, h3, h4⟩
  · exact .inl h1
  · exact .inr ⟨g, cap, cur, rfl, h2, (ht.block g (Blk.lt (t := e) h3) (hn g rfl)).trans h3, h4⟩
theorem own_lt {base : Nat} {e : TypeId} {size n : Nat} {v : Value} {xs : List Value} (h : w.ownsRow base e size v n xs) {k : Nat} (hk : v.ownBlock = some k) : k < w.heap.size ∧ ∃ cs, Blk w k e cs := by
  rcases h.2 with ⟨rfl, _⟩ | ⟨g, cap, cur, rfl, h2, h3, h4⟩
  · cases hk
  · have : g = k := by simpa [Value.ownBlock] using hk
    subst this
    exact ⟨Blk.lt (t := e) h3, cur, h3⟩
end
end
section
def joinS (l : List Sd) : List UInt8 × Bool :=
  match l with
  | [] => ([], false)
  | x :: r => if splitS x ((x :: r).flatMap (·.data)) = (x :: r, 0) then ((x :: r).flatMap (·.data), true) else ([], false)
theorem split_cases (s : Sd) (t : List UInt8) : (splitS s t = ((List.range (needN t.length)).map (s.part t (needN t.length)), 0) ∧ needN t.length ≠ 0) ∨ ((splitS s t).1 = [] ∧ (splitS s t).2 ≠ 0) := by
  unfold splitS
  by_cases h0 : needN t.length = 0
  · rw [if_pos h0]; exact .inr ⟨rfl, by decide⟩
  · rw [if_neg h0]
    by_cases h1 : 65536 < needN t.length
    · rw [if_pos h1]; exact .inr ⟨rfl, by decide⟩
    · rw [if_neg h1]
      by_cases h2 : (List.range (needN t.length)).all (fun i => (s.part t (needN t.length) i).may) = true
      · rw [if_pos h2]; exact .inl ⟨rfl, h0⟩
      · rw [if_neg h2]; exact .inr ⟨rfl, by decide⟩
theorem part_part (s : Sd) (t : List UInt8) (n i : Nat) : (s.part t n 0).part t n i = s.part t n i := by
  unfold Sd.part
  simp
theorem split_part (s : Sd) (t : List UInt8) : splitS (s.part t (needN t.length) 0) t = splitS s t := by
  unfold splitS
  have e : (s.part t (needN t.length) 0).part t (needN t.length) = s.part t (needN t.length) := funext fun i => part_part s t _ i
  rw [e]
theorem join_split (s : Sd) (t : List UInt8) (h : (splitS s t).2 = 0) : joinS (splitS s t).1 = (t, true) := by
  rcases split_cases s t with ⟨h1, h0⟩ | ⟨_, h2⟩
  · rw [h1]
    have ht : ((List.range (needN t.length)).map (s.part t (needN t.length))).flatMap (·.data) = t := split_text s t _ _ rfl
    obtain ⟨n, hn⟩ : ∃ n, needN t.length = n + 1 := ⟨needN t.length - 1, by omega⟩
    have hc : (List.range (needN t.length)).map (s.part t (needN t.length)) = s.part t (needN t.length) 0 :: (List.range n).map (fun i => s.part t (needN t.length) (i + 1)) := by
      rw [hn, List.range_succ_eq_map]
      simp [Function.comp_def]
    rw [hc] at ht h1 ⊢
    unfold joinS
    simp only
    rw [ht, if_pos]
    rw [split_part, h1]
  · exact absurd h h2
theorem split_len (s : Sd) (t : List UInt8) : (splitS s t).1.length ≤ needN t.length ∧ ∀ x ∈ (splitS s t).1, x.data.length ≤ 48 := by
  rcases split_cases s t with ⟨h1, _⟩ | ⟨h2, _⟩
  · rw [h1]
    refine ⟨by simp, fun x hx => ?_⟩
    obtain ⟨i, _, rfl⟩ := List.mem_map.1 hx
    show ((t.drop (48 * i)).take 48).length ≤ 48
    rw [List.length_take]; omega
  · rw [h2]; exact ⟨Nat.zero_le _, fun x hx => by cases hx⟩
end
section
namespace Dk
theorem flatten_length {l : List (List UInt8)} (h : ∀ b ∈ l, b.length = 256) : l.flatten.length = 256 * l.length := by
  induction l with
  | nil => rfl
  | cons x l ih =>
    rw [List.flatten_cons, List.length_append, ih (fun y hy => h y (List.mem_cons_of_mem _ hy)), h x (List.mem_cons_self ..), List.length_cons]
    omega
theorem flatten_set : ∀ (l : List (List UInt8)) (n : Nat) (b : List UInt8), (∀ b ∈ l, b.length = 256) → n < l.length → b.length = 256 → (l.set n b).flatten = splice l.flatten (256 * n) b
  | [], n, b, _, hn, _ => by simp at hn
  | x :: l, 0, b, h, _, hb => by
    have hx := h x (List.mem_cons_self ..)
    simp only [List.set_cons_zero, List.flatten_cons, splice, Nat.mul_zero, List.take_zero, List.nil_append, Nat.zero_add, hb]
    rw [List.drop_append, List.drop_eq_nil_of_le (by omega), List.nil_append, hx, Nat.sub_self, List.drop_zero]
  | x :: l, n + 1, b, h, hn, hb => by
    have hx := h x (List.mem_cons_self ..)
    have ih := flatten_set l n b (fun y hy => h y (List.mem_cons_of_mem _ hy)) (by simpa using hn) hb
    simp only [List.set_cons_succ, List.flatten_cons, ih, splice, hb]
    have e1 : (x ++ l.flatten).take (256 * (n + 1)) = x ++ l.flatten.take (256 * n) := by
      rw [List.take_append, List.take_of_length_le (by omega), hx, show 256 * (n + 1) - 256 = 256 * n by omega]
    have e2 : (x ++ l.flatten).drop (256 * (n + 1) + 256) = l.flatten.drop (256 * n + 256) := by
      rw [List.drop_append, List.drop_eq_nil_of_le (by omega), List.nil_append, hx, show 256 * (n + 1) + 256 - 256 = 256 * n + 256 by omega]
    rw [e1, e2, List.append_assoc]
theorem flatten_get : ∀ (l : List (List UInt8)) (n : Nat), (∀ b ∈ l, b.length = 256) → n < l.length → (l.flatten.drop (256 * n)).take 256 = l.getD n []
  | [], n, _, hn => by simp at hn
  | x :: l, 0, h, _ => by
    have hx := h x (List.mem_cons_self ..)
    rw [List.flatten_cons, Nat.mul_zero, List.drop_zero, List.take_append_of_le_length (by omega), List.take_of_length_le (by omega)]; simp
  | x :: l, n + 1, h, hn => by
    have hx := h x (List.mem_cons_self ..)
    have ih := flatten_get l n (fun y hy => h y (List.mem_cons_of_mem _ hy)) (by simpa using hn)
    rw [List.flatten_cons, List.drop_append, List.drop_eq_nil_of_le (by omega), List.nil_append, hx, show 256 * (n + 1) - 256 = 256 * n by omega, ih]; simp
def nows (d : Dk) : List (List UInt8) := (List.range d.safe.length).map d.now
theorem image_nows (d : Dk) : d.image = d.nows.flatten := by unfold image nows; rw [List.flatMap_def]
theorem nows_length (d : Dk) : d.nows.length = d.safe.length := by unfold nows; simp
theorem nows_fit {d : Dk} (h : d.fit) : ∀ b ∈ d.nows, b.length = 256 := by
  intro b hb
  unfold nows at hb
  obtain ⟨k, hk, rfl⟩ := List.mem_map.1 hb
  exact fit_now h (List.mem_range.1 hk)
theorem nows_get (d : Dk) (n : Nat) (h : n < d.safe.length) : d.nows.getD n [] = d.now n := by
  unfold nows; simp [List.getD, h]
theorem nows_at (d : Dk) (k : Nat) (h : k < d.nows.length) : d.nows[k] = d.now k := by simp [nows]
theorem nows_calm (d : Dk) (h : d.waits = []) : d.nows = d.safe := by
  apply List.ext_getElem
  · rw [nows_length]
  · intro k h1 h2
    rw [nows_at]
    unfold now
    rw [h]
    simp [lastOf, List.getD, h2]
theorem nows_write (d : Dk) (n : Nat) (b : List UInt8) (hn : n < d.safe.length) : nows { d with waits := d.waits ++ [(n, b)] } = d.nows.set n b := by
  apply List.ext_getElem
  · rw [List.length_set, nows_length, nows_length]
  · intro k h1 h2
    rw [nows_at, List.getElem_set, nows_at]
    unfold now
    rw [lastOf_append]
    by_cases h : n = k
    · simp [h]
    · simp [h]
theorem image_length {d : Dk} (h : d.fit) : d.image.length = 256 * d.safe.length := by rw [image_nows, flatten_length (nows_fit h), nows_length]
theorem image_calm (d : Dk) (h : d.waits = []) : d.image = d.safe.flatten := by rw [image_nows, nows_calm d h]
theorem image_write {d : Dk} (hf : d.fit) (n : Nat) (b : List UInt8) (hn : n < d.safe.length) (hb : b.length = 256) : image { d with waits := d.waits ++ [(n, b)] } = splice d.image (256 * n) b := by
  rw [image_nows, nows_write d n b hn, flatten_set _ _ _ (nows_fit hf) (by rw [nows_length]; exact hn) hb, ← image_nows]
theorem image_get {d : Dk} (hf : d.fit) (n : Nat) (hn : n < d.safe.length) : (d.image.drop (256 * n)).take 256 = d.now n := by
  rw [image_nows, flatten_get _ _ (nows_fit hf) (by rw [nows_length]; exact hn), nows_get d n hn]
theorem laid_snoc (x : Nat × List UInt8) : ∀ (l : List (Nat × List UInt8)) (safe : List (List UInt8)), laid safe (l ++ [x]) = (laid safe l).set x.1 x.2
  | [], safe => rfl
  | y :: l, safe => by rw [List.cons_append, laid, laid_snoc x l, laid]
theorem laid_nows (d : Dk) : laid d.safe d.waits = d.nows := by
  apply List.ext_getElem
  · rw [laid_length, nows_length]
  · intro k h1 h2
    have hk : k < d.safe.length := by rwa [laid_length] at h1
    have h3 := laid_get k d.waits d.safe hk
    have h4 := nows_get d k hk
    rw [List.getD, List.getElem?_eq_getElem h1] at h3
    rw [List.getD, List.getElem?_eq_getElem h2] at h4
    simp only [Option.getD_some] at h3 h4
    rw [h3, h4]; rfl
def tear (masks : List Int) (safe : List (List UInt8)) (x : Nat × List UInt8) (i : Nat) : List (List UInt8) :=
  if i < masks.length then safe.set x.1 (torn (safe.getD x.1 []) x.2 (masks.getD i 0)) else safe
theorem crashed_snoc (masks : List Int) (x : Nat × List UInt8) : ∀ (l : List (Nat × List UInt8)) (safe : List (List UInt8)) (i : Nat), crashed masks safe (l ++ [x]) i = tear masks (crashed masks safe l i) x (i + l.length)
  | [], safe, i => by
    rw [List.nil_append, crashed, crashed, crashed]
    unfold tear
    simp only [List.length_nil, Nat.add_zero, crashed]
  | y :: l, safe, i => by
    rw [List.cons_append, crashed, crashed_snoc masks x l, crashed_snoc masks x l, crashed, List.length_cons, show i + 1 + l.length = i + (l.length + 1) by omega]
    split <;> rfl
def tornK (was b : List UInt8) (m : Int) : Nat → List UInt8
  | 0 => was
  | k + 1 => if bitOf m k = true then splice (tornK was b m k) (64 * k) (sector b k) else tornK was b m k
theorem sector_length (b : List UInt8) (h : b.length = 256) (k : Nat) (hk : k < 4) : (sector b k).length = 64 := by unfold sector; simp; omega
theorem tornK_form (was b : List UInt8) (m : Int) (h1 : was.length = 256) (h2 : b.length = 256) : ∀ k, k ≤ 4 → tornK was b m k = ((List.range k).flatMap fun j => sector (if bitOf m j then b else was) j) ++ was.drop (64 * k) ∧ ((List.range k).flatMap fun j => sector (if bitOf m j then b else was) j).length = 64 * k := by
  intro k
  induction k with
  | zero => intro _; simp [tornK]
  | succ k ih =>
    intro hk
    obtain ⟨e1, e2⟩ := ih (by omega)
    have hs : (sector (if bitOf m k then b else was) k).length = 64 := sector_length _ (by split <;> assumption) k (by omega)
    rw [List.range_succ, List.flatMap_append, List.flatMap_cons, List.flatMap_nil, List.append_nil, tornK]
    refine ⟨?_, by rw [List.length_append, e2, hs]; omega⟩
    split
    · rename_i hm
      unfold splice
      rw [sector_length b h2 k (by omega), e1]
      rw [List.take_append_of_le_length (by omega), List.take_of_length_le (by omega), List.drop_append, List.drop_eq_nil_of_le (by omega), List.nil_append, e2, List.drop_drop, List.append_assoc]
      congr 3
      congr 1
      omega
    · rename_i hm
      rw [e1, List.append_assoc]
      congr 1
      have e : was.drop (64 * k) = sector was k ++ was.drop (64 * (k + 1)) := by
        unfold sector
        have := (List.take_append_drop 64 (was.drop (64 * k))).symm
        rw [List.drop_drop] at this
        rw [show 64 * (k + 1) = 64 * k + 64 by omega]
        exact this
      exact e
theorem tornK_all (was b : List UInt8) (m : Int) (h1 : was.length = 256) (h2 : b.length = 256) : tornK was b m 4 = torn was b m := by
  rw [(tornK_form was b m h1 h2 4 (by omega)).1, List.drop_eq_nil_of_le (by omega), List.append_nil]
  rfl
theorem tornK_length (was b : List UInt8) (m : Int) (h1 : was.length = 256) (h2 : b.length = 256) (k : Nat) (hk : k ≤ 4) : (tornK was b m k).length = 256 := by
  obtain ⟨e1, e2⟩ := tornK_form was b m h1 h2 k hk
  rw [e1, List.length_append, e2, List.length_drop, h1]; omega
theorem splice_in {L X Y : List UInt8} (n k : Nat) (hL : n + X.length ≤ L.length) (hk : k + Y.length ≤ X.length) : splice (splice L n X) (n + k) Y = splice L n (splice X k Y) := by
  have hl : (splice X k Y).length = X.length := length_splice X k Y hk
  unfold splice at hl ⊢
  rw [hl]
  have e1 : (L.take n ++ (X ++ L.drop (n + X.length))).take (n + k) = L.take n ++ X.take k := by
    rw [List.take_append, List.take_of_length_le (by rw [List.length_take]; omega), List.length_take, show n + k - min n L.length = k by omega, List.take_append_of_le_length (by omega)]
  have e2 : (L.take n ++ (X ++ L.drop (n + X.length))).drop (n + k + Y.length) = X.drop (k + Y.length) ++ L.drop (n + X.length) := by
    rw [List.drop_append, List.drop_eq_nil_of_le (by rw [List.length_take]; omega), List.nil_append, List.length_take, show n + k + Y.length - min n L.length = k + Y.length by omega, List.drop_append_of_le_length (by omega)]
  rw [e1, e2]
  simp [List.append_assoc]
theorem splice_self (L : List UInt8) (n m : Nat) (h : n + m ≤ L.length) : splice L n ((L.drop n).take m) = L := by
  have hl : ((L.drop n).take m).length = m := by simp; omega
  unfold splice
  rw [hl, ← List.drop_drop, List.take_append_drop, List.take_append_drop]
def chunks : Nat → List UInt8 → List (List UInt8)
  | 0, _ => []
  | m + 1, L => L.take 256 :: chunks m (L.drop 256)
theorem chunks_length : ∀ (m : Nat) (L : List UInt8), (chunks m L).length = m
  | 0, _ => rfl
  | m + 1, L => by rw [chunks, List.length_cons, chunks_length]
theorem chunks_fit : ∀ (m : Nat) (L : List UInt8), L.length = 256 * m → ∀ b ∈ chunks m L, b.length = 256
  | 0, L, _, b, hb => by cases hb
  | m + 1, L, h, b, hb => by
    rw [chunks] at hb
    rcases List.mem_cons.1 hb with rfl | hb
    · rw [List.length_take]; omega
    · exact chunks_fit m (L.drop 256) (by rw [List.length_drop]; omega) b hb
theorem chunks_flatten : ∀ (m : Nat) (L : List UInt8), L.length = 256 * m → (chunks m L).flatten = L
  | 0, L, h => by rw [chunks]; exact (List.eq_nil_of_length_eq_zero (by omega)).symm
  | m + 1, L, h => by rw [chunks, List.flatten_cons, chunks_flatten m _ (by rw [List.length_drop]; omega), List.take_append_drop]
theorem chunks_get : ∀ (m : Nat) (L : List UInt8) (k : Nat) (h : k < m), (chunks m L)[k]'(by rw [chunks_length]; exact h) = (L.drop (256 * k)).take 256
  | m + 1, L, 0, _ => by simp [chunks]
  | m + 1, L, k + 1, h => by
    simp only [chunks, List.getElem_cons_succ]
    rw [chunks_get m (L.drop 256) k (by omega), List.drop_drop]
    congr 2; omega
theorem chunks_zero : ∀ m : Nat, chunks m (List.replicate (256 * m) 0) = List.replicate m (List.replicate 256 0)
  | 0 => rfl
  | m + 1 => by
    rw [chunks, List.take_replicate, List.drop_replicate, List.replicate_succ, show min 256 (256 * (m + 1)) = 256 by omega, show 256 * (m + 1) - 256 = 256 * m by omega, chunks_zero m]
def ofImage (L : List UInt8) : Dk := ⟨chunks (L.length / 256) L, [], -1, false, 0, 0, 0⟩
theorem ofImage_zero (m : Nat) : ofImage (List.replicate (256 * m) 0) = blank m := by
  unfold ofImage blank
  rw [List.length_replicate, show 256 * m / 256 = m by omega, chunks_zero]
def mayL (L : List UInt8) : Prop := L.length % 256 = 0 ∧ 16 ≤ L.length / 256 ∧ L.length / 256 ≤ 1024
end Dk
end
section
open Go.RowKit
section
variable {P : Program} {ops : Array Oper} {Q : Exit → Act → World → Prop} {md : Region.Mode}
theorem any_pure {i fuel : Nat} {oi : Oper} {listed listed' : Array Bool} {a a' : Act} {w : World} (v : Value) (hi : ops[i]? = some oi) (hs : Region.noSelect ops = true) (hf : Region.free md ops listed i = true) (hr : (Region.ready md ops listed).contains i = true)
    (hw : Region.wanted oi (yielded ops a.tmps) = true) (hy : ∀ w, (execOp a.eval oi).run P w = .ok (.value v) w) (ha : a.put oi.dst v = a') (hl : listed.setIfInBounds i true = listed') (hQ : ∀ c a w, Q (.panic c) (a.put oi.dst v) w → Q (.panic c) a w)
    (h : wpAny P md ops Q fuel listed' a' w) : wpAny P md ops Q (fuel + 1) listed a w := by
  subst ha hl
  exact wpAny_take hi hs hf hr hQ (.inl ⟨hw, hy⟩) h
theorem any_as {fuel : Nat} {listed listed' : Array Bool} {a a' : Act} {w : World} (ha : a = a') (hl : listed = listed') (h : wpAny P md ops Q fuel listed' a' w) : wpAny P md ops Q fuel listed a w := by
  subst ha hl; exact h
theorem op_value {i : Nat} {oi : Oper} {K : Act → World → Prop} {a a' : Act} {w w' : World} (v : Value) (hi : ops[i]? = some oi) (hw : Region.wanted oi (yielded ops a.tmps) = true) (hy : (execOp a.eval oi).run P w = .ok (.value v) w') (ha : a.put oi.dst v = a')
    (h : K a' w') : wpOp P ops Q i K a w := by
  subst ha
  refine wpOp_step hi fun K' hK => ?_
  rw [if_pos hw]
  unfold Oper.wp
  rw [hy]
  exact hK _ _ h
theorem op_enter {i : Nat} {oi : Oper} {K : Act → World → Prop} {a : Act} {w : World} (f : FuncId) (args : Array Value) (dst : Option Tmp) (hi : ops[i]? = some oi) (hw : Region.wanted oi (yielded ops a.tmps) = true) (hy : (execOp a.eval oi).run P w = .ok (.enter f args) w) (hd : oi.dst = dst)
    (h : Calls P f args w fun e w' => ∃ v, e = .returned v ∧ K (a.put dst v) w') : wpOp P ops Q i K a w := by
  subst hd
  refine wpOp_step hi fun K' hK => ?_
  rw [if_pos hw]
  unfold Oper.wp
  rw [hy, Oper.upon_enter]
  refine h.mono ?_
  rintro e w' ⟨v, rfl, hv⟩
  exact hK _ _ hv
theorem load_run {o : Oper} {a : Act} {w : World} (ty : TypeId) (x : Operand) (b off : Nat) (cs : List Value) (d : TypeDesc) (ho : o.op = .load ty x) (hx : a.eval x = .pointer (some ⟨b, off, none⟩)) (hc : w.rangeAt b off cs)
    (hu : P.underlying ty = some d) (hd : d.isRow = true) (hi : (P.info? ty).map (·.size) = some cs.length) (C : Array Value) (hC : cs.toArray = C) : (execOp a.eval o).run P w = .ok (.value (.agg C)) w := by
  subst hC
  unfold execOp
  simp only [ho, hx, Instr.loadAt, Instr.sureAddr, Sem.run_bind, Sem.run_pure, Result.andThen_ok, run_loadVar_mid w b off ty cs d hc hu hd hi]
end
end
end Go.Proofs.YtghenhacndaelaaGreat
