/- Lemmas under the proofs of this place: Mem, ShaPMath, Drawn. No statement is proved here. -/
import Derived.Test.YtinphkflfdpaeaaDoorBu01
import Derived.Test.YtinphkflfdpaeaaDoorRows
import Derived.Test.YtinphkflfdpaeaaDoorBu00
import Derived.Test.YtinphkflfdpaeaaDoorBu02
import Derived.Test.YtinphkflfdpaeaaDoorBu03
import Derived.WalkKit
import Derived.WalkSpells
import Derived.WalkLawsBesides
import Derived.Lib.Hide
import Derived.Laws.CopyOwn
import Derived.Still
import Derived.Lib.Index
import Derived.Deep.RegionWith
set_option linter.unusedSimpArgs false
set_option linter.unusedVariables false
namespace Go.Proofs.YtinphkflfdpaeaaDoor
section
open Go.RowKit
theorem Tryd.info5 : (Tryd.prog.info? 5).map (fun i => (i.zero, i.size, i.bytes)) = some (some (.int .u8 0), 1, 1) := by kernel_rfl
def Own (w : World) (base : Nat) (A : Option Addr) (L : List UInt8) (c : Nat) : Prop := w.ownsRow base 5 1 (.slice A L.length c) L.length (cells L)
def GivesBytes (L : List UInt8) (w : World) (e : Ending) (w' : World) : Prop :=
  ∃ A c, e = .returned (.tuple #[.slice A L.length c, .int .i64 0]) ∧ Own w' w.heap.size A L c ∧ Below w.heap.size w w'
theorem own_form {w : World} {base : Nat} {v : Value} {n : Nat} {xs : List Value} (h : w.ownsRow base 5 1 v n xs) : ∃ A c, v = .slice A n c := by
  rcases h.2 with ⟨rfl, rfl⟩ | ⟨g, cap, cur, rfl, _⟩
  · exact ⟨none, 0, rfl⟩
  · exact ⟨_, _, rfl⟩
theorem append_byte {ops : Array Oper} {rest : List Oper} {o : Oper} {a : Act} {Q : Exit → Act → World → Prop} (hgd : o.guard = none) (s x : Operand)
    (ho : o.op = .call { callee := .builtin .append, args := #[s, x], argTypes := #[29, 29] })
    {B : Nat} {w0 wr : World} {v : Value} {P : List UInt8} {z : Int} (b : UInt8) (hs : a.eval s = v) (hown : wr.ownsRow B 5 1 v P.length (cells P)) (hb : Below B w0 wr) (hB : B ≤ w0.heap.size)
    (hz : z = (b.toNat : Int)) (hx : a.eval x = .slice (some ⟨wr.heap.size, 0, none⟩) 1 1) (hlen : P.length + 1 ≤ 1048576)
    (h : ∀ v' w1, w1.ownsRow B 5 1 v' (P ++ [b]).length (cells (P ++ [b])) → Below B w0 w1 → wpList Tryd.prog ops Q rest (a.put o.dst v') w1) :
    wpList Tryd.prog ops Q (o :: rest) a (wr.alloc (.cells #[.int .u8 z] 5)) := by
  obtain ⟨i0, hi0, hz0, hz1, hz2⟩ := info_parts Tryd.info5
  subst hz
  refine wpList_append_own _ hgd s x 29 ho B 5 i0 _ 1 1 Tryd.underlying29 hi0 hz0 hz1 hz2 rfl (by decide) v P.length (cells P) hs (hown.alloc _) ⟨wr.heap.size, 0, none⟩ 1 1 (cells [b]) hx rfl (cell_one_new _ _ _) (cells_one _)
    (by unfold maxLen; omega) (by omega) (by have := hb.size; simp; omega) ?_
  intro v' w1 hown' hgrow _
  have e : (P ++ [b]).length = P.length + 1 := by simp
  refine h v' w1 (by rw [e, cells_append]; exact hown') ?_
  exact ((hb.alloc (Nat.le_trans hB hb.size) _)).grown hgrow (by have := hb.size; simp; omega) (fun k hk => (hown.lt k hk).1)
theorem or_shl (acc y e : Nat) (ha : acc < 2 ^ e) (hf : acc + y * 2 ^ e < 18446744073709551616) :
    bits .or .u64 (acc : Int) (IntKind.u64.wrap ((y : Int) * 2 ^ e)) = ((acc + y * 2 ^ e : Nat) : Int) := by
  have h1 : IntKind.u64.wrap ((y : Int) * 2 ^ e) = ((y * 2 ^ e : Nat) : Int) := by
    rw [IntKind.wrap_u64]
    have hc : ((y : Int) * 2 ^ e) = ((y * 2 ^ e : Nat) : Int) := by simp
    rw [hc]
    exact Int.emod_eq_of_lt (by omega) (by omega)
  rw [h1, u64_or_nat _ _ (by omega) (by omega)]
  have h2 := Nat.two_pow_add_eq_or_of_lt ha y
  rw [Nat.or_comm, Nat.mul_comm y, ← h2, Nat.add_comm]
theorem pow_256 (k : Nat) : (256 : Nat) ^ k = 2 ^ (8 * k) := by rw [Nat.pow_mul]
theorem run_str {P : Program} {w : World} {B : Nat} {A : Option Addr} {L : List UInt8} (src e dst : TypeId) (hs : P.underlying src = some (.slice e)) (he : P.underlying e = some (.int .u8)) (hd : P.underlying dst = some .string)
    (h : RB w B A L) (n c : Nat) (hn : n = L.length) : (convert src dst (.slice A n c)).run P w = .ok (.string (text L)) w := by
  subst hn
  rcases A with _ | ad
  · have hL : L = [] := by
      rcases L with _ | ⟨x, L⟩
      · rfl
      · obtain ⟨ad, h, _⟩ := h.2 (by simp)
        cases h
    subst hL
    exact run_convert_bytes_nil w src e hs he 0 c dst hd
  · have hl : (loadCells ad L.length).run P w = .ok ((L.map fun b => (b.toNat : Int)).map (Value.int .u8)).toArray w := by
      have := run_loadCells_list (P := P) w ad (cells L) (fun j v hj => by
        rcases Nat.eq_zero_or_pos L.length with h0 | h0
        · have hL : L = [] := List.eq_nil_of_length_eq_zero h0
          subst hL; simp [cells] at hj
        · obtain ⟨ad', h1, _, hc⟩ := h.2 h0
          injection h1 with h1
          subst h1
          exact hc j v hj)
      have e : (L.map fun b => (b.toNat : Int)).map (Value.int .u8) = cells L := by simp [cells]
      rw [e]
      simpa [cells_length] using this
    rw [run_convert_bytes_string w src dst e _ _ c hs he hd, run_bytesToString w ad _ c _ hl, foldl_push_bytes]
    have e2 : (L.map fun b => (b.toNat : Int)).map (fun n => UInt8.ofNat n.toNat) = L := by
      rw [List.map_map]
      conv => rhs; rw [← List.map_id L]
      apply List.map_congr_left
      intro b _
      simp
    rw [e2]
    simp [text, ByteArray.empty, ByteArray.emptyWithCapacity]
    rfl
theorem own_rb {w : World} {base : Nat} {A : Option Addr} {L : List UInt8} {c : Nat} (h : Own w base A L c) : RB w w.heap.size A L := Reads.of_own h
def GivesOne (L : List UInt8) (w : World) (e : Ending) (w' : World) : Prop :=
  ∃ A c, e = .returned (.slice A L.length c) ∧ Own w' w.heap.size A L c ∧ Below w.heap.size w w'
theorem own_block {w : World} {base g n cap : Nat} {xs : List Value} (h : w.ownsRow base 5 1 (.slice (some ⟨g, 0, none⟩) n n) n xs) : w.heap[g]? = some (.cells xs.toArray 5 (0, 0)) := by
  rcases h.2 with ⟨h', _⟩ | ⟨g', cap', cur, h', hb, hg, hnc, hcm, hcs, htake⟩
  · simp at h'
  · simp only [Value.slice.injEq, Option.some.injEq, Addr.mk.injEq, and_true, true_and] at h'
    obtain ⟨rfl, rfl⟩ := h'
    have : cur = xs.toArray := by
      apply Array.toList_inj.1
      rw [← htake, List.take_of_length_le (by simp [hcs])]
    rw [← this]; exact hg
theorem block_own {w : World} {base g : Nat} {L : List UInt8} (h : w.heap[g]? = some (.cells (cells L).toArray 5 (0, 0))) (hb : base ≤ g) (hl : L.length ≤ 1048576) : Own w base (some ⟨g, 0, none⟩) L L.length :=
  ⟨by simp [cells_length], .inr ⟨g, L.length, _, rfl, hb, h, Nat.le_refl _, by unfold maxLen; omega, by simp [cells_length], by simp [cells_length]; exact List.take_of_length_le (by rw [cells_length]; omega)⟩⟩
theorem Tryd.size5 : (Tryd.prog.info? 5).map (·.size) = some 1 := by kernel_rfl
theorem made_block {w w1 : World} {n : Nat} (hown : w1.ownsRow w.heap.size 5 1 (.slice (some ⟨w.heap.size, 0, none⟩) n n) n (madeCells (Value.int .u8 0).cells (n * 1)).toList) : w1.heap[w.heap.size]? = some (.cells (List.replicate n (.int .u8 0)).toArray 5 (0, 0)) := by
  have h := own_block (cap := 0) hown
  rwa [Nat.mul_one, show (Value.int IntKind.u8 0).cells = #[Value.int IntKind.u8 0] from rfl, toList_madeCells_one] at h
theorem rb_src {w : World} {B : Nat} {A : Option Addr} {L : List UInt8} (h : RB w B A L) (x : Addr) :
    0 < (cells L).length → some x = some x ∧ ∃ ad, A = some ad ∧ ∀ j v, (cells L)[j]? = some v → w.cell? (ad.add j) = some v := by
  intro h0
  rw [cells_length] at h0
  obtain ⟨ad, e, _, hc⟩ := h.2 h0
  exact ⟨rfl, ad, e, hc⟩
theorem splice_all {α : Type} (Z X : List α) (h : Z.length = X.length) : splice Z 0 X = X := by
  simp [splice]; omega
theorem own_le {w : World} {base : Nat} {A : Option Addr} {L : List UInt8} {c : Nat} (h : Own w base A L c) : L.length ≤ c := by
  rcases h.2 with ⟨h', h0⟩ | ⟨g, cap, cur, h', _, _, hn, _⟩
  · omega
  · simp only [Value.slice.injEq] at h'
    omega
theorem blk_cell {w : World} {g : Nat} {cs : Array Value} {t : TypeId} (h : w.heap[g]? = some (.cells cs t (0, 0))) (i : Nat) : w.cell? ⟨g, i, none⟩ = cs[i]? ∧ w.frozen? ⟨g, i, none⟩ = false := ⟨Blk.cell h i, Blk.frozen h i⟩
theorem rb_cut {w : World} {B : Nat} {A : Option Addr} {L : List UInt8} (h : RB w B A L) {k c : Nat} (hk : k ≤ L.length) (hc : L.length ≤ c) : RB w B (if c = k then A else A.map (·.add (k * 1))) (L.drop k) := by
  have h1 := Reads.cut h hk hc
  unfold RB
  rw [List.length_drop, ← cells_drop]
  simpa using h1
theorem bcell {W w1 : World} (hb : Below W.heap.size W w1) : (∀ b o, b < W.heap.size → w1.cell? ⟨b, o, none⟩ = W.cell? ⟨b, o, none⟩) ∧ (∀ b o, b < W.heap.size → w1.frozen? ⟨b, o, none⟩ = W.frozen? ⟨b, o, none⟩) :=
  ⟨fun b o h => hb.cell (p := ⟨b, o, none⟩) h, fun b o h => hb.frozen (p := ⟨b, o, none⟩) h⟩
theorem rb_cut1 {w : World} {B : Nat} {A : Option Addr} {L : List UInt8} (h : RB w B A L) {k c : Nat} (hk : k ≤ L.length) (hc : L.length ≤ c) (hck : c ≠ k) : RB w B (A.map (fun x => x.add k)) (L.drop k) := by
  have h1 := rb_cut h hk hc
  rw [if_neg hck, Nat.mul_one] at h1
  exact h1
theorem rb_cut0 {w : World} {B : Nat} {A : Option Addr} {L : List UInt8} (h : RB w B A L) {k c : Nat} (hk : k ≤ L.length) (hc : L.length ≤ c) (hck : c = k) : RB w B A (L.drop k) := by
  have h1 := rb_cut h hk hc
  rw [if_pos hck] at h1
  exact h1
theorem below3 {B g : Nat} {w0 w : World} (h : Below B w0 w) (hg : B ≤ g) (a b c : Value) : Below B w0 (((w.setCell ⟨g, 0, none⟩ a).setCell ⟨g, 1, none⟩ b).setCell ⟨g, 2, none⟩ c) := ((h.setCell hg _).setCell hg _).setCell hg _
theorem two_then {w w1 : World} {o p : Obj} (h : Below ((w.alloc o).alloc p).heap.size ((w.alloc o).alloc p) w1) : Below w.heap.size w w1 :=
  (((Below.refl _ _).alloc (Nat.le_refl _) o).alloc (by simp) p).trans (h.mono (by simp; omega))
theorem rb_take {w : World} {B : Nat} {A : Option Addr} {L : List UInt8} (h : RB w B A L) (k : Nat) (hk : k ≤ L.length) : RB w B A (L.take k) := by
  refine ⟨by rw [cells_length]; simp, fun h0 => ?_⟩
  obtain ⟨ad, e, hb', hcc⟩ := h.2 (by rw [List.length_take] at h0; omega)
  refine ⟨ad, e, hb', fun j u hu => hcc j u ?_⟩
  rw [← cells_take, List.getElem?_take] at hu
  split at hu
  · exact hu
  · cases hu
theorem rb_new (w : World) (L : List UInt8) : RB (w.alloc (.cells (cells L).toArray 5)) (w.heap.size + 1) (some ⟨w.heap.size, 0, none⟩) L := by
  refine ⟨by simp [cells_length], fun h0 => ⟨_, rfl, by simp, fun j u hu => ?_⟩⟩
  have h := heap_alloc_new w (.cells (cells L).toArray 5)
  have e : (⟨w.heap.size, 0, none⟩ : Addr).add j = ⟨w.heap.size, j, none⟩ := by unfold Addr.add; split <;> simp_all
  rw [e, (blk_cell h j).1]
  simpa using hu
theorem rb_newm (w : World) (L : List UInt8) (fr : Nat × Nat) : RB (w.alloc (.cells (cells L).toArray 5 fr)) (w.heap.size + 1) (some ⟨w.heap.size, 0, none⟩) L := by
  refine ⟨by simp [cells_length], fun h0 => ⟨_, rfl, by simp, fun j u hu => ?_⟩⟩
  have e : (⟨w.heap.size, 0, none⟩ : Addr).add j = ⟨w.heap.size, j, none⟩ := by unfold Addr.add; split <;> simp_all
  rw [e, World.cell?_alloc_mark]
  simpa using hu
theorem aw_str {w : World} {A : Option Addr} {L : List UInt8} (h : RB w w.heap.size A L) (n c : Nat) (hn : n = L.length) : (convert 29 9 (.slice A n c)).run Tryd.prog w = .ok (.string ⟨L.toArray⟩) w :=
  run_str 29 5 9 Tryd.underlying29 Tryd.underlying5 Tryd.underlying9 h n c hn
theorem made_rb {w w1 : World} {n : Nat} (hown : w1.ownsRow w.heap.size 5 1 (.slice (some ⟨w.heap.size, 0, none⟩) n n) n (madeCells (Value.int .u8 0).cells (n * 1)).toList) : RB w1 w1.heap.size (some ⟨w.heap.size, 0, none⟩) (List.replicate n 0) := by
  have h := World.ownsRow.lt hown w.heap.size rfl
  have e : (madeCells (Value.int .u8 0).cells (n * 1)).toList = cells (List.replicate n 0) := by
    rw [Nat.mul_one, show (Value.int IntKind.u8 0).cells = #[Value.int IntKind.u8 0] from rfl, toList_madeCells_one]
    simp [cells]
  rw [e] at hown
  have h2 := Reads.of_own hown
  unfold RB
  rw [List.length_replicate]
  exact h2
def GivesR (r : List UInt8 × Nat) (w : World) (e : Ending) (w' : World) : Prop :=
  ∃ A c, e = .returned (.tuple #[.slice A r.1.length c, .int .i64 (r.2 : Int)]) ∧ RB w' w'.heap.size A r.1 ∧ Below w.heap.size w w'
theorem GivesR.bytes {L : List UInt8} {w w' : World} {e : Ending} (h : GivesBytes L w e w') : GivesR (L, 0) w e w' := by
  obtain ⟨A, c, he, ho, hb⟩ := h
  exact ⟨A, c, he, own_rb ho, hb⟩
theorem own_kept {w w' : World} {base n : Nat} {v : Value} {xs : List Value} (h : w.ownsRow base 5 1 v n xs) (hb : Below w.heap.size w w') : w'.ownsRow base 5 1 v n xs :=
  World.ownsRow.kept h (row := none) ⟨hb.os, hb.tape, hb.output, hb.size, fun i hi _ => hb.block i hi⟩ (Classical.em _)
theorem text_toList (L : List UInt8) : (text L).toList = L := by
  rw [Lib.toList_data]
  rfl
theorem text_eq (L M : List UInt8) : ((text L).toList == (text M).toList) = decide (L = M) := by
  rw [text_toList, text_toList, Bool.eq_iff_iff]
  simp
theorem rb_lt {w : World} {B : Nat} {A : Option Addr} {L : List UInt8} (h : RB w B A L) : RB w w.heap.size A L := by
  refine ⟨h.1, fun hn => ?_⟩
  obtain ⟨ad, e, hb, hc⟩ := h.2 hn
  refine ⟨ad, e, ?_, hc⟩
  have h0 := hc 0 _ (cells_get L 0 hn)
  have := World.block_lt_of_cell? w _ h0
  rwa [block_of_add] at this
theorem own_cap {w : World} {base : Nat} {A : Option Addr} {L : List UInt8} {c : Nat} (h : Own w base A L c) : c ≤ 9223372036854775807 := by
  rcases h.2 with ⟨h', h0⟩ | ⟨g, cap, cur, h', _, _, hn, hm, _⟩
  · simp only [Value.slice.injEq] at h'
    omega
  · simp only [Value.slice.injEq] at h'
    have hm' : cap ≤ 9223372036854775807 := hm
    omega
end
section
theorem word_acc (a b c d : UInt8) : ((((0 : UInt32) <<< 8 ||| a.toUInt32) <<< 8 ||| b.toUInt32) <<< 8 ||| c.toUInt32) <<< 8 ||| d.toUInt32 = wordL a b c d := by
  unfold wordL
  apply UInt32.toBitVec_inj.1
  simp only [UInt32.toBitVec_or, UInt32.toBitVec_shiftLeft]
  apply BitVec.eq_of_getLsbD_eq
  intro i hi
  simp [BitVec.getLsbD_or, BitVec.getLsbD_shiftLeft, Nat.sub_sub]
  have e1 : i - 24 < 32 := by omega
  have e2 : i - 16 < 32 := by omega
  have e3 : i - 8 < 32 := by omega
  by_cases h1 : i < 8
  · simp [h1, show i < 16 by omega, show i < 24 by omega]
  · by_cases h2 : i < 16
    · simp [h1, h2, hi, e1, e2, e3, show i < 24 by omega, show i - 8 < 8 by omega]
    · by_cases h3 : i < 24
      · simp [h1, h2, h3, hi, e1, e2, e3, show ¬ i - 8 < 8 by omega, show i - 16 < 8 by omega]
      · simp [h1, h2, h3, hi, e1, e2, e3, show ¬ i - 8 < 8 by omega, show ¬ i - 16 < 8 by omega]
def spreadK (B : List UInt8) : Nat → List UInt32
  | 0 => List.replicate 64 0
  | n + 1 => (spreadK B n).set (n / 4) ((spreadK B n).getD (n / 4) 0 <<< 8 ||| (B.getD n 0).toUInt32)
theorem spreadK_length (B : List UInt8) : ∀ n, (spreadK B n).length = 64 := by
  intro n
  induction n with
  | zero => simp [spreadK]
  | succ n ih => simp [spreadK, ih]
theorem mid_get {α : Type} (S R : List α) (v d : α) (k : Nat) (h : S.length = k) : (S ++ v :: R).getD k d = v := by
  subst h; simp [List.getD]
theorem mid_set {α : Type} (S R : List α) (v u : α) (k : Nat) (h : S.length = k) : (S ++ v :: R).set k u = S ++ u :: R := by
  subst h; simp
theorem spreadK_four (B : List UInt8) : ∀ k, k ≤ 16 → spreadK B (4 * k) = schedK B k ++ List.replicate (64 - k) 0 := by
  intro k
  induction k with
  | zero => intro _; simp [spreadK, schedK]
  | succ k ih =>
    intro h
    have e : 64 - k = (64 - (k + 1)) + 1 := by omega
    have hs := ih (by omega)
    rw [e, List.replicate_succ] at hs
    have l := schedK_length B k
    have d1 : (4 * k + 1) / 4 = k := by omega
    have d2 : (4 * k + 2) / 4 = k := by omega
    have d3 : (4 * k + 3) / 4 = k := by omega
    have d0 : (4 * k) / 4 = k := by omega
    rw [show 4 * (k + 1) = 4 * k + 3 + 1 by omega, spreadK, spreadK, spreadK, spreadK, hs, d0, d1, d2, d3]
    rw [mid_get _ _ _ _ k l, mid_set _ _ _ _ k l, mid_get _ _ _ _ k l, mid_set _ _ _ _ k l, mid_get _ _ _ _ k l, mid_set _ _ _ _ k l, mid_get _ _ _ _ k l, mid_set _ _ _ _ k l, word_acc]
    rw [schedK, schedW, if_pos (by omega)]
    simp
def wordsK (B : List UInt8) (n : Nat) : List UInt32 := schedK B n ++ List.replicate (64 - n) 0
theorem wordsK_length (B : List UInt8) (n : Nat) (h : n ≤ 64) : (wordsK B n).length = 64 := by
  simp [wordsK, schedK_length]; omega
theorem wordsK_get (B : List UInt8) (n k : Nat) (h : k < n) : (wordsK B n).getD k 0 = (schedK B n).getD k 0 := by
  unfold wordsK
  simp [List.getD, List.getElem?_append_left (show k < (schedK B n).length by rw [schedK_length]; exact h)]
theorem wordsK_step (B : List UInt8) (n : Nat) (h0 : 16 ≤ n) (h : n < 64) :
    wordsK B (n + 1) = (wordsK B n).set n ((wordsK B n).getD (n - 16) 0 + sig0 ((wordsK B n).getD (n - 15) 0) + (wordsK B n).getD (n - 7) 0 + sig1 ((wordsK B n).getD (n - 2) 0)) := by
  rw [wordsK_get B n _ (by omega), wordsK_get B n _ (by omega), wordsK_get B n _ (by omega), wordsK_get B n _ (by omega)]
  unfold wordsK
  rw [show 64 - n = (64 - (n + 1)) + 1 by omega, List.replicate_succ, mid_set _ _ _ _ n (schedK_length B n), schedK, schedW, if_neg (by omega)]
  simp
theorem wordsK_last (B : List UInt8) : wordsK B 64 = schedK B 64 := by simp [wordsK]
theorem spreadK_last (B : List UInt8) : spreadK B 64 = wordsK B 16 := spreadK_four B 16 (by omega)
theorem state_small (L M : List UInt8) (h : L.length % 64 + M.length < 64) : stateL (L ++ M) = stateL L ∧ restL (L ++ M) = restL L ++ M := by
  have hl : (restL L ++ M).length / 64 = 0 := by rw [List.length_append, restL_length]; omega
  rw [stateL_append, restL_append, hl]
  exact ⟨rfl, by simp⟩
theorem state_full (L M : List UInt8) (h : L.length % 64 + M.length = 64) : stateL (L ++ M) = blockL (stateL L) (restL L ++ M) ∧ restL (L ++ M) = [] := by
  have hl0 : (restL L ++ M).length = 64 := by rw [List.length_append, restL_length]; omega
  have hl : (restL L ++ M).length / 64 = 1 := by rw [hl0]
  rw [stateL_append, restL_append, hl]
  refine ⟨?_, by rw [List.drop_eq_nil_iff]; omega⟩
  rw [blocksK, blocksK, List.take_of_length_le (by simp only [Nat.mul_zero, List.drop_zero]; omega)]
  simp
theorem splice_take {α : Type} (Z X : List α) (r : Nat) (h : r ≤ Z.length) : (Z.take r ++ X ++ Z.drop (r + X.length)).take (r + X.length) = Z.take r ++ X := by
  rw [List.take_append_of_le_length (by simp; omega), List.take_of_length_le (by simp; omega)]
def beK (m : Nat) : Nat → List UInt8
  | 0 => []
  | k + 1 => UInt8.ofNat (m / 256 ^ k) :: beK m k
theorem beK_length (m : Nat) : ∀ k, (beK m k).length = k := by
  intro k; induction k with
  | zero => rfl
  | succ k ih => simp [beK, ih]
def tailB (n : Nat) : List UInt8 := [128] ++ List.replicate (noughts n) 0 ++ lenL (8 * n)
def tailK (n k : Nat) : List UInt8 := ([128] ++ List.replicate (noughts n) 0 ++ List.replicate (8 - k) 0) ++ beK (8 * n) k
theorem tailB_length (n : Nat) : (tailB n).length = 1 + noughts n + 8 := by simp [tailB, lenL]; omega
theorem tailK_length (n k : Nat) (h : k ≤ 8) : (tailK n k).length = 1 + noughts n + 8 := by simp [tailK, beK_length]; omega
theorem tailK_zero (n : Nat) : tailK n 0 = 128 :: List.replicate (noughts n + 8) 0 := by
  simp [tailK, beK, ← List.replicate_append_replicate]
theorem set_between {α : Type} (A B C : List α) (v u : α) (k : Nat) (h : A.length + B.length = k) : ((A ++ (B ++ [v])) ++ C).set k u = (A ++ B) ++ u :: C := by
  subst h
  simp
theorem tailK_step (n k : Nat) (h : k < 8) : tailK n (k + 1) = (tailK n k).set (noughts n + 8 - k) (UInt8.ofNat (8 * n / 256 ^ k)) := by
  unfold tailK
  have e : List.replicate (8 - k) (0 : UInt8) = List.replicate (8 - (k + 1)) 0 ++ [0] := by
    rw [show 8 - k = (8 - (k + 1)) + 1 by omega, List.replicate_succ']
  rw [e, beK, set_between _ _ _ _ _ _ (by simp; omega)]
theorem tailK_last (n k : Nat) (hk : k ≤ 8) (hn : 8 * n < 1099511627776) (h : 8 * n / 256 ^ k = 0) : tailK n k = tailB n := by
  unfold tailK tailB
  rw [List.append_assoc]
  congr 1
  generalize 8 * n = m at hn h
  have hz : ∀ j, k ≤ j → m / 256 ^ j = 0 := by
    intro j hj
    have h0 : (256 : Nat) ^ k ≤ 256 ^ j := Nat.pow_le_pow_right (by omega) hj
    have h1 : m < 256 ^ k := by
      rcases Nat.div_eq_zero_iff.1 h with h2 | h2
      · have := Nat.pow_pos (n := k) (show 0 < 256 by omega); omega
      · exact h2
    exact Nat.div_eq_of_lt (by omega)
  have z7 : m / 256 ^ 7 = 0 := Nat.div_eq_of_lt (by omega)
  have z6 : m / 256 ^ 6 = 0 := Nat.div_eq_of_lt (by omega)
  have z5 : m / 256 ^ 5 = 0 := Nat.div_eq_of_lt (by omega)
  have e : List.replicate (8 - k) (0 : UInt8) ++ beK m k = beK m 8 := by
    clear h
    obtain ⟨d, hd⟩ : ∃ d, d = 8 - k := ⟨_, rfl⟩
    induction d generalizing k with
    | zero => rw [← hd, show k = 8 by omega]; rfl
    | succ d ih =>
      have e1 : List.replicate (8 - k) (0 : UInt8) ++ beK m k = List.replicate (8 - (k + 1)) 0 ++ beK m (k + 1) := by
        rw [show 8 - k = (8 - (k + 1)) + 1 by omega, List.replicate_succ', beK, hz k (Nat.le_refl _), List.append_assoc]
        rfl
      rw [e1]
      exact ih (k + 1) (by omega) (fun j hj => hz j (by omega)) (by omega)
  rw [e]
  simp [beK, lenL, z7, z6, z5]
theorem padL_tail (L : List UInt8) : padL L = L ++ tailB L.length := by
  unfold padL tailB
  simp
end
section
open Go.RowKit
section
variable {P : Program} {ops : Array Oper} {Q : Exit → Act → World → Prop} {md : Region.Mode}
theorem any_pure {i fuel : Nat} {oi : Oper} {listed listed' : Array Bool} {a a' : Act} {w : World} (v : Value) (hi : ops[i]? = some oi) (hs : Region.noSelect ops = true) (hf : Region.free md ops listed i = true) (hr : (Region.ready md ops listed).contains i = true)
    (hw : Region.wanted oi (yielded ops a.tmps) = true) (hy : ∀ w, (execOp a.eval oi).run P w = .ok (.value v) w) (ha : a.put oi.dst v = a') (hl : listed.setIfInBounds i true = listed') (hQ : ∀ c a w, Q (.panic c) (a.put oi.dst v) w → Q (.panic c) a w)
    (h : wpAny P md ops Q fuel listed' a' w) : wpAny P md ops Q (fuel + 1) listed a w := by
  subst ha hl
  exact wpAny_take hi hs hf hr hQ (.inl ⟨hw, hy⟩) h
theorem any_one {i fuel : Nat} {listed : Array Bool} {a : Act} {w : World} (hr : Region.ready md ops listed = [i]) (h : wpOp P ops Q i (wpAny P md ops Q fuel (listed.setIfInBounds i true)) a w) : wpAny P md ops Q (fuel + 1) listed a w :=
  wpAny_all hr (by simp) (fun k hk => by rw [List.mem_singleton] at hk; subst hk; exact h)
theorem any_two {i j fuel : Nat} {listed : Array Bool} {a : Act} {w : World} (hr : Region.ready md ops listed = [i, j]) (h1 : wpOp P ops Q i (wpAny P md ops Q fuel (listed.setIfInBounds i true)) a w)
    (h2 : wpOp P ops Q j (wpAny P md ops Q fuel (listed.setIfInBounds j true)) a w) : wpAny P md ops Q (fuel + 1) listed a w :=
  wpAny_all hr (by simp) (fun k hk => by
    rcases List.mem_cons.1 hk with rfl | hk
    · exact h1
    · rw [List.mem_singleton] at hk; subst hk; exact h2)
theorem any_as {fuel : Nat} {listed listed' : Array Bool} {a a' : Act} {w : World} (ha : a = a') (hl : listed = listed') (h : wpAny P md ops Q fuel listed' a' w) : wpAny P md ops Q fuel listed a w := by
  subst ha hl; exact h
theorem op_value {i : Nat} {oi : Oper} {K : Act → World → Prop} {a a' : Act} {w w' : World} (v : Value) (hi : ops[i]? = some oi) (hw : Region.wanted oi (yielded ops a.tmps) = true) (hy : (execOp a.eval oi).run P w = .ok (.value v) w') (ha : a.put oi.dst v = a')
    (h : K a' w') : wpOp P ops Q i K a w := by
  subst ha
  refine wpOp_step hi fun K' hK => ?_
  rw [if_pos hw]
  unfold Oper.wp
  rw [hy]
  exact hK _ _ h
theorem op_enter {i : Nat} {oi : Oper} {K : Act → World → Prop} {a : Act} {w : World} (f : FuncId) (args : Array Value) (dst : Option Tmp) (hi : ops[i]? = some oi) (hw : Region.wanted oi (yielded ops a.tmps) = true) (hy : (execOp a.eval oi).run P w = .ok (.enter f args) w) (hd : oi.dst = dst)
    (h : Calls P f args w fun e w' => ∃ v, e = .returned v ∧ K (a.put dst v) w') : wpOp P ops Q i K a w := by
  subst hd
  refine wpOp_step hi fun K' hK => ?_
  rw [if_pos hw]
  unfold Oper.wp
  rw [hy, Oper.upon_enter]
  refine h.mono ?_
  rintro e w' ⟨v, rfl, hv⟩
  exact hK _ _ hv
theorem load_run {o : Oper} {a : Act} {w : World} (ty : TypeId) (x : Operand) (b off : Nat) (cs : List Value) (d : TypeDesc) (ho : o.op = .load ty x) (hx : a.eval x = .pointer (some ⟨b, off, none⟩)) (hc : w.rangeAt b off cs)
    (hu : P.underlying ty = some d) (hd : d.isRow = true) (hi : (P.info? ty).map (·.size) = some cs.length) (C : Array Value) (hC : cs.toArray = C) : (execOp a.eval o).run P w = .ok (.value (.agg C)) w := by
  subst hC
  unfold execOp
  simp only [ho, hx, Instr.loadAt, Instr.sureAddr, Sem.run_bind, Sem.run_pure, Result.andThen_ok, run_loadVar_mid w b off ty cs d hc hu hd hi]
end
end
end Go.Proofs.YtinphkflfdpaeaaDoor
