/- Lemmas under the proofs of this place: Mem, IdsDigits, Drawn. No statement is proved here. -/
import Derived.Test.YtpcopmpmcjkamaaDoorBu02
import Derived.Test.YtpcopmpmcjkamaaDoorRows
import Derived.Test.YtpcopmpmcjkamaaDoorBu00
import Derived.Test.YtpcopmpmcjkamaaDoorBu03
import Derived.WalkKit
import Derived.WalkSpells
import Derived.WalkLawsBesides
import Derived.Lib.Hide
import Derived.Laws.CopyOwn
import Derived.Still
import Derived.Lib.Index
import Derived.Deep.RegionWith
import Derived.Deep.WholeRow
import Derived.Deep.MidRow
import Derived.Great.Walk
import Derived.Great.Ranges
import Derived.Great.BuildSlice
import Derived.BigQuiet
set_option linter.unusedSimpArgs false
set_option linter.unusedVariables false
namespace Go.Proofs.YtpcopmpmcjkamaaDoor
section
open Go.RowKit
theorem Tryd.info5 : (Tryd.prog.info? 5).map (fun i => (i.zero, i.size, i.bytes)) = some (some (.int .u8 0), 1, 1) := by kernel_rfl
def Own (w : World) (base : Nat) (A : Option Addr) (L : List UInt8) (c : Nat) : Prop := w.ownsRow base 5 1 (.slice A L.length c) L.length (cells L)
def GivesBytes (L : List UInt8) (w : World) (e : Ending) (w' : World) : Prop :=
  ∃ A c, e = .returned (.tuple #[.slice A L.length c, .int .i64 0]) ∧ Own w' w.heap.size A L c ∧ Below w.heap.size w w'
theorem own_form {w : World} {base : Nat} {v : Value} {n : Nat} {xs : List Value} (h : w.ownsRow base 5 1 v n xs) : ∃ A c, v = .slice A n c := by
  rcases h.2 with ⟨rfl, rfl⟩ | ⟨g, cap, cur, rfl, _⟩
  · exact ⟨none, 0, rfl⟩
  · exact ⟨_, _, rfl⟩
theorem append_byte {ops : Array Oper} {rest : List Oper} {o : Oper} {a : Act} {Q : Exit → Act → World → Prop} (hgd : o.guard = none) (s x : Operand)
    (ho : o.op = .call { callee := .builtin .append, args := #[s, x], argTypes := #[24, 24] })
    {B : Nat} {w0 wr : World} {v : Value} {P : List UInt8} {z : Int} (b : UInt8) (hs : a.eval s = v) (hown : wr.ownsRow B 5 1 v P.length (cells P)) (hb : Below B w0 wr) (hB : B ≤ w0.heap.size)
    (hz : z = (b.toNat : Int)) (hx : a.eval x = .slice (some ⟨wr.heap.size, 0, none⟩) 1 1) (hlen : P.length + 1 ≤ 1048576)
    (h : ∀ v' w1, w1.ownsRow B 5 1 v' (P ++ [b]).length (cells (P ++ [b])) → Below B w0 w1 → wpList Tryd.prog ops Q rest (a.put o.dst v') w1) :
    wpList Tryd.prog ops Q (o :: rest) a (wr.alloc (.cells #[.int .u8 z] 5)) := by
  obtain ⟨i0, hi0, hz0, hz1, hz2⟩ := info_parts Tryd.info5
  subst hz
  refine wpList_append_own _ hgd s x 24 ho B 5 i0 _ 1 1 Tryd.underlying24 hi0 hz0 hz1 hz2 rfl (by decide) v P.length (cells P) hs (hown.alloc _) ⟨wr.heap.size, 0, none⟩ 1 1 (cells [b]) hx rfl (cell_one_new _ _ _) (cells_one _)
    (by unfold maxLen; omega) (by omega) (by have := hb.size; simp; omega) ?_
  intro v' w1 hown' hgrow _
  have e : (P ++ [b]).length = P.length + 1 := by simp
  refine h v' w1 (by rw [e, cells_append]; exact hown') ?_
  exact ((hb.alloc (Nat.le_trans hB hb.size) _)).grown hgrow (by have := hb.size; simp; omega) (fun k hk => (hown.lt k hk).1)
theorem or_shl (acc y e : Nat) (ha : acc < 2 ^ e) (hf : acc + y * 2 ^ e < 18446744073709551616) :
    bits .or .u64 (acc : Int) (IntKind.u64.wrap ((y : Int) * 2 ^ e)) = ((acc + y * 2 ^ e : Nat) : Int) := by
  have h1 : IntKind.u64.wrap ((y : Int) * 2 ^ e) = ((y * 2 ^ e : Nat) : Int) := by
    rw [IntKind.wrap_u64]
    have hc : ((y : Int) * 2 ^ e) = ((y * 2 ^ e : Nat) : Int) := by simp
    rw [hc]
    exact Int.emod_eq_of_lt (by omega) (by omega)
  rw [h1, u64_or_nat _ _ (by omega) (by omega)]
  have h2 := Nat.two_pow_add_eq_or_of_lt ha y
  rw [Nat.or_comm, Nat.mul_comm y, ← h2, Nat.add_comm]
theorem pow_256 (k : Nat) : (256 : Nat) ^ k = 2 ^ (8 * k) := by rw [Nat.pow_mul]
theorem run_str {P : Program} {w : World} {B : Nat} {A : Option Addr} {L : List UInt8} (src e dst : TypeId) (hs : P.underlying src = some (.slice e)) (he : P.underlying e = some (.int .u8)) (hd : P.underlying dst = some .string)
    (h : RB w B A L) (n c : Nat) (hn : n = L.length) : (convert src dst (.slice A n c)).run P w = .ok (.string (text L)) w := by
  subst hn
  rcases A with _ | ad
  · have hL : L = [] := by
      rcases L with _ | ⟨x, L⟩
      · rfl
      · obtain ⟨ad, h, _⟩ := h.2 (by simp)
        cases h
    subst hL
    exact run_convert_bytes_nil w src e hs he 0 c dst hd
  · have hl : (loadCells ad L.length).run P w = .ok ((L.map fun b => (b.toNat : Int)).map (Value.int .u8)).toArray w := by
      have := run_loadCells_list (P := P) w ad (cells L) (fun j v hj => by
        rcases Nat.eq_zero_or_pos L.length with h0 | h0
        · have hL : L = [] := List.eq_nil_of_length_eq_zero h0
          subst hL; simp [cells] at hj
        · obtain ⟨ad', h1, _, hc⟩ := h.2 h0
          injection h1 with h1
          subst h1
          exact hc j v hj)
      have e : (L.map fun b => (b.toNat : Int)).map (Value.int .u8) = cells L := by simp [cells]
      rw [e]
      simpa [cells_length] using this
    rw [run_convert_bytes_string w src dst e _ _ c hs he hd, run_bytesToString w ad _ c _ hl, foldl_push_bytes]
    have e2 : (L.map fun b => (b.toNat : Int)).map (fun n => UInt8.ofNat n.toNat) = L := by
      rw [List.map_map]
      conv => rhs; rw [← List.map_id L]
      apply List.map_congr_left
      intro b _
      simp
    rw [e2]
    simp [text, ByteArray.empty, ByteArray.emptyWithCapacity]
    rfl
theorem own_rb {w : World} {base : Nat} {A : Option Addr} {L : List UInt8} {c : Nat} (h : Own w base A L c) : RB w w.heap.size A L := Reads.of_own h
def GivesOne (L : List UInt8) (w : World) (e : Ending) (w' : World) : Prop :=
  ∃ A c, e = .returned (.slice A L.length c) ∧ Own w' w.heap.size A L c ∧ Below w.heap.size w w'
theorem own_block {w : World} {base g n cap : Nat} {xs : List Value} (h : w.ownsRow base 5 1 (.slice (some ⟨g, 0, none⟩) n n) n xs) : w.heap[g]? = some (.cells xs.toArray 5 (0, 0)) := by
  rcases h.2 with ⟨h', _⟩ | ⟨g', cap', cur, h', hb, hg, hnc, hcm, hcs, htake⟩
  · simp at h'
  · simp only [Value.slice.injEq, Option.some.injEq, Addr.mk.injEq, and_true, true_and] at h'
    obtain ⟨rfl, rfl⟩ := h'
    have : cur = xs.toArray := by
      apply Array.toList_inj.1
      rw [← htake, List.take_of_length_le (by simp [hcs])]
    rw [← this]; exact hg
theorem block_own {w : World} {base g : Nat} {L : List UInt8} (h : w.heap[g]? = some (.cells (cells L).toArray 5 (0, 0))) (hb : base ≤ g) (hl : L.length ≤ 1048576) : Own w base (some ⟨g, 0, none⟩) L L.length :=
  ⟨by simp [cells_length], .inr ⟨g, L.length, _, rfl, hb, h, Nat.le_refl _, by unfold maxLen; omega, by simp [cells_length], by simp [cells_length]; exact List.take_of_length_le (by rw [cells_length]; omega)⟩⟩
theorem Tryd.size5 : (Tryd.prog.info? 5).map (·.size) = some 1 := by kernel_rfl
theorem made_block {w w1 : World} {n : Nat} (hown : w1.ownsRow w.heap.size 5 1 (.slice (some ⟨w.heap.size, 0, none⟩) n n) n (madeCells (Value.int .u8 0).cells (n * 1)).toList) : w1.heap[w.heap.size]? = some (.cells (List.replicate n (.int .u8 0)).toArray 5 (0, 0)) := by
  have h := own_block (cap := 0) hown
  rwa [Nat.mul_one, show (Value.int IntKind.u8 0).cells = #[Value.int IntKind.u8 0] from rfl, toList_madeCells_one] at h
theorem rb_src {w : World} {B : Nat} {A : Option Addr} {L : List UInt8} (h : RB w B A L) (x : Addr) :
    0 < (cells L).length → some x = some x ∧ ∃ ad, A = some ad ∧ ∀ j v, (cells L)[j]? = some v → w.cell? (ad.add j) = some v := by
  intro h0
  rw [cells_length] at h0
  obtain ⟨ad, e, _, hc⟩ := h.2 h0
  exact ⟨rfl, ad, e, hc⟩
theorem splice_all {α : Type} (Z X : List α) (h : Z.length = X.length) : splice Z 0 X = X := by
  simp [splice]; omega
theorem own_le {w : World} {base : Nat} {A : Option Addr} {L : List UInt8} {c : Nat} (h : Own w base A L c) : L.length ≤ c := by
  rcases h.2 with ⟨h', h0⟩ | ⟨g, cap, cur, h', _, _, hn, _⟩
  · omega
  · simp only [Value.slice.injEq] at h'
    omega
theorem blk_cell {w : World} {g : Nat} {cs : Array Value} {t : TypeId} (h : w.heap[g]? = some (.cells cs t (0, 0))) (i : Nat) : w.cell? ⟨g, i, none⟩ = cs[i]? ∧ w.frozen? ⟨g, i, none⟩ = false := ⟨Blk.cell h i, Blk.frozen h i⟩
theorem rb_cut {w : World} {B : Nat} {A : Option Addr} {L : List UInt8} (h : RB w B A L) {k c : Nat} (hk : k ≤ L.length) (hc : L.length ≤ c) : RB w B (if c = k then A else A.map (·.add (k * 1))) (L.drop k) := by
  have h1 := Reads.cut h hk hc
  unfold RB
  rw [List.length_drop, ← cells_drop]
  simpa using h1
theorem bcell {W w1 : World} (hb : Below W.heap.size W w1) : (∀ b o, b < W.heap.size → w1.cell? ⟨b, o, none⟩ = W.cell? ⟨b, o, none⟩) ∧ (∀ b o, b < W.heap.size → w1.frozen? ⟨b, o, none⟩ = W.frozen? ⟨b, o, none⟩) :=
  ⟨fun b o h => hb.cell (p := ⟨b, o, none⟩) h, fun b o h => hb.frozen (p := ⟨b, o, none⟩) h⟩
theorem rb_cut1 {w : World} {B : Nat} {A : Option Addr} {L : List UInt8} (h : RB w B A L) {k c : Nat} (hk : k ≤ L.length) (hc : L.length ≤ c) (hck : c ≠ k) : RB w B (A.map (fun x => x.add k)) (L.drop k) := by
  have h1 := rb_cut h hk hc
  rw [if_neg hck, Nat.mul_one] at h1
  exact h1
theorem rb_cut0 {w : World} {B : Nat} {A : Option Addr} {L : List UInt8} (h : RB w B A L) {k c : Nat} (hk : k ≤ L.length) (hc : L.length ≤ c) (hck : c = k) : RB w B A (L.drop k) := by
  have h1 := rb_cut h hk hc
  rw [if_pos hck] at h1
  exact h1
theorem below3 {B g : Nat} {w0 w : World} (h : Below B w0 w) (hg : B ≤ g) (a b c : Value) : Below B w0 (((w.setCell ⟨g, 0, none⟩ a).setCell ⟨g, 1, none⟩ b).setCell ⟨g, 2, none⟩ c) := ((h.setCell hg _).setCell hg _).setCell hg _
theorem two_then {w w1 : World} {o p : Obj} (h : Below ((w.alloc o).alloc p).heap.size ((w.alloc o).alloc p) w1) : Below w.heap.size w w1 :=
  (((Below.refl _ _).alloc (Nat.le_refl _) o).alloc (by simp) p).trans (h.mono (by simp; omega))
theorem rb_take {w : World} {B : Nat} {A : Option Addr} {L : List UInt8} (h : RB w B A L) (k : Nat) (hk : k ≤ L.length) : RB w B A (L.take k) := by
  refine ⟨by rw [cells_length]; simp, fun h0 => ?_⟩
  obtain ⟨ad, e, hb', hcc⟩ := h.2 (by rw [List.length_take] at h0; omega)
  refine ⟨ad, e, hb', fun j u hu => hcc j u ?_⟩
  rw [← cells_take, List.getElem?_take] at hu
  split at hu
  · exact hu
  · cases hu
theorem rb_new (w : World) (L : List UInt8) : RB (w.alloc (.cells (cells L).toArray 5)) (w.heap.size + 1) (some ⟨w.heap.size, 0, none⟩) L := by
  refine ⟨by simp [cells_length], fun h0 => ⟨_, rfl, by simp, fun j u hu => ?_⟩⟩
  have h := heap_alloc_new w (.cells (cells L).toArray 5)
  have e : (⟨w.heap.size, 0, none⟩ : Addr).add j = ⟨w.heap.size, j, none⟩ := by unfold Addr.add; split <;> simp_all
  rw [e, (blk_cell h j).1]
  simpa using hu
theorem aw_str {w : World} {A : Option Addr} {L : List UInt8} (h : RB w w.heap.size A L) (n c : Nat) (hn : n = L.length) : (convert 24 9 (.slice A n c)).run Tryd.prog w = .ok (.string ⟨L.toArray⟩) w :=
  run_str 24 5 9 Tryd.underlying24 Tryd.underlying5 Tryd.underlying9 h n c hn
def GivesR (r : List UInt8 × Nat) (w : World) (e : Ending) (w' : World) : Prop :=
  ∃ A c, e = .returned (.tuple #[.slice A r.1.length c, .int .i64 (r.2 : Int)]) ∧ RB w' w'.heap.size A r.1 ∧ Below w.heap.size w w'
theorem GivesR.bytes {L : List UInt8} {w w' : World} {e : Ending} (h : GivesBytes L w e w') : GivesR (L, 0) w e w' := by
  obtain ⟨A, c, he, ho, hb⟩ := h
  exact ⟨A, c, he, own_rb ho, hb⟩
theorem GivesR.err {w w' : World} {e : Ending} (he : e = .returned (.tuple #[.slice none 0 0, .int .i64 1])) (hb : Below w.heap.size w w') : GivesR ([], 1) w e w' :=
  ⟨none, 0, he, RB.none_ _ _, hb⟩
theorem own_kept {w w' : World} {base n : Nat} {v : Value} {xs : List Value} (h : w.ownsRow base 5 1 v n xs) (hb : Below w.heap.size w w') : w'.ownsRow base 5 1 v n xs :=
  World.ownsRow.kept h (row := none) ⟨hb.os, hb.tape, hb.output, hb.size, fun i hi _ => hb.block i hi⟩ (Classical.em _)
theorem text_toList (L : List UInt8) : (text L).toList = L := by
  rw [Lib.toList_data]
  rfl
theorem text_eq (L M : List UInt8) : ((text L).toList == (text M).toList) = decide (L = M) := by
  rw [text_toList, text_toList, Bool.eq_iff_iff]
  simp
end
section
def hexD : List UInt8 := [48, 49, 50, 51, 52, 53, 54, 55, 56, 57, 97, 98, 99, 100, 101, 102]
def hexd (n : Nat) : UInt8 := hexD.getD n 0
def hexB (b : UInt8) : List UInt8 := [hexd (b.toNat / 16), hexd (b.toNat % 16)]
def hexL (s : Bs) : Bs := s.flatMap hexB
def digL (c : UInt8) : Nat :=
  if 48 ≤ c.toNat ∧ c.toNat ≤ 57 then c.toNat - 48 else if 97 ≤ c.toNat ∧ c.toNat ≤ 102 then c.toNat - 87 else if 65 ≤ c.toNat ∧ c.toNat ≤ 70 then c.toNat - 55 else 16
theorem digL_hexd : ∀ n, n < 16 → digL (hexd n) = n := by decide
def parseK (s : Bs) : Nat → Option Bs
  | 0 => some []
  | k + 1 => match parseK s k with
    | none => none
    | some o => if digL (s.getD (2 * k) 0) = 16 ∨ digL (s.getD (2 * k + 1) 0) = 16 then none else some (o ++ [UInt8.ofNat (16 * digL (s.getD (2 * k) 0) + digL (s.getD (2 * k + 1) 0))])
theorem hexL_length (s : Bs) : (hexL s).length = 2 * s.length := by
  induction s with
  | nil => rfl
  | cons a s ih => simp [hexL, hexB] at ih ⊢; omega
theorem hexL_get (s : Bs) : ∀ k, k < s.length → (hexL s).getD (2 * k) 0 = hexd ((s.getD k 0).toNat / 16) ∧ (hexL s).getD (2 * k + 1) 0 = hexd ((s.getD k 0).toNat % 16) := by
  induction s with
  | nil => intro k h; simp at h
  | cons a s ih =>
    intro k h
    have e : hexL (a :: s) = hexd (a.toNat / 16) :: hexd (a.toNat % 16) :: hexL s := rfl
    rw [e]
    cases k with
    | zero => exact ⟨rfl, rfl⟩
    | succ k =>
      have := ih k (by simpa using h)
      rw [show 2 * (k + 1) = 2 * k + 1 + 1 by omega]
      simpa using this
theorem parse_hexK (s : Bs) : ∀ k, k ≤ s.length → parseK (hexL s) k = some (s.take k)
  | 0, _ => by simp [parseK]
  | k + 1, h => by
    obtain ⟨h1, h2⟩ := hexL_get s k (by omega)
    have hb := (s.getD k 0).toNat_lt
    have d1 : digL (hexd ((s.getD k 0).toNat / 16)) = (s.getD k 0).toNat / 16 := digL_hexd _ (by omega)
    have d2 : digL (hexd ((s.getD k 0).toNat % 16)) = (s.getD k 0).toNat % 16 := digL_hexd _ (by omega)
    rw [parseK, parse_hexK s k (by omega)]
    simp only [h1, h2, d1, d2]
    rw [if_neg (by omega), List.take_succ_eq_append_getElem (by omega)]
    have e : 16 * ((s.getD k 0).toNat / 16) + (s.getD k 0).toNat % 16 = (s.getD k 0).toNat := by omega
    have e2 : s.getD k 0 = s[k] := by rw [List.getD, List.getElem?_eq_getElem (by omega)]; rfl
    rw [e, e2]
    simp
end
section
open Go.RowKit
section
variable {P : Program} {ops : Array Oper} {Q : Exit → Act → World → Prop} {md : Region.Mode}
theorem op_enter {i : Nat} {oi : Oper} {K : Act → World → Prop} {a : Act} {w : World} (f : FuncId) (args : Array Value) (dst : Option Tmp) (hi : ops[i]? = some oi) (hw : Region.wanted oi (yielded ops a.tmps) = true) (hy : (execOp a.eval oi).run P w = .ok (.enter f args) w) (hd : oi.dst = dst)
    (h : Calls P f args w fun e w' => ∃ v, e = .returned v ∧ K (a.put dst v) w') : wpOp P ops Q i K a w := by
  subst hd
  refine wpOp_step hi fun K' hK => ?_
  rw [if_pos hw]
  unfold Oper.wp
  rw [hy, Oper.upon_enter]
  refine h.mono ?_
  rintro e w' ⟨v, rfl, hv⟩
  exact hK _ _ hv
theorem load_run {o : Oper} {a : Act} {w : World} (ty : TypeId) (x : Operand) (b off : Nat) (cs : List Value) (d : TypeDesc) (ho : o.op = .load ty x) (hx : a.eval x = .pointer (some ⟨b, off, none⟩)) (hc : w.rangeAt b off cs)
    (hu : P.underlying ty = some d) (hd : d.isRow = true) (hi : (P.info? ty).map (·.size) = some cs.length) (C : Array Value) (hC : cs.toArray = C) : (execOp a.eval o).run P w = .ok (.value (.agg C)) w := by
  subst hC
  unfold execOp
  simp only [ho, hx, Instr.loadAt, Instr.sureAddr, Sem.run_bind, Sem.run_pure, Result.andThen_ok, run_loadVar_mid w b off ty cs d hc hu hd hi]
end
end
end Go.Proofs.YtpcopmpmcjkamaaDoor
