/- Operations on words of 32 bits, as the model spells them. Plain lemmas; no statement is proved here. -/
import Derived.Test.YtmmilgjdngdnfaaDoorMem
import Derived.Test.YtmmilgjdngdnfaaDoorShaPlain
import Derived.Laws.BitsAllLaws
import Derived.Laws.ShiftsVarLaws
set_option linter.unusedVariables false
namespace Go.Proofs.YtmmilgjdngdnfaaDoor
open Go.RowKit

theorem w_lt (x : UInt32) : x.toNat < 4294967296 := x.toNat_lt
theorem w_xor (x y : UInt32) : bits .xor .u32 (x.toNat : Int) (y.toNat : Int) = ((x ^^^ y).toNat : Int) := by rw [u32_xor_nat _ _ (w_lt x) (w_lt y), UInt32.toNat_xor]
theorem w_and (x y : UInt32) : bits .and .u32 (x.toNat : Int) (y.toNat : Int) = ((x &&& y).toNat : Int) := by rw [u32_and_nat _ _ (w_lt x) (w_lt y), UInt32.toNat_and]
theorem w_or (x y : UInt32) : bits .or .u32 (x.toNat : Int) (y.toNat : Int) = ((x ||| y).toNat : Int) := by rw [u32_or_nat _ _ (w_lt x) (w_lt y), UInt32.toNat_or]
theorem w_not (x : UInt32) : bits .xor .u32 (x.toNat : Int) 4294967295 = ((x ^^^ 4294967295).toNat : Int) := w_xor x 4294967295
theorem w_add (x y : UInt32) : ((x.toNat : Int) + (y.toNat : Int)) % 4294967296 = ((x + y).toNat : Int) := by
  rw [UInt32.toNat_add]; omega
theorem w_shr (x : UInt32) (n : Nat) (h : n < 32) : (x.toNat : Int) / 2 ^ n = ((x >>> UInt32.ofNat n).toNat : Int) := by
  have e : (UInt32.ofNat n).toNat % 32 = n := by rw [UInt32.toNat_ofNat']; omega
  rw [UInt32.toNat_shiftRight, e, Nat.shiftRight_eq_div_pow]
  simp
theorem w_shl (x : UInt32) (n : Nat) (h : n < 32) : (x.toNat : Int) * 2 ^ n % 4294967296 = ((x <<< UInt32.ofNat n).toNat : Int) := by
  have e : (UInt32.ofNat n).toNat % 32 = n := by rw [UInt32.toNat_ofNat']; omega
  rw [UInt32.toNat_shiftLeft, e, Nat.shiftLeft_eq]
  simp
theorem w_byte (b : UInt8) : (b.toNat : Int) = ((b.toUInt32).toNat : Int) := by simp
/-- The lowest byte of a word. -/
theorem w_low (x : UInt32) : IntKind.u8.wrap (x.toNat : Int) = ((x.toUInt8).toNat : Int) := by
  rw [IntKind.wrap_u8']
  simp
theorem w_rot (x : UInt32) (n : Nat) (h0 : 0 < n) (h1 : n < 32) : bits .or .u32 ((x.toNat : Int) / 2 ^ n) ((x.toNat : Int) * 2 ^ (32 - n) % 4294967296) = ((rotR x n).toNat : Int) := by
  rw [w_shr x n h1, w_shl x (32 - n) (by omega), w_or]
  rfl

/-- Words as cells. -/
def wcells (L : List UInt32) : List Value := L.map fun x => .int .u32 (x.toNat : Int)
theorem wcells_length (L : List UInt32) : (wcells L).length = L.length := by simp [wcells]
theorem wcells_one (L : List UInt32) : ∀ u ∈ wcells L, u.oneCell' = true := by
  intro u hu
  simp only [wcells, List.mem_map] at hu
  obtain ⟨b, _, rfl⟩ := hu
  rfl
theorem wcells_append (L M : List UInt32) : wcells (L ++ M) = wcells L ++ wcells M := by simp [wcells]
theorem wcells_get (L : List UInt32) (k : Nat) (h : k < L.length) : (wcells L)[k]? = some (.int .u32 (L[k].toNat : Int)) := by
  simp [wcells, List.getElem?_eq_getElem h]
/-- Words: the slice value of address A and length n reads as L, and lies below block B. -/
def RW (w : World) (B : Nat) (A : Option Addr) (L : List UInt32) : Prop := Reads w B 1 A L.length (wcells L)
theorem RW.at_ {w : World} {B : Nat} {A : Option Addr} {L : List UInt32} (h : RW w B A L) (hn : 0 < L.length) : ∃ b off, A = some ⟨b, off, none⟩ ∧ b < B ∧ ∀ k (hk : k < L.length), w.cell? ⟨b, off + k, none⟩ = some (.int .u32 (L[k].toNat : Int)) := by
  obtain ⟨ad, e, hb, hc⟩ := h.2 hn
  have h0 := hc 0 _ (wcells_get L 0 hn)
  obtain ⟨b, off, p⟩ := ad
  have e0 : (⟨b, off, p⟩ : Addr).add 0 = ⟨b, off, p⟩ := by simp [Addr.add]
  rw [e0] at h0
  have hp : p = none := World.cell?_spot h0
  subst hp
  refine ⟨b, off, e, hb, fun k hk => ?_⟩
  have := hc k _ (wcells_get L k hk)
  have ea : (⟨b, off, none⟩ : Addr).add k = ⟨b, off + k, none⟩ := by unfold Addr.add; split <;> simp_all
  rwa [ea] at this

theorem w_word (x0 x1 x2 x3 : UInt8) : bits .or .u32 (bits .or .u32 (bits .or .u32 ((x0.toNat : Int) % 4294967296 * 16777216 % 4294967296) ((x1.toNat : Int) % 4294967296 * 65536 % 4294967296)) ((x2.toNat : Int) % 4294967296 * 256 % 4294967296)) ((x3.toNat : Int) % 4294967296) = ((wordL x0 x1 x2 x3).toNat : Int) := by
  have e : ∀ b : UInt8, (b.toNat : Int) % 4294967296 = ((b.toUInt32).toNat : Int) := fun b => by have := b.toNat_lt; rw [Int.emod_eq_of_lt (by omega) (by omega)]; simp
  rw [e, e, e, e]
  have h24 := w_shl x0.toUInt32 24 (by omega)
  have h16 := w_shl x1.toUInt32 16 (by omega)
  have h8 := w_shl x2.toUInt32 8 (by omega)
  rw [show (16777216 : Int) = 2 ^ 24 from rfl, show (65536 : Int) = 2 ^ 16 from rfl, show (256 : Int) = 2 ^ 8 from rfl, h24, h16, h8, w_or, w_or, w_or]
  rfl

theorem Tryd.infoU32 : (Tryd.prog.info? 51).map (fun i => (i.zero, i.size, i.bytes)) = some (some (.int .u32 0), 1, 4) := by kernel_rfl
theorem wown_form {w : World} {base : Nat} {v : Value} {n : Nat} {xs : List Value} (h : w.ownsRow base 51 1 v n xs) : ∃ A c, v = .slice A n c := by
  rcases h.2 with ⟨rfl, rfl⟩ | ⟨g, cap, cur, rfl, _⟩
  · exact ⟨none, 0, rfl⟩
  · exact ⟨_, _, rfl⟩
/-- 'append(out, word)' at the call, the word in a new block of its own. -/
theorem append_word {ops : Array Oper} {rest : List Oper} {o : Oper} {a : Act} {Q : Exit → Act → World → Prop} (hgd : o.guard = none) (s x : Operand)
    (ho : o.op = .call { callee := .builtin .append, args := #[s, x], argTypes := #[59, 59] })
    {B : Nat} {w0 wr : World} {v : Value} {P : List UInt32} {z : Int} (b : UInt32) (n : Nat) (hs : a.eval s = v) (hown : wr.ownsRow B 51 1 v n (wcells P)) (hb : Below B w0 wr) (hB : B ≤ w0.heap.size)
    (hz : z = (b.toNat : Int)) (hx : a.eval x = .slice (some ⟨wr.heap.size, 0, none⟩) 1 1) (hlen : n + 1 ≤ 1048576)
    (h : ∀ v' w1, w1.ownsRow B 51 1 v' (n + 1) (wcells (P ++ [b])) → Below B w0 w1 → wpList Tryd.prog ops Q rest (a.put o.dst v') w1) :
    wpList Tryd.prog ops Q (o :: rest) a (wr.alloc (.cells #[.int .u32 z] 51)) := by
  obtain ⟨i0, hi0, hz0, hz1, hz2⟩ := info_parts Tryd.infoU32
  subst hz
  refine wpList_append_own _ hgd s x 59 ho B 51 i0 _ 1 4 Tryd.underlying59 hi0 hz0 hz1 hz2 rfl (by decide) v n (wcells P) hs (hown.alloc _) ⟨wr.heap.size, 0, none⟩ 1 1 (wcells [b]) hx rfl (cell_one_new _ _ _) (wcells_one _)
    (by unfold maxLen; omega) (by omega) (by have := hb.size; simp; omega) ?_
  intro v' w1 hown' hgrow _
  refine h v' w1 (by rw [wcells_append]; exact hown') ?_
  exact ((hb.alloc (Nat.le_trans hB hb.size) _)).grown hgrow (by have := hb.size; simp; omega) (fun k hk => (hown.lt k hk).1)
theorem rw_new (w : World) (L : List UInt32) : RW (w.alloc (.cells (wcells L).toArray 51)) (w.heap.size + 1) (some ⟨w.heap.size, 0, none⟩) L := by
  refine ⟨by simp [wcells_length], fun h0 => ⟨_, rfl, by simp, fun j u hu => ?_⟩⟩
  have h := heap_alloc_new w (.cells (wcells L).toArray 51)
  have e : (⟨w.heap.size, 0, none⟩ : Addr).add j = ⟨w.heap.size, j, none⟩ := by unfold Addr.add; split <;> simp_all
  rw [e, (blk_cell h j).1]
  simpa using hu
theorem RW.below {w w' : World} {B : Nat} {A : Option Addr} {L : List UInt32} (h : RW w B A L) (hb : Below B w w') : RW w' B A L := Reads.below h hb
theorem RW.more {w : World} {B B' : Nat} {A : Option Addr} {L : List UInt32} (h : RW w B A L) (hB : B ≤ B') : RW w B' A L := Reads.more h hB
theorem wown_rw {w : World} {base : Nat} {A : Option Addr} {L : List UInt32} {c : Nat} (h : w.ownsRow base 51 1 (.slice A L.length c) L.length (wcells L)) : RW w w.heap.size A L := Reads.of_own h

end Go.Proofs.YtmmilgjdngdnfaaDoor
