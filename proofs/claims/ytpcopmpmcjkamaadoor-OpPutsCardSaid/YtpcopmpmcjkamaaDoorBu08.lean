/- Lemmas under the proofs of this place: Gen7, IdsHexR, CurT. No statement is proved here. -/
import Derived.Test.YtpcopmpmcjkamaaDoorBu04
import Derived.Test.YtpcopmpmcjkamaaDoorBu02
import Derived.Test.YtpcopmpmcjkamaaDoorBu05
import Derived.Test.YtpcopmpmcjkamaaDoorBu06
import Derived.StillTailTactics
set_option linter.unusedSimpArgs false
set_option linter.unusedVariables false
set_option maxRecDepth 100000
set_option maxHeartbeats 16000000
namespace Go.Proofs.YtpcopmpmcjkamaaDoor
section
open Go.RowKit
theorem rb_up7 {w w' : World} {A : Option Addr} {L : List UInt8} (h : RB w w.heap.size A L) (hb : Below w.heap.size w w') : RB w' w'.heap.size A L := (h.below hb).more hb.size
def RBc (w : World) (A : Option Addr) (L : List UInt8) (c : Nat) : Prop := RB w w.heap.size A L ∧ L.length ≤ c ∧ c ≤ 9223372036854775807
theorem own_cap7 {w : World} {base c : Nat} {A : Option Addr} {L : List UInt8} (h : Own w base A L c) : RBc w A L c := by
  refine ⟨own_rb h, ?_⟩
  rcases h.2 with ⟨h1, h2⟩ | ⟨g, cap, cur, h1, _, _, h3, h4, _⟩
  · simp only [Value.slice.injEq] at h1
    omega
  · simp only [Value.slice.injEq] at h1
    unfold maxLen at h4
    omega
theorem append_far {ops : Array Oper} {rest : List Oper} {o : Oper} {a : Act} {Q : Exit → Act → World → Prop} (hgd : o.guard = none) (s x : Operand)
    (ho : o.op = .call { callee := .builtin .append, args := #[s, x], argTypes := #[24, 24] })
    {B B2 : Nat} {w0 wr : World} {v : Value} {P L : List UInt8} {A : Option Addr} {n m c k : Nat} (hs : a.eval s = v) (hown : wr.ownsRow B 5 1 v n (cells P)) (hb : Below B w0 wr) (hB : B ≤ w0.heap.size)
    (hx : a.eval x = .slice A m c) (hr : RB wr B2 A L) (hm : m = L.length) (hlen : n + m ≤ 1048576) (hk : n + m = k)
    (h : ∀ A' c' w1, w1.ownsRow B 5 1 (.slice A' k c') k (cells (P ++ L)) → Below B w0 w1 → wr.heap.size ≤ w1.heap.size → (∀ p u, wr.cell? p = some u → v.ownBlock ≠ some p.block → w1.cell? p = some u) →
      (∀ g, g < wr.heap.size → v.ownBlock ≠ some g → (Value.slice A' k c').ownBlock ≠ some g) → wpList Tryd.prog ops Q rest (a.put o.dst (.slice A' k c')) w1) :
    wpList Tryd.prog ops Q (o :: rest) a wr := by
  obtain ⟨i0, hi0, hz0, hz1, hz2⟩ := info_parts Tryd.info5
  subst hk hm
  refine wpList_append_any wr hgd s x 24 ho B 5 i0 _ 1 1 Tryd.underlying24 hi0 hz0 hz1 hz2 rfl (by omega) v n (cells P) hs hown B2 A L.length c (cells L) hx hr (cells_one _) (by unfold maxLen; omega) (by omega) (Nat.le_trans hB hb.size) fun v' w' ho' hg hat => ?_
  obtain ⟨A', c', rfl⟩ := own_form ho'
  rw [cells_append] at h
  refine h A' c' w' ho' (hb.grown hg (Nat.le_trans hB hb.size) fun j hj => (hown.lt j hj).1) hg.size (fun p u hp hne => hg.cell hp (fun e => hne e.symm)) (fun g hlt hne he => ?_)
  rcases hat with h1 | h1
  · exact hne (h1 ▸ he)
  · rw [he] at h1
    injection h1 with h1
    omega
theorem append_rb {ops : Array Oper} {rest : List Oper} {o : Oper} {a : Act} {Q : Exit → Act → World → Prop} (hgd : o.guard = none) (s x : Operand)
    (ho : o.op = .call { callee := .builtin .append, args := #[s, x], argTypes := #[24, 24] })
    {B B2 : Nat} {w0 wr : World} {v : Value} {P L : List UInt8} {A : Option Addr} {n m c k : Nat} (hs : a.eval s = v) (hown : wr.ownsRow B 5 1 v n (cells P)) (hb : Below B w0 wr) (hB : B ≤ w0.heap.size)
    (hx : a.eval x = .slice A m c) (hr : RB wr B2 A L) (hm : m = L.length) (hlen : n + m ≤ 1048576) (hk : n + m = k)
    (h : ∀ A' c' w1, w1.ownsRow B 5 1 (.slice A' k c') k (cells (P ++ L)) → Below B w0 w1 → wpList Tryd.prog ops Q rest (a.put o.dst (.slice A' k c')) w1) :
    wpList Tryd.prog ops Q (o :: rest) a wr := append_far hgd s x ho hs hown hb hB hx hr hm hlen hk fun A' c' w1 h1 h2 _ _ _ => h A' c' w1 h1 h2
end
section
open Go.RowKit
theorem index_text (L : Bs) (kk : IntKind) (k : Nat) (V : World) (hk : k < L.length) : (Instr.index 9 (.string (text L)) (.int kk (k : Int))).run Tryd.prog V = .ok (.int .u8 ((L.getD k 0).toNat : Int)) V := by
  rw [run_index_string _ _ _ _ _ Tryd.underlying9]
  have hs := text_size L
  rw [dif_pos ⟨by omega, by omega⟩]
  have e : (k : Int).toNat = k := by omega
  have hb : (text L)[(k : Int).toNat]'(by omega) = L.getD k 0 := by
    simp only [e]
    show L.toArray[k]'(by simpa using hk) = _
    simp [List.getD, List.getElem?_eq_getElem hk]
  rw [hb]
theorem hexD_text : text hexD = { data := #[48, 49, 50, 51, 52, 53, 54, 55, 56, 57, 97, 98, 99, 100, 101, 102] } := rfl
theorem refHex_any (L : Bs) (w : World) (hl : L.length ≤ 1000) :
    Calls Tryd.prog 34 #[.string (text L)] w fun e w' => e = .returned (.string (text (hexL L))) ∧ Below w.heap.size w w' := by
  obtain ⟨i0, hi0, hz0, hz1, hz2⟩ := info_parts Tryd.info5
  obtain ⟨t, ht⟩ : ∃ t, t = text L := ⟨_, rfl⟩
  obtain ⟨n, hn⟩ : ∃ n, n = L.length := ⟨_, rfl⟩
  have hts : t.size = n := by rw [ht, hn]; exact text_size L
  have HI : Hid (∀ k, k < n → ∀ V, (Instr.index 9 (.string t) (.int .i64 (k : Int))).run Tryd.prog V = .ok (.int .u8 ((L.getD k 0).toNat : Int)) V) := fun k hk V => by
    rw [ht]; exact index_text L .i64 k V (by omega)
  have HD : Hid (∀ k : Nat, k < 16 → ∀ V, (Instr.index 9 (.string { data := #[48, 49, 50, 51, 52, 53, 54, 55, 56, 57, 97, 98, 99, 100, 101, 102] }) (.int .u8 (k : Int))).run Tryd.prog V = .ok (.int .u8 ((hexd k).toNat : Int)) V) := fun k hk V => by
    rw [← hexD_text]; exact index_text hexD .u8 k V hk
  have HN := Lib.hid hn
  have hn1 : n ≤ 1000 := by omega
  rw [← ht]
  clear ht hn
  go_enter Tryd.func34, Tryd.ntmps34
  go_wp2
  go_loopw [4, 5] (fun v i wr => ∃ (k y : Nat), k ≤ n ∧ i = .int .i64 (k : Int) ∧ Hid (y = 2 * k) ∧ y ≤ 2000 ∧ wr.ownsRow w.heap.size 5 1 v y (cells ((L.take k).flatMap hexB)) ∧ Below w.heap.size w wr) (fun _ i _ => n - (intOf i).toNat)
  case atStart => exact ⟨0, 0, by omega, rfl, rfl, by omega, World.ownsRow_nil _ _ _ _, Below.refl _ _⟩
  case round =>
    obtain ⟨k, y, hk, rfl, HY, hy, hown, hb⟩ := hrel
    have u0 : (0 : Int) ≤ (k : Int) := by omega
    by_cases hlt : k < n
    · have u1 : (k : Int) < (n : Int) := by omega
      obtain ⟨b, hbx⟩ : ∃ b, b = L.getD k 0 := ⟨_, rfl⟩
      have hb256 := b.toNat_lt
      have hi := HI.out k hlt
      rw [← hbx] at hi
      obtain ⟨q, hq⟩ : ∃ q, q = b.toNat / 16 := ⟨_, rfl⟩
      obtain ⟨r, hr⟩ : ∃ r, r = b.toNat % 16 := ⟨_, rfl⟩
      have e1 : (b.toNat : Int) / 16 = (q : Int) := by omega
      have e2 : (b.toNat : Int) % 16 = (r : Int) := by omega
      have e3 : (b.toNat : Int).tdiv 16 = (q : Int) := by rw [Int.tdiv_eq_ediv_of_nonneg (by omega)]; exact e1
      have e4 : (b.toNat : Int).tmod 16 = (r : Int) := by rw [Int.tmod_eq_emod_of_nonneg (by omega)]; exact e2
      have hq16 : q < 16 := by omega
      have eq8 : IntKind.u8.wrap (q : Int) = (q : Int) := by rw [IntKind.wrap_u8']; omega
      have er8 : IntKind.u8.wrap (r : Int) = (r : Int) := by rw [IntKind.wrap_u8']; omega
      have hr16 : r < 16 := by omega
      obtain ⟨x1, hx1⟩ : ∃ x, x = hexd q := ⟨_, rfl⟩
      obtain ⟨x2, hx2⟩ : ∃ x, x = hexd r := ⟨_, rfl⟩
      have hd1 := HD.out q hq16
      have hd2 := HD.out r hr16
      rw [← hx1] at hd1
      rw [← hx2] at hd2
      have HF : Hid ((L.take (k + 1)).flatMap hexB = (L.take k).flatMap hexB ++ [x1, x2]) := by
        show _ = _
        have hkL : k < L.length := by have := HN.out; omega
        have e : L[k] = b := by rw [hbx, List.getD, List.getElem?_eq_getElem hkL]; rfl
        rw [List.take_succ_eq_append_getElem hkL, List.flatMap_append, e, hx1, hx2, hq, hr]
        simp [hexB]
      have HC : Hid ((#[.int .u8 (x1.toNat : Int), .int .u8 (x2.toNat : Int)] : Array Value) = (cells [x1, x2]).toArray) := rfl
      have hyk : y < 2000 - 1 := by have := HY.out; have := HN.out; omega
      have HLt := Lib.hid hlt
      clear hbx hq hr hx1 hx2 HI HD hb256
      go_wp2
      have HNW := Lib.hid (show Reads (wr.alloc (.cells #[.int .u8 (x1.toNat : Int), .int .u8 (x2.toNat : Int)] 5)) (wr.heap.size + 1) 1 (some ⟨wr.heap.size, 0, none⟩) 2 (cells [x1, x2]) from rb_new wr [x1, x2])
      have hz8 := hb.size
      go_region_law (refine step_append_any _ rfl (.tmp 12) (.tmp 25) _ rfl w.heap.size 5 i0 _ 1 1 Tryd.underlying24 hi0 hz0 hz1 hz2 rfl (by omega) _ y (cells ((L.take k).flatMap hexB)) rfl (World.ownsRow.drew (World.ownsRow.alloc hown _)) (wr.heap.size + 1) (some ⟨wr.heap.size, 0, none⟩) 2 2 (cells [x1, x2]) rfl (Reads.drew HNW.out) (cells_one _) (by simp only [maxLen]; omega) (by omega) (by simp; omega) ?_; intro v9 w9 ho9 hg9 hat9; have hb9 : Below w.heap.size w w9 := (Below.drew (hb.alloc hz8 _)).grown hg9 (by show w.heap.size ≤ (wr.alloc _).heap.size; simp; omega) (fun q hq => (hown.lt q hq).1); rw [← cells_append, ← HF.out] at ho9)
      all_goals
        clear hown hb hg9 hat9 HNW
        go_wp2
        have hlt := HLt.out
        refine ⟨⟨k + 1, y + 2, by omega, by go_num, by show _ = _; rw [HY.out]; omega, by omega, ho9, hb9⟩, ?_⟩
        simp [intOf]; omega
    · have hfin : (L.take k).flatMap hexB = hexL L := by unfold hexL; rw [List.take_of_length_le (by have := HN.out; omega)]
      rw [hfin] at hown
      have hlen : (hexL L).length = y := by have := hown.1; rw [cells_length] at this; omega
      obtain ⟨A8, c8, rfl⟩ := own_form hown
      have hfr : RB wr wr.heap.size A8 (hexL L) := by refine Reads.of_own (base := w.heap.size) (e := 5) (c := c8) ?_; rw [hlen]; exact hown
      have est := aw_str hfr y c8 hlen.symm
      clear hfin hlen hown hfr HI HD
      go_wp2
      go_ret
      exact ⟨rfl, hb⟩
end
section
open Go.RowKit
abbrev St := Option (List UInt8)
def stepTake (n : Int) : St → St × List UInt8
  | none => (none, [])
  | some L => if n < 0 ∨ (L.length : Int) < n then (none, []) else (some (L.drop n.toNat), L.take n.toNat)
end
end Go.Proofs.YtpcopmpmcjkamaaDoor
