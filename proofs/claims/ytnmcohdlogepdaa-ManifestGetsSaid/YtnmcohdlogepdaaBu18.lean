/- Lemmas under the proofs of this place: ManROne, CrcRV. No statement is proved here. -/
import Derived.Test.YtnmcohdlogepdaaBu15
import Derived.Test.YtnmcohdlogepdaaBu12
import Derived.Test.YtnmcohdlogepdaaBu08
import Derived.Test.YtnmcohdlogepdaaBu16
import Derived.Lib.SmallJoins
section
set_option linter.unusedVariables false
namespace Go.Proofs.Ytnmcohdlogepdaa
open Go.RowKit
def Pt.num (p : Pt) (k : Nat) : Nat := if k = 0 then p.f.toNat else if k = 1 then p.s.toNat else p.o.toNat
def Pt.numsL (p : Pt) : Nat → List UInt8
  | 0 => []
  | k + 1 => numsL p k ++ putL (p.num k)
theorem Pt.num_le {p : Pt} (h : p.ok = true) (k : Nat) : p.num k ≤ 2147483647 := by
  have := Pt.ok_iff.1 h
  unfold Pt.num
  split
  · omega
  · split <;> omega
theorem Pt.numsL_one (p : Pt) : p.numsL 3 = p.one := by
  simp [Pt.numsL, Pt.one, Pt.num]
theorem Pt.num_int {p : Pt} (h : p.ok = true) : p.f = (p.num 0 : Int) ∧ p.s = (p.num 1 : Int) ∧ p.o = (p.num 2 : Int) := by
  have := Pt.ok_iff.1 h
  unfold Pt.num
  simp
  omega
set_option maxRecDepth 100000 in
set_option maxHeartbeats 2000000 in
theorem rone_any (p : Pt) (w : World) (h : p.ok = true) : Calls Try.prog 48 #[.agg #[.int .i64 p.f, .int .i64 p.s, .int .i64 p.o]] w (GivesOne p.one w) := by
  obtain ⟨e0, e1, e2⟩ := Pt.num_int h
  have HN := Lib.hid h
  have a0 := fun w' => Try.partAgg w'
  have s0 := fun w' => Try.partSize w'
  have HPut : Hid (∀ W k, Calls Try.prog 57 #[.int .i64 (p.num k : Int)] W (GivesBytes (putL (p.num k)) W)) := fun W k => refPut_yes (p.num k) W (p.num_le h k)
  have HOne : Hid (p.numsL 3 = p.one) := p.numsL_one
  rw [e0, e1, e2]
  obtain ⟨x, hx⟩ : ∃ x, x = p.num 0 := ⟨_, rfl⟩
  obtain ⟨y, hy⟩ : ∃ x, x = p.num 1 := ⟨_, rfl⟩
  obtain ⟨z, hz⟩ : ∃ x, x = p.num 2 := ⟨_, rfl⟩
  rw [← hx, ← hy, ← hz]
  have HXYZ : Hid (∀ k, k < 3 → [x, y, z].getD k 0 = p.num k) := fun k hk => by
    match k with
    | 0 => exact hx
    | 1 => exact hy
    | 2 => exact hz
    | k + 3 => omega
  clear h e0 e1 e2 hx hy hz
  go_enter Try.func48, Try.ntmps48
  go_wp2
  obtain ⟨w2, hw2⟩ : ∃ w2, w2 = (w.alloc (.cells #[.int .i64 (x : Int), .int .i64 (y : Int), .int .i64 (z : Int)] 27)).alloc (.cells #[.int .i64 (x : Int), .int .i64 (y : Int), .int .i64 (z : Int)] 3) := ⟨_, rfl⟩
  have hb2 : Below w.heap.size w w2 := by rw [hw2]; exact ((Below.refl w.heap.size w).alloc (Nat.le_refl _) _).alloc (by simp) _
  have hK : Blk w2 (w.heap.size + 1) 3 #[.int .i64 (x : Int), .int .i64 (y : Int), .int .i64 (z : Int)] := by
    have h := Blk.new (w.alloc (.cells #[.int .i64 (x : Int), .int .i64 (y : Int), .int .i64 (z : Int)] 27)) 3 #[.int .i64 (x : Int), .int .i64 (y : Int), .int .i64 (z : Int)]
    rw [hw2]
    rwa [show (w.alloc (.cells #[.int .i64 (x : Int), .int .i64 (y : Int), .int .i64 (z : Int)] 27)).heap.size = w.heap.size + 1 by simp] at h
  rw [← hw2]
  have HCell : Hid (∀ W k, Below w2.heap.size w2 W → k < 3 → W.cell? ⟨w.heap.size + 1, k, none⟩ = some (.int .i64 (([x, y, z].getD k 0 : Nat) : Int))) := fun W k hb hk => by
    rw [(Blk.below hK hb hK.lt).cell]
    match k with
    | 0 => rfl
    | 1 => rfl
    | 2 => rfl
    | k + 3 => omega
  have HB2 := Lib.hid hb2
  clear hw2 hb2 hK
  go_loopw [3, 5] (fun v i wr => ∃ (k q : Nat) (A : Option Addr) (c : Nat), k ≤ 3 ∧ q ≤ 5 * k ∧ v = .slice A q c ∧ i = .int .i64 (k : Int) ∧ Hid (q = (p.numsL k).length) ∧ Hid (wr.ownsRow w2.heap.size 5 1 (.slice A q c) q (cells (p.numsL k)) ∧ Below w2.heap.size w2 wr)) (fun _ i _ => 3 - (intOf i).toNat)
  case atStart => exact ⟨0, 0, none, 0, by omega, by omega, rfl, rfl, rfl, World.ownsRow_nil _ _ _ _, Below.refl _ _⟩
  case round =>
    obtain ⟨k, q, A, c, hk, hq, rfl, rfl, HQ, HW⟩ := hrel
    by_cases hlt : k < 3
    · have d0 : decide ((k : Int) < 3) = true := decide_eq_true (by omega)
      have d1 : decide (k < 3) = true := decide_eq_true hlt
      obtain ⟨hO, hB⟩ := HW.out
      have hc := HCell.out wr k hB hlt
      rw [HXYZ.out k hlt] at hc
      obtain ⟨n, hn⟩ : ∃ n, n = p.num k := ⟨_, rfl⟩
      obtain ⟨L, hL⟩ : ∃ L, L = putL (p.num k) := ⟨_, rfl⟩
      have HP1 : Hid (∀ W, Calls Try.prog 57 #[.int .i64 (n : Int)] W (GivesBytes L W)) := fun W => by rw [hn, hL]; exact HPut.out W k
      rw [← hn] at hc
      have hl5 : L.length ≤ 5 := by rw [hL]; exact putL_len5 _ (Pt.num_le HN.out k)
      obtain ⟨m, hm⟩ : ∃ m, m = L.length := ⟨_, rfl⟩
      have HM := Lib.hid hm
      have HL : Hid (p.numsL (k + 1) = p.numsL k ++ L) := by show _ = _; rw [hL]; rfl
      have hm5 : m ≤ 5 := by omega
      clear hn hL hl5 hm hO hB
      go_wp2_with (first
        | (go_at_call 57; (with_reducible refine (HP1.out wr).mono ?_); rintro e w3 ⟨A3, c3, rfl, ho3, hb3⟩; have r3 := own_rb ho3; have o3 := own_kept HW.out.1 hb3; have b3 := HW.out.2.trans (hb3.mono HW.out.2.size); rw [← HM.out])
        | (at_builtin; refine append_rb rfl (.tmp 27) (.tmp 28) rfl rfl o3 b3 (Nat.le_refl _) rfl r3 HM.out (by omega) rfl ?_; intro A4 c4 w4 o4 b4))
      go_roundw
      case rel => exact ⟨k + 1, q + m, A4, c4, by omega, by omega, rfl, by go_num, by show _ = _; rw [HL.out, List.length_append, HQ.out, HM.out], by rw [HL.out]; exact o4, b4⟩
      case measure => simp [intOf]; omega
    · obtain rfl : k = 3 := by omega
      go_wp2
      go_ret
      have hq2 := HQ.out
      rw [HOne.out] at hq2
      have hO := HW.out.1
      rw [HOne.out] at hO
      exact ⟨A, c, by rw [← hq2]; rfl, by
        show World.ownsRow _ _ _ _ _ _ _
        rw [← hq2]
        exact Joins.ownsRow_le hO HB2.out.size, HB2.out.trans (HW.out.2.mono HB2.out.size)⟩
end Go.Proofs.Ytnmcohdlogepdaa
end
section
set_option linter.unusedVariables false
namespace Go.Proofs.Ytnmcohdlogepdaa
open Go.RowKit
theorem refOpen_view (L M : List UInt8) (A : Option Addr) (c : Nat) (w : World) (hr : RB w w.heap.size A L) (hlc : L.length ≤ c) (hc : c ≤ 9223372036854775807) (hl : L.length ≤ 1048576) (ho : openL L = some M) :
    Calls Try.prog 22 #[.slice A L.length c] w fun e w' => e = .returned (.tuple #[.slice A M.length c, .int .i64 0]) ∧ Below w.heap.size w w' := by
  have h4 : ¬ L.length < 4 := fun h => by unfold openL at ho; rw [if_neg (by omega)] at ho; cases ho
  obtain ⟨n, hn⟩ : ∃ n, n = L.length - 4 := ⟨_, rfl⟩
  have hn4 : L.length = n + 4 := by omega
  have hp : (L.take n).length = n := by rw [List.length_take]; omega
  have hrp : RB w w.heap.size A (L.take n) := rb_take hr n (by omega)
  have hM : M.length = n := by have := (openL_some ho).2; omega
  have hse : sealL (L.take n) = L := by
    unfold openL at ho
    rw [← hn] at ho
    split at ho
    · rename_i h; exact h.2
    · cases ho
  rw [hn4, hM]
  refine refOpen_core n A c L (sealL (L.take n)) w (by omega) hc (sealL (L.take n) == L) hr hn4.symm (fun w e w' => e = .returned (.tuple #[.slice A n c, .int .i64 0]) ∧ Below w.heap.size w w') (fun W hb => ?_) rfl (fun hb w' h => ⟨rfl, h⟩) (fun hb w' h => ?_)
  · have := refSeal_any (L.take n) A c _ W (hrp.below hb) (by omega)
    rwa [hp] at this
  · rw [hse] at hb; simp at hb
end Go.Proofs.Ytnmcohdlogepdaa
end
