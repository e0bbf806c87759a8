/- The walks of num.Put and of the reference's Put: the bytes of a number. -/
import Derived.Test.YtdiihnpnjgadeaaRows
import Derived.Test.YtdiihnpnjgadeaaBase
import Derived.Test.YtdiihnpnjgadeaaPlain
import Derived.WalkKit
import Derived.WalkSpells
import Derived.WalkLawsBesides
namespace Go.Proofs.Ytdiihnpnjgadeaa
open Go.RowKit

theorem Try.info5 : (Try.prog.info? 5).map (fun i => (i.zero, i.size, i.bytes)) = some (some (.int .u8 0), 1, 1) := by kernel_rfl

/-- A slice of the call's own that reads as L. -/
def Own (w : World) (base : Nat) (A : Option Addr) (L : List UInt8) (c : Nat) : Prop := w.ownsRow base 5 1 (.slice A L.length c) L.length (cells L)

/-- A call that gives bytes and no error. -/
def GivesBytes (L : List UInt8) (w : World) (e : Ending) (w' : World) : Prop :=
  ∃ A c, e = .returned (.tuple #[.slice A L.length c, .int .i64 0]) ∧ Own w' w.heap.size A L c ∧ Below w.heap.size w w'

theorem byte_cell (n : Nat) (h : n < 128) : (Value.int .u8 (n : Int)) = .int .u8 ((UInt8.ofNat n).toNat : Int) := by rw [ofNat_toNat _ (by omega)]

theorem own_form {w : World} {base : Nat} {v : Value} {n : Nat} {xs : List Value} (h : w.ownsRow base 5 1 v n xs) : ∃ A c, v = .slice A n c := by
  rcases h.2 with ⟨rfl, rfl⟩ | ⟨g, cap, cur, rfl, _⟩
  · exact ⟨none, 0, rfl⟩
  · exact ⟨_, _, rfl⟩

/-- 'append(out, byte)' at the call, the byte in a new block of its own. -/
theorem append_byte {ops : Array Oper} {rest : List Oper} {o : Oper} {a : Act} {Q : Exit → Act → World → Prop} (hgd : o.guard = none) (s x : Operand)
    (ho : o.op = .call { callee := .builtin .append, args := #[s, x], argTypes := #[22, 22] })
    {B : Nat} {w0 wr : World} {v : Value} {P : List UInt8} {z : Int} (b : UInt8) (hs : a.eval s = v) (hown : wr.ownsRow B 5 1 v P.length (cells P)) (hb : Below B w0 wr) (hB : B ≤ w0.heap.size)
    (hz : z = (b.toNat : Int)) (hx : a.eval x = .slice (some ⟨wr.heap.size, 0, none⟩) 1 1) (hlen : P.length + 1 ≤ 1048576)
    (h : ∀ v' w1, w1.ownsRow B 5 1 v' (P ++ [b]).length (cells (P ++ [b])) → Below B w0 w1 → wpList Try.prog ops Q rest (a.put o.dst v') w1) :
    wpList Try.prog ops Q (o :: rest) a (wr.alloc (.cells #[.int .u8 z] 5)) := by
  obtain ⟨i0, hi0, hz0, hz1, hz2⟩ := info_parts Try.info5
  subst hz
  refine wpList_append_own _ hgd s x 22 ho B 5 i0 _ 1 1 Try.underlying22 hi0 hz0 hz1 hz2 rfl (by decide) v P.length (cells P) hs (hown.alloc _) ⟨wr.heap.size, 0, none⟩ 1 1 (cells [b]) hx rfl (cell_one_new _ _ _) (cells_one _)
    (by unfold maxLen; omega) (by omega) (by have := hb.size; simp; omega) ?_
  intro v' w1 hown' hgrow _
  have e : (P ++ [b]).length = P.length + 1 := by simp
  refine h v' w1 (by rw [e, cells_append]; exact hown') ?_
  exact ((hb.alloc (Nat.le_trans hB hb.size) _)).grown hgrow (by have := hb.size; simp; omega) (fun k hk => (hown.lt k hk).1)

theorem isNumber_yes (n : Int) (w : World) (h0 : 0 ≤ n) (h1 : n ≤ 2147483647) : Calls Try.prog 31 #[.int .i64 n] w fun e w' => e = .returned (.bool true) ∧ w = w' := by
  go_enter Try.func31, Try.ntmps31
  go_wp2
  go_ret
  exact ⟨rfl, rfl⟩

theorem isNumber_no (n : Int) (w : World) (h : n < 0 ∨ 2147483647 < n) : Calls Try.prog 31 #[.int .i64 n] w fun e w' => e = .returned (.bool false) ∧ w = w' := by
  rcases h with h | h
  · go_enter Try.func31, Try.ntmps31
    go_wp2
    go_ret
    exact ⟨rfl, rfl⟩
  · have h0 : 0 ≤ n := by omega
    have hd : decide (n ≤ 2147483647) = false := by simp; omega
    go_enter Try.func31, Try.ntmps31
    go_wp2
    go_ret
    exact ⟨rfl, rfl⟩

set_option maxRecDepth 100000 in
set_option maxHeartbeats 1000000 in
theorem put_yes (n : Nat) (w : World) (h : n ≤ 2147483647) : Calls Try.prog 8 #[.int .i64 (n : Int)] w (GivesBytes (putL n) w) := by
  have hmk : ∀ w, (Instr.makeSlice 22 (.int .i64 0) (.int .i64 5)).run Try.prog w = .ok (.slice (some ⟨w.heap.size, 0, none⟩) 0 5) (w.alloc (.cells #[.int .u8 0, .int .u8 0, .int .u8 0, .int .u8 0, .int .u8 0] 5)) := fun _ => by kernel_rfl
  go_enter Try.func8, Try.ntmps8
  go_wp2_with (go_at_call 31; refine (isNumber_yes _ _ (by omega) (by omega)).mono ?_; rintro e w' ⟨rfl, rfl⟩)
  go_loopw [4, 0] (fun v m wr => ∃ (k : Nat) (P : List UInt8), m = .int .i64 (k : Int) ∧ k ≤ 2147483647 ∧ P ++ putL k = putL n ∧ wr.ownsRow w.heap.size 5 1 v P.length (cells P) ∧ Below w.heap.size w wr)
    (fun _ m _ => (intOf m).toNat)
  case atStart => exact ⟨n, [], rfl, h, rfl, World.ownsRow_made _ _ 5 (Nat.le_refl _) (by decide) rfl, (Below.refl _ _).alloc (Nat.le_refl _) _⟩
  case round =>
    obtain ⟨k, P, rfl, hk, hP, hown, hbw⟩ := hrel
    have hlen : P.length + (putL k).length ≤ 5 := by rw [← List.length_append, hP]; exact putL_len5 n h
    have hpos := putL_len_pos k
    have hlen1 : P.length + 1 ≤ 1048576 := by omega
    have HP : Hid (P ++ putL k = putL n) := hP
    clear hP hlen hpos
    by_cases hlt : 128 ≤ k
    · have hlt' : (128 : Int) ≤ (k : Int) := by omega
      obtain ⟨b, hb⟩ : ∃ b : UInt8, b = UInt8.ofNat (k % 128 + 128) := ⟨_, rfl⟩
      have HB : Hid (((k : Int) % 128 + 128) = (b.toNat : Int)) := by rw [hb, ofNat_toNat _ (by omega)]; show (k : Int) % 128 + 128 = _; omega
      have HQ : Hid ((P ++ [b]) ++ putL (k / 128) = putL n) := by show (P ++ [b]) ++ putL (k / 128) = putL n; rw [← HP.out, putL_big k hlt, hb]; simp
      clear hb
      go_wp2_with (at_builtin; refine append_byte rfl _ _ rfl b rfl hown hbw (Nat.le_refl _) HB.out rfl hlen1 ?_; intro v' w1 hown' hbw')
      go_roundw
      case rel => exact ⟨k / 128, P ++ [b], by go_num, by omega, HQ.out, hown', hbw'⟩
      case measure => simp [intOf]; omega
    · have hlt' : (k : Int) < 128 := by omega
      obtain ⟨b, hb⟩ : ∃ b : UInt8, b = UInt8.ofNat k := ⟨_, rfl⟩
      have HB : Hid ((k : Int) = (b.toNat : Int)) := by rw [hb, ofNat_toNat _ (by omega)]; rfl
      have HQ : Hid (P ++ [b] = putL n) := by show P ++ [b] = putL n; rw [← HP.out, putL_small k (by omega), hb]
      clear hb
      go_wp2_with (at_builtin; refine append_byte rfl _ _ rfl b rfl hown hbw (Nat.le_refl _) HB.out rfl hlen1 ?_; intro v' w1 hown' hbw')
      rw [HQ.out] at hown'
      obtain ⟨A, c, hv⟩ := own_form hown'
      go_ret2
      exact ⟨A, c, by rw [hv]; rfl, by rw [hv] at hown'; exact hown', hbw'⟩

/-- A call that gives no bytes and an error. -/
def GivesErr (k : Int) (w : World) (e : Ending) (w' : World) : Prop := e = .returned (.tuple #[.slice none 0 0, .int .i64 k]) ∧ w = w'

theorem put_no (n : Int) (w : World) (h : n < 0 ∨ 2147483647 < n) : Calls Try.prog 8 #[.int .i64 n] w (GivesErr 1 w) := by
  go_enter Try.func8, Try.ntmps8
  go_wp2_with (go_at_call 31; refine (isNumber_no _ _ h).mono ?_; rintro e w' ⟨rfl, rfl⟩)
  go_ret2
  exact ⟨rfl, rfl⟩

set_option maxRecDepth 100000 in
set_option maxHeartbeats 1000000 in
theorem refPut_yes (n : Nat) (w : World) (h : n ≤ 2147483647) : Calls Try.prog 9 #[.int .i64 (n : Int)] w (GivesBytes (putL n) w) := by
  have h1 : (n : Int) ≤ 2147483647 := by omega
  go_enter Try.func9, Try.ntmps9
  go_wp2
  go_loopw [4, 0] (fun v m wr => ∃ (k : Nat) (P : List UInt8), m = .int .i64 (k : Int) ∧ k ≤ 2147483647 ∧ P ++ putL k = putL n ∧ wr.ownsRow w.heap.size 5 1 v P.length (cells P) ∧ Below w.heap.size w wr)
    (fun _ m _ => (intOf m).toNat)
  case atStart => exact ⟨n, [], rfl, h, rfl, World.ownsRow_nil _ _ _ _, Below.refl _ _⟩
  case round =>
    obtain ⟨k, P, rfl, hk, hP, hown, hbw⟩ := hrel
    have hlen : P.length + (putL k).length ≤ 5 := by rw [← List.length_append, hP]; exact putL_len5 n h
    have hpos := putL_len_pos k
    have hlen1 : P.length + 1 ≤ 1048576 := by omega
    have HP : Hid (P ++ putL k = putL n) := hP
    clear hP hlen hpos
    by_cases hlt : 128 ≤ k
    · have hlt' : (128 : Int) ≤ (k : Int) := by omega
      obtain ⟨b, hb⟩ : ∃ b : UInt8, b = UInt8.ofNat (k % 128 + 128) := ⟨_, rfl⟩
      have HB : Hid (((k : Int) % 128 + 128) = (b.toNat : Int)) := by rw [hb, ofNat_toNat _ (by omega)]; show (k : Int) % 128 + 128 = _; omega
      have HQ : Hid ((P ++ [b]) ++ putL (k / 128) = putL n) := by show (P ++ [b]) ++ putL (k / 128) = putL n; rw [← HP.out, putL_big k hlt, hb]; simp
      clear hb
      go_wp2_with (at_builtin; refine append_byte rfl _ _ rfl b rfl hown hbw (Nat.le_refl _) HB.out rfl hlen1 ?_; intro v' w1 hown' hbw')
      go_roundw
      case rel => exact ⟨k / 128, P ++ [b], by go_num, by omega, HQ.out, hown', hbw'⟩
      case measure => simp [intOf]; omega
    · have hlt' : (k : Int) < 128 := by omega
      obtain ⟨b, hb⟩ : ∃ b : UInt8, b = UInt8.ofNat k := ⟨_, rfl⟩
      have HB : Hid ((k : Int) = (b.toNat : Int)) := by rw [hb, ofNat_toNat _ (by omega)]; rfl
      have HQ : Hid (P ++ [b] = putL n) := by show P ++ [b] = putL n; rw [← HP.out, putL_small k (by omega), hb]
      clear hb
      go_wp2_with (at_builtin; refine append_byte rfl _ _ rfl b rfl hown hbw (Nat.le_refl _) HB.out rfl hlen1 ?_; intro v' w1 hown' hbw')
      rw [HQ.out] at hown'
      obtain ⟨A, c, hv⟩ := own_form hown'
      go_ret2
      exact ⟨A, c, by rw [hv]; rfl, by rw [hv] at hown'; exact hown', hbw'⟩

theorem refPut_no (n : Int) (w : World) (h : n < 0 ∨ 2147483647 < n) : Calls Try.prog 9 #[.int .i64 n] w (GivesErr 1 w) := by
  rcases h with h | h
  · go_enter Try.func9, Try.ntmps9
    go_wp2
    go_ret2
    exact ⟨rfl, rfl⟩
  · have h0 : ¬ n < 0 := by omega
    go_enter Try.func9, Try.ntmps9
    go_wp2
    go_ret2
    exact ⟨rfl, rfl⟩

end Go.Proofs.Ytdiihnpnjgadeaa
