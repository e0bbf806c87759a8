/- Lemmas under the proofs of this place: ManMem, Cur, Get. No statement is proved here. -/
import Derived.Test.YtnmcohdlogepdaaBu01
import Derived.Test.YtnmcohdlogepdaaBu00
import Derived.Test.YtnmcohdlogepdaaBu03
import Derived.Lib.Hide
import Derived.Laws.CopyOwn
section
set_option linter.unusedVariables false
namespace Go.Proofs.Ytnmcohdlogepdaa
open Go.RowKit
def Mf.get (b : List UInt8) : Mf × Int :=
  match openL b with
  | none => (Mf.zero, 12)
  | some own => match Mf.tells (own.drop 4) with
    | none => (Mf.zero, 5)
    | some m => if m.check = 0 ∧ m.own = own then (m, 0) else (Mf.zero, 5)
def Mf.put (m : Mf) : List UInt8 × Int := if m.check = 0 then (sealL m.own, 0) else ([], m.check)
theorem Mf.get_cases (b : List UInt8) : ((Mf.get b).2 = 0 ∧ Mf.put (Mf.get b).1 = (b, 0)) ∨ ((Mf.get b).2 ≠ 0 ∧ (Mf.get b).1 = Mf.zero) := by
  unfold Mf.get
  cases ho : openL b with
  | none => exact .inr ⟨by decide, rfl⟩
  | some own =>
    cases ht : Mf.tells (own.drop 4) with
    | none => simp only [ht]; exact .inr ⟨by decide, trivial⟩
    | some m =>
      simp only [ht]
      by_cases h : m.check = 0 ∧ m.own = own
      · rw [if_pos h]
        refine .inl ⟨rfl, ?_⟩
        unfold Mf.put
        rw [if_pos h.1, h.2]
        unfold openL at ho
        split at ho
        · rename_i h4
          injection ho with ho
          rw [← ho, h4.2]
        · cases ho
      · rw [if_neg h]
        exact .inr ⟨by decide, rfl⟩
theorem Mf.get_put {m : Mf} (h : m.check = 0) : Mf.get (Mf.put m).1 = (m, 0) := by
  unfold Mf.put Mf.get
  rw [if_pos h]
  simp only [open_seal]
  have e : m.own.drop 4 = UInt8.ofNat m.segs.length :: (onesL m.segs ++ m.tail) := rfl
  rw [e, Mf.tells_own h]
  simp only []
  rw [if_pos ⟨h, trivial⟩]
theorem Mf.get_check (b : List UInt8) : (Mf.get b).1.check = 0 := by
  rcases Mf.get_cases b with ⟨h1, h2⟩ | ⟨h1, h2⟩
  · by_cases h : (Mf.get b).1.check = 0
    · exact h
    · unfold Mf.put at h2
      rw [if_neg h] at h2
      simp only [Prod.mk.injEq] at h2
      exact absurd h2.2 h
  · rw [h2]; rfl
def mfV (m : Mf) (A : Option Addr) (c : Nat) : Value := .agg #[.slice A m.segs.length c, .int .i64 m.snap.f, .int .i64 m.snap.s, .int .i64 m.snap.o]
def PtL (w : World) (B : Nat) (A : Option Addr) (l : List Pt) : Prop :=
  0 < l.length → ∃ b off, A = some ⟨b, off, none⟩ ∧ b < B ∧ ∀ i (hi : i < l.length),
    w.cell? ⟨b, off + i * 3, none⟩ = some (.int .i64 l[i].f) ∧ w.cell? ⟨b, off + i * 3 + 1, none⟩ = some (.int .i64 l[i].s) ∧ w.cell? ⟨b, off + i * 3 + 2, none⟩ = some (.int .i64 l[i].o)
structure MfAt (w : World) (m : Mf) (A : Option Addr) (c : Nat) : Prop where
  segs : PtL w w.heap.size A m.segs
  cap : m.segs.length ≤ c ∧ c ≤ 9223372036854775807
  few : m.segs.length ≤ 1000
theorem MfAt.up {w w' : World} {m : Mf} {A : Option Addr} {c : Nat} (h : MfAt w m A c) (hb : Below w.heap.size w w') : MfAt w' m A c := ⟨fun h0 => by
  obtain ⟨b, off, e, hlt, hc⟩ := h.segs h0
  refine ⟨b, off, e, Nat.lt_of_lt_of_le hlt hb.size, fun i hi => ?_⟩
  obtain ⟨k0, k1, k2⟩ := hc i hi
  exact ⟨(hb.cell (p := ⟨b, off + i * 3, none⟩) hlt).trans k0, (hb.cell (p := ⟨b, off + i * 3 + 1, none⟩) hlt).trans k1, (hb.cell (p := ⟨b, off + i * 3 + 2, none⟩) hlt).trans k2⟩, h.cap, h.few⟩
theorem chainM {w0 w w' : World} (h : Below w0.heap.size w0 w) (k : Below w.heap.size w w') : Below w0.heap.size w0 w' := h.trans (k.mono h.size)
theorem rb_upM {w w' : World} {A : Option Addr} {L : List UInt8} (h : RB w w.heap.size A L) (hb : Below w.heap.size w w') : RB w' w'.heap.size A L := (h.below hb).more hb.size
theorem man_at (w W : World) (A : Option Addr) (m c : Nat) (f s o : Int) (hb : Below (w.alloc (.cells #[.slice A m c, .int .i64 f, .int .i64 s, .int .i64 o] 29)).heap.size (w.alloc (.cells #[.slice A m c, .int .i64 f, .int .i64 s, .int .i64 o] 29)) W) : W.cell? ⟨w.heap.size, 0, none⟩ = some (.slice A m c) ∧ W.cell? ⟨w.heap.size, 1, none⟩ = some (.int .i64 f) ∧ W.cell? ⟨w.heap.size, 2, none⟩ = some (.int .i64 s) ∧ W.cell? ⟨w.heap.size, 3, none⟩ = some (.int .i64 o) := by
  have h0 : Blk W w.heap.size 29 #[.slice A m c, .int .i64 f, .int .i64 s, .int .i64 o] := Blk.below (Blk.new w _ _) hb (by simp)
  exact ⟨by rw [h0.cell]; rfl, by rw [h0.cell]; rfl, by rw [h0.cell]; rfl, by rw [h0.cell]; rfl⟩
theorem Try.manAgg (w : World) : (isAgg 29).run Try.prog w = .ok true w := by kernel_rfl
theorem Try.manSize (w : World) : (sizeOf 29).run Try.prog w = .ok 4 w := by kernel_rfl
theorem Try.manZero (w : World) : Sem.run Try.prog (Instr.build 29 #[]) w = .ok (.agg #[.slice none 0 0, .int .i64 0, .int .i64 0, .int .i64 0]) w := by kernel_rfl
end Go.Proofs.Ytnmcohdlogepdaa
end
section
set_option linter.unusedVariables false
set_option linter.unusedSimpArgs false
namespace Go.Proofs.Ytnmcohdlogepdaa
open Go.RowKit
set_option maxRecDepth 100000 in
set_option maxHeartbeats 1000000 in
theorem copied_any (L : List UInt8) (n : Nat) (A : Option Addr) (c : Nat) (w : World) (hn : n = L.length) (hr : RB w w.heap.size A L) (hl : L.length ≤ 1048576) :
    Calls Try.prog 38 #[.slice A n c] w (GivesOne L w) := by
  subst hn
  obtain ⟨i0, hi0, hz0, hz1, hz2⟩ := info_parts Try.info5
  have hby : i0.bytes = 1 := hz2
  go_enter Try.func38, Try.ntmps38
  go_wp2_with (first
    | (at_make; refine wpList_make_full _ rfl _ _ 22 rfl w.heap.size 5 i0 _ 1 Try.underlying22 hi0 hz0 hz1 .i64 .i64 _ _ L.length rfl rfl rfl rfl (by rw [hby]; omega) (by unfold maxLen; omega) (Nat.le_refl _) ?_; intro w1 hown hgrow; have hg1 := made_block hown; have hb1 : Below w.heap.size w w1 := (Below.refl _ _).grown hgrow (Nat.le_refl _) (by simp); have hr1 := hr.below hb1; clear hown hgrow)
    | (with_reducible show wpList _ _ _ (⟨some 9, _, _, _, _, _⟩ :: _) _ _; refine wpList_copy_splice rfl (.tmp 7) (.tmp 8) 22 22 rfl 5 Try.underlying22 Try.size5 (some ⟨w.heap.size, 0, none⟩) A L.length L.length L.length c rfl rfl w.heap.size 0 (List.replicate L.length (.int .u8 0)) 5 hg1 (cells L) (by rw [cells_length]; simp) (rb_src hr1 _) (by simp [cells_length]) (cells_one _) w.heap.size w hb1 (Nat.le_refl _) ?_; intro w2 hg2 hb2))
  go_ret
  refine ⟨some ⟨w.heap.size, 0, none⟩, L.length, rfl, ?_, hb2⟩
  have h2 := hg2.out
  rw [splice_all _ _ (by simp [cells_length])] at h2
  exact block_own h2 (Nat.le_refl _) hl
def Cur (w : World) (g : Nat) : Option (List UInt8) → Prop
  | none => w.heap[g]? = some (.cells #[.slice none 0 0, .bool true] 65 (0, 0))
  | some L => ∃ A c, w.heap[g]? = some (.cells #[.slice A L.length c, .bool false] 65 (0, 0)) ∧ RB w w.heap.size A L ∧ L.length ≤ c ∧ L.length ≤ 1048576
set_option maxRecDepth 100000 in
set_option maxHeartbeats 1000000 in
theorem from_any (L : List UInt8) (A : Option Addr) (c : Nat) (w : World) (hr : RB w w.heap.size A L) (hl : L.length ≤ 1048576) :
    Calls Try.prog 15 #[.slice A L.length c] w fun e w' => ∃ g, e = .returned (.pointer (some ⟨g, 0, none⟩)) ∧ w.heap.size ≤ g ∧ Cur w' g (some L) ∧ Below w.heap.size w w' := by
  go_enter Try.func15, Try.ntmps15
  go_wp2_with (go_at_call 38; refine (copied_any L _ _ _ _ rfl hr hl).mono ?_; rintro e w1 ⟨A1, c1, rfl, hown1, hb1⟩)
  go_ret
  have hz := hb1.size
  exact ⟨w1.heap.size, rfl, hz, ⟨A1, c1, heap_alloc_new _ _, ((own_rb hown1).alloc (Nat.le_refl _) _).more (by simp), own_le hown1, hl⟩, hb1.alloc hz _⟩
set_option maxHeartbeats 1000000 in
theorem bad_any (g : Nat) (st : Option (List UInt8)) (w : World) (h : Cur w g st) : Calls Try.prog 20 #[.pointer (some ⟨g, 0, none⟩)] w fun e w' => e = .returned (.bool st.isNone) ∧ w = w' := by
  rcases st with _ | L
  · have hc : w.cell? ⟨g, 1, none⟩ = some (.bool true) := (blk_cell h 1).1
    clear h
    go_enter Try.func20, Try.ntmps20
    go_wp2
    go_ret
    exact ⟨rfl, rfl⟩
  · obtain ⟨A, c, h, _, _⟩ := h
    have hc : w.cell? ⟨g, 1, none⟩ = some (.bool false) := (blk_cell h 1).1
    clear h
    go_enter Try.func20, Try.ntmps20
    go_wp2
    go_ret
    exact ⟨rfl, rfl⟩
def leftN : Option (List UInt8) → Nat
  | none => 0
  | some L => L.length
set_option maxHeartbeats 1000000 in
theorem left_any (g : Nat) (st : Option (List UInt8)) (w : World) (h : Cur w g st) : Calls Try.prog 21 #[.pointer (some ⟨g, 0, none⟩)] w fun e w' => e = .returned (.int .i64 (leftN st : Int)) ∧ w = w' := by
  have hb := bad_any g st w h
  rcases st with _ | L
  · clear h
    go_enter Try.func21, Try.ntmps21
    go_wp2_with (go_at_call 20; refine hb.mono ?_; rintro e w' ⟨rfl, rfl⟩)
    go_ret
    exact ⟨rfl, rfl⟩
  · obtain ⟨A, c, h, _, _⟩ := h
    have hc : w.cell? ⟨g, 0, none⟩ = some (.slice A L.length c) := (blk_cell h 0).1
    clear h
    go_enter Try.func21, Try.ntmps21
    go_wp2_with (go_at_call 20; refine hb.mono ?_; rintro e w' ⟨rfl, rfl⟩)
    go_ret
    exact ⟨rfl, rfl⟩
theorem rb_far {w : World} {B g i : Nat} {A : Option Addr} {L : List UInt8} {cs : Array Value} {t : TypeId} (h : RB w B A L) (hg : w.heap[g]? = some (.cells cs t (0, 0))) (hcs : ∀ (j : Nat) (k : IntKind) (z : Int), cs[j]? ≠ some (.int k z)) (u : Value) : RB (w.setCell ⟨g, i, none⟩ u) B A L := by
  refine ⟨h.1, fun hn => ?_⟩
  obtain ⟨b, off, rfl, hb, hc⟩ := RB.at_ h hn
  have hne : b ≠ g := by
    rintro rfl
    have h0 := hc 0 hn
    rw [Nat.add_zero, (blk_cell hg off).1] at h0
    exact hcs _ _ _ h0
  obtain ⟨ad, e, hb', hc'⟩ := h.2 hn
  injection e with e
  subst e
  refine ⟨_, rfl, hb', fun j v hv => ?_⟩
  rw [World.cell?_setCell_other _ _ _ _ (by intro hx; apply hne; have h9 := congrArg Addr.block hx; rw [block_of_add] at h9; exact h9.symm)]
  exact hc' j v hv
theorem cur_cells (A : Option Addr) (n c : Nat) (b : Bool) : ∀ (j : Nat) (k : IntKind) (z : Int), (#[Value.slice A n c, Value.bool b])[j]? ≠ some (.int k z) := by
  intro j k z
  match j with
  | 0 => simp
  | 1 => simp
  | j + 2 => simp
set_option maxHeartbeats 1000000 in
theorem fail_any (g : Nat) (st : Option (List UInt8)) (w : World) (h : Cur w g st) : Calls Try.prog 40 #[.pointer (some ⟨g, 0, none⟩)] w fun e w' => e = .returned (.tuple #[]) ∧ Cur w' g none ∧ Only w w' g ∧ w'.heap.size = w.heap.size := by
  have hx : ∃ A n c b, w.heap[g]? = some (.cells #[.slice A n c, .bool b] 65 (0, 0)) := by
    rcases st with _ | L
    · exact ⟨_, _, _, _, h⟩
    · obtain ⟨A, c, h, _⟩ := h
      exact ⟨_, _, _, _, h⟩
  obtain ⟨A, n, c, b, hg⟩ := hx
  have hc0 : w.cell? ⟨g, 0, none⟩ = some (.slice A n c) := (blk_cell hg 0).1
  have hc1 : w.cell? ⟨g, 1, none⟩ = some (.bool b) := (blk_cell hg 1).1
  have hf0 : w.frozen? ⟨g, 0, none⟩ = false := (blk_cell hg 0).2
  have hf1 : w.frozen? ⟨g, 1, none⟩ = false := (blk_cell hg 1).2
  have HG := Lib.hid hg
  clear h hg
  go_enter Try.func40, Try.ntmps40
  go_wp2
  go_end0
  have h1 := Blk.set_ (Blk.set_ HG.out 1 (.bool true)) 0 (.slice none 0 0)
  exact ⟨rfl, h1, only_trans (only_set _ _ _ _) (only_set _ _ _ _), by simp [World.setCell]⟩
end Go.Proofs.Ytnmcohdlogepdaa
end
section
set_option linter.unusedVariables false
set_option linter.unusedSimpArgs false
namespace Go.Proofs.Ytnmcohdlogepdaa
open Go.RowKit
def GetPost (r : Option (Nat × Nat)) (e : Ending) : Prop :=
  match r with
  | some (n, k) => e = .returned (.tuple #[.int .i64 (n : Int), .int .i64 (k : Int), .int .i64 0])
  | none => e = .returned (.tuple #[.int .i64 0, .int .i64 0, .int .i64 5])
theorem getAux_step (L : List UInt8) (k acc q x : Nat) (hk : k < 5) (hlt : k < L.length) (hx : x = L[k].toNat) :
    getAux (5 - k) (L.drop k) k acc q = if 128 ≤ x then getAux (5 - (k + 1)) (L.drop (k + 1)) (k + 1) (acc + x % 128 * q) (q * 128)
      else if 2147483647 < acc + x % 128 * q ∨ (0 < k ∧ x = 0) then none else some (acc + x % 128 * q, k + 1) := by
  obtain ⟨j, hj⟩ : ∃ j, 5 - k = j + 1 := ⟨4 - k, by omega⟩
  have hj' : 5 - (k + 1) = j := by omega
  rw [List.drop_eq_getElem_cons hlt, hj, hj', hx]
  rfl
theorem getAux_end (L : List UInt8) (k acc q : Nat) (h : 5 ≤ k ∨ L.length ≤ k) : getAux (5 - k) (L.drop k) k acc q = none := by
  rcases h with h | h
  · have : 5 - k = 0 := by omega
    rw [this]; cases L.drop k <;> rfl
  · rw [List.drop_eq_nil_of_le h]; cases 5 - k <;> rfl
theorem get_or (acc x k : Nat) (hk : k < 5) (ha : acc < 128 ^ k) :
    bits .or .u64 (acc : Int) (IntKind.u64.wrap ((x : Int) % 128 * 2 ^ (7 * k))) = ((acc + x % 128 * 128 ^ k : Nat) : Int) ∧ acc + x % 128 * 128 ^ k < 128 ^ (k + 1) := by
  have e : (128 : Nat) ^ k = 2 ^ (7 * k) := by rw [Nat.pow_mul]
  have hle : (128 : Nat) ^ k ≤ 128 ^ 4 := Nat.pow_le_pow_right (by omega) (by omega)
  have hx : x % 128 ≤ 127 := by omega
  have hm : x % 128 * 128 ^ k ≤ 127 * 128 ^ k := Nat.mul_le_mul_right _ hx
  refine ⟨?_, by rw [Nat.pow_succ]; omega⟩
  rw [e] at ha hm hle ⊢
  exact or_shl acc (x % 128) (7 * k) ha (by omega)
set_option maxRecDepth 100000 in
set_option maxHeartbeats 2000000 in
theorem get_any (L : List UInt8) (A : Option Addr) (c B : Nat) (w : World) (hr : RB w B A L) (hl : L.length ≤ 1048576) :
    Calls Try.prog 53 #[.slice A L.length c] w fun e w' => GetPost (getL L) e ∧ w = w' := by
  have hcase : L.length ≤ 5 ∨ 5 < L.length := by omega
  rcases hcase with hc5 | hc5
  all_goals
    go_enter Try.func53, Try.ntmps53
    go_wp2
    go_loop [5, 10] (fun n i => ∃ k acc : Nat, k ≤ 5 ∧ k ≤ L.length ∧ i = .int .i64 (k : Int) ∧ n = .int .u64 (acc : Int) ∧ acc < 128 ^ k ∧ getL L = getAux (5 - k) (L.drop k) k acc (128 ^ k)) (fun _ i => 5 - (intOf i).toNat)
    case atStart => exact ⟨0, 0, by omega, by omega, rfl, rfl, by decide, rfl⟩
    case round =>
      obtain ⟨k, acc, hk5, hkl, rfl, rfl, hacc, hg⟩ := hrel
      have HG : Hid (getL L = getAux (5 - k) (L.drop k) k acc (128 ^ k)) := hg
      clear hg
      by_cases hlt : k < L.length ∧ k < 5
      · obtain ⟨hlt, hlt5⟩ := hlt
        obtain ⟨b, off, rfl, hb, hcell⟩ := hr.at_ (by omega)
        have hck := hcell k hlt
        clear hcell
        obtain ⟨x, hx⟩ : ∃ x : Nat, x = L[k].toNat := ⟨_, rfl⟩
        rw [← hx] at hck
        have hx256 : x < 256 := by rw [hx]; exact byte_lt _
        obtain ⟨acc', ha'⟩ : ∃ acc' : Nat, acc' = acc + x % 128 * 128 ^ k := ⟨_, rfl⟩
        have HS : Hid (getL L = if 128 ≤ x then getAux (5 - (k + 1)) (L.drop (k + 1)) (k + 1) acc' (128 ^ (k + 1)) else if 2147483647 < acc' ∨ (0 < k ∧ x = 0) then none else some (acc', k + 1)) := by
          show _ = _
          rw [HG.out, getAux_step L k acc _ x hlt5 hlt hx, ← ha', Nat.pow_succ]
        obtain ⟨he, hlt'⟩ := get_or acc x k hlt5 hacc
        rw [← ha'] at he hlt'
        have HL : Hid (acc' < 128 ^ (k + 1)) := hlt'
        have hmax : acc' < 34359738368 := Nat.lt_of_lt_of_le hlt' (Nat.le_trans (Nat.pow_le_pow_right (by omega) (show k + 1 ≤ 5 by omega)) (by decide))
        clear hx ha' hacc hr hlt' HG
        by_cases hx128 : 128 ≤ x
        · go_wp2
          go_round
          case rel => exact ⟨k + 1, acc', by omega, by omega, by go_num, rfl, HL.out, by rw [HS.out, if_pos hx128]⟩
          case measure => simp [intOf]; omega
        · by_cases hm : 2147483647 < acc'
          · go_wp2
            go_ret3
            exact ⟨by rw [HS.out, if_neg hx128, if_pos (.inl hm)]; exact rfl, rfl⟩
          · by_cases hk0 : 0 < k
            · rcases hx0 : ((x : Int) == 0) with _ | _
              · have HX : Hid (x ≠ 0) := by show x ≠ 0; intro e; subst e; simp at hx0
                go_wp2
                go_ret3
                exact ⟨by rw [HS.out, if_neg hx128, if_neg (by have := HX.out; omega)]; exact rfl, rfl⟩
              · have HX : Hid (x = 0) := by show x = 0; simpa using hx0
                go_wp2
                go_ret3
                exact ⟨by rw [HS.out, if_neg hx128, if_pos (.inr ⟨hk0, HX.out⟩)]; exact rfl, rfl⟩
            · go_wp2
              go_ret3
              exact ⟨by rw [HS.out, if_neg hx128, if_neg (by omega)]; exact rfl, rfl⟩
      · have HE : Hid (getL L = none) := by show _ = _; rw [HG.out]; exact getAux_end L k acc _ (by omega)
        clear HG hacc
        have hge : min L.length 5 ≤ k := by omega
        go_wp2
        go_ret3
        exact ⟨by rw [HE.out]; exact rfl, rfl⟩
end Go.Proofs.Ytnmcohdlogepdaa
end
