/- Lemmas under the proofs of this place: SupPWrite, DiskDoesM. No statement is proved here. -/
import Derived.Test.YtkockhggnbfahaaBu31
import Derived.Test.YtkockhggnbfahaaBu21
import Derived.Test.YtkockhggnbfahaaBu32
import Derived.Test.YtkockhggnbfahaaBu20
import Derived.Test.YtkockhggnbfahaaBu22
import Derived.Test.YtkockhggnbfahaaBu16
import Derived.Test.YtkockhggnbfahaaBu10
import Derived.BigQuiet
section
set_option linter.unusedVariables false
set_option linter.unusedSimpArgs false
namespace Go.Proofs.Ytkockhggnbfahaa
open Go.RowKit
set_option maxRecDepth 100000 in
set_option maxHeartbeats 2000000 in
theorem supwrite_nil (s : Pu) (w : World) : Calls Try.prog 20 #[.pointer none, supV s] w fun e w' => e = .returned (.int .i64 8) ∧ Below w.heap.size w w' := by
  have HB : Hid (Below w.heap.size w (w.alloc (.cells #[.int .i64 s.gen, .int .i64 s.blocks, .int .i64 s.log, .int .i64 s.first, .int .i64 s.size, .int .i64 s.owner] 25))) := (Below.refl _ _).alloc (Nat.le_refl _) _
  have n0 := fun w' => Try.dNilIs w'
  unfold supV
  go_enter Try.func20, Try.ntmps20
  go_wp2
  go_ret
  exact ⟨rfl, HB.out⟩
theorem supwrite_none (s : Pu) (w : World) (hs : s.may = true) : Calls Try.prog 20 #[.pointer none, supV s] w fun e w' => e = .returned (.int .i64 8) ∧ Below w.heap.size w w' := supwrite_nil s w
set_option maxRecDepth 100000 in
set_option maxHeartbeats 4000000 in
theorem supwrite_no (s : Pu) {w : World} {g : Nat} {F : Nat → Prop} {d : Dk} (h : PDisk w g F d) (hm : s.may = false) :
    Calls Try.prog 20 #[.pointer (some ⟨g, 0, none⟩), supV s] w fun e w' => e = .returned (.int .i64 (writeU d s).2) ∧ ∃ F', PDisk w' g F' (writeU d s).1 ∧ Turns w w' F F' := by
  have HV : Hid (writeU d s = (d, 1)) := by show _ = _; unfold writeU; rw [if_pos hm]
  have HP : Hid (∀ W, Calls Try.prog 7 #[supV s] W fun e w' => e = .returned (.tuple #[.slice none 0 0, .int .i64 1]) ∧ Below W.heap.size W w') := fun W => supput_no s W hm
  have HB : Hid (Below w.heap.size w (w.alloc (.cells #[.int .i64 s.gen, .int .i64 s.blocks, .int .i64 s.log, .int .i64 s.first, .int .i64 s.size, .int .i64 s.owner] 25))) := (Below.refl _ _).alloc (Nat.le_refl _) _
  have HR : Hid (∀ W, Below w.heap.size w W → ∃ F', PDisk W g F' d ∧ Turns w W F F') := fun W hb => ⟨F, h.below hb, Turns.of_below hb F⟩
  have n0 := fun w' => Try.dIsNil g w'
  have a24 := fun w' => Try.aggSup w'
  have s24 := fun w' => Try.sizeSup w'
  unfold supV at HP ⊢
  rw [HV.out]
  clear h hm HV
  go_enter Try.func20, Try.ntmps20
  go_wp2_with (go_at_call 7; (with_reducible refine (HP.out _).mono ?_); rintro e w1 ⟨rfl, hb1⟩)
  go_ret
  exact ⟨rfl, HR.out _ (chain7 HB.out hb1)⟩
set_option maxRecDepth 100000 in
set_option maxHeartbeats 8000000 in
theorem supwrite_yes (s : Pu) {w : World} {g : Nat} {F : Nat → Prop} {d : Dk} (h : PDisk w g F d) (hl : d.load ≤ 90000) (hm : s.may = true) :
    Calls Try.prog 20 #[.pointer (some ⟨g, 0, none⟩), supV s] w fun e w' => e = .returned (.int .i64 (writeU d s).2) ∧ ∃ F', PDisk w' g F' (writeU d s).1 ∧ Turns w w' F F' := by
  obtain ⟨i0, hi0, hz0, hz1, hz2⟩ := info_parts Try.info5
  obtain ⟨m1, m2, m3, m4, m5, m6, m7⟩ := s.may_iff.1 hm
  have HP : Hid (∀ W, Calls Try.prog 7 #[supV s] W fun e w' => ∃ A c, e = .returned (.tuple #[.slice A 64 c, .int .i64 0]) ∧ Hid (w'.ownsRow W.heap.size 5 1 (.slice A 64 c) 64 (cells s.bytes)) ∧ Below W.heap.size W w') := fun W => by
    refine (supput_yes s W hm).mono fun e w' hh => ?_
    obtain ⟨A, c, he, ho, hb⟩ := hh
    rw [s.bytes_length] at he
    unfold Own at ho
    rw [s.bytes_length] at ho
    exact ⟨A, c, he, ho, hb⟩
  have hlen : s.bytes.length = 64 := s.bytes_length
  obtain ⟨S, hS⟩ : ∃ S, S = s.bytes := ⟨_, rfl⟩
  obtain ⟨n, hn⟩ : ∃ x, x = d.safe.length := ⟨_, rfl⟩
  obtain ⟨kz, hkz⟩ : ∃ x : Int, x = s.gen % 2 := ⟨_, rfl⟩
  have HB : Hid (Below w.heap.size w (w.alloc (.cells #[.int .i64 s.gen, .int .i64 s.blocks, .int .i64 s.log, .int .i64 s.first, .int .i64 s.size, .int .i64 s.owner] 25))) := (Below.refl _ _).alloc (Nat.le_refl _) _
  have HR : Hid (∀ W, Below w.heap.size w W → PDisk W g F d) := fun W hb => h.below hb
  have HC := Lib.hid (fun W hb => super_at w W s.gen s.blocks s.log s.first s.size s.owner hb)
  have HQ0 : Hid (∀ (W : World) k, Below W.heap.size W (W.drewN k)) := fun W k => ⟨rfl, rfl, rfl, Nat.le_refl _, fun _ _ => rfl⟩
  have HBk : Hid (∀ W j, Below w.heap.size w W → Calls Try.prog 53 #[.pointer (some ⟨g, 0, none⟩)] (W.drewN j) fun e w'' => e = .returned (.int .i64 (n : Int)) ∧ ∃ m, w'' = W.drewN m) := fun W j hb => by
    rw [hn]
    exact Calls.quiet_of_same ((blocks_any (h.below (chain7 hb (HQ0.out W j)))).mono fun _ _ h => ⟨h.1, h.2.symm⟩)
  have n0 := fun w' => Try.dIsNil g w'
  have a24 := fun w' => Try.aggSup w'
  have s24 := fun w' => Try.sizeSup w'
  unfold supV at HP ⊢
  rw [← hS] at HP
  by_cases hb : s.blocks = (d.safe.length : Int)
  rotate_left
  · have HV : Hid (writeU d s = (d, 1)) := by show _ = _; unfold writeU; rw [if_neg (by rw [hm]; decide), if_pos hb]
    have e0 : (s.blocks != (n : Int)) = true := by rw [hn]; simpa using hb
    have e1 : (s.blocks == (n : Int)) = false := by rw [hn]; simpa using hb
    have HE : Hid (∀ W, Below w.heap.size w W → ∃ F', PDisk W g F' d ∧ Turns w W F F') := fun W hb => ⟨F, h.below hb, Turns.of_below hb F⟩
    rw [HV.out]
    clear h hl hm hS hn hkz hb hlen m1 m2 m3 m4 m5 m6 m7
    go_enter Try.func20, Try.ntmps20
    go_wp2_with (go_at_call 7; (with_reducible refine (HP.out _).mono ?_); rintro e w1 ⟨A1, c1, rfl, ho1, hb1⟩; have b1 := chain7 HB.out hb1; obtain ⟨k0, k1, k2, k3, k4, k5⟩ := HC.out _ hb1)
    go_quiet (with_reducible exact HBk.out _ _ b1)
    go_wp2
    go_ret
    exact ⟨rfl, HE.out _ (chain7 b1 (HQ0.out _ nq))⟩
  · have e0 : (s.blocks != (n : Int)) = false := by rw [hn]; simpa using hb
    have e1 : (s.blocks == (n : Int)) = true := by rw [hn]; simpa using hb
    have HFl : Hid (∀ k, F k → k < w.heap.size) := h.flt
    obtain ⟨d1, hd1⟩ : ∃ x, x = (d.write (s.gen % 2) (s.bytes ++ List.replicate 192 0)).1 := ⟨_, rfl⟩
    obtain ⟨z1, hz1'⟩ : ∃ x, x = (d.write (s.gen % 2) (s.bytes ++ List.replicate 192 0)).2 := ⟨_, rfl⟩
    have hl1 : d1.load ≤ 100000 := by rw [hd1]; have := write_load8 d (s.gen % 2) (s.bytes ++ List.replicate 192 0); omega
    have HS64 : Hid (S.length = 64) := by show _ = _; rw [hS]; exact hlen
    have HSl : Hid (∀ W, Calls Try.prog 56 #[.agg #[.int .i64 s.gen, .int .i64 s.blocks, .int .i64 s.log, .int .i64 s.first, .int .i64 s.size, .int .i64 s.owner]] W fun e w' => e = .returned (.int .i64 kz) ∧ Below W.heap.size W w') := fun W => by rw [hkz]; exact slot_any s (by omega) W
    have HW : Hid (∀ W (A : Option Addr) (c : Nat), Below w.heap.size w W → W.ownsRow w.heap.size 5 1 (.slice A 256 c) 256 (cells S ++ cells (List.replicate 192 0)) → Calls Try.prog 38 #[.pointer (some ⟨g, 0, none⟩), .int .i64 kz, .slice A 256 c] W fun e w' => e = .returned (.int .i64 z1) ∧ Hid (∃ F', PDisk w' g F' d1 ∧ Turns W w' F F')) := fun W A c hb2 ho => by
      have hL : (S ++ List.replicate 192 0).length = 256 := by rw [List.length_append, HS64.out, List.length_replicate]
      have hown : Own W w.heap.size A (S ++ List.replicate 192 0) c := by
        unfold Own
        rw [hL, cells_append]
        exact ho
      have hle := own_le hown
      rw [hL] at hle
      have h1 := write_any (h.below hb2) kz (by omega) (S ++ List.replicate 192 0) A 256 c hL.symm (own_rb hown) (fun ad e hh => by have := own_new hown ad e; have := HFl.out _ hh; omega) hle (own_cap hown)
      refine h1.mono fun e w' hh => ?_
      unfold WritePost at hh
      rw [hkz, hS, ← hd1, ← hz1'] at hh
      obtain ⟨F', he, h2, h3⟩ := hh
      exact ⟨he, F', h2, h3⟩
    have HEnd : Hid (∀ W W' (D : Dk), Below w.heap.size w W → (∃ F', PDisk W' g F' D ∧ Turns W W' F F') → ∃ F', PDisk W' g F' D ∧ Turns w W' F F') := fun W W' D hb ⟨F', h2, h3⟩ => ⟨F', h2, (Turns.of_below hb F).trans h3⟩
    by_cases hz : z1 = 0
    rotate_left
    · have HV : Hid (writeU d s = (d1, z1)) := by
        show _ = _
        unfold writeU
        rw [if_neg (by rw [hm]; decide), if_neg (fun hh => hh hb), if_pos (by rw [← hz1']; exact hz), hd1, hz1']
      have y0 : (z1 != 0) = true := by simpa using hz
      have y1 : (z1 == 0) = false := by simpa using hz
      rw [HV.out]
      clear h hl hm hS hn hkz hb hlen m1 m2 m3 m4 m5 m6 m7 hd1 hz1' hl1 hz
      go_enter Try.func20, Try.ntmps20
      go_wp2_with (go_at_call 7; (with_reducible refine (HP.out _).mono ?_); rintro e w1 ⟨A1, c1, rfl, ho1, hb1⟩; have b1 := chain7 HB.out hb1; obtain ⟨k0, k1, k2, k3, k4, k5⟩ := HC.out _ hb1)
      go_quiet (with_reducible exact HBk.out _ _ b1)
      have hq := HQ0.out w1 nq
      have b1q := chain7 b1 hq
      have HO1q := Lib.hid (own_kept (Joins.ownsRow_le ho1.out (Nat.le_of_lt (by simp : w.heap.size < (w.alloc (.cells #[.int .i64 s.gen, .int .i64 s.blocks, .int .i64 s.log, .int .i64 s.first, .int .i64 s.size, .int .i64 s.owner] 25)).heap.size))) hq)
      obtain ⟨q0, q1, q2, q3, q4, q5⟩ := HC.out _ (chain7 hb1 hq)
      clear k0 k1 k2 k3 k4 k5 ho1
      generalize w1.drewN nq = W1 at hq b1q HO1q q0 q1 q2 q3 q4 q5 ⊢
      clear hq b1 hb1
      go_wp2_with (first
        | (go_at_call 38; (with_reducible refine (HW.out _ _ _ b3 ho3).mono ?_); rintro e w4 ⟨rfl, hd4⟩)
        | (at_builtin; refine wpList_append_make _ rfl (.tmp 28) (.tmp 31) 26 3 rfl w.heap.size 5 i0 _ 1 1 .i64 Try.underlying26 Try.underlying3 hi0 hz0 hz1 hz2 rfl (by omega) (.slice A1 64 c1) 64 (cells S) rfl ho2 192 rfl (cells (List.replicate 192 0)) (zero_bytes 192) (cells_one _) (by simp only [maxLen]; omega) (by omega) b2.size ?_; intro v3 w3 ho3 hg3 hat3; obtain ⟨A3, c3, rfl⟩ := own_form ho3; have b3 := b2.grown hg3 b2.size (fun j hj => (ho2.lt j hj).1))
        | (go_at_call 56; (with_reducible refine (HSl.out _).mono ?_); rintro e w2 ⟨rfl, hb2⟩; have b2 := chain7 b1q hb2; have ho2 := own_kept HO1q.out hb2))
      go_ret
      exact ⟨rfl, HEnd.out _ _ _ b3 hd4.out⟩
    · have HV : Hid (writeU d s = d1.flush) := by
        show _ = _
        unfold writeU
        rw [if_neg (by rw [hm]; decide), if_neg (fun hh => hh hb), if_neg (by rw [← hz1']; exact fun hh => hh hz), hd1]
      obtain ⟨d2, hd2⟩ : ∃ x, x = d1.flush.1 := ⟨_, rfl⟩
      obtain ⟨z2, hz2'⟩ : ∃ x, x = d1.flush.2 := ⟨_, rfl⟩
      have HFs : Hid (∀ W F', PDisk W g F' d1 → Calls Try.prog 48 #[.pointer (some ⟨g, 0, none⟩)] W fun e w' => e = .returned (.int .i64 z2) ∧ Hid (PDisk w' g F' d2 ∧ Turns W w' F' F')) := fun W F' hr => by
        rw [hd2, hz2']
        exact flush_any hr (by omega)
      have HV2 : Hid (d1.flush = (d2, z2)) := by show _ = _; rw [hd2, hz2']
      have y0 : (z1 != 0) = false := by simpa using hz
      have y1 : (z1 == 0) = true := by simpa using hz
      rw [HV.out, HV2.out]
      clear h hl hm hS hn hkz hb hlen m1 m2 m3 m4 m5 m6 m7 hd1 hz1' hl1 hz hd2 hz2'
      go_enter Try.func20, Try.ntmps20
      go_wp2_with (go_at_call 7; (with_reducible refine (HP.out _).mono ?_); rintro e w1 ⟨A1, c1, rfl, ho1, hb1⟩; have b1 := chain7 HB.out hb1; obtain ⟨k0, k1, k2, k3, k4, k5⟩ := HC.out _ hb1)
      go_quiet (with_reducible exact HBk.out _ _ b1)
      have hq := HQ0.out w1 nq
      have b1q := chain7 b1 hq
      have HO1q := Lib.hid (own_kept (Joins.ownsRow_le ho1.out (Nat.le_of_lt (by simp : w.heap.size < (w.alloc (.cells #[.int .i64 s.gen, .int .i64 s.blocks, .int .i64 s.log, .int .i64 s.first, .int .i64 s.size, .int .i64 s.owner] 25)).heap.size))) hq)
      obtain ⟨q0, q1, q2, q3, q4, q5⟩ := HC.out _ (chain7 hb1 hq)
      clear k0 k1 k2 k3 k4 k5 ho1
      generalize w1.drewN nq = W1 at hq b1q HO1q q0 q1 q2 q3 q4 q5 ⊢
      clear hq b1 hb1
      go_wp2_with (first
        | (go_at_call 48; (with_reducible refine (HFs.out _ _ hd4.1).mono ?_); rintro e w5 ⟨rfl, hd5⟩)
        | (go_at_call 38; (with_reducible refine (HW.out _ _ _ b3 ho3).mono ?_); rintro e w4 ⟨rfl, hh4⟩; obtain ⟨F4, hd4⟩ := hh4.out)
        | (at_builtin; refine wpList_append_make _ rfl (.tmp 28) (.tmp 31) 26 3 rfl w.heap.size 5 i0 _ 1 1 .i64 Try.underlying26 Try.underlying3 hi0 hz0 hz1 hz2 rfl (by omega) (.slice A1 64 c1) 64 (cells S) rfl ho2 192 rfl (cells (List.replicate 192 0)) (zero_bytes 192) (cells_one _) (by simp only [maxLen]; omega) (by omega) b2.size ?_; intro v3 w3 ho3 hg3 hat3; obtain ⟨A3, c3, rfl⟩ := own_form ho3; have b3 := b2.grown hg3 b2.size (fun j hj => (ho2.lt j hj).1))
        | (go_at_call 56; (with_reducible refine (HSl.out _).mono ?_); rintro e w2 ⟨rfl, hb2⟩; have b2 := chain7 b1q hb2; have ho2 := own_kept HO1q.out hb2))
      go_ret
      exact ⟨rfl, HEnd.out _ _ _ b3 ⟨F4, hd5.out.1, hd4.2.trans hd5.out.2⟩⟩
theorem supwrite_any {w : World} {g : Nat} {F : Nat → Prop} {d : Dk} (h : PDisk w g F d) (s : Pu) (hl : d.load ≤ 90000) :
    Calls Try.prog 20 #[.pointer (some ⟨g, 0, none⟩), supV s] w fun e w' => e = .returned (.int .i64 (writeU d s).2) ∧ ∃ F', PDisk w' g F' (writeU d s).1 ∧ Turns w w' F F' := by
  cases hm : s.may with
  | true => exact supwrite_yes s h hl hm
  | false => exact supwrite_no s h hm
end Go.Proofs.Ytkockhggnbfahaa
end
section
set_option linter.unusedVariables false
namespace Go.Proofs.Ytkockhggnbfahaa
open Go.ChangeShapes Go.WideShapes Go.ChangeAt Go.RowKit
theorem deed_load (d : Dk) : d.deed.1.load = d.load := by
  unfold Dk.deed
  split
  · rfl
  · split
    · rfl
    · rfl
theorem step_load (d : Dk) (x : Dd) : (stepD d x).load ≤ d.load + 2 := by
  unfold stepD Dk.step
  split
  · exact Nat.le_succ_of_le (read_load d x.n)
  split
  · unfold Dk.write
    split
    · exact Nat.le_add_right _ _
    split
    · exact Nat.le_add_right _ _
    split
    · exact Nat.le_add_right _ _
    have h := deed_load { d with waits := d.waits ++ [(x.n.toNat, dataL x)] }
    have h2 : ({ d with waits := d.waits ++ [(x.n.toNat, dataL x)] } : Dk).load = d.load + 1 := by unfold Dk.load; simp; omega
    split
    · rename_i e he
      rw [he] at h
      show e.load ≤ _
      have h' : e.load = _ := h
      omega
    · rename_i e he
      rw [he] at h
      have h' : e.load = _ := h
      show e.reads + (e.writes + 1) + e.flushes + e.waits.length ≤ _
      unfold Dk.load at h' h2 ⊢
      omega
  split
  · unfold Dk.flush
    split
    · exact Nat.le_add_right _ _
    have h := deed_load d
    split
    · rename_i e he
      rw [he] at h
      have h' : e.load = _ := h
      show e.load ≤ _
      omega
    · rename_i e he
      rw [he] at h
      have h' : e.load = _ := h
      show e.reads + e.writes + (e.flushes + 1) + 0 ≤ _
      unfold Dk.load at h' ⊢
      omega
  split
  · unfold Dk.stop
    split
    · exact Nat.le_add_right _ _
    · exact Nat.le_add_right _ _
  split
  · show d.reads + d.writes + d.flushes + 0 ≤ _
    unfold Dk.load
    omega
  · exact Nat.le_add_right _ _
def playsD (d : Dk) (l : List Dd) (i : Nat) : Dk := (l.take i).foldl stepD d
theorem plays_succ (d : Dk) (l : List Dd) (i : Nat) (hi : i < l.length) : playsD d l (i + 1) = stepD (playsD d l i) l[i] := by
  unfold playsD
  rw [List.take_succ_eq_append_getElem hi, List.foldl_append]
  rfl
theorem plays_load (d : Dk) (l : List Dd) : ∀ i, i ≤ l.length → (playsD d l i).load ≤ d.load + 2 * i
  | 0, _ => Nat.le_refl _
  | i + 1, h => by
    rw [plays_succ d l i (by omega)]
    have h1 := plays_load d l i (by omega)
    have h2 := step_load (playsD d l i) l[i]
    omega
theorem Two.gives {D : Dk} {w0 w w1 w2 : World} {g q : Nat} {F G B : Nat → Prop} (hb : Below w0.heap.size w0 w) (hp : GivesDisk D w w1 g F) (hr : GivesRef D w1 w2 q G B) : Two [] w0 w2 g F D q G B D := by
  have h1 := Has.gives hb hp
  have hs := h1.below.size
  refine ⟨h1.more hr.2.1, hr.1, fun k hk => ?_, fun k hk hg => ?_, fun k hk hg => ?_, fun x hx => by cases hx⟩
  · have := hr.2.2.1 k hk; omega
  · have := hr.2.2.1 k hg; have := h1.flt k hk; omega
  · have := hr.2.2.2 k hg; have := h1.flt k hk; omega
theorem fewL_all {l : List Dd} (h : fewL l = true) : l.length ≤ 40 ∧ ∀ i (hi : i < l.length), l[i].data.length ≤ 600 := by
  unfold fewL at h
  simp only [Bool.and_eq_true, decide_eq_true_eq, List.all_eq_true] at h
  exact ⟨h.1, fun i hi => h.2 _ (List.getElem_mem hi)⟩
theorem Try.agg36 (w : World) : (isAgg 53).run Try.prog w = .ok true w := by kernel_rfl
theorem Try.size36 (w : World) : (sizeOf 53).run Try.prog w = .ok 5 w := by kernel_rfl
theorem Try.cells36 : Try.prog.cellsOf 53 = 5 := by kernel_rfl
theorem Try.cells4 : Try.prog.cellsOf 4 = 1 := by kernel_rfl
theorem Try.cells34 : Try.prog.cellsOf 51 = 1 := by kernel_rfl
set_option maxRecDepth 100000 in
theorem open_dl {H : Type} {enc : TypeId × Value → H} {W : World} {base : Nat} {v : Value} {d : DataW H} {ps : List MemPlace} (hv : Value.okWide Try.prog W .any base 41 v) (h : DataW.Trod enc Try.prog W 0 (fun _ => true) true 41 v d ps) :
    ∃ (A : Option Addr) (D : List Dd) (c : Nat), v = .slice A D.length c ∧ DL W W.heap.size A D ∧ D.length ≤ c ∧ c ≤ 9223372036854775807 := by
  obtain ⟨a0, len, cap, rfl⟩ := okWide_slice Try.underlying41 hv
  obtain ⟨fuel, hf⟩ := h
  exact open_deedl (fuel := fuel) Try.underlying41 Try.underlying53 Try.cells36 rfl rfl rfl rfl rfl Try.cells3 Try.cells3 Try.cells33 Try.cells4 Try.cells34 Try.underlying3 Try.underlying3 Try.underlying26 Try.underlying4 Try.underlying51 Try.underlying5 Try.cells5 Try.underlying3 Try.cells3 (by simpa [Value.cells] using hf)
end Go.Proofs.Ytkockhggnbfahaa
end
