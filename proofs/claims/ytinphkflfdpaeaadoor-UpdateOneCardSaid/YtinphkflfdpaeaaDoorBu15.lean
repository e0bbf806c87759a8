/- Lemmas under the proofs of this place: IdsPRight, CurAt, ShaPWords. No statement is proved here. -/
import Derived.Test.YtinphkflfdpaeaaDoorBu09
import Derived.Test.YtinphkflfdpaeaaDoorBu08
import Derived.Test.YtinphkflfdpaeaaDoorBu04
import Derived.Test.YtinphkflfdpaeaaDoorBu11
import Derived.StillTailTactics
set_option linter.unusedSimpArgs false
set_option linter.unusedVariables false
set_option maxRecDepth 100000
set_option maxHeartbeats 16000000
namespace Go.Proofs.YtinphkflfdpaeaaDoor
section
open Go.RowKit
theorem leq_of_less (y z : Bs) : (Op.bytesLess y z || y == z) = !Op.bytesLess z y := by
  cases h : Op.bytesLess z y with
  | true => rw [less_asymm h]; simp [(less_ne h).symm]
  | false =>
    by_cases e : y = z
    · simp [e]
    · rcases less_total y z e with h2 | h2
      · simp [h2]
      · rw [h] at h2; cases h2
theorem rises_stop (l : List Bs) (k : Nat) (h : k ≤ l.length) (hf : risesK l k = false) : risesL l = false := by
  cases hb : risesL l with
  | false => rfl
  | true =>
    have h1 := (risesL_iff l).1 hb
    have : risesK l k = true := (risesK_all l k h).2 ⟨fun x hx => h1.1 x (List.mem_of_mem_take hx), List.Pairwise.sublist (List.take_sublist _ _) h1.2⟩
    rw [hf] at this; cases this
theorem idsRising_at (Ls : List Bs) (A : Option Addr) (n c B : Nat) (w : World) (HN : Hid (n = Ls.length)) (hr : SS w B A Ls) (hn : n ≤ 1000000) :
    Calls Tryd.prog 30 #[.slice A n c] w fun e w' => e = .returned (.bool (risesL Ls)) ∧ Below w.heap.size w w' := by
  have HR : Hid (0 < Ls.length → ∃ b off, A = some ⟨b, off, none⟩ ∧ b < B ∧ ∀ k, k < Ls.length → w.cell? ⟨b, off + k, none⟩ = some (.string (text (Ls.getD k [])))) := fun h => hr.at_ h
  clear hr
  go_enter Tryd.func30, Tryd.ntmps30
  go_wp2
  go_loopw [3, 4, 7] (fun x3 x4 i wr => ∃ k : Nat, k ≤ n ∧ i = .int .i64 (k : Int) ∧ Hid (risesK Ls k = true) ∧ Hid (∀ p, wr.cell? p = w.cell? p) ∧ Below w.heap.size w wr) (fun _ _ i _ => n - (intOf i).toNat)
  case atStart => exact ⟨0, by omega, rfl, rfl, fun _ => rfl, Below.refl _ _⟩
  case round =>
    obtain ⟨k, hk, rfl, HF, hw, hb⟩ := hrel
    by_cases hlt : k < n
    · have hkL : k < Ls.length := by have := HN.out; omega
      obtain ⟨b, off, rfl, _, hc⟩ := HR.out (by omega)
      obtain ⟨y, hy⟩ : ∃ y, y = Ls.getD k [] := ⟨_, rfl⟩
      obtain ⟨s, hs⟩ : ∃ s, s = text y := ⟨_, rfl⟩
      have hck := hc k hkL
      rw [← hy, ← hs, ← hw.out] at hck
      have HRt : Hid (∀ V, Calls Tryd.prog 57 #[.string s] V fun e w' => e = .returned (.bool (rightB y)) ∧ V = w') := fun V => by rw [hs]; exact idsRight_at y V
      have u0 : (0 : Int) ≤ (k : Int) := by omega
      have u1 : (k : Int) < (n : Int) := by omega
      have HS : Hid (risesK Ls (k + 1) = (rightB y && (k == 0 || Op.bytesLess (Ls.getD (k - 1) []) y))) := by show _ = _; rw [risesK, HF.out, ← hy, Bool.true_and]
      cases hrt : rightB y with
      | false =>
        have HH : Hid (risesL Ls = false) := rises_stop Ls (k + 1) (by omega) (by rw [HS.out, hrt]; rfl)
        rw [hrt] at HRt
        clear hy hs hc HR hrt hkL HF
        go_wp2_with (first
          | (go_at_call 57; (with_reducible refine (HRt.out _).mono ?_); rintro e w' ⟨rfl, rfl⟩))
        go_ret
        exact ⟨by rw [HH.out]; rfl, ⟨hb.os, hb.tape, hb.output, hb.size, hb.block⟩⟩
      | true =>
        rw [hrt] at HRt
        by_cases hk0 : k = 0
        · have HH : Hid (risesK Ls (k + 1) = true) := by show _ = _; rw [HS.out, hrt, hk0]; rfl
          have d0 : decide (0 < (k : Int)) = false := decide_eq_false (by omega)
          have d1 : decide (0 < k) = false := decide_eq_false (by omega)
          clear hy hs hc HR hrt hkL HF hk0
          go_wp2_with (first
            | (go_at_call 57; (with_reducible refine (HRt.out _).mono ?_); rintro e w' ⟨rfl, rfl⟩))
          refine ⟨⟨k + 1, by omega, by go_num, HH, fun p => hw.out p, ⟨hb.os, hb.tape, hb.output, hb.size, hb.block⟩⟩, ?_⟩
          simp [intOf]; omega
        · obtain ⟨z, hz⟩ : ∃ z, z = Ls.getD (k - 1) [] := ⟨_, rfl⟩
          obtain ⟨t, ht⟩ : ∃ t, t = text z := ⟨_, rfl⟩
          have hcp := hc (k - 1) (by omega)
          rw [← hz, ← ht, ← hw.out] at hcp
          have ek : IntKind.i64.wrap ((k : Int) - 1) = ((k - 1 : Nat) : Int) := (IntWalk.i64_in _ (by omega)).trans (by omega)
          have u2 : ((k - 1 : Nat) : Int) < (n : Int) := by omega
          have u3 : (0 : Int) < (k : Int) := by omega
          have d0 : decide (0 < (k : Int)) = true := decide_eq_true (by omega)
          have d1 : decide (0 < k) = true := decide_eq_true (by omega)
          cases hls : Op.bytesLess z y with
          | false =>
            have HH : Hid (risesL Ls = false) := rises_stop Ls (k + 1) (by omega) (by rw [HS.out, hrt, ← hz, hls]; simp [hk0])
            have hge : ∀ ty, binOp .leq ty (.string s) (.string t) = pure (.bool true) := fun ty => by simp only [binOp, Op.stringOp, ht, hs, text_toList, leq_of_less, hls]; rfl
            clear hy hs hz ht hc HR hrt hkL HF hls
            go_wp2_with (first
              | (go_at_call 57; (with_reducible refine (HRt.out _).mono ?_); rintro e w' ⟨rfl, rfl⟩))
            go_ret
            exact ⟨by rw [HH.out]; rfl, ⟨hb.os, hb.tape, hb.output, hb.size, hb.block⟩⟩
          | true =>
            have HH : Hid (risesK Ls (k + 1) = true) := by show _ = _; rw [HS.out, hrt, ← hz, hls]; simp
            have hge : ∀ ty, binOp .leq ty (.string s) (.string t) = pure (.bool false) := fun ty => by simp only [binOp, Op.stringOp, ht, hs, text_toList, leq_of_less, hls]; rfl
            clear hy hs hz ht hc HR hrt hkL HF hls
            go_wp2_with (first
              | (go_at_call 57; (with_reducible refine (HRt.out _).mono ?_); rintro e w' ⟨rfl, rfl⟩))
            refine ⟨⟨k + 1, by omega, by go_num, HH, fun p => hw.out p, ⟨hb.os, hb.tape, hb.output, hb.size, hb.block⟩⟩, ?_⟩
            simp [intOf]; omega
    · have HH : Hid (risesL Ls = true) := by
        show _ = _
        have := HF.out
        rwa [show k = Ls.length by have := HN.out; omega] at this
      clear HF HR
      go_wp2
      go_ret
      exact ⟨by rw [HH.out]; rfl, hb⟩
theorem idsRising_any (Ls : List Bs) (A : Option Addr) (n c B : Nat) (w : World) (HN : Hid (n = Ls.length)) (hr : SS w B A Ls) (hn : n ≤ 1000) (hc : n ≤ c) (hcm : c ≤ 9223372036854775807) :
    Calls Tryd.prog 30 #[.slice A n c] w fun e w' => e = .returned (.bool (risesL Ls)) ∧ Below w.heap.size w w' := idsRising_at Ls A n c B w HN hr (by omega)
end
section
open Go.RowKit
def CurB (B : Nat) (w : World) (g : Nat) : Option (List UInt8) → Prop
  | none => w.heap[g]? = some (.cells #[.slice none 0 0, .bool true] 81 (0, 0))
  | some L => ∃ A c, w.heap[g]? = some (.cells #[.slice A L.length c, .bool false] 81 (0, 0)) ∧ RB w B A L ∧ L.length ≤ c ∧ L.length ≤ 1048576
theorem CurB.cur {B : Nat} {w : World} {g : Nat} {st : Option (List UInt8)} (h : CurB B w g st) (hB : B ≤ w.heap.size) : Cur w g st := by
  rcases st with _ | L
  · exact h
  · obtain ⟨A, c, h1, h2, h3, h4⟩ := h
    exact ⟨A, c, h1, h2.more hB, h3, h4⟩
theorem Cur.at_ {w : World} {g : Nat} {st : Option (List UInt8)} (h : Cur w g st) : CurB w.heap.size w g st := by
  rcases st with _ | L
  · exact h
  · obtain ⟨A, c, h1, h2, h3, h4⟩ := h
    exact ⟨A, c, h1, h2, h3, h4⟩
theorem CurB.lt {B : Nat} {w : World} {g : Nat} {st : Option (List UInt8)} (h : CurB B w g st) : g < w.heap.size := by
  rcases st with _ | L
  · exact Blk.lt (t := 81) h
  · obtain ⟨A, c, h1, _⟩ := h
    exact Blk.lt (t := 81) h1
theorem CurB.keep {B : Nat} {w w' : World} {g : Nat} {st : Option (List UInt8)} (h : CurB B w g st) (hg : w'.heap[g]? = w.heap[g]?) (hk : ∀ p : Addr, p.block < B → w'.cell? p = w.cell? p) : CurB B w' g st := by
  rcases st with _ | L
  · exact hg.trans h
  · obtain ⟨A, c, h1, h2, h3, h4⟩ := h
    exact ⟨A, c, hg.trans h1, Reads.keep h2 hk, h3, h4⟩
theorem cur_cutB {w : World} {B g : Nat} {A : Option Addr} {L : List UInt8} {c k : Nat} (HG : Hid (w.heap[g]? = some (.cells #[.slice A L.length c, .bool false] 81 (0, 0)))) (hr : RB w B A L) (hc : L.length ≤ c) (hl : L.length ≤ 1048576)
    (hk : k ≤ L.length) (A' : Option Addr) (c' : Nat) (h1 : c = k → A' = A) (h2 : c ≠ k → A' = A.map (·.add k)) (hc' : c' = c - k) :
    CurB B (w.setCell ⟨g, 0, none⟩ (.slice A' (L.length - k) c')) g (some (L.drop k)) := by
  subst hc'
  have hA : A' = if c = k then A else A.map (·.add (k * 1)) := by
    rw [Nat.mul_one]
    by_cases h : c = k
    · rw [if_pos h]; exact h1 h
    · rw [if_neg h]; exact h2 h
  refine ⟨A', c - k, ?_, ?_, by rw [List.length_drop]; omega, by rw [List.length_drop]; omega⟩
  · rw [List.length_drop]
    exact Blk.set_ HG.out 0 (.slice A' (L.length - k) (c - k))
  · rw [hA]
    exact rb_far (rb_cut hr hk hc) HG.out (cur_cells _ _ _ _) _
theorem own_new {w : World} {base c : Nat} {A : Option Addr} {L : List UInt8} (h : Own w base A L c) : ∀ ad, A = some ad → base ≤ ad.block := fun ad e => by
  subst e
  rcases h.2 with ⟨h1, _⟩ | ⟨k, cap, cur, h1, h2, _⟩
  · simp at h1
  · simp only [Value.slice.injEq, Option.some.injEq] at h1
    rw [h1.1]
    exact h2
def GivesAt (B g : Nat) (r : St × List UInt8) (w : World) (e : Ending) (w' : World) : Prop :=
  ∃ A c, e = .returned (.slice A r.2.length c) ∧ RB w' w'.heap.size A r.2 ∧ (∀ ad, A = some ad → w.heap.size ≤ ad.block) ∧ CurB B w' g r.1 ∧ Only w w' g
theorem take_at (B g : Nat) (n : Int) (st : St) (w : World) (h0 : CurB B w g st) (hB : B ≤ w.heap.size) :
    Calls Tryd.prog 26 #[.pointer (some ⟨g, 0, none⟩), .int .i64 n] w (GivesAt B g (stepTake n st) w) := by
  have h := h0.cur hB
  have hb := bad_any g _ w h
  have hfl := fail_any g _ w h
  rcases st with _ | L
  · have h' := Lib.hid h0
    clear h h0
    go_enter Tryd.func26, Tryd.ntmps26
    go_wp2_with (go_at_call 53; refine hb.mono ?_; rintro e w' ⟨rfl, rfl⟩)
    go_ret
    exact ⟨none, 0, rfl, RB.none_ _ _, (fun _ e => nomatch e), h'.out, only_refl _ _⟩
  · obtain ⟨A, c, hg, hrB, hc, hl⟩ := h0
    have hr := hrB.more hB
    have HrB := Lib.hid hrB
    clear h hrB
    have hc0 : w.cell? ⟨g, 0, none⟩ = some (.slice A L.length c) := (blk_cell hg 0).1
    have hf0 : w.frozen? ⟨g, 0, none⟩ = false := (blk_cell hg 0).2
    have HG := Lib.hid hg
    clear hg
    by_cases hn : n < 0 ∨ (L.length : Int) < n
    · have HS : Hid (stepTake n (some L) = (none, [])) := by show _ = _; simp only [stepTake]; rw [if_pos hn]
      rcases hn with hn | hn
      · have hd : decide (n < 0) = true := by simp [hn]
        go_enter Tryd.func26, Tryd.ntmps26
        go_wp2_with (first
          | (go_at_call 53; refine hb.mono ?_; rintro e w' ⟨rfl, rfl⟩)
          | (go_at_call 54; refine hfl.mono ?_; rintro e w' ⟨rfl, hcur, honly, hsz⟩))
        go_ret
        rw [HS.out]
        exact ⟨none, 0, rfl, RB.none_ _ _, (fun _ e => nomatch e), hcur, honly⟩
      · have hd : decide (n < 0) = false := by simp; omega
        have hd2 : decide ((L.length : Int) < n) = true := by simp [hn]
        go_enter Tryd.func26, Tryd.ntmps26
        go_wp2_with (first
          | (go_at_call 53; refine hb.mono ?_; rintro e w' ⟨rfl, rfl⟩)
          | (go_at_call 54; refine hfl.mono ?_; rintro e w' ⟨rfl, hcur, honly, hsz⟩))
        go_ret
        rw [HS.out]
        exact ⟨none, 0, rfl, RB.none_ _ _, (fun _ e => nomatch e), hcur, honly⟩
    · have hd : decide (n < 0) = false := by simp; omega
      have hd2 : decide ((L.length : Int) < n) = false := by simp; omega
      obtain ⟨k, rfl⟩ : ∃ k : Nat, n = (k : Int) := ⟨n.toNat, by omega⟩
      have hkl : k ≤ L.length := by omega
      have HS : Hid (stepTake (k : Int) (some L) = (some (L.drop k), L.take k)) := by show _ = _; simp only [stepTake]; rw [if_neg hn]; simp
      clear hn
      go_enter Tryd.func26, Tryd.ntmps26
      have hlt : g < w.heap.size := Blk.lt HG.out
      have HLK : Hid ((L.take k).length = k) := by show _ = _; rw [List.length_take]; omega
      have hrt : RB w w.heap.size A (L.take k) := by
        refine ⟨by rw [cells_length]; simp, fun h0 => ?_⟩
        obtain ⟨ad, e, hb', hcc⟩ := hr.2 (by rw [List.length_take] at h0; omega)
        refine ⟨ad, e, hb', fun j u hu => hcc j u ?_⟩
        rw [← cells_take, List.getElem?_take] at hu
        split at hu
        · exact hu
        · cases hu
      go_wp2_with (first
        | (go_at_call 53; refine hb.mono ?_; rintro e w' ⟨rfl, rfl⟩)
        | (go_at_call 52; refine (copied_any (L.take k) k _ _ _ (by rw [List.length_take]; omega) hrt (by rw [List.length_take]; omega)).mono ?_; rintro e w1 ⟨A1, c1, he1, hown1, hb1⟩; rw [HLK.out] at he1; subst he1; have hc1 := (hb1.cell (p := ⟨g, 0, none⟩) hlt).trans hc0; have hf1 := (hb1.frozen (p := ⟨g, 0, none⟩) hlt).trans hf0))
      all_goals
        have HG1 : Hid (w1.heap[g]? = some (.cells #[.slice A L.length c, .bool false] 81 (0, 0))) := Blk.below HG.out hb1 hlt
        have hr1 : RB w1 B A L := HrB.out.below (hb1.mono hB)
        have hcur := fun A' c' a b d => cur_cutB HG1 hr1 hc hl hkl A' c' a b d
        have ho1 : RB w1 w1.heap.size A1 (L.take k) := own_rb hown1
        go_ret
        rw [HS.out]
        refine ⟨A1, c1, by show _ = Ending.returned (.slice A1 (L.take k).length c1); rw [HLK.out]; rfl, ?_, (fun ad e => own_new hown1 ad e), hcur _ _ (fun hx => by first | rfl | (exact absurd hx (by assumption))) (fun hx => by first | rfl | (exact absurd (by assumption) hx)) (by omega), only_trans (only_below hb1 g) (only_set _ _ _ _)⟩
        have hz : ∀ u, (w1.setCell ⟨g, 0, none⟩ u).heap.size = w1.heap.size := fun u => by simp [World.setCell]
        rw [hz]
        exact rb_far ho1 HG1.out (cur_cells _ _ _ _) _
end
section
open Go.RowKit
theorem turned_any (x : UInt32) (n : Nat) (w : World) (h0 : 0 < n) (h1 : n < 32) : Calls Tryd.prog 94 #[.int .u32 (x.toNat : Int), .int .u64 (n : Int)] w fun e w' => e = .returned (.int .u32 ((rotR x n).toNat : Int)) ∧ w = w' := by
  have hx := w_lt x
  have HR := Lib.hid (w_rot x n h0 h1)
  have hs : IntKind.u64.wrap (32 - (n : Int)) = ((32 - n : Nat) : Int) := by rw [IntKind.wrap_u64]; omega
  go_enter Tryd.func94, Tryd.ntmps94
  go_wp2
  go_ret
  exact ⟨congrArg (fun v => Ending.returned (Value.int .u32 v)) HR.out, rfl⟩
theorem Tryd.shaW : (Tryd.prog.info? 113).map (fun i => (i.zero, i.size)) = some (some (.agg (wcells (List.replicate 64 0)).toArray), (wcells (List.replicate 64 0)).toArray.size) := by kernel_rfl
theorem Tryd.shaWs : (Tryd.prog.info? 113).map (·.size) = some 64 := by kernel_rfl
theorem Tryd.shaBs : (Tryd.prog.info? 101).map (·.size) = some 64 := by kernel_rfl
theorem Tryd.sha1 : (Tryd.prog.info? 5).map (·.size) = some 1 := by kernel_rfl
theorem Tryd.sha4 : (Tryd.prog.info? 66).map (·.size) = some 1 := by kernel_rfl
theorem spread_word (x : UInt32) (b : UInt8) : bits .or .u32 ((x.toNat : Int) * 256 % 4294967296) ((b.toNat : Int) % 4294967296) = ((x <<< 8 ||| b.toUInt32).toNat : Int) := by
  have h8 := w_shl x 8 (by omega)
  rw [show (2 : Int) ^ 8 = 256 from rfl] at h8
  have e : (b.toNat : Int) % 4294967296 = ((b.toUInt32).toNat : Int) := by have := b.toNat_lt; rw [Int.emod_eq_of_lt (by omega) (by omega)]; simp
  rw [h8, e, w_or]
  rfl
theorem spread_any (B : List UInt8) (w : World) (hl : B.length = 64) :
    Calls Tryd.prog 92 #[.agg (cells B).toArray] w fun e w' => e = .returned (.agg (wcells (schedK B 64)).toArray) ∧ Below w.heap.size w w' := by
  have HI : Hid (∀ n : Nat, n < 64 → ∀ W, (Instr.index 101 (.agg (cells B).toArray) (.int .i64 (n : Int))).run Tryd.prog W = .ok (.int .u8 ((B.getD n 0).toNat : Int)) W) :=
    fun n hn W => run_index_row Tryd.underlying101 Tryd.sha1 (fun d h => by rw [Tryd.underlying5] at h; injection h with h; subst h; rfl) (by rw [Tryd.underlying5]; rfl) rfl hn (cells_at B (by omega))
  go_enter Tryd.func92, Tryd.ntmps92
  go_wp2_with (first
    | (refine wpList_box_letter rfl 101 _ rfl (some 1) rfl (cells B).toArray rfl ?_; intro g1 w1 hw1 hg1)
    | (refine wpList_alloc_letter rfl 113 rfl (some 2) rfl _ Tryd.shaW ?_; intro g2 w2 hw2 hg2)
    | (refine wpList_alloc_letter rfl 113 rfl (some 3) rfl _ Tryd.shaW ?_; intro g3 w3 hw3 hg3)
    | (refine wpList_load_row rfl 101 _ rfl g1 rfl _ _ _ _ (letter_keeps hw3 (letter_keeps hw2 (letter_blk hw1 hg1))) Tryd.underlying101 rfl (by rw [Tryd.shaBs]; simp [cells_length, hl]) ?_))
  have b1 : Below w.heap.size w w1 := letter_below hw1 (Below.refl _ _) (Nat.le_refl _)
  have b2 : Below w.heap.size w w2 := letter_below hw2 b1 (by have := letter_size hw1; omega)
  have b3 : Below w.heap.size w w3 := letter_below hw3 b2 (by have := letter_size hw1; have := letter_size hw2; omega)
  have k3 : Blk w3 g3 113 (wcells (List.replicate 64 0)).toArray := letter_blk hw3 hg3
  have k2 : Blk w3 g2 113 (wcells (List.replicate 64 0)).toArray := letter_keeps hw3 (letter_blk hw2 hg2)
  have hn2 : w.heap.size ≤ g2 := by have := letter_size hw1; have := hg2.out; omega
  have hn3 : g2 < g3 := by have := letter_size hw2; have := hg3.out; have := hg2.out; omega
  clear hw1 hw2 hw3 hg1 hg2 hg3 b1 b2
  go_loopw [4, 5, 10] (fun v4 v5 i wr => ∃ n : Nat, n ≤ 64 ∧ i = .int .i64 (n : Int) ∧ Blk wr g3 113 (wcells (spreadK B n)).toArray ∧ Blk wr g2 113 (wcells (List.replicate 64 0)).toArray ∧ Below w.heap.size w wr) (fun _ _ i _ => 64 - (intOf i).toNat)
  case atStart => exact ⟨0, by omega, rfl, k3, k2, b3⟩
  case round =>
    obtain ⟨n, hn, rfl, q3, q2, hbw⟩ := hrel
    by_cases hlt : n < 64
    · have hi := HI.out n hlt
      have hl3 := spreadK_length B n
      obtain ⟨x, hx⟩ : ∃ x, x = (spreadK B n).getD (n / 4) 0 := ⟨_, rfl⟩
      obtain ⟨b, hb⟩ : ∃ b, b = B.getD n 0 := ⟨_, rfl⟩
      have c3 : wr.cell? ⟨g3, n / 4, none⟩ = some (.int .u32 (x.toNat : Int)) := by rw [hx]; exact wblk_cell q3 (by omega)
      have f3 : wr.frozen? ⟨g3, n / 4, none⟩ = false := q3.frozen _
      have HN : Hid (Blk (wr.setCell ⟨g3, n / 4, none⟩ (.int .u32 ((x <<< 8 ||| b.toUInt32).toNat : Int))) g3 113 (wcells (spreadK B (n + 1))).toArray) := by
        have := wblk_set q3 (n / 4) (x <<< 8 ||| b.toUInt32)
        rwa [hx, hb] at this ⊢
      have HW := spread_word x b
      rw [← hb] at hi
      have u0 : (0 : Int) ≤ (n : Int) := by omega
      have u1 : (n : Int) < 64 := by omega
      have hq : (n : Int).tdiv 4 = ((n / 4 : Nat) : Int) := by rw [Int.tdiv_eq_ediv_of_nonneg (by omega)]; simp
      have u2 : ((n / 4 : Nat) : Int) < 64 := by omega
      clear hx hb hl3 q3 HI
      go_wp2
      have ev : x.toNat <<< 8 % 4294967296 ||| b.toNat = (x <<< 8 ||| b.toUInt32).toNat := by simp
      rw [ev]
      refine ⟨⟨n + 1, by omega, by go_num, HN.out, q2.far (show g2 ≠ g3 by omega) _, hbw.setCell (show w.heap.size ≤ g3 by omega) _⟩, ?_⟩
      simp [intOf]; omega
    · have h64 : n = 64 := by omega
      have p3 : Blk wr g3 113 (wcells (wordsK B 16)).toArray := by rw [← spreadK_last, ← h64]; exact q3
      clear HI q3 h64 k3 k2 b3
      obtain ⟨wo, rfl⟩ : ∃ wo : World, wo = wr := ⟨_, rfl⟩
      go_wp2
      go_loopw [6, 7, 8] (fun i v7 v8 wr => ∃ n : Nat, 16 ≤ n ∧ n ≤ 64 ∧ i = .int .i64 (n : Int) ∧ Blk wr g3 113 (wcells (wordsK B n)).toArray ∧ Blk wr g2 113 (wcells (List.replicate 64 0)).toArray ∧ Below w.heap.size w wr) (fun i _ _ _ => 64 - (intOf i).toNat)
      case atStart => exact ⟨16, by omega, by omega, rfl, p3, q2, hbw⟩
      case round =>
        clear p3 q2 hbw
        obtain ⟨n, hn16, hn, rfl, q3, q2, hbw⟩ := hrel
        by_cases hlt : n < 64
        · have hl3 := wordsK_length B n hn
          obtain ⟨y16, h16⟩ : ∃ x, x = (wordsK B n).getD (n - 16) 0 := ⟨_, rfl⟩
          obtain ⟨y15, h15⟩ : ∃ x, x = (wordsK B n).getD (n - 15) 0 := ⟨_, rfl⟩
          obtain ⟨y7, h7⟩ : ∃ x, x = (wordsK B n).getD (n - 7) 0 := ⟨_, rfl⟩
          obtain ⟨y2, h2⟩ : ∃ x, x = (wordsK B n).getD (n - 2) 0 := ⟨_, rfl⟩
          have c15 : wr.cell? ⟨g3, n - 15, none⟩ = some (.int .u32 (y15.toNat : Int)) := by rw [h15]; exact wblk_cell q3 (by omega)
          have c2 : wr.cell? ⟨g3, n - 2, none⟩ = some (.int .u32 (y2.toNat : Int)) := by rw [h2]; exact wblk_cell q3 (by omega)
          have e16 : IntKind.i64.wrap ((n : Int) - 16) = ((n - 16 : Nat) : Int) := (IntWalk.i64_in _ (by omega)).trans (by omega)
          have e15 : IntKind.i64.wrap ((n : Int) - 15) = ((n - 15 : Nat) : Int) := (IntWalk.i64_in _ (by omega)).trans (by omega)
          have e7 : IntKind.i64.wrap ((n : Int) - 7) = ((n - 7 : Nat) : Int) := (IntWalk.i64_in _ (by omega)).trans (by omega)
          have e2 : IntKind.i64.wrap ((n : Int) - 2) = ((n - 2 : Nat) : Int) := (IntWalk.i64_in _ (by omega)).trans (by omega)
          have t16 : ((n - 16 : Nat) : Int) < 64 := by omega
          have t15 : ((n - 15 : Nat) : Int) < 64 := by omega
          have t7 : ((n - 7 : Nat) : Int) < 64 := by omega
          have t2 : ((n - 2 : Nat) : Int) < 64 := by omega
          have u0 : (0 : Int) ≤ (n : Int) := by omega
          have u1 : (n : Int) < 64 := by omega
          have HN : Hid (∀ wq : World, Blk wq g3 113 (wcells (wordsK B n)).toArray → Blk (wq.setCell ⟨g3, n, none⟩ (.int .u32 ((y16 + sig0 y15 + y7 + sig1 y2).toNat : Int))) g3 113 (wcells (wordsK B (n + 1))).toArray) := by
            intro wq hq
            rw [wordsK_step B n hn16 hlt, ← h16, ← h15, ← h7, ← h2]
            exact wblk_set hq n _
          have HQ : Hid (∀ wq : World, Blk wq g3 113 (wcells (wordsK B n)).toArray → wq.cell? ⟨g3, n - 16, none⟩ = some (.int .u32 (y16.toNat : Int)) ∧ wq.cell? ⟨g3, n - 7, none⟩ = some (.int .u32 (y7.toNat : Int)) ∧
              wq.frozen? ⟨g3, n, none⟩ = false ∧ ∃ y : UInt32, wq.cell? ⟨g3, n, none⟩ = some (.int .u32 (y.toNat : Int))) :=
            fun wq hq => ⟨by rw [h16]; exact wblk_cell hq (by omega), by rw [h7]; exact wblk_cell hq (by omega), hq.frozen _, _, wblk_cell hq (by omega)⟩
          obtain ⟨z0, hz0⟩ : ∃ x, x = sig0 y15 := ⟨_, rfl⟩
          obtain ⟨z1, hz1⟩ : ∃ x, x = sig1 y2 := ⟨_, rfl⟩
          have F1 : bits .xor .u32 (bits .xor .u32 ((rotR y15 7).toNat : Int) ((rotR y15 18).toNat : Int)) ((y15.toNat : Int) / 8) = (z0.toNat : Int) := by rw [show (8 : Int) = 2 ^ 3 from rfl, w_shr _ _ (by omega), w_xor, w_xor, hz0]; rfl
          have F2 : bits .xor .u32 (bits .xor .u32 ((rotR y2 17).toNat : Int) ((rotR y2 19).toNat : Int)) ((y2.toNat : Int) / 1024) = (z1.toNat : Int) := by rw [show (1024 : Int) = 2 ^ 10 from rfl, w_shr _ _ (by omega), w_xor, w_xor, hz1]; rfl
          have T7 : Hid (∀ W, Calls Tryd.prog 94 #[.int .u32 (y15.toNat : Int), .int .u64 7] W fun e w' => e = .returned (.int .u32 ((rotR y15 7).toNat : Int)) ∧ W = w') := fun W => turned_any y15 7 W (by decide) (by decide)
          have T18 : Hid (∀ W, Calls Tryd.prog 94 #[.int .u32 (y15.toNat : Int), .int .u64 18] W fun e w' => e = .returned (.int .u32 ((rotR y15 18).toNat : Int)) ∧ W = w') := fun W => turned_any y15 18 W (by decide) (by decide)
          have T17 : Hid (∀ W, Calls Tryd.prog 94 #[.int .u32 (y2.toNat : Int), .int .u64 17] W fun e w' => e = .returned (.int .u32 ((rotR y2 17).toNat : Int)) ∧ W = w') := fun W => turned_any y2 17 W (by decide) (by decide)
          have T19 : Hid (∀ W, Calls Tryd.prog 94 #[.int .u32 (y2.toNat : Int), .int .u64 19] W fun e w' => e = .returned (.int .u32 ((rotR y2 19).toNat : Int)) ∧ W = w') := fun W => turned_any y2 19 W (by decide) (by decide)
          obtain ⟨p1, hp1⟩ : ∃ x, x = y16 + z0 := ⟨_, rfl⟩
          obtain ⟨p2, hp2⟩ : ∃ x, x = p1 + y7 := ⟨_, rfl⟩
          obtain ⟨p3, hp3⟩ : ∃ x, x = p2 + z1 := ⟨_, rfl⟩
          have A1 : ((y16.toNat : Int) + (z0.toNat : Int)) % 4294967296 = (p1.toNat : Int) := by rw [w_add, hp1]
          have A2 : ((p1.toNat : Int) + (y7.toNat : Int)) % 4294967296 = (p2.toNat : Int) := by rw [w_add, hp2]
          have A3 : ((p2.toNat : Int) + (z1.toNat : Int)) % 4294967296 = (p3.toNat : Int) := by rw [w_add, hp3]
          rw [← hz0, ← hz1, ← hp1, ← hp2, ← hp3] at HN
          clear h16 h15 h7 h2 hl3 hz0 hz1 hp1 hp2 hp3
          go_wp2
          go_quiet (fail)
          have q3' : Blk (wr.drewN nq) g3 113 (wcells (wordsK B n)).toArray := q3.drewN nq
          have q2' : Blk (wr.drewN nq) g2 113 (wcells (List.replicate 64 0)).toArray := q2.drewN nq
          have hbw' : Below w.heap.size w (wr.drewN nq) := ⟨hbw.os, hbw.tape, hbw.output, hbw.size, hbw.block⟩
          generalize wr.drewN nq = wq at q3' q2' hbw' ⊢
          clear c15 c2 q3 q2 hbw
          obtain ⟨c16, c7, f3, yo, c3⟩ := HQ.out _ q3'
          have HP : Hid (Blk wq g3 113 (wcells (wordsK B n)).toArray) := q3'
          clear q3'
          go_wp2_with (first
            | (go_at_call 94; (with_reducible refine (T7.out _).mono ?_); rintro e w' ⟨rfl, rfl⟩)
            | (go_at_call 94; (with_reducible refine (T18.out _).mono ?_); rintro e w' ⟨rfl, rfl⟩)
            | (go_at_call 94; (with_reducible refine (T17.out _).mono ?_); rintro e w' ⟨rfl, rfl⟩)
            | (go_at_call 94; (with_reducible refine (T19.out _).mono ?_); rintro e w' ⟨rfl, rfl⟩))
          go_still_tail 15, (by kernel_rfl)
          change wpList _ _ _ _ _ wq.drew
          go_wp2
          refine ⟨⟨n + 1, by omega, by omega, by go_num, (HN.out _ HP.out).drew, (q2'.far (show g2 ≠ g3 by omega) _).drew, (hbw'.setCell (show w.heap.size ≤ g3 by omega) _).drew⟩, ?_⟩
          simp [intOf]; omega
        · have h64 : n = 64 := by omega
          have p3 : Blk wr g3 113 (wcells (schedK B 64)).toArray := by rw [← wordsK_last, ← h64]; exact q3
          clear q3 h64
          obtain ⟨CS, hCS⟩ : ∃ CS, CS = (wcells (schedK B 64)).toArray := ⟨_, rfl⟩
          obtain ⟨ZS, hZS⟩ : ∃ ZS, ZS = (wcells (List.replicate 64 0)).toArray := ⟨_, rfl⟩
          have hs : CS.size = 64 := by rw [hCS]; simp [wcells_length, schedK_length]
          have hz : ZS.size = 64 := by rw [hZS]; simp [wcells_length]
          have h1 : CS.all (·.oneCell') = true := by rw [hCS]; exact all_oneCell_toArray (wcells_one _)
          have HC : Hid (CS = (wcells (schedK B 64)).toArray) := hCS
          rw [← hCS] at p3
          rw [← hZS] at q2
          clear hCS hZS
          go_wp2_with (first
            | (refine wpList_load_row rfl 113 _ rfl g3 rfl _ _ _ _ p3 Tryd.underlying113 rfl (by rw [hs]; exact Tryd.shaWs) ?_)
            | (refine wpList_store_rowTo rfl 113 _ _ rfl rfl g2 CS rfl rfl _ _ q2 (by rw [hs]; exact Tryd.shaWs) (by rw [hs, hz]) h1 ?_))
          have q9 : Blk (wr.setRow g2 CS) g2 113 CS := setRow_heap _ _ _ _ _ _ q2
          try simp only [Exit.inBlock, Exit.then]
          refine bodyPost_ret (results_cell_row rfl _ _ g2 _ _ _ _ rfl q9 Tryd.underlying113 rfl (by rw [hs]; exact Tryd.shaWs)) rfl ?_
          rw [HC.out]
          exact ⟨rfl, below_setRow hbw (by omega) _⟩
end
end Go.Proofs.YtinphkflfdpaeaaDoor
