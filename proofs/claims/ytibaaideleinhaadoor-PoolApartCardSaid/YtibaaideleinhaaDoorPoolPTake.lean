/- The walk of the program's Take (layer 11). -/
import Derived.Test.YtibaaideleinhaaDoorPoolPSmall
set_option linter.unusedVariables false
namespace Go.Proofs.YtibaaideleinhaaDoor
open Go.RowKit

section
variable {p : Pl} {n k g s : Nat} {W W' : World} {at_ : Int}
theorem turns_of_only (h : Only W W' s) {F : Nat → Prop} (hF : F s) : Turns W W' F F := Turns.grown h fun k e => by injection e with e; rw [← e]; exact hF
theorem pp_zero {l : List Int} {v : Bool} (h : PP W g s p) : PP W g s ⟨p.lo, p.turnK l v 0⟩ := h
theorem pp_next (h : PP W g s p) (q : List Bool) (hq : q.length = p.tk.length) (hW : W'.heap[g]? = W.heap[g]?) (hs : SetAt W' s (Pl.pad ⟨p.lo, q⟩)) : PP W' g s ⟨p.lo, q⟩ := by
  refine ⟨?_, hs, h.ne, h.pos, ⟨h.small.1, by show q.length ≤ 1024; rw [hq]; exact h.small.2⟩, by show p.lo + (q.length : Int) ≤ 1024; rw [hq]; exact h.top⟩
  have e : poolCells ⟨p.lo, q⟩ s = poolCells p s := by unfold poolCells; rw [hq]
  rw [e]
  exact hW.trans h.blk
theorem free_in (hn : n ≤ (p.list false).length) (hk : k < n) : p.th ((p.list false).getD k 0) = true := by
  refine Pl.list_th (q := false) ?_
  rw [List.getD_eq_getElem?_getD, List.getElem?_eq_getElem (by omega)]
  exact List.getElem_mem _
theorem th_small (h : PP W g s p) {b : Int} (hb : p.th b = true) : 0 ≤ b ∧ b < 1024 := by
  have h1 := Pl.th_iff.1 hb
  have h2 := h.small
  have h3 := h.top
  unfold Pl.small at h2
  omega
theorem take_gap (hn : n ≤ (p.list false).length) (hk : k < n) (h : PP W g s ⟨p.lo, p.turnK ((p.list false).take n) true k⟩) (hp : PP W' g s p) (ha : at_ = if k = 0 then p.lo else (p.list false).getD (k - 1) 0) :
    Calls Tryd.prog 27 #[.pointer (some ⟨s, 0, none⟩), .int .i64 at_] W fun e w' => e = .returned (.int .i64 ((p.list false).getD k 0)) ∧ Below W.heap.size W w' := by
  have hi : InI at_ := by
    rw [ha]
    split
    · have := hp.small; unfold Pl.small at this; exact ⟨by omega, by omega⟩
    · have := th_small hp (free_in (k := k - 1) hn (by omega)); exact ⟨by omega, by omega⟩
  have h1 := bitsGap_any _ s at_ W hi h.set h.len
  rw [(Pl.free_next hp.small.1.1 hn hk ha).1] at h1
  exact h1
theorem take_add (hn : n ≤ (p.list false).length) (hk : k < n) (h : PP W g s ⟨p.lo, p.turnK ((p.list false).take n) true k⟩) (hp : PP W' g s p) :
    Calls Tryd.prog 28 #[.pointer (some ⟨s, 0, none⟩), .int .i64 ((p.list false).getD k 0)] W fun e w' => e = .returned (.int .i64 0) ∧ PP w' g s ⟨p.lo, p.turnK ((p.list false).take n) true (k + 1)⟩ ∧ Only W w' s := by
  have hx := free_in hn hk
  have h2 := th_small hp hx
  have h1 := bitsAdd_any _ s ((p.list false).getD k 0) W ⟨by omega, by omega⟩ h.set h.len
  have ht : Pl.th ⟨p.lo, p.turnK ((p.list false).take n) true k⟩ ((p.list false).getD k 0) = true := by
    rw [Pl.th_iff] at hx ⊢
    show _ ∧ _ < ((p.turnK _ true k).length : Int)
    rw [Pl.turnK_length]
    exact hx
  rw [Pl.pad_add (p := ⟨p.lo, p.turnK ((p.list false).take n) true k⟩) hp.small.1.1 ht, Pl.free_turn hn hk] at h1
  refine h1.mono ?_
  rintro e w' ⟨he, hs, ho⟩
  refine ⟨he, ?_, ho⟩
  have e2 : p.turnK ((p.list false).take n) true (k + 1) = (p.turnK ((p.list false).take n) true k).set ((p.list false).getD k 0 - p.lo).toNat true := by
    rw [Pl.turnK]
    congr 2
    simp [List.getD, hk]
  rw [e2]
  exact pp_next (p := ⟨p.lo, p.turnK ((p.list false).take n) true k⟩) h _ (by simp) (ho.block g h.lt (by have := h.ne; simp; omega)) hs
/-- A store into what is new. -/
theorem turns_far {w W : World} {F F' : Nat → Prop} {gr i : Nat} {v : Value} (ht : Turns w W F F') (hg : w.heap.size ≤ gr) : Turns w (W.setCell ⟨gr, i, none⟩ v) F F' := by
  have h2 : Turns W (W.setCell ⟨gr, i, none⟩ v) (fun k => k = gr) (fun k => k = gr) := Turns.set_ (F := fun k => k = gr) rfl i v
  refine ⟨ht.os, ht.tape, ht.output, Nat.le_trans ht.size h2.size, fun k hk hn => ?_, fun k hk => ht.foot k hk⟩
  exact (h2.block k (Nat.lt_of_lt_of_le hk ht.size) (show ¬ k = gr by omega)).trans (ht.block k hk hn)
/-- Whole numbers that a make gives: a block of zeros. -/
theorem zmade {w w1 : World} {n : Nat} (hown : w1.ownsRow w.heap.size 3 1 (.slice (some ⟨w.heap.size, 0, none⟩) n n) n (madeCells (Value.int .i64 0).cells (n * 1)).toList) : Blk w1 w.heap.size 3 (zcells (List.replicate n 0)).toArray := by
  rcases hown.2 with ⟨h1, _⟩ | ⟨q, cap, cur, h1, h2, h3, h4, h5, h6, h7⟩
  · cases h1
  · simp only [Value.slice.injEq, Option.some.injEq, Addr.mk.injEq, and_true] at h1
    obtain ⟨rfl, -, rfl⟩ := h1
    rw [Nat.mul_one] at h6 h7
    have e : cur = (zcells (List.replicate n 0)).toArray := by
      apply Array.toList_inj.1
      rw [← List.take_of_length_le (l := cur.toList) (i := n) (by simp; omega), h7, show (Value.int IntKind.i64 0).cells = #[Value.int IntKind.i64 0] from rfl, toList_madeCells_one]
      simp [zcells]
    rw [← e]
    exact h3
/-- The blocks that are written so far, in block q. -/
def TookTo (W : World) (q : Nat) (l : List Int) (n k : Nat) : Prop := ∃ cur : Array Value, Blk W q 3 cur ∧ cur.size = n ∧ ∀ j, j < k → cur[j]? = some (.int .i64 (l.getD j 0))
theorem TookTo.store {q : Nat} {l : List Int} (h : TookTo W q l n k) (hk : k < n) : TookTo (W.setCell ⟨q, k, none⟩ (.int .i64 (l.getD k 0))) q l n (k + 1) := by
  obtain ⟨cur, h1, h2, h3⟩ := h
  refine ⟨_, h1.set_ k _, by simpa using h2, fun j hj => ?_⟩
  rcases Nat.lt_or_ge j k with h4 | h4
  · rw [Array.getElem?_setIfInBounds_ne (by omega)]; exact h3 j h4
  · obtain rfl : j = k := by omega
    rw [Array.getElem?_setIfInBounds_self_of_lt (by omega)]
theorem TookTo.turns {q : Nat} {l : List Int} {F F' : Nat → Prop} (h : TookTo W q l n k) (ht : Turns W W' F F') (hq : ¬ F q) : TookTo W' q l n k := by
  obtain ⟨cur, h1, h2, h3⟩ := h
  exact ⟨cur, h1.turns ht hq, h2, h3⟩
theorem TookTo.cell {q : Nat} {l : List Int} (h : TookTo W q l n k) (hk : k < n) : ∃ u, W.cell? ⟨q, k, none⟩ = some u ∧ W.frozen? ⟨q, k, none⟩ = false := by
  obtain ⟨cur, h1, h2, h3⟩ := h
  refine ⟨cur[k]'(by omega), ?_, h1.frozen k⟩
  rw [h1.cell]
  simp [h2, hk]
theorem TookTo.ri {q : Nat} {l : List Int} (h : TookTo W q l n n) (hn : n ≤ l.length) : RI W W.heap.size (some ⟨q, 0, none⟩) (l.take n) := fun h0 => by
  obtain ⟨cur, h1, h2, h3⟩ := h
  refine ⟨q, 0, rfl, h1.lt, fun j hj => ?_⟩
  rw [List.length_take] at hj
  rw [Nat.zero_add, h1.cell, h3 j (by omega)]
  simp [List.getD, show j < l.length by omega]
end
set_option maxRecDepth 100000 in
theorem ptake_none (z : Int) (w : World) : Calls Tryd.prog 12 #[.pointer none, .int .i64 z] w fun e w' => (∃ A c, e = .returned (.tuple #[.slice A 0 c, .int .i64 8])) ∧ Below w.heap.size w w' := by
  have z0 := fun w' => Tryd.poolIsN w'
  go_enter Tryd.func12, Tryd.ntmps12
  go_wp2
  go_ret2
  exact ⟨⟨none, 0, rfl⟩, Below.refl _ _⟩
section
variable {w : World} {g : Nat} {F : Nat → Prop} {p : Pl}
set_option maxRecDepth 100000 in
set_option maxHeartbeats 2000000 in
theorem ptake_any (h : PPool w g F p) (z : Int) (hz : InZ z) : Calls Tryd.prog 12 #[.pointer (some ⟨g, 0, none⟩), .int .i64 z] w fun e w' => ∃ F' A c, e = .returned (.tuple #[.slice A (p.take z).2.1.length c, .int .i64 (p.take z).2.2]) ∧ PPool w' g F' (p.take z).1 ∧ Turns w w' F F' ∧ RI w' w'.heap.size A (p.take z).2.1 ∧ (∀ ad, A = some ad → ¬ F' ad.block) ∧ (p.take z).2.1.length ≤ c ∧ c ≤ 9223372036854775807 := by
  have z0 := fun w' => Tryd.poolIsS g w'
  obtain ⟨i0, hi0, hz0, hz1, hz2⟩ := info_parts Tryd.infoZ
  have hby : i0.bytes = 8 := hz2
  have HP := Lib.hid h
  by_cases hz0' : z < 0
  · have HE : Hid (p.take z = (p, [], 1)) := by
      show _ = _
      unfold Pl.take
      rw [if_pos hz0']
    rw [HE.out]
    have d0 : decide (z < 0) = true := decide_eq_true hz0'
    clear h hz
    go_enter Tryd.func12, Tryd.ntmps12
    go_wp2
    go_ret2
    exact ⟨F, none, 0, rfl, HP.out, Turns.refl _ _, fun h0 => absurd h0 (by simp), fun ad e => (by cases e), Nat.le_refl _, by decide⟩
  · have d0 : decide (z < 0) = false := decide_eq_false hz0'
    obtain ⟨f, hf⟩ : ∃ f, f = (p.list false).length := ⟨_, rfl⟩
    have HF := pfree_any h
    rw [← hf] at HF
    have HF := Lib.hid HF
    by_cases hzf : (f : Int) < z
    · have HE : Hid (p.take z = (p, [], 2)) := by
        show _ = _
        unfold Pl.take
        rw [if_neg hz0', ← hf, if_pos hzf]
      rw [HE.out]
      have d1 : decide (z > (f : Int)) = true := decide_eq_true hzf
      have d1' : decide ((f : Int) < z) = true := d1
      clear h hz hf
      go_enter Tryd.func12, Tryd.ntmps12
      go_wp2_with (go_at_call 14; (with_reducible refine HF.out.mono ?_); rintro e w1 ⟨rfl, hb1⟩)
      go_ret2
      exact ⟨F, none, 0, rfl, HP.out.turns (Turns.of_below hb1 (fun _ => False)) (fun _ _ h => h) (fun h => h), Turns.of_below hb1 F, fun h0 => absurd h0 (by simp), fun ad e => (by cases e), Nat.le_refl _, by decide⟩
    · obtain ⟨n, rfl⟩ : ∃ n : Nat, z = (n : Int) := ⟨z.toNat, by omega⟩
      have hnf : n ≤ (p.list false).length := by omega
      have HN := Lib.hid hnf
      have hl4 : (p.list false).length ≤ 1024 := by
        have h1 := p.list_length false
        obtain ⟨s, h2, h3⟩ := h
        have := h2.small.2
        omega
      have hn4 : n ≤ 1024 := by omega
      have HE : Hid (p.take (n : Int) = (p.turned ((p.list false).take n) true, (p.list false).take n, 0)) := by
        show _ = _
        unfold Pl.take
        rw [if_neg hz0', ← hf, if_neg hzf, Int.toNat_natCast]
      rw [HE.out]
      have hlen : ((p.list false).take n).length = n := by rw [List.length_take]; omega
      have HLe := Lib.hid hlen
      have d1 : decide ((n : Int) > (f : Int)) = false := decide_eq_false hzf
      have d1' : decide ((f : Int) < (n : Int)) = false := d1
      have d2 : ¬ f < n := by omega
      have d2' : decide (f < n) = false := decide_eq_false d2
      obtain ⟨s, h, hF⟩ := h
      have HPP := Lib.hid h
      obtain ⟨lo, hlo⟩ : ∃ lo, lo = p.lo := ⟨_, rfl⟩
      have HLo := Lib.hid hlo
      obtain ⟨T, hT⟩ : ∃ T : Nat → Pl, T = fun k => ⟨p.lo, p.turnK ((p.list false).take n) true k⟩ := ⟨_, rfl⟩
      have HGap : Hid (∀ (W : World) (k : Nat) (a : Int), k < n → PP W g s (T k) → Hid (a = if k = 0 then p.lo else (p.list false).getD (k - 1) 0) → Calls Tryd.prog 27 #[.pointer (some ⟨s, 0, none⟩), .int .i64 a] W fun e w' => e = .returned (.int .i64 ((p.list false).getD k 0)) ∧ Below W.heap.size W w') := fun W k a hk hW ha => by
        rw [hT] at hW
        exact take_gap hnf hk hW h ha.out
      have HAdd : Hid (∀ (W : World) (k : Nat), k < n → PP W g s (T k) → Calls Tryd.prog 28 #[.pointer (some ⟨s, 0, none⟩), .int .i64 ((p.list false).getD k 0)] W fun e w' => e = .returned (.int .i64 0) ∧ PP w' g s (T (k + 1)) ∧ Only W w' s) := fun W k hk hW => by
        rw [hT] at hW ⊢
        exact take_add hnf hk hW h
      have HT := Lib.hid hT
      have HFi := Lib.hid hF
      have hc0 : Hid (∀ (W : World) (k : Nat), PP W g s (T k) → W.cell? ⟨g, 0, none⟩ = some (.pointer (some ⟨s, 0, none⟩)) ∧ W.cell? ⟨g, 1, none⟩ = some (.int .i64 lo)) := fun W k hW => by
        refine ⟨hW.c0, ?_⟩
        have := hW.c1
        rw [hT] at this
        rw [hlo]
        exact this
      have hT0 : Hid (∀ W, PP W g s p → PP W g s (T 0)) := fun W hW => by rw [hT]; exact hW
      clear h hz hlo hF hf hT hnf hlen hzf
      go_enter Tryd.func12, Tryd.ntmps12
      go_wp2_with (first
        | (go_at_call 14; (with_reducible refine HF.out.mono ?_); rintro e w1 ⟨rfl, hb1⟩; have hP1 := hT0.out _ (HPP.out.up hb1))
        | (at_make; refine wpList_make_full _ rfl _ _ 36 rfl w1.heap.size 3 i0 _ 1 Tryd.underlying36 hi0 hz0 hz1 .i64 .i64 _ _ n rfl rfl rfl rfl (by rw [hby]; omega) (by unfold maxLen; omega) (Nat.le_refl _) ?_; intro w2 ho2 hg2; have hb2 : Below w1.heap.size w1 w2 := (Below.refl _ _).grown hg2 (Nat.le_refl _) (fun i h => by cases h); have hP2 := hP1.up hb2; obtain ⟨q0, q1⟩ := hc0.out _ _ hP2))
      have hB := zmade ho2
      obtain ⟨gm, hgm⟩ : ∃ gm, gm = w1.heap.size := ⟨_, rfl⟩
      rw [← hgm] at hB ⊢
      have hb12 : Below w.heap.size w w2 := hb1.trans (hb2.mono hb1.size)
      have hgm2 : w.heap.size ≤ gm := by rw [hgm]; exact hb1.size
      have hK0 : TookTo w2 gm ((p.list false).take n) n 0 := ⟨_, hB, by simp [zcells_length], fun j hj => by omega⟩
      have HKt : Hid (TookTo w2 gm ((p.list false).take n) n 0 ∧ w.heap.size ≤ gm) := ⟨hK0, hgm2⟩
      have HB := Lib.hid hb12
      have HP2 := Lib.hid hP2
      have HFg : Hid (¬ F gm ∧ F s ∧ ¬ g = gm ∧ ¬ s = gm ∧ ¬ TB = gm ∧ w.heap.size ≤ gm) := by
        have l1 := HPP.out.lt
        have l2 := HPP.out.slt
        have l3 := HPP.out.pos
        refine ⟨fun hf => ?_, (HFi.out s).2 (.inr rfl), by omega, by omega, by omega, hgm2⟩
        rcases (HFi.out gm).1 hf with e | e <;> omega
      clear hgm hB ho2 hg2 hb2 hb12 hgm2 hK0 hP1 hP2 q0 hb1 HPP hT0
      go_loopw [7, 28] (fun x y wr => ∃ (k : Nat) (a : Int), k ≤ n ∧ x = .int .i64 a ∧ y = .int .i64 (k : Int) ∧ Hid (a = if k = 0 then p.lo else (p.list false).getD (k - 1) 0) ∧ Hid (PP wr g s (T k) ∧ TookTo wr gm ((p.list false).take n) n k ∧ Turns w wr F F)) (fun _ y _ => n - (intOf y).toNat)
      case atStart => exact ⟨0, lo, by omega, rfl, rfl, HLo.out, HP2.out, HKt.out.1, Turns.of_below HB.out F⟩
      case round =>
        obtain ⟨k, a, hk, rfl, rfl, HA, HS⟩ := hrel
        obtain ⟨hPk, hTk, hTu⟩ := HS.out
        by_cases hlt : k < n
        · obtain ⟨q0, q1⟩ := hc0.out _ _ hPk
          obtain ⟨x, hx⟩ : ∃ x, x = (p.list false).getD k 0 := ⟨_, rfl⟩
          have hG1 := HGap.out wr k a hlt hPk HA
          rw [← hx] at hG1
          have HG1 := Lib.hid hG1
          have HA1 : Hid (∀ W, PP W g s (T k) → Calls Tryd.prog 28 #[.pointer (some ⟨s, 0, none⟩), .int .i64 x] W fun e w' => e = .returned (.int .i64 0) ∧ PP w' g s (T (k + 1)) ∧ Only W w' s) := fun W hW => by rw [hx]; exact HAdd.out W k hlt hW
          have HX := Lib.hid hx
          have HTk := Lib.hid hTk
          have HTu := Lib.hid hTu
          have d3 : decide ((k : Int) < (n : Int)) = true := decide_eq_true (by omega)
          have d4 : decide (k < n) = true := decide_eq_true hlt
          have y8 : IntKind.i64.wrap ((k : Int) + 1) = (k : Int) + 1 := IntWalk.i64_in _ (by omega)
          clear hG1 hx HGap HAdd hTk hTu HB HKt HP2 HE HF
          go_wp2_with (first
            | (go_at_call 27; (with_reducible refine HG1.out.mono ?_); rintro e w3 ⟨rfl, hb3⟩; have hP3 := hPk.up hb3; obtain ⟨r0, r1⟩ := hc0.out _ _ hP3)
            | (go_at_call 28; (with_reducible refine (HA1.out _ hP3).mono ?_); rintro e w4 ⟨rfl, hP4, ho4⟩; have hT4 := Lib.hid ((HTk.out.turns (Turns.of_below hb3 (fun _ => False)) (fun h => h)).turns (turns_of_only ho4 HFg.out.2.1) HFg.out.1); obtain ⟨u4, c4, f4⟩ := hT4.out.cell hlt))
          have ex : ((p.list false).take n).getD k 0 = x := by rw [HX.out]; simp [List.getD, hlt]
          obtain ⟨nf, fs, n1, n2, n3, hge⟩ := HFg.out
          have ht5 : Turns w4 (w4.setCell ⟨gm, k, none⟩ (.int .i64 x)) (fun j => j = gm) (fun j => j = gm) := Turns.set_ (F := fun j => j = gm) rfl k _
          have hT5 := hT4.out.store hlt
          rw [ex] at hT5
          refine ⟨⟨k + 1, x, hlt, rfl, by go_num, by rw [HX.out]; exact (if_neg (by omega)).symm, hP4.turns ht5 n1 n2 n3, hT5, turns_far ((HTu.out.trans (Turns.of_below hb3 F)).trans (turns_of_only ho4 fs)) hge⟩, ?_⟩
          simp [intOf]; omega
        · obtain rfl : k = n := by omega
          have HTk := Lib.hid hTk
          have HTu := Lib.hid hTu
          have HPk := Lib.hid hPk
          have d3 : decide ((k : Int) < (k : Int)) = false := decide_eq_false (by omega)
          have d4 : decide (k < k) = false := decide_eq_false (by omega)
          clear hTk hTu hPk HGap HAdd
          go_wp2
          go_ret2
          obtain ⟨nf, fs, n1, n2, n3, hge⟩ := HFg.out
          have e1 := HLe.out
          have e2 : T k = p.turned ((p.list false).take k) true := by
            rw [HT.out]
            unfold Pl.turned
            rw [e1]
          refine ⟨F, some ⟨gm, 0, none⟩, k, by rw [e1]; rfl, ⟨s, by rw [← e2]; exact HPk.out, HFi.out⟩, HTu.out, ?_, fun ad e => by injection e with e; rw [← e]; exact nf, by omega, by omega⟩
          have h1 := HTk.out.ri (by omega)
          rwa [List.take_take, Nat.min_self] at h1
end
end Go.Proofs.YtibaaideleinhaaDoor
