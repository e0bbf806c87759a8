/- Lemmas under the proofs of this place: DagPOrder. No statement is proved here. -/
import Derived.Test.YtbeihiokjhfepaaBu23
import Derived.Test.YtbeihiokjhfepaaBu10
import Derived.Test.YtbeihiokjhfepaaBu01
import Derived.Test.YtbeihiokjhfepaaBu08
import Derived.Shelf.SlSortCmp.NoneTotal
import Derived.Lib.OwnBridge
import Derived.Sort.Grow
set_option linter.unusedSimpArgs false
set_option linter.unusedVariables false
set_option maxRecDepth 100000
set_option maxHeartbeats 16000000
namespace Go.Proofs.Ytbeihiokjhfepaa
open Go.RowKit Go.Sort Go.Shelf
def LW (W W' : World) : Prop := ∃ q os, W' = grow (W.drewN q) os
theorem LW.refl (W : World) : LW W W := ⟨0, #[], by rw [grow_empty]; rfl⟩
theorem LW.drew {W V : World} (h : LW W V) : LW W V.drew := by
  obtain ⟨q, os, rfl⟩ := h
  exact ⟨q + 1, os, rfl⟩
theorem LW.alloc {W V : World} (h : LW W V) (o : Obj) : LW W (V.alloc o) := by
  obtain ⟨q, os, rfl⟩ := h
  exact ⟨q, os ++ #[o], by rw [alloc_eq_grow, grow_grow]⟩
theorem LW.below {W V : World} (h : LW W V) : Below W.heap.size W V := by
  obtain ⟨q, os, rfl⟩ := h
  refine ⟨rfl, rfl, rfl, ?_, fun k hk => ?_⟩
  · rw [size_grow]
    exact Nat.le_add_right _ _
  · rw [heap_grow_old _ _ (show k < (W.drewN q).heap.size from hk)]
    rfl
theorem cmpI_any (x y : Int) (W : World) (hx : -1000000 ≤ x ∧ x ≤ 1000000) (hy : -1000000 ≤ y ∧ y ≤ 1000000) : Calls Try.prog 56 #[.int .i64 x, .int .i64 y] W fun e w' => e = .returned (.int .i64 (if x < y then -1 else if y < x then 1 else 0)) ∧ w' = W := by
  have HN : Hid (∀ (z : Int) V, Calls Try.prog 67 #[.int .i64 z] V fun e w' => e = .returned (.bool false) ∧ w' = V) := fun z V => by
    go_enter Try.func67, Try.ntmps67
    go_wp2
    go_ret
    simp
  go_enter Try.func56, Try.ntmps56
  by_cases h1 : x < y
  · rw [if_pos h1]
    have d1 : decide (x < y) = true := decide_eq_true h1
    go_wp2_with (go_at_call 67; (with_reducible refine (HN.out _ _).mono ?_); rintro e w1 ⟨rfl, rfl⟩)
    go_ret
    exact ⟨rfl, rfl⟩
  · rw [if_neg h1]
    have d1 : decide (x < y) = false := decide_eq_false h1
    by_cases h2 : y < x
    · rw [if_pos h2]
      have d2 : decide (y < x) = true := decide_eq_true h2
      go_wp2_with (go_at_call 67; (with_reducible refine (HN.out _ _).mono ?_); rintro e w1 ⟨rfl, rfl⟩)
      go_ret
      exact ⟨rfl, rfl⟩
    · rw [if_neg h2]
      have d2 : decide (y < x) = false := decide_eq_false h2
      go_wp2_with (go_at_call 67; (with_reducible refine (HN.out _ _).mono ?_); rintro e w1 ⟨rfl, rfl⟩)
      go_ret
      exact ⟨rfl, rfl⟩
theorem cmpS_any (x y : Bs) (W : World) : Calls Try.prog 57 #[.string (text x), .string (text y)] W fun e w' => e = .returned (.int .i64 (if Op.bytesLess x y = true then -1 else if Op.bytesLess y x = true then 1 else 0)) ∧ w' = W := by
  have HN : Hid (∀ (z : ByteArray) V, Calls Try.prog 68 #[.string z] V fun e w' => e = .returned (.bool false) ∧ w' = V) := fun z V => by
    go_enter Try.func68, Try.ntmps68
    go_wp2
    go_ret
    simp
  have l1 := text_less x y
  have l2 := text_less y x
  have le := text_eq x y
  obtain ⟨s, hs⟩ : ∃ s, s = text x := ⟨_, rfl⟩
  obtain ⟨t, ht⟩ : ∃ t, t = text y := ⟨_, rfl⟩
  rw [← hs, ← ht] at l1 l2 le ⊢
  clear hs ht
  go_enter Try.func57, Try.ntmps57
  cases h1 : Op.bytesLess x y with
  | true =>
    rw [h1] at l1
    clear h1 l2 le
    go_wp2_with (go_at_call 68; (with_reducible refine (HN.out _ _).mono ?_); rintro e w1 ⟨rfl, rfl⟩)
    go_ret
    exact ⟨rfl, rfl⟩
  | false =>
    rw [h1] at l1
    cases h2 : Op.bytesLess y x with
    | true =>
      rw [decide_eq_false (fun e => less_ne h2 e.symm)] at le
      rw [h2] at l2
      clear h1 h2
      go_wp2_with (go_at_call 68; (with_reducible refine (HN.out _ _).mono ?_); rintro e w1 ⟨rfl, rfl⟩)
      go_ret
      exact ⟨rfl, rfl⟩
    | false =>
      have hxy : x = y := Classical.byContradiction fun hne => by
        rcases less_total x y hne with h3 | h3
        · rw [h1] at h3; cases h3
        · rw [h2] at h3; cases h3
      rw [decide_eq_true hxy] at le
      rw [h2] at l2
      clear h1 h2 hxy
      go_wp2_with (go_at_call 68; (with_reducible refine (HN.out _ _).mono ?_); rintro e w1 ⟨rfl, rfl⟩)
      go_ret
      exact ⟨rfl, rfl⟩
theorem or2_any (x y : Int) (B c : Nat) (W : World) (h0 : W.cell? ⟨B, 0, none⟩ = some (.int .i64 x)) (h1 : W.cell? ⟨B, 1, none⟩ = some (.int .i64 y)) : Calls Try.prog 55 #[.slice (some ⟨B, 0, none⟩) 2 c] W fun e w' => e = .returned (.int .i64 (if x = 0 then y else x)) ∧ w' = W := by
  go_enter Try.func55, Try.ntmps55
  go_wp2
  by_cases hx : x = 0
  · subst hx
    by_cases hy : y = 0
    · subst hy
      refine wp_loop_rounds 3 ?_
      rw [rounds_succ]
      go_wp2
      rw [rounds_succ]
      go_wp2
      rw [rounds_succ]
      go_wp2
      go_ret
      exact ⟨rfl, rfl⟩
    · refine wp_loop_rounds 2 ?_
      rw [rounds_succ]
      go_wp2
      rw [rounds_succ]
      go_wp2
      go_ret
      exact ⟨rfl, rfl⟩
  · refine wp_loop_rounds 1 ?_
    rw [rounds_succ]
    go_wp2
    go_ret
    exact ⟨rfl, rfl⟩
theorem orderC_any {w : World} {p n c : Nat} {g : Gr} {A : Option Addr} {mv : Value} (h : PV w p g A n c mv) (hl : g.length ≤ 5000) (D i j : Nat) (hi : i < g.length) (hj : j < g.length) (W : World) (hb : Below w.heap.size w W) (hDl : D < W.heap.size) (hD : W.cell? ⟨D, 0, none⟩ = some (.pointer (some ⟨p, 0, none⟩))) :
    Calls Try.prog 54 #[.int .i64 (i : Int), .int .i64 (j : Int), .pointer (some ⟨D, 0, none⟩)] W fun e w' => e = .returned (.int .i64 (cfO g i j)) ∧ LW W w' := by
  have hin : i < n ∧ j < n := by rw [h.len]; exact ⟨hi, hj⟩
  have hdi : depI g i ≤ 5000 := Nat.le_trans (depth_le g i) hl
  have hdj : depI g j ≤ 5000 := Nat.le_trans (depth_le g j) hl
  obtain ⟨b, off, hA, hbl, hc⟩ := (h.up hb).at_ (by omega)
  subst hA
  obtain ⟨s1, -, -, d1⟩ := hc i hi
  obtain ⟨s2, -, -, d2⟩ := hc j hj
  have c0 := (h.up hb).c0
  have hpl := (h.up hb).lt
  obtain ⟨e1, he1⟩ : ∃ x, x = depI g i := ⟨_, rfl⟩
  obtain ⟨e2, he2⟩ : ∃ x, x = depI g j := ⟨_, rfl⟩
  obtain ⟨x1, hx1⟩ : ∃ x, x = idAt g i := ⟨_, rfl⟩
  obtain ⟨x2, hx2⟩ : ∃ x, x = idAt g j := ⟨_, rfl⟩
  obtain ⟨z1, hz1⟩ : ∃ z, z = cmpD e1 e2 := ⟨_, rfl⟩
  obtain ⟨z2, hz2⟩ : ∃ z, z = cmpB x1 x2 := ⟨_, rfl⟩
  have hz : cfO g i j = if z1 = 0 then z2 else z1 := by unfold cfO; rw [hz1, hz2, he1, he2, hx1, hx2]
  rw [hz]
  rw [← he1] at d1 hdi
  rw [← he2] at d2 hdj
  rw [← hx1] at s1
  rw [← hx2] at s2
  have HCi : Hid (∀ V, Calls Try.prog 56 #[.int .i64 (e1 : Int), .int .i64 (e2 : Int)] V fun e w' => e = .returned (.int .i64 z1) ∧ w' = V) := fun V => by rw [hz1]; exact cmpI_any _ _ V (by omega) (by omega)
  have HCs : Hid (∀ V, Calls Try.prog 57 #[.string (text x1), .string (text x2)] V fun e w' => e = .returned (.int .i64 z2) ∧ w' = V) := fun V => by rw [hz2]; exact cmpS_any _ _ V
  obtain ⟨t1, ht1⟩ : ∃ t, t = text x1 := ⟨_, rfl⟩
  obtain ⟨t2, ht2⟩ : ∃ t, t = text x2 := ⟨_, rfl⟩
  rw [← ht1, ← ht2] at HCs
  rw [← ht1] at s1
  rw [← ht2] at s2
  obtain ⟨z, hzz⟩ : ∃ z, z = if z1 = 0 then z2 else z1 := ⟨_, rfl⟩
  rw [← hzz]
  have HOr : Hid (∀ V B cc, V.cell? ⟨B, 0, none⟩ = some (.int .i64 z1) → V.cell? ⟨B, 1, none⟩ = some (.int .i64 z2) → Calls Try.prog 55 #[.slice (some ⟨B, 0, none⟩) 2 cc] V fun e w' => e = .returned (.int .i64 z) ∧ w' = V) := fun V B cc q0 q1 => by rw [hzz]; exact or2_any z1 z2 B cc V q0 q1
  have HC : Hid (∀ V, LW W V → V.cell? ⟨D, 0, none⟩ = some (.pointer (some ⟨p, 0, none⟩)) ∧ V.cell? ⟨p, 0, none⟩ = some (.slice (some ⟨b, off, none⟩) n c)) := fun V hV => ⟨(hV.below.cell (p := ⟨D, 0, none⟩) hDl).trans hD, (hV.below.cell (p := ⟨p, 0, none⟩) hpl).trans c0⟩
  have HD : Hid (∀ V, LW W V → V.cell? ⟨b, off + i * 4, none⟩ = some (.string t1) ∧ V.cell? ⟨b, off + i * 4 + 3, none⟩ = some (.int .i64 (e1 : Int)) ∧ V.cell? ⟨b, off + j * 4, none⟩ = some (.string t2) ∧ V.cell? ⟨b, off + j * 4 + 3, none⟩ = some (.int .i64 (e2 : Int))) := fun V hV =>
    ⟨(hV.below.cell (p := ⟨b, off + i * 4, none⟩) hbl).trans s1, (hV.below.cell (p := ⟨b, off + i * 4 + 3, none⟩) hbl).trans d1, (hV.below.cell (p := ⟨b, off + j * 4, none⟩) hbl).trans s2, (hV.below.cell (p := ⟨b, off + j * 4 + 3, none⟩) hbl).trans d2⟩
  obtain ⟨u1, u3⟩ := hin
  have u0 : (0 : Int) ≤ (i : Int) := by omega
  have u2 : (0 : Int) ≤ (j : Int) := by omega
  have u4 : (i : Int) < (n : Int) := by omega
  have u5 : (j : Int) < (n : Int) := by omega
  clear hzz ht1 ht2 hz hz1 hz2 hx1 hx2 he1 he2 h hi hj hb hc s1 s2 d1 d2 hpl hbl hdi hdj c0 hD hDl hl
  go_enter Try.func54, Try.ntmps54
  have P0 : LW W W.drew := (LW.refl W).drew
  have h0 := HC.out _ P0
  go_wp2
  go_region_held_law (fun w' => w'.cell? ⟨D, 0, none⟩ = some (.pointer (some ⟨p, 0, none⟩)) ∧ w'.cell? ⟨p, 0, none⟩ = some (.slice (some ⟨b, off, none⟩) n c))
    (exact HC.out _ (by assumption))
    (fail)
  go_wp2
  have P1 : LW W W.drew.drew := P0.drew
  have h1 := HD.out _ P1
  have P2 : LW W (W.alloc (.cells #[.int .i64 z1, .int .i64 z2] 3)).drew.drew := ((LW.refl W).alloc _).drew.drew
  have hB : Blk (W.alloc (.cells #[.int .i64 z1, .int .i64 z2] 3)).drew.drew W.heap.size 3 #[.int .i64 z1, .int .i64 z2] := Blk.new W 3 _
  have HO1 := Lib.hid (HOr.out _ W.heap.size 2 ((hB.cell 0).trans rfl) ((hB.cell 1).trans rfl))
  clear hB
  go_region_held_law (fun w' => w'.cell? ⟨b, off + i * 4, none⟩ = some (.string t1) ∧ w'.cell? ⟨b, off + i * 4 + 3, none⟩ = some (.int .i64 (e1 : Int)) ∧ w'.cell? ⟨b, off + j * 4, none⟩ = some (.string t2) ∧ w'.cell? ⟨b, off + j * 4 + 3, none⟩ = some (.int .i64 (e2 : Int)))
    (exact HD.out _ (by assumption))
    (first
      | (go_at_call 56; (with_reducible refine (HCi.out _).mono ?_); rintro e x1 ⟨rfl, rfl⟩)
      | (go_at_call 57; (with_reducible refine (HCs.out _).mono ?_); rintro e x2 ⟨rfl, rfl⟩)
      | (go_at_call 55; (with_reducible refine HO1.out.mono ?_); rintro e x3 ⟨rfl, rfl⟩))
  go_wp2
  go_ret
  exact ⟨rfl, P2⟩
theorem icells_enc (g : Gr) (l : List (Fin g.length)) : icells (l.map fun i => i.val) = l.map fun i => Value.int .i64 (i.val : Int) := by simp [icells]
theorem sortO_any {w : World} {p n c : Nat} {g : Gr} {A : Option Addr} {mv : Value} (ok : GrOk g) (h : PV w p g A n c mv) (hl : g.length ≤ 5000) (D : Nat) (hDl : D < w.heap.size) (hD : w.cell? ⟨D, 0, none⟩ = some (.pointer (some ⟨p, 0, none⟩)))
    (W : World) (hb : Below w.heap.size w W) (X : Option Addr) (d : Nat) (ho : W.ownsRow w.heap.size 3 1 (.slice X g.length d) g.length (icells (List.range g.length))) :
    Calls Try.prog 53 #[.slice X g.length d, .func (.func 54) #[] #[.pointer (some ⟨D, 0, none⟩)]] W fun e w' => e = .returned (.tuple #[]) ∧ NS w' w'.heap.size X (ordI g) ∧ Below w.heap.size w w' := by
  by_cases h0 : g.length = 0
  · have hg : ordI g = [] := List.eq_nil_of_length_eq_zero (by rw [ordI_len]; exact h0)
    rw [hg, h0]
    refine Calls.mono (AnyF.slices_SortFunc_none (P := Try.prog) (ρ := Try.sortL_ren) { Try.sortL with } X d _ W) ?_
    rintro e w' ⟨rfl, rfl⟩
    exact ⟨rfl, ⟨rfl, fun hh => absurd hh (by simp)⟩, hb⟩
  · haveI : Inhabited (Fin g.length) := ⟨⟨0, Nat.pos_of_ne_zero h0⟩⟩
    have hv : Value.slice X g.length d ≠ .slice none 0 0 := fun e => by injection e with _ e2 _; exact h0 e2
    rw [← FL_val, icells_enc] at ho
    obtain ⟨b, cap, he, hbg, hgl, hncap, hcm, hlen, hH⟩ := Lib.holds_of_ownsRow ho hv
    have ho2 := ho
    injection he with e1 e2 e3
    subst e1 e3
    have eg : ∀ args w, (callFunc 54 args).run Try.prog w = .ok (.enter 54 args) w := enters_of Try.func54 (by kernel_rfl) rfl
    have hsz : (FL g).toArray.size = g.length := by simpa using FL_len g
    have hC : CmpLays1 Try.prog 54 #[.pointer (some ⟨D, 0, none⟩)] (fun i : Fin g.length => Value.int .i64 (i.val : Int)) (cfF g) b 0 (FL g).toArray.size W := fun m os dk hs x y => by
      have hB1 : Below w.heap.size w (sortWorld (fun i : Fin g.length => Value.int .i64 (i.val : Int)) W b 0 m dk os) := by
        unfold sortWorld
        refine ⟨hb.os, hb.tape, hb.output, ?_, fun k hk => ?_⟩
        · rw [size_grow]
          have h1 := (Lib.below_putRow (enc := fun i : Fin g.length => Value.int .i64 (i.val : Int)) (q := m) (d := dk) hb hbg).size
          omega
        · have h1 := Lib.below_putRow (enc := fun i : Fin g.length => Value.int .i64 (i.val : Int)) (q := m) (d := dk) hb hbg
          rw [heap_grow_old _ _ (by have := h1.size; omega)]
          exact h1.block k hk
      refine (orderC_any h hl D x.val y.val x.isLt y.isLt _ hB1 (Nat.lt_of_lt_of_le hDl hB1.size) ((hB1.cell (p := ⟨D, 0, none⟩) hDl).trans hD)).mono ?_
      rintro e w' ⟨rfl, hw⟩
      exact ⟨rfl, hw⟩
    have hS := Any.slices_SortFunc_total Try.sortL (fun i : Fin g.length => Value.int .i64 (i.val : Int)) (fun _ => rfl) (cfF g) (swoF g) 54 #[.pointer (some ⟨D, 0, none⟩)] b 0 d (FL g).toArray W eg hC hH hgl (by rw [hsz]; omega) (totF ok)
    rw [hsz] at hS
    refine Calls.mono hS ?_
    rintro e w' ⟨rfl, nn, os, rfl⟩
    have hp := Lib.ownsRow_putRow (q := nn) (k := g.length) (ys := srtF g) ho2 (by rw [List.length_mergeSort, FL_len]) (Nat.le_refl _)
    have ht : (srtF g).take g.length = srtF g := List.take_of_length_le (by rw [List.length_mergeSort, FL_len]; exact Nat.le_refl _)
    rw [ht, ← icells_enc] at hp
    have hB2 := Lib.below_putRow (enc := fun i : Fin g.length => Value.int .i64 (i.val : Int)) (q := nn) (d := (srtF g).toArray) hb hbg
    have hB3 : ∀ V : World, Below V.heap.size V (grow V os) := fun V => ⟨rfl, rfl, rfl, by rw [size_grow]; exact Nat.le_add_right _ _, fun k hk => heap_grow_old V os hk⟩
    have hfin : Below w.heap.size w (grow (putRow (fun i : Fin g.length => Value.int .i64 (i.val : Int)) (Sort.ahead W nn) b 0 (srtF g).toArray) os) := below16 hB2 (hB3 _)
    refine ⟨rfl, ?_, ?_⟩
    · have h1 := own_ns (l := ordI g) (A := some ⟨b, 0, none⟩) (c := d) (base := w.heap.size) (w := putRow (fun i : Fin g.length => Value.int .i64 (i.val : Int)) (Sort.ahead W nn) b 0 (srtF g).toArray) (by rw [ordI_len]; exact hp)
      have h2 : NS _ _ (some ⟨b, 0, none⟩) (ordI g) := (h1.below (hB3 _)).more (hB3 _).size
      exact h2
    · exact hfin
theorem porder_any {w : World} {p n c : Nat} {g : Gr} {A : Option Addr} {mv : Value} (ok : GrOk g) (h : PV w p g A n c mv) (hl : g.length ≤ 5000) :
    Calls Try.prog 28 #[.pointer (some ⟨p, 0, none⟩)] w (GivesStrs (orderG g) w) := by
  obtain ⟨wb, hwb⟩ : ∃ wb, wb = w.alloc (.cells #[.pointer (some ⟨p, 0, none⟩)] 23) := ⟨_, rfl⟩
  have hV : BoxP w wb p := hwb
  have eg : ∀ args w, (callFunc 52 args).run Try.prog w = .ok (.enter 52 args) w := enters_of Try.func52 (by kernel_rfl) rfl
  have hAll : ∀ (i : Nat) (W : World), Calls Try.prog 52 #[.int .i64 (i : Int)] W fun e w' => e = .returned (.bool true) ∧ Below W.heap.size W w' := fun i W => by
    go_enter Try.func52, Try.ntmps52
    go_wp2
    go_ret
    exact ⟨rfl, Below.refl _ _⟩
  have hvb := h.up hV.below
  obtain ⟨m, hm⟩ : ∃ m, m = g.length := ⟨_, rfl⟩
  have HCh : Hid (Calls Try.prog 45 #[.pointer (some ⟨p, 0, none⟩), .func (.func 52) #[] #[]] wb fun e w' => ∃ X d, e = .returned (.slice X m d) ∧ Hid (w'.ownsRow wb.heap.size 3 1 (.slice X m d) m (icells (List.range g.length))) ∧ Hid (Below wb.heap.size wb w')) :=
    (chosen_any hvb hl 52 #[] (fun _ => true) eg (fun i hi V hV2 => hAll i V)).mono fun e w' hh => by
      obtain ⟨X, d, q1, q2, q3⟩ := hh
      have e1 : (List.range g.length).filter (fun _ => true) = List.range g.length := List.filter_eq_self.2 fun _ _ => rfl
      rw [e1, List.length_range] at q1 q2
      exact ⟨X, d, by rw [hm]; exact q1, by rw [hm]; exact q2, q3⟩
  have HSo : Hid (∀ W X d, Below wb.heap.size wb W → W.ownsRow wb.heap.size 3 1 (.slice X m d) m (icells (List.range g.length)) → Calls Try.prog 53 #[.slice X m d, .func (.func 54) #[] #[.pointer (some ⟨w.heap.size, 0, none⟩)]] W fun e w' => e = .returned (.tuple #[]) ∧ NS w' w'.heap.size X (ordI g) ∧ Below wb.heap.size wb w') := fun W X d hW ho => by
    rw [hm] at ho ⊢
    exact sortO_any ok hvb hl w.heap.size hV.lt (hV.cell (Below.refl _ _)) W hW X d ho
  have HTo : Hid (∀ W X d, Below wb.heap.size wb W → NS W W.heap.size X (ordI g) → Calls Try.prog 58 #[.pointer (some ⟨p, 0, none⟩), .slice X m d] W (GivesStrs (orderG g) W)) := fun W X d hW hX => by
    rw [← ordI_told ok]
    exact (told_any (hvb.up hW) (ordI g) X m d (by rw [ordI_len]; exact hm) hX (ordI_lt g) (by omega)).mono fun e w' hh => hh.strs
  have HWb := Lib.hid hwb
  have HC : Hid (∀ W, Below wb.heap.size wb W → W.cell? ⟨w.heap.size, 0, none⟩ = some (.pointer (some ⟨p, 0, none⟩))) := fun W hW => hV.cell hW
  have HB := Lib.hid hV.below
  have hmf : ∀ (fn : Fn) (first cap : Array Value) (w : World), (Instr.makeFunc fn first cap).run Try.prog w = .ok (.func fn first cap) w := fun _ _ _ _ => rfl
  clear eg hAll hvb hm hV hwb h ok hl
  go_enter Try.func28, Try.ntmps28
  go_upto_region 1 with (fail)
  rw [← HWb.out]
  have c0 := HC.out _ (Below.refl _ _)
  go_wp2_with (first
    | (go_at_call 45; (with_reducible refine HCh.out.mono ?_); rintro e x1 ⟨X, d, rfl, hX, b1⟩; have c1 := HC.out _ b1.out)
    | (go_at_call 53; (with_reducible refine (HSo.out _ _ _ b1.out hX.out).mono ?_); rintro e x2 ⟨rfl, hN, b2⟩; have B2 := Lib.hid b2; have HN := Lib.hid hN; have c2 := HC.out _ B2.out)
    | (go_at_call 58; (with_reducible refine (HTo.out _ _ _ B2.out HN.out).mono ?_); rintro e x3 ⟨A2, cc2, rfl, h1, h2, h3, b3⟩))
  go_ret
  exact ⟨A2, cc2, rfl, h1, h2, h3, below16 HB.out (below16 B2.out b3)⟩
theorem porder_none (w : World) : Calls Try.prog 28 #[.pointer none] w (GivesStrs [] w) := by
  go_enter Try.func28, Try.ntmps28
  go_wp2
  go_ret
  exact ⟨none, 0, rfl, SS.nil _ _ _, Nat.le_refl _, by omega, (Below.refl _ _).alloc (Nat.le_refl _) _⟩
end Go.Proofs.Ytbeihiokjhfepaa
