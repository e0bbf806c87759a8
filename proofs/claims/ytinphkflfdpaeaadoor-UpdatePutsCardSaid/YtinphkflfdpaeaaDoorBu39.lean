/- Lemmas under the proofs of this place: UpPGet, OpDrawA, UpOpen. No statement is proved here. -/
import Derived.Test.YtinphkflfdpaeaaDoorBu38
import Derived.Test.YtinphkflfdpaeaaDoorBu33
import Derived.Test.YtinphkflfdpaeaaDoorBu34
import Derived.Test.YtinphkflfdpaeaaDoorBu18
import Derived.Test.YtinphkflfdpaeaaDoorBu12
import Derived.Test.YtinphkflfdpaeaaDoorBu29
import Derived.Test.YtinphkflfdpaeaaDoorBu02
import Derived.Test.YtinphkflfdpaeaaDoorBu05
import Derived.Deep.RegionHeldLaw
import Derived.Deep.Strs
set_option linter.unusedSimpArgs false
set_option linter.unusedVariables false
set_option maxRecDepth 100000
set_option maxHeartbeats 16000000
namespace Go.Proofs.YtinphkflfdpaeaaDoor
section
open Go.RowKit
structure PgS (w W : World) (g C P : Nat) (st : St) (a : Int) (X : Option Addr) (q cc : Nat) (l : List Bs) : Prop where
  cur : CurB C W g st
  cv : Blk W C 45 #[.pointer (some ⟨g, 0, none⟩)]
  var : Blk W P 26 (updC a X q cc 0 { data := #[] } { data := #[] } 0 { data := #[] })
  row : W.ownsRow (P + 1) 9 1 (.slice X q cc) q (scells l)
  res : Blk W w.heap.size 26 (updC 0 none 0 0 0 { data := #[] } { data := #[] } 0 { data := #[] })
  below : Below w.heap.size w W
  gw : w.heap.size < g
  gc : g < C
  cp : C < P
section
variable {w W W' : World} {g C P q cc : Nat} {st st' : St} {a : Int} {X : Option Addr} {l : List Bs}
theorem PgS.cw (h : PgS w W g C P st a X q cc l) : C ≤ W.heap.size := Nat.le_of_lt h.cv.lt
theorem PgS.cell0 (h : PgS w W g C P st a X q cc l) : W.cell? ⟨C, 0, none⟩ = some (.pointer (some ⟨g, 0, none⟩)) := h.cv.cell 0
theorem PgS.up (h : PgS w W g C P st a X q cc l) (hb : Below W.heap.size W W') : PgS w W' g C P st a X q cc l :=
  ⟨h.cur.below hb h.cw, h.cv.below hb h.cv.lt, h.var.below hb h.var.lt, sown_kept h.row hb, h.res.below hb h.res.lt, h.below.trans (hb.mono h.below.size), h.gw, h.gc, h.cp⟩
theorem PgS.only (h : PgS w W g C P st a X q cc l) (ho : Only W W' g) (hc : CurB C W' g st') : PgS w W' g C P st' a X q cc l := by
  have h1 := h.gw
  have h2 := h.gc
  have h3 := h.cp
  exact ⟨hc, h.cv.only ho (by omega), h.var.only ho (by omega), srow_only h.row ho (by omega), h.res.only ho (by omega), below_only h.below ho (by omega) h.below.size, h1, h2, h3⟩
theorem PgS.fill (h : PgS w W g C P st a X q cc l) (k : Int) (t1 t2 : ByteArray) (z : Int) (t3 : ByteArray) :
    UfS w (((((W.setCell ⟨P, 2, none⟩ (.int .i64 k)).setCell ⟨P, 3, none⟩ (.string t1)).setCell ⟨P, 4, none⟩ (.string t2)).setCell ⟨P, 5, none⟩ (.int .i64 z)).setCell ⟨P, 6, none⟩ (.string t3)) P a X q cc l k t1 t2 z t3 := by
  have h3 := h.cp
  have h4 := h.gw
  have h5 := h.gc
  have hp : w.heap.size < P := by omega
  have hR : w.heap.size ≠ P := by omega
  have hq := Nat.lt_succ_self P
  refine ⟨?_, sown_far (sown_far (sown_far (sown_far (sown_far h.row hq) hq) hq) hq) hq, Blk.far (Blk.far (Blk.far (Blk.far (Blk.far h.res hR _) hR _) hR _) hR _) hR _, below_at (below_at (below_at (below_at (below_at h.below hp 2 _) hp 3 _) hp 4 _) hp 5 _) hp 6 _, hp⟩
  have K := ((((h.var.set_ 2 (.int .i64 k)).set_ 3 (.string t1)).set_ 4 (.string t2)).set_ 5 (.int .i64 z)).set_ 6 (.string t3)
  simp only [updC, List.setIfInBounds_toArray, List.set_cons_zero, List.set_cons_succ] at K
  exact K
theorem srow_less {base base' : Nat} {v : Value} {n : Nat} {xs : List Value} (h : w.ownsRow base 9 1 v n xs) (hb : base' ≤ base) : w.ownsRow base' 9 1 v n xs :=
  ⟨h.1, h.2.imp id fun ⟨g, cap, cur, h1, h2, h3⟩ => ⟨g, cap, cur, h1, Nat.le_trans hb h2, h3⟩⟩
theorem pgs_store {B : Nat} (hcur : CurB C W g st) (hcv : Blk W C 45 #[.pointer (some ⟨g, 0, none⟩)]) (hvar : Blk W P 26 (updC a none 0 0 0 { data := #[] } { data := #[] } 0 { data := #[] })) (hrow : W.ownsRow B 9 1 (.slice X q cc) q (scells l)) (hB : P + 1 ≤ B) (hres : Blk W w.heap.size 26 (updC 0 none 0 0 0 { data := #[] } { data := #[] } 0 { data := #[] })) (hb : Below w.heap.size w W) (h1 : w.heap.size < g) (h2 : g < C) (h3 : C < P) :
    PgS w (W.setCell ⟨P, 1, none⟩ (.slice X q cc)) g C P st a X q cc l := by
  have hq := Nat.lt_succ_self P
  refine ⟨curb_only hcur (only_set _ _ _ _) (by omega) (by omega) (Nat.le_of_lt hcv.lt), Blk.far hcv (by show C ≠ P; omega) _, ?_, sown_far (srow_less hrow hB) hq, Blk.far hres (by show w.heap.size ≠ P; omega) _, below_at hb (by omega) 1 _, h1, h2, h3⟩
  have K := hvar.set_ 1 (.slice X q cc)
  simpa [updC] using K
end
theorem upget_long (b : List UInt8) (n : Nat) (A : Option Addr) (c : Nat) (w : World) (hn : n = b.length) (hl : 384 < n) :
    Calls Tryd.prog 10 #[.slice A n c] w (GivesGetU b w) := by
  have HR := Lib.hid (Blk.new w 26 #[.int .i64 0, .slice none 0 0, .int .i64 0, .string { data := #[] }, .string { data := #[] }, .int .i64 0, .string { data := #[] }])
  have HB0 := Lib.hid (show Below w.heap.size w (w.alloc (.cells #[.int .i64 0, .slice none 0 0, .int .i64 0, .string { data := #[] }, .string { data := #[] }, .int .i64 0, .string { data := #[] }] 26)) from (Below.refl _ _).alloc (Nat.le_refl _) _)
  have HE : Hid ((3 : Int) = errGU b none) := by
    show _ = _
    unfold errGU
    rw [if_pos (by omega)]
  have HG := Lib.hid (getsU_long (b := b) (by omega))
  clear hn
  obtain ⟨kl, k0, k1, k2, k3, k4, k5, k6, kf⟩ := updC_of HR.out
  have nb := fun w' => Tryd.updZero w'
  have a26 := fun w' => Tryd.updAgg w'
  have s26 := fun w' => Tryd.updSize w'
  have d0 : decide ((384 : Int) < (n : Int)) = true := decide_eq_true (by omega)
  have d1 : decide ((n : Int) > 384) = true := decide_eq_true (by omega)
  go_enter Tryd.func10, Tryd.ntmps10
  go_wp2_with (fail)
  refine bodyPost_ret (v := .tuple #[.agg #[.int .i64 0, .slice none 0 0, .int .i64 0, .string { data := #[] }, .string { data := #[] }, .int .i64 0, .string { data := #[] }], .int .i64 3]) (by simp [results, Tryd.results10, go_sem, k0, k1, k2, k3, k4, k5, k6]) rfl ?_
  exact getU_none HG.out HE.out rfl HB0.out
theorem upget_short (b : List UInt8) (n : Nat) (A : Option Addr) (c : Nat) (w : World) (hn : n = b.length) (hr : RB w w.heap.size A b) (hl : n ≤ 384) :
    Calls Tryd.prog 10 #[.slice A n c] w (GivesGetU b w) := by
  obtain ⟨s1, a, h1⟩ : ∃ s a, stepByte (some b) = (s, a) := ⟨_, _, rfl⟩
  obtain ⟨s2, m, h2⟩ : ∃ s a, stepByte s1 = (s, a) := ⟨_, _, rfl⟩
  have hm : m ≤ 255 := by
    have := stepByte_le s1
    rw [h2] at this
    exact this
  obtain ⟨st, l, h3⟩ : ∃ s l, takesI m s2 = (s, l) := ⟨_, _, rfl⟩
  have hlen : l.length = m := by
    have h := takesI_len m s2
    rw [h3] at h
    exact h
  have HJ : Hid (l.length = m) := hlen
  have HD : Hid (readU b = (st, a, l)) := by
    show _ = _
    unfold readU
    rw [h1]
    simp only []
    rw [h2]
    simp only []
    rw [h3]
  have HNn := Lib.hid hn
  have HFr : Hid (∀ W, Below w.heap.size w W → Calls Tryd.prog 22 #[.slice A n c] W fun e w' => ∃ g, e = .returned (.pointer (some ⟨g, 0, none⟩)) ∧ Hid (W.heap.size ≤ g) ∧ Hid (Cur w' g (some b)) ∧ Hid (Below W.heap.size W w')) := fun W hW => by
    rw [hn]
    exact from_any b A c W (rb_up7 hr hW) (by omega)
  have HBy : Hid (∀ (B g : Nat) (st st' : St) (x : Nat) (W : World), CurB B W g st → B ≤ W.heap.size → stepByte st = (st', x) → Calls Tryd.prog 23 #[.pointer (some ⟨g, 0, none⟩)] W fun e w' => e = .returned (.int .i64 (x : Int)) ∧ Hid (CurB B w' g st') ∧ Hid (Only W w' g)) := fun B g st st' x W hc hB he => by
    have h := byte_at B g st W hc hB
    rw [he] at h
    exact h
  have HTn : Hid (∀ (B g C : Nat) (W : World), CurB B W g s2 → B ≤ W.heap.size → Blk W C 45 #[.pointer (some ⟨g, 0, none⟩)] → C ≠ g → Calls Tryd.prog 24 #[.int .i64 (m : Int), .func (.func 25) #[] #[.pointer (some ⟨C, 0, none⟩)]] W fun e w' => ∃ X cc, e = .returned (.slice X m cc) ∧ Hid (w'.ownsRow W.heap.size 9 1 (.slice X m cc) m (scells l)) ∧ Hid (CurB B w' g st) ∧ Hid (Only W w' g)) := fun B g C W q1 q2 q3 q4 => by
    have h := taken_any m B g C s2 W hm q1 q2 q3 q4
    rw [h3] at h
    exact h
  obtain ⟨L, hL⟩ : ∃ L, L = restU st := ⟨_, rfl⟩
  obtain ⟨lm, hlm⟩ : ∃ x, x = L.length := ⟨_, rfl⟩
  have HLM := Lib.hid hlm
  have HLf : Hid (∀ (B g : Nat) (W : World), CurB B W g st → B ≤ W.heap.size → Calls Tryd.prog 27 #[.pointer (some ⟨g, 0, none⟩)] W fun e w' => e = .returned (.int .i64 ((leftN st : Nat) : Int)) ∧ Below W.heap.size W w') := fun B g W q1 q2 => (left_any g st W (q1.cur q2)).mono fun e w' hh => by
    obtain ⟨e1, e2⟩ := hh
    rw [← e2]
    exact ⟨e1, Below.refl _ _⟩
  have HTk : Hid (∀ (B g : Nat) (W : World), CurB B W g st → B ≤ W.heap.size → Calls Tryd.prog 26 #[.pointer (some ⟨g, 0, none⟩), .int .i64 ((leftN st : Nat) : Int)] W fun e w' => ∃ A6 c6, e = .returned (.slice A6 lm c6) ∧ Hid (RB w' w'.heap.size A6 L) ∧ Hid (lm ≤ c6 ∧ c6 ≤ 9223372036854775807) ∧ Hid (CurB B w' g (stepTake ((leftN st : Nat) : Int) st).1) ∧ Hid (Only W w' g)) := fun B g W q1 q2 => (take_atc B g _ st W q1 q2).mono fun e w' hh => by
    obtain ⟨A6, c6, e1, e2, e3, e4, e5, e6⟩ := hh
    rw [rest_take, ← hL] at e1 e2 e4
    rw [← hlm] at e1 e4
    exact ⟨A6, c6, e1, e2, e4, e5, e6⟩
  obtain ⟨lf, hlf⟩ : ∃ x, x = leftN st := ⟨_, rfl⟩
  rw [← hlf] at HLf HTk
  obtain ⟨st6, hst6⟩ : ∃ x, x = (stepTake ((lf : Nat) : Int) st).1 := ⟨_, rfl⟩
  rw [← hst6] at HTk
  have hLb : lm ≤ 1000000 := by
    rw [hlm, hL]
    rcases st with _ | R
    · show 0 ≤ _
      omega
    · obtain ⟨p, e1, e2⟩ := updBytes_of HD.out Opn.zero
      have h5 : b.length = p.length + R.length := by rw [e1, List.length_append]
      show R.length ≤ _
      omega
  have HGt : Hid (∀ (C : Option Addr) (d : Nat) (W : World), RB W W.heap.size C L → lm ≤ d → d ≤ 9223372036854775807 → Calls Tryd.prog 28 #[.slice C lm d] W fun e w' => ∃ (o : Opn) (k : Int) (t1 t2 : ByteArray) (z : Int) (t3 : ByteArray) (s y : Int), e = .returned (.tuple #[.agg #[.int .i64 k, .string t1, .string t2, .int .i64 z, .string t3], .int .i64 s, .int .i64 y]) ∧ Hid (∀ (X : Option Addr) (cc : Nat), updV ⟨(a : Int), l, o⟩ X cc = .agg #[.int .i64 (a : Int), .slice X l.length cc, .int .i64 k, .string t1, .string t2, .int .i64 z, .string t3]) ∧ Hid (o.name.length ≤ 1000000 ∧ o.text.length ≤ 1000000) ∧ Hid (y ≠ 0 → GetsU b none) ∧ Hid (y = 0 → s ≠ (lm : Int) → GetsU b none) ∧ Hid (y = 0 → s = (lm : Int) → (Upd.check ⟨(a : Int), l, o⟩ ≠ 0 → GetsU b none) ∧ (Upd.check ⟨(a : Int), l, o⟩ = 0 → GetsU b (some ⟨(a : Int), l, o⟩))) ∧ Hid (Below W.heap.size W w')) := fun C d W q1 q2 q3 => by
    refine (pget_any L lm C d W hlm q1 q2 q3 hLb).mono fun e w' hh => ?_
    obtain ⟨⟨r, hr1, hr2⟩, hr3⟩ := hh
    rw [hL] at hr1
    obtain ⟨o, s, y, e1, e2, e3, e4, e5⟩ := getP_upd HD.out hr1
    rw [← hL, ← hlm] at e4 e5
    exact ⟨o, o.kind, text o.name, text o.text, o.n, text o.at_, s, y, by rw [hr2, e1]; rfl, fun X cc => rfl, e2, e3, e4, e5, hr3⟩
  have HCk : Hid (∀ (o : Opn) (X : Option Addr) (cc : Nat) (W : World), SS W W.heap.size X l → l.length ≤ cc → cc ≤ 9223372036854775807 → o.name.length ≤ 1000000 → o.text.length ≤ 1000000 → Calls Tryd.prog 13 #[updV ⟨(a : Int), l, o⟩ X cc] W fun e w' => e = .returned (.int .i64 (Upd.check ⟨(a : Int), l, o⟩)) ∧ Below W.heap.size W w') := fun o X cc W q1 q2 q3 q4 q5 => upcheck_any ⟨(a : Int), l, o⟩ X cc W q1 (by show l.length ≤ 1000; omega) q2 q3 q4 q5
  have G1 := Lib.hid h1
  have G2 := Lib.hid h2
  have HR := Lib.hid (Blk.new w 26 #[.int .i64 0, .slice none 0 0, .int .i64 0, .string { data := #[] }, .string { data := #[] }, .int .i64 0, .string { data := #[] }])
  have HB0 := Lib.hid (show Below w.heap.size w (w.alloc (.cells #[.int .i64 0, .slice none 0 0, .int .i64 0, .string { data := #[] }, .string { data := #[] }, .int .i64 0, .string { data := #[] }] 26)) from (Below.refl _ _).alloc (Nat.le_refl _) _)
  have z0 : (w.alloc (.cells #[.int .i64 0, .slice none 0 0, .int .i64 0, .string { data := #[] }, .string { data := #[] }, .int .i64 0, .string { data := #[] }] 26)).heap.size = w.heap.size + 1 := by simp
  have HZ0 := Lib.hid z0
  clear h1 h2 h3 hn hr hlen hL hlm hlf hst6 hLb z0
  have nb := fun w' => Tryd.updZero w'
  have na := fun a w' => Tryd.updAuth a w'
  have a26 := fun w' => Tryd.updAgg w'
  have s26 := fun w' => Tryd.updSize w'
  have a23 := fun w' => Tryd.opAgg w'
  have s23 := fun w' => Tryd.opSize w'
  have hmf : ∀ (fn : Fn) (first cap : Array Value) (w : World), (Instr.makeFunc fn first cap).run Tryd.prog w = .ok (.func fn first cap) w := fun _ _ _ _ => rfl
  have d0 : decide ((384 : Int) < (n : Int)) = false := decide_eq_false (by omega)
  have d1 : decide ((n : Int) > 384) = false := decide_eq_false (by omega)
  go_enter Tryd.func10, Tryd.ntmps10
  go_upto_region 4 with (first
    | (go_at_call 22; (with_reducible refine (HFr.out _ HB0.out).mono ?_); rintro e w1 ⟨g, rfl, hg1, hc1, hb1⟩))
  have hg := hg1.out
  rw [HZ0.out] at hg
  have hgw : w.heap.size < g := hg
  have z1 := hb1.out.size
  rw [HZ0.out] at z1
  have hB1 : Below w.heap.size w w1 := HB0.out.trans (hb1.out.mono (by rw [HZ0.out]; omega))
  have C2 := Lib.hid (hB1.alloc hB1.size (.cells #[.pointer (some ⟨g, 0, none⟩)] 45))
  have R2 := Lib.hid ((HR.out.below hb1.out (by rw [HZ0.out]; omega)).alloc (.cells #[.pointer (some ⟨g, 0, none⟩)] 45))
  have V2 := Lib.hid (Blk.new w1 45 #[.pointer (some ⟨g, 0, none⟩)])
  have K2 : Hid (CurB w1.heap.size (w1.alloc (.cells #[.pointer (some ⟨g, 0, none⟩)] 45)) g (some b)) := (hc1.out.at_).below ((Below.refl _ _).alloc (Nat.le_refl _) _) (Nat.le_refl _)
  have hgc : g < w1.heap.size := hc1.out.at_.lt
  obtain ⟨C, hC⟩ : ∃ x, x = w1.heap.size := ⟨_, rfl⟩
  obtain ⟨wc, hwc⟩ : ∃ x, x = w1.alloc (.cells #[.pointer (some ⟨g, 0, none⟩)] 45) := ⟨_, rfl⟩
  rw [← hwc] at C2 R2 V2 K2 ⊢
  rw [← hC] at V2 K2 hgc ⊢
  clear hwc hC hB1 hb1 hc1 hg1 hg z1 HR HB0 HZ0 HFr
  have x0 := V2.out.cell 0
  have xf := V2.out.frozen
  have xl := V2.out.lt
  have zc : C ≤ wc.heap.size := Nat.le_of_lt xl
  go_upto_region 5 with (first
    | (go_at_call 23; (with_reducible refine (HBy.out C g (some b) s1 a _ K2.out zc G1.out).mono ?_); rintro e w2 ⟨rfl, k2, o2⟩))
  have hB2 := below_only C2.out o2.out (Nat.le_of_lt hgw) C2.out.size
  have V3 := Lib.hid ((V2.out.only o2.out (by omega)).alloc (.cells (updC (a : Int) none 0 0 0 { data := #[] } { data := #[] } 0 { data := #[] }) 26))
  have R3 := Lib.hid ((R2.out.only o2.out (by omega)).alloc (.cells (updC (a : Int) none 0 0 0 { data := #[] } { data := #[] } 0 { data := #[] }) 26))
  have C3 := Lib.hid (hB2.alloc hB2.size (.cells (updC (a : Int) none 0 0 0 { data := #[] } { data := #[] } 0 { data := #[] }) 26))
  have U3 := Lib.hid (Blk.new w2 26 (updC (a : Int) none 0 0 0 { data := #[] } { data := #[] } 0 { data := #[] }))
  have zc2 : C < w2.heap.size := Nat.lt_of_lt_of_le xl o2.out.size
  have K3 : Hid (CurB C (w2.alloc (.cells (updC (a : Int) none 0 0 0 { data := #[] } { data := #[] } 0 { data := #[] }) 26)) g s1) := k2.out.below ((Below.refl _ _).alloc (Nat.le_refl _) _) (Nat.le_of_lt zc2)
  obtain ⟨P, hP⟩ : ∃ x, x = w2.heap.size := ⟨_, rfl⟩
  obtain ⟨wp, hwp⟩ : ∃ x, x = w2.alloc (.cells (updC (a : Int) none 0 0 0 { data := #[] } { data := #[] } 0 { data := #[] }) 26) := ⟨_, rfl⟩
  have hwp' : w2.alloc (.cells #[.int .i64 (a : Int), .slice none 0 0, .int .i64 0, .string { data := #[] }, .string { data := #[] }, .int .i64 0, .string { data := #[] }] 26) = wp := hwp.symm
  rw [← hwp] at V3 R3 C3 U3 K3
  (try rw [hwp'])
  rw [← hP] at U3 zc2
  (try rw [← hP])
  clear x0 xf xl zc hwp hwp' hP hB2 V2 R2 C2 K2 k2 o2
  have x0 := V3.out.cell 0
  have xf := V3.out.frozen
  have xl := V3.out.lt
  have zp : P + 1 ≤ wp.heap.size := U3.out.lt
  have zc3 : C ≤ wp.heap.size := by omega
  obtain ⟨pl, p0, p1, p2, p3, p4, p5, p6, pf⟩ := updC_of U3.out
  go_upto_region 6 with (first
    | (go_at_call 24; (with_reducible refine (HTn.out C g C _ k3.out zc4 V4.out (by omega)).mono ?_); rintro e w4 ⟨X, cc, rfl, r4, k4, o4⟩; have U5 := Lib.hid (U4.out.only o4.out (by omega)); obtain ⟨pl, p0, p1, p2, p3, p4, p5, p6, pf⟩ := updC_of U5.out)
    | (go_at_call 23; (with_reducible refine (HBy.out C g s1 s2 m _ K3.out zc3 G2.out).mono ?_); rintro e w3 ⟨rfl, k3, o3⟩; have zc4 := Nat.le_trans zc3 o3.out.size; have V4 := Lib.hid (V3.out.only o3.out (by omega)); have U4 := Lib.hid (U3.out.only o3.out (by omega)); clear x0 xf xl pl p0 p1 p2 p3 p4 p5 p6 pf))
  have hS5 : Hid (PgS w (w4.setCell ⟨P, 1, none⟩ (.slice X m cc)) g C P st (a : Int) X m cc l) :=
    pgs_store k4.out (V4.out.only o4.out (by omega)) U5.out r4.out (Nat.le_trans zp o3.out.size) ((R3.out.only o3.out (by omega)).only o4.out (by omega)) (below_only (below_only C3.out o3.out (Nat.le_of_lt hgw) C3.out.size) o4.out (Nat.le_of_lt hgw) (Nat.le_trans C3.out.size o3.out.size)) hgw hgc zc2
  obtain ⟨w5, hw5⟩ : ∃ x, x = w4.setCell ⟨P, 1, none⟩ (.slice X m cc) := ⟨_, rfl⟩
  rw [← hw5] at hS5 ⊢
  clear hw5 pl p0 p1 p2 p3 p4 p5 p6 pf U5 U4 V4 V3 U3 R3 C3 K3 k3 k4 o3 o4 r4 zc4 zc3 zp HBy HTn G1 G2
  have P0 : PgS w w5.drew g C P st (a : Int) X m cc l := PgS.up hS5.out ⟨rfl, rfl, rfl, Nat.le_refl _, fun _ _ => rfl⟩
  have h0 := P0.cell0
  have k0 := P0.cur
  have z0 := P0.cw
  go_region_held_law (fun w' => w'.cell? ⟨C, 0, none⟩ = some (.pointer (some ⟨g, 0, none⟩)))
    (exact PgS.cell0 (by assumption))
    (first
      | (go_at_call 27; (with_reducible refine (HLf.out C g _ k0 z0).mono ?_); rintro e y1 ⟨rfl, q1⟩; have P1 : PgS w y1 g C P st (a : Int) X m cc l := PgS.up P0 q1; have k1 := P1.cur; have z1 := P1.cw)
      | (go_at_call 26; (with_reducible refine (HTk.out C g _ k1 z1).mono ?_); rintro e y2 ⟨A6, c6, rfl, r6, m6, k6, q6⟩; have P2 : PgS w y2 g C P st6 (a : Int) X m cc l := PgS.only P1 q6.out k6.out))
  go_upto_region 8 with (first
    | (go_at_call 28; (with_reducible refine (HGt.out A6 c6 _ r6.out m6.out.1 m6.out.2).mono ?_); rintro e w6 ⟨o, k, t1, t2, z, t3, sk, y, rfl, hov, hon, hy1, hy2, hy0, hb6⟩))
  have hT6 := Lib.hid ((PgS.up P2 hb6.out).up ((Below.refl _ _).alloc (Nat.le_refl _) (.cells #[.int .i64 k, .string t1, .string t2, .int .i64 z, .string t3] 24)))
  have ko := Lib.hid (Blk.new w6 24 #[.int .i64 k, .string t1, .string t2, .int .i64 z, .string t3])
  obtain ⟨O, hO⟩ : ∃ x, x = w6.heap.size := ⟨_, rfl⟩
  obtain ⟨w7, hw7⟩ : ∃ x, x = w6.alloc (.cells #[.int .i64 k, .string t1, .string t2, .int .i64 z, .string t3] 24) := ⟨_, rfl⟩
  rw [← hO, ← hw7] at ko ⊢
  rw [← hw7] at hT6
  clear P0 P1 P2 k0 k1 z0 z1 h0 q1 k6 q6 r6 m6 hb6 hS5 HLf HTk HGt hO hw7
  obtain ⟨pl, p0, p1, p2, p3, p4, p5, p6, pf⟩ := updC_of hT6.out.var
  have o0 := ko.out.cell 0
  have o1 := ko.out.cell 1
  have o2 := ko.out.cell 2
  have o3 := ko.out.cell 3
  have o4 := ko.out.cell 4
  have ol := ko.out.lt
  go_upto_region 9 with (fail)
  have hF := Lib.hid (hT6.out.fill k t1 t2 z t3)
  obtain ⟨w8, hw8⟩ : ∃ x, x = (((((w7.setCell ⟨P, 2, none⟩ (.int .i64 k)).setCell ⟨P, 3, none⟩ (.string t1)).setCell ⟨P, 4, none⟩ (.string t2)).setCell ⟨P, 5, none⟩ (.int .i64 z)).setCell ⟨P, 6, none⟩ (.string t3)) := ⟨_, rfl⟩
  rw [← hw8] at hF ⊢
  clear pl p0 p1 p2 p3 p4 p5 p6 pf o0 o1 o2 o3 o4 ol ko hT6 hw8 HD
  obtain ⟨⟨pl, p0, p1, p2, p3, p4, p5, p6, pf⟩, rl, r0, r1, r2, r3, r4, r5, r6, rf⟩ := hF.out.cells
  obtain ⟨u, hu⟩ : ∃ u : Upd, u = ⟨(a : Int), l, o⟩ := ⟨_, rfl⟩
  have HCap := Lib.hid (sown_cap hF.out.row)
  have hss : Hid (SS w8 w8.heap.size X l) := by
    have h := hF.out.row
    rw [← HJ.out] at h
    exact own_ss h
  have hov1 : updV ⟨(a : Int), l, o⟩ X cc = .agg #[.int .i64 (a : Int), .slice X m cc, .int .i64 k, .string t1, .string t2, .int .i64 z, .string t3] := by
    have h := hov.out X cc
    rw [HJ.out] at h
    exact h
  obtain ⟨f, hf⟩ : ∃ f, f = u.check := ⟨_, rfl⟩
  have HC2 : Hid (∀ W, SS W W.heap.size X l → Calls Tryd.prog 13 #[.agg #[.int .i64 (a : Int), .slice X m cc, .int .i64 k, .string t1, .string t2, .int .i64 z, .string t3]] W fun e w' => e = .returned (.int .i64 f) ∧ Below W.heap.size W w') := fun W hs => by
    have h := HCk.out o X cc W hs (by rw [HJ.out]; exact HCap.out.1) HCap.out.2 hon.out.1 hon.out.2
    rw [hov1, ← hu, ← hf] at h
    exact h
  have hul : u.preds = l := by rw [hu]
  rw [← hu, ← hf] at hy0
  rw [← hu] at hov1
  have HUL := Lib.hid hul
  have HV1 := Lib.hid hov1
  have HE5 : Hid ((5 : Int) = errGU b none) := by
    show _ = _
    unfold errGU
    rw [if_neg (by have := HNn.out; omega), if_neg (by simp)]
  clear hu hul hov1 hf HCk hov hon
  by_cases hy : y = 0
  · subst hy
    have HY2 := Lib.hid (hy2.out rfl)
    have HY0 := Lib.hid (hy0.out rfl)
    clear hy1 hy2 hy0
    by_cases hs : sk = (lm : Int)
    · subst hs
      have HY := Lib.hid (HY0.out rfl)
      clear HY0 HY2
      by_cases hfz : f = 0
      · subst hfz
        have HG := Lib.hid (HY.out.2 rfl)
        clear HY
        go_wp2_with (go_at_call 13; (with_reducible refine (HC2.out _ hss.out).mono ?_); rintro e w9 ⟨rfl, b9⟩; have hF9 := Lib.hid (hF.out.up b9); clear pl p0 p1 p2 p3 p4 p5 p6 pf rl r0 r1 r2 r3 r4 r5 r6 rf; obtain ⟨⟨pl, p0, p1, p2, p3, p4, p5, p6, pf⟩, rl, r0, r1, r2, r3, r4, r5, r6, rf⟩ := hF9.out.cells)
        obtain ⟨E, hE⟩ : ∃ E, E = ((((((w9.setCell ⟨w.heap.size, 0, none⟩ (.int .i64 (a : Int))).setCell ⟨w.heap.size, 1, none⟩ (.slice X m cc)).setCell ⟨w.heap.size, 2, none⟩ (.int .i64 k)).setCell ⟨w.heap.size, 3, none⟩ (.string t1)).setCell ⟨w.heap.size, 4, none⟩ (.string t2)).setCell ⟨w.heap.size, 5, none⟩ (.int .i64 z)).setCell ⟨w.heap.size, 6, none⟩ (.string t3) := ⟨_, rfl⟩
        obtain ⟨⟨y0, y1, y2, y3, y4, y5, y6⟩, hbE⟩ := upd_end hF9.out.below hF9.out.res (Nat.le_refl _) hE
        have hSE := ss_end HJ.out.symm hF9.out.row (Nat.lt_succ_of_lt hF9.out.pw) hE
        (try rw [← hE])
        refine bodyPost_ret (v := .tuple #[.agg #[.int .i64 (a : Int), .slice X m cc, .int .i64 k, .string t1, .string t2, .int .i64 z, .string t3], .int .i64 0]) (by simp [results, Tryd.results10, go_sem, y0, y1, y2, y3, y4, y5, y6]) rfl ?_
        refine ⟨some u, X, cc, HG.out, ?_, ?_, ?_, HCap.out.2, hbE⟩
        · show _ = Ending.returned (.tuple #[updV u X cc, .int .i64 (errGU b (some u))])
          rw [HV1.out]
          unfold errGU
          rw [if_neg (by have := HNn.out; omega)]; rfl
        · show SS E E.heap.size X u.preds
          rw [HUL.out]
          exact hSE
        · show u.preds.length ≤ cc
          rw [HUL.out, HJ.out]
          exact HCap.out.1
      · have HG := Lib.hid (HY.out.1 hfz)
        have dF : decide (f = 0) = false := decide_eq_false hfz
        clear HY
        go_wp2_with (go_at_call 13; (with_reducible refine (HC2.out _ hss.out).mono ?_); rintro e w9 ⟨rfl, b9⟩; have hF9 := Lib.hid (hF.out.up b9); clear pl p0 p1 p2 p3 p4 p5 p6 pf rl r0 r1 r2 r3 r4 r5 r6 rf; obtain ⟨⟨pl, p0, p1, p2, p3, p4, p5, p6, pf⟩, rl, r0, r1, r2, r3, r4, r5, r6, rf⟩ := hF9.out.cells)
        obtain ⟨E, hE⟩ : ∃ E, E = ((((((w9.setCell ⟨w.heap.size, 0, none⟩ (.int .i64 0)).setCell ⟨w.heap.size, 1, none⟩ (.slice none 0 0)).setCell ⟨w.heap.size, 2, none⟩ (.int .i64 0)).setCell ⟨w.heap.size, 3, none⟩ (.string { data := #[] })).setCell ⟨w.heap.size, 4, none⟩ (.string { data := #[] })).setCell ⟨w.heap.size, 5, none⟩ (.int .i64 0)).setCell ⟨w.heap.size, 6, none⟩ (.string { data := #[] }) := ⟨_, rfl⟩
        obtain ⟨⟨y0, y1, y2, y3, y4, y5, y6⟩, hbE⟩ := upd_end hF9.out.below hF9.out.res (Nat.le_refl _) hE
        (try rw [← hE])
        refine bodyPost_ret (v := .tuple #[.agg #[.int .i64 0, .slice none 0 0, .int .i64 0, .string { data := #[] }, .string { data := #[] }, .int .i64 0, .string { data := #[] }], .int .i64 5]) (by simp [results, Tryd.results10, go_sem, y0, y1, y2, y3, y4, y5, y6]) rfl ?_
        exact getU_none HG.out HE5.out rfl hbE
    · have HG := Lib.hid (HY2.out hs)
      have dS : decide (sk = (lm : Int)) = false := decide_eq_false hs
      clear HY0 HY2
      go_wp2_with (fail)
      obtain ⟨E, hE⟩ : ∃ E, E = ((((((w8.setCell ⟨w.heap.size, 0, none⟩ (.int .i64 0)).setCell ⟨w.heap.size, 1, none⟩ (.slice none 0 0)).setCell ⟨w.heap.size, 2, none⟩ (.int .i64 0)).setCell ⟨w.heap.size, 3, none⟩ (.string { data := #[] })).setCell ⟨w.heap.size, 4, none⟩ (.string { data := #[] })).setCell ⟨w.heap.size, 5, none⟩ (.int .i64 0)).setCell ⟨w.heap.size, 6, none⟩ (.string { data := #[] }) := ⟨_, rfl⟩
      obtain ⟨⟨y0, y1, y2, y3, y4, y5, y6⟩, hbE⟩ := upd_end hF.out.below hF.out.res (Nat.le_refl _) hE
      (try rw [← hE])
      refine bodyPost_ret (v := .tuple #[.agg #[.int .i64 0, .slice none 0 0, .int .i64 0, .string { data := #[] }, .string { data := #[] }, .int .i64 0, .string { data := #[] }], .int .i64 5]) (by simp [results, Tryd.results10, go_sem, y0, y1, y2, y3, y4, y5, y6]) rfl ?_
      exact getU_none HG.out HE5.out rfl hbE
  · have HG := Lib.hid (hy1.out hy)
    have dY : decide (y = 0) = false := decide_eq_false hy
    clear hy1 hy2 hy0
    go_wp2_with (fail)
    obtain ⟨E, hE⟩ : ∃ E, E = ((((((w8.setCell ⟨w.heap.size, 0, none⟩ (.int .i64 0)).setCell ⟨w.heap.size, 1, none⟩ (.slice none 0 0)).setCell ⟨w.heap.size, 2, none⟩ (.int .i64 0)).setCell ⟨w.heap.size, 3, none⟩ (.string { data := #[] })).setCell ⟨w.heap.size, 4, none⟩ (.string { data := #[] })).setCell ⟨w.heap.size, 5, none⟩ (.int .i64 0)).setCell ⟨w.heap.size, 6, none⟩ (.string { data := #[] }) := ⟨_, rfl⟩
    obtain ⟨⟨y0, y1, y2, y3, y4, y5, y6⟩, hbE⟩ := upd_end hF.out.below hF.out.res (Nat.le_refl _) hE
    (try rw [← hE])
    refine bodyPost_ret (v := .tuple #[.agg #[.int .i64 0, .slice none 0 0, .int .i64 0, .string { data := #[] }, .string { data := #[] }, .int .i64 0, .string { data := #[] }], .int .i64 5]) (by simp [results, Tryd.results10, go_sem, y0, y1, y2, y3, y4, y5, y6]) rfl ?_
    exact getU_none HG.out HE5.out rfl hbE
theorem upget_any (b : List UInt8) (n : Nat) (A : Option Addr) (c : Nat) (w : World) (hn : n = b.length) (hr : RB w w.heap.size A b) (hc : n ≤ c) (hcm : c ≤ 9223372036854775807) (hl : n ≤ 1000) :
    Calls Tryd.prog 10 #[.slice A n c] w (GivesGetU b w) := by
  by_cases hl : 384 < n
  · exact upget_long b n A c w hn hl
  · exact upget_short b n A c w hn hr (by omega)
end
section
open Go.RowKit
theorem str_runO {o : Oper} {a : Act} {W : World} (x : Operand) (A : Option Addr) (n c : Nat) (t : ByteArray) (ho : o.op = .convert 29 9 x) (hx : a.eval x = .slice A n c) (hc : (convert 29 9 (.slice A n c)).run Tryd.prog W = .ok (.string t) W) : (execOp a.eval o).run Tryd.prog W = .ok (.value (.string t)) W := by
  unfold execOp
  simp only [ho, hx, Sem.run_bind, hc, Result.andThen_ok, Sem.run_pure]
theorem seql_runO {o : Oper} {a : Act} {W : World} (x y : Operand) (s : ByteArray) (ho : o.op = .binOp .eql 9 x y 9) (hx : a.eval x = .string s) (hy : a.eval y = .string s) : (execOp a.eval o).run Tryd.prog W = .ok (.value (.bool true)) W := by
  have hv : (binOp .eql 9 (.string s) (.string s)).run Tryd.prog W = .ok (.bool true) W := by simp [go_sem]
  have hg : (eqGuard .eql 9 x y (.string s) (.string s)).run Tryd.prog W = .ok () W := by unfold eqGuard; rfl
  unfold execOp
  simp only [ho, hx, hy, Sem.run_bind, hg, Result.andThen_ok, hv, Sem.run_pure]
theorem beql_runO {o : Oper} {a : Act} {W : World} (x y : Operand) (b : Bool) (ho : o.op = .binOp .eql 4 x y 4) (hx : a.eval x = .bool b) (hy : a.eval y = .bool b) : (execOp a.eval o).run Tryd.prog W = .ok (.value (.bool true)) W := by
  have hv : (binOp .eql 4 (.bool b) (.bool b)).run Tryd.prog W = .ok (.bool true) W := by simp [go_sem]
  have hg : (eqGuard .eql 4 x y (.bool b) (.bool b)).run Tryd.prog W = .ok () W := by unfold eqGuard; rfl
  unfold execOp
  simp only [ho, hx, hy, Sem.run_bind, hg, Result.andThen_ok, hv, Sem.run_pure]
end
section
open Go.ChangeShapes Go.WideShapes Go.ChangeAt Go.RowKit
theorem texts_of15 {H : Type} {enc : TypeId × Value → H} {P : Program} {W : World} {t e : TypeId} {fuel : Nat} {v : Value} {x : DataW H × List MemPlace} (ht : P.underlying t = some (.slice e)) (he : P.underlying e = some .string) (ce : P.cellsOf e = 1)
    (hf : DataW.trod enc P W 0 (fun _ => true) true fuel t [v] = some x) :
    ∃ (A : Option Addr) (Ls : List Bs) (c : Nat), v = .slice A Ls.length c ∧ SS W W.heap.size A Ls ∧ Ls.length ≤ c ∧ c ≤ 9223372036854775807 := by
  rcases Deep.open_strs ht he ce hf with ⟨hcs, hx⟩ | ⟨a, len, cap, m, Sx, hcs, _, hl, hm, hmm, hx, hr⟩
  · simp at hcs
    subst hcs
    exact ⟨none, [], 0, rfl, SS.nil _ _ _, Nat.le_refl _, by omega⟩
  · simp at hcs
    subst hcs
    have hml : len ≤ m := by rw [hmm]; split <;> omega
    refine ⟨some a, (List.range len).map fun i => (Sx i).data.toList, cap, by simp, ⟨by simp [scells], fun hn => ?_⟩, by simpa using hl, hm⟩
    simp only [List.length_map, List.length_range] at hn
    have h0 := (hr 0 (by omega)).1
    have hblk := World.block_lt_of_cell? W _ h0
    rw [block_of_add] at hblk
    refine ⟨a, rfl, hblk, fun j u hu => ?_⟩
    have hj : j < len := by
      have := (List.getElem?_eq_some_iff.1 hu).1
      simpa [scells] using this
    rw [scells_get _ _ (by simpa using hj)] at hu
    rw [(hr j (by omega)).1, ← hu]
    congr 2
    simp [List.getD, hj, text]
theorem Tryd.cellsUpd : Tryd.prog.cellsOf 26 = 7 := by kernel_rfl
theorem Tryd.cellsSlU : Tryd.prog.cellsOf 22 = 1 := by kernel_rfl
theorem list7U {α : Type} (l : List α) (h : l.toArray.size = 7) : ∃ a b c d e f g, l = [a, b, c, d, e, f, g] := by
  have h2 : l.length = 7 := by simpa using h
  obtain _ | ⟨a, _ | ⟨b, _ | ⟨c, _ | ⟨d, _ | ⟨e, _ | ⟨f, _ | ⟨g, _ | ⟨x, l⟩⟩⟩⟩⟩⟩⟩⟩ := l
  all_goals first
    | exact ⟨_, _, _, _, _, _, _, rfl⟩
    | (exfalso; simp only [List.length_cons, List.length_nil] at h2; omega)
theorem open_upd {H : Type} {enc : TypeId × Value → H} {W : World} {base : Nat} {v : Value} {d : DataW H} {ps : List MemPlace} (hv : Value.okWide Tryd.prog W .any base 26 v) (h : DataW.Trod enc Tryd.prog W 0 (fun _ => true) true 26 v d ps) :
    ∃ (u : Upd) (A : Option Addr) (c : Nat), v = updV u A c ∧ SS W W.heap.size A u.preds ∧ u.preds.length ≤ c ∧ c ≤ 9223372036854775807 := by
  obtain ⟨cs, rfl, hsz⟩ := okWide_struct Tryd.underlying26 hv
  rw [Tryd.cellsUpd] at hsz
  obtain ⟨cl⟩ := cs
  obtain ⟨p, q, a, b, c, f, g, rfl⟩ := list7U cl hsz
  obtain ⟨fuel, hf⟩ := h
  obtain ⟨xs, k, hk, hxy, _, hxl, hff⟩ := DataW.trod_struct Tryd.underlying26 hf
  match xs, hxl with
  | [y0, y1, y2], _ =>
    have g0 := hff 0 _ rfl
    have g1 := hff 1 _ rfl
    have g2 := hff 2 _ rfl
    simp [Value.cells, Tryd.cellsIO, Tryd.cellsSlU, Tryd.cellsOp] at g0 g1 g2
    obtain ⟨z, hz, _, _⟩ := DataW.trod_int Tryd.underlying3 g0
    have ez : p = .int .i64 z := by simpa using hz
    obtain ⟨A, Ls, cc, rfl, hss, hl1, hl2⟩ := texts_of15 Tryd.underlying22 Tryd.underlying9 Tryd.cellsSO g1
    obtain ⟨xs2, k2, hk2, hxy2, _, hxl2, hff2⟩ := DataW.trod_struct Tryd.underlying24 g2
    match xs2, hxl2 with
    | [u0, u1, u2, u3, u4], _ =>
      have g0 := hff2 0 _ rfl
      have g1 := hff2 1 _ rfl
      have g2 := hff2 2 _ rfl
      have g3 := hff2 3 _ rfl
      have g4 := hff2 4 _ rfl
      simp [Tryd.cellsIO, Tryd.cellsSO] at g0 g1 g2 g3 g4
      obtain ⟨z0, h0, _, _⟩ := DataW.trod_int Tryd.underlying3 g0
      obtain ⟨z3, h3, _, _⟩ := DataW.trod_int Tryd.underlying3 g3
      obtain ⟨x1, h1, _, _⟩ := DataW.trod_string Tryd.underlying9 g1
      obtain ⟨x2, h2, _, _⟩ := DataW.trod_string Tryd.underlying9 g2
      obtain ⟨x4, h4, _, _⟩ := DataW.trod_string Tryd.underlying9 g4
      have e0 : a = .int .i64 z0 := by simpa using h0
      have e1 : b = .string x1 := by simpa using h1
      have e2 : c = .string x2 := by simpa using h2
      have e3 : f = .int .i64 z3 := by simpa using h3
      have e4 : g = .string x4 := by simpa using h4
      subst ez e0 e1 e2 e3 e4
      refine ⟨⟨z, Ls, ⟨z0, x1.data.toList, x2.data.toList, z3, x4.data.toList⟩⟩, A, cc, ?_, hss, hl1, hl2⟩
      show _ = Value.agg #[.int .i64 z, .slice A Ls.length cc, .int .i64 z0, .string (text x1.data.toList), .string (text x2.data.toList), .int .i64 z3, .string (text x4.data.toList)]
      rw [← text_of x1, ← text_of x2, ← text_of x4]
end
end Go.Proofs.YtinphkflfdpaeaaDoor
