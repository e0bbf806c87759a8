/- Lemmas under the proofs of this place: UpAwake. No statement is proved here. -/
import Derived.Test.YtinphkflfdpaeaaDoorBu40
import Derived.Lib.SmallJoins
set_option linter.unusedSimpArgs false
set_option linter.unusedVariables false
set_option maxRecDepth 100000
set_option maxHeartbeats 16000000
namespace Go.Proofs.YtinphkflfdpaeaaDoor
open Go.RowKit
abbrev auC (X : Option Addr) (cc : Nat) : Array Value := #[.int .i64 3, .slice X 0 cc, .int .i64 7, .string { data := #[] }, .string { data := #[] }, .int .i64 0, .string { data := #[] }]
structure AuS (w W : World) (V1 : Nat) (A2 : Option Addr) : Prop where
  below : Below w.heap.size w W
  var : Blk W V1 26 (auC none 0)
  rb : RB W W.heap.size A2 [3, 0, 7]
theorem AuS.up {w W W' : World} {V1 : Nat} {A2 : Option Addr} (h : AuS w W V1 A2) (hb : Below W.heap.size W W') : AuS w W' V1 A2 :=
  ⟨h.below.trans (hb.mono h.below.size), h.var.below hb h.var.lt, rb_up7 h.rb hb⟩
structure AuT (w W : World) (V1 : Nat) (A2 : Option Addr) (V4 : Nat) (X : Option Addr) (cc : Nat) (V6 : Nat) (id : ByteArray) (A6 : Option Addr) (c6 : Nat) : Prop where
  s : AuS w W V1 A2
  got : Blk W V4 26 (auC X cc)
  item : Blk W V6 36 #[.string id, .slice A6 3 c6]
  rb6 : RB W W.heap.size A6 [3, 0, 7]
theorem AuT.up {w W W' : World} {V1 : Nat} {A2 : Option Addr} {V4 : Nat} {X : Option Addr} {cc V6 : Nat} {id : ByteArray} {A6 : Option Addr} {c6 : Nat} (h : AuT w W V1 A2 V4 X cc V6 id A6 c6) (hb : Below W.heap.size W W') : AuT w W' V1 A2 V4 X cc V6 id A6 c6 :=
  ⟨h.s.up hb, h.got.below hb h.got.lt, h.item.below hb h.item.lt, rb_up7 h.rb6 hb⟩
theorem blkUpA {W W' : World} {g : Nat} {t : TypeId} {cs : Array Value} (h : Blk W g t cs) (hb : Below W.heap.size W W') : Blk W' g t cs := h.below hb h.lt
theorem blk7A {W : World} {g : Nat} {t : TypeId} {a b c d e f k : Value} (h : Blk W g t #[a, b, c, d, e, f, k]) : W.cell? ⟨g, 0, none⟩ = some a ∧ W.cell? ⟨g, 1, none⟩ = some b ∧ W.cell? ⟨g, 2, none⟩ = some c ∧ W.cell? ⟨g, 3, none⟩ = some d ∧ W.cell? ⟨g, 4, none⟩ = some e ∧ W.cell? ⟨g, 5, none⟩ = some f ∧ W.cell? ⟨g, 6, none⟩ = some k :=
  ⟨by rw [h.cell]; rfl, by rw [h.cell]; rfl, by rw [h.cell]; rfl, by rw [h.cell]; rfl, by rw [h.cell]; rfl, by rw [h.cell]; rfl, by rw [h.cell]; rfl⟩
theorem blk2A {W : World} {g : Nat} {t : TypeId} {a b : Value} (h : Blk W g t #[a, b]) : W.cell? ⟨g, 0, none⟩ = some a ∧ W.cell? ⟨g, 1, none⟩ = some b := ⟨by rw [h.cell]; rfl, by rw [h.cell]; rfl⟩
theorem made_ss {W w1 : World} (h : w1.ownsRow W.heap.size 9 1 (.slice (some ⟨W.heap.size, 0, none⟩) 9 9) 9 (madeCells (Value.string { data := #[] }).cells (9 * 1)).toList) : SS w1 w1.heap.size (some ⟨W.heap.size, 0, none⟩) (List.replicate 9 []) := by
  simp only [Nat.mul_one, show (Value.string { data := #[] }).cells = #[Value.string { data := #[] }] from rfl, toList_madeCells_one] at h
  have e : List.replicate 9 (Value.string { data := #[] }) = scells (List.replicate 9 []) := by rfl
  rw [e] at h
  exact own_ss (Ls := List.replicate 9 []) h
structure AuV (w W : World) (V1 : Nat) (A2 : Option Addr) (V4 : Nat) (X : Option Addr) (cc : Nat) (V6 : Nat) (id : ByteArray) (A6 : Option Addr) (c6 V16 : Nat) (id2 : ByteArray) (A16 : Option Addr) (c16 : Nat) : Prop where
  t : AuT w W V1 A2 V4 X cc V6 id A6 c6
  k : Blk W V16 36 #[.string id2, .slice A16 3 c16]
section
variable {w W W' : World} {V1 : Nat} {A2 : Option Addr} {V4 : Nat} {X : Option Addr} {cc V6 : Nat} {id : ByteArray} {A6 : Option Addr} {c6 V16 : Nat} {id2 : ByteArray} {A16 : Option Addr} {c16 : Nat}
theorem AuV.up (h : AuV w W V1 A2 V4 X cc V6 id A6 c6 V16 id2 A16 c16) (hb : Below W.heap.size W W') : AuV w W' V1 A2 V4 X cc V6 id A6 c6 V16 id2 A16 c16 := ⟨h.t.up hb, blkUpA h.k hb⟩
theorem AuV.new (h : AuV w W V1 A2 V4 X cc V6 id A6 c6 V16 id2 A16 c16) (o : Obj) : AuV w (W.alloc o) V1 A2 V4 X cc V6 id A6 c6 V16 id2 A16 c16 := h.up ((Below.refl _ _).alloc (Nat.le_refl _) o)
theorem AuV.held (c2 : Nat) (h : AuV w W V1 A2 V4 X cc V6 id A6 c6 V16 id2 A16 c16) : W.cell? ⟨V1, 0, none⟩ = some (.int .i64 3) ∧ W.cell? ⟨V1, 1, none⟩ = some (.slice none 0 0) ∧ W.cell? ⟨V1, 2, none⟩ = some (.int .i64 7) ∧ W.cell? ⟨V1, 3, none⟩ = some (.string { data := #[] }) ∧ W.cell? ⟨V1, 4, none⟩ = some (.string { data := #[] }) ∧ W.cell? ⟨V1, 5, none⟩ = some (.int .i64 0) ∧ W.cell? ⟨V1, 6, none⟩ = some (.string { data := #[] }) ∧ W.cell? ⟨V4, 0, none⟩ = some (.int .i64 3) ∧ W.cell? ⟨V4, 1, none⟩ = some (.slice X 0 cc) ∧ W.cell? ⟨V4, 2, none⟩ = some (.int .i64 7) ∧ W.cell? ⟨V4, 3, none⟩ = some (.string { data := #[] }) ∧ W.cell? ⟨V4, 4, none⟩ = some (.string { data := #[] }) ∧ W.cell? ⟨V4, 5, none⟩ = some (.int .i64 0) ∧ W.cell? ⟨V4, 6, none⟩ = some (.string { data := #[] }) ∧ W.cell? ⟨V6, 0, none⟩ = some (.string id) ∧ W.cell? ⟨V6, 1, none⟩ = some (.slice A6 3 c6) ∧ W.cell? ⟨V16, 0, none⟩ = some (.string id2) ∧ W.cell? ⟨V16, 1, none⟩ = some (.slice A16 3 c16) ∧ (convert 29 9 (.slice A2 3 c2)).run Tryd.prog W = .ok (.string { data := #[3, 0, 7] }) W ∧ (convert 29 9 (.slice A6 3 c6)).run Tryd.prog W = .ok (.string { data := #[3, 0, 7] }) W := by
  obtain ⟨p0, p1, p2, p3, p4, p5, p6⟩ := blk7A h.t.s.var
  obtain ⟨g0, g1, g2, g3, g4, g5, g6⟩ := blk7A h.t.got
  obtain ⟨d0, d1⟩ := blk2A h.t.item
  obtain ⟨f0, f1⟩ := blk2A h.k
  exact ⟨p0, p1, p2, p3, p4, p5, p6, g0, g1, g2, g3, g4, g5, g6, d0, d1, f0, f1, aw_str h.t.s.rb 3 c2 rfl, aw_str h.t.rb6 3 c6 rfl⟩
end
theorem rb_4 (W : World) : RB (W.alloc (.cells #[.int .u8 3, .int .u8 0, .int .u8 7, .int .u8 7] 5)) (W.alloc (.cells #[.int .u8 3, .int .u8 0, .int .u8 7, .int .u8 7] 5)).heap.size (some ⟨W.heap.size, 0, none⟩) [3, 0, 7, 7] := by
  rw [show (W.alloc (.cells #[.int .u8 3, .int .u8 0, .int .u8 7, .int .u8 7] 5)).heap.size = W.heap.size + 1 by simp]
  exact rb_new W [3, 0, 7, 7]
theorem rb_abc (W : World) : RB (W.alloc (.cells #[.int .u8 97, .int .u8 98, .int .u8 99] 5 (3, 4))) (W.alloc (.cells #[.int .u8 97, .int .u8 98, .int .u8 99] 5 (3, 4))).heap.size (some ⟨W.heap.size, 0, none⟩) [97, 98, 99] := by
  rw [show (W.alloc (.cells #[.int .u8 97, .int .u8 98, .int .u8 99] 5 (3, 4))).heap.size = W.heap.size + 1 by simp]
  exact rb_newm W [97, 98, 99] (3, 4)
theorem awake15_any (w : World) (hT : Tab w) : Calls Tryd.prog 7 #[] w fun e w' => e = .returned (.bool true) ∧ Below w.heap.size w w' := by
  obtain ⟨id, hid⟩ : ∃ x, x = text (idL [3, 0, 7]) := ⟨_, rfl⟩
  obtain ⟨id2, hid2⟩ : ∃ x, x = text (idL [97, 98, 99]) := ⟨_, rfl⟩
  have HTb : Hid (∀ W, Below w.heap.size w W → Tab W) := fun W hb => Tab.below hT hb
  have HP1 : Hid (∀ W, Calls Tryd.prog 8 #[.agg (auC none 0)] W fun e w' => ∃ A c, e = .returned (.tuple #[.slice A 3 c, .int .i64 0]) ∧ Hid (RB w' w'.heap.size A [3, 0, 7]) ∧ Hid (3 ≤ c) ∧ Hid (c ≤ 9223372036854775807) ∧ Hid (Below W.heap.size W w')) := fun W => (upput_any awU none 0 W (SS.nil _ _ _) (by decide) (Nat.le_refl _) (by decide) (by decide) (by decide)).mono fun e w' hh => by
    obtain ⟨A, c, q1, q2, q3⟩ := hh
    rw [aw_uout, aw_ucheck] at q1
    rw [aw_uout] at q2
    have q4 := own_cap7 q2.out
    exact ⟨A, c, q1, q4.1, q4.2.1, q4.2.2, q3⟩
  have HG1 : Hid (∀ W A c, RB W W.heap.size A [3, 0, 7] → 3 ≤ c → c ≤ 9223372036854775807 → Calls Tryd.prog 10 #[.slice A 3 c] W fun e w' => ∃ X cc, e = .returned (.tuple #[.agg (auC X cc), .int .i64 0]) ∧ Hid (cc ≤ 9223372036854775807) ∧ Hid (Below W.heap.size W w')) := fun W A c h1 h2 h3 => (upget_known _ _ aw_uget 3 A c W rfl h1 h2 h3 (by decide)).mono fun e w' hh => by
    obtain ⟨X, cc, q1, q2, q3, q4, q5⟩ := hh
    exact ⟨X, cc, q1, q4, q5⟩
  have HGZ : Hid (∀ W A c, RB W W.heap.size A (List.replicate 385 0) → 385 ≤ c → c ≤ 9223372036854775807 → Calls Tryd.prog 10 #[.slice A 385 c] W fun e w' => ∃ X cc, e = .returned (.tuple #[.agg #[.int .i64 0, .slice X 0 cc, .int .i64 0, .string { data := #[] }, .string { data := #[] }, .int .i64 0, .string { data := #[] }], .int .i64 3]) ∧ Hid (Below W.heap.size W w')) := fun W A c h1 h2 h3 => (upget_known _ _ aw_uget385 385 A c W (by rw [List.length_replicate]) h1 h2 h3 (by decide)).mono fun e w' hh => by
    obtain ⟨X, cc, q1, q2, q3, q4, q5⟩ := hh
    refine ⟨X, cc, ?_, q5⟩
    have e3 : errGU (List.replicate 385 0) none = 3 := by unfold errGU; rw [if_pos (by rw [List.length_replicate]; omega)]
    rw [e3] at q1
    exact q1
  have HG4 : Hid (∀ W A c, RB W W.heap.size A [3, 0, 7, 7] → 4 ≤ c → c ≤ 9223372036854775807 → Calls Tryd.prog 10 #[.slice A 4 c] W fun e w' => ∃ X cc, e = .returned (.tuple #[.agg #[.int .i64 0, .slice X 0 cc, .int .i64 0, .string { data := #[] }, .string { data := #[] }, .int .i64 0, .string { data := #[] }], .int .i64 5]) ∧ Hid (Below W.heap.size W w')) := fun W A c h1 h2 h3 => (upget_known _ _ aw_uget4 4 A c W rfl h1 h2 h3 (by decide)).mono fun e w' hh => by
    obtain ⟨X, cc, q1, q2, q3, q4, q5⟩ := hh
    exact ⟨X, cc, q1, q5⟩
  have HO1 : Hid (∀ W, Below w.heap.size w W → Calls Tryd.prog 11 #[.agg (auC none 0)] W fun e w' => ∃ A c, e = .returned (.tuple #[.agg #[.string id, .slice A 3 c], .int .i64 0]) ∧ Hid (RB w' w'.heap.size A [3, 0, 7]) ∧ Hid (Below W.heap.size W w')) := fun W hb => (upof_any awU none 0 W (HTb.out W hb) (SS.nil _ _ _) (by decide) (Nat.le_refl _) (by decide) (by decide) (by decide)).mono fun e w' hh => by
    obtain ⟨A, c, q1, q2, q3⟩ := hh
    rw [aw_uout, aw_ucheck, aw_uidw] at q1
    rw [aw_uout] at q2
    exact ⟨A, c, by rw [hid]; exact q1, q2, q3⟩
  have HP2 : Hid (∀ W, Calls Tryd.prog 8 #[.agg #[.int .i64 256, .slice none 0 0, .int .i64 0, .string { data := #[] }, .string { data := #[] }, .int .i64 0, .string { data := #[] }]] W fun e w' => ∃ A c m, e = .returned (.tuple #[.slice A m c, .int .i64 1]) ∧ Hid (Below W.heap.size W w')) := fun W => (upput_any awU256 none 0 W (SS.nil _ _ _) (by decide) (Nat.le_refl _) (by decide) (by decide) (by decide)).mono fun e w' hh => by
    obtain ⟨A, c, q1, q2, q3⟩ := hh
    rw [aw_c256] at q1
    exact ⟨A, c, _, q1, q3⟩
  have HP9 : Hid (∀ W A c, SS W W.heap.size A (List.replicate 9 []) → 9 ≤ c → c ≤ 9223372036854775807 → Calls Tryd.prog 8 #[.agg #[.int .i64 0, .slice A 9 c, .int .i64 0, .string { data := #[] }, .string { data := #[] }, .int .i64 0, .string { data := #[] }]] W fun e w' => ∃ A c m, e = .returned (.tuple #[.slice A m c, .int .i64 4]) ∧ Hid (Below W.heap.size W w')) := fun W A c h1 h2 h3 => (upput_any awU9 A c W h1 (by decide) h2 h3 (by decide) (by decide)).mono fun e w' hh => by
    obtain ⟨A, c, q1, q2, q3⟩ := hh
    rw [aw_c9] at q1
    exact ⟨A, c, _, q1, q3⟩
  have HI : Hid (∀ W A c, Below w.heap.size w W → RB W W.heap.size A [97, 98, 99] → 3 ≤ c → c ≤ 9223372036854775807 → Calls Tryd.prog 17 #[.slice A 3 c] W fun e w' => ∃ A c, e = .returned (.agg #[.string id2, .slice A 3 c]) ∧ Hid (Below W.heap.size W w')) := fun W A c hb h1 h2 h3 => (upitem_any [97, 98, 99] 3 A c W (HTb.out W hb) rfl h1 h2 h3 (by decide)).mono fun e w' hh => by
    obtain ⟨A, c, q1, q2, q3⟩ := hh
    exact ⟨A, c, by rw [hid2]; exact q1, q3⟩
  have HS : Hid (∀ W X cc, Calls Tryd.prog 14 #[.agg (auC none 0), .agg (auC X cc)] W fun e w' => e = .returned (.bool true) ∧ Below W.heap.size W w') := fun W X cc => by
    have h := rusame_any awU awU none X 0 cc W.heap.size W (SS.nil _ _ _) (SS.nil _ _ _) (Nat.le_refl _) (by decide) (by decide)
    rw [decide_eq_true rfl] at h
    exact h
  have HSm : Hid (∀ W X cc, cc ≤ 9223372036854775807 → Calls Tryd.prog 15 #[.agg (auC none 0), .agg (auC X cc)] W fun e w' => e = .returned (.bool true) ∧ Below W.heap.size W w') := fun W X cc hcc => by
    have h := upsame_any awU awU none X 0 cc W (SS.nil _ _ _) (SS.nil _ _ _) (by decide) (by decide) (Nat.le_refl _) (by decide) (Nat.zero_le _) hcc
    rw [decide_eq_true rfl] at h
    exact h
  have HC : Hid (∀ W, Calls Tryd.prog 13 #[.agg (auC none 0)] W fun e w' => e = .returned (.int .i64 0) ∧ Below W.heap.size W w') := fun W => by
    have h := upcheck_any awU none 0 W (SS.nil _ _ _) (by decide) (Nat.le_refl _) (by decide) (by decide) (by decide)
    rw [aw_ucheck] at h
    exact h
  have HR1 : Hid (∀ W A c, RB W W.heap.size A [3, 0, 7] → Calls Tryd.prog 18 #[.slice A 3 c] W fun e w' => e = .returned (.string id) ∧ Below W.heap.size W w') := fun W A c h => by
    rw [hid]
    exact refID_any [3, 0, 7] A c _ W h 3 rfl (by decide)
  have HR2 : Hid (∀ W A c, RB W W.heap.size A [97, 98, 99] → Calls Tryd.prog 18 #[.slice A 3 c] W fun e w' => e = .returned (.string id2) ∧ Below W.heap.size W w') := fun W A c h => by
    rw [hid2]
    exact refID_any [97, 98, 99] A c _ W h 3 rfl (by decide)
  clear hid hid2 hT
  have HB0 := Lib.hid (show Below w.heap.size w (w.alloc (.cells (auC none 0) 26)) from (Below.refl _ _).alloc (Nat.le_refl _) _)
  have HV0 := Lib.hid (Blk.new w 26 (auC none 0))
  have nb := fun w' => Tryd.updZero w'
  have na := fun a w' => Tryd.updAuth a w'
  have n3 := fun w' => Tryd.updBuild3 w'
  have n1 := fun A n c w' => Tryd.updBuild1 A n c w'
  have n7 := fun w' => Tryd.opBuild7 w'
  have a26 := fun w' => Tryd.updAgg w'
  have s26 := fun w' => Tryd.updSize w'
  have a36 := fun w' => Tryd.itemAgg w'
  have s36 := fun w' => Tryd.itemSize w'
  have hcv : ∀ (W : World) (g n c : Nat) (C : Array Value), g = W.heap.size → (convert 29 29 (.slice (some ⟨g, 0, none⟩) n c)).run Tryd.prog (W.alloc (.cells C 5)) = .ok (.slice (some ⟨g, 0, none⟩) n c) (W.alloc (.cells C 5 (C.size, C.size + 1))) := fun W g n c C h => Joins.run_convert_bytes_const_at W 29 5 C n c g h Tryd.underlying29 Tryd.underlying5
  go_enter Tryd.func7, Tryd.ntmps7
  go_upto_region 3 with (first
    | (go_at_call 8; (with_reducible refine (HP1.out _).mono ?_); rintro e w2 ⟨A2, c2, rfl, r2, l2, m2, b2⟩; have S2 : Hid (AuS w w2 w.heap.size A2) := ⟨HB0.out.trans (b2.out.mono HB0.out.size), HV0.out.below b2.out HV0.out.lt, r2.out⟩))
  obtain ⟨p0, p1, p2, p3, p4, p5, p6⟩ := blk7A S2.out.var
  go_upto_region 4 with (first
    | (go_at_call 10; (with_reducible refine (HG1.out _ _ _ S2.out.rb l2.out m2.out).mono ?_); rintro e w3 ⟨X, cc, rfl, m3, b3⟩; have S3 := Lib.hid ((S2.out.up b3.out).up ((Below.refl _ _).alloc (Nat.le_refl _) (.cells (auC X cc) 26))); have V3 := Lib.hid (Blk.new w3 26 (auC X cc))))
  have B3 := Lib.hid ((S2.out.below.trans (b3.out.mono S2.out.below.size)).alloc (Nat.le_trans S2.out.below.size b3.out.size) (.cells (auC X cc) 26))
  clear p0 p1 p2 p3 p4 p5 p6
  obtain ⟨p0, p1, p2, p3, p4, p5, p6⟩ := blk7A S3.out.var
  go_upto_region 5 with (first
    | (go_at_call 11; (with_reducible refine (HO1.out _ S3.out.below).mono ?_); rintro e w4 ⟨A6, c6, rfl, r6, b4⟩; have T4 : Hid (AuT w (w4.alloc (.cells #[.string id, .slice A6 3 c6] 36)) w.heap.size A2 w3.heap.size X cc w4.heap.size id A6 c6) := ⟨(S3.out.up b4.out).up ((Below.refl _ _).alloc (Nat.le_refl _) _), ((blkUpA V3.out b4.out).alloc _), Blk.new _ _ _, rb_up7 r6.out ((Below.refl _ _).alloc (Nat.le_refl _) _)⟩))
  obtain ⟨V4, hV4⟩ : ∃ x, x = w3.heap.size := ⟨_, rfl⟩
  obtain ⟨V6, hV6⟩ : ∃ x, x = w4.heap.size := ⟨_, rfl⟩
  obtain ⟨w5, hw5⟩ : ∃ x, x = w4.alloc (.cells #[.string id, .slice A6 3 c6] 36) := ⟨_, rfl⟩
  rw [← hV4, ← hV6, ← hw5] at T4
  rw [← hV4, ← hV6, ← hw5]
  clear hV4 hV6 hw5 p0 p1 p2 p3 p4 p5 p6 S2 S3 V3 B3 r2 l2 m2 b2 b3 r6 b4 HB0 HV0 HP1 HG1 HO1
  obtain ⟨i0, hi0, hz0, hz1, hz2⟩ := info_parts Tryd.info5
  have hby : i0.bytes = 1 := hz2
  go_upto_region 6 with (first
    | (at_make; refine wpList_make_full _ rfl _ _ 29 rfl w5.heap.size 5 i0 _ 1 Tryd.underlying29 hi0 hz0 hz1 .i64 .i64 _ _ 385 rfl rfl rfl rfl (by rw [hby]; omega) (by unfold maxLen; omega) (Nat.le_refl _) ?_; intro w6 hown6 hgrow6; have b6 : Below w5.heap.size w5 w6 := (Below.refl _ _).grown hgrow6 (Nat.le_refl _) (by simp); have r6 := made_rb hown6; have T6 := Lib.hid (T4.out.up b6); clear hown6 hgrow6)
    | (go_at_call 10; (with_reducible refine (HGZ.out _ _ _ r6 (Nat.le_refl _) (by omega)).mono ?_); rintro e w7 ⟨X7, cc7, rfl, b7⟩; have T7 := Lib.hid ((T6.out.up b7.out).up ((Below.refl _ _).alloc (Nat.le_refl _) (.cells #[.int .i64 0, .slice X7 0 cc7, .int .i64 0, .string { data := #[] }, .string { data := #[] }, .int .i64 0, .string { data := #[] }] 26)))))
  obtain ⟨W7, hW7⟩ : ∃ x, x = w7.alloc (.cells #[.int .i64 0, .slice X7 0 cc7, .int .i64 0, .string { data := #[] }, .string { data := #[] }, .int .i64 0, .string { data := #[] }] 26) := ⟨_, rfl⟩
  rw [← hW7] at T7 ⊢
  clear hW7 T6 T4 r6 b6 b7 HGZ
  have T8 := Lib.hid (T7.out.up ((Below.refl _ _).alloc (Nat.le_refl _) (.cells #[.int .u8 3, .int .u8 0, .int .u8 7, .int .u8 7] 5)))
  go_upto_region 7 with (first
    | (go_at_call 10; (with_reducible refine (HG4.out _ _ _ (rb_4 W7) (Nat.le_refl _) (by omega)).mono ?_); rintro e w8 ⟨X8, cc8, rfl, b8⟩; have T9 := Lib.hid ((T8.out.up b8.out).up ((Below.refl _ _).alloc (Nat.le_refl _) (.cells #[.int .i64 0, .slice X8 0 cc8, .int .i64 0, .string { data := #[] }, .string { data := #[] }, .int .i64 0, .string { data := #[] }] 26)))))
  obtain ⟨W9, hW9⟩ : ∃ x, x = w8.alloc (.cells #[.int .i64 0, .slice X8 0 cc8, .int .i64 0, .string { data := #[] }, .string { data := #[] }, .int .i64 0, .string { data := #[] }] 26) := ⟨_, rfl⟩
  rw [← hW9] at T9 ⊢
  clear hW9 T8 T7 b8 HG4
  go_upto_region 8 with (first
    | (go_at_call 8; (with_reducible refine (HP2.out _).mono ?_); rintro e w10 ⟨A10, c10, m10, rfl, b10⟩; have T10 := Lib.hid (T9.out.up b10.out)))
  clear T9 b10 HP2
  obtain ⟨j0, hj0, hq0, hq1, hq2⟩ := info_parts Tryd.infoStr
  have hjb : j0.bytes = 16 := hq2
  go_upto_region 9 with (first
    | (at_make; refine wpList_make_full _ rfl _ _ 22 rfl w10.heap.size 9 j0 _ 1 Tryd.underlying22 hj0 hq0 hq1 .i64 .i64 _ _ 9 rfl rfl rfl rfl (by rw [hjb]; omega) (by unfold maxLen; omega) (Nat.le_refl _) ?_; intro w11 hown11 hgrow11; have b11 : Below w10.heap.size w10 w11 := (Below.refl _ _).grown hgrow11 (Nat.le_refl _) (by simp); have r11 := made_ss hown11; have T11 := Lib.hid (T10.out.up b11); clear hown11 hgrow11)
    | (go_at_call 8; (with_reducible refine (HP9.out _ _ _ r11 (Nat.le_refl _) (by omega)).mono ?_); rintro e w12 ⟨A12, c12, m12, rfl, b12⟩; have T12 := Lib.hid (T11.out.up b12.out)))
  clear T11 T10 r11 b11 b12 HP9
  have T13 := Lib.hid (T12.out.up ((Below.refl _ _).alloc (Nat.le_refl _) (.cells #[.int .u8 97, .int .u8 98, .int .u8 99] 5 (3, 4))))
  go_upto_region 10 with (first
    | (go_at_call 17; (with_reducible refine (HI.out _ _ _ T13.out.s.below (rb_abc w12) (Nat.le_refl _) (by omega)).mono ?_); rintro e w14 ⟨A16, c16, rfl, b14⟩; have T14 := Lib.hid ((T13.out.up b14.out).up ((Below.refl _ _).alloc (Nat.le_refl _) (.cells #[.string id2, .slice A16 3 c16] 36))); have K14 := Lib.hid (Blk.new w14 36 #[.string id2, .slice A16 3 c16])))
  obtain ⟨V16, hV16⟩ : ∃ x, x = w14.heap.size := ⟨_, rfl⟩
  obtain ⟨W0, hW0⟩ : ∃ x, x = w14.alloc (.cells #[.string id2, .slice A16 3 c16] 36) := ⟨_, rfl⟩
  rw [← hW0] at T14 K14
  rw [← hV16] at K14
  rw [← hV16, ← hW0]
  clear hV16 hW0 T13 T12 b14 HI
  have P0 : AuV w W0.drew w.heap.size A2 V4 X cc V6 id A6 c6 V16 id2 A16 c16 := AuV.up ⟨T14.out, K14.out⟩ ⟨rfl, rfl, rfl, Nat.le_refl _, fun _ _ => rfl⟩
  have h0 := AuV.held c2 P0
  clear T14 K14
  simp only [List.append]
  go_region_held_law (fun w' => w'.cell? ⟨w.heap.size, 0, none⟩ = some (.int .i64 3) ∧ w'.cell? ⟨w.heap.size, 1, none⟩ = some (.slice none 0 0) ∧ w'.cell? ⟨w.heap.size, 2, none⟩ = some (.int .i64 7) ∧ w'.cell? ⟨w.heap.size, 3, none⟩ = some (.string { data := #[] }) ∧ w'.cell? ⟨w.heap.size, 4, none⟩ = some (.string { data := #[] }) ∧ w'.cell? ⟨w.heap.size, 5, none⟩ = some (.int .i64 0) ∧ w'.cell? ⟨w.heap.size, 6, none⟩ = some (.string { data := #[] }) ∧ w'.cell? ⟨V4, 0, none⟩ = some (.int .i64 3) ∧ w'.cell? ⟨V4, 1, none⟩ = some (.slice X 0 cc) ∧ w'.cell? ⟨V4, 2, none⟩ = some (.int .i64 7) ∧ w'.cell? ⟨V4, 3, none⟩ = some (.string { data := #[] }) ∧ w'.cell? ⟨V4, 4, none⟩ = some (.string { data := #[] }) ∧ w'.cell? ⟨V4, 5, none⟩ = some (.int .i64 0) ∧ w'.cell? ⟨V4, 6, none⟩ = some (.string { data := #[] }) ∧ w'.cell? ⟨V6, 0, none⟩ = some (.string id) ∧ w'.cell? ⟨V6, 1, none⟩ = some (.slice A6 3 c6) ∧ w'.cell? ⟨V16, 0, none⟩ = some (.string id2) ∧ w'.cell? ⟨V16, 1, none⟩ = some (.slice A16 3 c16) ∧ (convert 29 9 (.slice A2 3 c2)).run Tryd.prog w' = .ok (.string { data := #[3, 0, 7] }) w' ∧ (convert 29 9 (.slice A6 3 c6)).run Tryd.prog w' = .ok (.string { data := #[3, 0, 7] }) w')
    (first | exact AuV.held c2 (by assumption) | exact AuV.held c2 (AuV.new (by assumption) _))
    (first
      | (go_at_call 14; (with_reducible refine (HS.out _ _ _).mono ?_); rintro e x1 ⟨rfl, b1⟩; have P1 : AuV w x1 w.heap.size A2 V4 X cc V6 id A6 c6 V16 id2 A16 c16 := AuV.up (by assumption) b1)
      | (go_at_call 18; (with_reducible refine (HR1.out _ _ _ (AuV.t (by assumption) : AuT w _ w.heap.size A2 V4 X cc V6 id A6 c6).s.rb).mono ?_); rintro e x2 ⟨rfl, b2⟩; have P2 : AuV w x2 w.heap.size A2 V4 X cc V6 id A6 c6 V16 id2 A16 c16 := AuV.up (by assumption) b2)
      | (go_at_call 18; (with_reducible refine (HR2.out _ _ _ (rb_abc _)).mono ?_); rintro e x3 ⟨rfl, b3⟩; have P3 : AuV w x3 w.heap.size A2 V4 X cc V6 id A6 c6 V16 id2 A16 c16 := AuV.up (AuV.new (by assumption) _) b3)
      | (go_at_call 15; (with_reducible refine (HSm.out _ _ _ m3.out).mono ?_); rintro e x4 ⟨rfl, b4⟩; have P4 : AuV w x4 w.heap.size A2 V4 X cc V6 id A6 c6 V16 id2 A16 c16 := AuV.up (by assumption) b4)
      | (go_at_call 13; (with_reducible refine (HC.out _).mono ?_); rintro e x5 ⟨rfl, b5⟩; have P5 : AuV w x5 w.heap.size A2 V4 X cc V6 id A6 c6 V16 id2 A16 c16 := AuV.up (by assumption) b5))
  go_wp2
  go_ret
  have PE : AuV w x5 w.heap.size A2 V4 X cc V6 id A6 c6 V16 id2 A16 c16 := by assumption
  exact ⟨rfl, by first | exact PE.t.s.below | exact PE.t.s.below.drew⟩
end Go.Proofs.YtinphkflfdpaeaaDoor
