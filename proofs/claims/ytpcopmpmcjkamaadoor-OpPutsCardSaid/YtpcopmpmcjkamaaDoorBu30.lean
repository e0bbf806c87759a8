/- Lemmas under the proofs of this place: OpAwake. No statement is proved here. -/
import Derived.Test.YtpcopmpmcjkamaaDoorBu29
set_option linter.unusedSimpArgs false
set_option linter.unusedVariables false
set_option maxRecDepth 100000
set_option maxHeartbeats 16000000
namespace Go.Proofs.YtpcopmpmcjkamaaDoor
open Go.RowKit
def awG : List UInt8 := [1, 1, 110, 1, 5, 0, 0, 0, 9]
abbrev awC : Array Value := #[.int .i64 1, .string { data := #[110] }, .string { data := #[] }, .int .i64 (-5), .string { data := #[] }]
structure AwS (w W : World) (V1 : Nat) (A2 : Option Addr) : Prop where
  below : Below w.heap.size w W
  var : Blk W V1 23 awC
  rb : RB W W.heap.size A2 awB
theorem AwS.up {w W W' : World} {V1 : Nat} {A2 : Option Addr} (h : AwS w W V1 A2) (hb : Below W.heap.size W W') : AwS w W' V1 A2 :=
  ⟨h.below.trans (hb.mono h.below.size), h.var.below hb h.var.lt, rb_up7 h.rb hb⟩
theorem blk5 {W : World} {g : Nat} {t : TypeId} {a b c d e : Value} (h : Blk W g t #[a, b, c, d, e]) : W.cell? ⟨g, 0, none⟩ = some a ∧ W.cell? ⟨g, 1, none⟩ = some b ∧ W.cell? ⟨g, 2, none⟩ = some c ∧ W.cell? ⟨g, 3, none⟩ = some d ∧ W.cell? ⟨g, 4, none⟩ = some e :=
  ⟨by rw [h.cell]; rfl, by rw [h.cell]; rfl, by rw [h.cell]; rfl, by rw [h.cell]; rfl, by rw [h.cell]; rfl⟩
theorem pget_known (b : List UInt8) (r : Option (Opn × Nat)) (h : GetsO b r) (n : Nat) (A : Option Addr) (c : Nat) (w : World) (hn : n = b.length) (hr : RB w w.heap.size A b) (hc : n ≤ c) (hcm : c ≤ 9223372036854775807) (hl : n ≤ 1000000) :
    Calls Tryd.prog 10 #[.slice A n c] w fun e w' => e = getE r ∧ Below w.heap.size w w' :=
  (pget_any b n A c w hn hr hc hcm hl).mono fun e w' hh => by
    obtain ⟨⟨s, h1, h2⟩, h3⟩ := hh
    rw [GetsO.one h h1]
    exact ⟨h2, h3⟩
theorem put_none (w : World) : PutSt w (w.alloc (.cells #[] 5)) (some ⟨w.heap.size, 0, none⟩) 0 0 [] :=
  ⟨rfl, World.ownsRow_made w #[] 0 (Nat.le_refl _) (by decide) rfl, (Below.refl _ _).alloc (Nat.le_refl _) _⟩
theorem put_cap {w0 W : World} {A : Option Addr} {q c : Nat} {X : List UInt8} (h : PutSt w0 W A q c X) : RB W W.heap.size A X ∧ q ≤ c ∧ c ≤ 9223372036854775807 := by
  obtain ⟨hq, ho, hb⟩ := h
  subst hq
  exact own_cap7 ho
theorem blk_upO {W W' : World} {g : Nat} {t : TypeId} {cs : Array Value} (h : Blk W g t cs) (hb : Below W.heap.size W W') : Blk W' g t cs := h.below hb h.lt
def AwH (W : World) (V1 v4 : Nat) (A2 : Option Addr) (c2 : Nat) : Prop :=
  W.cell? ⟨V1, 0, none⟩ = some (.int .i64 1) ∧ W.cell? ⟨V1, 1, none⟩ = some (.string { data := #[110] }) ∧ W.cell? ⟨V1, 2, none⟩ = some (.string { data := #[] }) ∧ W.cell? ⟨V1, 3, none⟩ = some (.int .i64 (-5)) ∧ W.cell? ⟨V1, 4, none⟩ = some (.string { data := #[] }) ∧
    W.cell? ⟨v4, 0, none⟩ = some (.int .i64 1) ∧ W.cell? ⟨v4, 1, none⟩ = some (.string { data := #[110] }) ∧ W.cell? ⟨v4, 2, none⟩ = some (.string { data := #[] }) ∧ W.cell? ⟨v4, 3, none⟩ = some (.int .i64 (-5)) ∧ W.cell? ⟨v4, 4, none⟩ = some (.string { data := #[] }) ∧
    (convert 24 9 (.slice A2 8 c2)).run Tryd.prog W = .ok (.string { data := #[1, 1, 110, 1, 5, 0, 0, 0] }) W
theorem aw_held {w W : World} {V1 v4 : Nat} {A2 : Option Addr} (c2 : Nat) (h : AwS w W V1 A2) (h4 : Blk W v4 23 awC) : AwH W V1 v4 A2 c2 := by
  obtain ⟨a0, a1, a2, a3, a4⟩ := blk5 h.var
  obtain ⟨b0, b1, b2, b3, b4⟩ := blk5 h4
  exact ⟨a0, a1, a2, a3, a4, b0, b1, b2, b3, b4, aw_str h.rb 8 c2 rfl⟩
theorem awake14_any (w : World) (hT : TenT w) : Calls Tryd.prog 7 #[] w fun e w' => e = .returned (.bool true) ∧ Below w.heap.size w w' := by
  have HP1 : Hid (∀ W, Calls Tryd.prog 8 #[.agg #[.int .i64 1, .string { data := #[110] }, .string { data := #[] }, .int .i64 (-5), .string { data := #[] }]] W fun e w' => ∃ A c, e = .returned (.tuple #[.slice A 8 c, .int .i64 0]) ∧ Hid (RB w' w'.heap.size A awB) ∧ Below W.heap.size W w') := fun W => (pPut_any awO W (by decide) (by decide)).mono fun e w' hh => by
    unfold PutsO at hh
    rw [aw_may, if_pos rfl, aw_bytes] at hh
    obtain ⟨A, c, q1, q2, q3⟩ := hh
    exact ⟨A, c, q1, own_rb q2, q3⟩
  have HP2 : Hid (∀ W, Calls Tryd.prog 8 #[.agg #[.int .i64 7, .string { data := #[110] }, .string { data := #[] }, .int .i64 0, .string { data := #[] }]] W fun e w' => e = .returned (.tuple #[.slice none 0 0, .int .i64 1]) ∧ Below W.heap.size W w') := fun W => (pPut_any awMn W (by decide) (by decide)).mono fun e w' hh => by
    unfold PutsO at hh
    rw [aw_mayN, if_neg (by simp)] at hh
    exact hh
  have HG1 : Hid (∀ W A q c, q = awG.length → RB W W.heap.size A awG → q ≤ c → c ≤ 9223372036854775807 → Calls Tryd.prog 10 #[.slice A q c] W fun e w' => e = .returned (.tuple #[.agg #[.int .i64 1, .string { data := #[110] }, .string { data := #[] }, .int .i64 (-5), .string { data := #[] }], .int .i64 8, .int .i64 0]) ∧ Below W.heap.size W w') := fun W A q c h1 h2 h3 h4 => pget_known (awB ++ [9]) _ aw_get q A c W h1 h2 h3 h4 (by rw [h1]; decide)
  have HG9 : Hid (∀ W A, RB W W.heap.size A [9] → Calls Tryd.prog 10 #[.slice A 1 1] W fun e w' => e = .returned (.tuple #[.agg #[.int .i64 0, .string { data := #[] }, .string { data := #[] }, .int .i64 0, .string { data := #[] }], .int .i64 0, .int .i64 5]) ∧ Below W.heap.size W w') := fun W A h => pget_known [9] none aw_get9 1 A 1 W rfl h (Nat.le_refl _) (by decide) (by decide)
  have HGN : Hid (∀ W, Calls Tryd.prog 10 #[.slice none 0 0] W fun e w' => e = .returned (.tuple #[.agg #[.int .i64 0, .string { data := #[] }, .string { data := #[] }, .int .i64 0, .string { data := #[] }], .int .i64 0, .int .i64 5]) ∧ Below W.heap.size W w') := fun W => pget_known [] none aw_getN 0 none 0 W rfl (RB.none_ _ _) (Nat.le_refl _) (by decide) (by decide)
  have HS1 : Hid (∀ W, Below w.heap.size w W → Calls Tryd.prog 12 #[.agg #[.int .i64 1, .string { data := #[110] }, .string { data := #[] }, .int .i64 (-5), .string { data := #[] }]] W fun e w' => e = .returned (.string { data := #[99, 111, 117, 110, 116, 32, 110, 32, 45, 53] }) ∧ Below W.heap.size W w') := fun W hb => (pShow_any awO W (hT.up hb) (by decide) (by decide)).mono fun e w' hh => by
    rw [aw_show] at hh
    exact hh
  have HS2 : Hid (∀ W, Below w.heap.size w W → Calls Tryd.prog 12 #[.agg #[.int .i64 5, .string { data := #[108] }, .string { data := #[97, 98] }, .int .i64 0, .string { data := #[] }]] W fun e w' => e = .returned (.string { data := #[105, 110, 115, 101, 114, 116, 32, 108, 32, 35, 54, 49, 54, 50, 32, 35] }) ∧ Below W.heap.size W w') := fun W hb => (pShow_any awI W (hT.up hb) (by decide) (by decide)).mono fun e w' hh => by
    rw [aw_showI] at hh
    exact hh
  have HS3 : Hid (∀ W, Below w.heap.size w W → Calls Tryd.prog 12 #[.agg #[.int .i64 0, .string { data := #[] }, .string { data := #[] }, .int .i64 0, .string { data := #[] }]] W fun e w' => e = .returned (.string { data := #[63] }) ∧ Below W.heap.size W w') := fun W hb => (pShow_any Opn.zero W (hT.up hb) (by decide) (by decide)).mono fun e w' hh => by
    rw [aw_showZ] at hh
    exact hh
  have HN1 : Hid (∀ W, Calls Tryd.prog 15 #[.string { data := #[97, 45, 49] }] W fun e w' => e = .returned (.bool true) ∧ Below W.heap.size W w') := fun W => by
    have := pName_any [97, 45, 49] W (by decide)
    rw [aw_nameY] at this
    exact this
  have HN2 : Hid (∀ W, Calls Tryd.prog 15 #[.string { data := #[65] }] W fun e w' => e = .returned (.bool false) ∧ Below W.heap.size W w') := fun W => by
    have := pName_any [65] W (by decide)
    rw [aw_nameN] at this
    exact this
  have HC1 : Hid (∀ W, Calls Tryd.prog 11 #[.agg #[.int .i64 1, .string { data := #[110] }, .string { data := #[] }, .int .i64 (-5), .string { data := #[] }]] W fun e w' => e = .returned (.int .i64 0) ∧ Below W.heap.size W w') := fun W => by
    have := pCheck_any awO W (by decide) (by decide)
    rw [aw_may] at this
    exact this
  have HC2 : Hid (∀ W, Calls Tryd.prog 11 #[.agg #[.int .i64 7, .string { data := #[] }, .string { data := #[] }, .int .i64 0, .string { data := #[] }]] W fun e w' => e = .returned (.int .i64 0) ∧ Below W.heap.size W w') := fun W => by
    have := pCheck_any awM0 W (by decide) (by decide)
    rw [aw_may0] at this
    exact this
  have HB0 := Lib.hid (show Below w.heap.size w (w.alloc (.cells awC 23)) from (Below.refl _ _).alloc (Nat.le_refl _) _)
  have HV0 := Lib.hid (Blk.new w 23 awC)
  have nb := fun w' => Tryd.opZero w'
  have a23 := fun w' => Tryd.opAgg w'
  have s23 := fun w' => Tryd.opSize w'
  clear hT
  go_enter Tryd.func7, Tryd.ntmps7
  go_upto_region 3 with (first
    | (go_at_call 8; (with_reducible refine (HP1.out _).mono ?_); rintro e w2 ⟨A2, c2, rfl, r2, b2⟩; have S2 : Hid (AwS w w2 w.heap.size A2) := ⟨HB0.out.trans (b2.mono HB0.out.size), HV0.out.below b2 HV0.out.lt, r2.out⟩))
  go_upto_region 4 with (first
    | (at_builtin; refine append_more rfl (.tmp 22) (.tmp 23) rfl rfl (put_none w2) rfl (rb_up7 S2.out.rb ((Below.refl _ _).alloc (Nat.le_refl _) _)) rfl (by decide) ?_; intro A5 q5 c5 w5 h5)
    | (at_builtin; refine append_one rfl (.tmp 24) (.tmp 25) rfl 9 rfl h5.out rfl rfl (by decide) ?_; intro A6 q6 c6 w6 h6 f6; have h6 : Hid (PutSt w2 w6 A6 q6 c6 awG) := h6; have l6 := Lib.hid h6.out.1; have p6 := Lib.hid (put_cap h6.out); have p61 := Lib.hid p6.out.1; have p62 := Lib.hid p6.out.2.1; have p63 := Lib.hid p6.out.2.2; have S6 := Lib.hid (S2.out.up h6.out.2.2))
    | (go_at_call 10; (with_reducible refine (HG1.out _ _ _ _ l6.out p61.out p62.out p63.out).mono ?_); rintro e w7 ⟨rfl, b7⟩; have S7 := Lib.hid (S6.out.up b7)))
  go_upto_region 7 with (first
    | (go_at_call 8; (with_reducible refine (HP2.out _).mono ?_); rintro e w8 ⟨rfl, b8⟩; have S8 := Lib.hid ((S7.out.up ((Below.refl _ _).alloc (Nat.le_refl _) (.cells awC 23))).up b8); have V8 := Lib.hid ((Blk.new w7 23 awC).below b8 (by simp)); have r9 : Hid (RB (w8.alloc (.cells #[.int .u8 9] 5)) (w8.alloc (.cells #[.int .u8 9] 5)).heap.size (some ⟨w8.heap.size, 0, none⟩) [9]) := (show RB (w8.alloc (.cells (cells [9]).toArray 5)) (w8.heap.size + 1) (some ⟨w8.heap.size, 0, none⟩) [9] from rb_new w8 [9]).more (by simp))
    | (go_at_call 10; (with_reducible refine (HG9.out _ _ r9.out).mono ?_); rintro e w9 ⟨rfl, b9⟩; have S9 := Lib.hid ((S8.out.up ((Below.refl _ _).alloc (Nat.le_refl _) (.cells #[.int .u8 9] 5))).up b9); have V9 := Lib.hid ((V8.out.alloc (.cells #[.int .u8 9] 5)).below b9 (V8.out.alloc (.cells #[.int .u8 9] 5)).lt))
    | (go_at_call 10; (with_reducible refine (HGN.out _).mono ?_); rintro e w10 ⟨rfl, b10⟩; have S10 := Lib.hid ((S9.out.up ((Below.refl _ _).alloc (Nat.le_refl _) (.cells #[.int .i64 0, .string { data := #[] }, .string { data := #[] }, .int .i64 0, .string { data := #[] }] 23))).up b10); have V10 := Lib.hid ((V9.out.alloc (.cells #[.int .i64 0, .string { data := #[] }, .string { data := #[] }, .int .i64 0, .string { data := #[] }] 23)).below b10 (V9.out.alloc (.cells #[.int .i64 0, .string { data := #[] }, .string { data := #[] }, .int .i64 0, .string { data := #[] }] 23)).lt)))
  obtain ⟨W0, hW0⟩ : ∃ x, x = w10.alloc (.cells #[.int .i64 0, .string { data := #[] }, .string { data := #[] }, .int .i64 0, .string { data := #[] }] 23) := ⟨_, rfl⟩
  have S0 := Lib.hid (S10.out.up (show Below w10.heap.size w10 W0 from by rw [hW0]; exact (Below.refl _ _).alloc (Nat.le_refl _) _))
  have V0 : Hid (Blk W0 w7.heap.size 23 awC) := by
    show Blk _ _ _ _
    rw [hW0]
    exact V10.out.alloc _
  obtain ⟨v4, hv4⟩ : ∃ x, x = w7.heap.size := ⟨_, rfl⟩
  rw [← hW0, ← hv4]
  rw [← hv4] at V0
  clear hW0 hv4 S10 V10 S9 V9 S8 V8 S7 S6 S2 h6 h5 f6 r9 HB0 HV0 b8 b9 b10 HP1 HP2 HG1 HG9 HGN
  simp only [List.append]
  clear r2 b2 b7 h6 l6 p6 p61 p62 p63
  obtain ⟨a0, a1, a2, a3, a4, e0, e1, e2, e3, e4, est⟩ := aw_held c2 S0.out V0.out
  go_wp2_with (first
      | (go_at_call 11; (with_reducible refine (HC2.out _).mono ?_); rintro e y7 ⟨rfl, d7⟩; have S7 := Lib.hid (S6.out.up d7); have V7 := Lib.hid (blk_upO V6.out d7); clear a0 a1 a2 a3 a4 e0 e1 e2 e3 e4 est; obtain ⟨a0, a1, a2, a3, a4, e0, e1, e2, e3, e4, est⟩ := aw_held c2 S7.out V7.out)
      | (go_at_call 11; (with_reducible refine (HC1.out _).mono ?_); rintro e y6 ⟨rfl, d6⟩; have S6 := Lib.hid (S5.out.up d6); have V6 := Lib.hid (blk_upO V5.out d6); clear a0 a1 a2 a3 a4 e0 e1 e2 e3 e4 est; obtain ⟨a0, a1, a2, a3, a4, e0, e1, e2, e3, e4, est⟩ := aw_held c2 S6.out V6.out)
      | (go_at_call 15; (with_reducible refine (HN2.out _).mono ?_); rintro e y5 ⟨rfl, d5⟩; have S5 := Lib.hid (S4.out.up d5); have V5 := Lib.hid (blk_upO V4.out d5); clear a0 a1 a2 a3 a4 e0 e1 e2 e3 e4 est; obtain ⟨a0, a1, a2, a3, a4, e0, e1, e2, e3, e4, est⟩ := aw_held c2 S5.out V5.out)
      | (go_at_call 15; (with_reducible refine (HN1.out _).mono ?_); rintro e y4 ⟨rfl, d4⟩; have S4 := Lib.hid (S3.out.up d4); have V4 := Lib.hid (blk_upO V3.out d4); clear a0 a1 a2 a3 a4 e0 e1 e2 e3 e4 est; obtain ⟨a0, a1, a2, a3, a4, e0, e1, e2, e3, e4, est⟩ := aw_held c2 S4.out V4.out)
      | (go_at_call 12; (with_reducible refine (HS3.out _ S2.out.below).mono ?_); rintro e y3 ⟨rfl, d3⟩; have S3 := Lib.hid (S2.out.up d3); have V3 := Lib.hid (blk_upO V2.out d3); clear a0 a1 a2 a3 a4 e0 e1 e2 e3 e4 est; obtain ⟨a0, a1, a2, a3, a4, e0, e1, e2, e3, e4, est⟩ := aw_held c2 S3.out V3.out)
      | (go_at_call 12; (with_reducible refine (HS2.out _ S1.out.below).mono ?_); rintro e y2 ⟨rfl, d2⟩; have S2 := Lib.hid (S1.out.up d2); have V2 := Lib.hid (blk_upO V1.out d2); clear a0 a1 a2 a3 a4 e0 e1 e2 e3 e4 est; obtain ⟨a0, a1, a2, a3, a4, e0, e1, e2, e3, e4, est⟩ := aw_held c2 S2.out V2.out)
      | (go_at_call 12; (with_reducible refine (HS1.out _ S0.out.below).mono ?_); rintro e y1 ⟨rfl, d1⟩; have S1 := Lib.hid (S0.out.up d1); have V1 := Lib.hid (blk_upO V0.out d1); clear a0 a1 a2 a3 a4 e0 e1 e2 e3 e4 est; obtain ⟨a0, a1, a2, a3, a4, e0, e1, e2, e3, e4, est⟩ := aw_held c2 S1.out V1.out))
  go_ret
  exact ⟨rfl, by first | exact S7.out.below | exact S7.out.below.drew⟩
end Go.Proofs.YtpcopmpmcjkamaaDoor
