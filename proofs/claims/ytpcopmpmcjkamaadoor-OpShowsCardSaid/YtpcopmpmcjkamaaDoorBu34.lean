/- Lemmas under the proofs of this place: OpShowsA. No statement is proved here. -/
import Derived.Test.YtpcopmpmcjkamaaDoorBu32
import Derived.Deep.RegionHeldLaw
set_option linter.unusedSimpArgs false
set_option linter.unusedVariables false
set_option maxRecDepth 100000
set_option maxHeartbeats 16000000
namespace Go.Proofs.YtpcopmpmcjkamaaDoor
open Go.RowKit
structure ShS (w W : World) (v2 v3 : Nat) (C1 C2 : Array Value) : Prop where
  below : Below w.heap.size w W
  v1 : Blk W v2 23 C1
  v2_ : Blk W v3 23 C2
theorem ShS.up {w W W' : World} {v2 v3 : Nat} {C1 C2 : Array Value} (h : ShS w W v2 v3 C1 C2) (hb : Below W.heap.size W W') : ShS w W' v2 v3 C1 C2 :=
  ⟨h.below.trans (hb.mono h.below.size), h.v1.below hb h.v1.lt, h.v2_.below hb h.v2_.lt⟩
structure ShB (w W : World) (v2 v3 : Nat) (C1 C2 : Array Value) (A1 A2 : Option Addr) (L1 L2 : List UInt8) : Prop where
  s : ShS w W v2 v3 C1 C2
  r1 : RB W W.heap.size A1 L1
  r2 : RB W W.heap.size A2 L2
theorem ShB.up {w W W' : World} {v2 v3 : Nat} {C1 C2 : Array Value} {A1 A2 : Option Addr} {L1 L2 : List UInt8} (h : ShB w W v2 v3 C1 C2 A1 A2 L1 L2) (hb : Below W.heap.size W W') : ShB w W' v2 v3 C1 C2 A1 A2 L1 L2 :=
  ⟨h.s.up hb, rb_up7 h.r1 hb, rb_up7 h.r2 hb⟩
theorem ShB.below {w W : World} {v2 v3 : Nat} {C1 C2 : Array Value} {A1 A2 : Option Addr} {L1 L2 : List UInt8} (h : ShB w W v2 v3 C1 C2 A1 A2 L1 L2) : Below w.heap.size w W := h.s.below
theorem ShS.cells {w W : World} {v2 v3 : Nat} {a0 a1 a2 a3 a4 b0 b1 b2 b3 b4 : Value} (h : ShS w W v2 v3 #[a0, a1, a2, a3, a4] #[b0, b1, b2, b3, b4]) :
    W.cell? ⟨v2, 0, none⟩ = some a0 ∧ W.cell? ⟨v2, 1, none⟩ = some a1 ∧ W.cell? ⟨v2, 2, none⟩ = some a2 ∧ W.cell? ⟨v2, 3, none⟩ = some a3 ∧ W.cell? ⟨v2, 4, none⟩ = some a4 ∧
    W.cell? ⟨v3, 0, none⟩ = some b0 ∧ W.cell? ⟨v3, 1, none⟩ = some b1 ∧ W.cell? ⟨v3, 2, none⟩ = some b2 ∧ W.cell? ⟨v3, 3, none⟩ = some b3 ∧ W.cell? ⟨v3, 4, none⟩ = some b4 := by
  obtain ⟨x0, x1, x2, x3, x4⟩ := blk5 h.v1
  obtain ⟨y0, y1, y2, y3, y4⟩ := blk5 h.v2_
  exact ⟨x0, x1, x2, x3, x4, y0, y1, y2, y3, y4⟩
theorem ShB.held {w W : World} {v2 v3 : Nat} {a0 a1 a2 a3 a4 b0 b1 b2 b3 b4 : Value} {A1 A2 : Option Addr} {L1 L2 : List UInt8} (n1 n2 c1 c2 : Nat) (x1 x2 : ByteArray) (h1 : n1 = L1.length) (h2 : n2 = L2.length) (hx1 : ({ data := L1.toArray } : ByteArray) = x1) (hx2 : ({ data := L2.toArray } : ByteArray) = x2) (h : ShB w W v2 v3 #[a0, a1, a2, a3, a4] #[b0, b1, b2, b3, b4] A1 A2 L1 L2) :
    W.cell? ⟨v2, 0, none⟩ = some a0 ∧ W.cell? ⟨v2, 1, none⟩ = some a1 ∧ W.cell? ⟨v2, 2, none⟩ = some a2 ∧ W.cell? ⟨v2, 3, none⟩ = some a3 ∧ W.cell? ⟨v2, 4, none⟩ = some a4 ∧
    W.cell? ⟨v3, 0, none⟩ = some b0 ∧ W.cell? ⟨v3, 1, none⟩ = some b1 ∧ W.cell? ⟨v3, 2, none⟩ = some b2 ∧ W.cell? ⟨v3, 3, none⟩ = some b3 ∧ W.cell? ⟨v3, 4, none⟩ = some b4 ∧
    (convert 24 9 (.slice A1 n1 c1)).run Tryd.prog W = .ok (.string x1) W ∧ (convert 24 9 (.slice A2 n2 c2)).run Tryd.prog W = .ok (.string x2) W := by
  obtain ⟨p0, p1, p2, p3, p4, q0, q1, q2, q3, q4⟩ := h.s.cells
  subst hx1 hx2
  exact ⟨p0, p1, p2, p3, p4, q0, q1, q2, q3, q4, aw_str h.r1 n1 c1 h1, aw_str h.r2 n2 c2 h2⟩
theorem eq_ops (a b : Opn) (W : World) (bo : Bool) (h : bo = decide (a = b)) : (binOp .eql 23 (opV a) (opV b)).run Tryd.prog W = .ok (.bool bo) W := by
  obtain ⟨k, nm, tx, z, at_⟩ := a
  obtain ⟨j, um, ux, y, ut⟩ := b
  obtain ⟨t1, h1⟩ : ∃ t, t = text nm := ⟨_, rfl⟩
  obtain ⟨t2, h2⟩ : ∃ t, t = text tx := ⟨_, rfl⟩
  obtain ⟨t3, h3⟩ : ∃ t, t = text at_ := ⟨_, rfl⟩
  obtain ⟨u1, g1⟩ : ∃ t, t = text um := ⟨_, rfl⟩
  obtain ⟨u2, g2⟩ : ∃ t, t = text ux := ⟨_, rfl⟩
  obtain ⟨u3, g3⟩ : ∃ t, t = text ut := ⟨_, rfl⟩
  show (binOp .eql 23 (.agg #[.int .i64 k, .string (text nm), .string (text tx), .int .i64 z, .string (text at_)]) (.agg #[.int .i64 j, .string (text um), .string (text ux), .int .i64 y, .string (text ut)])).run Tryd.prog W = _
  rw [← h1, ← h2, ← h3, ← g1, ← g2, ← g3]
  have H := Lib.hid h
  clear h
  simp [go_sem]
  have l1 : t1.toList = nm := by rw [h1]; exact text_toList nm
  have l2 : t2.toList = tx := by rw [h2]; exact text_toList tx
  have l3 : t3.toList = at_ := by rw [h3]; exact text_toList at_
  have m1 : u1.toList = um := by rw [g1]; exact text_toList um
  have m2 : u2.toList = ux := by rw [g2]; exact text_toList ux
  have m3 : u3.toList = ut := by rw [g3]; exact text_toList ut
  rw [l1, l2, l3, m1, m2, m3, H.out]
  by_cases c0 : k = j
  · by_cases c1 : nm = um
    · by_cases c2 : tx = ux
      · by_cases c3 : z = y
        · by_cases c4 : at_ = ut
          · rw [if_pos c0, if_pos c1, if_pos c2, if_pos c3, if_pos c4, decide_eq_true (by rw [c0, c1, c2, c3, c4])]
          · rw [if_pos c0, if_pos c1, if_pos c2, if_pos c3, if_neg c4, decide_eq_false (fun e => c4 (congrArg Opn.at_ e))]
        · rw [if_pos c0, if_pos c1, if_pos c2, if_neg c3, decide_eq_false (fun e => c3 (congrArg Opn.n e))]
      · rw [if_pos c0, if_pos c1, if_neg c2, decide_eq_false (fun e => c2 (congrArg Opn.text e))]
    · rw [if_pos c0, if_neg c1, decide_eq_false (fun e => c1 (congrArg Opn.name e))]
  · rw [if_neg c0, decide_eq_false (fun e => c0 (congrArg Opn.kind e))]
theorem opshows_any (a b : Opn) (w : World) (hT : TenT w) :
    Calls Tryd.prog 5 #[opV a, opV b] w fun e w' => e = .returned (.bool true) ∧ Below w.heap.size w w' := by
  have HAw : Hid (∀ W, Below w.heap.size w W → Calls Tryd.prog 7 #[] W fun e w' => e = .returned (.bool true) ∧ Below W.heap.size W w') := fun W hb => awake14_any W (hT.up hb)
  obtain ⟨la, hla⟩ : ∃ x, x = (decide (300 < a.name.length) || decide (300 < a.text.length) || decide (300 < a.at_.length)) := ⟨_, rfl⟩
  obtain ⟨lb, hlb⟩ : ∃ x, x = (decide (300 < b.name.length) || decide (300 < b.text.length) || decide (300 < b.at_.length)) := ⟨_, rfl⟩
  have HLa : Hid (∀ W, Calls Tryd.prog 6 #[opV a] W fun e w' => e = .returned (.bool la) ∧ Below W.heap.size W w') := fun W => by rw [hla]; exact large_any a W
  have HLb : Hid (∀ W, Calls Tryd.prog 6 #[opV b] W fun e w' => e = .returned (.bool lb) ∧ Below W.heap.size W w') := fun W => by rw [hlb]; exact large_any b W
  have FA : la = false → a.name.length ≤ 300 ∧ a.text.length ≤ 300 := fun h => by
    rw [h] at hla
    have h2 := hla.symm
    simp only [Bool.or_eq_false_iff, decide_eq_false_iff_not] at h2
    omega
  have FB : lb = false → b.name.length ≤ 300 ∧ b.text.length ≤ 300 := fun h => by
    rw [h] at hlb
    have h2 := hlb.symm
    simp only [Bool.or_eq_false_iff, decide_eq_false_iff_not] at h2
    omega
  obtain ⟨ma, hma⟩ : ∃ x, x = a.mayB := ⟨_, rfl⟩
  obtain ⟨mb, hmb⟩ : ∃ x, x = b.mayB := ⟨_, rfl⟩
  have HCa : Hid (la = false → ∀ W, Calls Tryd.prog 17 #[opV a] W fun e w' => e = .returned (.bool ma) ∧ Below W.heap.size W w') := fun h W => by have := FA h; rw [hma]; exact refCheck_any a W (by omega)
  have HCb : Hid (lb = false → ∀ W, Calls Tryd.prog 17 #[opV b] W fun e w' => e = .returned (.bool mb) ∧ Below W.heap.size W w') := fun h W => by have := FB h; rw [hmb]; exact refCheck_any b W (by omega)
  obtain ⟨bo, hbo⟩ : ∃ x, x = decide (a = b) := ⟨_, rfl⟩
  obtain ⟨n1, hn1⟩ : ∃ x, x = a.bytes.length := ⟨_, rfl⟩
  obtain ⟨n2, hn2⟩ : ∃ x, x = b.bytes.length := ⟨_, rfl⟩
  obtain ⟨L1, hL1⟩ : ∃ x, x = a.bytes := ⟨_, rfl⟩
  obtain ⟨L2, hL2⟩ : ∃ x, x = b.bytes := ⟨_, rfl⟩
  have HPa : Hid (la = false → ma = true → ∀ W, Calls Tryd.prog 8 #[opV a] W fun e w' => ∃ A c, e = .returned (.tuple #[.slice A n1 c, .int .i64 0]) ∧ Hid (RB w' w'.heap.size A L1) ∧ Below W.heap.size W w') := fun h h2 W => by
    have := FA h
    rw [hma] at h2
    refine (pPut_any a W (by omega) (by omega)).mono fun e w' hh => ?_
    unfold PutsO at hh
    rw [h2, if_pos rfl] at hh
    obtain ⟨A, c, q1, q2, q3⟩ := hh
    exact ⟨A, c, by rw [hn1]; exact q1, by rw [hL1]; exact own_rb q2, q3⟩
  have HPb : Hid (lb = false → mb = true → ∀ W, Calls Tryd.prog 8 #[opV b] W fun e w' => ∃ A c, e = .returned (.tuple #[.slice A n2 c, .int .i64 0]) ∧ Hid (RB w' w'.heap.size A L2) ∧ Below W.heap.size W w') := fun h h2 W => by
    have := FB h
    rw [hmb] at h2
    refine (pPut_any b W (by omega) (by omega)).mono fun e w' hh => ?_
    unfold PutsO at hh
    rw [h2, if_pos rfl] at hh
    obtain ⟨A, c, q1, q2, q3⟩ := hh
    exact ⟨A, c, by rw [hn2]; exact q1, by rw [hL2]; exact own_rb q2, q3⟩
  obtain ⟨sa, hsa⟩ : ∃ x, x = text (showL a) := ⟨_, rfl⟩
  obtain ⟨sc, hsc⟩ : ∃ x, x = text (showL b) := ⟨_, rfl⟩
  have HSa : Hid (la = false → ∀ W, Below w.heap.size w W → Calls Tryd.prog 12 #[opV a] W fun e w' => e = .returned (.string sa) ∧ Below W.heap.size W w') := fun h W hb => by have := FA h; rw [hsa]; exact pShow_any a W (hT.up hb) (by omega) (by omega)
  have HSb : Hid (lb = false → ∀ W, Below w.heap.size w W → Calls Tryd.prog 12 #[opV b] W fun e w' => e = .returned (.string sc) ∧ Below W.heap.size W w') := fun h W hb => by have := FB h; rw [hsc]; exact pShow_any b W (hT.up hb) (by omega) (by omega)
  obtain ⟨x1, hx1⟩ : ∃ x : ByteArray, ({ data := L1.toArray } : ByteArray) = x := ⟨_, rfl⟩
  obtain ⟨x2, hx2⟩ : ∃ x : ByteArray, ({ data := L2.toArray } : ByteArray) = x := ⟨_, rfl⟩
  have HEs : Hid (ma = true → mb = true → (sa.toList == sc.toList) = bo) := fun h1 h2 => by
    rw [hsa, hsc, hbo, text_toList, text_toList, Bool.eq_iff_iff, beq_iff_eq, decide_eq_true_eq]
    exact ⟨fun h => showL_inj (hma ▸ h1) (hmb ▸ h2) h, fun h => by rw [h]⟩
  have HEx : Hid (ma = true → mb = true → (x1.toList == x2.toList) = bo) := fun h1 h2 => by
    rw [← hx1, ← hx2, hbo, hL1, hL2]
    have e1 : ({ data := a.bytes.toArray } : ByteArray).toList = a.bytes := text_toList _
    have e2 : ({ data := b.bytes.toArray } : ByteArray).toList = b.bytes := text_toList _
    rw [e1, e2, Bool.eq_iff_iff, beq_iff_eq, decide_eq_true_eq]
    exact ⟨fun h => bytes_inj ((mayB_iff a).1 (hma ▸ h1)) ((mayB_iff b).1 (hmb ▸ h2)) h, fun h => by rw [h]⟩
  have heq : ∀ W, (binOp .eql 23 (opV a) (opV b)).run Tryd.prog W = .ok (.bool bo) W := fun W => eq_ops a b W bo hbo
  have HQ1 : Hid (n1 = L1.length) := by show _ = _; rw [hn1, hL1]
  have HQ2 : Hid (n2 = L2.length) := by show _ = _; rw [hn2, hL2]
  have HX1 := Lib.hid hx1
  have HX2 := Lib.hid hx2
  clear hla hlb hma hmb hbo hn1 hn2 hL1 hL2 hsa hsc hx1 hx2 FA FB hT
  obtain ⟨k, nm, tx, z, at_⟩ := a
  obtain ⟨j, um, ux, y, ut⟩ := b
  obtain ⟨t1, h1⟩ : ∃ t, t = text nm := ⟨_, rfl⟩
  obtain ⟨t2, h2⟩ : ∃ t, t = text tx := ⟨_, rfl⟩
  obtain ⟨t3, h3⟩ : ∃ t, t = text at_ := ⟨_, rfl⟩
  obtain ⟨u1, g1⟩ : ∃ t, t = text um := ⟨_, rfl⟩
  obtain ⟨u2, g2⟩ : ∃ t, t = text ux := ⟨_, rfl⟩
  obtain ⟨u3, g3⟩ : ∃ t, t = text ut := ⟨_, rfl⟩
  have eA : opV ⟨k, nm, tx, z, at_⟩ = .agg #[.int .i64 k, .string t1, .string t2, .int .i64 z, .string t3] := by rw [h1, h2, h3]; rfl
  have eB : opV ⟨j, um, ux, y, ut⟩ = .agg #[.int .i64 j, .string u1, .string u2, .int .i64 y, .string u3] := by rw [g1, g2, g3]; rfl
  rw [eA, eB] at heq ⊢
  rw [eA] at HLa HCa HPa HSa
  rw [eB] at HLb HCb HPb HSb
  clear h1 h2 h3 g1 g2 g3 eA eB
  have hS0 : Hid (ShS w ((w.alloc (.cells #[.int .i64 k, .string t1, .string t2, .int .i64 z, .string t3] 23)).alloc (.cells #[.int .i64 j, .string u1, .string u2, .int .i64 y, .string u3] 23)) w.heap.size (w.heap.size + 1) #[.int .i64 k, .string t1, .string t2, .int .i64 z, .string t3] #[.int .i64 j, .string u1, .string u2, .int .i64 y, .string u3]) := by
    refine ⟨((Below.refl _ _).alloc (Nat.le_refl _) _).alloc (by simp) _, (Blk.new _ _ _).alloc _, ?_⟩
    have h := Blk.new (w.alloc (.cells #[.int .i64 k, .string t1, .string t2, .int .i64 z, .string t3] 23)) 23 #[.int .i64 j, .string u1, .string u2, .int .i64 y, .string u3]
    rwa [show (w.alloc (.cells #[.int .i64 k, .string t1, .string t2, .int .i64 z, .string t3] 23)).heap.size = w.heap.size + 1 by simp] at h
  have a23 := fun w' => Tryd.opAgg w'
  have s23 := fun w' => Tryd.opSize w'
  cases la with
  | true =>
    have hc0 := hS0.out.cells
    obtain ⟨p0, p1, p2, p3, p4, q0, q1, q2, q3, q4⟩ := hc0
    clear HPa HPb HSa HSb HEs HEx heq HQ1 HQ2 HX1 HX2
    go_enter Tryd.func5, Tryd.ntmps5
    go_wp2_with (first
      | (go_at_call 7; (with_reducible refine (HAw.out _ S1.out.below).mono ?_); rintro e w9 ⟨rfl, b9⟩)
      | (go_at_call 6; (with_reducible refine (HLa.out _).mono ?_); rintro e w1 ⟨rfl, b1⟩; have S1 := Lib.hid (hS0.out.up b1); (try clear p0 p1 p2 p3 p4 q0 q1 q2 q3 q4); obtain ⟨p0, p1, p2, p3, p4, q0, q1, q2, q3, q4⟩ := S1.out.cells))
    go_ret
    exact ⟨rfl, S1.out.below.trans (b9.mono S1.out.below.size)⟩
  | false =>
    have HCa1 := Lib.hid (HCa.out rfl)
    cases lb with
    | true =>
      have hc0 := hS0.out.cells
      obtain ⟨p0, p1, p2, p3, p4, q0, q1, q2, q3, q4⟩ := hc0
      clear HPa HPb HSa HSb HEs HEx heq HQ1 HQ2 HX1 HX2
      go_enter Tryd.func5, Tryd.ntmps5
      go_wp2_with (first
        | (go_at_call 7; (with_reducible refine (HAw.out _ S2.out.below).mono ?_); rintro e w9 ⟨rfl, b9⟩)
        | (go_at_call 6; (with_reducible refine (HLb.out _).mono ?_); rintro e w2 ⟨rfl, b2⟩; have S2 := Lib.hid (S1.out.up b2); (try clear p0 p1 p2 p3 p4 q0 q1 q2 q3 q4); obtain ⟨p0, p1, p2, p3, p4, q0, q1, q2, q3, q4⟩ := S2.out.cells)
        | (go_at_call 6; (with_reducible refine (HLa.out _).mono ?_); rintro e w1 ⟨rfl, b1⟩; have S1 := Lib.hid (hS0.out.up b1); (try clear p0 p1 p2 p3 p4 q0 q1 q2 q3 q4); obtain ⟨p0, p1, p2, p3, p4, q0, q1, q2, q3, q4⟩ := S1.out.cells))
      go_ret
      exact ⟨rfl, S2.out.below.trans (b9.mono S2.out.below.size)⟩
    | false =>
      have HCb1 := Lib.hid (HCb.out rfl)
      cases ma with
      | false =>
        have hc0 := hS0.out.cells
        obtain ⟨p0, p1, p2, p3, p4, q0, q1, q2, q3, q4⟩ := hc0
        clear HPa HPb HSa HSb HEs HEx heq HQ1 HQ2 HX1 HX2
        go_enter Tryd.func5, Tryd.ntmps5
        go_wp2_with (first
          | (go_at_call 7; (with_reducible refine (HAw.out _ S3.out.below).mono ?_); rintro e w9 ⟨rfl, b9⟩)
          | (go_at_call 17; (with_reducible refine (HCa1.out _).mono ?_); rintro e w3 ⟨rfl, b3⟩; have S3 := Lib.hid (S2.out.up b3); (try clear p0 p1 p2 p3 p4 q0 q1 q2 q3 q4); obtain ⟨p0, p1, p2, p3, p4, q0, q1, q2, q3, q4⟩ := S3.out.cells)
          | (go_at_call 6; (with_reducible refine (HLb.out _).mono ?_); rintro e w2 ⟨rfl, b2⟩; have S2 := Lib.hid (S1.out.up b2); (try clear p0 p1 p2 p3 p4 q0 q1 q2 q3 q4); obtain ⟨p0, p1, p2, p3, p4, q0, q1, q2, q3, q4⟩ := S2.out.cells)
          | (go_at_call 6; (with_reducible refine (HLa.out _).mono ?_); rintro e w1 ⟨rfl, b1⟩; have S1 := Lib.hid (hS0.out.up b1); (try clear p0 p1 p2 p3 p4 q0 q1 q2 q3 q4); obtain ⟨p0, p1, p2, p3, p4, q0, q1, q2, q3, q4⟩ := S1.out.cells))
        go_ret
        exact ⟨rfl, S3.out.below.trans (b9.mono S3.out.below.size)⟩
      | true =>
        cases mb with
        | false =>
          have hc0 := hS0.out.cells
          obtain ⟨p0, p1, p2, p3, p4, q0, q1, q2, q3, q4⟩ := hc0
          clear HPa HPb HSa HSb HEs HEx heq HQ1 HQ2 HX1 HX2
          go_enter Tryd.func5, Tryd.ntmps5
          go_wp2_with (first
            | (go_at_call 7; (with_reducible refine (HAw.out _ S4.out.below).mono ?_); rintro e w9 ⟨rfl, b9⟩)
            | (go_at_call 17; (with_reducible refine (HCb1.out _).mono ?_); rintro e w4 ⟨rfl, b4⟩; have S4 := Lib.hid (S3.out.up b4); (try clear p0 p1 p2 p3 p4 q0 q1 q2 q3 q4); obtain ⟨p0, p1, p2, p3, p4, q0, q1, q2, q3, q4⟩ := S4.out.cells)
            | (go_at_call 17; (with_reducible refine (HCa1.out _).mono ?_); rintro e w3 ⟨rfl, b3⟩; have S3 := Lib.hid (S2.out.up b3); (try clear p0 p1 p2 p3 p4 q0 q1 q2 q3 q4); obtain ⟨p0, p1, p2, p3, p4, q0, q1, q2, q3, q4⟩ := S3.out.cells)
            | (go_at_call 6; (with_reducible refine (HLb.out _).mono ?_); rintro e w2 ⟨rfl, b2⟩; have S2 := Lib.hid (S1.out.up b2); (try clear p0 p1 p2 p3 p4 q0 q1 q2 q3 q4); obtain ⟨p0, p1, p2, p3, p4, q0, q1, q2, q3, q4⟩ := S2.out.cells)
            | (go_at_call 6; (with_reducible refine (HLa.out _).mono ?_); rintro e w1 ⟨rfl, b1⟩; have S1 := Lib.hid (hS0.out.up b1); (try clear p0 p1 p2 p3 p4 q0 q1 q2 q3 q4); obtain ⟨p0, p1, p2, p3, p4, q0, q1, q2, q3, q4⟩ := S1.out.cells))
          go_ret
          exact ⟨rfl, S4.out.below.trans (b9.mono S4.out.below.size)⟩
        | true =>
          have HPa1 := Lib.hid (HPa.out rfl rfl)
          have HPb1 := Lib.hid (HPb.out rfl rfl)
          have HSa1 := Lib.hid (HSa.out rfl)
          have HSb1 := Lib.hid (HSb.out rfl)
          have es := HEs.out rfl rfl
          have ex := HEx.out rfl rfl
          clear HPa HPb HSa HSb HEs HEx HCa HCb
          obtain ⟨p0, p1, p2, p3, p4, q0, q1, q2, q3, q4⟩ := hS0.out.cells
          go_enter Tryd.func5, Tryd.ntmps5
          go_upto_region 5 with (first
            | (go_at_call 8; (with_reducible refine (HPb1.out _).mono ?_); rintro e w6 ⟨A2, c2, rfl, r2, b6⟩; have S6 : Hid (ShB w w6 w.heap.size (w.heap.size + 1) #[.int .i64 k, .string t1, .string t2, .int .i64 z, .string t3] #[.int .i64 j, .string u1, .string u2, .int .i64 y, .string u3] A1 A2 L1 L2) := ⟨S5.out.up b6, rb_up7 r1.out b6, r2.out⟩)
            | (go_at_call 8; (with_reducible refine (HPa1.out _).mono ?_); rintro e w5 ⟨A1, c1, rfl, r1, b5⟩; have S5 := Lib.hid (S4.out.up b5); (try clear p0 p1 p2 p3 p4 q0 q1 q2 q3 q4); obtain ⟨p0, p1, p2, p3, p4, q0, q1, q2, q3, q4⟩ := S5.out.cells)
            | (go_at_call 17; (with_reducible refine (HCb1.out _).mono ?_); rintro e w4 ⟨rfl, b4⟩; have S4 := Lib.hid (S3.out.up b4); (try clear p0 p1 p2 p3 p4 q0 q1 q2 q3 q4); obtain ⟨p0, p1, p2, p3, p4, q0, q1, q2, q3, q4⟩ := S4.out.cells)
            | (go_at_call 17; (with_reducible refine (HCa1.out _).mono ?_); rintro e w3 ⟨rfl, b3⟩; have S3 := Lib.hid (S2.out.up b3); (try clear p0 p1 p2 p3 p4 q0 q1 q2 q3 q4); obtain ⟨p0, p1, p2, p3, p4, q0, q1, q2, q3, q4⟩ := S3.out.cells)
            | (go_at_call 6; (with_reducible refine (HLb.out _).mono ?_); rintro e w2 ⟨rfl, b2⟩; have S2 := Lib.hid (S1.out.up b2); (try clear p0 p1 p2 p3 p4 q0 q1 q2 q3 q4); obtain ⟨p0, p1, p2, p3, p4, q0, q1, q2, q3, q4⟩ := S2.out.cells)
            | (go_at_call 6; (with_reducible refine (HLa.out _).mono ?_); rintro e w1 ⟨rfl, b1⟩; have S1 := Lib.hid (hS0.out.up b1); (try clear p0 p1 p2 p3 p4 q0 q1 q2 q3 q4); obtain ⟨p0, p1, p2, p3, p4, q0, q1, q2, q3, q4⟩ := S1.out.cells))
          clear p0 p1 p2 p3 p4 q0 q1 q2 q3 q4
          have P0 : ShB w w6.drew w.heap.size (w.heap.size + 1) #[.int .i64 k, .string t1, .string t2, .int .i64 z, .string t3] #[.int .i64 j, .string u1, .string u2, .int .i64 y, .string u3] A1 A2 L1 L2 := S6.out.up ⟨rfl, rfl, rfl, Nat.le_refl _, fun _ _ => rfl⟩
          have h0 := ShB.held n1 n2 c1 c2 x1 x2 HQ1.out HQ2.out HX1.out HX2.out P0
          clear S6 S5 S4 S3 S2 S1 hS0 r1 r2 b1 b2 b3 b4 b5 b6
          cases bo
          all_goals
            go_region_held_law (fun w' => w'.cell? ⟨w.heap.size, 0, none⟩ = some (.int .i64 k) ∧ w'.cell? ⟨w.heap.size, 1, none⟩ = some (.string t1) ∧ w'.cell? ⟨w.heap.size, 2, none⟩ = some (.string t2) ∧ w'.cell? ⟨w.heap.size, 3, none⟩ = some (.int .i64 z) ∧ w'.cell? ⟨w.heap.size, 4, none⟩ = some (.string t3) ∧ w'.cell? ⟨w.heap.size + 1, 0, none⟩ = some (.int .i64 j) ∧ w'.cell? ⟨w.heap.size + 1, 1, none⟩ = some (.string u1) ∧ w'.cell? ⟨w.heap.size + 1, 2, none⟩ = some (.string u2) ∧ w'.cell? ⟨w.heap.size + 1, 3, none⟩ = some (.int .i64 y) ∧ w'.cell? ⟨w.heap.size + 1, 4, none⟩ = some (.string u3) ∧ (convert 24 9 (.slice A1 n1 c1)).run Tryd.prog w' = .ok (.string x1) w' ∧ (convert 24 9 (.slice A2 n2 c2)).run Tryd.prog w' = .ok (.string x2) w')
              (exact ShB.held n1 n2 c1 c2 x1 x2 HQ1.out HQ2.out HX1.out HX2.out (by assumption))
              (first
                | (go_at_call 12; (with_reducible refine (HSa1.out _ (ShB.below (v2 := w.heap.size) (v3 := w.heap.size + 1) (C1 := #[.int .i64 k, .string t1, .string t2, .int .i64 z, .string t3]) (C2 := #[.int .i64 j, .string u1, .string u2, .int .i64 y, .string u3]) (A1 := A1) (A2 := A2) (L1 := L1) (L2 := L2) (by assumption))).mono ?_); rintro e y11 ⟨rfl, d11⟩; have P11 : ShB w y11 w.heap.size (w.heap.size + 1) #[.int .i64 k, .string t1, .string t2, .int .i64 z, .string t3] #[.int .i64 j, .string u1, .string u2, .int .i64 y, .string u3] A1 A2 L1 L2 := ShB.up (by assumption) d11)
                | (go_at_call 12; (with_reducible refine (HSb1.out _ (ShB.below (v2 := w.heap.size) (v3 := w.heap.size + 1) (C1 := #[.int .i64 k, .string t1, .string t2, .int .i64 z, .string t3]) (C2 := #[.int .i64 j, .string u1, .string u2, .int .i64 y, .string u3]) (A1 := A1) (A2 := A2) (L1 := L1) (L2 := L2) (by assumption))).mono ?_); rintro e y12 ⟨rfl, d12⟩; have P12 : ShB w y12 w.heap.size (w.heap.size + 1) #[.int .i64 k, .string t1, .string t2, .int .i64 z, .string t3] #[.int .i64 j, .string u1, .string u2, .int .i64 y, .string u3] A1 A2 L1 L2 := ShB.up (by assumption) d12)
                | (go_at_call 7; (with_reducible refine (HAw.out _ (ShB.below (v2 := w.heap.size) (v3 := w.heap.size + 1) (C1 := #[.int .i64 k, .string t1, .string t2, .int .i64 z, .string t3]) (C2 := #[.int .i64 j, .string u1, .string u2, .int .i64 y, .string u3]) (A1 := A1) (A2 := A2) (L1 := L1) (L2 := L2) (by assumption))).mono ?_); rintro e y13 ⟨rfl, d13⟩; have P13 : ShB w y13 w.heap.size (w.heap.size + 1) #[.int .i64 k, .string t1, .string t2, .int .i64 z, .string t3] #[.int .i64 j, .string u1, .string u2, .int .i64 y, .string u3] A1 A2 L1 L2 := ShB.up (by assumption) d13))
            go_wp2
            go_ret
            exact ⟨rfl, by first | exact ShB.below (by assumption) | exact (ShB.below (by assumption)).drew⟩
end Go.Proofs.YtpcopmpmcjkamaaDoor
