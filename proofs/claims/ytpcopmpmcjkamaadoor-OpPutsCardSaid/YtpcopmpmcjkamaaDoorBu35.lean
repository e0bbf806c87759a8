/- Lemmas under the proofs of this place: OpPutsA. No statement is proved here. -/
import Derived.Test.YtpcopmpmcjkamaaDoorBu32
import Derived.Deep.RegionHeldLaw
set_option linter.unusedSimpArgs false
set_option linter.unusedVariables false
set_option maxRecDepth 100000
set_option maxHeartbeats 16000000
namespace Go.Proofs.YtpcopmpmcjkamaaDoor
open Go.RowKit
structure PuS (w W : World) (V1 v9 : Nat) (C1 C9 : Array Value) (A1 A2 : Option Addr) (L : List UInt8) : Prop where
  below : Below w.heap.size w W
  var : Blk W V1 23 C1
  xv : Blk W v9 23 C9
  r1 : RB W W.heap.size A1 L
  r2 : RB W W.heap.size A2 L
theorem PuS.up {w W W' : World} {V1 v9 : Nat} {C1 C9 : Array Value} {A1 A2 : Option Addr} {L : List UInt8} (h : PuS w W V1 v9 C1 C9 A1 A2 L) (hb : Below W.heap.size W W') : PuS w W' V1 v9 C1 C9 A1 A2 L :=
  ⟨h.below.trans (hb.mono h.below.size), h.var.below hb h.var.lt, h.xv.below hb h.xv.lt, rb_up7 h.r1 hb, rb_up7 h.r2 hb⟩
theorem PuS.held {w W : World} {V1 v9 : Nat} {a0 a1 a2 a3 a4 e0 e1 e2 e3 e4 : Value} {A1 A2 : Option Addr} {L : List UInt8} (n c1 c2 : Nat) (st : ByteArray) (hn : n = L.length) (hst : ({ data := L.toArray } : ByteArray) = st) (h : PuS w W V1 v9 #[a0, a1, a2, a3, a4] #[e0, e1, e2, e3, e4] A1 A2 L) :
    W.cell? ⟨V1, 0, none⟩ = some a0 ∧ W.cell? ⟨V1, 1, none⟩ = some a1 ∧ W.cell? ⟨V1, 2, none⟩ = some a2 ∧ W.cell? ⟨V1, 3, none⟩ = some a3 ∧ W.cell? ⟨V1, 4, none⟩ = some a4 ∧
    W.cell? ⟨v9, 0, none⟩ = some e0 ∧ W.cell? ⟨v9, 1, none⟩ = some e1 ∧ W.cell? ⟨v9, 2, none⟩ = some e2 ∧ W.cell? ⟨v9, 3, none⟩ = some e3 ∧ W.cell? ⟨v9, 4, none⟩ = some e4 ∧
    (convert 24 9 (.slice A1 n c1)).run Tryd.prog W = .ok (.string st) W ∧ (convert 24 9 (.slice A2 n c2)).run Tryd.prog W = .ok (.string st) W := by
  obtain ⟨x0, x1, x2, x3, x4⟩ := blk5 h.var
  obtain ⟨y0, y1, y2, y3, y4⟩ := blk5 h.xv
  subst hst
  exact ⟨x0, x1, x2, x3, x4, y0, y1, y2, y3, y4, aw_str h.r1 n c1 hn, aw_str h.r2 n c2 hn⟩
theorem opputs_any (o : Opn) (b : List UInt8) (A : Option Addr) (c : Nat) (w : World) (hT : TenT w) (hr : RB w w.heap.size A b) :
    Calls Tryd.prog 3 #[opV o, .slice A b.length c] w fun e w' => e = .returned (.bool true) ∧ Below w.heap.size w w' := by
  have HAw : Hid (∀ W, Below w.heap.size w W → Calls Tryd.prog 7 #[] W fun e w' => e = .returned (.bool true) ∧ Below W.heap.size W w') := fun W hb => awake14_any W (hT.up hb)
  obtain ⟨lg, hlg⟩ : ∃ x, x = (decide (300 < o.name.length) || decide (300 < o.text.length) || decide (300 < o.at_.length)) := ⟨_, rfl⟩
  have HL : Hid (∀ W, Calls Tryd.prog 6 #[opV o] W fun e w' => e = .returned (.bool lg) ∧ Below W.heap.size W w') := fun W => by rw [hlg]; exact large_any o W
  have HLG : Hid (lg = false → o.name.length ≤ 300 ∧ o.text.length ≤ 300 ∧ o.at_.length ≤ 300) := fun h => by
    rw [h] at hlg
    have h2 := hlg.symm
    simp only [Bool.or_eq_false_iff, decide_eq_false_iff_not] at h2
    omega
  have HPp0 : Hid (lg = false → ∀ W, Calls Tryd.prog 8 #[opV o] W (PutsO o W)) := fun h W => by have := HLG.out h; exact pPut_any o W (by omega) (by omega)
  have HPr0 : Hid (lg = false → ∀ W, Calls Tryd.prog 9 #[opV o] W (PutsO o W)) := fun h W => by have := HLG.out h; exact rPut_any o W (by omega)
  have HSp0 : Hid (lg = false → ∀ W, Below w.heap.size w W → Calls Tryd.prog 12 #[opV o] W fun e w' => e = .returned (.string (text (showL o))) ∧ Below W.heap.size W w') := fun h W hb => by have := HLG.out h; exact pShow_any o W (hT.up hb) (by omega) (by omega)
  have HSr0 : Hid (lg = false → ∀ W, Calls Tryd.prog 13 #[opV o] W fun e w' => e = .returned (.string (text (showL o))) ∧ Below W.heap.size W w') := fun h W => by have := HLG.out h; exact rShow_any o W (by omega)
  have HCk0 : Hid (lg = false → ∀ W, Calls Tryd.prog 11 #[opV o] W fun e w' => e = .returned (.int .i64 o.err) ∧ Below W.heap.size W w') := fun h W => by have := HLG.out h; exact pCheck_any o W (by omega) (by omega)
  obtain ⟨k, nm, tx, z, a⟩ := o
  obtain ⟨t1, h1⟩ : ∃ t, t = text nm := ⟨_, rfl⟩
  obtain ⟨t2, h2⟩ : ∃ t, t = text tx := ⟨_, rfl⟩
  obtain ⟨t3, h3⟩ : ∃ t, t = text a := ⟨_, rfl⟩
  have eV : opV ⟨k, nm, tx, z, a⟩ = .agg #[.int .i64 k, .string t1, .string t2, .int .i64 z, .string t3] := by rw [h1, h2, h3]; rfl
  rw [eV] at HL HPp0 HPr0 HSp0 HSr0 HCk0 ⊢
  have EV := Lib.hid eV
  clear h1 h2 h3 eV hlg
  obtain ⟨o, ho⟩ : ∃ o : Opn, o = ⟨k, nm, tx, z, a⟩ := ⟨_, rfl⟩
  rw [← ho] at HPp0 HPr0 HSp0 HSr0 HCk0 EV
  clear ho HLG
  obtain ⟨n, hn⟩ : ∃ n, n = b.length := ⟨_, rfl⟩
  rw [← hn]
  have HB := Lib.hid hn
  have HR := Lib.hid hr
  have hO := Lib.hid (OpAt.new w k t1 t2 z t3)
  have hV := Lib.hid (Blk.new w 23 #[.int .i64 k, .string t1, .string t2, .int .i64 z, .string t3])
  have hb0 := Lib.hid (show Below w.heap.size w (w.alloc (.cells #[.int .i64 k, .string t1, .string t2, .int .i64 z, .string t3] 23)) from (Below.refl _ _).alloc (Nat.le_refl _) _)
  have a23 := fun w' => Tryd.opAgg w'
  have s23 := fun w' => Tryd.opSize w'
  clear hn hr hT
  cases lg with
  | true =>
    clear HPp0 HPr0 HSp0 HSr0 HCk0
    go_enter Tryd.func3, Tryd.ntmps3
    go_wp2_with (first
      | (go_at_call 6; (with_reducible refine (HL.out _).mono ?_); rintro e w1 ⟨rfl, b1⟩; have B1 := Lib.hid (hb0.out.trans (b1.mono hb0.out.size)))
      | (go_at_call 7; (with_reducible refine (HAw.out _ B1.out).mono ?_); rintro e w2 ⟨rfl, b2⟩; have B2 := Lib.hid (B1.out.trans (b2.mono B1.out.size))))
    go_ret
    exact ⟨rfl, B2.out⟩
  | false =>
    have HPp1 := Lib.hid (HPp0.out rfl)
    have HPr1 := Lib.hid (HPr0.out rfl)
    have HSp1 := Lib.hid (HSp0.out rfl)
    have HSr1 := Lib.hid (HSr0.out rfl)
    have HCk1 := Lib.hid (HCk0.out rfl)
    clear HPp0 HPr0 HSp0 HSr0 HCk0
    by_cases hbig : 300 < n
    · have d1 : decide ((n : Int) > 300) = true := decide_eq_true (by omega)
      have d1' : decide ((300 : Int) < (n : Int)) = true := decide_eq_true (by omega)
      clear HPp1 HPr1 HSp1 HSr1 HCk1 hbig
      go_enter Tryd.func3, Tryd.ntmps3
      go_wp2_with (first
        | (go_at_call 6; (with_reducible refine (HL.out _).mono ?_); rintro e w1 ⟨rfl, b1⟩; have B1 := Lib.hid (hb0.out.trans (b1.mono hb0.out.size)))
        | (go_at_call 7; (with_reducible refine (HAw.out _ B1.out).mono ?_); rintro e w2 ⟨rfl, b2⟩; have B2 := Lib.hid (B1.out.trans (b2.mono B1.out.size))))
      go_ret
      exact ⟨rfl, B2.out⟩
    · have d1 : decide ((n : Int) > 300) = false := decide_eq_false (by omega)
      have d1' : decide ((300 : Int) < (n : Int)) = false := decide_eq_false (by omega)
      obtain ⟨q, hq⟩ : ∃ q, q = o.out.length := ⟨_, rfl⟩
      have hq96 : q ≤ 96 := by rw [hq]; exact out_len o
      obtain ⟨ev, hev⟩ : ∃ x, x = o.err := ⟨_, rfl⟩
      obtain ⟨ss, hss⟩ : ∃ x, x = text (showL o) := ⟨_, rfl⟩
      rw [← hev] at HCk1
      rw [← hss] at HSp1 HSr1
      obtain ⟨OB, hOB⟩ : ∃ l, l = o.out := ⟨_, rfl⟩
      have hqO : q = OB.length := by rw [hq, hOB]
      obtain ⟨st, hst⟩ : ∃ x : ByteArray, ({ data := OB.toArray } : ByteArray) = x := ⟨_, rfl⟩
      have HPp : Hid (∀ W, Calls Tryd.prog 8 #[.agg #[.int .i64 k, .string t1, .string t2, .int .i64 z, .string t3]] W fun e w' => ∃ A c, e = .returned (.tuple #[.slice A q c, .int .i64 ev]) ∧ Hid (RB w' w'.heap.size A OB) ∧ Below W.heap.size W w') := fun W => (HPp1.out W).mono fun e w' hh => by
        rw [hq, hev, hOB]; exact puts_out hh
      have HPr : Hid (∀ W, Calls Tryd.prog 9 #[.agg #[.int .i64 k, .string t1, .string t2, .int .i64 z, .string t3]] W fun e w' => ∃ A c, e = .returned (.tuple #[.slice A q c, .int .i64 ev]) ∧ Hid (RB w' w'.heap.size A OB) ∧ Below W.heap.size W w') := fun W => (HPr1.out W).mono fun e w' hh => by
        rw [hq, hev, hOB]; exact puts_out hh
      obtain ⟨G, hG⟩ : ∃ l, l = OB ++ b := ⟨_, rfl⟩
      have hGl : G.length ≤ 400 := by rw [hG, List.length_append, ← hqO, ← HB.out]; omega
      have HGt : Hid (∀ W A c m, m = G.length → RB W W.heap.size A G → m ≤ c → c ≤ 9223372036854775807 → Calls Tryd.prog 10 #[.slice A m c] W (GivesGet G W)) := fun W A c m h1 h2 h3 h4 => pget_any G m A c W h1 h2 h3 h4 (by omega)
      have HK : Hid (o.mayB = true → ev = 0 ∧ GetsO G (some (o, q))) := fun h => by
        refine ⟨by rw [hev]; unfold Opn.err; rw [h]; rfl, ?_⟩
        have e : o.out = o.bytes := by unfold Opn.out; rw [h]; rfl
        rw [hG, hq, hOB, e]
        exact Begins.put ((mayB_iff o).1 h) b
      have HK2 : Hid (o.mayB = false → ev = 1) := fun h => by rw [hev]; unfold Opn.err; rw [h]; rfl
      have HGG : Hid ([] ++ OB ++ b = G) := by show _ = _; rw [hG]; rfl
      have HGL := Lib.hid hGl
      have HQ := Lib.hid hqO
      have HST := Lib.hid hst
      have heq : ∀ W, (binOp .eql 23 (.agg #[.int .i64 k, .string t1, .string t2, .int .i64 z, .string t3]) (.agg #[.int .i64 k, .string t1, .string t2, .int .i64 z, .string t3])).run Tryd.prog W = .ok (.bool true) W := fun W => eq_op #[] k z t1 t2 t3 W
      clear hq hev hss hOB hqO hst hG hGl hbig HPp1 HPr1
      go_enter Tryd.func3, Tryd.ntmps3
      go_upto_region 5 with (first
        | (go_at_call 6; (with_reducible refine (HL.out _).mono ?_); rintro e w1 ⟨rfl, b1⟩; have B1 := Lib.hid (hb0.out.trans (b1.mono hb0.out.size)); have V1 := Lib.hid (hV.out.below b1 hV.out.lt); obtain ⟨x0, x1, x2, x3, x4⟩ := blk5 V1.out)
        | (go_at_call 8; (with_reducible refine (HPp.out _).mono ?_); rintro e w2 ⟨A1, c1, rfl, r1, b2⟩; have B2 := Lib.hid (B1.out.trans (b2.mono B1.out.size)); have V2 := Lib.hid (V1.out.below b2 V1.out.lt); clear x0 x1 x2 x3 x4; obtain ⟨x0, x1, x2, x3, x4⟩ := blk5 V2.out)
        | (go_at_call 9; (with_reducible refine (HPr.out _).mono ?_); rintro e w3 ⟨A2, c2, rfl, r2, b3⟩; have B3 := Lib.hid (B2.out.trans (b3.mono B2.out.size)); have V3 := Lib.hid (V2.out.below b3 V2.out.lt); have r13 := Lib.hid (rb_up7 r1.out b3)))
      go_upto_region 6 with (first
        | (at_builtin; refine append_more rfl (.tmp 31) (.tmp 32) rfl rfl (put_none w3) rfl (rb_up7 r13.out ((Below.refl _ _).alloc (Nat.le_refl _) _)) HQ.out (by have := HQ.out; simp only [List.length_nil]; omega) ?_; intro A5 q5 c5 w5 h5)
        | (at_builtin; refine append_more rfl (.tmp 33) (.tmp 34) rfl rfl h5.out rfl (HR.out.below (B3.out.trans (h5.out.2.2.mono B3.out.size))) HB.out (by have h1 := HQ.out; have h2 := HB.out; have h3 := HGL.out; have h4 := congrArg List.length HGG.out; rw [List.length_append] at h4; omega) ?_; intro A6 q6 c6 w6 h6; rw [HGG.out] at h6; have l6 := Lib.hid h6.out.1; have p61 := Lib.hid (put_cap h6.out).1; have p62 := Lib.hid (put_cap h6.out).2.1; have p63 := Lib.hid (put_cap h6.out).2.2; have b6 := Lib.hid h6.out.2.2)
        | (go_at_call 10; (with_reducible refine (HGt.out _ _ _ _ l6.out p61.out p62.out p63.out).mono ?_); rintro e w7 ⟨⟨r, hr, rfl⟩, b7⟩; have b7 := Lib.hid b7; have hr := Lib.hid hr; obtain ⟨y0, y1, y2, y3, y4, y5, y6, hy⟩ := getE_parts r; have hy := Lib.hid hy; rw [hy.out]))
      have P7 : Hid (PuS w (w7.alloc (.cells #[.int .i64 y0, .string y1, .string y2, .int .i64 y3, .string y4] 23)) w.heap.size w7.heap.size #[.int .i64 k, .string t1, .string t2, .int .i64 z, .string t3] #[.int .i64 y0, .string y1, .string y2, .int .i64 y3, .string y4] A1 A2 OB) := by
        have bb : Below w3.heap.size w3 w7 := b6.out.trans (b7.out.mono b6.out.size)
        have ba : Below w3.heap.size w3 (w7.alloc (.cells #[.int .i64 y0, .string y1, .string y2, .int .i64 y3, .string y4] 23)) := bb.alloc bb.size _
        exact ⟨B3.out.trans (ba.mono B3.out.size), V3.out.below ba V3.out.lt, Blk.new _ _ _, rb_up7 r13.out ba, rb_up7 r2.out ba⟩
      obtain ⟨v9, hv9⟩ : ∃ x, x = w7.heap.size := ⟨_, rfl⟩
      obtain ⟨W0, hW0⟩ : ∃ x, x = w7.alloc (.cells #[.int .i64 y0, .string y1, .string y2, .int .i64 y3, .string y4] 23) := ⟨_, rfl⟩
      rw [← hW0, ← hv9] at P7 ⊢
      clear hW0 hv9 b7 b6 p61 p62 p63 l6 h6 h5 r13 r2 V3 B3 V2 B2 V1 B1 r1 b1 b2 b3 HGt HPp HPr HL hO hV hb0 HR
      cases hm : o.mayB with
      | true =>
        obtain ⟨rfl, hg⟩ := HK.out hm
        have e1 := GetsO.one hg hr.out
        subst e1
        have e2 : Ending.returned (.tuple #[opV o, .int .i64 (q : Int), .int .i64 0]) = .returned (.tuple #[.agg #[.int .i64 y0, .string y1, .string y2, .int .i64 y3, .string y4], .int .i64 y5, .int .i64 y6]) := hy.out
        rw [EV.out] at e2
        simp only [Ending.returned.injEq, Value.tuple.injEq, Array.mk.injEq, List.cons.injEq, Value.agg.injEq, Value.int.injEq, Value.string.injEq, true_and, and_true] at e2
        obtain ⟨⟨rfl, rfl, rfl, rfl, rfl⟩, rfl, rfl⟩ := e2
        clear hm hg hr hy HK HK2 HGG HGL EV x0 x1 x2 x3 x4
        have P0 : PuS w W0.drew w.heap.size v9 #[.int .i64 k, .string t1, .string t2, .int .i64 z, .string t3] #[.int .i64 k, .string t1, .string t2, .int .i64 z, .string t3] A1 A2 OB := PuS.up P7.out ⟨rfl, rfl, rfl, Nat.le_refl _, fun _ _ => rfl⟩
        have h0 := PuS.held q c1 c2 st HQ.out HST.out P0
        clear P7
        go_region_held_law (fun w' => w'.cell? ⟨w.heap.size, 0, none⟩ = some (.int .i64 k) ∧ w'.cell? ⟨w.heap.size, 1, none⟩ = some (.string t1) ∧ w'.cell? ⟨w.heap.size, 2, none⟩ = some (.string t2) ∧ w'.cell? ⟨w.heap.size, 3, none⟩ = some (.int .i64 z) ∧ w'.cell? ⟨w.heap.size, 4, none⟩ = some (.string t3) ∧ w'.cell? ⟨v9, 0, none⟩ = some (.int .i64 k) ∧ w'.cell? ⟨v9, 1, none⟩ = some (.string t1) ∧ w'.cell? ⟨v9, 2, none⟩ = some (.string t2) ∧ w'.cell? ⟨v9, 3, none⟩ = some (.int .i64 z) ∧ w'.cell? ⟨v9, 4, none⟩ = some (.string t3) ∧ (convert 24 9 (.slice A1 q c1)).run Tryd.prog w' = .ok (.string st) w' ∧ (convert 24 9 (.slice A2 q c2)).run Tryd.prog w' = .ok (.string st) w')
          (exact PuS.held q c1 c2 st HQ.out HST.out (by assumption))
          (first
            | (go_at_call 11; (with_reducible refine (HCk1.out _).mono ?_); rintro e x11 ⟨rfl, b11⟩; have P11 : PuS w x11 w.heap.size v9 #[.int .i64 k, .string t1, .string t2, .int .i64 z, .string t3] #[.int .i64 k, .string t1, .string t2, .int .i64 z, .string t3] A1 A2 OB := PuS.up (by assumption) b11)
            | (go_at_call 12; (with_reducible refine (HSp1.out _ (PuS.below (C1 := #[.int .i64 k, .string t1, .string t2, .int .i64 z, .string t3]) (C9 := #[.int .i64 k, .string t1, .string t2, .int .i64 z, .string t3]) (L := OB) (V1 := w.heap.size) (v9 := v9) (A1 := A1) (A2 := A2) (by assumption))).mono ?_); rintro e x12 ⟨rfl, b12⟩; have P12 : PuS w x12 w.heap.size v9 #[.int .i64 k, .string t1, .string t2, .int .i64 z, .string t3] #[.int .i64 k, .string t1, .string t2, .int .i64 z, .string t3] A1 A2 OB := PuS.up (by assumption) b12)
            | (go_at_call 13; (with_reducible refine (HSr1.out _).mono ?_); rintro e x13 ⟨rfl, b13⟩; have P13 : PuS w x13 w.heap.size v9 #[.int .i64 k, .string t1, .string t2, .int .i64 z, .string t3] #[.int .i64 k, .string t1, .string t2, .int .i64 z, .string t3] A1 A2 OB := PuS.up (by assumption) b13)
            | (go_at_call 7; (with_reducible refine (HAw.out _ (PuS.below (C1 := #[.int .i64 k, .string t1, .string t2, .int .i64 z, .string t3]) (C9 := #[.int .i64 k, .string t1, .string t2, .int .i64 z, .string t3]) (L := OB) (V1 := w.heap.size) (v9 := v9) (A1 := A1) (A2 := A2) (by assumption))).mono ?_); rintro e x14 ⟨rfl, b14⟩; have P14 : PuS w x14 w.heap.size v9 #[.int .i64 k, .string t1, .string t2, .int .i64 z, .string t3] #[.int .i64 k, .string t1, .string t2, .int .i64 z, .string t3] A1 A2 OB := PuS.up (by assumption) b14))
        go_wp2
        go_ret
        exact ⟨rfl, by first | exact PuS.below (by assumption) | exact (PuS.below (by assumption)).drew⟩
      | false =>
        obtain rfl := HK2.out hm
        have hstr1 : ∀ W, PuS w W w.heap.size v9 #[.int .i64 k, .string t1, .string t2, .int .i64 z, .string t3] #[.int .i64 y0, .string y1, .string y2, .int .i64 y3, .string y4] A1 A2 OB → (convert 24 9 (.slice A1 q c1)).run Tryd.prog W = .ok (.string st) W := fun W h => (PuS.held q c1 c2 st HQ.out HST.out h).2.2.2.2.2.2.2.2.2.2.1
        have hstr2 : ∀ W, PuS w W w.heap.size v9 #[.int .i64 k, .string t1, .string t2, .int .i64 z, .string t3] #[.int .i64 y0, .string y1, .string y2, .int .i64 y3, .string y4] A1 A2 OB → (convert 24 9 (.slice A2 q c2)).run Tryd.prog W = .ok (.string st) W := fun W h => (PuS.held q c1 c2 st HQ.out HST.out h).2.2.2.2.2.2.2.2.2.2.2
        clear hm hr hy HK HK2 HGG HGL EV x0 x1 x2 x3 x4
        have S0 : PuS w W0.drew w.heap.size v9 #[.int .i64 k, .string t1, .string t2, .int .i64 z, .string t3] #[.int .i64 y0, .string y1, .string y2, .int .i64 y3, .string y4] A1 A2 OB := PuS.up P7.out ⟨rfl, rfl, rfl, Nat.le_refl _, fun _ _ => rfl⟩
        refine region_T (fun W => PuS w W w.heap.size v9 #[.int .i64 k, .string t1, .string t2, .int .i64 z, .string t3] #[.int .i64 y0, .string y1, .string y2, .int .i64 y3, .string y4] A1 A2 OB) (fun j => decide (45 ≤ j)) (by kernel_rfl) ?_
        refine any_asT rfl (listed' := #[false, false, false, false, false, false, false, false, false, false, false, false, false, false, false, false, false, false, false, false, false, false, false, false, false, false, false, false, false, false, false, false, false, false, false, false, false, false, false, false, false, false, false, false, false, false]) (by kernel_rfl) ?_
        generalize W0.drew = V0 at S0 ⊢
        refine take_d (i := 0) (.slice A1 q c1) 40 rfl (by kernel_rfl) (by kernel_rfl) (by kernel_rfl) (by kernel_rfl) rfl (by kernel_rfl) (by kernel_rfl) (fun W hW => by kernel_rfl) S0 (fun _ _ _ h => h) ?_
        simp only [Act.put, List.setIfInBounds_toArray, List.set_cons_zero, List.set_cons_succ]
        refine take_d (i := 1) (.string st) 41 rfl (by kernel_rfl) (by kernel_rfl) (by kernel_rfl) (by kernel_rfl) rfl (by kernel_rfl) (by kernel_rfl) (fun W hW => str_runO (.tmp 40) A1 q c1 st (by kernel_rfl) (by kernel_rfl) (hstr1 W hW)) S0 (fun _ _ _ h => h) ?_
        simp only [Act.put, List.setIfInBounds_toArray, List.set_cons_zero, List.set_cons_succ]
        refine take_d (i := 2) (.slice A2 q c2) 42 rfl (by kernel_rfl) (by kernel_rfl) (by kernel_rfl) (by kernel_rfl) rfl (by kernel_rfl) (by kernel_rfl) (fun W hW => by kernel_rfl) S0 (fun _ _ _ h => h) ?_
        simp only [Act.put, List.setIfInBounds_toArray, List.set_cons_zero, List.set_cons_succ]
        refine take_d (i := 3) (.string st) 43 rfl (by kernel_rfl) (by kernel_rfl) (by kernel_rfl) (by kernel_rfl) rfl (by kernel_rfl) (by kernel_rfl) (fun W hW => str_runO (.tmp 42) A2 q c2 st (by kernel_rfl) (by kernel_rfl) (hstr2 W hW)) S0 (fun _ _ _ h => h) ?_
        simp only [Act.put, List.setIfInBounds_toArray, List.set_cons_zero, List.set_cons_succ]
        refine take_d (i := 4) (.bool true) 44 rfl (by kernel_rfl) (by kernel_rfl) (by kernel_rfl) (by kernel_rfl) rfl (by kernel_rfl) (by kernel_rfl) (fun W hW => seql_runO (.tmp 41) (.tmp 43) st (by kernel_rfl) (by kernel_rfl) (by kernel_rfl)) S0 (fun _ _ _ h => h) ?_
        simp only [Act.put, List.setIfInBounds_toArray, List.set_cons_zero, List.set_cons_succ]
        refine take_d (i := 5) (.bool true) 45 rfl (by kernel_rfl) (by kernel_rfl) (by kernel_rfl) (by kernel_rfl) rfl (by kernel_rfl) (by kernel_rfl) (fun W hW => by kernel_rfl) S0 (fun _ _ _ h => h) ?_
        simp only [Act.put, List.setIfInBounds_toArray, List.set_cons_zero, List.set_cons_succ]
        refine take_d (i := 6) (.int .i64 1) 46 rfl (by kernel_rfl) (by kernel_rfl) (by kernel_rfl) (by kernel_rfl) rfl (by kernel_rfl) (by kernel_rfl) (fun W hW => by kernel_rfl) S0 (fun _ _ _ h => h) ?_
        simp only [Act.put, List.setIfInBounds_toArray, List.set_cons_zero, List.set_cons_succ]
        refine take_d (i := 7) (.int .i64 1) 47 rfl (by kernel_rfl) (by kernel_rfl) (by kernel_rfl) (by kernel_rfl) rfl (by kernel_rfl) (by kernel_rfl) (fun W hW => by kernel_rfl) S0 (fun _ _ _ h => h) ?_
        simp only [Act.put, List.setIfInBounds_toArray, List.set_cons_zero, List.set_cons_succ]
        refine take_d (i := 8) (.bool true) 48 rfl (by kernel_rfl) (by kernel_rfl) (by kernel_rfl) (by kernel_rfl) rfl (by kernel_rfl) (by kernel_rfl) (fun W hW => by kernel_rfl) S0 (fun _ _ _ h => h) ?_
        simp only [Act.put, List.setIfInBounds_toArray, List.set_cons_zero, List.set_cons_succ]
        refine take_d (i := 9) (.bool true) 49 rfl (by kernel_rfl) (by kernel_rfl) (by kernel_rfl) (by kernel_rfl) rfl (by kernel_rfl) (by kernel_rfl) (fun W hW => by kernel_rfl) S0 (fun _ _ _ h => h) ?_
        simp only [Act.put, List.setIfInBounds_toArray, List.set_cons_zero, List.set_cons_succ]
        refine take_d (i := 10) (.bool true) 50 rfl (by kernel_rfl) (by kernel_rfl) (by kernel_rfl) (by kernel_rfl) rfl (by kernel_rfl) (by kernel_rfl) (fun W hW => by kernel_rfl) S0 (fun _ _ _ h => h) ?_
        simp only [Act.put, List.setIfInBounds_toArray, List.set_cons_zero, List.set_cons_succ]
        refine take_d (i := 11) (.agg #[.int .i64 k, .string t1, .string t2, .int .i64 z, .string t3]) 51 rfl (by kernel_rfl) (by kernel_rfl) (by kernel_rfl) (by kernel_rfl) rfl (by kernel_rfl) (by kernel_rfl) (fun W hW => load_run 23 (.tmp 2) w.heap.size 0 [.int .i64 k, .string t1, .string t2, .int .i64 z, .string t3] _ (by kernel_rfl) (by kernel_rfl) (blk_range5 hW.var) Tryd.underlying23 rfl (by kernel_rfl) #[.int .i64 k, .string t1, .string t2, .int .i64 z, .string t3] rfl) S0 (fun _ _ _ h => h) ?_
        simp only [Act.put, List.setIfInBounds_toArray, List.set_cons_zero, List.set_cons_succ]
        refine take_d (i := 13) (.int .i64 1) 53 rfl (by kernel_rfl) (by kernel_rfl) (by kernel_rfl) (by kernel_rfl) rfl (by kernel_rfl) (by kernel_rfl) (fun W hW => by kernel_rfl) S0 (fun _ _ _ h => h) ?_
        simp only [Act.put, List.setIfInBounds_toArray, List.set_cons_zero, List.set_cons_succ]
        refine any_comes (i := 12) (by kernel_rfl) (op_enter 11 #[.agg #[.int .i64 k, .string t1, .string t2, .int .i64 z, .string t3]] (some 52) rfl (by kernel_rfl) (by kernel_rfl) (by kernel_rfl) ((HCk1.out V0).mono ?_))
        rintro e x11 ⟨rfl, b11⟩
        have S1 := PuS.up S0 b11
        refine ⟨_, rfl, S1, ?_⟩
        simp only [Act.put, List.setIfInBounds_toArray, List.set_cons_zero, List.set_cons_succ]
        refine take_d (i := 14) (.bool true) 54 rfl (by kernel_rfl) (by kernel_rfl) (by kernel_rfl) (by kernel_rfl) rfl (by kernel_rfl) (by kernel_rfl) (fun W hW => by kernel_rfl) S1 (fun _ _ _ h => h) ?_
        simp only [Act.put, List.setIfInBounds_toArray, List.set_cons_zero, List.set_cons_succ]
        refine take_d (i := 15) (.bool true) 55 rfl (by kernel_rfl) (by kernel_rfl) (by kernel_rfl) (by kernel_rfl) rfl (by kernel_rfl) (by kernel_rfl) (fun W hW => by kernel_rfl) S1 (fun _ _ _ h => h) ?_
        simp only [Act.put, List.setIfInBounds_toArray, List.set_cons_zero, List.set_cons_succ]
        refine take_d (i := 16) (.bool true) 56 rfl (by kernel_rfl) (by kernel_rfl) (by kernel_rfl) (by kernel_rfl) rfl (by kernel_rfl) (by kernel_rfl) (fun W hW => by kernel_rfl) S1 (fun _ _ _ h => h) ?_
        simp only [Act.put, List.setIfInBounds_toArray, List.set_cons_zero, List.set_cons_succ]
        refine take_d (i := 17) (.int .i64 1) 57 rfl (by kernel_rfl) (by kernel_rfl) (by kernel_rfl) (by kernel_rfl) rfl (by kernel_rfl) (by kernel_rfl) (fun W hW => by kernel_rfl) S1 (fun _ _ _ h => h) ?_
        simp only [Act.put, List.setIfInBounds_toArray, List.set_cons_zero, List.set_cons_succ]
        refine take_d (i := 18) (.bool true) 58 rfl (by kernel_rfl) (by kernel_rfl) (by kernel_rfl) (by kernel_rfl) rfl (by kernel_rfl) (by kernel_rfl) (fun W hW => by kernel_rfl) S1 (fun _ _ _ h => h) ?_
        simp only [Act.put, List.setIfInBounds_toArray, List.set_cons_zero, List.set_cons_succ]
        refine take_d (i := 19) (.bool true) 59 rfl (by kernel_rfl) (by kernel_rfl) (by kernel_rfl) (by kernel_rfl) rfl (by kernel_rfl) (by kernel_rfl) (fun W hW => by kernel_rfl) S1 (fun _ _ _ h => h) ?_
        simp only [Act.put, List.setIfInBounds_toArray, List.set_cons_zero, List.set_cons_succ]
        refine skip_d (i := 20) 60 rfl (by kernel_rfl) (by kernel_rfl) (by kernel_rfl) (by kernel_rfl) rfl (by kernel_rfl) (by kernel_rfl) S1 (fun _ _ _ h => h) ?_
        simp only [Act.put, List.setIfInBounds_toArray, List.set_cons_zero, List.set_cons_succ]
        refine skip_d (i := 21) 61 rfl (by kernel_rfl) (by kernel_rfl) (by kernel_rfl) (by kernel_rfl) rfl (by kernel_rfl) (by kernel_rfl) S1 (fun _ _ _ h => h) ?_
        simp only [Act.put, List.setIfInBounds_toArray, List.set_cons_zero, List.set_cons_succ]
        refine skip_d (i := 22) 62 rfl (by kernel_rfl) (by kernel_rfl) (by kernel_rfl) (by kernel_rfl) rfl (by kernel_rfl) (by kernel_rfl) S1 (fun _ _ _ h => h) ?_
        simp only [Act.put, List.setIfInBounds_toArray, List.set_cons_zero, List.set_cons_succ]
        refine skip_d (i := 23) 63 rfl (by kernel_rfl) (by kernel_rfl) (by kernel_rfl) (by kernel_rfl) rfl (by kernel_rfl) (by kernel_rfl) S1 (fun _ _ _ h => h) ?_
        simp only [Act.put, List.setIfInBounds_toArray, List.set_cons_zero, List.set_cons_succ]
        refine skip_d (i := 24) 64 rfl (by kernel_rfl) (by kernel_rfl) (by kernel_rfl) (by kernel_rfl) rfl (by kernel_rfl) (by kernel_rfl) S1 (fun _ _ _ h => h) ?_
        simp only [Act.put, List.setIfInBounds_toArray, List.set_cons_zero, List.set_cons_succ]
        refine skip_d (i := 25) 65 rfl (by kernel_rfl) (by kernel_rfl) (by kernel_rfl) (by kernel_rfl) rfl (by kernel_rfl) (by kernel_rfl) S1 (fun _ _ _ h => h) ?_
        simp only [Act.put, List.setIfInBounds_toArray, List.set_cons_zero, List.set_cons_succ]
        refine skip_d (i := 26) 66 rfl (by kernel_rfl) (by kernel_rfl) (by kernel_rfl) (by kernel_rfl) rfl (by kernel_rfl) (by kernel_rfl) S1 (fun _ _ _ h => h) ?_
        simp only [Act.put, List.setIfInBounds_toArray, List.set_cons_zero, List.set_cons_succ]
        refine skip_d (i := 27) 67 rfl (by kernel_rfl) (by kernel_rfl) (by kernel_rfl) (by kernel_rfl) rfl (by kernel_rfl) (by kernel_rfl) S1 (fun _ _ _ h => h) ?_
        simp only [Act.put, List.setIfInBounds_toArray, List.set_cons_zero, List.set_cons_succ]
        refine skip_d (i := 28) 68 rfl (by kernel_rfl) (by kernel_rfl) (by kernel_rfl) (by kernel_rfl) rfl (by kernel_rfl) (by kernel_rfl) S1 (fun _ _ _ h => h) ?_
        simp only [Act.put, List.setIfInBounds_toArray, List.set_cons_zero, List.set_cons_succ]
        refine skip_d (i := 29) 69 rfl (by kernel_rfl) (by kernel_rfl) (by kernel_rfl) (by kernel_rfl) rfl (by kernel_rfl) (by kernel_rfl) S1 (fun _ _ _ h => h) ?_
        simp only [Act.put, List.setIfInBounds_toArray, List.set_cons_zero, List.set_cons_succ]
        refine skip_d (i := 30) 70 rfl (by kernel_rfl) (by kernel_rfl) (by kernel_rfl) (by kernel_rfl) rfl (by kernel_rfl) (by kernel_rfl) S1 (fun _ _ _ h => h) ?_
        simp only [Act.put, List.setIfInBounds_toArray, List.set_cons_zero, List.set_cons_succ]
        refine skip_d (i := 31) 71 rfl (by kernel_rfl) (by kernel_rfl) (by kernel_rfl) (by kernel_rfl) rfl (by kernel_rfl) (by kernel_rfl) S1 (fun _ _ _ h => h) ?_
        simp only [Act.put, List.setIfInBounds_toArray, List.set_cons_zero, List.set_cons_succ]
        refine skip_d (i := 32) 72 rfl (by kernel_rfl) (by kernel_rfl) (by kernel_rfl) (by kernel_rfl) rfl (by kernel_rfl) (by kernel_rfl) S1 (fun _ _ _ h => h) ?_
        simp only [Act.put, List.setIfInBounds_toArray, List.set_cons_zero, List.set_cons_succ]
        refine take_d (i := 33) (.bool true) 73 rfl (by kernel_rfl) (by kernel_rfl) (by kernel_rfl) (by kernel_rfl) rfl (by kernel_rfl) (by kernel_rfl) (fun W hW => by kernel_rfl) S1 (fun _ _ _ h => h) ?_
        simp only [Act.put, List.setIfInBounds_toArray, List.set_cons_zero, List.set_cons_succ]
        refine take_d (i := 34) (.bool true) 74 rfl (by kernel_rfl) (by kernel_rfl) (by kernel_rfl) (by kernel_rfl) rfl (by kernel_rfl) (by kernel_rfl) (fun W hW => by kernel_rfl) S1 (fun _ _ _ h => h) ?_
        simp only [Act.put, List.setIfInBounds_toArray, List.set_cons_zero, List.set_cons_succ]
        refine take_d (i := 35) (.bool true) 75 rfl (by kernel_rfl) (by kernel_rfl) (by kernel_rfl) (by kernel_rfl) rfl (by kernel_rfl) (by kernel_rfl) (fun W hW => by kernel_rfl) S1 (fun _ _ _ h => h) ?_
        simp only [Act.put, List.setIfInBounds_toArray, List.set_cons_zero, List.set_cons_succ]
        refine take_d (i := 36) (.agg #[.int .i64 k, .string t1, .string t2, .int .i64 z, .string t3]) 76 rfl (by kernel_rfl) (by kernel_rfl) (by kernel_rfl) (by kernel_rfl) rfl (by kernel_rfl) (by kernel_rfl) (fun W hW => load_run 23 (.tmp 2) w.heap.size 0 [.int .i64 k, .string t1, .string t2, .int .i64 z, .string t3] _ (by kernel_rfl) (by kernel_rfl) (blk_range5 hW.var) Tryd.underlying23 rfl (by kernel_rfl) #[.int .i64 k, .string t1, .string t2, .int .i64 z, .string t3] rfl) S1 (fun _ _ _ h => h) ?_
        simp only [Act.put, List.setIfInBounds_toArray, List.set_cons_zero, List.set_cons_succ]
        refine take_d (i := 38) (.agg #[.int .i64 k, .string t1, .string t2, .int .i64 z, .string t3]) 78 rfl (by kernel_rfl) (by kernel_rfl) (by kernel_rfl) (by kernel_rfl) rfl (by kernel_rfl) (by kernel_rfl) (fun W hW => load_run 23 (.tmp 2) w.heap.size 0 [.int .i64 k, .string t1, .string t2, .int .i64 z, .string t3] _ (by kernel_rfl) (by kernel_rfl) (blk_range5 hW.var) Tryd.underlying23 rfl (by kernel_rfl) #[.int .i64 k, .string t1, .string t2, .int .i64 z, .string t3] rfl) S1 (fun _ _ _ h => h) ?_
        simp only [Act.put, List.setIfInBounds_toArray, List.set_cons_zero, List.set_cons_succ]
        refine any_comes (i := 37) (by kernel_rfl) (op_enter 12 #[.agg #[.int .i64 k, .string t1, .string t2, .int .i64 z, .string t3]] (some 77) rfl (by kernel_rfl) (by kernel_rfl) (by kernel_rfl) ((HSp1.out x11 S1.below).mono ?_))
        rintro e x12 ⟨rfl, b12⟩
        have S2 := PuS.up S1 b12
        refine ⟨_, rfl, S2, ?_⟩
        simp only [Act.put, List.setIfInBounds_toArray, List.set_cons_zero, List.set_cons_succ]
        refine any_comes (i := 39) (by kernel_rfl) (op_enter 13 #[.agg #[.int .i64 k, .string t1, .string t2, .int .i64 z, .string t3]] (some 79) rfl (by kernel_rfl) (by kernel_rfl) (by kernel_rfl) ((HSr1.out x12).mono ?_))
        rintro e x13 ⟨rfl, b13⟩
        have S3 := PuS.up S2 b13
        refine ⟨_, rfl, S3, ?_⟩
        simp only [Act.put, List.setIfInBounds_toArray, List.set_cons_zero, List.set_cons_succ]
        refine take_d (i := 40) (.bool true) 80 rfl (by kernel_rfl) (by kernel_rfl) (by kernel_rfl) (by kernel_rfl) rfl (by kernel_rfl) (by kernel_rfl) (fun W hW => seql_runO (.tmp 77) (.tmp 79) ss (by kernel_rfl) (by kernel_rfl) (by kernel_rfl)) S3 (fun _ _ _ h => h) ?_
        simp only [Act.put, List.setIfInBounds_toArray, List.set_cons_zero, List.set_cons_succ]
        refine take_d (i := 41) (.bool true) 81 rfl (by kernel_rfl) (by kernel_rfl) (by kernel_rfl) (by kernel_rfl) rfl (by kernel_rfl) (by kernel_rfl) (fun W hW => by kernel_rfl) S3 (fun _ _ _ h => h) ?_
        simp only [Act.put, List.setIfInBounds_toArray, List.set_cons_zero, List.set_cons_succ]
        refine take_d (i := 42) (.bool true) 82 rfl (by kernel_rfl) (by kernel_rfl) (by kernel_rfl) (by kernel_rfl) rfl (by kernel_rfl) (by kernel_rfl) (fun W hW => by kernel_rfl) S3 (fun _ _ _ h => h) ?_
        simp only [Act.put, List.setIfInBounds_toArray, List.set_cons_zero, List.set_cons_succ]
        refine any_comes (i := 43) (by kernel_rfl) (op_enter 7 #[] (some 83) rfl (by kernel_rfl) (by kernel_rfl) (by kernel_rfl) ((HAw.out x13 S3.below).mono ?_))
        rintro e x14 ⟨rfl, b14⟩
        have S4 := PuS.up S3 b14
        refine ⟨_, rfl, S4, ?_⟩
        simp only [Act.put, List.setIfInBounds_toArray, List.set_cons_zero, List.set_cons_succ]
        refine take_d (i := 44) (.bool true) 84 rfl (by kernel_rfl) (by kernel_rfl) (by kernel_rfl) (by kernel_rfl) rfl (by kernel_rfl) (by kernel_rfl) (fun W hW => by kernel_rfl) S4 (fun _ _ _ h => h) ?_
        simp only [Act.put, List.setIfInBounds_toArray, List.set_cons_zero, List.set_cons_succ]
        refine any_left (by kernel_rfl) ?_
        refine wpAny_tail 45 (by kernel_rfl) (by kernel_rfl) ?_
        simp only [List.drop_succ_cons, List.drop_zero]
        go_wp2
        go_ret
        exact ⟨rfl, by first | exact S4.below | exact S4.below.drew⟩
end Go.Proofs.YtpcopmpmcjkamaaDoor
