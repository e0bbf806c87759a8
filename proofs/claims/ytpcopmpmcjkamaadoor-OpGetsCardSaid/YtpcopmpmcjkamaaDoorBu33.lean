/- Lemmas under the proofs of this place: OpGetsA. No statement is proved here. -/
import Derived.Test.YtpcopmpmcjkamaaDoorBu32
import Derived.Deep.RegionHeldLaw
set_option linter.unusedSimpArgs false
set_option linter.unusedVariables false
set_option maxRecDepth 100000
set_option maxHeartbeats 16000000
namespace Go.Proofs.YtpcopmpmcjkamaaDoor
open Go.RowKit
structure GeS (w W : World) (v3 v6 : Nat) (C1 : Array Value) (A9 A : Option Addr) (P L : List UInt8) : Prop where
  below : Below w.heap.size w W
  var : Blk W v3 23 C1
  xv : Blk W v6 23 C1
  rp : RB W W.heap.size A9 P
  rb : RB W W.heap.size A L
theorem GeS.up {w W W' : World} {v3 v6 : Nat} {C1 : Array Value} {A9 A : Option Addr} {P L : List UInt8} (h : GeS w W v3 v6 C1 A9 A P L) (hb : Below W.heap.size W W') : GeS w W' v3 v6 C1 A9 A P L :=
  ⟨h.below.trans (hb.mono h.below.size), h.var.below hb h.var.lt, h.xv.below hb h.xv.lt, rb_up7 h.rp hb, rb_up7 h.rb hb⟩
theorem GeS.held {w W : World} {v3 v6 : Nat} {a0 a1 a2 a3 a4 : Value} {A9 A : Option Addr} {P L : List UInt8} (q c9 n c : Nat) (sp sb : ByteArray) (hq : q = P.length) (hn : n = L.length) (hp : P = L.take q) (hsp : ({ data := P.toArray } : ByteArray) = sp) (hsb : ({ data := L.toArray } : ByteArray) = sb) (h : GeS w W v3 v6 #[a0, a1, a2, a3, a4] A9 A P L) :
    W.cell? ⟨v3, 0, none⟩ = some a0 ∧ W.cell? ⟨v3, 1, none⟩ = some a1 ∧ W.cell? ⟨v3, 2, none⟩ = some a2 ∧ W.cell? ⟨v3, 3, none⟩ = some a3 ∧ W.cell? ⟨v3, 4, none⟩ = some a4 ∧
    W.cell? ⟨v6, 0, none⟩ = some a0 ∧ W.cell? ⟨v6, 1, none⟩ = some a1 ∧ W.cell? ⟨v6, 2, none⟩ = some a2 ∧ W.cell? ⟨v6, 3, none⟩ = some a3 ∧ W.cell? ⟨v6, 4, none⟩ = some a4 ∧
    (convert 24 9 (.slice A9 q c9)).run Tryd.prog W = .ok (.string sp) W ∧ (convert 24 9 (.slice A q c)).run Tryd.prog W = .ok (.string sp) W ∧ (convert 24 9 (.slice A n c)).run Tryd.prog W = .ok (.string sb) W := by
  obtain ⟨x0, x1, x2, x3, x4⟩ := blk5 h.var
  obtain ⟨y0, y1, y2, y3, y4⟩ := blk5 h.xv
  subst hsp hsb
  have h2 : RB W W.heap.size A P := by rw [hp]; exact rb_takeO h.rb q
  exact ⟨x0, x1, x2, x3, x4, y0, y1, y2, y3, y4, aw_str h.rp q c9 hq, aw_str h2 q c hq, aw_str h.rb n c hn⟩
theorem gets_ex (b : List UInt8) : ∃ r, GetsO b r := by
  by_cases h : ∃ o k, Begins b o k
  · obtain ⟨o, k, h⟩ := h
    exact ⟨some (o, k), h⟩
  · exact ⟨none, fun o k hb => h ⟨o, k, hb⟩⟩
theorem opgets_any (b : List UInt8) (A : Option Addr) (c : Nat) (w : World) (hT : TenT w) (hr : RB w w.heap.size A b) (hc : b.length ≤ c) (hcm : c ≤ 9223372036854775807) :
    Calls Tryd.prog 4 #[.slice A b.length c] w fun e w' => e = .returned (.bool true) ∧ Below w.heap.size w w' := by
  have HAw : Hid (∀ W, Below w.heap.size w W → Calls Tryd.prog 7 #[] W fun e w' => e = .returned (.bool true) ∧ Below W.heap.size W w') := fun W hb => awake14_any W (hT.up hb)
  obtain ⟨n, hn⟩ : ∃ n, n = b.length := ⟨_, rfl⟩
  rw [← hn] at hc ⊢
  by_cases hbig : 300 < n
  · have d1 : decide ((n : Int) > 300) = true := decide_eq_true (by omega)
    have d1' : decide ((300 : Int) < (n : Int)) = true := decide_eq_true (by omega)
    have B0 := Lib.hid (Below.refl w.heap.size w)
    clear hbig hn hr
    go_enter Tryd.func4, Tryd.ntmps4
    go_wp2_with (first
      | (go_at_call 7; (with_reducible refine (HAw.out _ B0.out).mono ?_); rintro e w2 ⟨rfl, b2⟩))
    go_ret
    exact ⟨rfl, b2⟩
  · have d1 : decide ((n : Int) > 300) = false := decide_eq_false (by omega)
    have d1' : decide ((300 : Int) < (n : Int)) = false := decide_eq_false (by omega)
    obtain ⟨r, hr0⟩ := gets_ex b
    have HGp : Hid (∀ W, Below w.heap.size w W → Calls Tryd.prog 10 #[.slice A n c] W fun e w' => e = getE r ∧ Below W.heap.size W w') := fun W hb => pget_known b r hr0 n A c W hn (rb_up7 hr hb) hc hcm (by omega)
    have HGr : Hid (∀ W, Below w.heap.size w W → Calls Tryd.prog 14 #[.slice A n c] W fun e w' => e = getE r ∧ Below W.heap.size W w') := fun W hb => (rget14_any b n A c W hn (rb_up7 hr hb) hc hcm (by omega)).mono fun e w' hh => by
      obtain ⟨⟨s, h1, h2⟩, h3⟩ := hh
      rw [GetsO.one hr0 h1]
      exact ⟨h2, h3⟩
    obtain ⟨sb, hsb⟩ : ∃ x : ByteArray, ({ data := b.toArray } : ByteArray) = x := ⟨_, rfl⟩
    have esb : text b = sb := hsb
    obtain ⟨nb, hnb⟩ : ∃ x, x = nameOk b := ⟨_, rfl⟩
    have HN1 : Hid (∀ W, Calls Tryd.prog 15 #[.string sb] W fun e w' => e = .returned (.bool nb) ∧ Below W.heap.size W w') := fun W => by rw [hnb, ← esb]; exact pName_any b W (by omega)
    have HN2 : Hid (∀ W, Calls Tryd.prog 16 #[.string sb] W fun e w' => e = .returned (.bool nb) ∧ Below W.heap.size W w') := fun W => by rw [hnb, ← esb]; exact refName_any b W (by omega)
    have HNn := Lib.hid hn
    have HSB := Lib.hid hsb
    have HR := Lib.hid hr
    have a23 := fun w' => Tryd.opAgg w'
    have s23 := fun w' => Tryd.opSize w'
    have HB0 := Lib.hid (Below.refl w.heap.size w)
    clear hbig hsb esb hnb hr
    obtain ⟨OB, q, sp, ev, sz, ee, k, t1, t2, z, t3, hget, hq, hp, hsp, hput, hcase⟩ : ∃ (OB : List UInt8) (q : Nat) (sp : ByteArray) (ev : Int) (sz : Nat) (ee k : Int) (t1 t2 : ByteArray) (z : Int) (t3 : ByteArray), getE r = .returned (.tuple #[.agg #[.int .i64 k, .string t1, .string t2, .int .i64 z, .string t3], .int .i64 (sz : Int), .int .i64 ee]) ∧ q = OB.length ∧ OB = b.take q ∧ ({ data := OB.toArray } : ByteArray) = sp ∧
        (∀ W, Calls Tryd.prog 8 #[.agg #[.int .i64 k, .string t1, .string t2, .int .i64 z, .string t3]] W fun e w' => ∃ A c, e = .returned (.tuple #[.slice A q c, .int .i64 ev]) ∧ Hid (RB w' w'.heap.size A OB) ∧ Below W.heap.size W w') ∧
        ((ee = 0 ∧ ev = 0 ∧ sz = q ∧ q ≤ n) ∨ (ee = 5 ∧ ev = 1 ∧ sz = 0 ∧ k = 0 ∧ t1 = { data := #[] } ∧ t2 = { data := #[] } ∧ z = 0 ∧ t3 = { data := #[] })) := by
      rcases r with _ | ⟨o, sz⟩
      · refine ⟨[], 0, _, 1, 0, 5, 0, { data := #[] }, { data := #[] }, 0, { data := #[] }, rfl, rfl, rfl, rfl, fun W => ?_, .inr ⟨rfl, rfl, rfl, rfl, rfl, rfl, rfl, rfl⟩⟩
        refine (pPut_any Opn.zero W (by decide) (by decide)).mono fun e w' hh => ?_
        have h := puts_out hh
        have e1 : Opn.zero.out = [] := by unfold Opn.out; rw [aw_mayZ]; rfl
        have e2 : Opn.zero.err = 1 := by unfold Opn.err; rw [aw_mayZ]; rfl
        rw [e1, e2] at h
        exact h
      · have hB : Begins b o sz := hr0
        have hm := (mayB_iff o).2 hB.1
        obtain ⟨l1, l2, l3, hz⟩ := may_parts (k := o.kind) (z := o.n) (nm := o.name) (tx := o.text) (a := o.at_) hB.1
        refine ⟨o.bytes, sz, _, 0, sz, 0, o.kind, text o.name, text o.text, o.n, text o.at_, rfl, hB.size, hB.2.2.symm, rfl, fun W => ?_, .inl ⟨rfl, rfl, rfl, by rw [hn]; exact hB.2.1⟩⟩
        refine (pPut_any o W (by omega) (by omega)).mono fun e w' hh => ?_
        have h := puts_out hh
        have e1 : o.out = o.bytes := by unfold Opn.out; rw [hm]; rfl
        have e2 : o.err = 0 := by unfold Opn.err; rw [hm]; rfl
        rw [e1, e2, ← hB.size] at h
        exact h
    rw [hget] at HGp HGr
    have HPut := Lib.hid hput
    have HQ := Lib.hid hq
    have HPr := Lib.hid hp
    have HSP := Lib.hid hsp
    clear hget hq hp hsp hput hn hr0
    go_enter Tryd.func4, Tryd.ntmps4
    go_upto_region 6 with (first
      | (go_at_call 8; (with_reducible refine (HPut.out _).mono ?_); rintro e w3 ⟨A9, c9, rfl, r9, b3⟩; have B3 := Lib.hid (B2.out.trans (b3.mono B2.out.size)); have V3 := Lib.hid (V2.out.below b3 V2.out.lt); have X3 := Lib.hid (X2.out.below b3 X2.out.lt))
      | (go_at_call 14; (with_reducible refine (HGr.out _ B1.out).mono ?_); rintro e w2 ⟨rfl, b2⟩; have B2 := Lib.hid ((B1.out.trans (b2.mono B1.out.size)).alloc (Nat.le_trans B1.out.size b2.size) (.cells #[.int .i64 k, .string t1, .string t2, .int .i64 z, .string t3] 23)); have V2 := Lib.hid ((V1.out.below b2 V1.out.lt).alloc (.cells #[.int .i64 k, .string t1, .string t2, .int .i64 z, .string t3] 23)); have X2 := Lib.hid (Blk.new w2 23 #[.int .i64 k, .string t1, .string t2, .int .i64 z, .string t3]); obtain ⟨x0, x1, x2, x3, x4⟩ := blk5 V2.out)
      | (go_at_call 10; (with_reducible refine (HGp.out _ HB0.out).mono ?_); rintro e w1 ⟨rfl, b1⟩; have B1 := Lib.hid (b1.alloc b1.size (.cells #[.int .i64 k, .string t1, .string t2, .int .i64 z, .string t3] 23)); have V1 := Lib.hid (Blk.new w1 23 #[.int .i64 k, .string t1, .string t2, .int .i64 z, .string t3])))
    have P3 : Hid (GeS w w3 w1.heap.size w2.heap.size #[.int .i64 k, .string t1, .string t2, .int .i64 z, .string t3] A9 A OB b) := ⟨B3.out, V3.out, X3.out, r9.out, rb_up7 HR.out B3.out⟩
    obtain ⟨v3, hv3⟩ : ∃ x, x = w1.heap.size := ⟨_, rfl⟩
    obtain ⟨v6, hv6⟩ : ∃ x, x = w2.heap.size := ⟨_, rfl⟩
    rw [← hv3, ← hv6] at P3 ⊢
    clear hv3 hv6 B3 V3 X3 r9 B2 V2 X2 B1 V1 b1 b2 b3 x0 x1 x2 x3 x4 HGp HGr HPut HR HB0
    rcases hcase with ⟨rfl, rfl, rfl, hqn⟩ | ⟨rfl, rfl, rfl, rfl, rfl, rfl, rfl, rfl⟩
    · have f1 : (sz : Int) ≤ (c : Int) := by omega
      have f2 : (0 : Int) ≤ (sz : Int) := by omega
      have f3 : (sz : Int) ≤ (n : Int) := by omega
      have heq : ∀ W, (binOp .eql 23 (.agg #[.int .i64 k, .string t1, .string t2, .int .i64 z, .string t3]) (.agg #[.int .i64 k, .string t1, .string t2, .int .i64 z, .string t3])).run Tryd.prog W = .ok (.bool true) W := fun W => eq_op #[] k z t1 t2 t3 W
      have P0 : GeS w w3.drew v3 v6 #[.int .i64 k, .string t1, .string t2, .int .i64 z, .string t3] A9 A OB b := GeS.up P3.out ⟨rfl, rfl, rfl, Nat.le_refl _, fun _ _ => rfl⟩
      have h0 := GeS.held sz c9 n c sp sb HQ.out HNn.out HPr.out HSP.out HSB.out P0
      clear P3
      go_region_held_law (fun w' => w'.cell? ⟨v3, 0, none⟩ = some (.int .i64 k) ∧ w'.cell? ⟨v3, 1, none⟩ = some (.string t1) ∧ w'.cell? ⟨v3, 2, none⟩ = some (.string t2) ∧ w'.cell? ⟨v3, 3, none⟩ = some (.int .i64 z) ∧ w'.cell? ⟨v3, 4, none⟩ = some (.string t3) ∧ w'.cell? ⟨v6, 0, none⟩ = some (.int .i64 k) ∧ w'.cell? ⟨v6, 1, none⟩ = some (.string t1) ∧ w'.cell? ⟨v6, 2, none⟩ = some (.string t2) ∧ w'.cell? ⟨v6, 3, none⟩ = some (.int .i64 z) ∧ w'.cell? ⟨v6, 4, none⟩ = some (.string t3) ∧ (convert 24 9 (.slice A9 sz c9)).run Tryd.prog w' = .ok (.string sp) w' ∧ (convert 24 9 (.slice A sz c)).run Tryd.prog w' = .ok (.string sp) w' ∧ (convert 24 9 (.slice A n c)).run Tryd.prog w' = .ok (.string sb) w')
        (exact GeS.held sz c9 n c sp sb HQ.out HNn.out HPr.out HSP.out HSB.out (by assumption))
        (first
          | (go_at_call 15; (with_reducible refine (HN1.out _).mono ?_); rintro e x11 ⟨rfl, b11⟩; have P11 : GeS w x11 v3 v6 #[.int .i64 k, .string t1, .string t2, .int .i64 z, .string t3] A9 A OB b := GeS.up (by assumption) b11)
          | (go_at_call 16; (with_reducible refine (HN2.out _).mono ?_); rintro e x12 ⟨rfl, b12⟩; have P12 : GeS w x12 v3 v6 #[.int .i64 k, .string t1, .string t2, .int .i64 z, .string t3] A9 A OB b := GeS.up (by assumption) b12)
          | (go_at_call 7; (with_reducible refine (HAw.out _ (GeS.below (C1 := #[.int .i64 k, .string t1, .string t2, .int .i64 z, .string t3]) (P := OB) (L := b) (v3 := v3) (v6 := v6) (A9 := A9) (A := A) (by assumption))).mono ?_); rintro e x13 ⟨rfl, b13⟩; have P13 : GeS w x13 v3 v6 #[.int .i64 k, .string t1, .string t2, .int .i64 z, .string t3] A9 A OB b := GeS.up (by assumption) b13))
      go_wp2
      go_ret
      exact ⟨rfl, by first | exact GeS.below (by assumption) | exact (GeS.below (by assumption)).drew⟩
    · have hcb : ∀ W, GeS w W v3 v6 #[.int .i64 0, .string { data := #[] }, .string { data := #[] }, .int .i64 0, .string { data := #[] }] A9 A OB b → (convert 24 9 (.slice A n c)).run Tryd.prog W = .ok (.string sb) W := fun W h => (GeS.held q c9 n c sp sb HQ.out HNn.out HPr.out HSP.out HSB.out h).2.2.2.2.2.2.2.2.2.2.2.2
      have S0 : GeS w w3.drew v3 v6 #[.int .i64 0, .string { data := #[] }, .string { data := #[] }, .int .i64 0, .string { data := #[] }] A9 A OB b := GeS.up P3.out ⟨rfl, rfl, rfl, Nat.le_refl _, fun _ _ => rfl⟩
      refine region_T (fun W => GeS w W v3 v6 #[.int .i64 0, .string { data := #[] }, .string { data := #[] }, .int .i64 0, .string { data := #[] }] A9 A OB b) (fun j => decide (42 ≤ j)) (by kernel_rfl) ?_
      refine any_asT rfl (listed' := #[false, false, false, false, false, false, false, false, false, false, false, false, false, false, false, false, false, false, false, false, false, false, false, false, false, false, false, false, false, false, false, false, false, false, false, false, false, false, false, false, false, false, false]) (by kernel_rfl) ?_
      generalize w3.drew = V0 at S0 ⊢
      refine take_d (i := 0) (.agg #[.int .i64 0, .string { data := #[] }, .string { data := #[] }, .int .i64 0, .string { data := #[] }]) 32 rfl (by kernel_rfl) (by kernel_rfl) (by kernel_rfl) (by kernel_rfl) rfl (by kernel_rfl) (by kernel_rfl) (fun W hW => load_run 23 (.tmp 3) v3 0 [.int .i64 0, .string { data := #[] }, .string { data := #[] }, .int .i64 0, .string { data := #[] }] _ (by kernel_rfl) (by kernel_rfl) (blk_range5 hW.var) Tryd.underlying23 rfl (by kernel_rfl) #[.int .i64 0, .string { data := #[] }, .string { data := #[] }, .int .i64 0, .string { data := #[] }] rfl) S0 (fun _ _ _ h => h) ?_
      simp only [Act.put, List.setIfInBounds_toArray, List.set_cons_zero, List.set_cons_succ]
      refine take_d (i := 1) (.agg #[.int .i64 0, .string { data := #[] }, .string { data := #[] }, .int .i64 0, .string { data := #[] }]) 33 rfl (by kernel_rfl) (by kernel_rfl) (by kernel_rfl) (by kernel_rfl) rfl (by kernel_rfl) (by kernel_rfl) (fun W hW => load_run 23 (.tmp 6) v6 0 [.int .i64 0, .string { data := #[] }, .string { data := #[] }, .int .i64 0, .string { data := #[] }] _ (by kernel_rfl) (by kernel_rfl) (blk_range5 hW.xv) Tryd.underlying23 rfl (by kernel_rfl) #[.int .i64 0, .string { data := #[] }, .string { data := #[] }, .int .i64 0, .string { data := #[] }] rfl) S0 (fun _ _ _ h => h) ?_
      simp only [Act.put, List.setIfInBounds_toArray, List.set_cons_zero, List.set_cons_succ]
      refine take_d (i := 2) (.bool true) 34 rfl (by kernel_rfl) (by kernel_rfl) (by kernel_rfl) (by kernel_rfl) rfl (by kernel_rfl) (by kernel_rfl) (fun W hW => oeql_runO (.tmp 32) (.tmp 33) 0 0 { data := #[] } { data := #[] } { data := #[] } (by kernel_rfl) (by kernel_rfl) (by kernel_rfl)) S0 (fun _ _ _ h => h) ?_
      simp only [Act.put, List.setIfInBounds_toArray, List.set_cons_zero, List.set_cons_succ]
      refine take_d (i := 3) (.bool true) 35 rfl (by kernel_rfl) (by kernel_rfl) (by kernel_rfl) (by kernel_rfl) rfl (by kernel_rfl) (by kernel_rfl) (fun W hW => by kernel_rfl) S0 (fun _ _ _ h => h) ?_
      simp only [Act.put, List.setIfInBounds_toArray, List.set_cons_zero, List.set_cons_succ]
      refine take_d (i := 4) (.int .i64 0) 36 rfl (by kernel_rfl) (by kernel_rfl) (by kernel_rfl) (by kernel_rfl) rfl (by kernel_rfl) (by kernel_rfl) (fun W hW => by kernel_rfl) S0 (fun _ _ _ h => h) ?_
      simp only [Act.put, List.setIfInBounds_toArray, List.set_cons_zero, List.set_cons_succ]
      refine take_d (i := 5) (.int .i64 0) 37 rfl (by kernel_rfl) (by kernel_rfl) (by kernel_rfl) (by kernel_rfl) rfl (by kernel_rfl) (by kernel_rfl) (fun W hW => by kernel_rfl) S0 (fun _ _ _ h => h) ?_
      simp only [Act.put, List.setIfInBounds_toArray, List.set_cons_zero, List.set_cons_succ]
      refine take_d (i := 6) (.bool true) 38 rfl (by kernel_rfl) (by kernel_rfl) (by kernel_rfl) (by kernel_rfl) rfl (by kernel_rfl) (by kernel_rfl) (fun W hW => by kernel_rfl) S0 (fun _ _ _ h => h) ?_
      simp only [Act.put, List.setIfInBounds_toArray, List.set_cons_zero, List.set_cons_succ]
      refine take_d (i := 7) (.bool true) 39 rfl (by kernel_rfl) (by kernel_rfl) (by kernel_rfl) (by kernel_rfl) rfl (by kernel_rfl) (by kernel_rfl) (fun W hW => by kernel_rfl) S0 (fun _ _ _ h => h) ?_
      simp only [Act.put, List.setIfInBounds_toArray, List.set_cons_zero, List.set_cons_succ]
      refine take_d (i := 8) (.bool true) 40 rfl (by kernel_rfl) (by kernel_rfl) (by kernel_rfl) (by kernel_rfl) rfl (by kernel_rfl) (by kernel_rfl) (fun W hW => by kernel_rfl) S0 (fun _ _ _ h => h) ?_
      simp only [Act.put, List.setIfInBounds_toArray, List.set_cons_zero, List.set_cons_succ]
      refine take_d (i := 9) (.int .i64 5) 41 rfl (by kernel_rfl) (by kernel_rfl) (by kernel_rfl) (by kernel_rfl) rfl (by kernel_rfl) (by kernel_rfl) (fun W hW => by kernel_rfl) S0 (fun _ _ _ h => h) ?_
      simp only [Act.put, List.setIfInBounds_toArray, List.set_cons_zero, List.set_cons_succ]
      refine take_d (i := 10) (.int .i64 5) 42 rfl (by kernel_rfl) (by kernel_rfl) (by kernel_rfl) (by kernel_rfl) rfl (by kernel_rfl) (by kernel_rfl) (fun W hW => by kernel_rfl) S0 (fun _ _ _ h => h) ?_
      simp only [Act.put, List.setIfInBounds_toArray, List.set_cons_zero, List.set_cons_succ]
      refine take_d (i := 11) (.bool true) 43 rfl (by kernel_rfl) (by kernel_rfl) (by kernel_rfl) (by kernel_rfl) rfl (by kernel_rfl) (by kernel_rfl) (fun W hW => by kernel_rfl) S0 (fun _ _ _ h => h) ?_
      simp only [Act.put, List.setIfInBounds_toArray, List.set_cons_zero, List.set_cons_succ]
      refine take_d (i := 12) (.bool true) 44 rfl (by kernel_rfl) (by kernel_rfl) (by kernel_rfl) (by kernel_rfl) rfl (by kernel_rfl) (by kernel_rfl) (fun W hW => by kernel_rfl) S0 (fun _ _ _ h => h) ?_
      simp only [Act.put, List.setIfInBounds_toArray, List.set_cons_zero, List.set_cons_succ]
      refine take_d (i := 13) (.bool true) 45 rfl (by kernel_rfl) (by kernel_rfl) (by kernel_rfl) (by kernel_rfl) rfl (by kernel_rfl) (by kernel_rfl) (fun W hW => by kernel_rfl) S0 (fun _ _ _ h => h) ?_
      simp only [Act.put, List.setIfInBounds_toArray, List.set_cons_zero, List.set_cons_succ]
      refine take_d (i := 14) (.int .i64 5) 46 rfl (by kernel_rfl) (by kernel_rfl) (by kernel_rfl) (by kernel_rfl) rfl (by kernel_rfl) (by kernel_rfl) (fun W hW => by kernel_rfl) S0 (fun _ _ _ h => h) ?_
      simp only [Act.put, List.setIfInBounds_toArray, List.set_cons_zero, List.set_cons_succ]
      refine take_d (i := 15) (.bool true) 47 rfl (by kernel_rfl) (by kernel_rfl) (by kernel_rfl) (by kernel_rfl) rfl (by kernel_rfl) (by kernel_rfl) (fun W hW => by kernel_rfl) S0 (fun _ _ _ h => h) ?_
      simp only [Act.put, List.setIfInBounds_toArray, List.set_cons_zero, List.set_cons_succ]
      refine take_d (i := 16) (.bool true) 48 rfl (by kernel_rfl) (by kernel_rfl) (by kernel_rfl) (by kernel_rfl) rfl (by kernel_rfl) (by kernel_rfl) (fun W hW => by kernel_rfl) S0 (fun _ _ _ h => h) ?_
      simp only [Act.put, List.setIfInBounds_toArray, List.set_cons_zero, List.set_cons_succ]
      refine skip_d (i := 17) 49 rfl (by kernel_rfl) (by kernel_rfl) (by kernel_rfl) (by kernel_rfl) rfl (by kernel_rfl) (by kernel_rfl) S0 (fun _ _ _ h => h) ?_
      simp only [Act.put, List.setIfInBounds_toArray, List.set_cons_zero, List.set_cons_succ]
      refine skip_d (i := 18) 50 rfl (by kernel_rfl) (by kernel_rfl) (by kernel_rfl) (by kernel_rfl) rfl (by kernel_rfl) (by kernel_rfl) S0 (fun _ _ _ h => h) ?_
      simp only [Act.put, List.setIfInBounds_toArray, List.set_cons_zero, List.set_cons_succ]
      refine skip_d (i := 19) 51 rfl (by kernel_rfl) (by kernel_rfl) (by kernel_rfl) (by kernel_rfl) rfl (by kernel_rfl) (by kernel_rfl) S0 (fun _ _ _ h => h) ?_
      simp only [Act.put, List.setIfInBounds_toArray, List.set_cons_zero, List.set_cons_succ]
      refine skip_d (i := 20) 52 rfl (by kernel_rfl) (by kernel_rfl) (by kernel_rfl) (by kernel_rfl) rfl (by kernel_rfl) (by kernel_rfl) S0 (fun _ _ _ h => h) ?_
      simp only [Act.put, List.setIfInBounds_toArray, List.set_cons_zero, List.set_cons_succ]
      refine skip_d (i := 21) 53 rfl (by kernel_rfl) (by kernel_rfl) (by kernel_rfl) (by kernel_rfl) rfl (by kernel_rfl) (by kernel_rfl) S0 (fun _ _ _ h => h) ?_
      simp only [Act.put, List.setIfInBounds_toArray, List.set_cons_zero, List.set_cons_succ]
      refine skip_d (i := 22) 54 rfl (by kernel_rfl) (by kernel_rfl) (by kernel_rfl) (by kernel_rfl) rfl (by kernel_rfl) (by kernel_rfl) S0 (fun _ _ _ h => h) ?_
      simp only [Act.put, List.setIfInBounds_toArray, List.set_cons_zero, List.set_cons_succ]
      refine skip_d (i := 23) 55 rfl (by kernel_rfl) (by kernel_rfl) (by kernel_rfl) (by kernel_rfl) rfl (by kernel_rfl) (by kernel_rfl) S0 (fun _ _ _ h => h) ?_
      simp only [Act.put, List.setIfInBounds_toArray, List.set_cons_zero, List.set_cons_succ]
      refine skip_d (i := 24) 56 rfl (by kernel_rfl) (by kernel_rfl) (by kernel_rfl) (by kernel_rfl) rfl (by kernel_rfl) (by kernel_rfl) S0 (fun _ _ _ h => h) ?_
      simp only [Act.put, List.setIfInBounds_toArray, List.set_cons_zero, List.set_cons_succ]
      refine skip_d (i := 25) 57 rfl (by kernel_rfl) (by kernel_rfl) (by kernel_rfl) (by kernel_rfl) rfl (by kernel_rfl) (by kernel_rfl) S0 (fun _ _ _ h => h) ?_
      simp only [Act.put, List.setIfInBounds_toArray, List.set_cons_zero, List.set_cons_succ]
      refine skip_d (i := 26) 58 rfl (by kernel_rfl) (by kernel_rfl) (by kernel_rfl) (by kernel_rfl) rfl (by kernel_rfl) (by kernel_rfl) S0 (fun _ _ _ h => h) ?_
      simp only [Act.put, List.setIfInBounds_toArray, List.set_cons_zero, List.set_cons_succ]
      refine skip_d (i := 27) 59 rfl (by kernel_rfl) (by kernel_rfl) (by kernel_rfl) (by kernel_rfl) rfl (by kernel_rfl) (by kernel_rfl) S0 (fun _ _ _ h => h) ?_
      simp only [Act.put, List.setIfInBounds_toArray, List.set_cons_zero, List.set_cons_succ]
      refine take_d (i := 28) (.bool true) 60 rfl (by kernel_rfl) (by kernel_rfl) (by kernel_rfl) (by kernel_rfl) rfl (by kernel_rfl) (by kernel_rfl) (fun W hW => by kernel_rfl) S0 (fun _ _ _ h => h) ?_
      simp only [Act.put, List.setIfInBounds_toArray, List.set_cons_zero, List.set_cons_succ]
      refine take_d (i := 29) (.bool true) 61 rfl (by kernel_rfl) (by kernel_rfl) (by kernel_rfl) (by kernel_rfl) rfl (by kernel_rfl) (by kernel_rfl) (fun W hW => by kernel_rfl) S0 (fun _ _ _ h => h) ?_
      simp only [Act.put, List.setIfInBounds_toArray, List.set_cons_zero, List.set_cons_succ]
      refine take_d (i := 30) (.bool true) 62 rfl (by kernel_rfl) (by kernel_rfl) (by kernel_rfl) (by kernel_rfl) rfl (by kernel_rfl) (by kernel_rfl) (fun W hW => by kernel_rfl) S0 (fun _ _ _ h => h) ?_
      simp only [Act.put, List.setIfInBounds_toArray, List.set_cons_zero, List.set_cons_succ]
      refine take_d (i := 31) (.slice A n c) 63 rfl (by kernel_rfl) (by kernel_rfl) (by kernel_rfl) (by kernel_rfl) rfl (by kernel_rfl) (by kernel_rfl) (fun W hW => by kernel_rfl) S0 (fun _ _ _ h => h) ?_
      simp only [Act.put, List.setIfInBounds_toArray, List.set_cons_zero, List.set_cons_succ]
      refine take_d (i := 34) (.slice A n c) 66 rfl (by kernel_rfl) (by kernel_rfl) (by kernel_rfl) (by kernel_rfl) rfl (by kernel_rfl) (by kernel_rfl) (fun W hW => by kernel_rfl) S0 (fun _ _ _ h => h) ?_
      simp only [Act.put, List.setIfInBounds_toArray, List.set_cons_zero, List.set_cons_succ]
      refine take_d (i := 32) (.string sb) 64 rfl (by kernel_rfl) (by kernel_rfl) (by kernel_rfl) (by kernel_rfl) rfl (by kernel_rfl) (by kernel_rfl) (fun W hW => str_runO (.tmp 63) A n c sb (by kernel_rfl) (by kernel_rfl) (hcb W hW)) S0 (fun _ _ _ h => h) ?_
      simp only [Act.put, List.setIfInBounds_toArray, List.set_cons_zero, List.set_cons_succ]
      refine take_d (i := 35) (.string sb) 67 rfl (by kernel_rfl) (by kernel_rfl) (by kernel_rfl) (by kernel_rfl) rfl (by kernel_rfl) (by kernel_rfl) (fun W hW => str_runO (.tmp 66) A n c sb (by kernel_rfl) (by kernel_rfl) (hcb W hW)) S0 (fun _ _ _ h => h) ?_
      simp only [Act.put, List.setIfInBounds_toArray, List.set_cons_zero, List.set_cons_succ]
      refine any_comes (i := 33) (by kernel_rfl) (op_enter 15 #[.string sb] (some 65) rfl (by kernel_rfl) (by kernel_rfl) (by kernel_rfl) ((HN1.out V0).mono ?_))
      rintro e x11 ⟨rfl, b11⟩
      have S1 := GeS.up S0 b11
      refine ⟨_, rfl, S1, ?_⟩
      simp only [Act.put, List.setIfInBounds_toArray, List.set_cons_zero, List.set_cons_succ]
      refine any_comes (i := 36) (by kernel_rfl) (op_enter 16 #[.string sb] (some 68) rfl (by kernel_rfl) (by kernel_rfl) (by kernel_rfl) ((HN2.out x11).mono ?_))
      rintro e x12 ⟨rfl, b12⟩
      have S2 := GeS.up S1 b12
      refine ⟨_, rfl, S2, ?_⟩
      simp only [Act.put, List.setIfInBounds_toArray, List.set_cons_zero, List.set_cons_succ]
      refine take_d (i := 37) (.bool true) 69 rfl (by kernel_rfl) (by kernel_rfl) (by kernel_rfl) (by kernel_rfl) rfl (by kernel_rfl) (by kernel_rfl) (fun W hW => beql_runO (.tmp 65) (.tmp 68) nb (by kernel_rfl) (by kernel_rfl) (by kernel_rfl)) S2 (fun _ _ _ h => h) ?_
      simp only [Act.put, List.setIfInBounds_toArray, List.set_cons_zero, List.set_cons_succ]
      refine take_d (i := 38) (.bool true) 70 rfl (by kernel_rfl) (by kernel_rfl) (by kernel_rfl) (by kernel_rfl) rfl (by kernel_rfl) (by kernel_rfl) (fun W hW => by kernel_rfl) S2 (fun _ _ _ h => h) ?_
      simp only [Act.put, List.setIfInBounds_toArray, List.set_cons_zero, List.set_cons_succ]
      refine take_d (i := 39) (.bool true) 71 rfl (by kernel_rfl) (by kernel_rfl) (by kernel_rfl) (by kernel_rfl) rfl (by kernel_rfl) (by kernel_rfl) (fun W hW => by kernel_rfl) S2 (fun _ _ _ h => h) ?_
      simp only [Act.put, List.setIfInBounds_toArray, List.set_cons_zero, List.set_cons_succ]
      refine any_comes (i := 40) (by kernel_rfl) (op_enter 7 #[] (some 72) rfl (by kernel_rfl) (by kernel_rfl) (by kernel_rfl) ((HAw.out x12 S2.below).mono ?_))
      rintro e x13 ⟨rfl, b13⟩
      have S3 := GeS.up S2 b13
      refine ⟨_, rfl, S3, ?_⟩
      simp only [Act.put, List.setIfInBounds_toArray, List.set_cons_zero, List.set_cons_succ]
      refine take_d (i := 41) (.bool true) 73 rfl (by kernel_rfl) (by kernel_rfl) (by kernel_rfl) (by kernel_rfl) rfl (by kernel_rfl) (by kernel_rfl) (fun W hW => by kernel_rfl) S3 (fun _ _ _ h => h) ?_
      simp only [Act.put, List.setIfInBounds_toArray, List.set_cons_zero, List.set_cons_succ]
      refine any_left (by kernel_rfl) ?_
      refine wpAny_tail 42 (by kernel_rfl) (by kernel_rfl) ?_
      simp only [List.drop_succ_cons, List.drop_zero]
      go_wp2
      go_ret
      exact ⟨rfl, by first | exact S3.below | exact S3.below.drew⟩
end Go.Proofs.YtpcopmpmcjkamaaDoor
