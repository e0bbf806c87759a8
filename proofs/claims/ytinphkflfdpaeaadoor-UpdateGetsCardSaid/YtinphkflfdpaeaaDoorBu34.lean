/- Lemmas under the proofs of this place: UpPPut, OpPGet, UpRPut. No statement is proved here. -/
import Derived.Test.YtinphkflfdpaeaaDoorBu33
import Derived.Test.YtinphkflfdpaeaaDoorBu31
set_option linter.unusedSimpArgs false
set_option linter.unusedVariables false
set_option maxRecDepth 100000
set_option maxHeartbeats 16000000
namespace Go.Proofs.YtinphkflfdpaeaaDoor
section
open Go.RowKit
theorem upput_any (u : Upd) (A : Option Addr) (c : Nat) (w : World) (hr : SS w w.heap.size A u.preds) (hn : u.preds.length ≤ 1000) (hc : u.preds.length ≤ c) (hcm : c ≤ 9223372036854775807) (ho : u.op.name.length ≤ 1000000) (ho2 : u.op.text.length ≤ 1000000) :
    Calls Tryd.prog 8 #[updV u A c] w (PutsU u w) := by
  have HC : Hid (∀ W, Below w.heap.size w W → Calls Tryd.prog 13 #[updV u A c] W fun e w' => e = .returned (.int .i64 u.check) ∧ Below W.heap.size W w') := fun W hW => upcheck_any u A c W ((hr.below hW).more hW.size) hn hc hcm ho ho2
  by_cases hck : u.check = 0
  · have hok := Upd.check_ok.1 hck
    have HY : Hid (∀ {wb w' : World} {A : Option Addr} {q c : Nat} {e : Ending}, e = .returned (.tuple #[.slice A q c, .int .i64 0]) → PutSt wb w' A q c u.bytes → Below w.heap.size w wb → PutsU u w e w') := fun he hS hb => putsU_yes hck he hS hb
    have HO : Hid (∀ W, Calls Tryd.prog 20 #[opV u.op] W (GivesBytes u.op.bytes W)) := fun W => by
      refine (pPut_any u.op W ho ho2).mono fun e w' hh => ?_
      unfold PutsO at hh
      rwa [if_pos ((mayB_iff _).2 hok.op)] at hh
    have HB := Lib.hid (bytes_head u)
    have h32 := Lib.hid (preds_right hok)
    have hau := hok.author
    have hfew := hok.few
    have hol := Go.Proofs.YtinphkflfdpaeaaDoor.bytes_len hok.op
    have HR : Hid (0 < u.preds.length → ∃ b off, A = some ⟨b, off, none⟩ ∧ b < w.heap.size ∧ ∀ k, k < u.preds.length → w.cell? ⟨b, off + k, none⟩ = some (.string (text (u.preds.getD k [])))) := fun h => hr.at_ h
    have HFl : Hid (∀ k, (u.preds.take k).flatten.length ≤ 32 * k) := fun k => flat_take_le _ h32.out k
    have HSu : Hid (∀ k, k < u.preds.length → (u.preds.take (k + 1)).flatten = (u.preds.take k).flatten ++ u.preds.getD k []) := fun k hk => flat_take_succ _ k hk
    have H3 : Hid (∀ k, k < u.preds.length → (u.preds.getD k []).length = 32) := fun k hk => by
      rw [List.getD, List.getElem?_eq_getElem hk]
      exact h32.out _ (List.getElem_mem hk)
    have HAll : Hid (u.preds.take u.preds.length = u.preds) := List.take_length
    rw [hck] at HC
    obtain ⟨PU, hPU⟩ : ∃ P, P = PutsU u w := ⟨_, rfl⟩
    rw [← hPU] at HY ⊢
    obtain ⟨UB, hUB⟩ : ∃ P, P = u.bytes := ⟨_, rfl⟩
    rw [← hUB] at HY HB
    clear hPU hUB hck hok hr ho ho2 hn hc hcm h32
    obtain ⟨a, p, k, nm, tx, z, x⟩ := u
    simp only at *
    obtain ⟨t1, h1⟩ : ∃ t, t = text nm := ⟨_, rfl⟩
    obtain ⟨t2, h2⟩ : ∃ t, t = text tx := ⟨_, rfl⟩
    obtain ⟨t3, h3⟩ : ∃ t, t = text x := ⟨_, rfl⟩
    obtain ⟨n, hnn⟩ : ∃ n, n = p.length := ⟨_, rfl⟩
    obtain ⟨OB, hOB⟩ : ∃ n, n = Opn.bytes ⟨k, nm, tx, z, x⟩ := ⟨_, rfl⟩
    rw [← hOB] at HO HB hol
    have eV : opV ⟨k, nm, tx, z, x⟩ = .agg #[.int .i64 k, .string t1, .string t2, .int .i64 z, .string t3] := by rw [h1, h2, h3]; rfl
    rw [eV] at HO
    have eU : updV ⟨a, p, k, nm, tx, z, x⟩ A c = .agg #[.int .i64 a, .slice A n c, .int .i64 k, .string t1, .string t2, .int .i64 z, .string t3] := by rw [h1, h2, h3, hnn]; rfl
    rw [eU] at HC ⊢
    rw [← hnn] at HB HR HSu H3 HAll hfew
    have HN := Lib.hid hnn
    clear h1 h2 h3 hnn eV eU hOB
    have hb0 : Below w.heap.size w (w.alloc (.cells #[.int .i64 a, .slice A n c, .int .i64 k, .string t1, .string t2, .int .i64 z, .string t3] 26)) := (Below.refl _ _).alloc (Nat.le_refl _) _
    have hK := Lib.hid (Blk.new w 26 #[.int .i64 a, .slice A n c, .int .i64 k, .string t1, .string t2, .int .i64 z, .string t3])
    have HB0 := Lib.hid hb0
    clear hb0
    have a23 := fun w' => Tryd.opAgg w'
    have s23 := fun w' => Tryd.opSize w'
    have a26 := fun w' => Tryd.updAgg w'
    have s26 := fun w' => Tryd.updSize w'
    have u1 : IntKind.u8.wrap a = a := by rw [IntKind.wrap_u8']; omega
    have u2 : IntKind.u8.wrap (n : Int) = (n : Int) := by rw [IntKind.wrap_u8']; omega
    obtain ⟨kl, k0, k1, k2, k3, k4, k5, k6, kf⟩ := updC_of hK.out
    go_enter Tryd.func8, Tryd.ntmps8
    go_wp2_with (go_at_call 13; (with_reducible refine (HC.out _ HB0.out).mono ?_); rintro e w1 ⟨rfl, b1⟩; have hK1 := Lib.hid (hK.out.below b1 kl); obtain ⟨ml, m0, m1, m2, m3, m4, m5, m6, mf⟩ := updC_of hK1.out)
    have hH := head_new (w.alloc (.cells #[.int .i64 a, .slice A n c, .int .i64 k, .string t1, .string t2, .int .i64 z, .string t3] 26)) w1 a n hau (by omega) b1
    obtain ⟨w2, hw2⟩ : ∃ w2, w2 = w1.alloc (.cells #[.int .u8 a, .int .u8 (n : Int)] 5) := ⟨_, rfl⟩
    rw [← hw2] at hH ⊢
    obtain ⟨wb, hwb⟩ : ∃ wb, wb = w.alloc (.cells #[.int .i64 a, .slice A n c, .int .i64 k, .string t1, .string t2, .int .i64 z, .string t3] 26) := ⟨_, rfl⟩
    have hpl : w.heap.size < wb.heap.size := by rw [hwb]; exact kl
    rw [← hwb] at hH hK HB0
    have hhl : (headU a n).length = 2 := rfl
    obtain ⟨X0, hX0⟩ : ∃ X, X = headU a n := ⟨_, rfl⟩
    rw [← hX0] at hH HB hhl
    have HH := Lib.hid hH
    have HX := Lib.hid hhl
    clear hw2 hwb hX0 hH HC k0 k1 k2 k3 k4 k5 k6 kf kl hK1 ml m0 m1 m2 m3 m4 m5 m6 mf b1 hhl
    go_loopw [5, 26] (fun v i wr => ∃ (j q : Nat) (A2 : Option Addr) (c2 : Nat), j ≤ n ∧ v = .slice A2 q c2 ∧ i = .int .i64 (j : Int) ∧ Hid (PutSt wb wr A2 q c2 (X0 ++ (p.take j).flatten))) (fun v i _ => n - (intOf i).toNat)
    case atStart => exact ⟨0, 2, _, 2, by omega, rfl, rfl, by have h := HH.out; show PutSt _ _ _ _ _ (X0 ++ []); rw [List.append_nil]; exact h⟩
    case round =>
      obtain ⟨j, q, A2, c2, hj, rfl, rfl, HS⟩ := hrel
      have hb := HS.out.2.2
      have hK1 := Lib.hid (hK.out.below hb hpl)
      obtain ⟨ml, m0, m1, m2, m3, m4, m5, m6, mf⟩ := updC_of hK1.out
      by_cases hlt : j < n
      · have d0 : decide ((j : Int) < (n : Int)) = true := decide_eq_true (by omega)
        have hjp : j < p.length := by have := HN.out; omega
        obtain ⟨bk, off, rfl, hbB, hcs⟩ := HR.out (by omega)
        have hc := (HB0.out.trans (hb.mono HB0.out.size)).cell (p := ⟨bk, off + j, none⟩) (show bk < w.heap.size by omega)
        rw [hcs j hlt] at hc
        have HL := Lib.hid (HSu.out j hlt)
        have h32 := H3.out j hlt
        generalize p.getD j [] = L at hc HL h32
        obtain ⟨t, ht⟩ : ∃ t, t = text L := ⟨_, rfl⟩
        rw [← ht] at hc
        have HT := Lib.hid ht
        have hlen : (X0 ++ (p.take j).flatten).length + L.length ≤ 1000 := by
          have h1 := HX.out
          have h2 := HFl.out j
          rw [List.length_append]
          omega
        have i0 : (0 : Int) ≤ (j : Int) := by omega
        have i1 : (j : Int) < (n : Int) := by omega
        clear ht hcs hb
        go_wp2_with (at_builtin; refine append_str rfl (.tmp 30) (.tmp 31) rfl rfl HS.out (by rw [← HT.out]; rfl) (by omega) ?_; intro A4 q4 c4 w4 hS4)
        go_roundw
        case rel => exact ⟨j + 1, q4, A4, c4, by omega, rfl, by go_num, by have h := hS4.out; rw [HL.out, ← List.append_assoc]; exact h⟩
        case measure => simp [intOf]; omega
      · have d0 : decide ((j : Int) < (n : Int)) = false := decide_eq_false (by omega)
        have hjn : j = n := by omega
        rw [hjn, HAll.out] at HS
        have hlen : (X0 ++ p.flatten).length ≤ 1000 := by
          have h1 := HX.out
          have h2 := HFl.out n
          rw [HAll.out] at h2
          rw [List.length_append]
          omega
        clear hb
        go_wp2_with (first
          | (at_builtin; refine append_more rfl (.tmp 40) (.tmp 41) rfl rfl hS5.out rfl r5 rfl (by omega) ?_; intro A6 q6 c6 w6 hS6)
          | (go_at_call 20; (with_reducible refine (HO.out _).mono ?_); rintro e w5 ⟨A5, c5, rfl, ho5, hb5⟩; have hS5 := Lib.hid (HS.out.up hb5); have r5 := own_rb ho5))
        (try go_ret2)
        have h := hS6.out
        rw [← HB.out] at h
        exact HY.out rfl h HB0.out
  · obtain ⟨y, hy⟩ : ∃ y, y = u.check := ⟨_, rfl⟩
    have HN : Hid (∀ {w' : World} {e : Ending}, e = .returned (.tuple #[.slice none 0 0, .int .i64 y]) → Below w.heap.size w w' → PutsU u w e w') := fun he hb => putsU_no hck (by rw [he, hy]) hb
    obtain ⟨PU, hPU⟩ : ∃ P, P = PutsU u w := ⟨_, rfl⟩
    rw [← hPU] at HN ⊢
    rw [← hy] at HC hck
    clear hPU hy hr ho ho2 hn hc hcm
    obtain ⟨a, p, k, nm, tx, z, x⟩ := u
    obtain ⟨t1, h1⟩ : ∃ t, t = text nm := ⟨_, rfl⟩
    obtain ⟨t2, h2⟩ : ∃ t, t = text tx := ⟨_, rfl⟩
    obtain ⟨t3, h3⟩ : ∃ t, t = text x := ⟨_, rfl⟩
    obtain ⟨n, hnn⟩ : ∃ n, n = p.length := ⟨_, rfl⟩
    have eU : updV ⟨a, p, k, nm, tx, z, x⟩ A c = .agg #[.int .i64 a, .slice A n c, .int .i64 k, .string t1, .string t2, .int .i64 z, .string t3] := by rw [h1, h2, h3, hnn]; rfl
    rw [eU] at HC ⊢
    clear h1 h2 h3 hnn eU
    have hb0 : Below w.heap.size w (w.alloc (.cells #[.int .i64 a, .slice A n c, .int .i64 k, .string t1, .string t2, .int .i64 z, .string t3] 26)) := (Below.refl _ _).alloc (Nat.le_refl _) _
    have HB0 := Lib.hid hb0
    clear hb0
    have a26 := fun w' => Tryd.updAgg w'
    have s26 := fun w' => Tryd.updSize w'
    have hyd : decide (y = 0) = false := decide_eq_false hck
    go_enter Tryd.func8, Tryd.ntmps8
    go_wp2_with (go_at_call 13; (with_reducible refine (HC.out _ HB0.out).mono ?_); rintro e w1 ⟨rfl, b1⟩)
    (try go_ret2)
    exact HN.out rfl (chainU HB0.out b1)
end
section
open Go.RowKit
theorem op_end {w W E : World} {R : Nat} {a0 a1 a2 a3 a4 v0 v1 v2 v3 v4 : Value} (hb : Below w.heap.size w W) (K : Blk W R 24 #[a0, a1, a2, a3, a4]) (hR : w.heap.size ≤ R) (hE : E = ((((W.setCell ⟨R, 0, none⟩ v0).setCell ⟨R, 1, none⟩ v1).setCell ⟨R, 2, none⟩ v2).setCell ⟨R, 3, none⟩ v3).setCell ⟨R, 4, none⟩ v4) :
    (E.cell? ⟨R, 0, none⟩ = some v0 ∧ E.cell? ⟨R, 1, none⟩ = some v1 ∧ E.cell? ⟨R, 2, none⟩ = some v2 ∧ E.cell? ⟨R, 3, none⟩ = some v3 ∧ E.cell? ⟨R, 4, none⟩ = some v4) ∧ Below w.heap.size w E := by
  have K' := ((((K.set_ 0 v0).set_ 1 v1).set_ 2 v2).set_ 3 v3).set_ 4 v4
  have s : ∀ (V : World) (i : Nat) (u : Value), Below w.heap.size w V → Below w.heap.size w (V.setCell ⟨R, i, none⟩ u) := fun V i u hv =>
    hv.trans ⟨rfl, rfl, rfl, by simp [World.setCell], fun k hk => Below.heap_setCell V ⟨R, i, none⟩ u k (fun e => by have e2 : k = R := e; omega)⟩
  have hb' := s _ 4 v4 (s _ 3 v3 (s _ 2 v2 (s _ 1 v1 (s _ 0 v0 hb))))
  rw [← hE] at K' hb'
  exact ⟨⟨K'.cell 0, K'.cell 1, K'.cell 2, K'.cell 3, K'.cell 4⟩, hb'⟩
structure GetSt (w0 W : World) (P : Nat) (A : Option Addr) (b : List UInt8) (k : Int) (t1 t2 : ByteArray) (z : Int) (t3 : ByteArray) : Prop where
  below : Below w0.heap.size w0 W
  var : Blk W P 24 (opC k t1 t2 z t3)
  res : Blk W w0.heap.size 24 (opC 0 { data := #[] } { data := #[] } 0 { data := #[] })
  arg : RB W w0.heap.size A b
  pw : w0.heap.size < P
theorem GetSt.up {w0 W W' : World} {P : Nat} {A : Option Addr} {b : List UInt8} {k z : Int} {t1 t2 t3 : ByteArray} (h : GetSt w0 W P A b k t1 t2 z t3) (hb : Below W.heap.size W W') : GetSt w0 W' P A b k t1 t2 z t3 :=
  ⟨h.below.trans (hb.mono h.below.size), h.var.below hb h.var.lt, h.res.below hb h.res.lt, h.arg.below (hb.mono h.below.size), h.pw⟩
theorem GetSt.cells {w0 W : World} {P : Nat} {A : Option Addr} {b : List UInt8} {k z : Int} {t1 t2 t3 : ByteArray} (h : GetSt w0 W P A b k t1 t2 z t3) : RdC P w0.heap.size W k t1 t2 z t3 :=
  ⟨h.var.lt, h.res.lt, h.var.cell 0, h.var.cell 1, h.var.cell 2, h.var.cell 3, h.var.cell 4, h.var.frozen, h.res.cell 0, h.res.cell 1, h.res.cell 2, h.res.cell 3, h.res.cell 4, h.res.frozen⟩
theorem pget_any (b : List UInt8) (n : Nat) (A : Option Addr) (c : Nat) (w : World) (hn : n = b.length) (hr : RB w w.heap.size A b) (hc : n ≤ c) (hcm : c ≤ 9223372036854775807) (hl : n ≤ 1000000) :
    Calls Tryd.prog 28 #[.slice A n c] w (GivesGet b w) := by
  obtain ⟨o, ho⟩ : ∃ o, o = (readO (some (b.take 96))).2 := ⟨_, rfl⟩
  obtain ⟨lo1, lo2, lo3⟩ := readO_len (some (b.take 96))
  rw [← ho] at lo1 lo2 lo3
  obtain ⟨m, hm⟩ : ∃ m, m = (b.take 96).length := ⟨_, rfl⟩
  have hm2 : m = min n 96 := by rw [hm, List.length_take, hn, Nat.min_comm]
  have hmi : min (n : Int) 96 = (m : Int) := by omega
  have hmi2 : (if (96 : Int) < (n : Int) then (96 : Int) else (n : Int)) = (m : Int) := by split <;> omega
  have hmn : m ≤ n := by omega
  have hmn' : (m : Int) ≤ (n : Int) := by omega
  have hmc : (m : Int) ≤ (c : Int) := by omega
  have HF : Hid (∀ W, Below w.heap.size w W → Calls Tryd.prog 22 #[.slice A m c] W fun e w' => ∃ g, e = .returned (.pointer (some ⟨g, 0, none⟩)) ∧ Hid (W.heap.size ≤ g) ∧ Hid (Cur w' g (some (b.take 96))) ∧ Hid (Below W.heap.size W w')) := fun W hW => by
    rw [hm]
    refine (from_any (b.take 96) A c W ((rb_takeO ((hr.below hW).more hW.size) 96)) (by rw [List.length_take]; omega)).mono fun e w' hh => ?_
    obtain ⟨g, q1, q2, q3, q4⟩ := hh
    exact ⟨g, q1, q2, q3, q4⟩
  have HRd : Hid (∀ W B g, CurB B W g (some (b.take 96)) → B ≤ W.heap.size → Calls Tryd.prog 55 #[.pointer (some ⟨g, 0, none⟩)] W fun e w' => e = .returned (opV o) ∧ Only W w' g) := fun W B g h1 h2 => by
    have := pread_any B g _ W h1 h2
    rw [← ho] at this
    exact this
  have HP : Hid (∀ W, Calls Tryd.prog 20 #[opV o] W (PutsO o W)) := fun W => pPut_any o W (by omega) (by omega)
  have HN : Hid (o.mayB = false ∨ preB b o.bytes = false → GetsO b none) := fun h => gets_no ho h
  have HY : Hid (o.mayB = true → preB b o.bytes = true → GetsO b (some (o, o.bytes.length))) := fun h1 h2 => gets_yes h1 h2
  have LB : Hid (o.mayB = true → o.bytes.length ≤ 96) := fun h => bytes_len ((mayB_iff o).1 h)
  have HR := Lib.hid (Blk.new w 24 (opC 0 { data := #[] } { data := #[] } 0 { data := #[] }))
  have HB0 := Lib.hid (show Below w.heap.size w (w.alloc (.cells (opC 0 { data := #[] } { data := #[] } 0 { data := #[] }) 24)) from (Below.refl _ _).alloc (Nat.le_refl _) _)
  have HA := Lib.hid hr
  have HNn := Lib.hid hn
  clear ho lo1 lo2 lo3 hm hm2 hr hn
  obtain ⟨k, nm, tx, z, a⟩ := o
  obtain ⟨t1, h1⟩ : ∃ t, t = text nm := ⟨_, rfl⟩
  obtain ⟨t2, h2⟩ : ∃ t, t = text tx := ⟨_, rfl⟩
  obtain ⟨t3, h3⟩ : ∃ t, t = text a := ⟨_, rfl⟩
  have eV : opV ⟨k, nm, tx, z, a⟩ = .agg #[.int .i64 k, .string t1, .string t2, .int .i64 z, .string t3] := by rw [h1, h2, h3]; rfl
  rw [eV] at HRd HP
  have EV := Lib.hid eV
  clear eV h1 h2 h3
  obtain ⟨o, hoo⟩ : ∃ o : Opn, o = ⟨k, nm, tx, z, a⟩ := ⟨_, rfl⟩
  rw [← hoo] at HP HN HY LB EV
  clear hoo
  have nb := fun w' => Tryd.opZero w'
  have a23 := fun w' => Tryd.opAgg w'
  have s23 := fun w' => Tryd.opSize w'
  go_enter Tryd.func28, Tryd.ntmps28
  go_upto_region 2 with (first
    | (go_at_call 22; (with_reducible refine (HF.out _ HB0.out).mono ?_); rintro e w1 ⟨g, rfl, hg1, hc1, hb1⟩)
    | (go_at_call 55; (with_reducible refine (HRd.out _ _ _ hc1.out.at_ (Nat.le_refl _)).mono ?_); rintro e w2 ⟨rfl, ho2⟩; have HO2 := Lib.hid ho2))
  have hS : Hid (GetSt w (w2.alloc (.cells #[.int .i64 k, .string t1, .string t2, .int .i64 z, .string t3] 24)) w2.heap.size A b k t1 t2 z t3) := by
    have z0 : (w.alloc (.cells (opC 0 { data := #[] } { data := #[] } 0 { data := #[] }) 24)).heap.size = w.heap.size + 1 := by simp
    have hg := hg1.out
    rw [z0] at hg
    have z1 := hb1.out.size
    rw [z0] at z1
    have z2 := HO2.out.size
    have hB1 : Below w.heap.size w w1 := HB0.out.trans (hb1.out.mono (by rw [z0]; omega))
    have hB2 : Below w.heap.size w w2 := below_only hB1 HO2.out (by omega) (by omega)
    refine ⟨hB2.alloc (by omega) _, Blk.new _ _ _, ?_, HA.out.below (hB2.alloc (by omega) _), by omega⟩
    have r1 := HR.out.below hb1.out (by rw [z0]; omega)
    exact (r1.only HO2.out (by omega)).alloc _
  obtain ⟨P, hP⟩ : ∃ x, x = w2.heap.size := ⟨_, rfl⟩
  obtain ⟨wp, hwp⟩ : ∃ x, x = w2.alloc (.cells #[.int .i64 k, .string t1, .string t2, .int .i64 z, .string t3] 24) := ⟨_, rfl⟩
  rw [← hwp, ← hP] at hS ⊢
  clear hwp hP HF HRd HO2 ho2 hc1 hb1 hg1 HR HB0 HA
  obtain ⟨pl, rl, p0, p1, p2, p3, p4, pf, r0, r1, r2, r3, r4, rf⟩ := hS.out.cells
  cases hmay : o.mayB with
  | false =>
    have HP2 : Hid (∀ W, Calls Tryd.prog 20 #[.agg #[.int .i64 k, .string t1, .string t2, .int .i64 z, .string t3]] W fun e w' => e = .returned (.tuple #[.slice none 0 0, .int .i64 1]) ∧ Below W.heap.size W w') := fun W => (HP.out W).mono fun e w' hh => by
      unfold PutsO at hh
      rw [hmay, if_neg (by simp)] at hh
      exact hh
    have HN2 := Lib.hid (HN.out (.inl hmay))
    clear hmay HP HN HY LB
    go_wp2_with (first
      | (go_at_call 20; (with_reducible refine (HP2.out _).mono ?_); rintro e w3 ⟨rfl, b3⟩; have hS3 := Lib.hid (hS.out.up b3); clear pl rl p0 p1 p2 p3 p4 pf r0 r1 r2 r3 r4 rf; obtain ⟨pl, rl, p0, p1, p2, p3, p4, pf, r0, r1, r2, r3, r4, rf⟩ := hS3.out.cells))
    obtain ⟨E, hE⟩ : ∃ E, E = ((((w3.setCell ⟨w.heap.size, 0, none⟩ (.int .i64 0)).setCell ⟨w.heap.size, 1, none⟩ (.string { data := #[] })).setCell ⟨w.heap.size, 2, none⟩ (.string { data := #[] })).setCell ⟨w.heap.size, 3, none⟩ (.int .i64 0)).setCell ⟨w.heap.size, 4, none⟩ (.string { data := #[] }) := ⟨_, rfl⟩
    obtain ⟨⟨y0, y1, y2, y3, y4⟩, hbE⟩ := op_end hS3.out.below hS3.out.res (Nat.le_refl _) hE
    rw [← hE]
    refine bodyPost_ret (v := .tuple #[.agg #[.int .i64 0, .string { data := #[] }, .string { data := #[] }, .int .i64 0, .string { data := #[] }], .int .i64 0, .int .i64 5]) (by simp [results, Tryd.results28, go_sem, y0, y1, y2, y3, y4]) rfl ?_
    exact ⟨⟨none, HN2.out, rfl⟩, hbE⟩
  | true =>
    obtain ⟨q, hq⟩ : ∃ q, q = o.bytes.length := ⟨_, rfl⟩
    have hq96 : q ≤ 96 := by rw [hq]; exact LB.out hmay
    have HP2 : Hid (∀ W, Calls Tryd.prog 20 #[.agg #[.int .i64 k, .string t1, .string t2, .int .i64 z, .string t3]] W fun e w' => ∃ A4 c4, e = .returned (.tuple #[.slice A4 q c4, .int .i64 0]) ∧ Hid (RB w' w'.heap.size A4 o.bytes) ∧ Hid (Below W.heap.size W w')) := fun W => (HP.out W).mono fun e w' hh => by
      unfold PutsO at hh
      rw [hmay, if_pos rfl] at hh
      obtain ⟨A4, c4, q1, q2, q3⟩ := hh
      exact ⟨A4, c4, by rw [hq]; exact q1, own_rb q2, q3⟩
    obtain ⟨bo, hbo⟩ : ∃ bo, bo = preB b o.bytes := ⟨_, rfl⟩
    have HX : Hid (∀ W C d, RB W W.heap.size A b → RB W W.heap.size C o.bytes → Calls Tryd.prog 56 #[.slice A n c, .slice C q d] W fun e w' => e = .returned (.bool bo) ∧ Below W.heap.size W w') := fun W C d h1 h2 => by
      rw [hbo]
      exact hasPrefix_any b o.bytes n q A C c d W HNn.out hq h1 h2 hc hcm hl (by omega)
    cases bo with
    | false =>
      have HN2 := Lib.hid (HN.out (.inr hbo.symm))
      clear hmay HP HN HY LB hbo hq
      go_wp2_with (first
        | (go_at_call 20; (with_reducible refine (HP2.out _).mono ?_); rintro e w3 ⟨A4, c4, rfl, r3', b3⟩; have hS3 := Lib.hid (hS.out.up b3.out); clear pl rl p0 p1 p2 p3 p4 pf r0 r1 r2 r3 r4 rf; obtain ⟨pl, rl, p0, p1, p2, p3, p4, pf, r0, r1, r2, r3, r4, rf⟩ := hS3.out.cells)
        | (go_at_call 56; (with_reducible refine (HX.out _ _ _ (hS3.out.arg.more hS3.out.below.size) r3'.out).mono ?_); rintro e w4 ⟨rfl, b4⟩; have hS4 := Lib.hid (hS3.out.up b4); clear pl rl p0 p1 p2 p3 p4 pf r0 r1 r2 r3 r4 rf; obtain ⟨pl, rl, p0, p1, p2, p3, p4, pf, r0, r1, r2, r3, r4, rf⟩ := hS4.out.cells))
      obtain ⟨E, hE⟩ : ∃ E, E = ((((w4.setCell ⟨w.heap.size, 0, none⟩ (.int .i64 0)).setCell ⟨w.heap.size, 1, none⟩ (.string { data := #[] })).setCell ⟨w.heap.size, 2, none⟩ (.string { data := #[] })).setCell ⟨w.heap.size, 3, none⟩ (.int .i64 0)).setCell ⟨w.heap.size, 4, none⟩ (.string { data := #[] }) := ⟨_, rfl⟩
      obtain ⟨⟨y0, y1, y2, y3, y4⟩, hbE⟩ := op_end hS4.out.below hS4.out.res (Nat.le_refl _) hE
      rw [← hE]
      refine bodyPost_ret (v := .tuple #[.agg #[.int .i64 0, .string { data := #[] }, .string { data := #[] }, .int .i64 0, .string { data := #[] }], .int .i64 0, .int .i64 5]) (by simp [results, Tryd.results28, go_sem, y0, y1, y2, y3, y4]) rfl ?_
      exact ⟨⟨none, HN2.out, rfl⟩, hbE⟩
    | true =>
      have HY2 := Lib.hid (HY.out hmay hbo.symm)
      have HQ := Lib.hid hq
      clear hmay HP HN HY LB hbo hq
      go_wp2_with (first
        | (go_at_call 20; (with_reducible refine (HP2.out _).mono ?_); rintro e w3 ⟨A4, c4, rfl, r3', b3⟩; have hS3 := Lib.hid (hS.out.up b3.out); clear pl rl p0 p1 p2 p3 p4 pf r0 r1 r2 r3 r4 rf; obtain ⟨pl, rl, p0, p1, p2, p3, p4, pf, r0, r1, r2, r3, r4, rf⟩ := hS3.out.cells)
        | (go_at_call 56; (with_reducible refine (HX.out _ _ _ (hS3.out.arg.more hS3.out.below.size) r3'.out).mono ?_); rintro e w4 ⟨rfl, b4⟩; have hS4 := Lib.hid (hS3.out.up b4); clear pl rl p0 p1 p2 p3 p4 pf r0 r1 r2 r3 r4 rf; obtain ⟨pl, rl, p0, p1, p2, p3, p4, pf, r0, r1, r2, r3, r4, rf⟩ := hS4.out.cells))
      obtain ⟨E, hE⟩ : ∃ E, E = ((((w4.setCell ⟨w.heap.size, 0, none⟩ (.int .i64 k)).setCell ⟨w.heap.size, 1, none⟩ (.string t1)).setCell ⟨w.heap.size, 2, none⟩ (.string t2)).setCell ⟨w.heap.size, 3, none⟩ (.int .i64 z)).setCell ⟨w.heap.size, 4, none⟩ (.string t3) := ⟨_, rfl⟩
      obtain ⟨⟨y0, y1, y2, y3, y4⟩, hbE⟩ := op_end hS4.out.below hS4.out.res (Nat.le_refl _) hE
      rw [← hE]
      refine bodyPost_ret (v := .tuple #[.agg #[.int .i64 k, .string t1, .string t2, .int .i64 z, .string t3], .int .i64 (q : Int), .int .i64 0]) (by simp [results, Tryd.results28, go_sem, y0, y1, y2, y3, y4]) rfl ?_
      exact ⟨⟨_, HY2.out, by show _ = Ending.returned (.tuple #[opV o, .int .i64 ((o.bytes.length : Nat) : Int), .int .i64 0]); rw [EV.out, HQ.out]⟩, hbE⟩
end
section
open Go.RowKit
theorem ruput_any (u : Upd) (A : Option Addr) (c B : Nat) (w : World) (hr : SS w B A u.preds) (hB : B ≤ w.heap.size) (hn : u.preds.length ≤ 1000000) (ho : u.op.name.length ≤ 1000000) :
    Calls Tryd.prog 9 #[updV u A c] w (PutsU u w) := by
  have HC : Hid (∀ W, Below w.heap.size w W → Calls Tryd.prog 19 #[updV u A c] W fun e w' => e = .returned (.int .i64 u.check) ∧ Below W.heap.size W w') := fun W hW => rucheck_any u A c B W (hr.below (hW.mono hB)) (Nat.le_trans hB hW.size) hn ho
  by_cases hck : u.check = 0
  · have hok := Upd.check_ok.1 hck
    have HY : Hid (∀ {wb w' : World} {A : Option Addr} {q c : Nat} {e : Ending}, e = .returned (.tuple #[.slice A q c, .int .i64 0]) → PutSt wb w' A q c u.bytes → Below w.heap.size w wb → PutsU u w e w') := fun he hS hb => putsU_yes hck he hS hb
    have HO : Hid (∀ W, Calls Tryd.prog 21 #[opV u.op] W (GivesBytes u.op.bytes W)) := fun W => by
      refine (rPut_any u.op W ho).mono fun e w' hh => ?_
      unfold PutsO at hh
      rwa [if_pos ((mayB_iff _).2 hok.op)] at hh
    have HB := Lib.hid (bytes_head u)
    have h32 := Lib.hid (preds_right hok)
    have hau := hok.author
    have hfew := hok.few
    have hol := Go.Proofs.YtinphkflfdpaeaaDoor.bytes_len hok.op
    have HR : Hid (0 < u.preds.length → ∃ b off, A = some ⟨b, off, none⟩ ∧ b < B ∧ ∀ k, k < u.preds.length → w.cell? ⟨b, off + k, none⟩ = some (.string (text (u.preds.getD k [])))) := fun h => hr.at_ h
    have HFl : Hid (∀ k, (u.preds.take k).flatten.length ≤ 32 * k) := fun k => flat_take_le _ h32.out k
    have HSu : Hid (∀ k, k < u.preds.length → (u.preds.take (k + 1)).flatten = (u.preds.take k).flatten ++ u.preds.getD k []) := fun k hk => flat_take_succ _ k hk
    have H3 : Hid (∀ k, k < u.preds.length → (u.preds.getD k []).length = 32) := fun k hk => by
      rw [List.getD, List.getElem?_eq_getElem hk]
      exact h32.out _ (List.getElem_mem hk)
    have HAll : Hid (u.preds.take u.preds.length = u.preds) := List.take_length
    rw [hck] at HC
    obtain ⟨PU, hPU⟩ : ∃ P, P = PutsU u w := ⟨_, rfl⟩
    rw [← hPU] at HY ⊢
    obtain ⟨UB, hUB⟩ : ∃ P, P = u.bytes := ⟨_, rfl⟩
    rw [← hUB] at HY HB
    clear hPU hUB hck hok hr ho hn h32
    obtain ⟨a, p, k, nm, tx, z, x⟩ := u
    simp only at *
    obtain ⟨t1, h1⟩ : ∃ t, t = text nm := ⟨_, rfl⟩
    obtain ⟨t2, h2⟩ : ∃ t, t = text tx := ⟨_, rfl⟩
    obtain ⟨t3, h3⟩ : ∃ t, t = text x := ⟨_, rfl⟩
    obtain ⟨n, hnn⟩ : ∃ n, n = p.length := ⟨_, rfl⟩
    obtain ⟨OB, hOB⟩ : ∃ n, n = Opn.bytes ⟨k, nm, tx, z, x⟩ := ⟨_, rfl⟩
    rw [← hOB] at HO HB hol
    have eV : opV ⟨k, nm, tx, z, x⟩ = .agg #[.int .i64 k, .string t1, .string t2, .int .i64 z, .string t3] := by rw [h1, h2, h3]; rfl
    rw [eV] at HO
    have eU : updV ⟨a, p, k, nm, tx, z, x⟩ A c = .agg #[.int .i64 a, .slice A n c, .int .i64 k, .string t1, .string t2, .int .i64 z, .string t3] := by rw [h1, h2, h3, hnn]; rfl
    rw [eU] at HC ⊢
    rw [← hnn] at HB HR HSu H3 HAll hfew
    have HN := Lib.hid hnn
    clear h1 h2 h3 hnn eV eU hOB
    have hb0 : Below w.heap.size w (w.alloc (.cells #[.int .i64 a, .slice A n c, .int .i64 k, .string t1, .string t2, .int .i64 z, .string t3] 26)) := (Below.refl _ _).alloc (Nat.le_refl _) _
    have hK := Lib.hid (Blk.new w 26 #[.int .i64 a, .slice A n c, .int .i64 k, .string t1, .string t2, .int .i64 z, .string t3])
    have HB0 := Lib.hid hb0
    clear hb0
    have a23 := fun w' => Tryd.opAgg w'
    have s23 := fun w' => Tryd.opSize w'
    have a26 := fun w' => Tryd.updAgg w'
    have s26 := fun w' => Tryd.updSize w'
    have u1 : IntKind.u8.wrap a = a := by rw [IntKind.wrap_u8']; omega
    have u2 : IntKind.u8.wrap (n : Int) = (n : Int) := by rw [IntKind.wrap_u8']; omega
    obtain ⟨kl, k0, k1, k2, k3, k4, k5, k6, kf⟩ := updC_of hK.out
    go_enter Tryd.func9, Tryd.ntmps9
    go_wp2_with (go_at_call 19; (with_reducible refine (HC.out _ HB0.out).mono ?_); rintro e w1 ⟨rfl, b1⟩; have hK1 := Lib.hid (hK.out.below b1 kl); obtain ⟨ml, m0, m1, m2, m3, m4, m5, m6, mf⟩ := updC_of hK1.out)
    have hH := head_new (w.alloc (.cells #[.int .i64 a, .slice A n c, .int .i64 k, .string t1, .string t2, .int .i64 z, .string t3] 26)) w1 a n hau (by omega) b1
    obtain ⟨w2, hw2⟩ : ∃ w2, w2 = w1.alloc (.cells #[.int .u8 a, .int .u8 (n : Int)] 5) := ⟨_, rfl⟩
    rw [← hw2] at hH ⊢
    obtain ⟨wb, hwb⟩ : ∃ wb, wb = w.alloc (.cells #[.int .i64 a, .slice A n c, .int .i64 k, .string t1, .string t2, .int .i64 z, .string t3] 26) := ⟨_, rfl⟩
    have hpl : w.heap.size < wb.heap.size := by rw [hwb]; exact kl
    rw [← hwb] at hH hK HB0
    have hhl : (headU a n).length = 2 := rfl
    obtain ⟨X0, hX0⟩ : ∃ X, X = headU a n := ⟨_, rfl⟩
    rw [← hX0] at hH HB hhl
    have HH := Lib.hid hH
    have HX := Lib.hid hhl
    clear hw2 hwb hX0 hH HC k0 k1 k2 k3 k4 k5 k6 kf kl hK1 ml m0 m1 m2 m3 m4 m5 m6 mf b1 hhl
    go_loopw [5, 6] (fun v i wr => ∃ (j q : Nat) (A2 : Option Addr) (c2 : Nat), j ≤ n ∧ v = .slice A2 q c2 ∧ i = .int .i64 (j : Int) ∧ Hid (PutSt wb wr A2 q c2 (X0 ++ (p.take j).flatten))) (fun v i _ => n - (intOf i).toNat)
    case atStart => exact ⟨0, 2, _, 2, by omega, rfl, rfl, by have h := HH.out; show PutSt _ _ _ _ _ (X0 ++ []); rw [List.append_nil]; exact h⟩
    case round =>
      obtain ⟨j, q, A2, c2, hj, rfl, rfl, HS⟩ := hrel
      have hb := HS.out.2.2
      have hK1 := Lib.hid (hK.out.below hb hpl)
      obtain ⟨ml, m0, m1, m2, m3, m4, m5, m6, mf⟩ := updC_of hK1.out
      by_cases hlt : j < n
      · have d0 : decide ((j : Int) < (n : Int)) = true := decide_eq_true (by omega)
        have hjp : j < p.length := by have := HN.out; omega
        obtain ⟨bk, off, rfl, hbB, hcs⟩ := HR.out (by omega)
        have hc := (HB0.out.trans (hb.mono HB0.out.size)).cell (p := ⟨bk, off + j, none⟩) (show bk < w.heap.size by omega)
        rw [hcs j hlt] at hc
        have HL := Lib.hid (HSu.out j hlt)
        have h32 := H3.out j hlt
        generalize p.getD j [] = L at hc HL h32
        obtain ⟨t, ht⟩ : ∃ t, t = text L := ⟨_, rfl⟩
        rw [← ht] at hc
        have HT := Lib.hid ht
        have hlen : (X0 ++ (p.take j).flatten).length + L.length ≤ 1000 := by
          have h1 := HX.out
          have h2 := HFl.out j
          rw [List.length_append]
          omega
        have i0 : (0 : Int) ≤ (j : Int) := by omega
        have i1 : (j : Int) < (n : Int) := by omega
        clear ht hcs hb
        go_wp2_with (at_builtin; refine append_str rfl (.tmp 29) (.tmp 34) rfl rfl HS.out (by rw [← HT.out]; rfl) (by omega) ?_; intro A4 q4 c4 w4 hS4)
        go_roundw
        case rel => exact ⟨j + 1, q4, A4, c4, by omega, rfl, by go_num, by have h := hS4.out; rw [HL.out, ← List.append_assoc]; exact h⟩
        case measure => simp [intOf]; omega
      · have d0 : decide ((j : Int) < (n : Int)) = false := decide_eq_false (by omega)
        have hjn : j = n := by omega
        rw [hjn, HAll.out] at HS
        have hlen : (X0 ++ p.flatten).length ≤ 1000 := by
          have h1 := HX.out
          have h2 := HFl.out n
          rw [HAll.out] at h2
          rw [List.length_append]
          omega
        clear hb
        go_wp2_with (first
          | (at_builtin; refine append_more rfl (.tmp 42) (.tmp 43) rfl rfl hS5.out rfl r5 rfl (by omega) ?_; intro A6 q6 c6 w6 hS6)
          | (go_at_call 21; (with_reducible refine (HO.out _).mono ?_); rintro e w5 ⟨A5, c5, rfl, ho5, hb5⟩; have hS5 := Lib.hid (HS.out.up hb5); have r5 := own_rb ho5))
        (try go_ret2)
        have h := hS6.out
        rw [← HB.out] at h
        exact HY.out rfl h HB0.out
  · obtain ⟨y, hy⟩ : ∃ y, y = u.check := ⟨_, rfl⟩
    have HN : Hid (∀ {w' : World} {e : Ending}, e = .returned (.tuple #[.slice none 0 0, .int .i64 y]) → Below w.heap.size w w' → PutsU u w e w') := fun he hb => putsU_no hck (by rw [he, hy]) hb
    obtain ⟨PU, hPU⟩ : ∃ P, P = PutsU u w := ⟨_, rfl⟩
    rw [← hPU] at HN ⊢
    rw [← hy] at HC hck
    clear hPU hy hr ho hn
    obtain ⟨a, p, k, nm, tx, z, x⟩ := u
    obtain ⟨t1, h1⟩ : ∃ t, t = text nm := ⟨_, rfl⟩
    obtain ⟨t2, h2⟩ : ∃ t, t = text tx := ⟨_, rfl⟩
    obtain ⟨t3, h3⟩ : ∃ t, t = text x := ⟨_, rfl⟩
    obtain ⟨n, hnn⟩ : ∃ n, n = p.length := ⟨_, rfl⟩
    have eU : updV ⟨a, p, k, nm, tx, z, x⟩ A c = .agg #[.int .i64 a, .slice A n c, .int .i64 k, .string t1, .string t2, .int .i64 z, .string t3] := by rw [h1, h2, h3, hnn]; rfl
    rw [eU] at HC ⊢
    clear h1 h2 h3 hnn eU
    have hb0 : Below w.heap.size w (w.alloc (.cells #[.int .i64 a, .slice A n c, .int .i64 k, .string t1, .string t2, .int .i64 z, .string t3] 26)) := (Below.refl _ _).alloc (Nat.le_refl _) _
    have HB0 := Lib.hid hb0
    clear hb0
    have a26 := fun w' => Tryd.updAgg w'
    have s26 := fun w' => Tryd.updSize w'
    have hyd : decide (y = 0) = false := decide_eq_false hck
    go_enter Tryd.func9, Tryd.ntmps9
    go_wp2_with (go_at_call 19; (with_reducible refine (HC.out _ HB0.out).mono ?_); rintro e w1 ⟨rfl, b1⟩)
    (try go_ret2)
    exact HN.out rfl (chainU HB0.out b1)
end
end Go.Proofs.YtinphkflfdpaeaaDoor
