/- Lemmas under the proofs of this place: OpShowP, OpShowR, OpPGetM. No statement is proved here. -/
import Derived.Test.YtpcopmpmcjkamaaDoorBu25
import Derived.Test.YtpcopmpmcjkamaaDoorBu10
import Derived.Test.YtpcopmpmcjkamaaDoorBu18
import Derived.Test.YtpcopmpmcjkamaaDoorBu14
import Derived.Test.YtpcopmpmcjkamaaDoorBu20
import Derived.Test.YtpcopmpmcjkamaaDoorBu08
import Derived.Test.YtpcopmpmcjkamaaDoorBu07
import Derived.Test.YtpcopmpmcjkamaaDoorBu19
set_option linter.unusedSimpArgs false
set_option linter.unusedVariables false
set_option maxRecDepth 100000
set_option maxHeartbeats 16000000
namespace Go.Proofs.YtpcopmpmcjkamaaDoor
section
open Go.RowKit
theorem pshown_any (L : List UInt8) (w : World) (hl : L.length ≤ 1000) :
    Calls Tryd.prog 32 #[.string (text L)] w fun e w' => e = .returned (.string (text (32 :: 35 :: hexL L))) ∧ Below w.heap.size w w' := by
  obtain ⟨u, hu⟩ : ∃ t, t = text (hexL L) := ⟨_, rfl⟩
  obtain ⟨n, hn⟩ : ∃ n, n = (hexL L).length := ⟨_, rfl⟩
  have su : u.size = n := by rw [hu, hn]; exact text_size _
  have hn9 : n ≤ 2000 := by rw [hn, hexL_length]; omega
  have HH : Hid (∀ W, Calls Tryd.prog 53 #[.string (text L)] W fun e w' => e = .returned (.string u) ∧ Below W.heap.size W w') := fun W => by rw [hu]; exact idsHex_any L W hl
  have HU := Lib.hid hu
  clear hu hn
  go_enter Tryd.func32, Tryd.ntmps32
  go_wp2_with (first
    | (go_at_call 53; (with_reducible refine (HH.out _).mono ?_); rintro e w1 ⟨rfl, b1⟩))
  go_ret
  have e9 : ({ data := #[32, 35] } : ByteArray) ++ u = text (32 :: 35 :: hexL L) := by
    rw [HU.out]
    exact text_cat [32, 35] (hexL L)
  exact ⟨congrArg (fun x => Ending.returned (Value.string x)) e9, by first | exact b1 | exact b1.drew⟩
theorem pshow_1 (z : Int) (nm tx a : List UInt8) (w : World) (ln : nm.length ≤ 48) (lt : tx.length ≤ 48) (la : a.length ≤ 48) (hz : -2147483647 ≤ z ∧ z ≤ 2147483647) (hT : TenT w)
    (HC : Hid (∀ W, Calls Tryd.prog 11 #[.agg #[.int .i64 1, .string (text nm), .string (text tx), .int .i64 z, .string (text a)]] W fun e w' => e = .returned (.int .i64 0) ∧ Below W.heap.size W w')) :
    Calls Tryd.prog 12 #[.agg #[.int .i64 1, .string (text nm), .string (text tx), .int .i64 z, .string (text a)]] w fun e w' => e = .returned (.string (text (wordO 1 ++ (32 :: nm) ++ (32 :: decZ z)))) ∧ Below w.heap.size w w' := by
  obtain ⟨XX, hXX⟩ : ∃ X, X = text (wordO 1 ++ (32 :: nm) ++ (32 :: decZ z)) := ⟨_, rfl⟩
  have HXX := Lib.hid hXX
  rw [← hXX]
  clear hXX
  obtain ⟨t1, h1⟩ : ∃ t, t = text nm := ⟨_, rfl⟩
  obtain ⟨n1, g1⟩ : ∃ n, n = nm.length := ⟨_, rfl⟩
  have s1 : t1.size = n1 := by rw [h1, g1]; exact text_size nm
  have m1 : n1 ≤ 48 := by omega
  obtain ⟨t2, h2⟩ : ∃ t, t = text tx := ⟨_, rfl⟩
  obtain ⟨n2, g2⟩ : ∃ n, n = tx.length := ⟨_, rfl⟩
  have s2 : t2.size = n2 := by rw [h2, g2]; exact text_size tx
  have m2 : n2 ≤ 48 := by omega
  obtain ⟨t3, h3⟩ : ∃ t, t = text a := ⟨_, rfl⟩
  obtain ⟨n3, g3⟩ : ∃ n, n = a.length := ⟨_, rfl⟩
  have s3 : t3.size = n3 := by rw [h3, g3]; exact text_size a
  have m3 : n3 ≤ 48 := by omega
  have H1 := Lib.hid h1
  have H2 := Lib.hid h2
  have H3 := Lib.hid h3
  obtain ⟨wd, hwd⟩ : ∃ t, t = text (wordO 1) := ⟨_, rfl⟩
  have HW := Lib.hid hwd
  have sw : wd.size = 5 := by rw [hwd]; rfl
  have HK : Hid (∀ W, Calls Tryd.prog 18 #[.int .i64 1] W fun e w' => e = .returned (.tuple #[.string wd, .int .i64 5]) ∧ Below W.heap.size W w') := fun W => by rw [hwd]; exact pkind_yes 1 W ⟨by omega, by omega⟩
  have k1 : bits .and .i64 5 1 = 1 := by decide +kernel
  have k2 : bits .and .i64 5 2 = 0 := by decide +kernel
  have k4 : bits .and .i64 5 4 = 4 := by decide +kernel
  have k8 : bits .and .i64 5 8 = 0 := by decide +kernel
  clear hwd
  obtain ⟨ud, hud⟩ : ∃ t, t = text (decZ z) := ⟨_, rfl⟩
  obtain ⟨ld, hld⟩ : ∃ n, n = (decZ z).length := ⟨_, rfl⟩
  have sud : ud.size = ld := by rw [hud, hld, text_size]
  have lud : ld ≤ 2147483650 := by rw [hld]; exact decZ_len z hz
  have HD : Hid (∀ W, Below w.heap.size w W → Calls Tryd.prog 33 #[.int .i64 z] W fun e w' => e = .returned (.string ud) ∧ Below W.heap.size W w') := fun W hb => by rw [hud]; exact itoa_any z W (hT.up hb) hz
  have HVd := Lib.hid hud
  clear hud hld
  rw [← h1, ← h2, ← h3] at HC
  show Calls Tryd.prog 12 #[.agg #[.int .i64 1, .string (text nm), .string (text tx), .int .i64 z, .string (text a)]] w _
  rw [← h1, ← h2, ← h3]
  clear h1 h2 h3 g1 g2 g3 ln lt la hz hT
  have hO0 := Lib.hid (OpAt.new w 1 t1 t2 z t3)
  have hb0 : Below w.heap.size w (w.alloc (.cells #[.int .i64 1, .string t1, .string t2, .int .i64 z, .string t3] 23)) := (Below.refl _ _).alloc (Nat.le_refl _) _
  have a23 := fun w' => Tryd.opAgg w'
  have s23 := fun w' => Tryd.opSize w'
  go_enter Tryd.func12, Tryd.ntmps12
  go_wp2_with (first
    | (go_at_call 33; (with_reducible refine (HD.out _ B2.out).mono ?_); rintro e w3 ⟨rfl, b3⟩; have hO3 := Lib.hid (hO2.out.up b3); have B3 := Lib.hid (B2.out.trans (b3.mono B2.out.size)); clear l0 c0 c1 c2 c3 c4; obtain ⟨l0, c0, c1, c2, c3, c4⟩ := hO3.out)
    | (go_at_call 18; (with_reducible refine (HK.out _).mono ?_); rintro e w2 ⟨rfl, b2⟩; have hO2 := Lib.hid (hO1.out.up b2); have B2 := Lib.hid (B1.out.trans (b2.mono B1.out.size)); clear l0 c0 c1 c2 c3 c4; obtain ⟨l0, c0, c1, c2, c3, c4⟩ := hO2.out)
    | (go_at_call 11; (with_reducible refine (HC.out _).mono ?_); rintro e w1 ⟨rfl, b1⟩; have hO1 := Lib.hid (hO0.out.up b1); have B1 := Lib.hid (hb0.trans (b1.mono hb0.size)); obtain ⟨l0, c0, c1, c2, c3, c4⟩ := hO1.out))
  go_ret
  have e32 : ({ data := #[32] } : ByteArray) = text [32] := rfl
  have e35 : ({ data := #[32, 35] } : ByteArray) = text [32, 35] := rfl
  have e9 : ((wd ++ (({ data := #[32] } : ByteArray) ++ t1)) ++ (({ data := #[32] } : ByteArray) ++ ud)) = XX := by
    rw [HXX.out, HW.out, H1.out, HVd.out]
    (try rw [e32])
    (try rw [e35])
    (try simp only [text_cat, List.append_assoc, List.cons_append, List.nil_append])
  exact ⟨congrArg (fun x => Ending.returned (Value.string x)) e9, by first | exact B3.out | exact B3.out.drew⟩
theorem pshow_2 (z : Int) (nm tx a : List UInt8) (w : World) (ln : nm.length ≤ 48) (lt : tx.length ≤ 48) (la : a.length ≤ 48) (hz : -2147483647 ≤ z ∧ z ≤ 2147483647) (hT : TenT w)
    (HC : Hid (∀ W, Calls Tryd.prog 11 #[.agg #[.int .i64 2, .string (text nm), .string (text tx), .int .i64 z, .string (text a)]] W fun e w' => e = .returned (.int .i64 0) ∧ Below W.heap.size W w')) :
    Calls Tryd.prog 12 #[.agg #[.int .i64 2, .string (text nm), .string (text tx), .int .i64 z, .string (text a)]] w fun e w' => e = .returned (.string (text (wordO 2 ++ (32 :: nm) ++ (32 :: 35 :: hexL tx)))) ∧ Below w.heap.size w w' := by
  obtain ⟨XX, hXX⟩ : ∃ X, X = text (wordO 2 ++ (32 :: nm) ++ (32 :: 35 :: hexL tx)) := ⟨_, rfl⟩
  have HXX := Lib.hid hXX
  rw [← hXX]
  clear hXX
  obtain ⟨t1, h1⟩ : ∃ t, t = text nm := ⟨_, rfl⟩
  obtain ⟨n1, g1⟩ : ∃ n, n = nm.length := ⟨_, rfl⟩
  have s1 : t1.size = n1 := by rw [h1, g1]; exact text_size nm
  have m1 : n1 ≤ 48 := by omega
  obtain ⟨t2, h2⟩ : ∃ t, t = text tx := ⟨_, rfl⟩
  obtain ⟨n2, g2⟩ : ∃ n, n = tx.length := ⟨_, rfl⟩
  have s2 : t2.size = n2 := by rw [h2, g2]; exact text_size tx
  have m2 : n2 ≤ 48 := by omega
  obtain ⟨t3, h3⟩ : ∃ t, t = text a := ⟨_, rfl⟩
  obtain ⟨n3, g3⟩ : ∃ n, n = a.length := ⟨_, rfl⟩
  have s3 : t3.size = n3 := by rw [h3, g3]; exact text_size a
  have m3 : n3 ≤ 48 := by omega
  have H1 := Lib.hid h1
  have H2 := Lib.hid h2
  have H3 := Lib.hid h3
  obtain ⟨wd, hwd⟩ : ∃ t, t = text (wordO 2) := ⟨_, rfl⟩
  have HW := Lib.hid hwd
  have sw : wd.size = 3 := by rw [hwd]; rfl
  have HK : Hid (∀ W, Calls Tryd.prog 18 #[.int .i64 2] W fun e w' => e = .returned (.tuple #[.string wd, .int .i64 3]) ∧ Below W.heap.size W w') := fun W => by rw [hwd]; exact pkind_yes 2 W ⟨by omega, by omega⟩
  have k1 : bits .and .i64 3 1 = 1 := by decide +kernel
  have k2 : bits .and .i64 3 2 = 2 := by decide +kernel
  have k4 : bits .and .i64 3 4 = 0 := by decide +kernel
  have k8 : bits .and .i64 3 8 = 0 := by decide +kernel
  clear hwd
  obtain ⟨u2, hu2⟩ : ∃ t, t = text (32 :: 35 :: hexL tx) := ⟨_, rfl⟩
  obtain ⟨l2, hl2⟩ : ∃ n, n = (hexL tx).length := ⟨_, rfl⟩
  have su2 : u2.size = l2 + 2 := by rw [hu2, hl2, text_size]; rfl
  have lu2 : l2 ≤ 96 := by rw [hl2, hexL_length]; omega
  have HU2 : Hid (∀ W, Calls Tryd.prog 32 #[.string t2] W fun e w' => e = .returned (.string u2) ∧ Below W.heap.size W w') := fun W => by rw [h2, hu2]; exact pshown_any tx W (by omega)
  have HV2 := Lib.hid hu2
  clear hu2 hl2
  rw [← h1, ← h2, ← h3] at HC
  show Calls Tryd.prog 12 #[.agg #[.int .i64 2, .string (text nm), .string (text tx), .int .i64 z, .string (text a)]] w _
  rw [← h1, ← h2, ← h3]
  clear h1 h2 h3 g1 g2 g3 ln lt la hz hT
  have hO0 := Lib.hid (OpAt.new w 2 t1 t2 z t3)
  have hb0 : Below w.heap.size w (w.alloc (.cells #[.int .i64 2, .string t1, .string t2, .int .i64 z, .string t3] 23)) := (Below.refl _ _).alloc (Nat.le_refl _) _
  have a23 := fun w' => Tryd.opAgg w'
  have s23 := fun w' => Tryd.opSize w'
  go_enter Tryd.func12, Tryd.ntmps12
  go_wp2_with (first
    | (go_at_call 32; (with_reducible refine (HU2.out _ ).mono ?_); rintro e w3 ⟨rfl, b3⟩; have hO3 := Lib.hid (hO2.out.up b3); have B3 := Lib.hid (B2.out.trans (b3.mono B2.out.size)); clear l0 c0 c1 c2 c3 c4; obtain ⟨l0, c0, c1, c2, c3, c4⟩ := hO3.out)
    | (go_at_call 18; (with_reducible refine (HK.out _).mono ?_); rintro e w2 ⟨rfl, b2⟩; have hO2 := Lib.hid (hO1.out.up b2); have B2 := Lib.hid (B1.out.trans (b2.mono B1.out.size)); clear l0 c0 c1 c2 c3 c4; obtain ⟨l0, c0, c1, c2, c3, c4⟩ := hO2.out)
    | (go_at_call 11; (with_reducible refine (HC.out _).mono ?_); rintro e w1 ⟨rfl, b1⟩; have hO1 := Lib.hid (hO0.out.up b1); have B1 := Lib.hid (hb0.trans (b1.mono hb0.size)); obtain ⟨l0, c0, c1, c2, c3, c4⟩ := hO1.out))
  go_ret
  have e32 : ({ data := #[32] } : ByteArray) = text [32] := rfl
  have e35 : ({ data := #[32, 35] } : ByteArray) = text [32, 35] := rfl
  have e9 : ((wd ++ (({ data := #[32] } : ByteArray) ++ t1)) ++ u2) = XX := by
    rw [HXX.out, HW.out, H1.out, HV2.out]
    (try rw [e32])
    (try rw [e35])
    (try simp only [text_cat, List.append_assoc, List.cons_append, List.nil_append])
  exact ⟨congrArg (fun x => Ending.returned (Value.string x)) e9, by first | exact B3.out | exact B3.out.drew⟩
theorem pshow_3 (z : Int) (nm tx a : List UInt8) (w : World) (ln : nm.length ≤ 48) (lt : tx.length ≤ 48) (la : a.length ≤ 48) (hz : -2147483647 ≤ z ∧ z ≤ 2147483647) (hT : TenT w)
    (HC : Hid (∀ W, Calls Tryd.prog 11 #[.agg #[.int .i64 3, .string (text nm), .string (text tx), .int .i64 z, .string (text a)]] W fun e w' => e = .returned (.int .i64 0) ∧ Below W.heap.size W w')) :
    Calls Tryd.prog 12 #[.agg #[.int .i64 3, .string (text nm), .string (text tx), .int .i64 z, .string (text a)]] w fun e w' => e = .returned (.string (text (wordO 3 ++ (32 :: nm) ++ (32 :: 35 :: hexL tx)))) ∧ Below w.heap.size w w' := by
  obtain ⟨XX, hXX⟩ : ∃ X, X = text (wordO 3 ++ (32 :: nm) ++ (32 :: 35 :: hexL tx)) := ⟨_, rfl⟩
  have HXX := Lib.hid hXX
  rw [← hXX]
  clear hXX
  obtain ⟨t1, h1⟩ : ∃ t, t = text nm := ⟨_, rfl⟩
  obtain ⟨n1, g1⟩ : ∃ n, n = nm.length := ⟨_, rfl⟩
  have s1 : t1.size = n1 := by rw [h1, g1]; exact text_size nm
  have m1 : n1 ≤ 48 := by omega
  obtain ⟨t2, h2⟩ : ∃ t, t = text tx := ⟨_, rfl⟩
  obtain ⟨n2, g2⟩ : ∃ n, n = tx.length := ⟨_, rfl⟩
  have s2 : t2.size = n2 := by rw [h2, g2]; exact text_size tx
  have m2 : n2 ≤ 48 := by omega
  obtain ⟨t3, h3⟩ : ∃ t, t = text a := ⟨_, rfl⟩
  obtain ⟨n3, g3⟩ : ∃ n, n = a.length := ⟨_, rfl⟩
  have s3 : t3.size = n3 := by rw [h3, g3]; exact text_size a
  have m3 : n3 ≤ 48 := by omega
  have H1 := Lib.hid h1
  have H2 := Lib.hid h2
  have H3 := Lib.hid h3
  obtain ⟨wd, hwd⟩ : ∃ t, t = text (wordO 3) := ⟨_, rfl⟩
  have HW := Lib.hid hwd
  have sw : wd.size = 6 := by rw [hwd]; rfl
  have HK : Hid (∀ W, Calls Tryd.prog 18 #[.int .i64 3] W fun e w' => e = .returned (.tuple #[.string wd, .int .i64 3]) ∧ Below W.heap.size W w') := fun W => by rw [hwd]; exact pkind_yes 3 W ⟨by omega, by omega⟩
  have k1 : bits .and .i64 3 1 = 1 := by decide +kernel
  have k2 : bits .and .i64 3 2 = 2 := by decide +kernel
  have k4 : bits .and .i64 3 4 = 0 := by decide +kernel
  have k8 : bits .and .i64 3 8 = 0 := by decide +kernel
  clear hwd
  obtain ⟨u2, hu2⟩ : ∃ t, t = text (32 :: 35 :: hexL tx) := ⟨_, rfl⟩
  obtain ⟨l2, hl2⟩ : ∃ n, n = (hexL tx).length := ⟨_, rfl⟩
  have su2 : u2.size = l2 + 2 := by rw [hu2, hl2, text_size]; rfl
  have lu2 : l2 ≤ 96 := by rw [hl2, hexL_length]; omega
  have HU2 : Hid (∀ W, Calls Tryd.prog 32 #[.string t2] W fun e w' => e = .returned (.string u2) ∧ Below W.heap.size W w') := fun W => by rw [h2, hu2]; exact pshown_any tx W (by omega)
  have HV2 := Lib.hid hu2
  clear hu2 hl2
  rw [← h1, ← h2, ← h3] at HC
  show Calls Tryd.prog 12 #[.agg #[.int .i64 3, .string (text nm), .string (text tx), .int .i64 z, .string (text a)]] w _
  rw [← h1, ← h2, ← h3]
  clear h1 h2 h3 g1 g2 g3 ln lt la hz hT
  have hO0 := Lib.hid (OpAt.new w 3 t1 t2 z t3)
  have hb0 : Below w.heap.size w (w.alloc (.cells #[.int .i64 3, .string t1, .string t2, .int .i64 z, .string t3] 23)) := (Below.refl _ _).alloc (Nat.le_refl _) _
  have a23 := fun w' => Tryd.opAgg w'
  have s23 := fun w' => Tryd.opSize w'
  go_enter Tryd.func12, Tryd.ntmps12
  go_wp2_with (first
    | (go_at_call 32; (with_reducible refine (HU2.out _ ).mono ?_); rintro e w3 ⟨rfl, b3⟩; have hO3 := Lib.hid (hO2.out.up b3); have B3 := Lib.hid (B2.out.trans (b3.mono B2.out.size)); clear l0 c0 c1 c2 c3 c4; obtain ⟨l0, c0, c1, c2, c3, c4⟩ := hO3.out)
    | (go_at_call 18; (with_reducible refine (HK.out _).mono ?_); rintro e w2 ⟨rfl, b2⟩; have hO2 := Lib.hid (hO1.out.up b2); have B2 := Lib.hid (B1.out.trans (b2.mono B1.out.size)); clear l0 c0 c1 c2 c3 c4; obtain ⟨l0, c0, c1, c2, c3, c4⟩ := hO2.out)
    | (go_at_call 11; (with_reducible refine (HC.out _).mono ?_); rintro e w1 ⟨rfl, b1⟩; have hO1 := Lib.hid (hO0.out.up b1); have B1 := Lib.hid (hb0.trans (b1.mono hb0.size)); obtain ⟨l0, c0, c1, c2, c3, c4⟩ := hO1.out))
  go_ret
  have e32 : ({ data := #[32] } : ByteArray) = text [32] := rfl
  have e35 : ({ data := #[32, 35] } : ByteArray) = text [32, 35] := rfl
  have e9 : ((wd ++ (({ data := #[32] } : ByteArray) ++ t1)) ++ u2) = XX := by
    rw [HXX.out, HW.out, H1.out, HV2.out]
    (try rw [e32])
    (try rw [e35])
    (try simp only [text_cat, List.append_assoc, List.cons_append, List.nil_append])
  exact ⟨congrArg (fun x => Ending.returned (Value.string x)) e9, by first | exact B3.out | exact B3.out.drew⟩
theorem pshow_4 (z : Int) (nm tx a : List UInt8) (w : World) (ln : nm.length ≤ 48) (lt : tx.length ≤ 48) (la : a.length ≤ 48) (hz : -2147483647 ≤ z ∧ z ≤ 2147483647) (hT : TenT w)
    (HC : Hid (∀ W, Calls Tryd.prog 11 #[.agg #[.int .i64 4, .string (text nm), .string (text tx), .int .i64 z, .string (text a)]] W fun e w' => e = .returned (.int .i64 0) ∧ Below W.heap.size W w')) :
    Calls Tryd.prog 12 #[.agg #[.int .i64 4, .string (text nm), .string (text tx), .int .i64 z, .string (text a)]] w fun e w' => e = .returned (.string (text (wordO 4 ++ (32 :: nm) ++ (32 :: 35 :: hexL tx)))) ∧ Below w.heap.size w w' := by
  obtain ⟨XX, hXX⟩ : ∃ X, X = text (wordO 4 ++ (32 :: nm) ++ (32 :: 35 :: hexL tx)) := ⟨_, rfl⟩
  have HXX := Lib.hid hXX
  rw [← hXX]
  clear hXX
  obtain ⟨t1, h1⟩ : ∃ t, t = text nm := ⟨_, rfl⟩
  obtain ⟨n1, g1⟩ : ∃ n, n = nm.length := ⟨_, rfl⟩
  have s1 : t1.size = n1 := by rw [h1, g1]; exact text_size nm
  have m1 : n1 ≤ 48 := by omega
  obtain ⟨t2, h2⟩ : ∃ t, t = text tx := ⟨_, rfl⟩
  obtain ⟨n2, g2⟩ : ∃ n, n = tx.length := ⟨_, rfl⟩
  have s2 : t2.size = n2 := by rw [h2, g2]; exact text_size tx
  have m2 : n2 ≤ 48 := by omega
  obtain ⟨t3, h3⟩ : ∃ t, t = text a := ⟨_, rfl⟩
  obtain ⟨n3, g3⟩ : ∃ n, n = a.length := ⟨_, rfl⟩
  have s3 : t3.size = n3 := by rw [h3, g3]; exact text_size a
  have m3 : n3 ≤ 48 := by omega
  have H1 := Lib.hid h1
  have H2 := Lib.hid h2
  have H3 := Lib.hid h3
  obtain ⟨wd, hwd⟩ : ∃ t, t = text (wordO 4) := ⟨_, rfl⟩
  have HW := Lib.hid hwd
  have sw : wd.size = 5 := by rw [hwd]; rfl
  have HK : Hid (∀ W, Calls Tryd.prog 18 #[.int .i64 4] W fun e w' => e = .returned (.tuple #[.string wd, .int .i64 3]) ∧ Below W.heap.size W w') := fun W => by rw [hwd]; exact pkind_yes 4 W ⟨by omega, by omega⟩
  have k1 : bits .and .i64 3 1 = 1 := by decide +kernel
  have k2 : bits .and .i64 3 2 = 2 := by decide +kernel
  have k4 : bits .and .i64 3 4 = 0 := by decide +kernel
  have k8 : bits .and .i64 3 8 = 0 := by decide +kernel
  clear hwd
  obtain ⟨u2, hu2⟩ : ∃ t, t = text (32 :: 35 :: hexL tx) := ⟨_, rfl⟩
  obtain ⟨l2, hl2⟩ : ∃ n, n = (hexL tx).length := ⟨_, rfl⟩
  have su2 : u2.size = l2 + 2 := by rw [hu2, hl2, text_size]; rfl
  have lu2 : l2 ≤ 96 := by rw [hl2, hexL_length]; omega
  have HU2 : Hid (∀ W, Calls Tryd.prog 32 #[.string t2] W fun e w' => e = .returned (.string u2) ∧ Below W.heap.size W w') := fun W => by rw [h2, hu2]; exact pshown_any tx W (by omega)
  have HV2 := Lib.hid hu2
  clear hu2 hl2
  rw [← h1, ← h2, ← h3] at HC
  show Calls Tryd.prog 12 #[.agg #[.int .i64 4, .string (text nm), .string (text tx), .int .i64 z, .string (text a)]] w _
  rw [← h1, ← h2, ← h3]
  clear h1 h2 h3 g1 g2 g3 ln lt la hz hT
  have hO0 := Lib.hid (OpAt.new w 4 t1 t2 z t3)
  have hb0 : Below w.heap.size w (w.alloc (.cells #[.int .i64 4, .string t1, .string t2, .int .i64 z, .string t3] 23)) := (Below.refl _ _).alloc (Nat.le_refl _) _
  have a23 := fun w' => Tryd.opAgg w'
  have s23 := fun w' => Tryd.opSize w'
  go_enter Tryd.func12, Tryd.ntmps12
  go_wp2_with (first
    | (go_at_call 32; (with_reducible refine (HU2.out _ ).mono ?_); rintro e w3 ⟨rfl, b3⟩; have hO3 := Lib.hid (hO2.out.up b3); have B3 := Lib.hid (B2.out.trans (b3.mono B2.out.size)); clear l0 c0 c1 c2 c3 c4; obtain ⟨l0, c0, c1, c2, c3, c4⟩ := hO3.out)
    | (go_at_call 18; (with_reducible refine (HK.out _).mono ?_); rintro e w2 ⟨rfl, b2⟩; have hO2 := Lib.hid (hO1.out.up b2); have B2 := Lib.hid (B1.out.trans (b2.mono B1.out.size)); clear l0 c0 c1 c2 c3 c4; obtain ⟨l0, c0, c1, c2, c3, c4⟩ := hO2.out)
    | (go_at_call 11; (with_reducible refine (HC.out _).mono ?_); rintro e w1 ⟨rfl, b1⟩; have hO1 := Lib.hid (hO0.out.up b1); have B1 := Lib.hid (hb0.trans (b1.mono hb0.size)); obtain ⟨l0, c0, c1, c2, c3, c4⟩ := hO1.out))
  go_ret
  have e32 : ({ data := #[32] } : ByteArray) = text [32] := rfl
  have e35 : ({ data := #[32, 35] } : ByteArray) = text [32, 35] := rfl
  have e9 : ((wd ++ (({ data := #[32] } : ByteArray) ++ t1)) ++ u2) = XX := by
    rw [HXX.out, HW.out, H1.out, HV2.out]
    (try rw [e32])
    (try rw [e35])
    (try simp only [text_cat, List.append_assoc, List.cons_append, List.nil_append])
  exact ⟨congrArg (fun x => Ending.returned (Value.string x)) e9, by first | exact B3.out | exact B3.out.drew⟩
theorem pshow_5 (z : Int) (nm tx a : List UInt8) (w : World) (ln : nm.length ≤ 48) (lt : tx.length ≤ 48) (la : a.length ≤ 48) (hz : -2147483647 ≤ z ∧ z ≤ 2147483647) (hT : TenT w)
    (HC : Hid (∀ W, Calls Tryd.prog 11 #[.agg #[.int .i64 5, .string (text nm), .string (text tx), .int .i64 z, .string (text a)]] W fun e w' => e = .returned (.int .i64 0) ∧ Below W.heap.size W w')) :
    Calls Tryd.prog 12 #[.agg #[.int .i64 5, .string (text nm), .string (text tx), .int .i64 z, .string (text a)]] w fun e w' => e = .returned (.string (text (wordO 5 ++ (32 :: nm) ++ (32 :: 35 :: hexL tx) ++ (32 :: 35 :: hexL a)))) ∧ Below w.heap.size w w' := by
  obtain ⟨XX, hXX⟩ : ∃ X, X = text (wordO 5 ++ (32 :: nm) ++ (32 :: 35 :: hexL tx) ++ (32 :: 35 :: hexL a)) := ⟨_, rfl⟩
  have HXX := Lib.hid hXX
  rw [← hXX]
  clear hXX
  obtain ⟨t1, h1⟩ : ∃ t, t = text nm := ⟨_, rfl⟩
  obtain ⟨n1, g1⟩ : ∃ n, n = nm.length := ⟨_, rfl⟩
  have s1 : t1.size = n1 := by rw [h1, g1]; exact text_size nm
  have m1 : n1 ≤ 48 := by omega
  obtain ⟨t2, h2⟩ : ∃ t, t = text tx := ⟨_, rfl⟩
  obtain ⟨n2, g2⟩ : ∃ n, n = tx.length := ⟨_, rfl⟩
  have s2 : t2.size = n2 := by rw [h2, g2]; exact text_size tx
  have m2 : n2 ≤ 48 := by omega
  obtain ⟨t3, h3⟩ : ∃ t, t = text a := ⟨_, rfl⟩
  obtain ⟨n3, g3⟩ : ∃ n, n = a.length := ⟨_, rfl⟩
  have s3 : t3.size = n3 := by rw [h3, g3]; exact text_size a
  have m3 : n3 ≤ 48 := by omega
  have H1 := Lib.hid h1
  have H2 := Lib.hid h2
  have H3 := Lib.hid h3
  obtain ⟨wd, hwd⟩ : ∃ t, t = text (wordO 5) := ⟨_, rfl⟩
  have HW := Lib.hid hwd
  have sw : wd.size = 6 := by rw [hwd]; rfl
  have HK : Hid (∀ W, Calls Tryd.prog 18 #[.int .i64 5] W fun e w' => e = .returned (.tuple #[.string wd, .int .i64 27]) ∧ Below W.heap.size W w') := fun W => by rw [hwd]; exact pkind_yes 5 W ⟨by omega, by omega⟩
  have k1 : bits .and .i64 27 1 = 1 := by decide +kernel
  have k2 : bits .and .i64 27 2 = 2 := by decide +kernel
  have k4 : bits .and .i64 27 4 = 0 := by decide +kernel
  have k8 : bits .and .i64 27 8 = 8 := by decide +kernel
  clear hwd
  obtain ⟨u2, hu2⟩ : ∃ t, t = text (32 :: 35 :: hexL tx) := ⟨_, rfl⟩
  obtain ⟨l2, hl2⟩ : ∃ n, n = (hexL tx).length := ⟨_, rfl⟩
  have su2 : u2.size = l2 + 2 := by rw [hu2, hl2, text_size]; rfl
  have lu2 : l2 ≤ 96 := by rw [hl2, hexL_length]; omega
  have HU2 : Hid (∀ W, Calls Tryd.prog 32 #[.string t2] W fun e w' => e = .returned (.string u2) ∧ Below W.heap.size W w') := fun W => by rw [h2, hu2]; exact pshown_any tx W (by omega)
  have HV2 := Lib.hid hu2
  clear hu2 hl2
  obtain ⟨u3, hu3⟩ : ∃ t, t = text (32 :: 35 :: hexL a) := ⟨_, rfl⟩
  obtain ⟨l3, hl3⟩ : ∃ n, n = (hexL a).length := ⟨_, rfl⟩
  have su3 : u3.size = l3 + 2 := by rw [hu3, hl3, text_size]; rfl
  have lu3 : l3 ≤ 96 := by rw [hl3, hexL_length]; omega
  have HU3 : Hid (∀ W, Calls Tryd.prog 32 #[.string t3] W fun e w' => e = .returned (.string u3) ∧ Below W.heap.size W w') := fun W => by rw [h3, hu3]; exact pshown_any a W (by omega)
  have HV3 := Lib.hid hu3
  clear hu3 hl3
  rw [← h1, ← h2, ← h3] at HC
  show Calls Tryd.prog 12 #[.agg #[.int .i64 5, .string (text nm), .string (text tx), .int .i64 z, .string (text a)]] w _
  rw [← h1, ← h2, ← h3]
  clear h1 h2 h3 g1 g2 g3 ln lt la hz hT
  have hO0 := Lib.hid (OpAt.new w 5 t1 t2 z t3)
  have hb0 : Below w.heap.size w (w.alloc (.cells #[.int .i64 5, .string t1, .string t2, .int .i64 z, .string t3] 23)) := (Below.refl _ _).alloc (Nat.le_refl _) _
  have a23 := fun w' => Tryd.opAgg w'
  have s23 := fun w' => Tryd.opSize w'
  go_enter Tryd.func12, Tryd.ntmps12
  go_wp2_with (first
    | (go_at_call 32; (with_reducible refine (HU3.out _ ).mono ?_); rintro e w4 ⟨rfl, b4⟩; have hO4 := Lib.hid (hO3.out.up b4); have B4 := Lib.hid (B3.out.trans (b4.mono B3.out.size)); clear l0 c0 c1 c2 c3 c4; obtain ⟨l0, c0, c1, c2, c3, c4⟩ := hO4.out)
    | (go_at_call 32; (with_reducible refine (HU2.out _ ).mono ?_); rintro e w3 ⟨rfl, b3⟩; have hO3 := Lib.hid (hO2.out.up b3); have B3 := Lib.hid (B2.out.trans (b3.mono B2.out.size)); clear l0 c0 c1 c2 c3 c4; obtain ⟨l0, c0, c1, c2, c3, c4⟩ := hO3.out)
    | (go_at_call 18; (with_reducible refine (HK.out _).mono ?_); rintro e w2 ⟨rfl, b2⟩; have hO2 := Lib.hid (hO1.out.up b2); have B2 := Lib.hid (B1.out.trans (b2.mono B1.out.size)); clear l0 c0 c1 c2 c3 c4; obtain ⟨l0, c0, c1, c2, c3, c4⟩ := hO2.out)
    | (go_at_call 11; (with_reducible refine (HC.out _).mono ?_); rintro e w1 ⟨rfl, b1⟩; have hO1 := Lib.hid (hO0.out.up b1); have B1 := Lib.hid (hb0.trans (b1.mono hb0.size)); obtain ⟨l0, c0, c1, c2, c3, c4⟩ := hO1.out))
  go_ret
  have e32 : ({ data := #[32] } : ByteArray) = text [32] := rfl
  have e35 : ({ data := #[32, 35] } : ByteArray) = text [32, 35] := rfl
  have e9 : (((wd ++ (({ data := #[32] } : ByteArray) ++ t1)) ++ u2) ++ u3) = XX := by
    rw [HXX.out, HW.out, H1.out, HV2.out, HV3.out]
    (try rw [e32])
    (try rw [e35])
    (try simp only [text_cat, List.append_assoc, List.cons_append, List.nil_append])
  exact ⟨congrArg (fun x => Ending.returned (Value.string x)) e9, by first | exact B4.out | exact B4.out.drew⟩
theorem pshow_6 (z : Int) (nm tx a : List UInt8) (w : World) (ln : nm.length ≤ 48) (lt : tx.length ≤ 48) (la : a.length ≤ 48) (hz : -2147483647 ≤ z ∧ z ≤ 2147483647) (hT : TenT w)
    (HC : Hid (∀ W, Calls Tryd.prog 11 #[.agg #[.int .i64 6, .string (text nm), .string (text tx), .int .i64 z, .string (text a)]] W fun e w' => e = .returned (.int .i64 0) ∧ Below W.heap.size W w')) :
    Calls Tryd.prog 12 #[.agg #[.int .i64 6, .string (text nm), .string (text tx), .int .i64 z, .string (text a)]] w fun e w' => e = .returned (.string (text (wordO 6 ++ (32 :: nm) ++ (32 :: 35 :: hexL a)))) ∧ Below w.heap.size w w' := by
  obtain ⟨XX, hXX⟩ : ∃ X, X = text (wordO 6 ++ (32 :: nm) ++ (32 :: 35 :: hexL a)) := ⟨_, rfl⟩
  have HXX := Lib.hid hXX
  rw [← hXX]
  clear hXX
  obtain ⟨t1, h1⟩ : ∃ t, t = text nm := ⟨_, rfl⟩
  obtain ⟨n1, g1⟩ : ∃ n, n = nm.length := ⟨_, rfl⟩
  have s1 : t1.size = n1 := by rw [h1, g1]; exact text_size nm
  have m1 : n1 ≤ 48 := by omega
  obtain ⟨t2, h2⟩ : ∃ t, t = text tx := ⟨_, rfl⟩
  obtain ⟨n2, g2⟩ : ∃ n, n = tx.length := ⟨_, rfl⟩
  have s2 : t2.size = n2 := by rw [h2, g2]; exact text_size tx
  have m2 : n2 ≤ 48 := by omega
  obtain ⟨t3, h3⟩ : ∃ t, t = text a := ⟨_, rfl⟩
  obtain ⟨n3, g3⟩ : ∃ n, n = a.length := ⟨_, rfl⟩
  have s3 : t3.size = n3 := by rw [h3, g3]; exact text_size a
  have m3 : n3 ≤ 48 := by omega
  have H1 := Lib.hid h1
  have H2 := Lib.hid h2
  have H3 := Lib.hid h3
  obtain ⟨wd, hwd⟩ : ∃ t, t = text (wordO 6) := ⟨_, rfl⟩
  have HW := Lib.hid hwd
  have sw : wd.size = 6 := by rw [hwd]; rfl
  have HK : Hid (∀ W, Calls Tryd.prog 18 #[.int .i64 6] W fun e w' => e = .returned (.tuple #[.string wd, .int .i64 41]) ∧ Below W.heap.size W w') := fun W => by rw [hwd]; exact pkind_yes 6 W ⟨by omega, by omega⟩
  have k1 : bits .and .i64 41 1 = 1 := by decide +kernel
  have k2 : bits .and .i64 41 2 = 0 := by decide +kernel
  have k4 : bits .and .i64 41 4 = 0 := by decide +kernel
  have k8 : bits .and .i64 41 8 = 8 := by decide +kernel
  clear hwd
  obtain ⟨u3, hu3⟩ : ∃ t, t = text (32 :: 35 :: hexL a) := ⟨_, rfl⟩
  obtain ⟨l3, hl3⟩ : ∃ n, n = (hexL a).length := ⟨_, rfl⟩
  have su3 : u3.size = l3 + 2 := by rw [hu3, hl3, text_size]; rfl
  have lu3 : l3 ≤ 96 := by rw [hl3, hexL_length]; omega
  have HU3 : Hid (∀ W, Calls Tryd.prog 32 #[.string t3] W fun e w' => e = .returned (.string u3) ∧ Below W.heap.size W w') := fun W => by rw [h3, hu3]; exact pshown_any a W (by omega)
  have HV3 := Lib.hid hu3
  clear hu3 hl3
  rw [← h1, ← h2, ← h3] at HC
  show Calls Tryd.prog 12 #[.agg #[.int .i64 6, .string (text nm), .string (text tx), .int .i64 z, .string (text a)]] w _
  rw [← h1, ← h2, ← h3]
  clear h1 h2 h3 g1 g2 g3 ln lt la hz hT
  have hO0 := Lib.hid (OpAt.new w 6 t1 t2 z t3)
  have hb0 : Below w.heap.size w (w.alloc (.cells #[.int .i64 6, .string t1, .string t2, .int .i64 z, .string t3] 23)) := (Below.refl _ _).alloc (Nat.le_refl _) _
  have a23 := fun w' => Tryd.opAgg w'
  have s23 := fun w' => Tryd.opSize w'
  go_enter Tryd.func12, Tryd.ntmps12
  go_wp2_with (first
    | (go_at_call 32; (with_reducible refine (HU3.out _ ).mono ?_); rintro e w3 ⟨rfl, b3⟩; have hO3 := Lib.hid (hO2.out.up b3); have B3 := Lib.hid (B2.out.trans (b3.mono B2.out.size)); clear l0 c0 c1 c2 c3 c4; obtain ⟨l0, c0, c1, c2, c3, c4⟩ := hO3.out)
    | (go_at_call 18; (with_reducible refine (HK.out _).mono ?_); rintro e w2 ⟨rfl, b2⟩; have hO2 := Lib.hid (hO1.out.up b2); have B2 := Lib.hid (B1.out.trans (b2.mono B1.out.size)); clear l0 c0 c1 c2 c3 c4; obtain ⟨l0, c0, c1, c2, c3, c4⟩ := hO2.out)
    | (go_at_call 11; (with_reducible refine (HC.out _).mono ?_); rintro e w1 ⟨rfl, b1⟩; have hO1 := Lib.hid (hO0.out.up b1); have B1 := Lib.hid (hb0.trans (b1.mono hb0.size)); obtain ⟨l0, c0, c1, c2, c3, c4⟩ := hO1.out))
  go_ret
  have e32 : ({ data := #[32] } : ByteArray) = text [32] := rfl
  have e35 : ({ data := #[32, 35] } : ByteArray) = text [32, 35] := rfl
  have e9 : ((wd ++ (({ data := #[32] } : ByteArray) ++ t1)) ++ u3) = XX := by
    rw [HXX.out, HW.out, H1.out, HV3.out]
    (try rw [e32])
    (try rw [e35])
    (try simp only [text_cat, List.append_assoc, List.cons_append, List.nil_append])
  exact ⟨congrArg (fun x => Ending.returned (Value.string x)) e9, by first | exact B3.out | exact B3.out.drew⟩
theorem pshow_7 (z : Int) (nm tx a : List UInt8) (w : World) (ln : nm.length ≤ 48) (lt : tx.length ≤ 48) (la : a.length ≤ 48) (hz : -2147483647 ≤ z ∧ z ≤ 2147483647) (hT : TenT w)
    (HC : Hid (∀ W, Calls Tryd.prog 11 #[.agg #[.int .i64 7, .string (text nm), .string (text tx), .int .i64 z, .string (text a)]] W fun e w' => e = .returned (.int .i64 0) ∧ Below W.heap.size W w')) :
    Calls Tryd.prog 12 #[.agg #[.int .i64 7, .string (text nm), .string (text tx), .int .i64 z, .string (text a)]] w fun e w' => e = .returned (.string (text (wordO 7))) ∧ Below w.heap.size w w' := by
  obtain ⟨XX, hXX⟩ : ∃ X, X = text (wordO 7) := ⟨_, rfl⟩
  have HXX := Lib.hid hXX
  rw [← hXX]
  clear hXX
  obtain ⟨t1, h1⟩ : ∃ t, t = text nm := ⟨_, rfl⟩
  obtain ⟨n1, g1⟩ : ∃ n, n = nm.length := ⟨_, rfl⟩
  have s1 : t1.size = n1 := by rw [h1, g1]; exact text_size nm
  have m1 : n1 ≤ 48 := by omega
  obtain ⟨t2, h2⟩ : ∃ t, t = text tx := ⟨_, rfl⟩
  obtain ⟨n2, g2⟩ : ∃ n, n = tx.length := ⟨_, rfl⟩
  have s2 : t2.size = n2 := by rw [h2, g2]; exact text_size tx
  have m2 : n2 ≤ 48 := by omega
  obtain ⟨t3, h3⟩ : ∃ t, t = text a := ⟨_, rfl⟩
  obtain ⟨n3, g3⟩ : ∃ n, n = a.length := ⟨_, rfl⟩
  have s3 : t3.size = n3 := by rw [h3, g3]; exact text_size a
  have m3 : n3 ≤ 48 := by omega
  have H1 := Lib.hid h1
  have H2 := Lib.hid h2
  have H3 := Lib.hid h3
  obtain ⟨wd, hwd⟩ : ∃ t, t = text (wordO 7) := ⟨_, rfl⟩
  have HW := Lib.hid hwd
  have sw : wd.size = 5 := by rw [hwd]; rfl
  have HK : Hid (∀ W, Calls Tryd.prog 18 #[.int .i64 7] W fun e w' => e = .returned (.tuple #[.string wd, .int .i64 0]) ∧ Below W.heap.size W w') := fun W => by rw [hwd]; exact pkind_yes 7 W ⟨by omega, by omega⟩
  have k1 : bits .and .i64 0 1 = 0 := by decide +kernel
  have k2 : bits .and .i64 0 2 = 0 := by decide +kernel
  have k4 : bits .and .i64 0 4 = 0 := by decide +kernel
  have k8 : bits .and .i64 0 8 = 0 := by decide +kernel
  clear hwd
  rw [← h1, ← h2, ← h3] at HC
  show Calls Tryd.prog 12 #[.agg #[.int .i64 7, .string (text nm), .string (text tx), .int .i64 z, .string (text a)]] w _
  rw [← h1, ← h2, ← h3]
  clear h1 h2 h3 g1 g2 g3 ln lt la hz hT
  have hO0 := Lib.hid (OpAt.new w 7 t1 t2 z t3)
  have hb0 : Below w.heap.size w (w.alloc (.cells #[.int .i64 7, .string t1, .string t2, .int .i64 z, .string t3] 23)) := (Below.refl _ _).alloc (Nat.le_refl _) _
  have a23 := fun w' => Tryd.opAgg w'
  have s23 := fun w' => Tryd.opSize w'
  go_enter Tryd.func12, Tryd.ntmps12
  go_wp2_with (first
    | (go_at_call 18; (with_reducible refine (HK.out _).mono ?_); rintro e w2 ⟨rfl, b2⟩; have hO2 := Lib.hid (hO1.out.up b2); have B2 := Lib.hid (B1.out.trans (b2.mono B1.out.size)); clear l0 c0 c1 c2 c3 c4; obtain ⟨l0, c0, c1, c2, c3, c4⟩ := hO2.out)
    | (go_at_call 11; (with_reducible refine (HC.out _).mono ?_); rintro e w1 ⟨rfl, b1⟩; have hO1 := Lib.hid (hO0.out.up b1); have B1 := Lib.hid (hb0.trans (b1.mono hb0.size)); obtain ⟨l0, c0, c1, c2, c3, c4⟩ := hO1.out))
  go_ret
  have e32 : ({ data := #[32] } : ByteArray) = text [32] := rfl
  have e35 : ({ data := #[32, 35] } : ByteArray) = text [32, 35] := rfl
  have e9 : wd = XX := by
    rw [HXX.out, HW.out]
    (try rw [e32])
    (try rw [e35])
    (try simp only [text_cat, List.append_assoc, List.cons_append, List.nil_append])
  exact ⟨congrArg (fun x => Ending.returned (Value.string x)) e9, by first | exact B2.out | exact B2.out.drew⟩
end
section
open Go.RowKit
theorem rshow_1 (z : Int) (nm tx a : List UInt8) (w : World) (ln : nm.length ≤ 48) (lt : tx.length ≤ 48) (la : a.length ≤ 48) (hz : -2147483647 ≤ z ∧ z ≤ 2147483647)
    (HC : Hid (∀ W, Calls Tryd.prog 17 #[.agg #[.int .i64 1, .string (text nm), .string (text tx), .int .i64 z, .string (text a)]] W fun e w' => e = .returned (.bool true) ∧ Below W.heap.size W w')) :
    Calls Tryd.prog 13 #[.agg #[.int .i64 1, .string (text nm), .string (text tx), .int .i64 z, .string (text a)]] w fun e w' => e = .returned (.string (text (wordO 1 ++ (32 :: nm) ++ (32 :: decZ z)))) ∧ Below w.heap.size w w' := by
  obtain ⟨XX, hXX⟩ : ∃ X, X = text (wordO 1 ++ (32 :: nm) ++ (32 :: decZ z)) := ⟨_, rfl⟩
  have HXX := Lib.hid hXX
  rw [← hXX]
  clear hXX
  obtain ⟨t1, h1⟩ : ∃ t, t = text nm := ⟨_, rfl⟩
  obtain ⟨n1, g1⟩ : ∃ n, n = nm.length := ⟨_, rfl⟩
  have s1 : t1.size = n1 := by rw [h1, g1]; exact text_size nm
  have m1 : n1 ≤ 48 := by omega
  obtain ⟨t2, h2⟩ : ∃ t, t = text tx := ⟨_, rfl⟩
  obtain ⟨n2, g2⟩ : ∃ n, n = tx.length := ⟨_, rfl⟩
  have s2 : t2.size = n2 := by rw [h2, g2]; exact text_size tx
  have m2 : n2 ≤ 48 := by omega
  obtain ⟨t3, h3⟩ : ∃ t, t = text a := ⟨_, rfl⟩
  obtain ⟨n3, g3⟩ : ∃ n, n = a.length := ⟨_, rfl⟩
  have s3 : t3.size = n3 := by rw [h3, g3]; exact text_size a
  have m3 : n3 ≤ 48 := by omega
  have H1 := Lib.hid h1
  have H2 := Lib.hid h2
  have H3 := Lib.hid h3
  obtain ⟨wd, hwd⟩ : ∃ t, t = text (wordO 1) := ⟨_, rfl⟩
  have HW := Lib.hid hwd
  have sw : wd.size = 5 := by rw [hwd]; rfl
  have HK : Hid (∀ W, Calls Tryd.prog 22 #[.int .i64 1] W fun e w' => e = .returned (.tuple #[.bool true, .bool false, .bool true, .bool false, .bool true]) ∧ Below W.heap.size W w') := fun W => refHas_any 1 W
  clear hwd
  obtain ⟨ud, hud⟩ : ∃ t, t = text (decZ z) := ⟨_, rfl⟩
  obtain ⟨ld, hld⟩ : ∃ n, n = (decZ z).length := ⟨_, rfl⟩
  have sud : ud.size = ld := by rw [hud, hld, text_size]
  have lud : ld ≤ 2147483650 := by rw [hld]; exact decZ_len z hz
  have HD : Hid (∀ W, Calls Tryd.prog 35 #[.int .i64 z] W fun e w' => e = .returned (.string ud) ∧ Below W.heap.size W w') := fun W => by rw [hud]; exact refDigits_any z W hz
  have HVd := Lib.hid hud
  clear hud hld
  rw [← h1, ← h2, ← h3] at HC
  show Calls Tryd.prog 13 #[.agg #[.int .i64 1, .string (text nm), .string (text tx), .int .i64 z, .string (text a)]] w _
  rw [← h1, ← h2, ← h3]
  clear h1 h2 h3 g1 g2 g3 ln lt la hz
  have hO0 := Lib.hid (OpAt.new w 1 t1 t2 z t3)
  have hb0 : Below w.heap.size w (w.alloc (.cells #[.int .i64 1, .string t1, .string t2, .int .i64 z, .string t3] 23)) := (Below.refl _ _).alloc (Nat.le_refl _) _
  have a23 := fun w' => Tryd.opAgg w'
  have s23 := fun w' => Tryd.opSize w'
  go_enter Tryd.func13, Tryd.ntmps13
  go_wp2_with (first
    | (go_at_call 35; (with_reducible refine (HD.out _ ).mono ?_); rintro e w3 ⟨rfl, b3⟩; have hO3 := Lib.hid (hO2.out.up b3); have B3 := Lib.hid (B2.out.trans (b3.mono B2.out.size)); clear l0 c0 c1 c2 c3 c4; obtain ⟨l0, c0, c1, c2, c3, c4⟩ := hO3.out)
    | (go_at_call 22; (with_reducible refine (HK.out _).mono ?_); rintro e w2 ⟨rfl, b2⟩; have hO2 := Lib.hid (hO1.out.up b2); have B2 := Lib.hid ((B1.out.alloc B1.out.size _).trans (b2.mono (Nat.le_trans B1.out.size (by simp)))); clear l0 c0 c1 c2 c3 c4; obtain ⟨l0, c0, c1, c2, c3, c4⟩ := hO2.out)
    | (go_at_call 17; (with_reducible refine (HC.out _).mono ?_); rintro e w1 ⟨rfl, b1⟩; have hO1 := Lib.hid ((hO0.out.up b1).up ((Below.refl _ _).alloc (Nat.le_refl _) (.cells #[.string { data := #[99, 111, 117, 110, 116] }, .string { data := #[97, 100, 100] }, .string { data := #[114, 101, 109, 111, 118, 101] }, .string { data := #[119, 114, 105, 116, 101] }, .string { data := #[105, 110, 115, 101, 114, 116] }, .string { data := #[100, 101, 108, 101, 116, 101] }, .string { data := #[109, 101, 114, 103, 101] }] 9))); have hO1' := Lib.hid (hO0.out.up b1); have B1 := Lib.hid (hb0.trans (b1.mono hb0.size)); obtain ⟨l0, c0, c1, c2, c3, c4⟩ := hO1.out))
  go_ret
  have e32 : ({ data := #[32] } : ByteArray) = text [32] := rfl
  have e35 : ({ data := #[32, 35] } : ByteArray) = text [32, 35] := rfl
  have e9 : ((((wd ++ ({ data := #[32] } : ByteArray)) ++ t1) ++ ({ data := #[32] } : ByteArray)) ++ ud) = XX := by
    rw [HXX.out, HW.out, H1.out, HVd.out]
    (try rw [e32])
    (try rw [e35])
    (try simp only [text_cat, List.append_assoc, List.cons_append, List.nil_append])
  rw [HW.out] at e9
  exact ⟨congrArg (fun x => Ending.returned (Value.string x)) e9, by first | exact B3.out | exact B3.out.drew⟩
theorem rshow_2 (z : Int) (nm tx a : List UInt8) (w : World) (ln : nm.length ≤ 48) (lt : tx.length ≤ 48) (la : a.length ≤ 48) (hz : -2147483647 ≤ z ∧ z ≤ 2147483647)
    (HC : Hid (∀ W, Calls Tryd.prog 17 #[.agg #[.int .i64 2, .string (text nm), .string (text tx), .int .i64 z, .string (text a)]] W fun e w' => e = .returned (.bool true) ∧ Below W.heap.size W w')) :
    Calls Tryd.prog 13 #[.agg #[.int .i64 2, .string (text nm), .string (text tx), .int .i64 z, .string (text a)]] w fun e w' => e = .returned (.string (text (wordO 2 ++ (32 :: nm) ++ (32 :: 35 :: hexL tx)))) ∧ Below w.heap.size w w' := by
  obtain ⟨XX, hXX⟩ : ∃ X, X = text (wordO 2 ++ (32 :: nm) ++ (32 :: 35 :: hexL tx)) := ⟨_, rfl⟩
  have HXX := Lib.hid hXX
  rw [← hXX]
  clear hXX
  obtain ⟨t1, h1⟩ : ∃ t, t = text nm := ⟨_, rfl⟩
  obtain ⟨n1, g1⟩ : ∃ n, n = nm.length := ⟨_, rfl⟩
  have s1 : t1.size = n1 := by rw [h1, g1]; exact text_size nm
  have m1 : n1 ≤ 48 := by omega
  obtain ⟨t2, h2⟩ : ∃ t, t = text tx := ⟨_, rfl⟩
  obtain ⟨n2, g2⟩ : ∃ n, n = tx.length := ⟨_, rfl⟩
  have s2 : t2.size = n2 := by rw [h2, g2]; exact text_size tx
  have m2 : n2 ≤ 48 := by omega
  obtain ⟨t3, h3⟩ : ∃ t, t = text a := ⟨_, rfl⟩
  obtain ⟨n3, g3⟩ : ∃ n, n = a.length := ⟨_, rfl⟩
  have s3 : t3.size = n3 := by rw [h3, g3]; exact text_size a
  have m3 : n3 ≤ 48 := by omega
  have H1 := Lib.hid h1
  have H2 := Lib.hid h2
  have H3 := Lib.hid h3
  obtain ⟨wd, hwd⟩ : ∃ t, t = text (wordO 2) := ⟨_, rfl⟩
  have HW := Lib.hid hwd
  have sw : wd.size = 3 := by rw [hwd]; rfl
  have HK : Hid (∀ W, Calls Tryd.prog 22 #[.int .i64 2] W fun e w' => e = .returned (.tuple #[.bool true, .bool true, .bool false, .bool false, .bool true]) ∧ Below W.heap.size W w') := fun W => refHas_any 2 W
  clear hwd
  obtain ⟨u2, hu2⟩ : ∃ t, t = text (hexL tx) := ⟨_, rfl⟩
  obtain ⟨l2, hl2⟩ : ∃ n, n = (hexL tx).length := ⟨_, rfl⟩
  have su2 : u2.size = l2 := by rw [hu2, hl2, text_size]
  have lu2 : l2 ≤ 96 := by rw [hl2, hexL_length]; omega
  have HU2 : Hid (∀ W, Calls Tryd.prog 34 #[.string t2] W fun e w' => e = .returned (.string u2) ∧ Below W.heap.size W w') := fun W => by rw [h2, hu2]; exact refHex_any tx W (by omega)
  have HV2 := Lib.hid hu2
  clear hu2 hl2
  rw [← h1, ← h2, ← h3] at HC
  show Calls Tryd.prog 13 #[.agg #[.int .i64 2, .string (text nm), .string (text tx), .int .i64 z, .string (text a)]] w _
  rw [← h1, ← h2, ← h3]
  clear h1 h2 h3 g1 g2 g3 ln lt la hz
  have hO0 := Lib.hid (OpAt.new w 2 t1 t2 z t3)
  have hb0 : Below w.heap.size w (w.alloc (.cells #[.int .i64 2, .string t1, .string t2, .int .i64 z, .string t3] 23)) := (Below.refl _ _).alloc (Nat.le_refl _) _
  have a23 := fun w' => Tryd.opAgg w'
  have s23 := fun w' => Tryd.opSize w'
  go_enter Tryd.func13, Tryd.ntmps13
  go_wp2_with (first
    | (go_at_call 34; (with_reducible refine (HU2.out _ ).mono ?_); rintro e w3 ⟨rfl, b3⟩; have hO3 := Lib.hid (hO2.out.up b3); have B3 := Lib.hid (B2.out.trans (b3.mono B2.out.size)); clear l0 c0 c1 c2 c3 c4; obtain ⟨l0, c0, c1, c2, c3, c4⟩ := hO3.out)
    | (go_at_call 22; (with_reducible refine (HK.out _).mono ?_); rintro e w2 ⟨rfl, b2⟩; have hO2 := Lib.hid (hO1.out.up b2); have B2 := Lib.hid ((B1.out.alloc B1.out.size _).trans (b2.mono (Nat.le_trans B1.out.size (by simp)))); clear l0 c0 c1 c2 c3 c4; obtain ⟨l0, c0, c1, c2, c3, c4⟩ := hO2.out)
    | (go_at_call 17; (with_reducible refine (HC.out _).mono ?_); rintro e w1 ⟨rfl, b1⟩; have hO1 := Lib.hid ((hO0.out.up b1).up ((Below.refl _ _).alloc (Nat.le_refl _) (.cells #[.string { data := #[99, 111, 117, 110, 116] }, .string { data := #[97, 100, 100] }, .string { data := #[114, 101, 109, 111, 118, 101] }, .string { data := #[119, 114, 105, 116, 101] }, .string { data := #[105, 110, 115, 101, 114, 116] }, .string { data := #[100, 101, 108, 101, 116, 101] }, .string { data := #[109, 101, 114, 103, 101] }] 9))); have hO1' := Lib.hid (hO0.out.up b1); have B1 := Lib.hid (hb0.trans (b1.mono hb0.size)); obtain ⟨l0, c0, c1, c2, c3, c4⟩ := hO1.out))
  go_ret
  have e32 : ({ data := #[32] } : ByteArray) = text [32] := rfl
  have e35 : ({ data := #[32, 35] } : ByteArray) = text [32, 35] := rfl
  have e9 : ((((wd ++ ({ data := #[32] } : ByteArray)) ++ t1) ++ ({ data := #[32, 35] } : ByteArray)) ++ u2) = XX := by
    rw [HXX.out, HW.out, H1.out, HV2.out]
    (try rw [e32])
    (try rw [e35])
    (try simp only [text_cat, List.append_assoc, List.cons_append, List.nil_append])
  rw [HW.out] at e9
  exact ⟨congrArg (fun x => Ending.returned (Value.string x)) e9, by first | exact B3.out | exact B3.out.drew⟩
theorem rshow_3 (z : Int) (nm tx a : List UInt8) (w : World) (ln : nm.length ≤ 48) (lt : tx.length ≤ 48) (la : a.length ≤ 48) (hz : -2147483647 ≤ z ∧ z ≤ 2147483647)
    (HC : Hid (∀ W, Calls Tryd.prog 17 #[.agg #[.int .i64 3, .string (text nm), .string (text tx), .int .i64 z, .string (text a)]] W fun e w' => e = .returned (.bool true) ∧ Below W.heap.size W w')) :
    Calls Tryd.prog 13 #[.agg #[.int .i64 3, .string (text nm), .string (text tx), .int .i64 z, .string (text a)]] w fun e w' => e = .returned (.string (text (wordO 3 ++ (32 :: nm) ++ (32 :: 35 :: hexL tx)))) ∧ Below w.heap.size w w' := by
  obtain ⟨XX, hXX⟩ : ∃ X, X = text (wordO 3 ++ (32 :: nm) ++ (32 :: 35 :: hexL tx)) := ⟨_, rfl⟩
  have HXX := Lib.hid hXX
  rw [← hXX]
  clear hXX
  obtain ⟨t1, h1⟩ : ∃ t, t = text nm := ⟨_, rfl⟩
  obtain ⟨n1, g1⟩ : ∃ n, n = nm.length := ⟨_, rfl⟩
  have s1 : t1.size = n1 := by rw [h1, g1]; exact text_size nm
  have m1 : n1 ≤ 48 := by omega
  obtain ⟨t2, h2⟩ : ∃ t, t = text tx := ⟨_, rfl⟩
  obtain ⟨n2, g2⟩ : ∃ n, n = tx.length := ⟨_, rfl⟩
  have s2 : t2.size = n2 := by rw [h2, g2]; exact text_size tx
  have m2 : n2 ≤ 48 := by omega
  obtain ⟨t3, h3⟩ : ∃ t, t = text a := ⟨_, rfl⟩
  obtain ⟨n3, g3⟩ : ∃ n, n = a.length := ⟨_, rfl⟩
  have s3 : t3.size = n3 := by rw [h3, g3]; exact text_size a
  have m3 : n3 ≤ 48 := by omega
  have H1 := Lib.hid h1
  have H2 := Lib.hid h2
  have H3 := Lib.hid h3
  obtain ⟨wd, hwd⟩ : ∃ t, t = text (wordO 3) := ⟨_, rfl⟩
  have HW := Lib.hid hwd
  have sw : wd.size = 6 := by rw [hwd]; rfl
  have HK : Hid (∀ W, Calls Tryd.prog 22 #[.int .i64 3] W fun e w' => e = .returned (.tuple #[.bool true, .bool true, .bool false, .bool false, .bool true]) ∧ Below W.heap.size W w') := fun W => refHas_any 3 W
  clear hwd
  obtain ⟨u2, hu2⟩ : ∃ t, t = text (hexL tx) := ⟨_, rfl⟩
  obtain ⟨l2, hl2⟩ : ∃ n, n = (hexL tx).length := ⟨_, rfl⟩
  have su2 : u2.size = l2 := by rw [hu2, hl2, text_size]
  have lu2 : l2 ≤ 96 := by rw [hl2, hexL_length]; omega
  have HU2 : Hid (∀ W, Calls Tryd.prog 34 #[.string t2] W fun e w' => e = .returned (.string u2) ∧ Below W.heap.size W w') := fun W => by rw [h2, hu2]; exact refHex_any tx W (by omega)
  have HV2 := Lib.hid hu2
  clear hu2 hl2
  rw [← h1, ← h2, ← h3] at HC
  show Calls Tryd.prog 13 #[.agg #[.int .i64 3, .string (text nm), .string (text tx), .int .i64 z, .string (text a)]] w _
  rw [← h1, ← h2, ← h3]
  clear h1 h2 h3 g1 g2 g3 ln lt la hz
  have hO0 := Lib.hid (OpAt.new w 3 t1 t2 z t3)
  have hb0 : Below w.heap.size w (w.alloc (.cells #[.int .i64 3, .string t1, .string t2, .int .i64 z, .string t3] 23)) := (Below.refl _ _).alloc (Nat.le_refl _) _
  have a23 := fun w' => Tryd.opAgg w'
  have s23 := fun w' => Tryd.opSize w'
  go_enter Tryd.func13, Tryd.ntmps13
  go_wp2_with (first
    | (go_at_call 34; (with_reducible refine (HU2.out _ ).mono ?_); rintro e w3 ⟨rfl, b3⟩; have hO3 := Lib.hid (hO2.out.up b3); have B3 := Lib.hid (B2.out.trans (b3.mono B2.out.size)); clear l0 c0 c1 c2 c3 c4; obtain ⟨l0, c0, c1, c2, c3, c4⟩ := hO3.out)
    | (go_at_call 22; (with_reducible refine (HK.out _).mono ?_); rintro e w2 ⟨rfl, b2⟩; have hO2 := Lib.hid (hO1.out.up b2); have B2 := Lib.hid ((B1.out.alloc B1.out.size _).trans (b2.mono (Nat.le_trans B1.out.size (by simp)))); clear l0 c0 c1 c2 c3 c4; obtain ⟨l0, c0, c1, c2, c3, c4⟩ := hO2.out)
    | (go_at_call 17; (with_reducible refine (HC.out _).mono ?_); rintro e w1 ⟨rfl, b1⟩; have hO1 := Lib.hid ((hO0.out.up b1).up ((Below.refl _ _).alloc (Nat.le_refl _) (.cells #[.string { data := #[99, 111, 117, 110, 116] }, .string { data := #[97, 100, 100] }, .string { data := #[114, 101, 109, 111, 118, 101] }, .string { data := #[119, 114, 105, 116, 101] }, .string { data := #[105, 110, 115, 101, 114, 116] }, .string { data := #[100, 101, 108, 101, 116, 101] }, .string { data := #[109, 101, 114, 103, 101] }] 9))); have hO1' := Lib.hid (hO0.out.up b1); have B1 := Lib.hid (hb0.trans (b1.mono hb0.size)); obtain ⟨l0, c0, c1, c2, c3, c4⟩ := hO1.out))
  go_ret
  have e32 : ({ data := #[32] } : ByteArray) = text [32] := rfl
  have e35 : ({ data := #[32, 35] } : ByteArray) = text [32, 35] := rfl
  have e9 : ((((wd ++ ({ data := #[32] } : ByteArray)) ++ t1) ++ ({ data := #[32, 35] } : ByteArray)) ++ u2) = XX := by
    rw [HXX.out, HW.out, H1.out, HV2.out]
    (try rw [e32])
    (try rw [e35])
    (try simp only [text_cat, List.append_assoc, List.cons_append, List.nil_append])
  rw [HW.out] at e9
  exact ⟨congrArg (fun x => Ending.returned (Value.string x)) e9, by first | exact B3.out | exact B3.out.drew⟩
theorem rshow_4 (z : Int) (nm tx a : List UInt8) (w : World) (ln : nm.length ≤ 48) (lt : tx.length ≤ 48) (la : a.length ≤ 48) (hz : -2147483647 ≤ z ∧ z ≤ 2147483647)
    (HC : Hid (∀ W, Calls Tryd.prog 17 #[.agg #[.int .i64 4, .string (text nm), .string (text tx), .int .i64 z, .string (text a)]] W fun e w' => e = .returned (.bool true) ∧ Below W.heap.size W w')) :
    Calls Tryd.prog 13 #[.agg #[.int .i64 4, .string (text nm), .string (text tx), .int .i64 z, .string (text a)]] w fun e w' => e = .returned (.string (text (wordO 4 ++ (32 :: nm) ++ (32 :: 35 :: hexL tx)))) ∧ Below w.heap.size w w' := by
  obtain ⟨XX, hXX⟩ : ∃ X, X = text (wordO 4 ++ (32 :: nm) ++ (32 :: 35 :: hexL tx)) := ⟨_, rfl⟩
  have HXX := Lib.hid hXX
  rw [← hXX]
  clear hXX
  obtain ⟨t1, h1⟩ : ∃ t, t = text nm := ⟨_, rfl⟩
  obtain ⟨n1, g1⟩ : ∃ n, n = nm.length := ⟨_, rfl⟩
  have s1 : t1.size = n1 := by rw [h1, g1]; exact text_size nm
  have m1 : n1 ≤ 48 := by omega
  obtain ⟨t2, h2⟩ : ∃ t, t = text tx := ⟨_, rfl⟩
  obtain ⟨n2, g2⟩ : ∃ n, n = tx.length := ⟨_, rfl⟩
  have s2 : t2.size = n2 := by rw [h2, g2]; exact text_size tx
  have m2 : n2 ≤ 48 := by omega
  obtain ⟨t3, h3⟩ : ∃ t, t = text a := ⟨_, rfl⟩
  obtain ⟨n3, g3⟩ : ∃ n, n = a.length := ⟨_, rfl⟩
  have s3 : t3.size = n3 := by rw [h3, g3]; exact text_size a
  have m3 : n3 ≤ 48 := by omega
  have H1 := Lib.hid h1
  have H2 := Lib.hid h2
  have H3 := Lib.hid h3
  obtain ⟨wd, hwd⟩ : ∃ t, t = text (wordO 4) := ⟨_, rfl⟩
  have HW := Lib.hid hwd
  have sw : wd.size = 5 := by rw [hwd]; rfl
  have HK : Hid (∀ W, Calls Tryd.prog 22 #[.int .i64 4] W fun e w' => e = .returned (.tuple #[.bool true, .bool true, .bool false, .bool false, .bool true]) ∧ Below W.heap.size W w') := fun W => refHas_any 4 W
  clear hwd
  obtain ⟨u2, hu2⟩ : ∃ t, t = text (hexL tx) := ⟨_, rfl⟩
  obtain ⟨l2, hl2⟩ : ∃ n, n = (hexL tx).length := ⟨_, rfl⟩
  have su2 : u2.size = l2 := by rw [hu2, hl2, text_size]
  have lu2 : l2 ≤ 96 := by rw [hl2, hexL_length]; omega
  have HU2 : Hid (∀ W, Calls Tryd.prog 34 #[.string t2] W fun e w' => e = .returned (.string u2) ∧ Below W.heap.size W w') := fun W => by rw [h2, hu2]; exact refHex_any tx W (by omega)
  have HV2 := Lib.hid hu2
  clear hu2 hl2
  rw [← h1, ← h2, ← h3] at HC
  show Calls Tryd.prog 13 #[.agg #[.int .i64 4, .string (text nm), .string (text tx), .int .i64 z, .string (text a)]] w _
  rw [← h1, ← h2, ← h3]
  clear h1 h2 h3 g1 g2 g3 ln lt la hz
  have hO0 := Lib.hid (OpAt.new w 4 t1 t2 z t3)
  have hb0 : Below w.heap.size w (w.alloc (.cells #[.int .i64 4, .string t1, .string t2, .int .i64 z, .string t3] 23)) := (Below.refl _ _).alloc (Nat.le_refl _) _
  have a23 := fun w' => Tryd.opAgg w'
  have s23 := fun w' => Tryd.opSize w'
  go_enter Tryd.func13, Tryd.ntmps13
  go_wp2_with (first
    | (go_at_call 34; (with_reducible refine (HU2.out _ ).mono ?_); rintro e w3 ⟨rfl, b3⟩; have hO3 := Lib.hid (hO2.out.up b3); have B3 := Lib.hid (B2.out.trans (b3.mono B2.out.size)); clear l0 c0 c1 c2 c3 c4; obtain ⟨l0, c0, c1, c2, c3, c4⟩ := hO3.out)
    | (go_at_call 22; (with_reducible refine (HK.out _).mono ?_); rintro e w2 ⟨rfl, b2⟩; have hO2 := Lib.hid (hO1.out.up b2); have B2 := Lib.hid ((B1.out.alloc B1.out.size _).trans (b2.mono (Nat.le_trans B1.out.size (by simp)))); clear l0 c0 c1 c2 c3 c4; obtain ⟨l0, c0, c1, c2, c3, c4⟩ := hO2.out)
    | (go_at_call 17; (with_reducible refine (HC.out _).mono ?_); rintro e w1 ⟨rfl, b1⟩; have hO1 := Lib.hid ((hO0.out.up b1).up ((Below.refl _ _).alloc (Nat.le_refl _) (.cells #[.string { data := #[99, 111, 117, 110, 116] }, .string { data := #[97, 100, 100] }, .string { data := #[114, 101, 109, 111, 118, 101] }, .string { data := #[119, 114, 105, 116, 101] }, .string { data := #[105, 110, 115, 101, 114, 116] }, .string { data := #[100, 101, 108, 101, 116, 101] }, .string { data := #[109, 101, 114, 103, 101] }] 9))); have hO1' := Lib.hid (hO0.out.up b1); have B1 := Lib.hid (hb0.trans (b1.mono hb0.size)); obtain ⟨l0, c0, c1, c2, c3, c4⟩ := hO1.out))
  go_ret
  have e32 : ({ data := #[32] } : ByteArray) = text [32] := rfl
  have e35 : ({ data := #[32, 35] } : ByteArray) = text [32, 35] := rfl
  have e9 : ((((wd ++ ({ data := #[32] } : ByteArray)) ++ t1) ++ ({ data := #[32, 35] } : ByteArray)) ++ u2) = XX := by
    rw [HXX.out, HW.out, H1.out, HV2.out]
    (try rw [e32])
    (try rw [e35])
    (try simp only [text_cat, List.append_assoc, List.cons_append, List.nil_append])
  rw [HW.out] at e9
  exact ⟨congrArg (fun x => Ending.returned (Value.string x)) e9, by first | exact B3.out | exact B3.out.drew⟩
theorem rshow_5 (z : Int) (nm tx a : List UInt8) (w : World) (ln : nm.length ≤ 48) (lt : tx.length ≤ 48) (la : a.length ≤ 48) (hz : -2147483647 ≤ z ∧ z ≤ 2147483647)
    (HC : Hid (∀ W, Calls Tryd.prog 17 #[.agg #[.int .i64 5, .string (text nm), .string (text tx), .int .i64 z, .string (text a)]] W fun e w' => e = .returned (.bool true) ∧ Below W.heap.size W w')) :
    Calls Tryd.prog 13 #[.agg #[.int .i64 5, .string (text nm), .string (text tx), .int .i64 z, .string (text a)]] w fun e w' => e = .returned (.string (text (wordO 5 ++ (32 :: nm) ++ (32 :: 35 :: hexL tx) ++ (32 :: 35 :: hexL a)))) ∧ Below w.heap.size w w' := by
  obtain ⟨XX, hXX⟩ : ∃ X, X = text (wordO 5 ++ (32 :: nm) ++ (32 :: 35 :: hexL tx) ++ (32 :: 35 :: hexL a)) := ⟨_, rfl⟩
  have HXX := Lib.hid hXX
  rw [← hXX]
  clear hXX
  obtain ⟨t1, h1⟩ : ∃ t, t = text nm := ⟨_, rfl⟩
  obtain ⟨n1, g1⟩ : ∃ n, n = nm.length := ⟨_, rfl⟩
  have s1 : t1.size = n1 := by rw [h1, g1]; exact text_size nm
  have m1 : n1 ≤ 48 := by omega
  obtain ⟨t2, h2⟩ : ∃ t, t = text tx := ⟨_, rfl⟩
  obtain ⟨n2, g2⟩ : ∃ n, n = tx.length := ⟨_, rfl⟩
  have s2 : t2.size = n2 := by rw [h2, g2]; exact text_size tx
  have m2 : n2 ≤ 48 := by omega
  obtain ⟨t3, h3⟩ : ∃ t, t = text a := ⟨_, rfl⟩
  obtain ⟨n3, g3⟩ : ∃ n, n = a.length := ⟨_, rfl⟩
  have s3 : t3.size = n3 := by rw [h3, g3]; exact text_size a
  have m3 : n3 ≤ 48 := by omega
  have H1 := Lib.hid h1
  have H2 := Lib.hid h2
  have H3 := Lib.hid h3
  obtain ⟨wd, hwd⟩ : ∃ t, t = text (wordO 5) := ⟨_, rfl⟩
  have HW := Lib.hid hwd
  have sw : wd.size = 6 := by rw [hwd]; rfl
  have HK : Hid (∀ W, Calls Tryd.prog 22 #[.int .i64 5] W fun e w' => e = .returned (.tuple #[.bool true, .bool true, .bool false, .bool true, .bool true]) ∧ Below W.heap.size W w') := fun W => refHas_any 5 W
  clear hwd
  obtain ⟨u2, hu2⟩ : ∃ t, t = text (hexL tx) := ⟨_, rfl⟩
  obtain ⟨l2, hl2⟩ : ∃ n, n = (hexL tx).length := ⟨_, rfl⟩
  have su2 : u2.size = l2 := by rw [hu2, hl2, text_size]
  have lu2 : l2 ≤ 96 := by rw [hl2, hexL_length]; omega
  have HU2 : Hid (∀ W, Calls Tryd.prog 34 #[.string t2] W fun e w' => e = .returned (.string u2) ∧ Below W.heap.size W w') := fun W => by rw [h2, hu2]; exact refHex_any tx W (by omega)
  have HV2 := Lib.hid hu2
  clear hu2 hl2
  obtain ⟨u3, hu3⟩ : ∃ t, t = text (hexL a) := ⟨_, rfl⟩
  obtain ⟨l3, hl3⟩ : ∃ n, n = (hexL a).length := ⟨_, rfl⟩
  have su3 : u3.size = l3 := by rw [hu3, hl3, text_size]
  have lu3 : l3 ≤ 96 := by rw [hl3, hexL_length]; omega
  have HU3 : Hid (∀ W, Calls Tryd.prog 34 #[.string t3] W fun e w' => e = .returned (.string u3) ∧ Below W.heap.size W w') := fun W => by rw [h3, hu3]; exact refHex_any a W (by omega)
  have HV3 := Lib.hid hu3
  clear hu3 hl3
  rw [← h1, ← h2, ← h3] at HC
  show Calls Tryd.prog 13 #[.agg #[.int .i64 5, .string (text nm), .string (text tx), .int .i64 z, .string (text a)]] w _
  rw [← h1, ← h2, ← h3]
  clear h1 h2 h3 g1 g2 g3 ln lt la hz
  have hO0 := Lib.hid (OpAt.new w 5 t1 t2 z t3)
  have hb0 : Below w.heap.size w (w.alloc (.cells #[.int .i64 5, .string t1, .string t2, .int .i64 z, .string t3] 23)) := (Below.refl _ _).alloc (Nat.le_refl _) _
  have a23 := fun w' => Tryd.opAgg w'
  have s23 := fun w' => Tryd.opSize w'
  go_enter Tryd.func13, Tryd.ntmps13
  go_wp2_with (first
    | (go_at_call 34; (with_reducible refine (HU3.out _ ).mono ?_); rintro e w4 ⟨rfl, b4⟩; have hO4 := Lib.hid (hO3.out.up b4); have B4 := Lib.hid (B3.out.trans (b4.mono B3.out.size)); clear l0 c0 c1 c2 c3 c4; obtain ⟨l0, c0, c1, c2, c3, c4⟩ := hO4.out)
    | (go_at_call 34; (with_reducible refine (HU2.out _ ).mono ?_); rintro e w3 ⟨rfl, b3⟩; have hO3 := Lib.hid (hO2.out.up b3); have B3 := Lib.hid (B2.out.trans (b3.mono B2.out.size)); clear l0 c0 c1 c2 c3 c4; obtain ⟨l0, c0, c1, c2, c3, c4⟩ := hO3.out)
    | (go_at_call 22; (with_reducible refine (HK.out _).mono ?_); rintro e w2 ⟨rfl, b2⟩; have hO2 := Lib.hid (hO1.out.up b2); have B2 := Lib.hid ((B1.out.alloc B1.out.size _).trans (b2.mono (Nat.le_trans B1.out.size (by simp)))); clear l0 c0 c1 c2 c3 c4; obtain ⟨l0, c0, c1, c2, c3, c4⟩ := hO2.out)
    | (go_at_call 17; (with_reducible refine (HC.out _).mono ?_); rintro e w1 ⟨rfl, b1⟩; have hO1 := Lib.hid ((hO0.out.up b1).up ((Below.refl _ _).alloc (Nat.le_refl _) (.cells #[.string { data := #[99, 111, 117, 110, 116] }, .string { data := #[97, 100, 100] }, .string { data := #[114, 101, 109, 111, 118, 101] }, .string { data := #[119, 114, 105, 116, 101] }, .string { data := #[105, 110, 115, 101, 114, 116] }, .string { data := #[100, 101, 108, 101, 116, 101] }, .string { data := #[109, 101, 114, 103, 101] }] 9))); have hO1' := Lib.hid (hO0.out.up b1); have B1 := Lib.hid (hb0.trans (b1.mono hb0.size)); obtain ⟨l0, c0, c1, c2, c3, c4⟩ := hO1.out))
  go_ret
  have e32 : ({ data := #[32] } : ByteArray) = text [32] := rfl
  have e35 : ({ data := #[32, 35] } : ByteArray) = text [32, 35] := rfl
  have e9 : ((((((wd ++ ({ data := #[32] } : ByteArray)) ++ t1) ++ ({ data := #[32, 35] } : ByteArray)) ++ u2) ++ ({ data := #[32, 35] } : ByteArray)) ++ u3) = XX := by
    rw [HXX.out, HW.out, H1.out, HV2.out, HV3.out]
    (try rw [e32])
    (try rw [e35])
    (try simp only [text_cat, List.append_assoc, List.cons_append, List.nil_append])
  rw [HW.out] at e9
  exact ⟨congrArg (fun x => Ending.returned (Value.string x)) e9, by first | exact B4.out | exact B4.out.drew⟩
theorem rshow_6 (z : Int) (nm tx a : List UInt8) (w : World) (ln : nm.length ≤ 48) (lt : tx.length ≤ 48) (la : a.length ≤ 48) (hz : -2147483647 ≤ z ∧ z ≤ 2147483647)
    (HC : Hid (∀ W, Calls Tryd.prog 17 #[.agg #[.int .i64 6, .string (text nm), .string (text tx), .int .i64 z, .string (text a)]] W fun e w' => e = .returned (.bool true) ∧ Below W.heap.size W w')) :
    Calls Tryd.prog 13 #[.agg #[.int .i64 6, .string (text nm), .string (text tx), .int .i64 z, .string (text a)]] w fun e w' => e = .returned (.string (text (wordO 6 ++ (32 :: nm) ++ (32 :: 35 :: hexL a)))) ∧ Below w.heap.size w w' := by
  obtain ⟨XX, hXX⟩ : ∃ X, X = text (wordO 6 ++ (32 :: nm) ++ (32 :: 35 :: hexL a)) := ⟨_, rfl⟩
  have HXX := Lib.hid hXX
  rw [← hXX]
  clear hXX
  obtain ⟨t1, h1⟩ : ∃ t, t = text nm := ⟨_, rfl⟩
  obtain ⟨n1, g1⟩ : ∃ n, n = nm.length := ⟨_, rfl⟩
  have s1 : t1.size = n1 := by rw [h1, g1]; exact text_size nm
  have m1 : n1 ≤ 48 := by omega
  obtain ⟨t2, h2⟩ : ∃ t, t = text tx := ⟨_, rfl⟩
  obtain ⟨n2, g2⟩ : ∃ n, n = tx.length := ⟨_, rfl⟩
  have s2 : t2.size = n2 := by rw [h2, g2]; exact text_size tx
  have m2 : n2 ≤ 48 := by omega
  obtain ⟨t3, h3⟩ : ∃ t, t = text a := ⟨_, rfl⟩
  obtain ⟨n3, g3⟩ : ∃ n, n = a.length := ⟨_, rfl⟩
  have s3 : t3.size = n3 := by rw [h3, g3]; exact text_size a
  have m3 : n3 ≤ 48 := by omega
  have H1 := Lib.hid h1
  have H2 := Lib.hid h2
  have H3 := Lib.hid h3
  obtain ⟨wd, hwd⟩ : ∃ t, t = text (wordO 6) := ⟨_, rfl⟩
  have HW := Lib.hid hwd
  have sw : wd.size = 6 := by rw [hwd]; rfl
  have HK : Hid (∀ W, Calls Tryd.prog 22 #[.int .i64 6] W fun e w' => e = .returned (.tuple #[.bool true, .bool false, .bool false, .bool true, .bool true]) ∧ Below W.heap.size W w') := fun W => refHas_any 6 W
  clear hwd
  obtain ⟨u3, hu3⟩ : ∃ t, t = text (hexL a) := ⟨_, rfl⟩
  obtain ⟨l3, hl3⟩ : ∃ n, n = (hexL a).length := ⟨_, rfl⟩
  have su3 : u3.size = l3 := by rw [hu3, hl3, text_size]
  have lu3 : l3 ≤ 96 := by rw [hl3, hexL_length]; omega
  have HU3 : Hid (∀ W, Calls Tryd.prog 34 #[.string t3] W fun e w' => e = .returned (.string u3) ∧ Below W.heap.size W w') := fun W => by rw [h3, hu3]; exact refHex_any a W (by omega)
  have HV3 := Lib.hid hu3
  clear hu3 hl3
  rw [← h1, ← h2, ← h3] at HC
  show Calls Tryd.prog 13 #[.agg #[.int .i64 6, .string (text nm), .string (text tx), .int .i64 z, .string (text a)]] w _
  rw [← h1, ← h2, ← h3]
  clear h1 h2 h3 g1 g2 g3 ln lt la hz
  have hO0 := Lib.hid (OpAt.new w 6 t1 t2 z t3)
  have hb0 : Below w.heap.size w (w.alloc (.cells #[.int .i64 6, .string t1, .string t2, .int .i64 z, .string t3] 23)) := (Below.refl _ _).alloc (Nat.le_refl _) _
  have a23 := fun w' => Tryd.opAgg w'
  have s23 := fun w' => Tryd.opSize w'
  go_enter Tryd.func13, Tryd.ntmps13
  go_wp2_with (first
    | (go_at_call 34; (with_reducible refine (HU3.out _ ).mono ?_); rintro e w3 ⟨rfl, b3⟩; have hO3 := Lib.hid (hO2.out.up b3); have B3 := Lib.hid (B2.out.trans (b3.mono B2.out.size)); clear l0 c0 c1 c2 c3 c4; obtain ⟨l0, c0, c1, c2, c3, c4⟩ := hO3.out)
    | (go_at_call 22; (with_reducible refine (HK.out _).mono ?_); rintro e w2 ⟨rfl, b2⟩; have hO2 := Lib.hid (hO1.out.up b2); have B2 := Lib.hid ((B1.out.alloc B1.out.size _).trans (b2.mono (Nat.le_trans B1.out.size (by simp)))); clear l0 c0 c1 c2 c3 c4; obtain ⟨l0, c0, c1, c2, c3, c4⟩ := hO2.out)
    | (go_at_call 17; (with_reducible refine (HC.out _).mono ?_); rintro e w1 ⟨rfl, b1⟩; have hO1 := Lib.hid ((hO0.out.up b1).up ((Below.refl _ _).alloc (Nat.le_refl _) (.cells #[.string { data := #[99, 111, 117, 110, 116] }, .string { data := #[97, 100, 100] }, .string { data := #[114, 101, 109, 111, 118, 101] }, .string { data := #[119, 114, 105, 116, 101] }, .string { data := #[105, 110, 115, 101, 114, 116] }, .string { data := #[100, 101, 108, 101, 116, 101] }, .string { data := #[109, 101, 114, 103, 101] }] 9))); have hO1' := Lib.hid (hO0.out.up b1); have B1 := Lib.hid (hb0.trans (b1.mono hb0.size)); obtain ⟨l0, c0, c1, c2, c3, c4⟩ := hO1.out))
  go_ret
  have e32 : ({ data := #[32] } : ByteArray) = text [32] := rfl
  have e35 : ({ data := #[32, 35] } : ByteArray) = text [32, 35] := rfl
  have e9 : ((((wd ++ ({ data := #[32] } : ByteArray)) ++ t1) ++ ({ data := #[32, 35] } : ByteArray)) ++ u3) = XX := by
    rw [HXX.out, HW.out, H1.out, HV3.out]
    (try rw [e32])
    (try rw [e35])
    (try simp only [text_cat, List.append_assoc, List.cons_append, List.nil_append])
  rw [HW.out] at e9
  exact ⟨congrArg (fun x => Ending.returned (Value.string x)) e9, by first | exact B3.out | exact B3.out.drew⟩
theorem rshow_7 (z : Int) (nm tx a : List UInt8) (w : World) (ln : nm.length ≤ 48) (lt : tx.length ≤ 48) (la : a.length ≤ 48) (hz : -2147483647 ≤ z ∧ z ≤ 2147483647)
    (HC : Hid (∀ W, Calls Tryd.prog 17 #[.agg #[.int .i64 7, .string (text nm), .string (text tx), .int .i64 z, .string (text a)]] W fun e w' => e = .returned (.bool true) ∧ Below W.heap.size W w')) :
    Calls Tryd.prog 13 #[.agg #[.int .i64 7, .string (text nm), .string (text tx), .int .i64 z, .string (text a)]] w fun e w' => e = .returned (.string (text (wordO 7))) ∧ Below w.heap.size w w' := by
  obtain ⟨XX, hXX⟩ : ∃ X, X = text (wordO 7) := ⟨_, rfl⟩
  have HXX := Lib.hid hXX
  rw [← hXX]
  clear hXX
  obtain ⟨t1, h1⟩ : ∃ t, t = text nm := ⟨_, rfl⟩
  obtain ⟨n1, g1⟩ : ∃ n, n = nm.length := ⟨_, rfl⟩
  have s1 : t1.size = n1 := by rw [h1, g1]; exact text_size nm
  have m1 : n1 ≤ 48 := by omega
  obtain ⟨t2, h2⟩ : ∃ t, t = text tx := ⟨_, rfl⟩
  obtain ⟨n2, g2⟩ : ∃ n, n = tx.length := ⟨_, rfl⟩
  have s2 : t2.size = n2 := by rw [h2, g2]; exact text_size tx
  have m2 : n2 ≤ 48 := by omega
  obtain ⟨t3, h3⟩ : ∃ t, t = text a := ⟨_, rfl⟩
  obtain ⟨n3, g3⟩ : ∃ n, n = a.length := ⟨_, rfl⟩
  have s3 : t3.size = n3 := by rw [h3, g3]; exact text_size a
  have m3 : n3 ≤ 48 := by omega
  have H1 := Lib.hid h1
  have H2 := Lib.hid h2
  have H3 := Lib.hid h3
  obtain ⟨wd, hwd⟩ : ∃ t, t = text (wordO 7) := ⟨_, rfl⟩
  have HW := Lib.hid hwd
  have sw : wd.size = 5 := by rw [hwd]; rfl
  have HK : Hid (∀ W, Calls Tryd.prog 22 #[.int .i64 7] W fun e w' => e = .returned (.tuple #[.bool false, .bool false, .bool false, .bool false, .bool true]) ∧ Below W.heap.size W w') := fun W => refHas_any 7 W
  clear hwd
  rw [← h1, ← h2, ← h3] at HC
  show Calls Tryd.prog 13 #[.agg #[.int .i64 7, .string (text nm), .string (text tx), .int .i64 z, .string (text a)]] w _
  rw [← h1, ← h2, ← h3]
  clear h1 h2 h3 g1 g2 g3 ln lt la hz
  have hO0 := Lib.hid (OpAt.new w 7 t1 t2 z t3)
  have hb0 : Below w.heap.size w (w.alloc (.cells #[.int .i64 7, .string t1, .string t2, .int .i64 z, .string t3] 23)) := (Below.refl _ _).alloc (Nat.le_refl _) _
  have a23 := fun w' => Tryd.opAgg w'
  have s23 := fun w' => Tryd.opSize w'
  go_enter Tryd.func13, Tryd.ntmps13
  go_wp2_with (first
    | (go_at_call 22; (with_reducible refine (HK.out _).mono ?_); rintro e w2 ⟨rfl, b2⟩; have hO2 := Lib.hid (hO1.out.up b2); have B2 := Lib.hid ((B1.out.alloc B1.out.size _).trans (b2.mono (Nat.le_trans B1.out.size (by simp)))); clear l0 c0 c1 c2 c3 c4; obtain ⟨l0, c0, c1, c2, c3, c4⟩ := hO2.out)
    | (go_at_call 17; (with_reducible refine (HC.out _).mono ?_); rintro e w1 ⟨rfl, b1⟩; have hO1 := Lib.hid ((hO0.out.up b1).up ((Below.refl _ _).alloc (Nat.le_refl _) (.cells #[.string { data := #[99, 111, 117, 110, 116] }, .string { data := #[97, 100, 100] }, .string { data := #[114, 101, 109, 111, 118, 101] }, .string { data := #[119, 114, 105, 116, 101] }, .string { data := #[105, 110, 115, 101, 114, 116] }, .string { data := #[100, 101, 108, 101, 116, 101] }, .string { data := #[109, 101, 114, 103, 101] }] 9))); have hO1' := Lib.hid (hO0.out.up b1); have B1 := Lib.hid (hb0.trans (b1.mono hb0.size)); obtain ⟨l0, c0, c1, c2, c3, c4⟩ := hO1.out))
  go_ret
  have e32 : ({ data := #[32] } : ByteArray) = text [32] := rfl
  have e35 : ({ data := #[32, 35] } : ByteArray) = text [32, 35] := rfl
  have e9 : wd = XX := by
    rw [HXX.out, HW.out]
    (try rw [e32])
    (try rw [e35])
    (try simp only [text_cat, List.append_assoc, List.cons_append, List.nil_append])
  rw [HW.out] at e9
  exact ⟨congrArg (fun x => Ending.returned (Value.string x)) e9, by first | exact B2.out | exact B2.out.drew⟩
end
section
open Go.RowKit
theorem pread_any (B g : Nat) (st : St) (w : World) (hC : CurB B w g st) (hB : B ≤ w.heap.size) :
    Calls Tryd.prog 25 #[.pointer (some ⟨g, 0, none⟩)] w fun e w' => e = .returned (opV (readO st).2) ∧ Only w w' g := by
  obtain ⟨s1, k, h1⟩ : ∃ s1 k, stepByte st = (s1, k) := ⟨_, _, rfl⟩
  obtain ⟨s2, nm, h2⟩ : ∃ s2 nm, stepText s1 = (s2, nm) := ⟨_, _, rfl⟩
  obtain ⟨s3, tx, h3⟩ : ∃ s3 tx, stepText s2 = (s3, tx) := ⟨_, _, rfl⟩
  by_cases hk : 1 ≤ (k : Int) ∧ (k : Int) ≤ 7
  · obtain ⟨q, hq⟩ : ∃ q : Int, q = (k : Int) := ⟨_, rfl⟩
    rw [← hq] at hk
    rcases kind_cases hk with e | e | e | e | e | e | e <;> (subst e; have hk2 := hq.symm)
    · obtain rfl : k = 1 := by omega
      obtain ⟨s4, z, h4⟩ : ∃ s4 z, rdNum true s2 = (s4, z) := ⟨_, _, rfl⟩
      have e : (readO st).2 = ⟨1, nm, [], z, []⟩ := by
        unfold readO rdText
        rw [h1]
        simp only [hasName, hasText, hasN, show ((1 : Nat) : Int) = 1 from rfl]
        simp [h2, h4, rdAt]
      rw [e]
      exact (pread_1 B g w st s1 s2 s4 nm z hC hB h1 h2 h4).mono fun e w' hh => ⟨hh.1, hh.2.2⟩
    · obtain rfl : k = 2 := by omega
      have e : (readO st).2 = ⟨2, nm, tx, 0, []⟩ := by
        unfold readO rdText rdNum
        rw [h1]
        simp only [hasName, hasText, hasN, show ((2 : Nat) : Int) = 2 from rfl]
        simp [h2, h3, rdAt]
      rw [e]
      exact (pread_2 B g w st s1 s2 s3 nm tx hC hB h1 h2 h3).mono fun e w' hh => ⟨hh.1, hh.2.2⟩
    · obtain rfl : k = 3 := by omega
      have e : (readO st).2 = ⟨3, nm, tx, 0, []⟩ := by
        unfold readO rdText rdNum
        rw [h1]
        simp only [hasName, hasText, hasN, show ((3 : Nat) : Int) = 3 from rfl]
        simp [h2, h3, rdAt]
      rw [e]
      exact (pread_3 B g w st s1 s2 s3 nm tx hC hB h1 h2 h3).mono fun e w' hh => ⟨hh.1, hh.2.2⟩
    · obtain rfl : k = 4 := by omega
      have e : (readO st).2 = ⟨4, nm, tx, 0, []⟩ := by
        unfold readO rdText rdNum
        rw [h1]
        simp only [hasName, hasText, hasN, show ((4 : Nat) : Int) = 4 from rfl]
        simp [h2, h3, rdAt]
      rw [e]
      exact (pread_4 B g w st s1 s2 s3 nm tx hC hB h1 h2 h3).mono fun e w' hh => ⟨hh.1, hh.2.2⟩
    · obtain rfl : k = 5 := by omega
      obtain ⟨s4, a, h5⟩ : ∃ s4 a, rdAt5 s3 = (s4, a) := ⟨_, _, rfl⟩
      have e : (readO st).2 = ⟨5, nm, tx, 0, a⟩ := by
        unfold readO rdText rdNum
        rw [h1]
        simp only [hasName, hasText, hasN, show ((5 : Nat) : Int) = 5 from rfl]
        simp [h2, h3, rdAt, h5]
      rw [e]
      exact (pread_5 B g w st s1 s2 s3 s4 nm tx a hC hB h1 h2 h3 h5).mono fun e w' hh => ⟨hh.1, hh.2.2⟩
    · obtain rfl : k = 6 := by omega
      obtain ⟨s4, a, h5⟩ : ∃ s4 a, stepTake 32 s2 = (s4, a) := ⟨_, _, rfl⟩
      have e : (readO st).2 = ⟨6, nm, [], 0, a⟩ := by
        unfold readO rdText rdNum
        rw [h1]
        simp only [hasName, hasText, hasN, show ((6 : Nat) : Int) = 6 from rfl]
        simp [h2, rdAt, h5]
      rw [e]
      exact (pread_6 B g w st s1 s2 s4 nm a hC hB h1 h2 h5).mono fun e w' hh => ⟨hh.1, hh.2.2⟩
    · obtain rfl : k = 7 := by omega
      have e : (readO st).2 = ⟨7, [], [], 0, []⟩ := by
        unfold readO rdText rdNum
        rw [h1]
        simp only [hasName, hasText, hasN, show ((7 : Nat) : Int) = 7 from rfl]
        simp [rdAt]
      rw [e]
      exact (pread_7 B g w st s1 hC hB h1).mono fun e w' hh => ⟨hh.1, hh.2.2⟩
  · have e : (readO st).2 = ⟨(k : Int), [], [], 0, []⟩ := by
      have a1 : hasName (k : Int) = false := by unfold hasName; simp; omega
      have a2 : hasText (k : Int) = false := by unfold hasText; simp; omega
      have a3 : hasN (k : Int) = false := by unfold hasN; simp; omega
      unfold readO rdText rdNum
      rw [h1]
      simp only [a1, a2, a3]
      have b5 : ¬ (k : Int) = 5 := by omega
      have b6 : ¬ (k : Int) = 6 := by omega
      simp [rdAt, b5, b6]
    rw [e]
    exact (pread_0 B g w st s1 k hk hC hB h1).mono fun e w' hh => ⟨hh.1, hh.2.2⟩
theorem rb_takeO {w : World} {B : Nat} {A : Option Addr} {L : List UInt8} (h : RB w B A L) (k : Nat) : RB w B A (L.take k) := by
  refine ⟨by rw [cells_length]; simp, fun h0 => ?_⟩
  obtain ⟨ad, e, hb', hcc⟩ := h.2 (by rw [List.length_take] at h0; omega)
  refine ⟨ad, e, hb', fun j u hu => hcc j u ?_⟩
  rw [← cells_take, List.getElem?_take] at hu
  split at hu
  · exact hu
  · cases hu
def preB (L M : List UInt8) : Bool := decide (M.length ≤ L.length) && decide (L.take M.length = M)
theorem hasPrefix_any (L M : List UInt8) (n m : Nat) (A C : Option Addr) (c d : Nat) (w : World) (hn : n = L.length) (hm : m = M.length) (ha : RB w w.heap.size A L) (hb : RB w w.heap.size C M) (hc : n ≤ c) (hcm : c ≤ 9223372036854775807) (hl : n ≤ 1000000) (hl2 : m ≤ 1000000) :
    Calls Tryd.prog 27 #[.slice A n c, .slice C m d] w fun e w' => e = .returned (.bool (preB L M)) ∧ Below w.heap.size w w' := by
  by_cases h : m ≤ n
  · obtain ⟨bo, hbo⟩ : ∃ bo, bo = decide (L.take m = M) := ⟨_, rfl⟩
    have HE : Hid (∀ W, Below w.heap.size w W → Calls Tryd.prog 51 #[.slice A m c, .slice C m d] W fun e w' => e = .returned (.bool bo) ∧ W = w') := fun W hW => by
      have h1 := equal_any (L.take m) M A C c d w.heap.size w.heap.size W ((rb_takeO ha m).below hW) (hb.below hW)
      rw [show (L.take m).length = m by rw [List.length_take]; omega, ← hm, ← hbo] at h1
      exact h1
    have HP : Hid (preB L M = bo) := by
      show _ = _
      unfold preB
      rw [← hm, decide_eq_true (show m ≤ L.length by omega), hbo]
      rfl
    have d1 : decide ((n : Int) ≥ (m : Int)) = true := decide_eq_true (by omega)
    have d1' : decide ((m : Int) ≤ (n : Int)) = true := decide_eq_true (by omega)
    have d2 : ((m : Nat) : Int) ≤ (c : Int) := by omega
    have d3 : (0 : Int) ≤ (m : Int) := by omega
    have HB := Lib.hid (Below.refl w.heap.size w)
    clear hn hm ha hb hbo
    go_enter Tryd.func27, Tryd.ntmps27
    go_wp2_with (first
      | (go_at_call 51; (with_reducible refine (HE.out _ (by first | exact HB.out | exact HB.out.drew)).mono ?_); rintro e w1 ⟨rfl, hw⟩; have hw := Lib.hid hw))
    go_ret
    rw [HP.out]
    refine ⟨rfl, ?_⟩
    rw [← hw.out]
    first | exact HB.out | exact HB.out.drew
  · have HP : Hid (preB L M = false) := by
      show _ = _
      unfold preB
      rw [decide_eq_false (show ¬ M.length ≤ L.length by omega)]
      rfl
    have d1 : decide ((n : Int) ≥ (m : Int)) = false := decide_eq_false (by omega)
    have d1' : decide ((m : Int) ≤ (n : Int)) = false := decide_eq_false (by omega)
    clear hn hm ha hb
    go_enter Tryd.func27, Tryd.ntmps27
    go_wp2
    go_ret
    rw [HP.out]
    exact ⟨rfl, by first | exact Below.refl _ _ | exact (Below.refl _ _).drew⟩
def getE : Option (Opn × Nat) → Ending
  | some (o, k) => .returned (.tuple #[opV o, .int .i64 (k : Int), .int .i64 0])
  | none => .returned (.tuple #[opV Opn.zero, .int .i64 0, .int .i64 5])
def GivesGet (b : List UInt8) (w : World) (e : Ending) (w' : World) : Prop := (∃ r, GetsO b r ∧ e = getE r) ∧ Below w.heap.size w w'
theorem pre_begins {b : List UInt8} {o : Opn} (hM : o.May) (h : preB b o.bytes = true) : Begins b o o.bytes.length := by
  unfold preB at h
  simp only [Bool.and_eq_true, decide_eq_true_eq] at h
  exact ⟨hM, h.1, h.2⟩
theorem gets_yes {b : List UInt8} {o : Opn} (hm : o.mayB = true) (h : preB b o.bytes = true) : GetsO b (some (o, o.bytes.length)) := pre_begins ((mayB_iff o).1 hm) h
theorem gets_no {b : List UInt8} {o : Opn} (ho : o = (readO (some (b.take 96))).2) (h : o.mayB = false ∨ preB b o.bytes = false) : GetsO b none := by
  intro p k hp
  have h2 := read_begins (hp.take hp.le)
  rw [h2] at ho
  simp only at ho
  subst ho
  have hm := (mayB_iff o).2 hp.1
  rcases h with h | h
  · rw [hm] at h; cases h
  · have : preB b o.bytes = true := by
      unfold preB
      rw [← hp.size, decide_eq_true hp.2.1, decide_eq_true hp.2.2]
      rfl
    rw [this] at h
    cases h
end
end Go.Proofs.YtpcopmpmcjkamaaDoor
