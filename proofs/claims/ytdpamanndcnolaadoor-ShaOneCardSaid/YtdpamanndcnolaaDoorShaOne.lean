/- ShaOne returns true for every slice of bytes and every two numbers, and leaves memory that was there as it was; the rounds' numbers lie as the program's text lays them (the card ties that); nothing else is assumed beyond the statement itself. -/
import Derived.Test.YtdpamanndcnolaaDoorShaIDs
set_option linter.unusedVariables false
namespace Go.Proofs.YtdpamanndcnolaaDoor
open Go.ChangeShapes Go.WideShapes Go.ChangeAt Go.RowKit

theorem add_lies (L M : List UInt8) (g B n : Nat) (A : Option Addr) (c : Nat) (w : World) (h : HashAt w g L) (hg : g ≠ 0) (hT : Tab w) (hr : RB w B A M) (hB : B ≤ g) (hn : n = M.length)
    (hl : L.length + M.length ≤ 1000000) (hc : M.length ≤ c) (hcm : c ≤ 9223372036854775807) :
    Calls Tryd.prog 10 #[.pointer (some ⟨g, 0, none⟩), .slice A n c] w fun e w' => e = .returned (.tuple #[]) ∧ HashAt w' g (L ++ M) ∧ Only w w' g := by
  subst hn
  exact add_below L M g B A c w h hg hT hr hB hl hc hcm
theorem begin_gives (w : World) : Calls Tryd.prog 9 #[] w fun e w' => ∃ g, e = .returned (.pointer (some ⟨g, 0, none⟩)) ∧ Hid (g = w.heap.size) ∧ Hid (HashAt w' g []) ∧ Below w.heap.size w w' := by
  refine (begin_any w).mono ?_
  rintro e w' ⟨rfl, h1, h2⟩
  exact ⟨_, rfl, rfl, h1, h2⟩
theorem sum_empty (w : World) : Calls Tryd.prog 11 #[.pointer none] w fun e w' => e = .returned (.string { data := #[] }) ∧ w = w' := sum_none w
theorem sum_gives (L : List UInt8) (g : Nat) (w : World) (t : ByteArray) (h : HashAt w g L) (hT : Tab w) (hl : L.length ≤ 100000) (ht : text (idL L) = t) :
    Calls Tryd.prog 11 #[.pointer (some ⟨g, 0, none⟩)] w fun e w' => e = .returned (.string t) ∧ Below w.heap.size w w' := by
  rw [← ht]
  exact sum_any L g w h hT hl
theorem slice_front (A : Option Addr) (n c k : Nat) (W : World) (hk : k ≤ c) : (Instr.sliceAt 22 (.slice A n c) none (some (.int .i64 (k : Int))) none).run Tryd.prog W = .ok (.slice A k c) W := by
  have hu : Tryd.prog.underlying 22 = some (.slice (Tryd.prog.elem 22)) := by kernel_rfl
  have he : Tryd.prog.elem 22 = 5 := by kernel_rfl
  have hs : (sizeOf 5).run Tryd.prog W = .ok 1 W := by kernel_rfl
  have e : (k : Int).toNat = k := by omega
  have e0 : Option.map (fun x : Addr => x.add (0 * 1)) A = A := by
    rcases A with _ | x
    · rfl
    · simp [Addr.add]
  rw [run_sliceAt_slice _ _ _ _ _ _ hu, run_slice_h _ _ _ _ _ hu .i64 (k : Int) (by omega) (by omega), he, hs]
  simp only [Result.andThen_ok, e, sliced, e0]
  simp
theorem slice_back (A : Option Addr) (n c k : Nat) (W : World) (hk : k ≤ n) : (Instr.sliceAt 22 (.slice A n c) (some (.int .i64 (k : Int))) none none).run Tryd.prog W = .ok (.slice (if c = k then A else A.map (fun x => x.add (k * 1))) (n - k) (c - k)) W := by
  have hu : Tryd.prog.underlying 22 = some (.slice (Tryd.prog.elem 22)) := by kernel_rfl
  have he : Tryd.prog.elem 22 = 5 := by kernel_rfl
  have hs : (sizeOf 5).run Tryd.prog W = .ok 1 W := by kernel_rfl
  have e : (k : Int).toNat = k := by omega
  rw [run_sliceAt_slice _ _ _ _ _ _ hu, run_slice_l _ _ _ _ _ hu .i64 (k : Int) (by omega) (by omega), he, hs]
  simp only [Result.andThen_ok, e, sliced]

set_option maxRecDepth 100000 in
set_option maxHeartbeats 2000000 in
theorem one_core (L : List UInt8) (A : Option Addr) (n c i j : Nat) (w : World) (HL : Hid (n = L.length)) (hr : RB w w.heap.size A L) (hT : Tab w) (hn : n ≤ 500) (hij : i ≤ j) (hj : j ≤ n) (hc : n ≤ c) (hcm : c ≤ 9223372036854775807) :
    Calls Tryd.prog 5 #[.slice A n c, .int .i64 (i : Int), .int .i64 (j : Int)] w fun e w' => e = .returned (.bool true) ∧ Below w.heap.size w w' := by
  have hL := HL.out
  obtain ⟨t, ht⟩ : ∃ t, t = text (idL L) := ⟨_, rfl⟩
  have hts : t.size = 32 := by rw [ht]; show (idL L).toArray.size = 32; simp [idL_length]
  have Ht : Hid (text (idL L) = t) := ht.symm
  obtain ⟨Ai, hAi⟩ : ∃ Ai, Ai = (if c = i then A else A.map (fun x => x.add (i * 1))) := ⟨_, rfl⟩
  obtain ⟨Aj, hAj⟩ : ∃ Aj, Aj = (if c = j then A else A.map (fun x => x.add (j * 1))) := ⟨_, rfl⟩
  have S1 : ∀ V, (Instr.sliceAt 22 (.slice A n c) none (some (.int .i64 (i : Int))) none).run Tryd.prog V = .ok (.slice A i c) V := fun V => slice_front A n c i V (by omega)
  have S2 : ∀ V, (Instr.sliceAt 22 (.slice A n c) none (some (.int .i64 (j : Int))) none).run Tryd.prog V = .ok (.slice A j c) V := fun V => slice_front A n c j V (by omega)
  have S3 : ∀ V, (Instr.sliceAt 22 (.slice A n c) (some (.int .i64 (i : Int))) none none).run Tryd.prog V = .ok (.slice Ai (n - i) (c - i)) V := fun V => by rw [hAi]; exact slice_back A n c i V (by omega)
  have S4 : ∀ V, (Instr.sliceAt 22 (.slice A n c) (some (.int .i64 (j : Int))) none none).run Tryd.prog V = .ok (.slice Aj (n - j) (c - j)) V := fun V => by rw [hAj]; exact slice_back A n c j V (by omega)
  have R1 := Lib.hid (rb_take hr i (by omega))
  have R2 := Lib.hid (rb_take hr j (by omega))
  have R3 : Hid (RB w w.heap.size Ai (L.drop i)) := by rw [hAi]; exact rb_cut hr (by omega) (by omega)
  have R4 : Hid (RB w w.heap.size Aj (L.drop j)) := by rw [hAj]; exact rb_cut hr (by omega) (by omega)
  have HTb : Hid (Tab w) := hT
  have hT0 := hT.lt
  have HBg := Lib.hid (fun V => begin_gives V)
  have HR : Hid (RB w w.heap.size A L) := hr
  have l1 : (L.take i).length = i := by simp; omega
  have l2 : (L.take j).length = j := by simp; omega
  have l3 : (L.drop i).length = n - i := by simp; omega
  have l4 : (L.drop j).length = n - j := by simp; omega
  have HLs : Hid ((L.take i).length = i ∧ (L.take j).length = j ∧ (L.drop i).length = n - i ∧ (L.drop j).length = n - j) := ⟨l1, l2, l3, l4⟩
  clear ht hAi hAj hr hT l1 l2 l3 l4
  have HAdd1 : Hid (∀ (V : World) (g1 g2 : Nat), HashAt V g1 ([]) → HashAt V g2 ([]) → Below w.heap.size w V → w.heap.size ≤ g1 → g1 < g2 → Calls Tryd.prog 10 #[.pointer (some ⟨g1, 0, none⟩), .slice A i c] V fun e w' => e = .returned (.tuple #[]) ∧ Hid (HashAt w' g1 (L.take i)) ∧ Hid (HashAt w' g2 ([])) ∧ Below w.heap.size w w') := by
    intro V g1 g2 h1 h2 hb y1 y2
    have l := HLs.out
    refine (add_lies ([]) (L.take i) g1 w.heap.size _ _ _ V h1 (by omega) (HTb.out.below hb) (R1.out.below hb) (by omega) (by omega) (by simp; omega) (by omega) (by omega)).mono ?_
    rintro e w' ⟨rfl, h3, h4⟩
    refine ⟨rfl, ?_, ?_, below_only hb h4 (by omega) hb.size⟩
    · show HashAt _ _ _
      simpa using h3
    · show HashAt _ _ _
      exact h2.only h4 (by omega)
  have HAdd2 : Hid (∀ (V : World) (g1 g2 : Nat), HashAt V g1 (L.take i) → HashAt V g2 ([]) → Below w.heap.size w V → w.heap.size ≤ g1 → g1 < g2 → Calls Tryd.prog 10 #[.pointer (some ⟨g1, 0, none⟩), .slice Ai (n - i) (c - i)] V fun e w' => e = .returned (.tuple #[]) ∧ Hid (HashAt w' g1 (L)) ∧ Hid (HashAt w' g2 ([])) ∧ Below w.heap.size w w') := by
    intro V g1 g2 h1 h2 hb y1 y2
    have l := HLs.out
    refine (add_lies (L.take i) (L.drop i) g1 w.heap.size _ _ _ V h1 (by omega) (HTb.out.below hb) (R3.out.below hb) (by omega) (by omega) (by simp; omega) (by omega) (by omega)).mono ?_
    rintro e w' ⟨rfl, h3, h4⟩
    refine ⟨rfl, ?_, ?_, below_only hb h4 (by omega) hb.size⟩
    · show HashAt _ _ _
      simpa using h3
    · show HashAt _ _ _
      exact h2.only h4 (by omega)
  have HAdd3 : Hid (∀ (V : World) (g1 g2 : Nat), HashAt V g1 (L) → HashAt V g2 ([]) → Below w.heap.size w V → w.heap.size ≤ g1 → g1 < g2 → Calls Tryd.prog 10 #[.pointer (some ⟨g2, 0, none⟩), .slice A j c] V fun e w' => e = .returned (.tuple #[]) ∧ Hid (HashAt w' g1 (L)) ∧ Hid (HashAt w' g2 (L.take j)) ∧ Below w.heap.size w w') := by
    intro V g1 g2 h1 h2 hb y1 y2
    have l := HLs.out
    refine (add_lies ([]) (L.take j) g2 w.heap.size _ _ _ V h2 (by omega) (HTb.out.below hb) (R2.out.below hb) (by omega) (by omega) (by simp; omega) (by omega) (by omega)).mono ?_
    rintro e w' ⟨rfl, h3, h4⟩
    refine ⟨rfl, ?_, ?_, below_only hb h4 (by omega) hb.size⟩
    · show HashAt _ _ _
      exact h1.only h4 (by omega)
    · show HashAt _ _ _
      simpa using h3
  have HAdd4 : Hid (∀ (V : World) (g1 g2 : Nat), HashAt V g1 (L) → HashAt V g2 (L.take j) → Below w.heap.size w V → w.heap.size ≤ g1 → g1 < g2 → Calls Tryd.prog 10 #[.pointer (some ⟨g2, 0, none⟩), .slice Aj (n - j) (c - j)] V fun e w' => e = .returned (.tuple #[]) ∧ Hid (HashAt w' g1 (L)) ∧ Hid (HashAt w' g2 (L)) ∧ Below w.heap.size w w') := by
    intro V g1 g2 h1 h2 hb y1 y2
    have l := HLs.out
    refine (add_lies (L.take j) (L.drop j) g2 w.heap.size _ _ _ V h2 (by omega) (HTb.out.below hb) (R4.out.below hb) (by omega) (by omega) (by simp; omega) (by omega) (by omega)).mono ?_
    rintro e w' ⟨rfl, h3, h4⟩
    refine ⟨rfl, ?_, ?_, below_only hb h4 (by omega) hb.size⟩
    · show HashAt _ _ _
      exact h1.only h4 (by omega)
    · show HashAt _ _ _
      simpa using h3
  obtain ⟨t2, ht2⟩ : ∃ t2, t2 = text (idL (L.take j)) := ⟨_, rfl⟩
  have HSumj : Hid (∀ (V : World) (g : Nat), HashAt V g (L.take j) → Below w.heap.size w V → Calls Tryd.prog 11 #[.pointer (some ⟨g, 0, none⟩)] V fun e w' => e = .returned (.string t2) ∧ Below V.heap.size V w') := by
    intro V g h hb
    exact sum_gives _ g V t2 h (HTb.out.below hb) (by have := HLs.out; omega) ht2.symm
  have HSum : Hid (∀ (V : World) (g : Nat), HashAt V g L → Below w.heap.size w V → Calls Tryd.prog 11 #[.pointer (some ⟨g, 0, none⟩)] V fun e w' => e = .returned (.string t) ∧ Below V.heap.size V w') := by
    intro V g h hb
    exact sum_gives _ g V t h (HTb.out.below hb) (by have := HL.out; omega) Ht.out
  have HIDs : Hid (∀ (V : World), Below w.heap.size w V → Calls Tryd.prog 7 #[.slice A n c] V fun e w' => e = .returned (.string t) ∧ Below V.heap.size V w') := by
    intro V hb
    rw [← Ht.out]
    exact id_any L A n c w.heap.size V (HR.out.below hb) hb.size (HTb.out.below hb) HL.out (by have := HL.out; omega) (by have := HL.out; omega) hcm
  clear ht2
  have u0 : (0 : Int) ≤ (i : Int) := by omega
  have u1 : (i : Int) ≤ (j : Int) := by omega
  have u2 : (j : Int) ≤ (n : Int) := by omega
  have u3 : (n : Int) ≤ 500 := by omega
  have hd1 : decide (500 < (n : Int)) = false := by simp; omega
  have hd2 : decide ((i : Int) < 0) = false := by simp
  clear hL
  go_enter Tryd.func5, Tryd.ntmps5
  go_wp2_with (first
    | (go_at_call 9; (with_reducible refine (HBg.out w).mono ?_); rintro e w1 ⟨g1, rfl, Hg1, HK1, hb1⟩; have z1 := HK1.out.lt; have y1 : w.heap.size ≤ g1 := by have := Hg1.out; omega)
    | (go_at_call 9; (with_reducible refine (HBg.out w1).mono ?_); rintro e w2 ⟨g2, rfl, Hg2, HG2, hb2⟩; have y2 : g1 < g2 := (by have := Hg2.out; omega); have HK2 := Lib.hid (HK1.out.below hb2 z1); have b2 : Below w.heap.size w w2 := hb1.trans (hb2.mono hb1.size))
    | (go_at_call 10; (with_reducible refine (add_none _ _).mono ?_); rintro e w' ⟨rfl, rfl⟩)
    | (go_at_call 12; (with_reducible refine (size_none _).mono ?_); rintro e w' ⟨rfl, rfl⟩)
    | (go_at_call 11; (with_reducible refine (sum_empty _).mono ?_); rintro e w' ⟨rfl, rfl⟩; have HA2 := HAdd1.out w2 g1 g2 HK2.out HG2.out b2 y1 (by omega))
    | (go_at_call 10; (with_reducible refine HA2.mono ?_); rintro e w3 ⟨rfl, HK3, HG3, b3⟩; have HA3 := HAdd2.out w3 g1 g2 HK3.out HG3.out b3 y1 (by omega); clear HA2)
    | (go_at_call 10; (with_reducible refine HA3.mono ?_); rintro e w4 ⟨rfl, HK4, HG4, b4⟩; have HA4 := HAdd3.out w4 g1 g2 HK4.out HG4.out b4 y1 (by omega); clear HA3)
    | (go_at_call 10; (with_reducible refine HA4.mono ?_); rintro e w5 ⟨rfl, HK5, HG5, b5⟩; have HS5 := HSumj.out w5 g2 HG5.out b5; clear HA4)
    | (go_at_call 11; (with_reducible refine HS5.mono ?_); rintro e w6 ⟨rfl, hb6⟩; have HK6 := Lib.hid (HK5.out.below hb6 HK5.out.lt); have HG6 := Lib.hid (HG5.out.below hb6 HG5.out.lt); have b6 : Below w.heap.size w w6 := b5.trans (hb6.mono b5.size); have HA6 := HAdd4.out w6 g1 g2 HK6.out HG6.out b6 y1 (by omega); clear HS5)
    | (go_at_call 10; (with_reducible refine HA6.mono ?_); rintro e w7 ⟨rfl, HK7, HG7, b7⟩; have HS7 := HSum.out w7 g1 HK7.out b7; clear HA6)
    | (go_at_call 11; (with_reducible refine HS7.mono ?_); rintro e w8 ⟨rfl, hb8⟩; have HK8 := Lib.hid (HK7.out.below hb8 HK7.out.lt); have HG8 := Lib.hid (HG7.out.below hb8 HG7.out.lt); have b8 : Below w.heap.size w w8 := b7.trans (hb8.mono b7.size); have HS8 := HSum.out w8 g2 HG8.out b8; clear HS7)
    | (go_at_call 11; (with_reducible refine HS8.mono ?_); rintro e w9 ⟨rfl, hb9⟩; have HK9 := Lib.hid (HK8.out.below hb9 HK8.out.lt); have b9 : Below w.heap.size w w9 := b8.trans (hb9.mono b8.size); have HS9 := HSum.out w9 g1 HK9.out b9; clear HS8)
    | (go_at_call 11; (with_reducible refine HS9.mono ?_); rintro e w10 ⟨rfl, hb10⟩; have HK10 := Lib.hid (HK9.out.below hb10 HK9.out.lt); have b10 : Below w.heap.size w w10 := b9.trans (hb10.mono b9.size); have HI10 := HIDs.out w10 b10; clear HS9)
    | (go_at_call 7; (with_reducible refine HI10.mono ?_); rintro e w11 ⟨rfl, hb11⟩; have HK11 := Lib.hid (HK10.out.below hb11 HK10.out.lt); have b11 : Below w.heap.size w w11 := b10.trans (hb11.mono b10.size); have HS11 := HSum.out w11 g1 HK11.out b11; clear HI10)
    | (go_at_call 11; (with_reducible refine HS11.mono ?_); rintro e w12 ⟨rfl, hb12⟩; have b12 : Below w.heap.size w w12 := b11.trans (hb12.mono b11.size); have HAw := awake_any w12 (HTb.out.below b12); clear HS11)
    | (go_at_call 6; (with_reducible refine HAw.mono ?_); rintro e w13 ⟨rfl, hb13⟩))
  go_ret
  exact ⟨rfl, b12.trans (hb13.mono b12.size)⟩

/-- The guard of the law lets the input by to awake. -/
theorem one_away (A : Option Addr) (n c : Nat) (i j : Int) (w : World) (hT : Tab w) (h : ¬ (n ≤ 500 ∧ 0 ≤ i ∧ i ≤ j ∧ j ≤ (n : Int))) :
    Calls Tryd.prog 5 #[.slice A n c, .int .i64 i, .int .i64 j] w fun e w' => e = .returned (.bool true) ∧ Below w.heap.size w w' := by
  have HA : Hid (Calls Tryd.prog 6 #[] w fun e w' => e = .returned (.bool true) ∧ Below w.heap.size w w') := awake_any w hT
  clear hT
  have HH := Lib.hid h
  clear h
  by_cases h1 : 500 < n
  · have d1 : decide (500 < (n : Int)) = true := by simp; omega
    go_enter Tryd.func5, Tryd.ntmps5
    go_wp2_with (go_at_call 6; (with_reducible refine HA.out.mono ?_); rintro e w1 ⟨rfl, hb1⟩)
    go_ret
    exact ⟨rfl, hb1⟩
  have d1 : decide (500 < (n : Int)) = false := by simp; omega
  by_cases h2 : i < 0
  · have d2 : decide (i < 0) = true := by simp; omega
    go_enter Tryd.func5, Tryd.ntmps5
    go_wp2_with (go_at_call 6; (with_reducible refine HA.out.mono ?_); rintro e w1 ⟨rfl, hb1⟩)
    go_ret
    exact ⟨rfl, hb1⟩
  have d2 : decide (i < 0) = false := by simp; omega
  by_cases h3 : j < i
  · have d3 : decide (j < i) = true := by simp; omega
    go_enter Tryd.func5, Tryd.ntmps5
    go_wp2_with (go_at_call 6; (with_reducible refine HA.out.mono ?_); rintro e w1 ⟨rfl, hb1⟩)
    go_ret
    exact ⟨rfl, hb1⟩
  have d3 : decide (j < i) = false := by simp; omega
  have h4 : (n : Int) < j := by have := HH.out; omega
  have d4 : decide ((n : Int) < j) = true := by simp; omega
  go_enter Tryd.func5, Tryd.ntmps5
  go_wp2_with (go_at_call 6; (with_reducible refine HA.out.mono ?_); rintro e w1 ⟨rfl, hb1⟩)
  go_ret
  exact ⟨rfl, hb1⟩
theorem one_any (L : List UInt8) (A : Option Addr) (c : Nat) (i j : Int) (w : World) (hr : RB w w.heap.size A L) (hT : Tab w) (hc : L.length ≤ c) (hcm : c ≤ 9223372036854775807) :
    Calls Tryd.prog 5 #[.slice A L.length c, .int .i64 i, .int .i64 j] w fun e w' => e = .returned (.bool true) ∧ Below w.heap.size w w' := by
  by_cases h : L.length ≤ 500 ∧ 0 ≤ i ∧ i ≤ j ∧ j ≤ (L.length : Int)
  · obtain ⟨i', rfl⟩ : ∃ i' : Nat, i = (i' : Int) := ⟨i.toNat, by omega⟩
    obtain ⟨j', rfl⟩ : ∃ j' : Nat, j = (j' : Int) := ⟨j.toNat, by omega⟩
    exact one_core L A L.length c i' j' w rfl hr hT h.1 (by omega) (by omega) hc hcm
  · exact one_away A L.length c i j w hT h

set_option maxRecDepth 100000 in
theorem one_lifted (os : Os) (started : os.Started) (H : Type) (enc : TypeId × Value → H) :
    ReturnsInHanded {} Tryd.checked os 5 .any (fun w args => (Rows.shaOneSpec.pre enc Tryd.prog Tryd.f5 [] false w args ∧ laidMetH Tryd.prog laidS w) ∧ sizedMet enc Tryd.prog Tryd.f5 (OpenSpec.ofChange Rows.shaOneSpec) false w args)
      (Rows.shaOneSpec.post enc Tryd.prog Tryd.f5 false true false false) := by
  refine returnsInHanded_of_change_and (C := Tryd.checked) (X := fun w _ => laidMetH Tryd.prog laidS w) (fun _ _ _ hh h => h.of_heap hh) Tryd.own started (by kernel_rfl) Tryd.func5
    (ChangeSpec.witness_shaped (enc := enc) (C := Tryd.checked) (os := os) (X := fun w _ => laidMetH Tryd.prog laidS w) false (World.doorLaid Tryd.prog 400 os) #[.slice none 0 0, .int .i64 0, .int .i64 0] 8 rfl (World.shaped_of_RefB (by kernel_rfl) (by kernel_rfl)) (by kernel_rfl) (by kernel_rfl) (by kernel_rfl) (door_met os _)) ?_
  intro W base args ds gs before hval0 hW hcnd hsz0 hL _
  have hval : ∀ (j : Nat) t v, Tryd.f5.params[j]? = some t → args[j]? = some v → Value.okWide Tryd.prog W .any base t v := hval0
  have hW' : DataW.Whole enc Tryd.prog Tryd.f5.params.toList Rows.shaOneSpec.vars false W args.toList ds gs before := hW
  have hWk := hW'
  obtain ⟨p, q, hA, hV, rfl, hfz, hnd⟩ := hW'
  rw [Tryd.params5] at hA hval
  obtain ⟨v0, v1, v2, d0, d1, d2, p0, p1, p2, rfl, rfl, rfl, h0, h1, h2⟩ := trodAll_three hA
  obtain ⟨rfl, rfl⟩ := trodVars_none hV
  obtain ⟨A, L, c, rfl, hr, hlc, hcm⟩ := open_bytes Tryd.underlying22 Tryd.underlying5 Tryd.cells5s (hval 0 22 v0 rfl rfl) h0
  obtain ⟨i, rfl, rfl, rfl, wi⟩ := open_int Tryd.underlying3 (hval 1 3 v1 rfl rfl) h1
  obtain ⟨j, rfl, rfl, rfl, wj⟩ := open_int Tryd.underlying3 (hval 2 3 v2 rfl rfl) h2
  refine (one_any L A c i j W hr (tab_of_laid hL) hlc hcm).mono fun e W' ⟨he, hb⟩ => ⟨_, he, ?_⟩
  exact law_post Tryd.laidOut hWk rfl rfl rfl rfl rfl Tryd.underlying4 (by kernel_rfl) hb
theorem one_said : Rows.ShaOneSaid :=
  OpenClaim.holds_of_wide 5 Tryd.f5 rfl rfl rfl rfl rfl rfl rfl ⟨rfl, rfl, rfl, rfl, rfl⟩ rfl rfl rfl rfl rfl (by kernel_rfl) Tryd.func5 (by kernel_rfl)
    (of_decide_eq_true (by kernel_rfl)) (by unfold Func.isWrapper; first | (rw [if_pos (by decide +kernel)]; kernel_rfl) | (rw [if_neg (by decide +kernel)]; exact ⟨rfl, rfl⟩))
    (fun os started H enc _ => one_lifted os started H enc)
theorem one_holds : Rows.ShaOneCardSaid :=
  Claim7.holds_tied_plain_at .later [] [.data] true Rows.shaOneCard.stood.harness false
    one_said (fun _ h => by cases h) (by kernel_rfl) (fun _ h => by cases h) shaOne_row_tie rfl ⟨rfl, rfl⟩ (by kernel_rfl) rfl
    (fun f fn hf hfn => by
      obtain rfl : f = 5 := Option.some.inj ((show Tryd.prog.funcNamed "chantry/chantrylaw03.ShaOne" = some 5 by kernel_rfl).symm.trans hf) |>.symm
      obtain rfl : fn = Tryd.f5 := (Option.some.inj (Tryd.func5.symm.trans hfn)).symm
      exact ⟨by kernel_rfl, fun j t ht => by
        rw [Tryd.params5] at ht
        have hm : t ∈ [22, 3, 3] := by simpa using Array.mem_of_getElem? ht
        have hall : ([22, 3, 3].all fun u => !Tryd.prog.wantsStandIn u) = true := by kernel_rfl
        exact (show Tryd.prog.wantsStandIn t = false by simpa using List.all_eq_true.1 hall t hm)⟩)
    (by kernel_rfl)

end Go.Proofs.YtdpamanndcnolaaDoor
