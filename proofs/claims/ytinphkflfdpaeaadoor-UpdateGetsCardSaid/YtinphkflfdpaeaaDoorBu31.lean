/- Lemmas under the proofs of this place: OpPuts2, OpPRead, UpRCheck. No statement is proved here. -/
import Derived.Test.YtinphkflfdpaeaaDoorBu29
import Derived.Test.YtinphkflfdpaeaaDoorBu26
import Derived.Test.YtinphkflfdpaeaaDoorBu23
import Derived.Test.YtinphkflfdpaeaaDoorBu21
set_option linter.unusedSimpArgs false
set_option linter.unusedVariables false
set_option maxRecDepth 100000
set_option maxHeartbeats 16000000
namespace Go.Proofs.YtinphkflfdpaeaaDoor
section
open Go.RowKit
theorem may_parts {k z : Int} {nm tx a : List UInt8} (h : Opn.May ⟨k, nm, tx, z, a⟩) : nm.length ≤ 48 ∧ tx.length ≤ 48 ∧ a.length ≤ 48 ∧ (-2147483647 ≤ z ∧ z ≤ 2147483647) := by
  have hn := h.name
  have ha := h.at_.2
  simp only at hn ha
  refine ⟨?_, h.text.1, ?_, h.n.2⟩
  · split at hn
    · have := (nameOk_iff.1 hn).1
      omega
    · rw [hn]; simp
  · by_cases e : a = []
    · rw [e]; simp
    · rw [ha e]; omega
theorem pcheck_no (k : Int) (t1 t2 t3 : ByteArray) (z : Int) (w : World) (h : ¬ (1 ≤ k ∧ k ≤ 7)) :
    Calls Tryd.prog 31 #[.agg #[.int .i64 k, .string t1, .string t2, .int .i64 z, .string t3]] w fun e w' => e = .returned (.int .i64 1) ∧ Below w.heap.size w w' := by
  have HK : Hid (∀ W, Calls Tryd.prog 45 #[.int .i64 k] W fun e w' => e = .returned (.tuple #[.string (text []), .int .i64 0]) ∧ Below W.heap.size W w') := fun W => pkind_no k W h
  obtain ⟨wd, hwd⟩ : ∃ t, t = text [] := ⟨_, rfl⟩
  have hwl : wd.toList = [] := by rw [hwd]; exact text_toList []
  rw [← hwd] at HK
  clear hwd
  have hO := Lib.hid (OpAt.new w k t1 t2 z t3)
  have hb0 : Below w.heap.size w (w.alloc (.cells #[.int .i64 k, .string t1, .string t2, .int .i64 z, .string t3] 24)) := (Below.refl _ _).alloc (Nat.le_refl _) _
  go_enter Tryd.func31, Tryd.ntmps31
  go_wp2_with (first
    | (go_at_call 45; (with_reducible refine (HK.out _).mono ?_); rintro e w1 ⟨rfl, d1⟩; have hO1 := Lib.hid (hO.out.up d1); have B1 := Lib.hid (hb0.trans (d1.mono hb0.size)); obtain ⟨l0, c0, c1, c2, c3, c4⟩ := hO1.out))
  go_ret
  exact ⟨rfl, by first | exact B1.out | exact B1.out.drew⟩
theorem fits_may (k z : Int) (nm tx a : List UInt8) (b1 : Bool) (h : 1 ≤ k ∧ k ≤ 7) (hb : b1 = if hasName k = true then nameOk nm else nm.isEmpty) : (b1 && textFit (bitsO k) tx && numFit (bitsO k) z && atFit (bitsO k) a) = Opn.mayB ⟨k, nm, tx, z, a⟩ := by
  subst hb
  have e1 : bits .and .i64 5 16 = 0 := by decide +kernel
  have e2 : bits .and .i64 5 2 = 0 := by decide +kernel
  have e3 : bits .and .i64 5 4 = 4 := by decide +kernel
  have e4 : bits .and .i64 5 32 = 0 := by decide +kernel
  have e5 : bits .and .i64 5 8 = 0 := by decide +kernel
  have f1 : bits .and .i64 3 16 = 0 := by decide +kernel
  have f2 : bits .and .i64 3 2 = 2 := by decide +kernel
  have f3 : bits .and .i64 3 4 = 0 := by decide +kernel
  have f4 : bits .and .i64 3 32 = 0 := by decide +kernel
  have f5 : bits .and .i64 3 8 = 0 := by decide +kernel
  have g1 : bits .and .i64 27 16 = 16 := by decide +kernel
  have g2 : bits .and .i64 27 2 = 2 := by decide +kernel
  have g3 : bits .and .i64 27 4 = 0 := by decide +kernel
  have g4 : bits .and .i64 27 32 = 0 := by decide +kernel
  have g5 : bits .and .i64 27 8 = 8 := by decide +kernel
  have i1 : bits .and .i64 41 16 = 0 := by decide +kernel
  have i2 : bits .and .i64 41 2 = 0 := by decide +kernel
  have i3 : bits .and .i64 41 4 = 0 := by decide +kernel
  have i4 : bits .and .i64 41 32 = 32 := by decide +kernel
  have i5 : bits .and .i64 41 8 = 8 := by decide +kernel
  have j1 : bits .and .i64 0 16 = 0 := by decide +kernel
  have j2 : bits .and .i64 0 2 = 0 := by decide +kernel
  have j3 : bits .and .i64 0 4 = 0 := by decide +kernel
  have j4 : bits .and .i64 0 32 = 0 := by decide +kernel
  have j5 : bits .and .i64 0 8 = 0 := by decide +kernel
  rw [Bool.eq_iff_iff]
  rcases kind_cases h with rfl | rfl | rfl | rfl | rfl | rfl | rfl <;> rcases tx with _ | ⟨x, tx⟩ <;> rcases a with _ | ⟨y, a⟩ <;> simp [Opn.mayB, hasName, hasText, hasN, hasAt, isKind, bitsO, textFit, numFit, atFit, rightB, e1, e2, e3, e4, e5, f1, f2, f3, f4, f5, g1, g2, g3, g4, g5, i1, i2, i3, i4, i5, j1, j2, j3, j4, j5] <;> omega
theorem pCheck_any (o : Opn) (w : World) (hn : o.name.length ≤ 1000000) (ht : o.text.length ≤ 1000000) :
    Calls Tryd.prog 31 #[opV o] w fun e w' => e = .returned (.int .i64 (if o.mayB = true then 0 else 1)) ∧ Below w.heap.size w w' := by
  obtain ⟨k, nm, tx, z, a⟩ := o
  simp only at hn ht
  by_cases h : 1 ≤ k ∧ k ≤ 7
  · obtain ⟨c, l, hcl⟩ : ∃ c l, (text (wordO k)).toList = c :: l := by
      rw [text_toList]
      rcases kind_cases h with rfl | rfl | rfl | rfl | rfl | rfl | rfl <;> exact ⟨_, _, rfl⟩
    obtain ⟨b1, hb1⟩ : ∃ b1, b1 = if hasName k = true then nameOk nm else nm.isEmpty := ⟨_, rfl⟩
    have H1 : Hid (∀ W, Calls Tryd.prog 58 #[.string (text nm), .int .i64 (bitsO k)] W fun e w' => e = .returned (.bool b1) ∧ Below W.heap.size W w') := fun W => by
      rw [hb1]
      by_cases hk : hasName k = true
      · rw [if_pos hk]
        refine pnameFits_yes nm (bitsO k) 1 W hn ?_ (by omega)
        simp only [hasName, Bool.and_eq_true, decide_eq_true_eq] at hk
        rcases kind_cases h with rfl | rfl | rfl | rfl | rfl | rfl | rfl <;> first | (decide +kernel; done) | omega
      · rw [if_neg hk]
        refine pnameFits_no nm (bitsO k) W ?_
        simp only [hasName, Bool.and_eq_true, decide_eq_true_eq] at hk
        have : k = 7 := by omega
        subst this
        decide +kernel
    rw [← fits_may k z nm tx a b1 h hb1]
    exact pcheck_at k z (bitsO k) (text (wordO k)) _ _ _ c l b1 _ _ _ w hcl (fun W => pkind_yes k W h) H1 (fun W => ptextFits_any tx (bitsO k) W ht) (fun W => pnumFits_any z (bitsO k) W) (fun W => patFits_any a (bitsO k) W)
  · have e : Opn.mayB ⟨k, nm, tx, z, a⟩ = false := by
      cases hm : Opn.mayB ⟨k, nm, tx, z, a⟩ with
      | false => rfl
      | true => exact absurd ((mayB_iff _).1 hm).kind h
    rw [e]
    exact pcheck_no k _ _ _ z w h
def PutsO (o : Opn) (w : World) (e : Ending) (w' : World) : Prop := if o.mayB = true then GivesBytes o.bytes w e w' else e = .returned (.tuple #[.slice none 0 0, .int .i64 1]) ∧ Below w.heap.size w w'
theorem rput_no (o : Opn) (w : World) (hn : o.name.length ≤ 1000000) (h : o.mayB = false) :
    Calls Tryd.prog 21 #[opV o] w fun e w' => e = .returned (.tuple #[.slice none 0 0, .int .i64 1]) ∧ Below w.heap.size w w' := by
  have HC0 : ∀ W, Calls Tryd.prog 44 #[opV o] W fun e w' => e = .returned (.bool false) ∧ Below W.heap.size W w' := fun W => by
    have := refCheck_any o W hn
    rwa [h] at this
  obtain ⟨k, nm, tx, z, a⟩ := o
  obtain ⟨t1, h1⟩ : ∃ t, t = text nm := ⟨_, rfl⟩
  obtain ⟨t2, h2⟩ : ∃ t, t = text tx := ⟨_, rfl⟩
  obtain ⟨t3, h3⟩ : ∃ t, t = text a := ⟨_, rfl⟩
  have HC : Hid (∀ W, Calls Tryd.prog 44 #[.agg #[.int .i64 k, .string t1, .string t2, .int .i64 z, .string t3]] W fun e w' => e = .returned (.bool false) ∧ Below W.heap.size W w') := by rw [h1, h2, h3]; exact HC0
  show Calls Tryd.prog 21 #[.agg #[.int .i64 k, .string (text nm), .string (text tx), .int .i64 z, .string (text a)]] w _
  rw [← h1, ← h2, ← h3]
  clear h1 h2 h3 HC0 h hn
  have hb0 : Below w.heap.size w (w.alloc (.cells #[.int .i64 k, .string t1, .string t2, .int .i64 z, .string t3] 24)) := (Below.refl _ _).alloc (Nat.le_refl _) _
  have a23 := fun w' => Tryd.opAgg w'
  have s23 := fun w' => Tryd.opSize w'
  go_enter Tryd.func21, Tryd.ntmps21
  go_wp2_with (first
    | (go_at_call 44; (with_reducible refine (HC.out _).mono ?_); rintro e w1 ⟨rfl, b1⟩))
  go_ret2
  exact ⟨rfl, hb0.trans (b1.mono hb0.size)⟩
theorem pput_no (o : Opn) (w : World) (hn : o.name.length ≤ 1000000) (ht : o.text.length ≤ 1000000) (h : o.mayB = false) :
    Calls Tryd.prog 20 #[opV o] w fun e w' => e = .returned (.tuple #[.slice none 0 0, .int .i64 1]) ∧ Below w.heap.size w w' := by
  have HC0 : ∀ W, Calls Tryd.prog 31 #[opV o] W fun e w' => e = .returned (.int .i64 1) ∧ Below W.heap.size W w' := fun W => by
    have := pCheck_any o W hn ht
    rwa [h] at this
  obtain ⟨k, nm, tx, z, a⟩ := o
  obtain ⟨t1, h1⟩ : ∃ t, t = text nm := ⟨_, rfl⟩
  obtain ⟨t2, h2⟩ : ∃ t, t = text tx := ⟨_, rfl⟩
  obtain ⟨t3, h3⟩ : ∃ t, t = text a := ⟨_, rfl⟩
  have HC : Hid (∀ W, Calls Tryd.prog 31 #[.agg #[.int .i64 k, .string t1, .string t2, .int .i64 z, .string t3]] W fun e w' => e = .returned (.int .i64 1) ∧ Below W.heap.size W w') := by rw [h1, h2, h3]; exact HC0
  show Calls Tryd.prog 20 #[.agg #[.int .i64 k, .string (text nm), .string (text tx), .int .i64 z, .string (text a)]] w _
  rw [← h1, ← h2, ← h3]
  clear h1 h2 h3 HC0 h hn ht
  have hb0 : Below w.heap.size w (w.alloc (.cells #[.int .i64 k, .string t1, .string t2, .int .i64 z, .string t3] 24)) := (Below.refl _ _).alloc (Nat.le_refl _) _
  have a23 := fun w' => Tryd.opAgg w'
  have s23 := fun w' => Tryd.opSize w'
  go_enter Tryd.func20, Tryd.ntmps20
  go_wp2_with (first
    | (go_at_call 31; (with_reducible refine (HC.out _).mono ?_); rintro e w1 ⟨rfl, b1⟩))
  go_ret2
  exact ⟨rfl, hb0.trans (b1.mono hb0.size)⟩
theorem bytes_kinds {k z : Int} {nm tx a : List UInt8} (h : Opn.May ⟨k, nm, tx, z, a⟩) : Opn.bytes ⟨k, nm, tx, z, a⟩ =
    if k = 1 then (([UInt8.ofNat 1] ++ textL nm) ++ signL z) else if k = 5 then ((([UInt8.ofNat 5] ++ textL nm) ++ textL tx) ++ atL 5 a) else if k = 6 then (([UInt8.ofNat 6] ++ textL nm) ++ a) else if k = 7 then [UInt8.ofNat 7] else (([UInt8.ofNat k.toNat] ++ textL nm) ++ textL tx) := by
  have ha := h.at_.1
  simp only at ha
  rcases kind_cases h.kind with e | e | e | e | e | e | e <;> simp only at e <;> subst e <;> simp [Opn.bytes, hasName, hasText, hasN, hasAt, atL] at ha ⊢ <;> simp [ha]
theorem pPut_any (o : Opn) (w : World) (hn : o.name.length ≤ 1000000) (ht : o.text.length ≤ 1000000) : Calls Tryd.prog 20 #[opV o] w (PutsO o w) := by
  cases hm : o.mayB with
  | false =>
    refine (pput_no o w hn ht hm).mono fun e w' hh => ?_
    unfold PutsO
    rw [hm, if_neg (by simp)]
    exact hh
  | true =>
    have hM := (mayB_iff o).1 hm
    have HC : Hid (∀ W, Calls Tryd.prog 31 #[opV o] W fun e w' => e = .returned (.int .i64 0) ∧ Below W.heap.size W w') := fun W => by
      have := pCheck_any o W hn ht
      rw [hm] at this
      exact this
    have hP : PutsO o w = GivesBytes o.bytes w := by
      funext e w'
      unfold PutsO
      rw [hm, if_pos rfl]
    rw [hP]
    obtain ⟨k, nm, tx, z, a⟩ := o
    obtain ⟨l1, l2, l3, hz⟩ := may_parts hM
    rw [bytes_kinds hM]
    rcases kind_cases hM.kind with e | e | e | e | e | e | e <;> simp only at e <;> subst e
    · by_cases c : z < 0
      · exact pput_1n z nm tx a w l1 l2 l3 hz c HC
      · exact pput_1p z nm tx a w l1 l2 l3 hz c HC
    · exact pput_2 z nm tx a w l1 l2 l3 hz HC
    · exact pput_3 z nm tx a w l1 l2 l3 hz HC
    · exact pput_4 z nm tx a w l1 l2 l3 hz HC
    · by_cases c : a = []
      · exact pput_5e z nm tx a w l1 l2 l3 hz c HC
      · exact pput_5y z nm tx a w l1 l2 l3 hz c HC
    · exact pput_6 z nm tx a w l1 l2 l3 hz HC
    · exact pput_7 z nm tx a w l1 l2 l3 hz HC
theorem bytes_1 {z : Int} {nm tx a : List UInt8} (h : Opn.May ⟨1, nm, tx, z, a⟩) : Opn.bytes ⟨1, nm, tx, z, a⟩ = ((([UInt8.ofNat 1] ++ textL nm) ++ signL z) ++ a) := by
  have ha := h.at_.1
  simp only at ha
  simp [Opn.bytes, hasName, hasText, hasN, hasAt, atL] at ha ⊢
  try simp [ha]
theorem bytes_2 {z : Int} {nm tx a : List UInt8} (h : Opn.May ⟨2, nm, tx, z, a⟩) : Opn.bytes ⟨2, nm, tx, z, a⟩ = ((([UInt8.ofNat 2] ++ textL nm) ++ textL tx) ++ a) := by
  have ha := h.at_.1
  simp only at ha
  simp [Opn.bytes, hasName, hasText, hasN, hasAt, atL] at ha ⊢
  try simp [ha]
theorem bytes_3 {z : Int} {nm tx a : List UInt8} (h : Opn.May ⟨3, nm, tx, z, a⟩) : Opn.bytes ⟨3, nm, tx, z, a⟩ = ((([UInt8.ofNat 3] ++ textL nm) ++ textL tx) ++ a) := by
  have ha := h.at_.1
  simp only at ha
  simp [Opn.bytes, hasName, hasText, hasN, hasAt, atL] at ha ⊢
  try simp [ha]
theorem bytes_4 {z : Int} {nm tx a : List UInt8} (h : Opn.May ⟨4, nm, tx, z, a⟩) : Opn.bytes ⟨4, nm, tx, z, a⟩ = ((([UInt8.ofNat 4] ++ textL nm) ++ textL tx) ++ a) := by
  have ha := h.at_.1
  simp only at ha
  simp [Opn.bytes, hasName, hasText, hasN, hasAt, atL] at ha ⊢
  try simp [ha]
theorem bytes_6 {z : Int} {nm tx a : List UInt8} (h : Opn.May ⟨6, nm, tx, z, a⟩) : Opn.bytes ⟨6, nm, tx, z, a⟩ = (([UInt8.ofNat 6] ++ textL nm) ++ a) := by
  have ha := h.at_.1
  simp only at ha
  simp [Opn.bytes, hasName, hasText, hasN, hasAt, atL] at ha ⊢
  try simp [ha]
theorem bytes_7 {z : Int} {nm tx a : List UInt8} (h : Opn.May ⟨7, nm, tx, z, a⟩) : Opn.bytes ⟨7, nm, tx, z, a⟩ = ([UInt8.ofNat 7] ++ a) := by
  have ha := h.at_.1
  simp only at ha
  simp [Opn.bytes, hasName, hasText, hasN, hasAt, atL] at ha ⊢
  try simp [ha]
theorem bytes_5 {z : Int} {nm tx a : List UInt8} (b : List UInt8) (hb : atL 5 a = b ++ a) : Opn.bytes ⟨5, nm, tx, z, a⟩ = (((([UInt8.ofNat 5] ++ textL nm) ++ textL tx) ++ b) ++ a) := by
  have e : Opn.bytes ⟨5, nm, tx, z, a⟩ = ((([UInt8.ofNat 5] ++ textL nm) ++ textL tx) ++ atL 5 a) := by
    simp [Opn.bytes, hasName, hasText, hasN, hasAt]
  rw [e, hb]
  simp only [List.append_assoc]
theorem rPut_any (o : Opn) (w : World) (hn : o.name.length ≤ 1000000) : Calls Tryd.prog 21 #[opV o] w (PutsO o w) := by
  cases hm : o.mayB with
  | false =>
    refine (rput_no o w hn hm).mono fun e w' hh => ?_
    unfold PutsO
    rw [hm, if_neg (by simp)]
    exact hh
  | true =>
    have hM := (mayB_iff o).1 hm
    have HC : Hid (∀ W, Calls Tryd.prog 44 #[opV o] W fun e w' => e = .returned (.bool true) ∧ Below W.heap.size W w') := fun W => by
      have := refCheck_any o W hn
      rw [hm] at this
      exact this
    have hP : PutsO o w = GivesBytes o.bytes w := by
      funext e w'
      unfold PutsO
      rw [hm, if_pos rfl]
    rw [hP]
    obtain ⟨k, nm, tx, z, a⟩ := o
    obtain ⟨l1, l2, l3, hz⟩ := may_parts hM
    rcases kind_cases hM.kind with e | e | e | e | e | e | e <;> simp only at e <;> subst e
    · rw [bytes_1 hM]
      by_cases c : z < 0
      · exact rput_1n z nm tx a w l1 l2 l3 hz c HC
      · exact rput_1p z nm tx a w l1 l2 l3 hz c HC
    · rw [bytes_2 hM]
      exact rput_2 z nm tx a w l1 l2 l3 hz HC
    · rw [bytes_3 hM]
      exact rput_3 z nm tx a w l1 l2 l3 hz HC
    · rw [bytes_4 hM]
      exact rput_4 z nm tx a w l1 l2 l3 hz HC
    · by_cases c : a = []
      · rw [bytes_5 [0] (by unfold atL; rw [if_pos rfl, if_pos c, c]; rfl)]
        exact rput_5e z nm tx a w l1 l2 l3 hz c HC
      · rw [bytes_5 [1] (by unfold atL; rw [if_pos rfl, if_neg c]; rfl)]
        exact rput_5y z nm tx a w l1 l2 l3 hz c HC
    · rw [bytes_6 hM]
      exact rput_6 z nm tx a w l1 l2 l3 hz HC
    · rw [bytes_7 hM]
      exact rput_7 z nm tx a w l1 l2 l3 hz HC
end
section
open Go.RowKit
theorem pread_1 (B g : Nat) (w : World) (st s1 s2 s3 : St) (nm : List UInt8) (z : Int) (hC : CurB B w g st) (hB : B ≤ w.heap.size) (h1 : stepByte st = (s1, 1)) (h2 : stepText s1 = (s2, nm)) (h4 : rdNum true s2 = (s3, z)) :
    Calls Tryd.prog 55 #[.pointer (some ⟨g, 0, none⟩)] w fun e w' => e = .returned (opV ⟨1, nm, [], z, []⟩) ∧ CurB B w' g s3 ∧ Only w w' g := by
  have hgl := hC.lt
  have H1 : Hid (∀ W, CurB B W g st → B ≤ W.heap.size → Calls Tryd.prog 23 #[.pointer (some ⟨g, 0, none⟩)] W fun e w' => e = .returned (.int .i64 1) ∧ CurB B w' g s1 ∧ Only W w' g) := fun W hc hb => by
    have := byte_at B g st W hc hb
    rw [h1] at this
    exact this
  obtain ⟨n1, g1⟩ : ∃ n, n = nm.length := ⟨_, rfl⟩
  have HT1 : Hid (∀ W, CurB B W g s1 → B ≤ W.heap.size → Calls Tryd.prog 75 #[.pointer (some ⟨g, 0, none⟩)] W fun e w' => ∃ A c, e = .returned (.slice A n1 c) ∧ Hid (RB w' w'.heap.size A nm) ∧ Hid (CurB B w' g s2) ∧ Hid (Only W w' g)) := fun W hc hb => by
    have := ctext_at B g s1 W hc hb
    rw [h2] at this
    refine this.mono fun e w' hh => ?_
    obtain ⟨A, c, q1, q2, q3, q4, q5⟩ := hh
    exact ⟨A, c, by rw [g1]; exact q1, q2, q4, q5⟩
  have G1 := Lib.hid g1
  clear g1 h2
  obtain ⟨tt1, htt1⟩ : ∃ t, t = text nm := ⟨_, rfl⟩
  have HTT1 : Hid (({ data := nm.toArray } : ByteArray) = tt1) := htt1.symm
  clear htt1
  have HZ : Hid (∀ W, CurB B W g s2 → B ≤ W.heap.size → Calls Tryd.prog 76 #[.pointer (some ⟨g, 0, none⟩)] W fun e w' => e = .returned (.int .i64 z) ∧ CurB B w' g s3 ∧ Only W w' g) := fun W hc hb => by
    have := preadNumber_any B g s2 W hc hb
    rw [h4] at this
    exact this
  clear h4
  have HK : Hid (∀ W, Calls Tryd.prog 45 #[.int .i64 1] W fun e w' => e = .returned (.tuple #[.string (text (wordO 1)), .int .i64 5]) ∧ Below W.heap.size W w') := fun W => pkind_yes 1 W ⟨by omega, by omega⟩
  obtain ⟨wd, hwd⟩ : ∃ t, t = text (wordO 1) := ⟨_, rfl⟩
  rw [← hwd] at HK
  clear hwd
  have k1 : bits .and .i64 5 1 = 1 := by decide +kernel
  have k2 : bits .and .i64 5 2 = 0 := by decide +kernel
  have k4 : bits .and .i64 5 4 = 4 := by decide +kernel
  have k8 : bits .and .i64 5 8 = 0 := by decide +kernel
  have a23 := fun w' => Tryd.opAgg w'
  have s23 := fun w' => Tryd.opSize w'
  have HR := Lib.hid (Blk.new w 24 (opC 0 { data := #[] } { data := #[] } 0 { data := #[] }))
  have hb0 : Below w.heap.size w (w.alloc (.cells (opC 0 { data := #[] } { data := #[] } 0 { data := #[] }) 24)) := (Below.refl _ _).alloc (Nat.le_refl _) _
  have HC := Lib.hid hC
  clear hC h1
  go_enter Tryd.func55, Tryd.ntmps55
  go_upto_region 2 with (first
    | (go_at_call 23; (with_reducible refine (H1.out _ (HC.out.below hb0 hB) (Nat.le_trans hB hb0.size)).mono ?_); rintro e w1 ⟨rfl, hc1, ho1⟩; have HC1 := Lib.hid hc1; have HO1 := Lib.hid ho1))
  have hS : Hid (RdSt B g w1.heap.size w.heap.size w (w1.alloc (.cells #[.int .i64 1, .string { data := #[] }, .string { data := #[] }, .int .i64 0, .string { data := #[] }] 24)) s1 1 { data := #[] } { data := #[] } 0 { data := #[] }) := by
    have z1 : w.heap.size + 1 ≤ w1.heap.size := by have := HO1.out.size; simpa using this
    have hn : Below w1.heap.size w1 (w1.alloc (.cells #[.int .i64 1, .string { data := #[] }, .string { data := #[] }, .int .i64 0, .string { data := #[] }] 24)) := (Below.refl _ _).alloc (Nat.le_refl _) _
    refine ⟨HC1.out.below hn (by omega), Blk.new _ _ _, ?_, only_trans (only_trans (only_below hb0 g) HO1.out) (only_below hn g), by simp; omega, by omega, hB, by omega, by omega, by omega, by omega, Nat.le_refl _⟩
    exact (HR.out.only HO1.out (by omega)).alloc _
  obtain ⟨P, hP⟩ : ∃ x, x = w1.heap.size := ⟨_, rfl⟩
  obtain ⟨wp, hwp⟩ : ∃ x, x = w1.alloc (.cells #[.int .i64 1, .string { data := #[] }, .string { data := #[] }, .int .i64 0, .string { data := #[] }] 24) := ⟨_, rfl⟩
  rw [← hwp, ← hP] at hS ⊢
  clear hwp hP HC HC1 HO1 hb0 HR hc1 ho1
  obtain ⟨pl, rl, p0, p1, p2, p3, p4, pf, r0, r1, r2, r3, r4, rf⟩ := hS.out.cells
  go_wp2_with (first
    | (go_at_call 76; (with_reducible refine (HZ.out _ hS2.out.cur hS2.out.sz).mono ?_); rintro e w4 ⟨rfl, hc3, ho3⟩; have hc3 := Lib.hid hc3; have ho3 := Lib.hid ho3; have hS3 := Lib.hid ((hS2.out.call hc3.out ho3.out).set3 z); (try clear pl' rl' p0' p1' p2' p3' p4' pf' r0' r1' r2' r3' r4' rf'); clear pl rl p0 p1 p2 p3 p4 pf r0 r1 r2 r3 r4 rf; obtain ⟨pl, rl, p0, p1, p2, p3, p4, pf, r0, r1, r2, r3, r4, rf⟩ := (hS2.out.call hc3.out ho3.out).cells; obtain ⟨pl', rl', p0', p1', p2', p3', p4', pf', r0', r1', r2', r3', r4', rf'⟩ := hS3.out.cells)
    | (go_at_call 75; (with_reducible refine (HT1.out _ hS1.out.cur hS1.out.sz).mono ?_); rintro e w3 ⟨A2, d2, rfl, hr2, hc2, ho2⟩; have hS2 := Lib.hid ((hS1.out.call hc2.out ho2.out).set1 tt1); have est2 := aw_str hr2.out n1 d2 G1.out; rw [HTT1.out] at est2; clear pl rl p0 p1 p2 p3 p4 pf r0 r1 r2 r3 r4 rf; obtain ⟨pl, rl, p0, p1, p2, p3, p4, pf, r0, r1, r2, r3, r4, rf⟩ := (hS1.out.call hc2.out ho2.out).cells; obtain ⟨pl', rl', p0', p1', p2', p3', p4', pf', r0', r1', r2', r3', r4', rf'⟩ := hS2.out.cells)
    | (go_at_call 45; (with_reducible refine (HK.out _).mono ?_); rintro e w2 ⟨rfl, b2⟩; have hS1 := Lib.hid (hS.out.below b2); clear pl rl p0 p1 p2 p3 p4 pf r0 r1 r2 r3 r4 rf; obtain ⟨pl, rl, p0, p1, p2, p3, p4, pf, r0, r1, r2, r3, r4, rf⟩ := hS1.out.cells))
  obtain ⟨E, hE⟩ : ∃ E, E = ((((((w4.setCell ⟨P, 3, none⟩ (.int .i64 z)).setCell ⟨w.heap.size, 0, none⟩ (.int .i64 1)).setCell ⟨w.heap.size, 1, none⟩ (.string (tt1))).setCell ⟨w.heap.size, 2, none⟩ (.string { data := #[] })).setCell ⟨w.heap.size, 3, none⟩ (.int .i64 z)).setCell ⟨w.heap.size, 4, none⟩ (.string { data := #[] })) := ⟨_, rfl⟩
  obtain ⟨⟨y0, y1, y2, y3, y4⟩, hcE, hoE⟩ := hS3.out.end_ hE
  rw [← hE]
  refine bodyPost_ret (v := .agg #[.int .i64 1, .string (tt1), .string { data := #[] }, .int .i64 z, .string { data := #[] }]) (by simp [results, Tryd.results55, go_sem, y0, y1, y2, y3, y4]) rfl ?_
  refine ⟨by rw [← HTT1.out]; rfl, hcE, hoE⟩
theorem pread_2 (B g : Nat) (w : World) (st s1 s2 s3 : St) (nm : List UInt8) (tx : List UInt8) (hC : CurB B w g st) (hB : B ≤ w.heap.size) (h1 : stepByte st = (s1, 2)) (h2 : stepText s1 = (s2, nm)) (h3 : stepText s2 = (s3, tx)) :
    Calls Tryd.prog 55 #[.pointer (some ⟨g, 0, none⟩)] w fun e w' => e = .returned (opV ⟨2, nm, tx, 0, []⟩) ∧ CurB B w' g s3 ∧ Only w w' g := by
  have hgl := hC.lt
  have H1 : Hid (∀ W, CurB B W g st → B ≤ W.heap.size → Calls Tryd.prog 23 #[.pointer (some ⟨g, 0, none⟩)] W fun e w' => e = .returned (.int .i64 2) ∧ CurB B w' g s1 ∧ Only W w' g) := fun W hc hb => by
    have := byte_at B g st W hc hb
    rw [h1] at this
    exact this
  obtain ⟨n1, g1⟩ : ∃ n, n = nm.length := ⟨_, rfl⟩
  have HT1 : Hid (∀ W, CurB B W g s1 → B ≤ W.heap.size → Calls Tryd.prog 75 #[.pointer (some ⟨g, 0, none⟩)] W fun e w' => ∃ A c, e = .returned (.slice A n1 c) ∧ Hid (RB w' w'.heap.size A nm) ∧ Hid (CurB B w' g s2) ∧ Hid (Only W w' g)) := fun W hc hb => by
    have := ctext_at B g s1 W hc hb
    rw [h2] at this
    refine this.mono fun e w' hh => ?_
    obtain ⟨A, c, q1, q2, q3, q4, q5⟩ := hh
    exact ⟨A, c, by rw [g1]; exact q1, q2, q4, q5⟩
  have G1 := Lib.hid g1
  clear g1 h2
  obtain ⟨tt1, htt1⟩ : ∃ t, t = text nm := ⟨_, rfl⟩
  have HTT1 : Hid (({ data := nm.toArray } : ByteArray) = tt1) := htt1.symm
  clear htt1
  obtain ⟨n2, g2⟩ : ∃ n, n = tx.length := ⟨_, rfl⟩
  have HT2 : Hid (∀ W, CurB B W g s2 → B ≤ W.heap.size → Calls Tryd.prog 75 #[.pointer (some ⟨g, 0, none⟩)] W fun e w' => ∃ A c, e = .returned (.slice A n2 c) ∧ Hid (RB w' w'.heap.size A tx) ∧ Hid (CurB B w' g s3) ∧ Hid (Only W w' g)) := fun W hc hb => by
    have := ctext_at B g s2 W hc hb
    rw [h3] at this
    refine this.mono fun e w' hh => ?_
    obtain ⟨A, c, q1, q2, q3, q4, q5⟩ := hh
    exact ⟨A, c, by rw [g2]; exact q1, q2, q4, q5⟩
  have G2 := Lib.hid g2
  clear g2 h3
  obtain ⟨tt2, htt2⟩ : ∃ t, t = text tx := ⟨_, rfl⟩
  have HTT2 : Hid (({ data := tx.toArray } : ByteArray) = tt2) := htt2.symm
  clear htt2
  have HK : Hid (∀ W, Calls Tryd.prog 45 #[.int .i64 2] W fun e w' => e = .returned (.tuple #[.string (text (wordO 2)), .int .i64 3]) ∧ Below W.heap.size W w') := fun W => pkind_yes 2 W ⟨by omega, by omega⟩
  obtain ⟨wd, hwd⟩ : ∃ t, t = text (wordO 2) := ⟨_, rfl⟩
  rw [← hwd] at HK
  clear hwd
  have k1 : bits .and .i64 3 1 = 1 := by decide +kernel
  have k2 : bits .and .i64 3 2 = 2 := by decide +kernel
  have k4 : bits .and .i64 3 4 = 0 := by decide +kernel
  have k8 : bits .and .i64 3 8 = 0 := by decide +kernel
  have a23 := fun w' => Tryd.opAgg w'
  have s23 := fun w' => Tryd.opSize w'
  have HR := Lib.hid (Blk.new w 24 (opC 0 { data := #[] } { data := #[] } 0 { data := #[] }))
  have hb0 : Below w.heap.size w (w.alloc (.cells (opC 0 { data := #[] } { data := #[] } 0 { data := #[] }) 24)) := (Below.refl _ _).alloc (Nat.le_refl _) _
  have HC := Lib.hid hC
  clear hC h1
  go_enter Tryd.func55, Tryd.ntmps55
  go_upto_region 2 with (first
    | (go_at_call 23; (with_reducible refine (H1.out _ (HC.out.below hb0 hB) (Nat.le_trans hB hb0.size)).mono ?_); rintro e w1 ⟨rfl, hc1, ho1⟩; have HC1 := Lib.hid hc1; have HO1 := Lib.hid ho1))
  have hS : Hid (RdSt B g w1.heap.size w.heap.size w (w1.alloc (.cells #[.int .i64 2, .string { data := #[] }, .string { data := #[] }, .int .i64 0, .string { data := #[] }] 24)) s1 2 { data := #[] } { data := #[] } 0 { data := #[] }) := by
    have z1 : w.heap.size + 1 ≤ w1.heap.size := by have := HO1.out.size; simpa using this
    have hn : Below w1.heap.size w1 (w1.alloc (.cells #[.int .i64 2, .string { data := #[] }, .string { data := #[] }, .int .i64 0, .string { data := #[] }] 24)) := (Below.refl _ _).alloc (Nat.le_refl _) _
    refine ⟨HC1.out.below hn (by omega), Blk.new _ _ _, ?_, only_trans (only_trans (only_below hb0 g) HO1.out) (only_below hn g), by simp; omega, by omega, hB, by omega, by omega, by omega, by omega, Nat.le_refl _⟩
    exact (HR.out.only HO1.out (by omega)).alloc _
  obtain ⟨P, hP⟩ : ∃ x, x = w1.heap.size := ⟨_, rfl⟩
  obtain ⟨wp, hwp⟩ : ∃ x, x = w1.alloc (.cells #[.int .i64 2, .string { data := #[] }, .string { data := #[] }, .int .i64 0, .string { data := #[] }] 24) := ⟨_, rfl⟩
  rw [← hwp, ← hP] at hS ⊢
  clear hwp hP HC HC1 HO1 hb0 HR hc1 ho1
  obtain ⟨pl, rl, p0, p1, p2, p3, p4, pf, r0, r1, r2, r3, r4, rf⟩ := hS.out.cells
  go_wp2_with (first
    | (go_at_call 75; (with_reducible refine (HT2.out _ hS2.out.cur hS2.out.sz).mono ?_); rintro e w4 ⟨A3, d3, rfl, hr3, hc3, ho3⟩; have hS3 := Lib.hid ((hS2.out.call hc3.out ho3.out).set2 tt2); have est3 := aw_str hr3.out n2 d3 G2.out; rw [HTT2.out] at est3; (try clear pl' rl' p0' p1' p2' p3' p4' pf' r0' r1' r2' r3' r4' rf'); clear pl rl p0 p1 p2 p3 p4 pf r0 r1 r2 r3 r4 rf; obtain ⟨pl, rl, p0, p1, p2, p3, p4, pf, r0, r1, r2, r3, r4, rf⟩ := (hS2.out.call hc3.out ho3.out).cells; obtain ⟨pl', rl', p0', p1', p2', p3', p4', pf', r0', r1', r2', r3', r4', rf'⟩ := hS3.out.cells)
    | (go_at_call 75; (with_reducible refine (HT1.out _ hS1.out.cur hS1.out.sz).mono ?_); rintro e w3 ⟨A2, d2, rfl, hr2, hc2, ho2⟩; have hS2 := Lib.hid ((hS1.out.call hc2.out ho2.out).set1 tt1); have est2 := aw_str hr2.out n1 d2 G1.out; rw [HTT1.out] at est2; clear pl rl p0 p1 p2 p3 p4 pf r0 r1 r2 r3 r4 rf; obtain ⟨pl, rl, p0, p1, p2, p3, p4, pf, r0, r1, r2, r3, r4, rf⟩ := (hS1.out.call hc2.out ho2.out).cells; obtain ⟨pl', rl', p0', p1', p2', p3', p4', pf', r0', r1', r2', r3', r4', rf'⟩ := hS2.out.cells)
    | (go_at_call 45; (with_reducible refine (HK.out _).mono ?_); rintro e w2 ⟨rfl, b2⟩; have hS1 := Lib.hid (hS.out.below b2); clear pl rl p0 p1 p2 p3 p4 pf r0 r1 r2 r3 r4 rf; obtain ⟨pl, rl, p0, p1, p2, p3, p4, pf, r0, r1, r2, r3, r4, rf⟩ := hS1.out.cells))
  obtain ⟨E, hE⟩ : ∃ E, E = ((((((w4.setCell ⟨P, 2, none⟩ (.string tt2)).setCell ⟨w.heap.size, 0, none⟩ (.int .i64 2)).setCell ⟨w.heap.size, 1, none⟩ (.string (tt1))).setCell ⟨w.heap.size, 2, none⟩ (.string (tt2))).setCell ⟨w.heap.size, 3, none⟩ (.int .i64 0)).setCell ⟨w.heap.size, 4, none⟩ (.string { data := #[] })) := ⟨_, rfl⟩
  obtain ⟨⟨y0, y1, y2, y3, y4⟩, hcE, hoE⟩ := hS3.out.end_ hE
  rw [← hE]
  refine bodyPost_ret (v := .agg #[.int .i64 2, .string (tt1), .string (tt2), .int .i64 0, .string { data := #[] }]) (by simp [results, Tryd.results55, go_sem, y0, y1, y2, y3, y4]) rfl ?_
  refine ⟨by rw [← HTT1.out, ← HTT2.out]; rfl, hcE, hoE⟩
theorem pread_3 (B g : Nat) (w : World) (st s1 s2 s3 : St) (nm : List UInt8) (tx : List UInt8) (hC : CurB B w g st) (hB : B ≤ w.heap.size) (h1 : stepByte st = (s1, 3)) (h2 : stepText s1 = (s2, nm)) (h3 : stepText s2 = (s3, tx)) :
    Calls Tryd.prog 55 #[.pointer (some ⟨g, 0, none⟩)] w fun e w' => e = .returned (opV ⟨3, nm, tx, 0, []⟩) ∧ CurB B w' g s3 ∧ Only w w' g := by
  have hgl := hC.lt
  have H1 : Hid (∀ W, CurB B W g st → B ≤ W.heap.size → Calls Tryd.prog 23 #[.pointer (some ⟨g, 0, none⟩)] W fun e w' => e = .returned (.int .i64 3) ∧ CurB B w' g s1 ∧ Only W w' g) := fun W hc hb => by
    have := byte_at B g st W hc hb
    rw [h1] at this
    exact this
  obtain ⟨n1, g1⟩ : ∃ n, n = nm.length := ⟨_, rfl⟩
  have HT1 : Hid (∀ W, CurB B W g s1 → B ≤ W.heap.size → Calls Tryd.prog 75 #[.pointer (some ⟨g, 0, none⟩)] W fun e w' => ∃ A c, e = .returned (.slice A n1 c) ∧ Hid (RB w' w'.heap.size A nm) ∧ Hid (CurB B w' g s2) ∧ Hid (Only W w' g)) := fun W hc hb => by
    have := ctext_at B g s1 W hc hb
    rw [h2] at this
    refine this.mono fun e w' hh => ?_
    obtain ⟨A, c, q1, q2, q3, q4, q5⟩ := hh
    exact ⟨A, c, by rw [g1]; exact q1, q2, q4, q5⟩
  have G1 := Lib.hid g1
  clear g1 h2
  obtain ⟨tt1, htt1⟩ : ∃ t, t = text nm := ⟨_, rfl⟩
  have HTT1 : Hid (({ data := nm.toArray } : ByteArray) = tt1) := htt1.symm
  clear htt1
  obtain ⟨n2, g2⟩ : ∃ n, n = tx.length := ⟨_, rfl⟩
  have HT2 : Hid (∀ W, CurB B W g s2 → B ≤ W.heap.size → Calls Tryd.prog 75 #[.pointer (some ⟨g, 0, none⟩)] W fun e w' => ∃ A c, e = .returned (.slice A n2 c) ∧ Hid (RB w' w'.heap.size A tx) ∧ Hid (CurB B w' g s3) ∧ Hid (Only W w' g)) := fun W hc hb => by
    have := ctext_at B g s2 W hc hb
    rw [h3] at this
    refine this.mono fun e w' hh => ?_
    obtain ⟨A, c, q1, q2, q3, q4, q5⟩ := hh
    exact ⟨A, c, by rw [g2]; exact q1, q2, q4, q5⟩
  have G2 := Lib.hid g2
  clear g2 h3
  obtain ⟨tt2, htt2⟩ : ∃ t, t = text tx := ⟨_, rfl⟩
  have HTT2 : Hid (({ data := tx.toArray } : ByteArray) = tt2) := htt2.symm
  clear htt2
  have HK : Hid (∀ W, Calls Tryd.prog 45 #[.int .i64 3] W fun e w' => e = .returned (.tuple #[.string (text (wordO 3)), .int .i64 3]) ∧ Below W.heap.size W w') := fun W => pkind_yes 3 W ⟨by omega, by omega⟩
  obtain ⟨wd, hwd⟩ : ∃ t, t = text (wordO 3) := ⟨_, rfl⟩
  rw [← hwd] at HK
  clear hwd
  have k1 : bits .and .i64 3 1 = 1 := by decide +kernel
  have k2 : bits .and .i64 3 2 = 2 := by decide +kernel
  have k4 : bits .and .i64 3 4 = 0 := by decide +kernel
  have k8 : bits .and .i64 3 8 = 0 := by decide +kernel
  have a23 := fun w' => Tryd.opAgg w'
  have s23 := fun w' => Tryd.opSize w'
  have HR := Lib.hid (Blk.new w 24 (opC 0 { data := #[] } { data := #[] } 0 { data := #[] }))
  have hb0 : Below w.heap.size w (w.alloc (.cells (opC 0 { data := #[] } { data := #[] } 0 { data := #[] }) 24)) := (Below.refl _ _).alloc (Nat.le_refl _) _
  have HC := Lib.hid hC
  clear hC h1
  go_enter Tryd.func55, Tryd.ntmps55
  go_upto_region 2 with (first
    | (go_at_call 23; (with_reducible refine (H1.out _ (HC.out.below hb0 hB) (Nat.le_trans hB hb0.size)).mono ?_); rintro e w1 ⟨rfl, hc1, ho1⟩; have HC1 := Lib.hid hc1; have HO1 := Lib.hid ho1))
  have hS : Hid (RdSt B g w1.heap.size w.heap.size w (w1.alloc (.cells #[.int .i64 3, .string { data := #[] }, .string { data := #[] }, .int .i64 0, .string { data := #[] }] 24)) s1 3 { data := #[] } { data := #[] } 0 { data := #[] }) := by
    have z1 : w.heap.size + 1 ≤ w1.heap.size := by have := HO1.out.size; simpa using this
    have hn : Below w1.heap.size w1 (w1.alloc (.cells #[.int .i64 3, .string { data := #[] }, .string { data := #[] }, .int .i64 0, .string { data := #[] }] 24)) := (Below.refl _ _).alloc (Nat.le_refl _) _
    refine ⟨HC1.out.below hn (by omega), Blk.new _ _ _, ?_, only_trans (only_trans (only_below hb0 g) HO1.out) (only_below hn g), by simp; omega, by omega, hB, by omega, by omega, by omega, by omega, Nat.le_refl _⟩
    exact (HR.out.only HO1.out (by omega)).alloc _
  obtain ⟨P, hP⟩ : ∃ x, x = w1.heap.size := ⟨_, rfl⟩
  obtain ⟨wp, hwp⟩ : ∃ x, x = w1.alloc (.cells #[.int .i64 3, .string { data := #[] }, .string { data := #[] }, .int .i64 0, .string { data := #[] }] 24) := ⟨_, rfl⟩
  rw [← hwp, ← hP] at hS ⊢
  clear hwp hP HC HC1 HO1 hb0 HR hc1 ho1
  obtain ⟨pl, rl, p0, p1, p2, p3, p4, pf, r0, r1, r2, r3, r4, rf⟩ := hS.out.cells
  go_wp2_with (first
    | (go_at_call 75; (with_reducible refine (HT2.out _ hS2.out.cur hS2.out.sz).mono ?_); rintro e w4 ⟨A3, d3, rfl, hr3, hc3, ho3⟩; have hS3 := Lib.hid ((hS2.out.call hc3.out ho3.out).set2 tt2); have est3 := aw_str hr3.out n2 d3 G2.out; rw [HTT2.out] at est3; (try clear pl' rl' p0' p1' p2' p3' p4' pf' r0' r1' r2' r3' r4' rf'); clear pl rl p0 p1 p2 p3 p4 pf r0 r1 r2 r3 r4 rf; obtain ⟨pl, rl, p0, p1, p2, p3, p4, pf, r0, r1, r2, r3, r4, rf⟩ := (hS2.out.call hc3.out ho3.out).cells; obtain ⟨pl', rl', p0', p1', p2', p3', p4', pf', r0', r1', r2', r3', r4', rf'⟩ := hS3.out.cells)
    | (go_at_call 75; (with_reducible refine (HT1.out _ hS1.out.cur hS1.out.sz).mono ?_); rintro e w3 ⟨A2, d2, rfl, hr2, hc2, ho2⟩; have hS2 := Lib.hid ((hS1.out.call hc2.out ho2.out).set1 tt1); have est2 := aw_str hr2.out n1 d2 G1.out; rw [HTT1.out] at est2; clear pl rl p0 p1 p2 p3 p4 pf r0 r1 r2 r3 r4 rf; obtain ⟨pl, rl, p0, p1, p2, p3, p4, pf, r0, r1, r2, r3, r4, rf⟩ := (hS1.out.call hc2.out ho2.out).cells; obtain ⟨pl', rl', p0', p1', p2', p3', p4', pf', r0', r1', r2', r3', r4', rf'⟩ := hS2.out.cells)
    | (go_at_call 45; (with_reducible refine (HK.out _).mono ?_); rintro e w2 ⟨rfl, b2⟩; have hS1 := Lib.hid (hS.out.below b2); clear pl rl p0 p1 p2 p3 p4 pf r0 r1 r2 r3 r4 rf; obtain ⟨pl, rl, p0, p1, p2, p3, p4, pf, r0, r1, r2, r3, r4, rf⟩ := hS1.out.cells))
  obtain ⟨E, hE⟩ : ∃ E, E = ((((((w4.setCell ⟨P, 2, none⟩ (.string tt2)).setCell ⟨w.heap.size, 0, none⟩ (.int .i64 3)).setCell ⟨w.heap.size, 1, none⟩ (.string (tt1))).setCell ⟨w.heap.size, 2, none⟩ (.string (tt2))).setCell ⟨w.heap.size, 3, none⟩ (.int .i64 0)).setCell ⟨w.heap.size, 4, none⟩ (.string { data := #[] })) := ⟨_, rfl⟩
  obtain ⟨⟨y0, y1, y2, y3, y4⟩, hcE, hoE⟩ := hS3.out.end_ hE
  rw [← hE]
  refine bodyPost_ret (v := .agg #[.int .i64 3, .string (tt1), .string (tt2), .int .i64 0, .string { data := #[] }]) (by simp [results, Tryd.results55, go_sem, y0, y1, y2, y3, y4]) rfl ?_
  refine ⟨by rw [← HTT1.out, ← HTT2.out]; rfl, hcE, hoE⟩
theorem pread_4 (B g : Nat) (w : World) (st s1 s2 s3 : St) (nm : List UInt8) (tx : List UInt8) (hC : CurB B w g st) (hB : B ≤ w.heap.size) (h1 : stepByte st = (s1, 4)) (h2 : stepText s1 = (s2, nm)) (h3 : stepText s2 = (s3, tx)) :
    Calls Tryd.prog 55 #[.pointer (some ⟨g, 0, none⟩)] w fun e w' => e = .returned (opV ⟨4, nm, tx, 0, []⟩) ∧ CurB B w' g s3 ∧ Only w w' g := by
  have hgl := hC.lt
  have H1 : Hid (∀ W, CurB B W g st → B ≤ W.heap.size → Calls Tryd.prog 23 #[.pointer (some ⟨g, 0, none⟩)] W fun e w' => e = .returned (.int .i64 4) ∧ CurB B w' g s1 ∧ Only W w' g) := fun W hc hb => by
    have := byte_at B g st W hc hb
    rw [h1] at this
    exact this
  obtain ⟨n1, g1⟩ : ∃ n, n = nm.length := ⟨_, rfl⟩
  have HT1 : Hid (∀ W, CurB B W g s1 → B ≤ W.heap.size → Calls Tryd.prog 75 #[.pointer (some ⟨g, 0, none⟩)] W fun e w' => ∃ A c, e = .returned (.slice A n1 c) ∧ Hid (RB w' w'.heap.size A nm) ∧ Hid (CurB B w' g s2) ∧ Hid (Only W w' g)) := fun W hc hb => by
    have := ctext_at B g s1 W hc hb
    rw [h2] at this
    refine this.mono fun e w' hh => ?_
    obtain ⟨A, c, q1, q2, q3, q4, q5⟩ := hh
    exact ⟨A, c, by rw [g1]; exact q1, q2, q4, q5⟩
  have G1 := Lib.hid g1
  clear g1 h2
  obtain ⟨tt1, htt1⟩ : ∃ t, t = text nm := ⟨_, rfl⟩
  have HTT1 : Hid (({ data := nm.toArray } : ByteArray) = tt1) := htt1.symm
  clear htt1
  obtain ⟨n2, g2⟩ : ∃ n, n = tx.length := ⟨_, rfl⟩
  have HT2 : Hid (∀ W, CurB B W g s2 → B ≤ W.heap.size → Calls Tryd.prog 75 #[.pointer (some ⟨g, 0, none⟩)] W fun e w' => ∃ A c, e = .returned (.slice A n2 c) ∧ Hid (RB w' w'.heap.size A tx) ∧ Hid (CurB B w' g s3) ∧ Hid (Only W w' g)) := fun W hc hb => by
    have := ctext_at B g s2 W hc hb
    rw [h3] at this
    refine this.mono fun e w' hh => ?_
    obtain ⟨A, c, q1, q2, q3, q4, q5⟩ := hh
    exact ⟨A, c, by rw [g2]; exact q1, q2, q4, q5⟩
  have G2 := Lib.hid g2
  clear g2 h3
  obtain ⟨tt2, htt2⟩ : ∃ t, t = text tx := ⟨_, rfl⟩
  have HTT2 : Hid (({ data := tx.toArray } : ByteArray) = tt2) := htt2.symm
  clear htt2
  have HK : Hid (∀ W, Calls Tryd.prog 45 #[.int .i64 4] W fun e w' => e = .returned (.tuple #[.string (text (wordO 4)), .int .i64 3]) ∧ Below W.heap.size W w') := fun W => pkind_yes 4 W ⟨by omega, by omega⟩
  obtain ⟨wd, hwd⟩ : ∃ t, t = text (wordO 4) := ⟨_, rfl⟩
  rw [← hwd] at HK
  clear hwd
  have k1 : bits .and .i64 3 1 = 1 := by decide +kernel
  have k2 : bits .and .i64 3 2 = 2 := by decide +kernel
  have k4 : bits .and .i64 3 4 = 0 := by decide +kernel
  have k8 : bits .and .i64 3 8 = 0 := by decide +kernel
  have a23 := fun w' => Tryd.opAgg w'
  have s23 := fun w' => Tryd.opSize w'
  have HR := Lib.hid (Blk.new w 24 (opC 0 { data := #[] } { data := #[] } 0 { data := #[] }))
  have hb0 : Below w.heap.size w (w.alloc (.cells (opC 0 { data := #[] } { data := #[] } 0 { data := #[] }) 24)) := (Below.refl _ _).alloc (Nat.le_refl _) _
  have HC := Lib.hid hC
  clear hC h1
  go_enter Tryd.func55, Tryd.ntmps55
  go_upto_region 2 with (first
    | (go_at_call 23; (with_reducible refine (H1.out _ (HC.out.below hb0 hB) (Nat.le_trans hB hb0.size)).mono ?_); rintro e w1 ⟨rfl, hc1, ho1⟩; have HC1 := Lib.hid hc1; have HO1 := Lib.hid ho1))
  have hS : Hid (RdSt B g w1.heap.size w.heap.size w (w1.alloc (.cells #[.int .i64 4, .string { data := #[] }, .string { data := #[] }, .int .i64 0, .string { data := #[] }] 24)) s1 4 { data := #[] } { data := #[] } 0 { data := #[] }) := by
    have z1 : w.heap.size + 1 ≤ w1.heap.size := by have := HO1.out.size; simpa using this
    have hn : Below w1.heap.size w1 (w1.alloc (.cells #[.int .i64 4, .string { data := #[] }, .string { data := #[] }, .int .i64 0, .string { data := #[] }] 24)) := (Below.refl _ _).alloc (Nat.le_refl _) _
    refine ⟨HC1.out.below hn (by omega), Blk.new _ _ _, ?_, only_trans (only_trans (only_below hb0 g) HO1.out) (only_below hn g), by simp; omega, by omega, hB, by omega, by omega, by omega, by omega, Nat.le_refl _⟩
    exact (HR.out.only HO1.out (by omega)).alloc _
  obtain ⟨P, hP⟩ : ∃ x, x = w1.heap.size := ⟨_, rfl⟩
  obtain ⟨wp, hwp⟩ : ∃ x, x = w1.alloc (.cells #[.int .i64 4, .string { data := #[] }, .string { data := #[] }, .int .i64 0, .string { data := #[] }] 24) := ⟨_, rfl⟩
  rw [← hwp, ← hP] at hS ⊢
  clear hwp hP HC HC1 HO1 hb0 HR hc1 ho1
  obtain ⟨pl, rl, p0, p1, p2, p3, p4, pf, r0, r1, r2, r3, r4, rf⟩ := hS.out.cells
  go_wp2_with (first
    | (go_at_call 75; (with_reducible refine (HT2.out _ hS2.out.cur hS2.out.sz).mono ?_); rintro e w4 ⟨A3, d3, rfl, hr3, hc3, ho3⟩; have hS3 := Lib.hid ((hS2.out.call hc3.out ho3.out).set2 tt2); have est3 := aw_str hr3.out n2 d3 G2.out; rw [HTT2.out] at est3; (try clear pl' rl' p0' p1' p2' p3' p4' pf' r0' r1' r2' r3' r4' rf'); clear pl rl p0 p1 p2 p3 p4 pf r0 r1 r2 r3 r4 rf; obtain ⟨pl, rl, p0, p1, p2, p3, p4, pf, r0, r1, r2, r3, r4, rf⟩ := (hS2.out.call hc3.out ho3.out).cells; obtain ⟨pl', rl', p0', p1', p2', p3', p4', pf', r0', r1', r2', r3', r4', rf'⟩ := hS3.out.cells)
    | (go_at_call 75; (with_reducible refine (HT1.out _ hS1.out.cur hS1.out.sz).mono ?_); rintro e w3 ⟨A2, d2, rfl, hr2, hc2, ho2⟩; have hS2 := Lib.hid ((hS1.out.call hc2.out ho2.out).set1 tt1); have est2 := aw_str hr2.out n1 d2 G1.out; rw [HTT1.out] at est2; clear pl rl p0 p1 p2 p3 p4 pf r0 r1 r2 r3 r4 rf; obtain ⟨pl, rl, p0, p1, p2, p3, p4, pf, r0, r1, r2, r3, r4, rf⟩ := (hS1.out.call hc2.out ho2.out).cells; obtain ⟨pl', rl', p0', p1', p2', p3', p4', pf', r0', r1', r2', r3', r4', rf'⟩ := hS2.out.cells)
    | (go_at_call 45; (with_reducible refine (HK.out _).mono ?_); rintro e w2 ⟨rfl, b2⟩; have hS1 := Lib.hid (hS.out.below b2); clear pl rl p0 p1 p2 p3 p4 pf r0 r1 r2 r3 r4 rf; obtain ⟨pl, rl, p0, p1, p2, p3, p4, pf, r0, r1, r2, r3, r4, rf⟩ := hS1.out.cells))
  obtain ⟨E, hE⟩ : ∃ E, E = ((((((w4.setCell ⟨P, 2, none⟩ (.string tt2)).setCell ⟨w.heap.size, 0, none⟩ (.int .i64 4)).setCell ⟨w.heap.size, 1, none⟩ (.string (tt1))).setCell ⟨w.heap.size, 2, none⟩ (.string (tt2))).setCell ⟨w.heap.size, 3, none⟩ (.int .i64 0)).setCell ⟨w.heap.size, 4, none⟩ (.string { data := #[] })) := ⟨_, rfl⟩
  obtain ⟨⟨y0, y1, y2, y3, y4⟩, hcE, hoE⟩ := hS3.out.end_ hE
  rw [← hE]
  refine bodyPost_ret (v := .agg #[.int .i64 4, .string (tt1), .string (tt2), .int .i64 0, .string { data := #[] }]) (by simp [results, Tryd.results55, go_sem, y0, y1, y2, y3, y4]) rfl ?_
  refine ⟨by rw [← HTT1.out, ← HTT2.out]; rfl, hcE, hoE⟩
theorem pread_5 (B g : Nat) (w : World) (st s1 s2 s3 s4 : St) (nm : List UInt8) (tx : List UInt8) (a : List UInt8) (hC : CurB B w g st) (hB : B ≤ w.heap.size) (h1 : stepByte st = (s1, 5)) (h2 : stepText s1 = (s2, nm)) (h3 : stepText s2 = (s3, tx)) (h5 : rdAt5 s3 = (s4, a)) :
    Calls Tryd.prog 55 #[.pointer (some ⟨g, 0, none⟩)] w fun e w' => e = .returned (opV ⟨5, nm, tx, 0, a⟩) ∧ CurB B w' g s4 ∧ Only w w' g := by
  have hgl := hC.lt
  have H1 : Hid (∀ W, CurB B W g st → B ≤ W.heap.size → Calls Tryd.prog 23 #[.pointer (some ⟨g, 0, none⟩)] W fun e w' => e = .returned (.int .i64 5) ∧ CurB B w' g s1 ∧ Only W w' g) := fun W hc hb => by
    have := byte_at B g st W hc hb
    rw [h1] at this
    exact this
  obtain ⟨n1, g1⟩ : ∃ n, n = nm.length := ⟨_, rfl⟩
  have HT1 : Hid (∀ W, CurB B W g s1 → B ≤ W.heap.size → Calls Tryd.prog 75 #[.pointer (some ⟨g, 0, none⟩)] W fun e w' => ∃ A c, e = .returned (.slice A n1 c) ∧ Hid (RB w' w'.heap.size A nm) ∧ Hid (CurB B w' g s2) ∧ Hid (Only W w' g)) := fun W hc hb => by
    have := ctext_at B g s1 W hc hb
    rw [h2] at this
    refine this.mono fun e w' hh => ?_
    obtain ⟨A, c, q1, q2, q3, q4, q5⟩ := hh
    exact ⟨A, c, by rw [g1]; exact q1, q2, q4, q5⟩
  have G1 := Lib.hid g1
  clear g1 h2
  obtain ⟨tt1, htt1⟩ : ∃ t, t = text nm := ⟨_, rfl⟩
  have HTT1 : Hid (({ data := nm.toArray } : ByteArray) = tt1) := htt1.symm
  clear htt1
  obtain ⟨n2, g2⟩ : ∃ n, n = tx.length := ⟨_, rfl⟩
  have HT2 : Hid (∀ W, CurB B W g s2 → B ≤ W.heap.size → Calls Tryd.prog 75 #[.pointer (some ⟨g, 0, none⟩)] W fun e w' => ∃ A c, e = .returned (.slice A n2 c) ∧ Hid (RB w' w'.heap.size A tx) ∧ Hid (CurB B w' g s3) ∧ Hid (Only W w' g)) := fun W hc hb => by
    have := ctext_at B g s2 W hc hb
    rw [h3] at this
    refine this.mono fun e w' hh => ?_
    obtain ⟨A, c, q1, q2, q3, q4, q5⟩ := hh
    exact ⟨A, c, by rw [g2]; exact q1, q2, q4, q5⟩
  have G2 := Lib.hid g2
  clear g2 h3
  obtain ⟨tt2, htt2⟩ : ∃ t, t = text tx := ⟨_, rfl⟩
  have HTT2 : Hid (({ data := tx.toArray } : ByteArray) = tt2) := htt2.symm
  clear htt2
  obtain ⟨ta, hta⟩ : ∃ t, t = text a := ⟨_, rfl⟩
  have HA : Hid (∀ W, CurB B W g s3 → B ≤ W.heap.size → Calls Tryd.prog 77 #[.pointer (some ⟨g, 0, none⟩), .int .i64 27] W fun e w' => e = .returned (.string ta) ∧ CurB B w' g s4 ∧ Only W w' g) := fun W hc hb => by
    have := preadAt_5 B g s3 27 W hc hb (by decide +kernel)
    rw [h5] at this
    rw [hta]
    exact this
  have HTA := Lib.hid hta
  clear h5 hta
  have HK : Hid (∀ W, Calls Tryd.prog 45 #[.int .i64 5] W fun e w' => e = .returned (.tuple #[.string (text (wordO 5)), .int .i64 27]) ∧ Below W.heap.size W w') := fun W => pkind_yes 5 W ⟨by omega, by omega⟩
  obtain ⟨wd, hwd⟩ : ∃ t, t = text (wordO 5) := ⟨_, rfl⟩
  rw [← hwd] at HK
  clear hwd
  have k1 : bits .and .i64 27 1 = 1 := by decide +kernel
  have k2 : bits .and .i64 27 2 = 2 := by decide +kernel
  have k4 : bits .and .i64 27 4 = 0 := by decide +kernel
  have k8 : bits .and .i64 27 8 = 8 := by decide +kernel
  have a23 := fun w' => Tryd.opAgg w'
  have s23 := fun w' => Tryd.opSize w'
  have HR := Lib.hid (Blk.new w 24 (opC 0 { data := #[] } { data := #[] } 0 { data := #[] }))
  have hb0 : Below w.heap.size w (w.alloc (.cells (opC 0 { data := #[] } { data := #[] } 0 { data := #[] }) 24)) := (Below.refl _ _).alloc (Nat.le_refl _) _
  have HC := Lib.hid hC
  clear hC h1
  go_enter Tryd.func55, Tryd.ntmps55
  go_upto_region 2 with (first
    | (go_at_call 23; (with_reducible refine (H1.out _ (HC.out.below hb0 hB) (Nat.le_trans hB hb0.size)).mono ?_); rintro e w1 ⟨rfl, hc1, ho1⟩; have HC1 := Lib.hid hc1; have HO1 := Lib.hid ho1))
  have hS : Hid (RdSt B g w1.heap.size w.heap.size w (w1.alloc (.cells #[.int .i64 5, .string { data := #[] }, .string { data := #[] }, .int .i64 0, .string { data := #[] }] 24)) s1 5 { data := #[] } { data := #[] } 0 { data := #[] }) := by
    have z1 : w.heap.size + 1 ≤ w1.heap.size := by have := HO1.out.size; simpa using this
    have hn : Below w1.heap.size w1 (w1.alloc (.cells #[.int .i64 5, .string { data := #[] }, .string { data := #[] }, .int .i64 0, .string { data := #[] }] 24)) := (Below.refl _ _).alloc (Nat.le_refl _) _
    refine ⟨HC1.out.below hn (by omega), Blk.new _ _ _, ?_, only_trans (only_trans (only_below hb0 g) HO1.out) (only_below hn g), by simp; omega, by omega, hB, by omega, by omega, by omega, by omega, Nat.le_refl _⟩
    exact (HR.out.only HO1.out (by omega)).alloc _
  obtain ⟨P, hP⟩ : ∃ x, x = w1.heap.size := ⟨_, rfl⟩
  obtain ⟨wp, hwp⟩ : ∃ x, x = w1.alloc (.cells #[.int .i64 5, .string { data := #[] }, .string { data := #[] }, .int .i64 0, .string { data := #[] }] 24) := ⟨_, rfl⟩
  rw [← hwp, ← hP] at hS ⊢
  clear hwp hP HC HC1 HO1 hb0 HR hc1 ho1
  obtain ⟨pl, rl, p0, p1, p2, p3, p4, pf, r0, r1, r2, r3, r4, rf⟩ := hS.out.cells
  go_wp2_with (first
    | (go_at_call 77; (with_reducible refine (HA.out _ hS3.out.cur hS3.out.sz).mono ?_); rintro e w5 ⟨rfl, hc4, ho4⟩; have hc4 := Lib.hid hc4; have ho4 := Lib.hid ho4; have hS4 := Lib.hid ((hS3.out.call hc4.out ho4.out).set4 ta); (try clear pl' rl' p0' p1' p2' p3' p4' pf' r0' r1' r2' r3' r4' rf'); clear pl rl p0 p1 p2 p3 p4 pf r0 r1 r2 r3 r4 rf; obtain ⟨pl, rl, p0, p1, p2, p3, p4, pf, r0, r1, r2, r3, r4, rf⟩ := (hS3.out.call hc4.out ho4.out).cells; obtain ⟨pl', rl', p0', p1', p2', p3', p4', pf', r0', r1', r2', r3', r4', rf'⟩ := hS4.out.cells)
    | (go_at_call 75; (with_reducible refine (HT2.out _ hS2.out.cur hS2.out.sz).mono ?_); rintro e w4 ⟨A3, d3, rfl, hr3, hc3, ho3⟩; have hS3 := Lib.hid ((hS2.out.call hc3.out ho3.out).set2 tt2); have est3 := aw_str hr3.out n2 d3 G2.out; rw [HTT2.out] at est3; (try clear pl' rl' p0' p1' p2' p3' p4' pf' r0' r1' r2' r3' r4' rf'); clear pl rl p0 p1 p2 p3 p4 pf r0 r1 r2 r3 r4 rf; obtain ⟨pl, rl, p0, p1, p2, p3, p4, pf, r0, r1, r2, r3, r4, rf⟩ := (hS2.out.call hc3.out ho3.out).cells; obtain ⟨pl', rl', p0', p1', p2', p3', p4', pf', r0', r1', r2', r3', r4', rf'⟩ := hS3.out.cells)
    | (go_at_call 75; (with_reducible refine (HT1.out _ hS1.out.cur hS1.out.sz).mono ?_); rintro e w3 ⟨A2, d2, rfl, hr2, hc2, ho2⟩; have hS2 := Lib.hid ((hS1.out.call hc2.out ho2.out).set1 tt1); have est2 := aw_str hr2.out n1 d2 G1.out; rw [HTT1.out] at est2; clear pl rl p0 p1 p2 p3 p4 pf r0 r1 r2 r3 r4 rf; obtain ⟨pl, rl, p0, p1, p2, p3, p4, pf, r0, r1, r2, r3, r4, rf⟩ := (hS1.out.call hc2.out ho2.out).cells; obtain ⟨pl', rl', p0', p1', p2', p3', p4', pf', r0', r1', r2', r3', r4', rf'⟩ := hS2.out.cells)
    | (go_at_call 45; (with_reducible refine (HK.out _).mono ?_); rintro e w2 ⟨rfl, b2⟩; have hS1 := Lib.hid (hS.out.below b2); clear pl rl p0 p1 p2 p3 p4 pf r0 r1 r2 r3 r4 rf; obtain ⟨pl, rl, p0, p1, p2, p3, p4, pf, r0, r1, r2, r3, r4, rf⟩ := hS1.out.cells))
  obtain ⟨E, hE⟩ : ∃ E, E = ((((((w5.setCell ⟨P, 4, none⟩ (.string ta)).setCell ⟨w.heap.size, 0, none⟩ (.int .i64 5)).setCell ⟨w.heap.size, 1, none⟩ (.string (tt1))).setCell ⟨w.heap.size, 2, none⟩ (.string (tt2))).setCell ⟨w.heap.size, 3, none⟩ (.int .i64 0)).setCell ⟨w.heap.size, 4, none⟩ (.string ta)) := ⟨_, rfl⟩
  obtain ⟨⟨y0, y1, y2, y3, y4⟩, hcE, hoE⟩ := hS4.out.end_ hE
  rw [← hE]
  refine bodyPost_ret (v := .agg #[.int .i64 5, .string (tt1), .string (tt2), .int .i64 0, .string ta]) (by simp [results, Tryd.results55, go_sem, y0, y1, y2, y3, y4]) rfl ?_
  refine ⟨by rw [← HTT1.out, ← HTT2.out, HTA.out]; rfl, hcE, hoE⟩
theorem pread_6 (B g : Nat) (w : World) (st s1 s2 s3 : St) (nm : List UInt8) (a : List UInt8) (hC : CurB B w g st) (hB : B ≤ w.heap.size) (h1 : stepByte st = (s1, 6)) (h2 : stepText s1 = (s2, nm)) (h5 : stepTake 32 s2 = (s3, a)) :
    Calls Tryd.prog 55 #[.pointer (some ⟨g, 0, none⟩)] w fun e w' => e = .returned (opV ⟨6, nm, [], 0, a⟩) ∧ CurB B w' g s3 ∧ Only w w' g := by
  have hgl := hC.lt
  have H1 : Hid (∀ W, CurB B W g st → B ≤ W.heap.size → Calls Tryd.prog 23 #[.pointer (some ⟨g, 0, none⟩)] W fun e w' => e = .returned (.int .i64 6) ∧ CurB B w' g s1 ∧ Only W w' g) := fun W hc hb => by
    have := byte_at B g st W hc hb
    rw [h1] at this
    exact this
  obtain ⟨n1, g1⟩ : ∃ n, n = nm.length := ⟨_, rfl⟩
  have HT1 : Hid (∀ W, CurB B W g s1 → B ≤ W.heap.size → Calls Tryd.prog 75 #[.pointer (some ⟨g, 0, none⟩)] W fun e w' => ∃ A c, e = .returned (.slice A n1 c) ∧ Hid (RB w' w'.heap.size A nm) ∧ Hid (CurB B w' g s2) ∧ Hid (Only W w' g)) := fun W hc hb => by
    have := ctext_at B g s1 W hc hb
    rw [h2] at this
    refine this.mono fun e w' hh => ?_
    obtain ⟨A, c, q1, q2, q3, q4, q5⟩ := hh
    exact ⟨A, c, by rw [g1]; exact q1, q2, q4, q5⟩
  have G1 := Lib.hid g1
  clear g1 h2
  obtain ⟨tt1, htt1⟩ : ∃ t, t = text nm := ⟨_, rfl⟩
  have HTT1 : Hid (({ data := nm.toArray } : ByteArray) = tt1) := htt1.symm
  clear htt1
  obtain ⟨ta, hta⟩ : ∃ t, t = text a := ⟨_, rfl⟩
  have HA : Hid (∀ W, CurB B W g s2 → B ≤ W.heap.size → Calls Tryd.prog 77 #[.pointer (some ⟨g, 0, none⟩), .int .i64 41] W fun e w' => e = .returned (.string ta) ∧ CurB B w' g s3 ∧ Only W w' g) := fun W hc hb => by
    have := preadAt_6 B g s2 41 32 W hc hb (by decide +kernel) (by omega)
    rw [h5] at this
    rw [hta]
    exact this
  have HTA := Lib.hid hta
  clear h5 hta
  have HK : Hid (∀ W, Calls Tryd.prog 45 #[.int .i64 6] W fun e w' => e = .returned (.tuple #[.string (text (wordO 6)), .int .i64 41]) ∧ Below W.heap.size W w') := fun W => pkind_yes 6 W ⟨by omega, by omega⟩
  obtain ⟨wd, hwd⟩ : ∃ t, t = text (wordO 6) := ⟨_, rfl⟩
  rw [← hwd] at HK
  clear hwd
  have k1 : bits .and .i64 41 1 = 1 := by decide +kernel
  have k2 : bits .and .i64 41 2 = 0 := by decide +kernel
  have k4 : bits .and .i64 41 4 = 0 := by decide +kernel
  have k8 : bits .and .i64 41 8 = 8 := by decide +kernel
  have a23 := fun w' => Tryd.opAgg w'
  have s23 := fun w' => Tryd.opSize w'
  have HR := Lib.hid (Blk.new w 24 (opC 0 { data := #[] } { data := #[] } 0 { data := #[] }))
  have hb0 : Below w.heap.size w (w.alloc (.cells (opC 0 { data := #[] } { data := #[] } 0 { data := #[] }) 24)) := (Below.refl _ _).alloc (Nat.le_refl _) _
  have HC := Lib.hid hC
  clear hC h1
  go_enter Tryd.func55, Tryd.ntmps55
  go_upto_region 2 with (first
    | (go_at_call 23; (with_reducible refine (H1.out _ (HC.out.below hb0 hB) (Nat.le_trans hB hb0.size)).mono ?_); rintro e w1 ⟨rfl, hc1, ho1⟩; have HC1 := Lib.hid hc1; have HO1 := Lib.hid ho1))
  have hS : Hid (RdSt B g w1.heap.size w.heap.size w (w1.alloc (.cells #[.int .i64 6, .string { data := #[] }, .string { data := #[] }, .int .i64 0, .string { data := #[] }] 24)) s1 6 { data := #[] } { data := #[] } 0 { data := #[] }) := by
    have z1 : w.heap.size + 1 ≤ w1.heap.size := by have := HO1.out.size; simpa using this
    have hn : Below w1.heap.size w1 (w1.alloc (.cells #[.int .i64 6, .string { data := #[] }, .string { data := #[] }, .int .i64 0, .string { data := #[] }] 24)) := (Below.refl _ _).alloc (Nat.le_refl _) _
    refine ⟨HC1.out.below hn (by omega), Blk.new _ _ _, ?_, only_trans (only_trans (only_below hb0 g) HO1.out) (only_below hn g), by simp; omega, by omega, hB, by omega, by omega, by omega, by omega, Nat.le_refl _⟩
    exact (HR.out.only HO1.out (by omega)).alloc _
  obtain ⟨P, hP⟩ : ∃ x, x = w1.heap.size := ⟨_, rfl⟩
  obtain ⟨wp, hwp⟩ : ∃ x, x = w1.alloc (.cells #[.int .i64 6, .string { data := #[] }, .string { data := #[] }, .int .i64 0, .string { data := #[] }] 24) := ⟨_, rfl⟩
  rw [← hwp, ← hP] at hS ⊢
  clear hwp hP HC HC1 HO1 hb0 HR hc1 ho1
  obtain ⟨pl, rl, p0, p1, p2, p3, p4, pf, r0, r1, r2, r3, r4, rf⟩ := hS.out.cells
  go_wp2_with (first
    | (go_at_call 77; (with_reducible refine (HA.out _ hS2.out.cur hS2.out.sz).mono ?_); rintro e w4 ⟨rfl, hc3, ho3⟩; have hc3 := Lib.hid hc3; have ho3 := Lib.hid ho3; have hS3 := Lib.hid ((hS2.out.call hc3.out ho3.out).set4 ta); (try clear pl' rl' p0' p1' p2' p3' p4' pf' r0' r1' r2' r3' r4' rf'); clear pl rl p0 p1 p2 p3 p4 pf r0 r1 r2 r3 r4 rf; obtain ⟨pl, rl, p0, p1, p2, p3, p4, pf, r0, r1, r2, r3, r4, rf⟩ := (hS2.out.call hc3.out ho3.out).cells; obtain ⟨pl', rl', p0', p1', p2', p3', p4', pf', r0', r1', r2', r3', r4', rf'⟩ := hS3.out.cells)
    | (go_at_call 75; (with_reducible refine (HT1.out _ hS1.out.cur hS1.out.sz).mono ?_); rintro e w3 ⟨A2, d2, rfl, hr2, hc2, ho2⟩; have hS2 := Lib.hid ((hS1.out.call hc2.out ho2.out).set1 tt1); have est2 := aw_str hr2.out n1 d2 G1.out; rw [HTT1.out] at est2; clear pl rl p0 p1 p2 p3 p4 pf r0 r1 r2 r3 r4 rf; obtain ⟨pl, rl, p0, p1, p2, p3, p4, pf, r0, r1, r2, r3, r4, rf⟩ := (hS1.out.call hc2.out ho2.out).cells; obtain ⟨pl', rl', p0', p1', p2', p3', p4', pf', r0', r1', r2', r3', r4', rf'⟩ := hS2.out.cells)
    | (go_at_call 45; (with_reducible refine (HK.out _).mono ?_); rintro e w2 ⟨rfl, b2⟩; have hS1 := Lib.hid (hS.out.below b2); clear pl rl p0 p1 p2 p3 p4 pf r0 r1 r2 r3 r4 rf; obtain ⟨pl, rl, p0, p1, p2, p3, p4, pf, r0, r1, r2, r3, r4, rf⟩ := hS1.out.cells))
  obtain ⟨E, hE⟩ : ∃ E, E = ((((((w4.setCell ⟨P, 4, none⟩ (.string ta)).setCell ⟨w.heap.size, 0, none⟩ (.int .i64 6)).setCell ⟨w.heap.size, 1, none⟩ (.string (tt1))).setCell ⟨w.heap.size, 2, none⟩ (.string { data := #[] })).setCell ⟨w.heap.size, 3, none⟩ (.int .i64 0)).setCell ⟨w.heap.size, 4, none⟩ (.string ta)) := ⟨_, rfl⟩
  obtain ⟨⟨y0, y1, y2, y3, y4⟩, hcE, hoE⟩ := hS3.out.end_ hE
  rw [← hE]
  refine bodyPost_ret (v := .agg #[.int .i64 6, .string (tt1), .string { data := #[] }, .int .i64 0, .string ta]) (by simp [results, Tryd.results55, go_sem, y0, y1, y2, y3, y4]) rfl ?_
  refine ⟨by rw [← HTT1.out, HTA.out]; rfl, hcE, hoE⟩
theorem pread_7 (B g : Nat) (w : World) (st s1 : St) (hC : CurB B w g st) (hB : B ≤ w.heap.size) (h1 : stepByte st = (s1, 7)) :
    Calls Tryd.prog 55 #[.pointer (some ⟨g, 0, none⟩)] w fun e w' => e = .returned (opV ⟨7, [], [], 0, []⟩) ∧ CurB B w' g s1 ∧ Only w w' g := by
  have hgl := hC.lt
  have H1 : Hid (∀ W, CurB B W g st → B ≤ W.heap.size → Calls Tryd.prog 23 #[.pointer (some ⟨g, 0, none⟩)] W fun e w' => e = .returned (.int .i64 7) ∧ CurB B w' g s1 ∧ Only W w' g) := fun W hc hb => by
    have := byte_at B g st W hc hb
    rw [h1] at this
    exact this
  have HK : Hid (∀ W, Calls Tryd.prog 45 #[.int .i64 7] W fun e w' => e = .returned (.tuple #[.string (text (wordO 7)), .int .i64 0]) ∧ Below W.heap.size W w') := fun W => pkind_yes 7 W ⟨by omega, by omega⟩
  obtain ⟨wd, hwd⟩ : ∃ t, t = text (wordO 7) := ⟨_, rfl⟩
  rw [← hwd] at HK
  clear hwd
  have k1 : bits .and .i64 0 1 = 0 := by decide +kernel
  have k2 : bits .and .i64 0 2 = 0 := by decide +kernel
  have k4 : bits .and .i64 0 4 = 0 := by decide +kernel
  have k8 : bits .and .i64 0 8 = 0 := by decide +kernel
  have a23 := fun w' => Tryd.opAgg w'
  have s23 := fun w' => Tryd.opSize w'
  have HR := Lib.hid (Blk.new w 24 (opC 0 { data := #[] } { data := #[] } 0 { data := #[] }))
  have hb0 : Below w.heap.size w (w.alloc (.cells (opC 0 { data := #[] } { data := #[] } 0 { data := #[] }) 24)) := (Below.refl _ _).alloc (Nat.le_refl _) _
  have HC := Lib.hid hC
  clear hC h1
  go_enter Tryd.func55, Tryd.ntmps55
  go_upto_region 2 with (first
    | (go_at_call 23; (with_reducible refine (H1.out _ (HC.out.below hb0 hB) (Nat.le_trans hB hb0.size)).mono ?_); rintro e w1 ⟨rfl, hc1, ho1⟩; have HC1 := Lib.hid hc1; have HO1 := Lib.hid ho1))
  have hS : Hid (RdSt B g w1.heap.size w.heap.size w (w1.alloc (.cells #[.int .i64 7, .string { data := #[] }, .string { data := #[] }, .int .i64 0, .string { data := #[] }] 24)) s1 7 { data := #[] } { data := #[] } 0 { data := #[] }) := by
    have z1 : w.heap.size + 1 ≤ w1.heap.size := by have := HO1.out.size; simpa using this
    have hn : Below w1.heap.size w1 (w1.alloc (.cells #[.int .i64 7, .string { data := #[] }, .string { data := #[] }, .int .i64 0, .string { data := #[] }] 24)) := (Below.refl _ _).alloc (Nat.le_refl _) _
    refine ⟨HC1.out.below hn (by omega), Blk.new _ _ _, ?_, only_trans (only_trans (only_below hb0 g) HO1.out) (only_below hn g), by simp; omega, by omega, hB, by omega, by omega, by omega, by omega, Nat.le_refl _⟩
    exact (HR.out.only HO1.out (by omega)).alloc _
  obtain ⟨P, hP⟩ : ∃ x, x = w1.heap.size := ⟨_, rfl⟩
  obtain ⟨wp, hwp⟩ : ∃ x, x = w1.alloc (.cells #[.int .i64 7, .string { data := #[] }, .string { data := #[] }, .int .i64 0, .string { data := #[] }] 24) := ⟨_, rfl⟩
  rw [← hwp, ← hP] at hS ⊢
  clear hwp hP HC HC1 HO1 hb0 HR hc1 ho1
  obtain ⟨pl, rl, p0, p1, p2, p3, p4, pf, r0, r1, r2, r3, r4, rf⟩ := hS.out.cells
  go_wp2_with (first
    | (go_at_call 45; (with_reducible refine (HK.out _).mono ?_); rintro e w2 ⟨rfl, b2⟩; have hS1 := Lib.hid (hS.out.below b2); clear pl rl p0 p1 p2 p3 p4 pf r0 r1 r2 r3 r4 rf; obtain ⟨pl, rl, p0, p1, p2, p3, p4, pf, r0, r1, r2, r3, r4, rf⟩ := hS1.out.cells))
  obtain ⟨E, hE⟩ : ∃ E, E = (((((w2.setCell ⟨w.heap.size, 0, none⟩ (.int .i64 7)).setCell ⟨w.heap.size, 1, none⟩ (.string { data := #[] })).setCell ⟨w.heap.size, 2, none⟩ (.string { data := #[] })).setCell ⟨w.heap.size, 3, none⟩ (.int .i64 0)).setCell ⟨w.heap.size, 4, none⟩ (.string { data := #[] })) := ⟨_, rfl⟩
  obtain ⟨⟨y0, y1, y2, y3, y4⟩, hcE, hoE⟩ := hS1.out.end_ hE
  rw [← hE]
  refine bodyPost_ret (v := .agg #[.int .i64 7, .string { data := #[] }, .string { data := #[] }, .int .i64 0, .string { data := #[] }]) (by simp [results, Tryd.results55, go_sem, y0, y1, y2, y3, y4]) rfl ?_
  refine ⟨rfl, hcE, hoE⟩
theorem pread_0 (B g : Nat) (w : World) (st s1 : St) (k : Nat) (hk : ¬ (1 ≤ (k : Int) ∧ (k : Int) ≤ 7)) (hC : CurB B w g st) (hB : B ≤ w.heap.size) (h1 : stepByte st = (s1, k)) :
    Calls Tryd.prog 55 #[.pointer (some ⟨g, 0, none⟩)] w fun e w' => e = .returned (opV ⟨(k : Int), [], [], 0, []⟩) ∧ CurB B w' g s1 ∧ Only w w' g := by
  have hgl := hC.lt
  have H1 : Hid (∀ W, CurB B W g st → B ≤ W.heap.size → Calls Tryd.prog 23 #[.pointer (some ⟨g, 0, none⟩)] W fun e w' => e = .returned (.int .i64 (k : Int)) ∧ CurB B w' g s1 ∧ Only W w' g) := fun W hc hb => by
    have := byte_at B g st W hc hb
    rw [h1] at this
    exact this
  have HK : Hid (∀ W, Calls Tryd.prog 45 #[.int .i64 (k : Int)] W fun e w' => e = .returned (.tuple #[.string (text []), .int .i64 0]) ∧ Below W.heap.size W w') := fun W => pkind_no k W hk
  obtain ⟨wd, hwd⟩ : ∃ t, t = text [] := ⟨_, rfl⟩
  rw [← hwd] at HK
  clear hwd
  have k1 : bits .and .i64 0 1 = 0 := by decide +kernel
  have k2 : bits .and .i64 0 2 = 0 := by decide +kernel
  have k4 : bits .and .i64 0 4 = 0 := by decide +kernel
  have k8 : bits .and .i64 0 8 = 0 := by decide +kernel
  have a23 := fun w' => Tryd.opAgg w'
  have s23 := fun w' => Tryd.opSize w'
  have HR := Lib.hid (Blk.new w 24 (opC 0 { data := #[] } { data := #[] } 0 { data := #[] }))
  have hb0 : Below w.heap.size w (w.alloc (.cells (opC 0 { data := #[] } { data := #[] } 0 { data := #[] }) 24)) := (Below.refl _ _).alloc (Nat.le_refl _) _
  have HC := Lib.hid hC
  clear hC h1 hk
  go_enter Tryd.func55, Tryd.ntmps55
  go_upto_region 2 with (first
    | (go_at_call 23; (with_reducible refine (H1.out _ (HC.out.below hb0 hB) (Nat.le_trans hB hb0.size)).mono ?_); rintro e w1 ⟨rfl, hc1, ho1⟩; have HC1 := Lib.hid hc1; have HO1 := Lib.hid ho1))
  have hS : Hid (RdSt B g w1.heap.size w.heap.size w (w1.alloc (.cells #[.int .i64 (k : Int), .string { data := #[] }, .string { data := #[] }, .int .i64 0, .string { data := #[] }] 24)) s1 (k : Int) { data := #[] } { data := #[] } 0 { data := #[] }) := by
    have z1 : w.heap.size + 1 ≤ w1.heap.size := by have := HO1.out.size; simpa using this
    have hn : Below w1.heap.size w1 (w1.alloc (.cells #[.int .i64 (k : Int), .string { data := #[] }, .string { data := #[] }, .int .i64 0, .string { data := #[] }] 24)) := (Below.refl _ _).alloc (Nat.le_refl _) _
    refine ⟨HC1.out.below hn (by omega), Blk.new _ _ _, ?_, only_trans (only_trans (only_below hb0 g) HO1.out) (only_below hn g), by simp; omega, by omega, hB, by omega, by omega, by omega, by omega, Nat.le_refl _⟩
    exact (HR.out.only HO1.out (by omega)).alloc _
  obtain ⟨P, hP⟩ : ∃ x, x = w1.heap.size := ⟨_, rfl⟩
  obtain ⟨wp, hwp⟩ : ∃ x, x = w1.alloc (.cells #[.int .i64 (k : Int), .string { data := #[] }, .string { data := #[] }, .int .i64 0, .string { data := #[] }] 24) := ⟨_, rfl⟩
  rw [← hwp, ← hP] at hS ⊢
  clear hwp hP HC HC1 HO1 hb0 HR hc1 ho1
  obtain ⟨pl, rl, p0, p1, p2, p3, p4, pf, r0, r1, r2, r3, r4, rf⟩ := hS.out.cells
  go_wp2_with (first
    | (go_at_call 45; (with_reducible refine (HK.out _).mono ?_); rintro e w2 ⟨rfl, b2⟩; have hS1 := Lib.hid (hS.out.below b2); clear pl rl p0 p1 p2 p3 p4 pf r0 r1 r2 r3 r4 rf; obtain ⟨pl, rl, p0, p1, p2, p3, p4, pf, r0, r1, r2, r3, r4, rf⟩ := hS1.out.cells))
  obtain ⟨E, hE⟩ : ∃ E, E = (((((w2.setCell ⟨w.heap.size, 0, none⟩ (.int .i64 (k : Int))).setCell ⟨w.heap.size, 1, none⟩ (.string { data := #[] })).setCell ⟨w.heap.size, 2, none⟩ (.string { data := #[] })).setCell ⟨w.heap.size, 3, none⟩ (.int .i64 0)).setCell ⟨w.heap.size, 4, none⟩ (.string { data := #[] })) := ⟨_, rfl⟩
  obtain ⟨⟨y0, y1, y2, y3, y4⟩, hcE, hoE⟩ := hS1.out.end_ hE
  rw [← hE]
  refine bodyPost_ret (v := .agg #[.int .i64 (k : Int), .string { data := #[] }, .string { data := #[] }, .int .i64 0, .string { data := #[] }]) (by simp [results, Tryd.results55, go_sem, y0, y1, y2, y3, y4]) rfl ?_
  refine ⟨rfl, hcE, hoE⟩
end
section
open Go.RowKit
theorem rucheck_any (u : Upd) (A : Option Addr) (c B : Nat) (w : World) (hr : SS w B A u.preds) (hB : B ≤ w.heap.size) (hn : u.preds.length ≤ 1000000) (ho : u.op.name.length ≤ 1000000) :
    Calls Tryd.prog 19 #[updV u A c] w fun e w' => e = .returned (.int .i64 u.check) ∧ Below w.heap.size w w' := by
  have HRi : Hid (∀ W, Below w.heap.size w W → Calls Tryd.prog 43 #[.slice A u.preds.length c] W fun e w' => e = .returned (.bool (risesL u.preds)) ∧ Below W.heap.size W w') := fun W hW => refRising_any _ A _ c B W rfl ((hr.below (hW.mono hB))) hn
  have HCk : Hid (∀ W, Calls Tryd.prog 44 #[opV u.op] W fun e w' => e = .returned (.bool u.op.mayB) ∧ Below W.heap.size W w') := fun W => refCheck_any u.op W ho
  obtain ⟨a, p, k, nm, tx, z, x⟩ := u
  obtain ⟨t1, h1⟩ : ∃ t, t = text nm := ⟨_, rfl⟩
  obtain ⟨t2, h2⟩ : ∃ t, t = text tx := ⟨_, rfl⟩
  obtain ⟨t3, h3⟩ : ∃ t, t = text x := ⟨_, rfl⟩
  obtain ⟨n, hnn⟩ : ∃ n, n = p.length := ⟨_, rfl⟩
  obtain ⟨r, hrr⟩ : ∃ r, r = risesL p := ⟨_, rfl⟩
  obtain ⟨m, hmm⟩ : ∃ m, m = Opn.mayB ⟨k, nm, tx, z, x⟩ := ⟨_, rfl⟩
  have HK : Hid (Upd.check ⟨a, p, k, nm, tx, z, x⟩ = if a < 0 ∨ 255 < a then 1 else if 8 < n then 4 else if r = true ∧ m = true then 0 else 1) := by
    show _ = _
    rw [hrr, hmm, hnn]
    rfl
  have eV : opV ⟨k, nm, tx, z, x⟩ = .agg #[.int .i64 k, .string t1, .string t2, .int .i64 z, .string t3] := by rw [h1, h2, h3]; rfl
  simp only at HRi HCk hn
  rw [← hnn] at HRi hn
  rw [← hrr] at HRi
  rw [← hmm, eV] at HCk
  show Calls Tryd.prog 19 #[.agg #[.int .i64 a, .slice A p.length c, .int .i64 k, .string (text nm), .string (text tx), .int .i64 z, .string (text x)]] w _
  rw [← h1, ← h2, ← h3, ← hnn]
  clear h1 h2 h3 hnn hrr hmm eV hr ho
  have hb0 : Below w.heap.size w (w.alloc (.cells #[.int .i64 a, .slice A n c, .int .i64 k, .string t1, .string t2, .int .i64 z, .string t3] 26)) := (Below.refl _ _).alloc (Nat.le_refl _) _
  have hK := Lib.hid (Blk.new w 26 #[.int .i64 a, .slice A n c, .int .i64 k, .string t1, .string t2, .int .i64 z, .string t3])
  obtain ⟨kl, k0, k1, k2, k3, k4, k5, k6, kf⟩ := updC_of hK.out
  have HB0 := Lib.hid hb0
  clear hb0
  have a23 := fun w' => Tryd.opAgg w'
  have s23 := fun w' => Tryd.opSize w'
  have W : ∀ {e : Ending} {v : Int} {w' : World}, e = .returned (.int .i64 v) → v = Upd.check ⟨a, p, k, nm, tx, z, x⟩ → Below w.heap.size w w' → e = .returned (.int .i64 (Upd.check ⟨a, p, k, nm, tx, z, x⟩)) ∧ Below w.heap.size w w' := fun h1 h2 h3 => ⟨by rw [h1, h2], h3⟩
  go_enter Tryd.func19, Tryd.ntmps19
  go_wp2_with (first
    | (go_at_call 43; (with_reducible refine (HRi.out _ HB0.out).mono ?_); rintro e w1 ⟨rfl, b1⟩; have hK1 := Lib.hid (hK.out.below b1 (by simp)); obtain ⟨ml, m0, m1, m2, m3, m4, m5, m6, mf⟩ := updC_of hK1.out)
    | (go_at_call 44; (with_reducible refine (HCk.out _).mono ?_); rintro e w2 ⟨rfl, b2⟩))
  all_goals go_ret
  all_goals
    refine W rfl ?_ (by first | exact HB0.out | exact HB0.out.trans (b1.mono HB0.out.size) | exact (HB0.out.trans (b1.mono HB0.out.size)).trans (b2.mono (Nat.le_trans HB0.out.size b1.size)))
    rw [HK.out]
    clear W HK hK HB0 HRi HCk
    (try clear b2)
    (try clear hK1 m0 m1 m2 m3 m4 m5 m6 mf ml b1)
    clear k0 k1 k2 k3 k4 k5 k6 kf kl a23 s23
    first | (simp_all; done) | (simp_all; omega) | (split <;> simp_all <;> omega)
end
end Go.Proofs.YtinphkflfdpaeaaDoor
