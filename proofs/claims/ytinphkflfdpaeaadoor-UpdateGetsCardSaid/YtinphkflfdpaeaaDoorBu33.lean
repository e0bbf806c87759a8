/- Lemmas under the proofs of this place: UpPCheck, UpGives, OpPGetM. No statement is proved here. -/
import Derived.Test.YtinphkflfdpaeaaDoorBu29
import Derived.Test.YtinphkflfdpaeaaDoorBu31
import Derived.Test.YtinphkflfdpaeaaDoorBu15
import Derived.Test.YtinphkflfdpaeaaDoorBu20
import Derived.Test.YtinphkflfdpaeaaDoorBu07
import Derived.Test.YtinphkflfdpaeaaDoorBu23
set_option linter.unusedSimpArgs false
set_option linter.unusedVariables false
set_option maxRecDepth 100000
set_option maxHeartbeats 16000000
namespace Go.Proofs.YtinphkflfdpaeaaDoor
section
open Go.RowKit
theorem upcheck_any (u : Upd) (A : Option Addr) (c : Nat) (w : World) (hr : SS w w.heap.size A u.preds) (hn : u.preds.length ≤ 1000) (hc : u.preds.length ≤ c) (hcm : c ≤ 9223372036854775807) (ho : u.op.name.length ≤ 1000000) (ho2 : u.op.text.length ≤ 1000000) :
    Calls Tryd.prog 13 #[updV u A c] w fun e w' => e = .returned (.int .i64 u.check) ∧ Below w.heap.size w w' := by
  have HRi : Hid (∀ W, Below w.heap.size w W → Calls Tryd.prog 30 #[.slice A u.preds.length c] W fun e w' => e = .returned (.bool (risesL u.preds)) ∧ Below W.heap.size W w') := fun W hW => idsRising_any _ A _ c w.heap.size W rfl (hr.below hW) hn hc hcm
  have HCk : Hid (∀ W, Calls Tryd.prog 31 #[opV u.op] W fun e w' => e = .returned (.int .i64 (if u.op.mayB = true then 0 else 1)) ∧ Below W.heap.size W w') := fun W => pCheck_any u.op W ho ho2
  obtain ⟨a, p, k, nm, tx, z, x⟩ := u
  obtain ⟨t1, h1⟩ : ∃ t, t = text nm := ⟨_, rfl⟩
  obtain ⟨t2, h2⟩ : ∃ t, t = text tx := ⟨_, rfl⟩
  obtain ⟨t3, h3⟩ : ∃ t, t = text x := ⟨_, rfl⟩
  obtain ⟨n, hnn⟩ : ∃ n, n = p.length := ⟨_, rfl⟩
  obtain ⟨r, hrr⟩ : ∃ r, r = risesL p := ⟨_, rfl⟩
  obtain ⟨m, hmm⟩ : ∃ m, m = Opn.mayB ⟨k, nm, tx, z, x⟩ := ⟨_, rfl⟩
  obtain ⟨f, hff⟩ : ∃ f : Int, f = if m = true then 0 else 1 := ⟨_, rfl⟩
  have HK : Hid (Upd.check ⟨a, p, k, nm, tx, z, x⟩ = if a < 0 ∨ 255 < a then 1 else if 8 < n then 4 else if r = true then f else 1) := by
    show _ = _
    rw [hff, hrr, hmm, hnn]
    unfold Upd.check
    simp only []
    by_cases h : risesL p = true <;> simp [h]
  have eV : opV ⟨k, nm, tx, z, x⟩ = .agg #[.int .i64 k, .string t1, .string t2, .int .i64 z, .string t3] := by rw [h1, h2, h3]; rfl
  simp only at HRi HCk hn hc
  rw [← hnn] at HRi hn hc
  rw [← hrr] at HRi
  rw [← hmm, eV, ← hff] at HCk
  show Calls Tryd.prog 13 #[.agg #[.int .i64 a, .slice A p.length c, .int .i64 k, .string (text nm), .string (text tx), .int .i64 z, .string (text x)]] w _
  rw [← h1, ← h2, ← h3, ← hnn]
  clear h1 h2 h3 hnn hrr hmm hff eV hr ho ho2 hc hcm
  have hb0 : Below w.heap.size w (w.alloc (.cells #[.int .i64 a, .slice A n c, .int .i64 k, .string t1, .string t2, .int .i64 z, .string t3] 26)) := (Below.refl _ _).alloc (Nat.le_refl _) _
  have hK := Lib.hid (Blk.new w 26 #[.int .i64 a, .slice A n c, .int .i64 k, .string t1, .string t2, .int .i64 z, .string t3])
  obtain ⟨kl, k0, k1, k2, k3, k4, k5, k6, kf⟩ := updC_of hK.out
  have HB0 := Lib.hid hb0
  clear hb0
  have a23 := fun w' => Tryd.opAgg w'
  have s23 := fun w' => Tryd.opSize w'
  have W : ∀ {e : Ending} {v : Int} {w' : World}, e = .returned (.int .i64 v) → v = Upd.check ⟨a, p, k, nm, tx, z, x⟩ → Below w.heap.size w w' → e = .returned (.int .i64 (Upd.check ⟨a, p, k, nm, tx, z, x⟩)) ∧ Below w.heap.size w w' := fun h1 h2 h3 => ⟨by rw [h1, h2], h3⟩
  go_enter Tryd.func13, Tryd.ntmps13
  go_wp2_with (first
    | (go_at_call 30; (with_reducible refine (HRi.out _ HB0.out).mono ?_); rintro e w1 ⟨rfl, b1⟩; have hK1 := Lib.hid (hK.out.below b1 (by simp)); obtain ⟨ml, m0, m1, m2, m3, m4, m5, m6, mf⟩ := updC_of hK1.out)
    | (go_at_call 31; (with_reducible refine (HCk.out _).mono ?_); rintro e w2 ⟨rfl, b2⟩))
  all_goals go_ret
  all_goals
    refine W rfl ?_ (by first | exact HB0.out | exact HB0.out.trans (b1.mono HB0.out.size) | exact (HB0.out.trans (b1.mono HB0.out.size)).trans (b2.mono (Nat.le_trans HB0.out.size b1.size)))
    rw [HK.out]
    clear W HK hK HB0 HRi HCk
    (try clear b2)
    (try clear hK1 m0 m1 m2 m3 m4 m5 m6 mf ml b1)
    clear k0 k1 k2 k3 k4 k5 k6 kf kl a23 s23
    first | (simp_all; done) | (simp_all; omega) | (split <;> simp_all <;> omega)
end
section
open Go.RowKit
theorem chainU {w0 w w' : World} (h : Below w0.heap.size w0 w) (k : Below w.heap.size w w') : Below w0.heap.size w0 w' := h.trans (k.mono h.size)
def Upd.out (u : Upd) : List UInt8 := if u.check = 0 then u.bytes else []
def PutsU (u : Upd) (w : World) (e : Ending) (w' : World) : Prop := ∃ A c, e = .returned (.tuple #[.slice A u.out.length c, .int .i64 u.check]) ∧ Hid (Own w' w.heap.size A u.out c) ∧ Below w.heap.size w w'
theorem Upd.out_len (u : Upd) : u.out.length ≤ 354 := by
  unfold Upd.out
  split
  · rename_i h; exact Upd.bytes_len (Upd.check_ok.1 h)
  · simp
theorem putsU_no {u : Upd} (h : u.check ≠ 0) {w w' : World} {e : Ending} (he : e = .returned (.tuple #[.slice none 0 0, .int .i64 u.check])) (hb : Below w.heap.size w w') : PutsU u w e w' := by
  have e0 : u.out = [] := if_neg h
  refine ⟨none, 0, by rw [he, e0]; rfl, ?_, hb⟩
  rw [e0]
  exact ⟨rfl, .inl ⟨rfl, rfl⟩⟩
theorem putsU_yes {u : Upd} (h : u.check = 0) {w wb w' : World} {A : Option Addr} {q c : Nat} {e : Ending} (he : e = .returned (.tuple #[.slice A q c, .int .i64 0])) (hS : PutSt wb w' A q c u.bytes) (hb : Below w.heap.size w wb) : PutsU u w e w' := by
  have e0 : u.out = u.bytes := if_pos h
  have hq := hS.1
  refine ⟨A, c, by rw [he, e0, h, hq], ?_, chainU hb hS.2.2⟩
  rw [e0]
  have h2 := hS.2.1
  rw [hq] at h2
  refine ⟨h2.1, ?_⟩
  rcases h2.2 with h0 | ⟨g, cap, cur, h1, h2, h3⟩
  · exact .inl h0
  · exact .inr ⟨g, cap, cur, h1, Nat.le_trans hb.size h2, h3⟩
def headU (a : Int) (n : Nat) : List UInt8 := [UInt8.ofNat a.toNat, UInt8.ofNat n]
theorem bytes_head (u : Upd) : u.bytes = headU u.author u.preds.length ++ u.preds.flatten ++ u.op.bytes := by simp [Upd.bytes, headU]
theorem head_new (wb w1 : World) (a : Int) (n : Nat) (ha : 0 ≤ a ∧ a ≤ 255) (hn : n ≤ 255) (hb : Below wb.heap.size wb w1) : PutSt wb (w1.alloc (.cells #[.int .u8 a, .int .u8 (n : Int)] 5)) (some ⟨w1.heap.size, 0, none⟩) 2 2 (headU a n) := by
  have e1 : a = ((UInt8.ofNat a.toNat).toNat : Int) := by rw [ofNat_toNat _ (by omega)]; omega
  have e2 : (n : Int) = ((UInt8.ofNat n).toNat : Int) := by rw [ofNat_toNat _ (by omega)]
  have e3 : (#[.int .u8 a, .int .u8 (n : Int)] : Array Value) = (cells (headU a n)).toArray := by
    show _ = #[Value.int .u8 ((UInt8.ofNat a.toNat).toNat : Int), Value.int .u8 ((UInt8.ofNat n).toNat : Int)]
    rw [← e1, ← e2]
  rw [e3]
  refine ⟨rfl, ⟨rfl, .inr ⟨w1.heap.size, 2, (cells (headU a n)).toArray, rfl, hb.size, heap_alloc_new w1 _, Nat.le_refl _, by simp [maxLen], rfl, rfl⟩⟩, hb.alloc hb.size _⟩
theorem flat_take_succ (l : List Bs) (k : Nat) (h : k < l.length) : (l.take (k + 1)).flatten = (l.take k).flatten ++ l.getD k [] := by
  rw [List.take_succ_eq_append_getElem h, List.flatten_append, List.getD, List.getElem?_eq_getElem h]
  simp
theorem flat_take_le (l : List Bs) (h : ∀ x ∈ l, x.length = 32) (k : Nat) : (l.take k).flatten.length ≤ 32 * k := by
  rw [flat_length _ (fun x hx => h x (List.mem_of_mem_take hx)), List.length_take]
  omega
end
section
open Go.RowKit
theorem pread_any (B g : Nat) (st : St) (w : World) (hC : CurB B w g st) (hB : B ≤ w.heap.size) :
    Calls Tryd.prog 55 #[.pointer (some ⟨g, 0, none⟩)] w fun e w' => e = .returned (opV (readO st).2) ∧ Only w w' g := by
  obtain ⟨s1, k, h1⟩ : ∃ s1 k, stepByte st = (s1, k) := ⟨_, _, rfl⟩
  obtain ⟨s2, nm, h2⟩ : ∃ s2 nm, stepText s1 = (s2, nm) := ⟨_, _, rfl⟩
  obtain ⟨s3, tx, h3⟩ : ∃ s3 tx, stepText s2 = (s3, tx) := ⟨_, _, rfl⟩
  by_cases hk : 1 ≤ (k : Int) ∧ (k : Int) ≤ 7
  · obtain ⟨q, hq⟩ : ∃ q : Int, q = (k : Int) := ⟨_, rfl⟩
    rw [← hq] at hk
    rcases kind_cases hk with e | e | e | e | e | e | e <;> (subst e; have hk2 := hq.symm)
    · obtain rfl : k = 1 := by omega
      obtain ⟨s4, z, h4⟩ : ∃ s4 z, rdNum true s2 = (s4, z) := ⟨_, _, rfl⟩
      have e : (readO st).2 = ⟨1, nm, [], z, []⟩ := by
        unfold readO rdText
        rw [h1]
        simp only [hasName, hasText, hasN, show ((1 : Nat) : Int) = 1 from rfl]
        simp [h2, h4, rdAt]
      rw [e]
      exact (pread_1 B g w st s1 s2 s4 nm z hC hB h1 h2 h4).mono fun e w' hh => ⟨hh.1, hh.2.2⟩
    · obtain rfl : k = 2 := by omega
      have e : (readO st).2 = ⟨2, nm, tx, 0, []⟩ := by
        unfold readO rdText rdNum
        rw [h1]
        simp only [hasName, hasText, hasN, show ((2 : Nat) : Int) = 2 from rfl]
        simp [h2, h3, rdAt]
      rw [e]
      exact (pread_2 B g w st s1 s2 s3 nm tx hC hB h1 h2 h3).mono fun e w' hh => ⟨hh.1, hh.2.2⟩
    · obtain rfl : k = 3 := by omega
      have e : (readO st).2 = ⟨3, nm, tx, 0, []⟩ := by
        unfold readO rdText rdNum
        rw [h1]
        simp only [hasName, hasText, hasN, show ((3 : Nat) : Int) = 3 from rfl]
        simp [h2, h3, rdAt]
      rw [e]
      exact (pread_3 B g w st s1 s2 s3 nm tx hC hB h1 h2 h3).mono fun e w' hh => ⟨hh.1, hh.2.2⟩
    · obtain rfl : k = 4 := by omega
      have e : (readO st).2 = ⟨4, nm, tx, 0, []⟩ := by
        unfold readO rdText rdNum
        rw [h1]
        simp only [hasName, hasText, hasN, show ((4 : Nat) : Int) = 4 from rfl]
        simp [h2, h3, rdAt]
      rw [e]
      exact (pread_4 B g w st s1 s2 s3 nm tx hC hB h1 h2 h3).mono fun e w' hh => ⟨hh.1, hh.2.2⟩
    · obtain rfl : k = 5 := by omega
      obtain ⟨s4, a, h5⟩ : ∃ s4 a, rdAt5 s3 = (s4, a) := ⟨_, _, rfl⟩
      have e : (readO st).2 = ⟨5, nm, tx, 0, a⟩ := by
        unfold readO rdText rdNum
        rw [h1]
        simp only [hasName, hasText, hasN, show ((5 : Nat) : Int) = 5 from rfl]
        simp [h2, h3, rdAt, h5]
      rw [e]
      exact (pread_5 B g w st s1 s2 s3 s4 nm tx a hC hB h1 h2 h3 h5).mono fun e w' hh => ⟨hh.1, hh.2.2⟩
    · obtain rfl : k = 6 := by omega
      obtain ⟨s4, a, h5⟩ : ∃ s4 a, stepTake 32 s2 = (s4, a) := ⟨_, _, rfl⟩
      have e : (readO st).2 = ⟨6, nm, [], 0, a⟩ := by
        unfold readO rdText rdNum
        rw [h1]
        simp only [hasName, hasText, hasN, show ((6 : Nat) : Int) = 6 from rfl]
        simp [h2, rdAt, h5]
      rw [e]
      exact (pread_6 B g w st s1 s2 s4 nm a hC hB h1 h2 h5).mono fun e w' hh => ⟨hh.1, hh.2.2⟩
    · obtain rfl : k = 7 := by omega
      have e : (readO st).2 = ⟨7, [], [], 0, []⟩ := by
        unfold readO rdText rdNum
        rw [h1]
        simp only [hasName, hasText, hasN, show ((7 : Nat) : Int) = 7 from rfl]
        simp [rdAt]
      rw [e]
      exact (pread_7 B g w st s1 hC hB h1).mono fun e w' hh => ⟨hh.1, hh.2.2⟩
  · have e : (readO st).2 = ⟨(k : Int), [], [], 0, []⟩ := by
      have a1 : hasName (k : Int) = false := by unfold hasName; simp; omega
      have a2 : hasText (k : Int) = false := by unfold hasText; simp; omega
      have a3 : hasN (k : Int) = false := by unfold hasN; simp; omega
      unfold readO rdText rdNum
      rw [h1]
      simp only [a1, a2, a3]
      have b5 : ¬ (k : Int) = 5 := by omega
      have b6 : ¬ (k : Int) = 6 := by omega
      simp [rdAt, b5, b6]
    rw [e]
    exact (pread_0 B g w st s1 k hk hC hB h1).mono fun e w' hh => ⟨hh.1, hh.2.2⟩
theorem rb_takeO {w : World} {B : Nat} {A : Option Addr} {L : List UInt8} (h : RB w B A L) (k : Nat) : RB w B A (L.take k) := by
  refine ⟨by rw [cells_length]; simp, fun h0 => ?_⟩
  obtain ⟨ad, e, hb', hcc⟩ := h.2 (by rw [List.length_take] at h0; omega)
  refine ⟨ad, e, hb', fun j u hu => hcc j u ?_⟩
  rw [← cells_take, List.getElem?_take] at hu
  split at hu
  · exact hu
  · cases hu
def preB (L M : List UInt8) : Bool := decide (M.length ≤ L.length) && decide (L.take M.length = M)
theorem hasPrefix_any (L M : List UInt8) (n m : Nat) (A C : Option Addr) (c d : Nat) (w : World) (hn : n = L.length) (hm : m = M.length) (ha : RB w w.heap.size A L) (hb : RB w w.heap.size C M) (hc : n ≤ c) (hcm : c ≤ 9223372036854775807) (hl : n ≤ 1000000) (hl2 : m ≤ 1000000) :
    Calls Tryd.prog 56 #[.slice A n c, .slice C m d] w fun e w' => e = .returned (.bool (preB L M)) ∧ Below w.heap.size w w' := by
  by_cases h : m ≤ n
  · obtain ⟨bo, hbo⟩ : ∃ bo, bo = decide (L.take m = M) := ⟨_, rfl⟩
    have HE : Hid (∀ W, Below w.heap.size w W → Calls Tryd.prog 78 #[.slice A m c, .slice C m d] W fun e w' => e = .returned (.bool bo) ∧ W = w') := fun W hW => by
      have h1 := equal_any (L.take m) M A C c d w.heap.size w.heap.size W ((rb_takeO ha m).below hW) (hb.below hW)
      rw [show (L.take m).length = m by rw [List.length_take]; omega, ← hm, ← hbo] at h1
      exact h1
    have HP : Hid (preB L M = bo) := by
      show _ = _
      unfold preB
      rw [← hm, decide_eq_true (show m ≤ L.length by omega), hbo]
      rfl
    have d1 : decide ((n : Int) ≥ (m : Int)) = true := decide_eq_true (by omega)
    have d1' : decide ((m : Int) ≤ (n : Int)) = true := decide_eq_true (by omega)
    have d2 : ((m : Nat) : Int) ≤ (c : Int) := by omega
    have d3 : (0 : Int) ≤ (m : Int) := by omega
    have HB := Lib.hid (Below.refl w.heap.size w)
    clear hn hm ha hb hbo
    go_enter Tryd.func56, Tryd.ntmps56
    go_wp2_with (first
      | (go_at_call 78; (with_reducible refine (HE.out _ (by first | exact HB.out | exact HB.out.drew)).mono ?_); rintro e w1 ⟨rfl, hw⟩; have hw := Lib.hid hw))
    go_ret
    rw [HP.out]
    refine ⟨rfl, ?_⟩
    rw [← hw.out]
    first | exact HB.out | exact HB.out.drew
  · have HP : Hid (preB L M = false) := by
      show _ = _
      unfold preB
      rw [decide_eq_false (show ¬ M.length ≤ L.length by omega)]
      rfl
    have d1 : decide ((n : Int) ≥ (m : Int)) = false := decide_eq_false (by omega)
    have d1' : decide ((m : Int) ≤ (n : Int)) = false := decide_eq_false (by omega)
    clear hn hm ha hb
    go_enter Tryd.func56, Tryd.ntmps56
    go_wp2
    go_ret
    rw [HP.out]
    exact ⟨rfl, by first | exact Below.refl _ _ | exact (Below.refl _ _).drew⟩
def getE : Option (Opn × Nat) → Ending
  | some (o, k) => .returned (.tuple #[opV o, .int .i64 (k : Int), .int .i64 0])
  | none => .returned (.tuple #[opV Opn.zero, .int .i64 0, .int .i64 5])
def GivesGet (b : List UInt8) (w : World) (e : Ending) (w' : World) : Prop := (∃ r, GetsO b r ∧ e = getE r) ∧ Below w.heap.size w w'
theorem pre_begins {b : List UInt8} {o : Opn} (hM : o.May) (h : preB b o.bytes = true) : Begins b o o.bytes.length := by
  unfold preB at h
  simp only [Bool.and_eq_true, decide_eq_true_eq] at h
  exact ⟨hM, h.1, h.2⟩
theorem gets_yes {b : List UInt8} {o : Opn} (hm : o.mayB = true) (h : preB b o.bytes = true) : GetsO b (some (o, o.bytes.length)) := pre_begins ((mayB_iff o).1 hm) h
theorem gets_no {b : List UInt8} {o : Opn} (ho : o = (readO (some (b.take 96))).2) (h : o.mayB = false ∨ preB b o.bytes = false) : GetsO b none := by
  intro p k hp
  have h2 := read_begins (hp.take hp.le)
  rw [h2] at ho
  simp only at ho
  subst ho
  have hm := (mayB_iff o).2 hp.1
  rcases h with h | h
  · rw [hm] at h; cases h
  · have : preB b o.bytes = true := by
      unfold preB
      rw [← hp.size, decide_eq_true hp.2.1, decide_eq_true hp.2.2]
      rfl
    rw [this] at h
    cases h
end
end Go.Proofs.YtinphkflfdpaeaaDoor
