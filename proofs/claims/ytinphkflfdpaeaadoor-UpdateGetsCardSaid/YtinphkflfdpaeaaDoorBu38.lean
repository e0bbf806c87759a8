/- Lemmas under the proofs of this place: UpPGetM, UpRGet, OpOpen. No statement is proved here. -/
import Derived.Test.YtinphkflfdpaeaaDoorBu37
import Derived.Test.YtinphkflfdpaeaaDoorBu24
import Derived.Test.YtinphkflfdpaeaaDoorBu11
import Derived.Test.YtinphkflfdpaeaaDoorBu33
import Derived.Test.YtinphkflfdpaeaaDoorBu34
import Derived.Test.YtinphkflfdpaeaaDoorRows
import Derived.Test.YtinphkflfdpaeaaDoorBu02
import Derived.Lib.LaidTab
import Derived.LaidMore
import Derived.Stop.LaidErr
import Derived.Stop.Joined
import Derived.OpenShut
set_option linter.unusedSimpArgs false
set_option linter.unusedVariables false
set_option maxRecDepth 100000
set_option maxHeartbeats 16000000
namespace Go.Proofs.YtinphkflfdpaeaaDoor
section
open Go.RowKit
theorem byte_inv {b L : List UInt8} {x : Nat} (h : stepByte (some b) = (some L, x)) : ∃ y : UInt8, b = y :: L ∧ y.toNat = x := by
  rcases b with _ | ⟨y, b⟩
  · simp [stepByte, stepTake] at h
  · rw [byte_cons] at h
    simp only [Prod.mk.injEq, Option.some.injEq] at h
    exact ⟨y, by rw [h.1], h.2⟩
theorem takesI_inv (st : St) : ∀ (k : Nat) (L : List UInt8) (l : List Bs), takesI k st = (some L, l) → ∃ r, st = some r ∧ r = l.flatten ++ L ∧ ∀ x ∈ l, x.length = 32
  | 0, L, l, h => by
    have h : (st, ([] : List Bs)) = (some L, l) := h
    simp only [Prod.mk.injEq] at h
    obtain ⟨h1, h2⟩ := h
    subst h2
    exact ⟨L, h1, by simp, by simp⟩
  | k + 1, L, l, h => by
    have h : ((stepTake 32 (takesI k st).1).1, (takesI k st).2 ++ [(stepTake 32 (takesI k st).1).2]) = (some L, l) := h
    obtain ⟨s', l', hs⟩ : ∃ s l', takesI k st = (s, l') := ⟨_, _, rfl⟩
    rw [hs] at h
    simp only [Prod.mk.injEq] at h
    obtain ⟨h1, h2⟩ := h
    rcases s' with _ | r'
    · cases h1
    · obtain ⟨r, e1, e2, e3⟩ := takesI_inv st k r' l' hs
      simp only [stepTake] at h1 h2
      by_cases hlt : (32 : Int) < 0 ∨ (r'.length : Int) < 32
      · rw [if_pos hlt] at h1
        cases h1
      · rw [if_neg hlt] at h1 h2
        simp only [Option.some.injEq] at h1
        have e32 : (32 : Int).toNat = 32 := rfl
        rw [e32] at h1 h2
        refine ⟨r, e1, ?_, ?_⟩
        · rw [e2, ← h2, ← h1]
          simp [List.take_append_drop]
        · intro x hx
          rw [← h2, List.mem_append] at hx
          rcases hx with hx | hx
          · exact e3 x hx
          · rw [List.mem_singleton] at hx
            rw [hx, List.length_take]
            omega
theorem readU_inv {b L : List UInt8} {a : Nat} {l : List Bs} (h : readU b = (some L, a, l)) : ∃ y : UInt8, b = y :: UInt8.ofNat l.length :: (l.flatten ++ L) ∧ y.toNat = a ∧ ∀ x ∈ l, x.length = 32 := by
  unfold readU at h
  obtain ⟨s1, a', h1⟩ : ∃ s a, stepByte (some b) = (s, a) := ⟨_, _, rfl⟩
  obtain ⟨s2, m, h2⟩ : ∃ s a, stepByte s1 = (s, a) := ⟨_, _, rfl⟩
  rw [h1] at h
  simp only [h2] at h
  obtain ⟨s3, l', h3⟩ : ∃ s l', takesI m s2 = (s, l') := ⟨_, _, rfl⟩
  have hm := takesI_len m s2
  rw [h3] at h hm
  simp only [Prod.mk.injEq] at h
  obtain ⟨e1, e2, e3⟩ := h
  subst e1 e2 e3
  simp only at hm
  obtain ⟨r, e4, e5, e6⟩ := takesI_inv s2 m L l' h3
  subst e4
  rcases s1 with _ | r1
  · have : stepByte none = (none, 0) := rfl
    rw [this] at h2
    simp at h2
  · obtain ⟨y, f1, f2⟩ := byte_inv h1
    obtain ⟨z, g1, g2⟩ := byte_inv h2
    refine ⟨y, ?_, f2, e6⟩
    rw [f1, g1, e5, hm, ← g2, ofNat_byte]
theorem updBytes_of {b L : List UInt8} {a : Nat} {l : List Bs} (h : readU b = (some L, a, l)) (o : Opn) : ∃ p : List UInt8, b = p ++ L ∧ Upd.bytes ⟨(a : Int), l, o⟩ = p ++ o.bytes := by
  obtain ⟨y, e1, e2, e3⟩ := readU_inv h
  refine ⟨y :: UInt8.ofNat l.length :: l.flatten, by rw [e1]; simp, ?_⟩
  unfold Upd.bytes
  simp only [Int.toNat_natCast]
  rw [← e2, ofNat_byte]
  simp
theorem getsU_whole {b L : List UInt8} {a : Nat} {l : List Bs} {o : Opn} (h : readU b = (some L, a, l)) (hr : GetsO L (some (o, L.length))) (hc : Upd.check ⟨(a : Int), l, o⟩ = 0) : GetsU b (some ⟨(a : Int), l, o⟩) := by
  obtain ⟨p, e1, e2⟩ := updBytes_of h o
  refine getsU_yes hc ?_
  have h3 := hr.2.2
  rw [List.take_length] at h3
  rw [e2, ← h3, e1]
theorem getsU_part {b L : List UInt8} {a k : Nat} {l : List Bs} {o : Opn} (h : readU b = (some L, a, l)) (hr : GetsO L (some (o, k))) (hk : k ≠ L.length) : GetsU b none := by
  obtain ⟨p, e1, e2⟩ := updBytes_of h o
  refine getsU_no h hr (.inr fun e => hk ?_)
  rw [e2, e1] at e
  rw [List.append_cancel_left e.symm]
  exact Begins.size hr
def restU : St → List UInt8
  | none => []
  | some L => L
theorem getsO_nil {r : Option (Opn × Nat)} (h : GetsO [] r) : r = none := by
  rcases r with _ | ⟨o, k⟩
  · rfl
  · have h3 : ([] : List UInt8).take k = o.bytes := h.2.2
    simp [Opn.bytes] at h3
theorem rest_take (st : St) : (stepTake ((leftN st : Nat) : Int) st).2 = restU st := by
  rcases st with _ | L
  · rfl
  · show (if _ then _ else _ : St × List UInt8).2 = L
    rw [if_neg (by show ¬ (((L.length : Nat) : Int) < 0 ∨ (L.length : Int) < ((L.length : Nat) : Int)); omega)]
    simp [leftN]
theorem getP_upd {b : List UInt8} {st : St} {a : Nat} {l : List Bs} (hD : readU b = (st, a, l)) {r : Option (Opn × Nat)} (hr : GetsO (restU st) r) :
    ∃ (o : Opn) (s y : Int), getE r = .returned (.tuple #[opV o, .int .i64 s, .int .i64 y]) ∧ (o.name.length ≤ 1000000 ∧ o.text.length ≤ 1000000) ∧ (y ≠ 0 → GetsU b none) ∧ (y = 0 → s ≠ ((restU st).length : Int) → GetsU b none) ∧ (y = 0 → s = ((restU st).length : Int) → (Upd.check ⟨(a : Int), l, o⟩ ≠ 0 → GetsU b none) ∧ (Upd.check ⟨(a : Int), l, o⟩ = 0 → GetsU b (some ⟨(a : Int), l, o⟩))) := by
  rcases st with _ | L
  · rw [getsO_nil hr]
    exact ⟨Opn.zero, 0, 5, rfl, ⟨by show 0 ≤ 1000000; omega, by show 0 ≤ 1000000; omega⟩, fun _ => getsU_bad hD, fun h => absurd h (by decide), fun h => absurd h (by decide)⟩
  · rcases r with _ | ⟨o, k⟩
    · exact ⟨Opn.zero, 0, 5, rfl, ⟨by show 0 ≤ 1000000; omega, by show 0 ≤ 1000000; omega⟩, fun _ => getsU_op hD hr, fun h => absurd h (by decide), fun h => absurd h (by decide)⟩
    · have hr' : GetsO L (some (o, k)) := hr
      have hM : o.May := hr.1
      have hlen : o.name.length ≤ 1000000 ∧ o.text.length ≤ 1000000 := by
        obtain ⟨k', nm, tx, z, x⟩ := o
        obtain ⟨l1, l2, _, _⟩ := may_parts hM
        exact ⟨Nat.le_trans l1 (by omega), Nat.le_trans l2 (by omega)⟩
      refine ⟨o, k, 0, rfl, hlen, fun h => absurd rfl h, fun _ h => getsU_part hD hr' (fun e => h (by show (k : Int) = (L.length : Int); omega)), fun _ h => ?_⟩
      have hk : k = L.length := by
        have h : (k : Int) = (L.length : Int) := h
        omega
      subst hk
      exact ⟨fun h2 => getsU_no hD hr' (.inl h2), fun h2 => getsU_whole hD hr' h2⟩
theorem curb_only {B g k : Nat} {w w' : World} {st : St} (h : CurB B w g st) (ho : Only w w' k) (hg : g ≠ k) (hk : B ≤ k) (hB : B ≤ w.heap.size) : CurB B w' g st :=
  h.keep (ho.block g h.lt (by simp; omega)) fun p hp => World.cell?_of_block (ho.block p.block (by omega) (by simp; omega))
theorem srow_only {w w' : World} {base g n : Nat} {e : TypeId} {size : Nat} {v : Value} {xs : List Value} (h : w.ownsRow base e size v n xs) (ho : Only w w' g) (hg : g < base) : w'.ownsRow base e size v n xs := by
  refine h.kept ho ?_
  cases hv : v.ownBlock with
  | none => exact .inl rfl
  | some k => exact .inr (fun e => by have := (h.lt k hv).1; simp only [Option.some.injEq] at e; omega)
theorem clo_any (B g C : Nat) (st : St) (w : World) (hc : CurB B w g st) (hB : B ≤ w.heap.size) (hC : w.cell? ⟨C, 0, none⟩ = some (.pointer (some ⟨g, 0, none⟩))) :
    Calls Tryd.prog 25 #[.pointer (some ⟨C, 0, none⟩)] w fun e w' => e = .returned (.string (text (stepTake 32 st).2)) ∧ CurB B w' g (stepTake 32 st).1 ∧ Only w w' g := by
  have HT := Lib.hid (take_at B g 32 st w hc hB)
  obtain ⟨s2, l, hr⟩ : ∃ s l, stepTake 32 st = (s, l) := ⟨_, _, rfl⟩
  rw [hr] at HT ⊢
  obtain ⟨n, hn⟩ : ∃ n, n = l.length := ⟨_, rfl⟩
  have HN := Lib.hid hn
  have HG : Hid (∀ {e : Ending} {w' : World}, GivesAt B g (s2, l) w e w' → ∃ A c, e = .returned (.slice A n c) ∧ Hid (RB w' w'.heap.size A l) ∧ Hid (CurB B w' g s2) ∧ Hid (Only w w' g)) := fun h => by
    obtain ⟨A, c, h1, h2, h3, h4, h5⟩ := h
    exact ⟨A, c, by rw [hn]; exact h1, h2, h4, h5⟩
  have HT2 : Hid (Calls Tryd.prog 26 #[.pointer (some ⟨g, 0, none⟩), .int .i64 32] w fun e w' => ∃ A c, e = .returned (.slice A n c) ∧ Hid (RB w' w'.heap.size A l) ∧ Hid (CurB B w' g s2) ∧ Hid (Only w w' g)) := HT.out.mono fun e w' hh => HG.out hh
  obtain ⟨t, ht⟩ : ∃ t, t = text l := ⟨_, rfl⟩
  simp only []
  rw [← ht]
  have HTx := Lib.hid ht
  clear hn ht HT HG hr hc hB
  go_enter Tryd.func25, Tryd.ntmps25
  go_wp2_with (go_at_call 26; (with_reducible refine HT2.out.mono ?_); rintro e w1 ⟨A, c, rfl, r1, c1, o1⟩; have est := aw_str r1.out n c HN.out; rw [show ({ data := l.toArray } : ByteArray) = t from HTx.out.symm] at est)
  go_ret
  exact ⟨rfl, c1.out, o1.out⟩
theorem taken_any (m B g C : Nat) (st : St) (w : World) (hm : m ≤ 255) (hc : CurB B w g st) (hB : B ≤ w.heap.size) (hC : Blk w C 45 #[.pointer (some ⟨g, 0, none⟩)]) (hgC : C ≠ g) :
    Calls Tryd.prog 24 #[.int .i64 (m : Int), .func (.func 25) #[] #[.pointer (some ⟨C, 0, none⟩)]] w fun e w' => ∃ X cc, e = .returned (.slice X m cc) ∧ Hid (w'.ownsRow w.heap.size 9 1 (.slice X m cc) m (scells (takesI m st).2)) ∧ Hid (CurB B w' g (takesI m st).1) ∧ Hid (Only w w' g) := by
  have hgl := hc.lt
  have HCl : Hid (∀ (s s' : St) (x : Bs) (W : World), CurB B W g s → Only w W g → stepTake 32 s = (s', x) → Calls Tryd.prog 25 #[.pointer (some ⟨C, 0, none⟩)] W fun e w' => e = .returned (.string (text x)) ∧ Hid (CurB B w' g s') ∧ Hid (Only W w' g)) := fun s s' x W h1 h2 h3 => by
    have h := clo_any B g C s W h1 (Nat.le_trans hB h2.size) ((hC.only h2 hgC).cell 0)
    rw [h3] at h
    exact h
  have hc0 := Lib.hid hc
  have hBw := Lib.hid hB
  clear hc hC hB
  go_enter Tryd.func24, Tryd.ntmps24
  go_wp2
  go_loopw [5, 7] (fun v i wr => ∃ (j : Nat) (X : Option Addr) (cc : Nat), j ≤ m ∧ v = .slice X j cc ∧ i = .int .i64 (j : Int) ∧ Hid (wr.ownsRow w.heap.size 9 1 (.slice X j cc) j (scells (takesI j st).2)) ∧ Hid (CurB B wr g (takesI j st).1) ∧ Hid (Only w wr g)) (fun _ i _ => m - (intOf i).toNat)
  case atStart => exact ⟨0, none, 0, Nat.zero_le _, rfl, rfl, ⟨rfl, .inl ⟨rfl, rfl⟩⟩, hc0.out, only_refl _ _⟩
  case round =>
    obtain ⟨j, X, cc, hj, rfl, rfl, HO, HCu, HOn⟩ := hrel
    by_cases hlt : j < m
    · have d0 : decide ((j : Int) < (m : Int)) = true := decide_eq_true (by omega)
      obtain ⟨st', x, hx⟩ : ∃ s y, stepTake 32 (takesI j st).1 = (s, y) := ⟨_, _, rfl⟩
      have HN1 : Hid (takesI (j + 1) st = (st', (takesI j st).2 ++ [x])) := by
        show ((stepTake 32 (takesI j st).1).1, (takesI j st).2 ++ [(stepTake 32 (takesI j st).1).2]) = _
        rw [hx]
      have HX := Lib.hid hx
      clear hx
      obtain ⟨s0, hs0⟩ : ∃ s, s = (takesI j st).1 := ⟨_, rfl⟩
      obtain ⟨l, hl⟩ : ∃ s, s = (takesI j st).2 := ⟨_, rfl⟩
      rw [← hs0] at HCu HX
      rw [← hl] at HO HN1
      clear hs0 hl hc0
      have HC5 := Lib.hid (HCl.out s0 st' x wr HCu.out HOn.out HX.out)
      obtain ⟨tx, htx⟩ : ∃ t, t = text x := ⟨_, rfl⟩
      rw [← htx] at HC5
      have HTX := Lib.hid htx
      clear htx HCl
      go_wp2_with (first
        | (go_at_call 25; (with_reducible refine HC5.out.mono ?_); rintro e w5 ⟨rfl, c5, o5⟩; have HO5 := Lib.hid (srow_only HO.out o5.out hgl); have z5 := Nat.le_trans HOn.out.size o5.out.size)
        | (at_builtin; refine append_sone rfl (.tmp 9) (.tmp 12) rfl rfl HO5.out HTX.out rfl (by omega) z5 ?_; intro X7 cc7 w7 ho7 hb7))
      go_roundw
      case rel =>
        refine ⟨j + 1, X7, cc7, by omega, rfl, by go_num, by rw [HN1.out]; exact ho7.out, ?_, ?_⟩
        · show CurB _ _ _ _
          rw [HN1.out]
          exact c5.out.keep (hb7.out.block g hgl) fun p hp => hb7.out.cell (Nat.lt_of_lt_of_le hp hBw.out)
        · show Only _ _ _
          have hoo := only_trans HOn.out o5.out
          exact ⟨hb7.out.os.trans hoo.os, hb7.out.tape.trans hoo.tape, hb7.out.output.trans hoo.output, Nat.le_trans hoo.size hb7.out.size, fun i hi hn => (hb7.out.block i hi).trans (hoo.block i hi hn)⟩
      case measure => simp [intOf]; omega
    · have hjm : j = m := by omega
      have d0 : decide ((j : Int) < (m : Int)) = false := decide_eq_false (by omega)
      subst hjm
      go_wp2
      go_ret
      exact ⟨X, cc, rfl, HO, HCu, HOn⟩
end
section
open Go.RowKit
theorem ruget_long (b : List UInt8) (n : Nat) (A : Option Addr) (c : Nat) (w : World) (hn : n = b.length) (hl : 384 < n) :
    Calls Tryd.prog 16 #[.slice A n c] w (GivesGetU b w) := by
  have HR := Lib.hid (Blk.new w 26 #[.int .i64 0, .slice none 0 0, .int .i64 0, .string { data := #[] }, .string { data := #[] }, .int .i64 0, .string { data := #[] }])
  have HB0 := Lib.hid (show Below w.heap.size w (w.alloc (.cells #[.int .i64 0, .slice none 0 0, .int .i64 0, .string { data := #[] }, .string { data := #[] }, .int .i64 0, .string { data := #[] }] 26)) from (Below.refl _ _).alloc (Nat.le_refl _) _)
  have HE : Hid ((3 : Int) = errGU b none) := by
    show _ = _
    unfold errGU
    rw [if_pos (by omega)]
  have HG := Lib.hid (getsU_long (b := b) (by omega))
  clear hn
  obtain ⟨kl, k0, k1, k2, k3, k4, k5, k6, kf⟩ := updC_of HR.out
  have nb := fun w' => Tryd.updZero w'
  have a26 := fun w' => Tryd.updAgg w'
  have s26 := fun w' => Tryd.updSize w'
  have d0 : decide ((384 : Int) < (n : Int)) = true := decide_eq_true (by omega)
  have d1 : decide ((n : Int) > 384) = true := decide_eq_true (by omega)
  go_enter Tryd.func16, Tryd.ntmps16
  go_wp2_with (fail)
  refine bodyPost_ret (v := .tuple #[.agg #[.int .i64 0, .slice none 0 0, .int .i64 0, .string { data := #[] }, .string { data := #[] }, .int .i64 0, .string { data := #[] }], .int .i64 3]) (by simp [results, Tryd.results16, go_sem, k0, k1, k2, k3, k4, k5, k6]) rfl ?_
  exact getU_none HG.out HE.out rfl HB0.out
theorem bslice_back (A : Option Addr) (n c k : Nat) (W : World) (hk : k ≤ n) : (Instr.sliceAt 29 (.slice A n c) (some (.int .i64 (k : Int))) none none).run Tryd.prog W = .ok (.slice (if c = k then A else A.map (fun x => x.add (k * 1))) (n - k) (c - k)) W := by
  have hu : Tryd.prog.underlying 29 = some (.slice (Tryd.prog.elem 29)) := by kernel_rfl
  have he : Tryd.prog.elem 29 = 5 := by kernel_rfl
  have hs : (sizeOf 5).run Tryd.prog W = .ok 1 W := by kernel_rfl
  have e : (k : Int).toNat = k := by omega
  rw [run_sliceAt_slice _ _ _ _ _ _ hu, run_slice_l _ _ _ _ _ hu .i64 (k : Int) (by omega) (by omega), he, hs]
  simp only [Result.andThen_ok, e, sliced]
theorem ruget_short (b : List UInt8) (n : Nat) (A : Option Addr) (c : Nat) (w : World) (hn : n = b.length) (hr : RB w w.heap.size A b) (hc : n ≤ c) (hcm : c ≤ 9223372036854775807) (hl : n ≤ 384) :
    Calls Tryd.prog 16 #[.slice A n c] w (GivesGetU b w) := by
  obtain ⟨s1, a, h1⟩ : ∃ s a, stepByte (some b) = (s, a) := ⟨_, _, rfl⟩
  obtain ⟨s2, m, h2⟩ : ∃ s a, stepByte s1 = (s, a) := ⟨_, _, rfl⟩
  have hm : m ≤ 255 := by
    have := stepByte_le s1
    rw [h2] at this
    exact this
  have hRead : readU b = ((takesI m s2).1, a, (takesI m s2).2) := by
    unfold readU
    rw [h1]
    simp only []
    rw [h2]
  have hcn : b.length ≤ c := by omega
  have hbl : b.length ≤ 1048576 := by omega
  have HD := Lib.hid hRead
  have HNn := Lib.hid hn
  have HA := Lib.hid hr
  have hv0 : Hid (RefV A b c (.agg #[.slice A n c, .int .i64 0, .bool false]) (some b)) := ⟨0, by rw [hn]; rfl, Nat.zero_le _, rfl⟩
  have HFr : Hid (∀ W, Calls Tryd.prog 35 #[.slice A n c] W fun e w' => e = .returned (.agg #[.slice A n c, .int .i64 0, .bool false]) ∧ Below W.heap.size W w') := fun W => refFrom_any A n c W
  have HBy : Hid (∀ (st st' : St) (x : Nat) W v, RefV A b c v st → Below w.heap.size w W → stepByte st = (st', x) → Calls Tryd.prog 34 #[v] W (TkN A b c x st' W)) := fun st st' x W v hv hb he => (refByte_any A b c w.heap.size v st W hv (hr.below hb) hb.size hcn hbl).mono fun e w' hh => tkN_of hh he
  have HTk : Hid (∀ (st st' : St) (l : List UInt8) (m : Nat) W v, RefV A b c v st → Below w.heap.size w W → stepTake 32 st = (st', l) → m = l.length → Calls Tryd.prog 36 #[v, .int .i64 32] W (TkB A b c w.heap.size m l st' W)) := fun st st' l m W v hv hb he hm => (refTake_any A b c w.heap.size v 32 st W hv (hr.below hb) hb.size hcn hbl).mono fun e w' hh => tkB_of hh he hm
  have HLf : Hid (∀ W v st, RefV A b c v st → Calls Tryd.prog 38 #[v] W fun e w' => e = .returned (.int .i64 (leftN st : Int)) ∧ Below W.heap.size W w') := fun W v st hv => refLeft_any A b c v st W hv hbl
  have HGt : Hid (∀ (L : List UInt8) (q d : Nat) (C : Option Addr) (W : World), q = L.length → RB W W.heap.size C L → q ≤ d → d ≤ 9223372036854775807 → q ≤ 384 → Calls Tryd.prog 37 #[.slice C q d] W (GivesGet L W)) := fun L q d C W h1 h2 h3 h4 h5 => rget14_any L q C d W h1 h2 h3 h4 (by omega)
  have HP : Hid (∀ (u : Upd) (X : Option Addr) (cc : Nat) (W : World), SS W W.heap.size X u.preds → u.preds.length ≤ 1000000 → u.op.name.length ≤ 1000000 → Calls Tryd.prog 9 #[updV u X cc] W (PutsU u W)) := fun u X cc W h1 h2 h3 => ruput_any u X cc _ W h1 (Nat.le_refl _) h2 h3
  have G1 := Lib.hid h1
  have G2 := Lib.hid h2
  have HR := Lib.hid (Blk.new w 26 #[.int .i64 0, .slice none 0 0, .int .i64 0, .string { data := #[] }, .string { data := #[] }, .int .i64 0, .string { data := #[] }])
  have HB0 := Lib.hid (show Below w.heap.size w (w.alloc (.cells #[.int .i64 0, .slice none 0 0, .int .i64 0, .string { data := #[] }, .string { data := #[] }, .int .i64 0, .string { data := #[] }] 26)) from (Below.refl _ _).alloc (Nat.le_refl _) _)
  clear h1 h2 hRead hn hr
  have nb := fun w' => Tryd.updZero w'
  have na := fun a w' => Tryd.updAuth a w'
  have a26 := fun w' => Tryd.updAgg w'
  have s26 := fun w' => Tryd.updSize w'
  have a23 := fun w' => Tryd.opAgg w'
  have s23 := fun w' => Tryd.opSize w'
  have d0 : decide ((384 : Int) < (n : Int)) = false := decide_eq_false (by omega)
  have d1 : decide ((n : Int) > 384) = false := decide_eq_false (by omega)
  go_enter Tryd.func16, Tryd.ntmps16
  go_upto_region 4 with (first
    | (go_at_call 34; (with_reducible refine (HBy.out (some b) s1 a _ _ hv0.out C1.out G1.out).mono ?_); rintro e w2 ⟨Y, ny, my, qy, bo, rfl, hv2, hb2⟩)
    | (go_at_call 35; (with_reducible refine (HFr.out _).mono ?_); rintro e w1 ⟨rfl, hb1⟩; have C1 := Lib.hid (HB0.out.trans (hb1.mono HB0.out.size)); have R1 := Lib.hid (HR.out.below hb1 HR.out.lt); have z1 : w.heap.size < w1.heap.size := Nat.lt_of_lt_of_le (by simp) hb1.size))
  have z2 : w.heap.size < w2.heap.size := Nat.lt_of_lt_of_le z1 hb2.out.size
  have hC2 := C1.out.trans (hb2.out.mono (Nat.le_of_lt z1))
  have C2 := Lib.hid (hC2.alloc hC2.size (.cells #[.slice Y ny my, .int .i64 (qy : Int), .bool bo] 57))
  have R2 := Lib.hid ((R1.out.below hb2.out z1).alloc (.cells #[.slice Y ny my, .int .i64 (qy : Int), .bool bo] 57))
  have K2 := Lib.hid (Blk.new w2 57 #[.slice Y ny my, .int .i64 (qy : Int), .bool bo])
  obtain ⟨C, hC⟩ : ∃ x, x = w2.heap.size := ⟨_, rfl⟩
  obtain ⟨wc, hwc⟩ : ∃ x, x = w2.alloc (.cells #[.slice Y ny my, .int .i64 (qy : Int), .bool bo] 57) := ⟨_, rfl⟩
  rw [← hC] at K2 z2 ⊢
  rw [← hwc] at C2 R2 K2 ⊢
  clear hC hwc hC2 C1 R1 z1 hb1 hb2 HR HB0 HFr hv0
  have x0 := K2.out.cell 0
  have x1 := K2.out.cell 1
  have x2 := K2.out.cell 2
  have xf := K2.out.frozen
  have xl := K2.out.lt
  go_upto_region 5 with (first
    | (go_at_call 34; (with_reducible refine (HBy.out s1 s2 m _ _ hv2.out C2.out G2.out).mono ?_); rintro e w3 ⟨Y3, n3, m3, q3, b3, rfl, hv3, hb3⟩; have K3 := Lib.hid (K2.out.below hb3.out K2.out.lt); have C3 := Lib.hid (C2.out.trans (hb3.out.mono C2.out.size)); have R3 := Lib.hid (R2.out.below hb3.out R2.out.lt); clear x0 x1 x2 xf xl; have x0 := K3.out.cell 0; have x1 := K3.out.cell 1; have x2 := K3.out.cell 2; have xf := K3.out.frozen; have xl := K3.out.lt))
  have hrC : w.heap.size ≠ C := by omega
  have K4 : Hid (Blk (((w3.setCell ⟨C, 0, none⟩ (.slice Y3 n3 m3)).setCell ⟨C, 1, none⟩ (.int .i64 (q3 : Int))).setCell ⟨C, 2, none⟩ (.bool b3)) C 57 #[.slice Y3 n3 m3, .int .i64 (q3 : Int), .bool b3]) := by
    have K := ((K3.out.set_ 0 (.slice Y3 n3 m3)).set_ 1 (.int .i64 (q3 : Int))).set_ 2 (.bool b3)
    exact K
  have C4 := Lib.hid (below_at (below_at (below_at C3.out z2 0 (.slice Y3 n3 m3)) z2 1 (.int .i64 (q3 : Int))) z2 2 (.bool b3))
  have R4 := Lib.hid (Blk.far (p := ⟨C, 2, none⟩) (Blk.far (p := ⟨C, 1, none⟩) (Blk.far (p := ⟨C, 0, none⟩) R3.out hrC (.slice Y3 n3 m3)) hrC (.int .i64 (q3 : Int))) hrC (.bool b3))
  obtain ⟨w4, hw4⟩ : ∃ x, x = ((w3.setCell ⟨C, 0, none⟩ (.slice Y3 n3 m3)).setCell ⟨C, 1, none⟩ (.int .i64 (q3 : Int))).setCell ⟨C, 2, none⟩ (.bool b3) := ⟨_, rfl⟩
  rw [← hw4] at K4 C4 R4 ⊢
  clear hw4 x0 x1 x2 xf xl K2 C2 R2 K3 C3 R3 hb3 hv2
  go_upto_region 6 with (fail)
  have hS : Hid (UgS w (w4.alloc (.cells #[.int .i64 (a : Int), .slice none 0 0, .int .i64 0, .string { data := #[] }, .string { data := #[] }, .int .i64 0, .string { data := #[] }] 26)) A b c C w4.heap.size s2 (a : Int) none 0 0 []) :=
    ⟨⟨Y3, n3, m3, q3, b3, hv3.out, K4.out.alloc _⟩, Blk.new _ _ _, ⟨rfl, .inl ⟨rfl, rfl⟩⟩, R4.out.alloc _, C4.out.alloc C4.out.size _, z2, K4.out.lt⟩
  obtain ⟨P, hP⟩ : ∃ x, x = w4.heap.size := ⟨_, rfl⟩
  obtain ⟨wp, hwp⟩ : ∃ x, x = w4.alloc (.cells #[.int .i64 (a : Int), .slice none 0 0, .int .i64 0, .string { data := #[] }, .string { data := #[] }, .int .i64 0, .string { data := #[] }] 26) := ⟨_, rfl⟩
  rw [← hwp, ← hP] at hS ⊢
  clear hwp hP K4 C4 R4 hv3
  go_upto_region 7 with (fail)
  go_loopw [8] (fun i wr => ∃ (j : Nat) (X : Option Addr) (cc : Nat), j ≤ m ∧ i = .int .i64 (j : Int) ∧ Hid (UgS w wr A b c C P (takesI j s2).1 (a : Int) X j cc (takesI j s2).2)) (fun i _ => m - (intOf i).toNat)
  case atStart => exact ⟨0, none, 0, Nat.zero_le _, rfl, hS.out⟩
  case round =>
    obtain ⟨j, X, cc, hj, rfl, hT⟩ := hrel
    clear hS
    by_cases hlt : j < m
    · have d2 : decide ((j : Int) < (m : Int)) = true := decide_eq_true (by omega)
      obtain ⟨st', x, hx⟩ : ∃ s y, stepTake 32 (takesI j s2).1 = (s, y) := ⟨_, _, rfl⟩
      have hnext : takesI (j + 1) s2 = (st', (takesI j s2).2 ++ [x]) := by
        show ((stepTake 32 (takesI j s2).1).1, (takesI j s2).2 ++ [(stepTake 32 (takesI j s2).1).2]) = _
        rw [hx]
      have HN1 := Lib.hid hnext
      have HX := Lib.hid hx
      obtain ⟨lm, hlm⟩ : ∃ y, y = x.length := ⟨_, rfl⟩
      have HLM := Lib.hid hlm
      clear hnext hx hlm
      obtain ⟨st, hst⟩ : ∃ s, s = (takesI j s2).1 := ⟨_, rfl⟩
      obtain ⟨l, hll⟩ : ∃ s, s = (takesI j s2).2 := ⟨_, rfl⟩
      rw [← hst, ← hll] at hT
      rw [← hll] at HN1
      rw [← hst] at HX
      clear hst hll
      obtain ⟨Y0, n0, m0, q0, b0, hv, hCc⟩ := hT.out.cells
      obtain ⟨⟨⟨pl, p0, p1, p2, p3, p4, p5, p6, pf⟩, rl, r0, r1, r2, r3, r4, r5, r6, rf⟩, cl, x0, x1, x2, xf⟩ := id hCc
      go_upto_region 11 with (first
        | (go_at_call 36; (with_reducible refine (HTk.out st st' x lm _ _ hv hT.out.below HX.out HLM.out).mono ?_); rintro e w5 ⟨Y5, n5, m5, q5, b5, A5, c5, rfl, hv5, hr5, hb5⟩; have hT5 := Lib.hid ((hT.out.up hb5.out).up ((Below.refl _ _).alloc (Nat.le_refl _) (.cells #[.slice Y5 n5 m5, .int .i64 (q5 : Int), .bool b5] 57))); clear pl p0 p1 p2 p3 p4 p5 p6 pf rl r0 r1 r2 r3 r4 r5 r6 rf cl x0 x1 x2 xf hCc hv; obtain ⟨Y0, n0, m0, q0, b0, hv, hCc⟩ := hT5.out.cells; obtain ⟨⟨⟨pl, p0, p1, p2, p3, p4, p5, p6, pf⟩, rl, r0, r1, r2, r3, r4, r5, r6, rf⟩, cl, x0, x1, x2, xf⟩ := id hCc))
      have hT6 := Lib.hid (hT5.out.setc hv5.out)
      have hr6 := Lib.hid (RB.below hr5.out (below3 ((Below.refl w.heap.size w5).alloc (Nat.le_trans hT.out.below.size hb5.out.size) (.cells #[.slice Y5 n5 m5, .int .i64 (q5 : Int), .bool b5] 57)) (Nat.le_of_lt hT.out.cw) (.slice Y5 n5 m5) (.int .i64 (q5 : Int)) (.bool b5)))
      obtain ⟨w6, hw6⟩ : ∃ x, x = (((w5.alloc (.cells #[.slice Y5 n5 m5, .int .i64 (q5 : Int), .bool b5] 57)).setCell ⟨C, 0, none⟩ (.slice Y5 n5 m5)).setCell ⟨C, 1, none⟩ (.int .i64 (q5 : Int))).setCell ⟨C, 2, none⟩ (.bool b5) := ⟨_, rfl⟩
      rw [← hw6] at hT6 hr6 ⊢
      clear pl p0 p1 p2 p3 p4 p5 p6 pf rl r0 r1 r2 r3 r4 r5 r6 rf cl x0 x1 x2 xf hCc hv hT5 hT hw6 hv5 hb5 hr5
      obtain ⟨tx, htx⟩ : ∃ t, t = text x := ⟨_, rfl⟩
      have est := aw_str (RB.more hr6.out hT6.out.below.size) lm c5 HLM.out
      rw [show ({ data := x.toArray } : ByteArray) = tx from htx.symm] at est
      have HTX := Lib.hid htx
      clear htx
      obtain ⟨Y0, n0, m0, q0, b0, hv, hCc⟩ := hT6.out.cells
      obtain ⟨⟨⟨pl, p0, p1, p2, p3, p4, p5, p6, pf⟩, rl, r0, r1, r2, r3, r4, r5, r6, rf⟩, cl, x0, x1, x2, xf⟩ := id hCc
      go_wp2_with (at_builtin; refine append_sone rfl (.tmp 45) (.tmp 48) rfl rfl hT6.out.row HTX.out rfl (by omega) hT6.out.pl ?_; intro X7 cc7 w7 ho7 hb7; clear pl p0 p1 p2 p3 p4 p5 p6 pf rl r0 r1 r2 r3 r4 r5 r6 rf cl x0 x1 x2 xf hCc hv est; obtain ⟨pl, p0, p1, p2, p3, p4, p5, p6, pf⟩ := updC_of (hT6.out.var.below hb7.out (Nat.lt_succ_self _)))
      go_roundw
      case rel => exact ⟨j + 1, X7, cc7, by omega, by go_num, by rw [HN1.out]; exact hT6.out.grow ho7.out hb7.out⟩
      case measure => simp [intOf]; omega
    · have hjm : j = m := by omega
      have d2 : decide ((j : Int) < (m : Int)) = false := decide_eq_false (by omega)
      subst hjm
      have HE5 : Hid ((5 : Int) = errGU b none) := by
        show _ = _
        unfold errGU
        rw [if_neg (by have := HNn.out; omega), if_neg (by simp)]
      have hlen := takesI_len j s2
      obtain ⟨st, hst⟩ : ∃ s, s = (takesI j s2).1 := ⟨_, rfl⟩
      obtain ⟨l, hll⟩ : ∃ s, s = (takesI j s2).2 := ⟨_, rfl⟩
      rw [← hst, ← hll] at HD hT
      rw [← hll] at hlen
      have HJ := Lib.hid hlen
      clear hst hll HBy HTk G1 G2 hlen
      obtain ⟨Y0, n0, m0, q0, b0, hv, hCc⟩ := hT.out.cells
      have hb0 := refv_boolO hv
      obtain ⟨⟨⟨pl, p0, p1, p2, p3, p4, p5, p6, pf⟩, rl, r0, r1, r2, r3, r4, r5, r6, rf⟩, cl, x0, x1, x2, xf⟩ := id hCc
      rcases st with _ | L
      · have hb1 : b0 = true := hb0
        subst hb1
        have HG := Lib.hid (getsU_bad HD.out)
        clear hb0 hv hCc HLf HGt HP
        go_wp2_with (fail)
        obtain ⟨E, hE⟩ : ∃ E, E = ((((((wr.setCell ⟨w.heap.size, 0, none⟩ (.int .i64 0)).setCell ⟨w.heap.size, 1, none⟩ (.slice none 0 0)).setCell ⟨w.heap.size, 2, none⟩ (.int .i64 0)).setCell ⟨w.heap.size, 3, none⟩ (.string { data := #[] })).setCell ⟨w.heap.size, 4, none⟩ (.string { data := #[] })).setCell ⟨w.heap.size, 5, none⟩ (.int .i64 0)).setCell ⟨w.heap.size, 6, none⟩ (.string { data := #[] }) := ⟨_, rfl⟩
        obtain ⟨⟨y0, y1, y2, y3, y4, y5, y6⟩, hbE⟩ := upd_end hT.out.below hT.out.res (Nat.le_refl _) hE
        (try rw [← hE])
        refine bodyPost_ret (v := .tuple #[.agg #[.int .i64 0, .slice none 0 0, .int .i64 0, .string { data := #[] }, .string { data := #[] }, .int .i64 0, .string { data := #[] }], .int .i64 5]) (by simp [results, Tryd.results16, go_sem, y0, y1, y2, y3, y4, y5, y6]) rfl ?_
        exact getU_none (HG.out) HE5.out rfl hbE
      · have hb1 : b0 = false := hb0
        subst hb1
        obtain ⟨k0, hk0, hk1, hk2⟩ := id hv
        have HLL : Hid (leftN (some L) = n - k0) := by
          show L.length = n - k0
          rw [hk2, List.length_drop, HNn.out]
        have hk3 : k0 ≤ n := by rw [HNn.out]; exact hk1
        have hq9 : n - k0 = L.length := by rw [hk2, List.length_drop, HNn.out]
        have HL2 := Lib.hid (fun W => HLf.out W _ _ hv)
        rw [HLL.out] at HL2
        obtain ⟨A9, hA9⟩ : ∃ x, x = (if c = k0 then A else A.map (fun x => x.add (k0 * 1))) := ⟨_, rfl⟩
        have HR9 : Hid (∀ W, Below w.heap.size w W → RB W w.heap.size A9 L) := fun W hW => by
          have h := rb_cut (HA.out.below hW) hk1 hcn
          rw [hA9, hk2]
          exact h
        have bs : ∀ W, (Instr.sliceAt 29 (.slice A n c) (some (.int .i64 (k0 : Int))) none none).run Tryd.prog W = .ok (.slice A9 (n - k0) (c - k0)) W := fun W => by rw [hA9]; exact bslice_back A n c k0 W hk3
        obtain ⟨q9, hq9'⟩ : ∃ x, x = n - k0 := ⟨_, rfl⟩
        obtain ⟨c9, hc9⟩ : ∃ x, x = c - k0 := ⟨_, rfl⟩
        have ei : IntKind.i64.wrap ((n : Int) - (q9 : Int)) = (k0 : Int) := by rw [IntWalk.i64_in _ (by omega)]; omega
        rw [← hq9', ← hc9] at bs
        rw [← hq9'] at HL2 hq9
        have HG14 : Hid (∀ W, Below w.heap.size w W → Calls Tryd.prog 37 #[.slice A9 q9 c9] W fun e w' => ∃ (o : Opn) (k : Int) (t1 t2 : ByteArray) (z : Int) (t3 : ByteArray) (s y : Int), e = .returned (.tuple #[.agg #[.int .i64 k, .string t1, .string t2, .int .i64 z, .string t3], .int .i64 s, .int .i64 y]) ∧ Hid (∀ (X : Option Addr) (cc : Nat), updV ⟨(a : Int), l, o⟩ X cc = .agg #[.int .i64 (a : Int), .slice X l.length cc, .int .i64 k, .string t1, .string t2, .int .i64 z, .string t3]) ∧ Hid (o.name.length ≤ 1000000) ∧ Hid (y ≠ 0 → GetsU b none) ∧ Hid (y = 0 → (Upd.check ⟨(a : Int), l, o⟩ ≠ 0 ∨ Upd.bytes ⟨(a : Int), l, o⟩ ≠ b) → GetsU b none) ∧ Hid (Below W.heap.size W w')) := fun W hW => by
          refine (HGt.out L q9 c9 A9 W hq9 ((HR9.out W hW).more hW.size) (by omega) (by omega) (by omega)).mono fun e w' hh => ?_
          obtain ⟨⟨r, hr1, hr2⟩, hr3⟩ := hh
          obtain ⟨o, s, y, e1, e2, e3, e4⟩ := getE_upd HD.out hr1
          exact ⟨o, o.kind, text o.name, text o.text, o.n, text o.at_, s, y, by rw [hr2, e1]; rfl, fun X cc => rfl, e2, e3, e4, hr3⟩
        clear hA9 hq9' hc9 hq9 HLL HR9 hk0 hk1 hk2 hk3 hb0 HLf HGt
        go_upto_region 15 with (first
          | (go_at_call 37; (with_reducible refine (HG14.out _ hT5.out.below).mono ?_); rintro e w6 ⟨o, k, t1, t2, z, t3, sk, y, rfl, hov, hon, hy1, hy0, hb6⟩)
          | (go_at_call 38; (with_reducible refine (HL2.out _).mono ?_); rintro e w5 ⟨rfl, hb5⟩; have hT5 := Lib.hid (hT.out.up hb5)))
        have hT6 := Lib.hid ((hT5.out.up hb6.out).up ((Below.refl _ _).alloc (Nat.le_refl _) (.cells #[.int .i64 k, .string t1, .string t2, .int .i64 z, .string t3] 24)))
        have ko := Lib.hid (Blk.new w6 24 #[.int .i64 k, .string t1, .string t2, .int .i64 z, .string t3])
        obtain ⟨O, hO⟩ : ∃ x, x = w6.heap.size := ⟨_, rfl⟩
        obtain ⟨w7, hw7⟩ : ∃ x, x = w6.alloc (.cells #[.int .i64 k, .string t1, .string t2, .int .i64 z, .string t3] 24) := ⟨_, rfl⟩
        rw [← hO, ← hw7] at ko ⊢
        rw [← hw7] at hT6
        clear pl p0 p1 p2 p3 p4 p5 p6 pf rl r0 r1 r2 r3 r4 r5 r6 rf cl x0 x1 x2 xf hCc hv hT5 hT hO hw7 hb5 hb6 HL2 HG14
        obtain ⟨Y7, n7, m7, q7, b7, hv, hCc⟩ := hT6.out.cells
        obtain ⟨⟨⟨pl, p0, p1, p2, p3, p4, p5, p6, pf⟩, rl, r0, r1, r2, r3, r4, r5, r6, rf⟩, cl, x0, x1, x2, xf⟩ := id hCc
        have o0 := ko.out.cell 0
        have o1 := ko.out.cell 1
        have o2 := ko.out.cell 2
        have o3 := ko.out.cell 3
        have o4 := ko.out.cell 4
        have ol := ko.out.lt
        go_upto_region 16 with (fail)
        have hF := Lib.hid (hT6.out.fill k t1 t2 z t3)
        obtain ⟨w8, hw8⟩ : ∃ x, x = (((((w7.setCell ⟨P, 2, none⟩ (.int .i64 k)).setCell ⟨P, 3, none⟩ (.string t1)).setCell ⟨P, 4, none⟩ (.string t2)).setCell ⟨P, 5, none⟩ (.int .i64 z)).setCell ⟨P, 6, none⟩ (.string t3)) := ⟨_, rfl⟩
        rw [← hw8] at hF ⊢
        clear pl p0 p1 p2 p3 p4 p5 p6 pf rl r0 r1 r2 r3 r4 r5 r6 rf cl x0 x1 x2 xf hCc hv o0 o1 o2 o3 o4 ol ko hT6 hw8 bs HD
        obtain ⟨⟨pl, p0, p1, p2, p3, p4, p5, p6, pf⟩, rl, r0, r1, r2, r3, r4, r5, r6, rf⟩ := hF.out.cells
        obtain ⟨u, hu⟩ : ∃ u : Upd, u = ⟨(a : Int), l, o⟩ := ⟨_, rfl⟩
        rw [← hu] at hov hy0
        have hul : u.preds = l := by rw [hu]
        have huo : u.op = o := by rw [hu]
        have hov1 : updV u X cc = .agg #[.int .i64 (a : Int), .slice X j cc, .int .i64 k, .string t1, .string t2, .int .i64 z, .string t3] := by
          have h := hov.out X cc
          rw [HJ.out] at h
          exact h
        obtain ⟨f, hf⟩ : ∃ f, f = u.check := ⟨_, rfl⟩
        obtain ⟨UO, hUO⟩ : ∃ x, x = u.out := ⟨_, rfl⟩
        obtain ⟨pu, hpu⟩ : ∃ x, x = UO.length := ⟨_, rfl⟩
        have HPL := Lib.hid hpu
        have hss : Hid (SS w8 w8.heap.size X l) := by
          have h := hF.out.row
          rw [← HJ.out] at h
          exact own_ss h
        have HPu : Hid (∀ W, SS W W.heap.size X l → Calls Tryd.prog 9 #[.agg #[.int .i64 (a : Int), .slice X j cc, .int .i64 k, .string t1, .string t2, .int .i64 z, .string t3]] W fun e w' => ∃ C2 d2, e = .returned (.tuple #[.slice C2 pu d2, .int .i64 f]) ∧ Hid (RB w' w'.heap.size C2 UO) ∧ Hid (Below W.heap.size W w')) := fun W hs => by
          have h := HP.out u X cc W (by rw [hul]; exact hs) (by rw [hul, HJ.out]; omega) (by rw [huo]; exact hon.out)
          rw [hov1] at h
          refine h.mono fun e w' hh => ?_
          obtain ⟨C2, d2, q1, q2, q3⟩ := hh
          exact ⟨C2, d2, by rw [hpu, hUO, hf]; exact q1, by rw [hUO]; exact own_rb q2.out, q3⟩
        obtain ⟨tU, htU⟩ : ∃ t, t = text UO := ⟨_, rfl⟩
        obtain ⟨tb, htb⟩ : ∃ t, t = text b := ⟨_, rfl⟩
        have HTU := Lib.hid htU
        have HTb := Lib.hid htb
        have HCap := Lib.hid (sown_cap hF.out.row)
        have HUL := Lib.hid hul
        have HV1 := Lib.hid hov1
        have HF := Lib.hid hf
        have HUO := Lib.hid hUO
        clear hu hul huo hov1 hf hUO hpu htU htb HP hov hon
        by_cases hy : y = 0
        · subst hy
          by_cases hfz : f = 0
          · subst hfz
            have hub : UO = u.bytes := by rw [HUO.out]; exact if_pos HF.out.symm
            by_cases hUb : UO = b
            · have heq : (tU.toList == tb.toList) = true := by rw [HTU.out, HTb.out, text_eq]; exact decide_eq_true hUb
              have HG := Lib.hid (getsU_yes HF.out.symm (hub.symm.trans hUb))
              clear hub hUb hy1 hy0
              go_wp2_with (go_at_call 9; (with_reducible refine (HPu.out _ hss.out).mono ?_); rintro e w9 ⟨C2, d2, rfl, r9, b9⟩; have hF9 := Lib.hid (hF.out.up b9.out); clear pl p0 p1 p2 p3 p4 p5 p6 pf rl r0 r1 r2 r3 r4 r5 r6 rf; obtain ⟨⟨pl, p0, p1, p2, p3, p4, p5, p6, pf⟩, rl, r0, r1, r2, r3, r4, r5, r6, rf⟩ := hF9.out.cells; have e1 := aw_str r9.out pu d2 HPL.out; have e2 := aw_str (RB.more (HA.out.below hF9.out.below) hF9.out.below.size) n c HNn.out; rw [show ({ data := UO.toArray } : ByteArray) = tU from HTU.out.symm] at e1; rw [show ({ data := b.toArray } : ByteArray) = tb from HTb.out.symm] at e2)
              obtain ⟨E, hE⟩ : ∃ E, E = ((((((w9.setCell ⟨w.heap.size, 0, none⟩ (.int .i64 (a : Int))).setCell ⟨w.heap.size, 1, none⟩ (.slice X j cc)).setCell ⟨w.heap.size, 2, none⟩ (.int .i64 k)).setCell ⟨w.heap.size, 3, none⟩ (.string t1)).setCell ⟨w.heap.size, 4, none⟩ (.string t2)).setCell ⟨w.heap.size, 5, none⟩ (.int .i64 z)).setCell ⟨w.heap.size, 6, none⟩ (.string t3) := ⟨_, rfl⟩
              obtain ⟨⟨y0, y1, y2, y3, y4, y5, y6⟩, hbE⟩ := upd_end hF9.out.below hF9.out.res (Nat.le_refl _) hE
              have hSE := ss_end HJ.out.symm hF9.out.row (Nat.lt_succ_of_lt hF9.out.pw) hE
              (try rw [← hE])
              refine bodyPost_ret (v := .tuple #[.agg #[.int .i64 (a : Int), .slice X j cc, .int .i64 k, .string t1, .string t2, .int .i64 z, .string t3], .int .i64 0]) (by simp [results, Tryd.results16, go_sem, y0, y1, y2, y3, y4, y5, y6]) rfl ?_
              refine ⟨some u, X, cc, HG.out, ?_, ?_, ?_, HCap.out.2, hbE⟩
              · show _ = Ending.returned (.tuple #[updV u X cc, .int .i64 (errGU b (some u))])
                rw [HV1.out]
                unfold errGU
                rw [if_neg (by have := HNn.out; omega)]; rfl
              · show SS E E.heap.size X u.preds
                rw [HUL.out]
                exact hSE
              · show u.preds.length ≤ cc
                rw [HUL.out, HJ.out]
                exact HCap.out.1
            · have heq : (tU.toList == tb.toList) = false := by rw [HTU.out, HTb.out, text_eq]; exact decide_eq_false hUb
              have HG := Lib.hid (hy0.out (by trivial) (.inr (fun h => hUb (hub.trans h))))
              clear hub hUb hy1 hy0
              go_wp2_with (go_at_call 9; (with_reducible refine (HPu.out _ hss.out).mono ?_); rintro e w9 ⟨C2, d2, rfl, r9, b9⟩; have hF9 := Lib.hid (hF.out.up b9.out); clear pl p0 p1 p2 p3 p4 p5 p6 pf rl r0 r1 r2 r3 r4 r5 r6 rf; obtain ⟨⟨pl, p0, p1, p2, p3, p4, p5, p6, pf⟩, rl, r0, r1, r2, r3, r4, r5, r6, rf⟩ := hF9.out.cells; have e1 := aw_str r9.out pu d2 HPL.out; have e2 := aw_str (RB.more (HA.out.below hF9.out.below) hF9.out.below.size) n c HNn.out; rw [show ({ data := UO.toArray } : ByteArray) = tU from HTU.out.symm] at e1; rw [show ({ data := b.toArray } : ByteArray) = tb from HTb.out.symm] at e2)
              obtain ⟨E, hE⟩ : ∃ E, E = ((((((w9.setCell ⟨w.heap.size, 0, none⟩ (.int .i64 0)).setCell ⟨w.heap.size, 1, none⟩ (.slice none 0 0)).setCell ⟨w.heap.size, 2, none⟩ (.int .i64 0)).setCell ⟨w.heap.size, 3, none⟩ (.string { data := #[] })).setCell ⟨w.heap.size, 4, none⟩ (.string { data := #[] })).setCell ⟨w.heap.size, 5, none⟩ (.int .i64 0)).setCell ⟨w.heap.size, 6, none⟩ (.string { data := #[] }) := ⟨_, rfl⟩
              obtain ⟨⟨y0, y1, y2, y3, y4, y5, y6⟩, hbE⟩ := upd_end hF9.out.below hF9.out.res (Nat.le_refl _) hE
              (try rw [← hE])
              refine bodyPost_ret (v := .tuple #[.agg #[.int .i64 0, .slice none 0 0, .int .i64 0, .string { data := #[] }, .string { data := #[] }, .int .i64 0, .string { data := #[] }], .int .i64 5]) (by simp [results, Tryd.results16, go_sem, y0, y1, y2, y3, y4, y5, y6]) rfl ?_
              exact getU_none HG.out HE5.out rfl hbE
          · have HG := Lib.hid (hy0.out (by trivial) (.inl (fun h => hfz (HF.out.trans h))))
            have dF : decide (f = 0) = false := decide_eq_false hfz
            clear hy1 hy0
            go_wp2_with (go_at_call 9; (with_reducible refine (HPu.out _ hss.out).mono ?_); rintro e w9 ⟨C2, d2, rfl, r9, b9⟩; have hF9 := Lib.hid (hF.out.up b9.out); clear pl p0 p1 p2 p3 p4 p5 p6 pf rl r0 r1 r2 r3 r4 r5 r6 rf; obtain ⟨⟨pl, p0, p1, p2, p3, p4, p5, p6, pf⟩, rl, r0, r1, r2, r3, r4, r5, r6, rf⟩ := hF9.out.cells; have e1 := aw_str r9.out pu d2 HPL.out; have e2 := aw_str (RB.more (HA.out.below hF9.out.below) hF9.out.below.size) n c HNn.out; rw [show ({ data := UO.toArray } : ByteArray) = tU from HTU.out.symm] at e1; rw [show ({ data := b.toArray } : ByteArray) = tb from HTb.out.symm] at e2)
            obtain ⟨E, hE⟩ : ∃ E, E = ((((((w9.setCell ⟨w.heap.size, 0, none⟩ (.int .i64 0)).setCell ⟨w.heap.size, 1, none⟩ (.slice none 0 0)).setCell ⟨w.heap.size, 2, none⟩ (.int .i64 0)).setCell ⟨w.heap.size, 3, none⟩ (.string { data := #[] })).setCell ⟨w.heap.size, 4, none⟩ (.string { data := #[] })).setCell ⟨w.heap.size, 5, none⟩ (.int .i64 0)).setCell ⟨w.heap.size, 6, none⟩ (.string { data := #[] }) := ⟨_, rfl⟩
            obtain ⟨⟨y0, y1, y2, y3, y4, y5, y6⟩, hbE⟩ := upd_end hF9.out.below hF9.out.res (Nat.le_refl _) hE
            (try rw [← hE])
            refine bodyPost_ret (v := .tuple #[.agg #[.int .i64 0, .slice none 0 0, .int .i64 0, .string { data := #[] }, .string { data := #[] }, .int .i64 0, .string { data := #[] }], .int .i64 5]) (by simp [results, Tryd.results16, go_sem, y0, y1, y2, y3, y4, y5, y6]) rfl ?_
            exact getU_none HG.out HE5.out rfl hbE
        · have HG := Lib.hid (hy1.out hy)
          have dY : decide (y = 0) = false := decide_eq_false hy
          clear hy1 hy0
          go_wp2_with (go_at_call 9; (with_reducible refine (HPu.out _ hss.out).mono ?_); rintro e w9 ⟨C2, d2, rfl, r9, b9⟩; have hF9 := Lib.hid (hF.out.up b9.out); clear pl p0 p1 p2 p3 p4 p5 p6 pf rl r0 r1 r2 r3 r4 r5 r6 rf; obtain ⟨⟨pl, p0, p1, p2, p3, p4, p5, p6, pf⟩, rl, r0, r1, r2, r3, r4, r5, r6, rf⟩ := hF9.out.cells; have e1 := aw_str r9.out pu d2 HPL.out; have e2 := aw_str (RB.more (HA.out.below hF9.out.below) hF9.out.below.size) n c HNn.out; rw [show ({ data := UO.toArray } : ByteArray) = tU from HTU.out.symm] at e1; rw [show ({ data := b.toArray } : ByteArray) = tb from HTb.out.symm] at e2)
          obtain ⟨E, hE⟩ : ∃ E, E = ((((((w9.setCell ⟨w.heap.size, 0, none⟩ (.int .i64 0)).setCell ⟨w.heap.size, 1, none⟩ (.slice none 0 0)).setCell ⟨w.heap.size, 2, none⟩ (.int .i64 0)).setCell ⟨w.heap.size, 3, none⟩ (.string { data := #[] })).setCell ⟨w.heap.size, 4, none⟩ (.string { data := #[] })).setCell ⟨w.heap.size, 5, none⟩ (.int .i64 0)).setCell ⟨w.heap.size, 6, none⟩ (.string { data := #[] }) := ⟨_, rfl⟩
          obtain ⟨⟨y0, y1, y2, y3, y4, y5, y6⟩, hbE⟩ := upd_end hF9.out.below hF9.out.res (Nat.le_refl _) hE
          (try rw [← hE])
          refine bodyPost_ret (v := .tuple #[.agg #[.int .i64 0, .slice none 0 0, .int .i64 0, .string { data := #[] }, .string { data := #[] }, .int .i64 0, .string { data := #[] }], .int .i64 5]) (by simp [results, Tryd.results16, go_sem, y0, y1, y2, y3, y4, y5, y6]) rfl ?_
          exact getU_none HG.out HE5.out rfl hbE
theorem ruget_any (b : List UInt8) (n : Nat) (A : Option Addr) (c : Nat) (w : World) (hn : n = b.length) (hr : RB w w.heap.size A b) (hc : n ≤ c) (hcm : c ≤ 9223372036854775807) :
    Calls Tryd.prog 16 #[.slice A n c] w (GivesGetU b w) := by
  by_cases hl : 384 < n
  · exact ruget_long b n A c w hn hl
  · exact ruget_short b n A c w hn hr hc hcm (by omega)
end
section
open Go.ChangeShapes Go.WideShapes Go.ChangeAt Go.RowKit
def Opn.out (o : Opn) : List UInt8 := if o.mayB = true then o.bytes else []
theorem out_len (o : Opn) : o.out.length ≤ 96 := by
  unfold Opn.out
  cases hm : o.mayB with
  | false => rw [if_neg (by simp)]; simp
  | true => rw [if_pos rfl]; exact bytes_len ((mayB_iff o).1 hm)
theorem Tryd.cellsOp : Tryd.prog.cellsOf 24 = 5 := by kernel_rfl
theorem Tryd.cellsIO : Tryd.prog.cellsOf 3 = 1 := by kernel_rfl
theorem Tryd.cellsSO : Tryd.prog.cellsOf 9 = 1 := by kernel_rfl
theorem text_of (s : ByteArray) : s = text s.data.toList := by cases s; rfl
end
end Go.Proofs.YtinphkflfdpaeaaDoor
