/- Lemmas under the proofs of this place: RUnfix, Skip. No statement is proved here. -/
import Derived.Test.YtpcopmpmcjkamaaDoorBu06
import Derived.Test.YtpcopmpmcjkamaaDoorBu07
set_option linter.unusedSimpArgs false
set_option linter.unusedVariables false
set_option maxRecDepth 100000
set_option maxHeartbeats 16000000
namespace Go.Proofs.YtpcopmpmcjkamaaDoor
section
open Go.RowKit
theorem refUnfix_any (L : List UInt8) (A : Option Addr) (c B : Nat) (w : World) (hr : RB w B A L) (hl : L.length ≤ 1048576) :
    Calls Tryd.prog 40 #[.slice A L.length c] w fun e w' => UnfixPost (unfixR L) e ∧ w = w' := by
  by_cases h1 : L.length < 1
  · have HR : Hid (unfixR L = (0, 1)) := by show _ = _; unfold unfixR; rw [if_pos (.inl h1)]
    go_enter Tryd.func40, Tryd.ntmps40
    go_wp2
    go_ret2
    exact ⟨by rw [HR.out]; exact rfl, rfl⟩
  by_cases h4 : 4 < L.length
  · have HR : Hid (unfixR L = (0, 1)) := by show _ = _; unfold unfixR; rw [if_pos (.inr h4)]
    go_enter Tryd.func40, Tryd.ntmps40
    go_wp2
    go_ret2
    exact ⟨by rw [HR.out]; exact rfl, rfl⟩
  obtain ⟨b, off, rfl, hb, hcell⟩ := hr.at_ (by omega)
  have HC : Hid (∀ (k : Nat) (hk : k < L.length), w.cell? ⟨b, off + k, none⟩ = some (Value.int .u8 (L[k].toNat : Int))) := hcell
  have HR : Hid (unfixR L = if 2147483647 < unfixL L then (0, 5) else (unfixL L, 0)) := by show _ = _; unfold unfixR; rw [if_neg (by omega)]
  clear hcell hr
  go_enter Tryd.func40, Tryd.ntmps40
  go_wp2
  go_loop [4, 5] (fun n i => ∃ (m : Int) (acc : Nat), i = .int .i64 m ∧ -1 ≤ m ∧ m < (L.length : Int) ∧ n = .int .i64 (acc : Int) ∧ acc = unfixL (L.drop (m + 1).toNat)) (fun _ i => (intOf i + 1).toNat)
  case atStart => exact ⟨(L.length : Int) - 1, 0, rfl, by omega, by omega, rfl, by rw [List.drop_eq_nil_of_le (by omega)]; rfl⟩
  case round =>
    obtain ⟨m, acc, rfl, hm1, hm2, rfl, hacc⟩ := hrel
    by_cases hm0 : 0 ≤ m
    · obtain ⟨k, rfl⟩ : ∃ k : Nat, m = (k : Int) := ⟨m.toNat, by omega⟩
      have hlt : k < L.length := by omega
      obtain ⟨x, hx⟩ : ∃ x : Nat, x = L[k].toNat := ⟨_, rfl⟩
      have hck := HC.out k hlt
      rw [← hx] at hck
      have hx256 : x < 256 := by rw [hx]; exact byte_lt _
      have e1 : ((k : Int) + 1).toNat = k + 1 := by omega
      rw [e1] at hacc
      have hb3 : acc < 16777216 := by
        rw [hacc]
        exact Nat.lt_of_lt_of_le (unfixL_lt _) (Nat.le_trans (Nat.pow_le_pow_right (by omega) (show (L.drop (k + 1)).length ≤ 3 by rw [List.length_drop]; omega)) (by decide))
      have HA : Hid (x + 256 * acc = unfixL (L.drop k)) := by show _ = _; rw [List.drop_eq_getElem_cons hlt]; simp only [unfixL]; rw [← hx, ← hacc]
      clear hx hacc e1
      go_wp2
      go_round
      case rel => exact ⟨(k : Int) - 1, x + 256 * acc, rfl, by omega, by omega, by go_num, by rw [HA.out]; congr 2; omega⟩
      case measure => simp [intOf]
    · obtain rfl : m = -1 := by omega
      have HA : Hid (acc = unfixL L) := by show _ = _; rw [hacc]; rfl
      have hlt3 : acc < 4294967296 := by
        rw [HA.out]
        exact Nat.lt_of_lt_of_le (unfixL_lt L) (Nat.le_trans (Nat.pow_le_pow_right (by omega) (show L.length ≤ 4 by omega)) (by decide))
      clear hacc
      by_cases hm : 2147483647 < acc
      · go_wp2
        go_ret2
        exact ⟨by rw [HR.out, ← HA.out, if_pos hm]; exact rfl, rfl⟩
      · go_wp2
        go_ret2
        exact ⟨by rw [HR.out, ← HA.out, if_neg hm]; exact rfl, rfl⟩
end
section
open Go.RowKit
theorem any_skip {P : Program} {ops : Array Oper} {Q : Exit → Act → World → Prop} {md : Region.Mode} {S : World → Prop} {T : Nat → Bool} {i fuel : Nat} {oi : Oper} {listed listed' : Array Bool} {a a' : Act} {w : World} (hi : ops[i]? = some oi) (hs : Region.noSelect ops = true) (hf : Region.free md ops listed i = true) (hr : (Region.ready md ops listed).contains i = true)
    (hT : T i = false) (hwt : waits_ md ops T i = true) (hw : Region.wanted oi (yielded ops a.tmps) = false) (hS : S w) (ha : a.put oi.dst undef = a') (hl : listed.setIfInBounds i true = listed') (hQ : ∀ c a w, Q (.panic c) (a.put oi.dst undef) w → Q (.panic c) a w)
    (h : wpAnyT P md ops Q S T fuel listed' a' w) : wpAnyT P md ops Q S T (fuel + 1) listed a w := by
  subst ha hl
  exact wpAnyT_first hi hwt hT (Region.noSelect_spec hs) hQ fuel listed a w (Region.free_spec hi hf) (by simpa using hr) (.inr ⟨hw, rfl⟩) hS h
theorem skip_d {P : Program} {ops : Array Oper} {Q : Exit → Act → World → Prop} {md : Region.Mode} {S : World → Prop} {T : Nat → Bool} {i fuel : Nat} {oi : Oper} {listed : Array Bool} {a : Act} {w : World} (d : Nat) (hi : ops[i]? = some oi) (hd : oi.dst = some d) (hs : Region.noSelect ops = true) (hf : Region.free md ops listed i = true) (hr : (Region.ready md ops listed).contains i = true)
    (hT : T i = false) (hwt : waits_ md ops T i = true) (hw : Region.wanted oi (yielded ops a.tmps) = false) (hS : S w) (hQ : ∀ c a w, Q (.panic c) (a.put oi.dst undef) w → Q (.panic c) a w)
    (h : wpAnyT P md ops Q S T fuel (listed.setIfInBounds i true) (a.put (some d) undef) w) : wpAnyT P md ops Q S T (fuel + 1) listed a w :=
  any_skip hi hs hf hr hT hwt hw hS (by rw [hd]) rfl hQ h
theorem take_d {P : Program} {ops : Array Oper} {Q : Exit → Act → World → Prop} {md : Region.Mode} {S : World → Prop} {T : Nat → Bool} {i fuel : Nat} {oi : Oper} {listed : Array Bool} {a : Act} {w : World} (v : Value) (d : Nat) (hi : ops[i]? = some oi) (hd : oi.dst = some d) (hs : Region.noSelect ops = true) (hf : Region.free md ops listed i = true) (hr : (Region.ready md ops listed).contains i = true)
    (hT : T i = false) (hwt : waits_ md ops T i = true) (hw : Region.wanted oi (yielded ops a.tmps) = true) (hy : ∀ w, S w → (execOp a.eval oi).run P w = .ok (.value v) w) (hS : S w) (hQ : ∀ c a w, Q (.panic c) (a.put oi.dst v) w → Q (.panic c) a w)
    (h : wpAnyT P md ops Q S T fuel (listed.setIfInBounds i true) (a.put (some d) v) w) : wpAnyT P md ops Q S T (fuel + 1) listed a w :=
  any_take v hi hs hf hr hT hwt hw hy hS (by rw [hd]) rfl hQ h
end
end Go.Proofs.YtpcopmpmcjkamaaDoor
