/- The walks of the program's become, with Drop and with Add, of Give and Mark (layer 11). -/
import Derived.Test.YtibaaideleinhaaDoorPoolPTake
import Derived.Test.YtibaaideleinhaaDoorPoolROdd
set_option linter.unusedVariables false
namespace Go.Proofs.YtibaaideleinhaaDoor
open Go.RowKit

theorem th_turn {p : Pl} {l : List Int} {v : Bool} {k : Nat} {b : Int} : Pl.th ⟨p.lo, p.turnK l v k⟩ b = p.th b := by
  unfold Pl.th
  show (_ && decide (_ < ((p.turnK l v k).length : Int))) = _
  rw [Pl.turnK_length]
theorem pad_turn_len {p : Pl} {l : List Int} {v : Bool} {k : Nat} : (Pl.pad ⟨p.lo, p.turnK l v k⟩).length = p.pad.length := by
  rw [Pl.pad_len, Pl.pad_len]
  show _ + (p.turnK l v k).length = _
  rw [Pl.turnK_length]
/-- A set that is the pool's with other marks. -/
theorem PP.with_ {w w' : World} {g s k : Nat} {p : Pl} {q : List Bool} (h : PP w g s p) (hq : q.length = p.tk.length) (hb : Blk w' g 54 (poolCells p k)) (hs : SetAt w' k (Pl.pad ⟨p.lo, q⟩)) (hk : g ≠ k) : PP w' g k ⟨p.lo, q⟩ := by
  refine ⟨?_, hs, hk, h.pos, ⟨h.small.1, by show q.length ≤ 1024; rw [hq]; exact h.small.2⟩, by show p.lo + (q.length : Int) ≤ 1024; rw [hq]; exact h.top⟩
  have e : poolCells ⟨p.lo, q⟩ k = poolCells p k := by unfold poolCells; rw [hq]
  rw [e]
  exact hb
theorem turns_two_new {w w1 w2 : World} {g s k : Nat} (hb : Below w.heap.size w w1) (ht : Turns w1 w2 (fun j => j = g ∨ j = k) (fun j => j = g ∨ j = k)) (hk : w.heap.size ≤ k) : Turns w w2 (fun j => j = g ∨ j = s) (fun j => j = g ∨ j = k) :=
  ⟨ht.os.trans hb.os, ht.tape.trans hb.tape, ht.output.trans hb.output, Nat.le_trans hb.size ht.size, fun i hi hn => (ht.block i (Nat.lt_of_lt_of_le hi hb.size) (fun h => by
    rcases h with rfl | rfl
    · exact hn (.inl rfl)
    · omega)).trans (hb.block i hi), fun j hj => by
    rcases hj with rfl | rfl
    · exact .inl (.inl rfl)
    · exact .inr hk⟩
theorem poolCells_set (p : Pl) (s k : Nat) : (poolCells p s).setIfInBounds 0 (.pointer (some ⟨k, 0, none⟩)) = poolCells p k := by simp [poolCells]

section
variable {p : Pl} {g s k i : Nat} {W W0 : World} {l : List Int}
theorem deed_give_yes (hp : PP W0 g s p) (hi : i < l.length) (ht : ∀ j, j < l.length → p.th (l.getD j 0) = true) (hS : SetAt W k (Pl.pad ⟨p.lo, p.turnK l false i⟩)) (ho : p.oddAt l true i = true) :
    Calls Tryd.prog 31 #[.pointer (some ⟨k, 0, none⟩), .int .i64 (l.getD i 0)] W fun e w' => e = .returned (.int .i64 0) ∧ SetAt w' k (Pl.pad ⟨p.lo, p.turnK l false (i + 1)⟩) ∧ Only W w' k := by
  have h2 := th_small hp (ht i hi)
  have h1 := bitsDrop_any _ k (l.getD i 0) W ⟨by omega, by omega⟩ hS (by rw [pad_turn_len]; exact hp.len)
  have h3 : Pl.has ⟨p.lo, p.turnK l false i⟩ (l.getD i 0) = true := (Pl.turn_odd (v := false) hi ht).2 ho
  rw [Pl.pad_drop (p := ⟨p.lo, p.turnK l false i⟩) hp.small.1.1 (by rw [th_turn]; exact ht i hi), h3] at h1
  exact h1
theorem deed_give_no (hp : PP W0 g s p) (hi : i < l.length) (ht : ∀ j, j < l.length → p.th (l.getD j 0) = true) (hS : SetAt W k (Pl.pad ⟨p.lo, p.turnK l false i⟩)) (ho : p.oddAt l true i = false) :
    Calls Tryd.prog 31 #[.pointer (some ⟨k, 0, none⟩), .int .i64 (l.getD i 0)] W fun e w' => e = .returned (.int .i64 6) ∧ Only W w' k := by
  have h2 := th_small hp (ht i hi)
  have h1 := bitsDrop_any _ k (l.getD i 0) W ⟨by omega, by omega⟩ hS (by rw [pad_turn_len]; exact hp.len)
  have h3 : Pl.has ⟨p.lo, p.turnK l false i⟩ (l.getD i 0) = false := by
    have h4 := Pl.turn_odd (p := p) (v := false) hi ht
    cases hh : Pl.has ⟨p.lo, p.turnK l false i⟩ (l.getD i 0) with
    | false => rfl
    | true =>
      have h5 := h4.1 hh
      have h6 : p.oddAt l true i = true := h5
      rw [ho] at h6
      cases h6
  rw [Pl.pad_drop (p := ⟨p.lo, p.turnK l false i⟩) hp.small.1.1 (by rw [th_turn]; exact ht i hi), h3] at h1
  exact h1.mono fun e w' h => ⟨h.1, h.2.2⟩
end
set_option maxRecDepth 100000 in
set_option maxHeartbeats 4000000 in
theorem become_give {w : World} {g s k : Nat} {p : Pl} (h : PP w g s p) (hS : SetAt w k p.pad) (hgk : g ≠ k) (hsk : s ≠ k) (l : List Int) (L : Option Addr) (m d : Nat) (hm : m = l.length) (hs : m ≤ 100000) (hl : RI w w.heap.size L l) (hn : 0 < m → ∀ ad, L = some ad → ad.block ≠ k) :
    Calls Tryd.prog 30 #[.pointer (some ⟨g, 0, none⟩), .pointer (some ⟨k, 0, none⟩), .func (.func 31) #[.pointer (some ⟨k, 0, none⟩)] #[], .slice L m d] w fun e w' =>
      e = .returned (.int .i64 (p.odd l true 6)) ∧ (p.odd l true 6 = 0 → PP w' g k (p.turned l false)) ∧ (p.odd l true 6 ≠ 0 → PP w' g s p) ∧ Turns w w' (fun j => j = g ∨ j = k) (fun j => j = g ∨ j = k) := by
  have n0 := fun w' => Tryd.notFalse w'
  have n1 := fun w' => Tryd.notTrue w'
  have hTB : TB < k := hS.pos
  have HP := Lib.hid h
  have HK : Hid (g ≠ k ∧ s ≠ k ∧ TB < k) := ⟨hgk, hsk, hTB⟩
  have HM := Lib.hid hm
  have HS := Lib.hid hS
  have HL : Hid (∀ (W : World) (i : Nat), i < m → Only w W k → ∃ b off, L = some ⟨b, off, none⟩ ∧ W.cell? ⟨b, off + i, none⟩ = some (.int .i64 (l.getD i 0))) := fun W i hi ho => by
    obtain ⟨b, off, e, hlt, hc⟩ := hl (by omega)
    refine ⟨b, off, e, ?_⟩
    have hb := hn (by omega) _ e
    rw [World.cell?_of_block (a := ⟨b, off + i, none⟩) (ho.block b hlt (by simp at hb ⊢; omega)), hc i (by omega), List.getD_eq_getElem?_getD, List.getElem?_eq_getElem (by omega)]
    rfl
  have HO : Hid (∀ (W : World) (b : Int), PP W g s p → Calls Tryd.prog 42 #[.pointer (some ⟨g, 0, none⟩), .int .i64 b] W fun e w' => e = .returned (.bool (p.th b)) ∧ W = w') := fun W b hW => (powns_any p g s b W hW).mono fun _ _ h => ⟨h.1, h.2.symm⟩
  have HPk : Hid (∀ W, Only w W k → PP W g s p) := fun W ho => h.turns (turns_of_only ho (F := fun j => j = k) rfl) hgk hsk (by show ¬ TB = k; omega)
  clear h hS hgk hsk hm hl hn hTB
  go_enter Tryd.func30, Tryd.ntmps30
  go_wp2
  go_loopw [16] (fun x wr => ∃ i : Nat, i ≤ m ∧ x = .int .i64 (i : Int) ∧ Hid (∀ j, j < i → p.th (l.getD j 0) = true) ∧ w = wr) (fun x _ => m - (intOf x).toNat)
  case atStart => exact ⟨0, by omega, rfl, fun j hj => by omega, rfl⟩
  case round =>
    obtain ⟨i, hi, rfl, HT, rfl⟩ := hrel
    by_cases hlt : i < m
    · obtain ⟨b, off, rfl, hc⟩ := HL.out w i hlt (only_refl w k)
      have d3 : decide ((i : Int) < (m : Int)) = true := decide_eq_true (by omega)
      have d4 : decide (i < m) = true := decide_eq_true hlt
      have y8 : IntKind.i64.wrap ((i : Int) + 1) = (i : Int) + 1 := IntWalk.i64_in _ (by omega)
      have HO1 := HO.out w (l.getD i 0) HP.out
      cases ht : p.th (l.getD i 0) with
      | true =>
        rw [ht] at HO1
        have HO1 := Lib.hid HO1
        have HT1 : Hid (∀ j, j < i + 1 → p.th (l.getD j 0) = true) := fun j hj => by
          rcases Nat.lt_or_ge j i with h1 | h1
          · exact HT.out j h1
          · rw [show j = i by omega]; exact ht
        generalize l.getD i 0 = x at hc HO1
        clear HT ht HO HL
        go_wp2_with (go_at_call 42; (with_reducible refine HO1.out.mono ?_); rintro e w' ⟨rfl, rfl⟩)
        refine ⟨⟨i + 1, by omega, by go_num, HT1, trivial⟩, ?_⟩
        simp [intOf]; omega
      | false =>
        rw [ht] at HO1
        have HO1 := Lib.hid HO1
        have HE : Hid (p.odd l true 6 = 10) := odd_block (i := i) (by have := HM.out; omega) ht
        generalize l.getD i 0 = x at hc HO1
        clear HT ht HO HL
        go_wp2_with (go_at_call 42; (with_reducible refine HO1.out.mono ?_); rintro e w' ⟨rfl, rfl⟩)
        go_ret
        refine ⟨by rw [HE.out]; rfl, fun h0 => ?_, fun _ => HP.out, Turns.refl _ _⟩
        rw [HE.out] at h0
        cases h0
    · obtain rfl : i = m := by omega
      have d3 : decide ((i : Int) < (i : Int)) = false := decide_eq_false (by omega)
      have d4 : decide (i < i) = false := decide_eq_false (by omega)
      have HA : Hid (∀ j, j < l.length → p.th (l.getD j 0) = true) := fun j hj => HT.out j (by have := HM.out; omega)
      clear HT HO
      go_wp2
      go_loopw [27] (fun x wr => ∃ j : Nat, j ≤ i ∧ x = .int .i64 (j : Int) ∧ Hid (∀ n, n < j → p.oddAt l true n = true) ∧ Hid (SetAt wr k (Pl.pad ⟨p.lo, p.turnK l false j⟩) ∧ Only w wr k)) (fun x _ => i - (intOf x).toNat)
      case atStart => exact ⟨0, by omega, rfl, fun j hj => by omega, HS.out, only_refl w k⟩
      case round =>
        obtain ⟨j, hj, rfl, HJ, HW⟩ := hrel
        by_cases hlt : j < i
        · obtain ⟨b, off, rfl, hc⟩ := HL.out wr j hlt HW.out.2
          have d3 : decide ((j : Int) < (i : Int)) = true := decide_eq_true (by omega)
          have d4 : decide (j < i) = true := decide_eq_true hlt
          have y8 : IntKind.i64.wrap ((j : Int) + 1) = (j : Int) + 1 := IntWalk.i64_in _ (by omega)
          have hjl : j < l.length := by have := HM.out; omega
          cases ho : p.oddAt l true j with
          | true =>
            have HD := deed_give_yes HP.out hjl HA.out HW.out.1 ho
            have HD := Lib.hid HD
            have HJ1 : Hid (∀ n, n < j + 1 → p.oddAt l true n = true) := fun n hn => by
              rcases Nat.lt_or_ge n j with h1 | h1
              · exact HJ.out n h1
              · rw [show n = j by omega]; exact ho
            generalize l.getD j 0 = x at hc HD
            clear HJ ho HL
            go_wp2_with (go_at_call 31; (with_reducible refine HD.out.mono ?_); rintro e w1 ⟨rfl, hs1, ho1⟩)
            refine ⟨⟨j + 1, by omega, by go_num, HJ1, hs1, only_trans HW.out.2 ho1⟩, ?_⟩
            simp [intOf]; omega
          | false =>
            have HD := deed_give_no HP.out hjl HA.out HW.out.1 ho
            have HD := Lib.hid HD
            have HE : Hid (p.odd l true 6 = 6) := odd_wrong HA.out hjl ho
            generalize l.getD j 0 = x at hc HD
            clear HJ ho HL
            go_wp2_with (go_at_call 31; (with_reducible refine HD.out.mono ?_); rintro e w1 ⟨rfl, ho1⟩)
            go_ret
            have hoo := only_trans HW.out.2 ho1
            refine ⟨by rw [HE.out]; rfl, fun h0 => ?_, fun _ => HPk.out _ hoo, turns_of_only hoo (.inr rfl)⟩
            rw [HE.out] at h0
            cases h0
        · obtain rfl : j = i := by omega
          have d3 : decide ((j : Int) < (j : Int)) = false := decide_eq_false (by omega)
          have d4 : decide (j < j) = false := decide_eq_false (by omega)
          have HE : Hid (p.odd l true 6 = 0) := odd_fine HA.out fun n hn => HJ.out n (by have := HM.out; omega)
          have hP1 := HPk.out _ HW.out.2
          have q0 := hP1.c0
          have q1 := hP1.blk.frozen 0
          have HP1 := Lib.hid hP1
          clear HJ HL hP1
          go_wp2
          go_ret
          obtain ⟨k1, k2, k3⟩ := HK.out
          have hw := HW.out
          have e1 : p.turned l false = ⟨p.lo, p.turnK l false j⟩ := by
            unfold Pl.turned
            rw [← HM.out]
          have hb := HP1.out.blk.set_ 0 (.pointer (some ⟨k, 0, none⟩))
          rw [poolCells_set] at hb
          refine ⟨by rw [HE.out]; rfl, fun _ => ?_, fun h0 => absurd HE.out h0, (turns_of_only hw.2 (.inr rfl)).trans (Turns.set_ (.inl rfl) 0 _)⟩
          rw [e1]
          refine PP.with_ HP.out (Pl.turnK_length _ _ _ _) hb ?_ k1
          exact hw.1.only (only_set _ g 0 _) (fun e => k1 e.symm) HP.out.pos
set_option maxRecDepth 100000 in
theorem pgive_none (L : Option Addr) (m d : Nat) (w : World) : Calls Tryd.prog 13 #[.pointer none, .slice L m d] w fun e w' => e = .returned (.int .i64 8) ∧ Below w.heap.size w w' := by
  have z0 := fun w' => Tryd.poolIsN w'
  go_enter Tryd.func13, Tryd.ntmps13
  go_wp2
  go_ret
  exact ⟨rfl, Below.refl _ _⟩
set_option maxRecDepth 100000 in
set_option maxHeartbeats 1000000 in
theorem pgive_any {w : World} {g : Nat} {F : Nat → Prop} {p : Pl} (h : PPool w g F p) (l : List Int) (L : Option Addr) (m d : Nat) (hm : m = l.length) (hs : m ≤ 100000) (hl : RI w w.heap.size L l) (hn : 0 < m → ∀ ad, L = some ad → ¬ F ad.block) (hz : ∀ z ∈ l, InZ z) : Calls Tryd.prog 13 #[.pointer (some ⟨g, 0, none⟩), .slice L m d] w fun e w' => ∃ F', e = .returned (.int .i64 (p.give l).2) ∧ PPool w' g F' (p.give l).1 ∧ Turns w w' F F' := by
  obtain ⟨s, h, hF⟩ := h
  have z0 := fun w' => Tryd.poolIsS g w'
  have hmf : ∀ (fn : Fn) (first cap : Array Value) (w : World), (Instr.makeFunc fn first cap).run Tryd.prog w = .ok (.func fn first cap) w := fun _ _ _ _ => rfl
  have c0 := h.c0
  have HCl := Lib.hid (bitsClone_any p.pad s w h.set h.len)
  have HBc : Hid (∀ (W : World) (k : Nat), w.heap.size ≤ k → SetAt W k p.pad → Below w.heap.size w W → Calls Tryd.prog 30 #[.pointer (some ⟨g, 0, none⟩), .pointer (some ⟨k, 0, none⟩), .func (.func 31) #[.pointer (some ⟨k, 0, none⟩)] #[], .slice L m d] W fun e w' =>
      e = .returned (.int .i64 (p.odd l true 6)) ∧ (p.odd l true 6 = 0 → PP w' g k (p.turned l false)) ∧ (p.odd l true 6 ≠ 0 → PP w' g s p) ∧ Turns W w' (fun j => j = g ∨ j = k) (fun j => j = g ∨ j = k)) := fun W k hk hS hb =>
    become_give (h.up hb) hS (by have := h.lt; omega) (by have := h.slt; omega) l L m d hm hs (ri_up hl hb) fun h0 ad e => by
      obtain ⟨b, off, e2, hlt, _⟩ := hl (by omega)
      rw [e] at e2; injection e2 with e2; subst e2
      show b ≠ k
      omega
  have HF := Lib.hid hF
  have HG : Hid (p.give l = if p.odd l true 6 = 0 then (p.turned l false, 0) else (p, p.odd l true 6)) := rfl
  generalize p.odd l true 6 = o at HBc HG
  clear h hF hl hn hz hm
  go_enter Tryd.func13, Tryd.ntmps13
  go_wp2_with (first
    | (go_at_call 29; (with_reducible refine HCl.out.mono ?_); rintro e w1 ⟨k, rfl, hk, hS1, hb1⟩)
    | (go_at_call 30; (with_reducible refine (HBc.out w1 k hk.out hS1.out hb1).mono ?_); rintro e w2 ⟨rfl, hy, hn2, ht2⟩))
  go_ret
  have hk2 := hk.out
  have htt : Turns w w2 (fun j => j = g ∨ j = s) (fun j => j = g ∨ j = k) := turns_two_new hb1 ht2 hk2
  by_cases h0 : o = 0
  · refine ⟨_, by rw [HG.out, if_pos h0, h0]; rfl, by rw [HG.out, if_pos h0]; exact (hy h0).pool, ?_⟩
    exact htt.wide (fun j hj => (HF.out j).2 hj) (fun j hj => .inr (.inl hj))
  · refine ⟨F, by rw [HG.out, if_neg h0]; rfl, by rw [HG.out, if_neg h0]; exact ⟨s, hn2 h0, HF.out⟩, ?_⟩
    exact htt.wide (fun j hj => (HF.out j).2 hj) (fun j hj => .inl hj)

section
variable {p : Pl} {g s k i : Nat} {W W0 : World} {l : List Int}
theorem deed_mark_yes (hp : PP W0 g s p) (hi : i < l.length) (ht : ∀ j, j < l.length → p.th (l.getD j 0) = true) (hS : SetAt W k (Pl.pad ⟨p.lo, p.turnK l true i⟩)) (ho : p.oddAt l false i = true) :
    Calls Tryd.prog 28 #[.pointer (some ⟨k, 0, none⟩), .int .i64 (l.getD i 0)] W fun e w' => e = .returned (.int .i64 0) ∧ SetAt w' k (Pl.pad ⟨p.lo, p.turnK l true (i + 1)⟩) ∧ Only W w' k := by
  have h2 := th_small hp (ht i hi)
  have h1 := bitsAdd_any _ k (l.getD i 0) W ⟨by omega, by omega⟩ hS (by rw [pad_turn_len]; exact hp.len)
  have h3 : Pl.has ⟨p.lo, p.turnK l true i⟩ (l.getD i 0) = false := (Pl.turn_odd (v := true) hi ht).2 ho
  rw [Pl.pad_add (p := ⟨p.lo, p.turnK l true i⟩) hp.small.1.1 (by rw [th_turn]; exact ht i hi), h3] at h1
  exact h1
theorem deed_mark_no (hp : PP W0 g s p) (hi : i < l.length) (ht : ∀ j, j < l.length → p.th (l.getD j 0) = true) (hS : SetAt W k (Pl.pad ⟨p.lo, p.turnK l true i⟩)) (ho : p.oddAt l false i = false) :
    Calls Tryd.prog 28 #[.pointer (some ⟨k, 0, none⟩), .int .i64 (l.getD i 0)] W fun e w' => e = .returned (.int .i64 7) ∧ Only W w' k := by
  have h2 := th_small hp (ht i hi)
  have h1 := bitsAdd_any _ k (l.getD i 0) W ⟨by omega, by omega⟩ hS (by rw [pad_turn_len]; exact hp.len)
  have h3 : Pl.has ⟨p.lo, p.turnK l true i⟩ (l.getD i 0) = true := by
    have h4 := Pl.turn_odd (p := p) (v := true) hi ht
    cases hh : Pl.has ⟨p.lo, p.turnK l true i⟩ (l.getD i 0) with
    | true => rfl
    | false =>
      have h5 := h4.1 hh
      have h6 : p.oddAt l false i = true := h5
      rw [ho] at h6
      cases h6
  rw [Pl.pad_add (p := ⟨p.lo, p.turnK l true i⟩) hp.small.1.1 (by rw [th_turn]; exact ht i hi), h3] at h1
  exact h1.mono fun e w' h => ⟨h.1, h.2.2⟩
end
set_option maxRecDepth 100000 in
set_option maxHeartbeats 4000000 in
theorem become_mark {w : World} {g s k : Nat} {p : Pl} (h : PP w g s p) (hS : SetAt w k p.pad) (hgk : g ≠ k) (hsk : s ≠ k) (l : List Int) (L : Option Addr) (m d : Nat) (hm : m = l.length) (hs : m ≤ 100000) (hl : RI w w.heap.size L l) (hn : 0 < m → ∀ ad, L = some ad → ad.block ≠ k) :
    Calls Tryd.prog 30 #[.pointer (some ⟨g, 0, none⟩), .pointer (some ⟨k, 0, none⟩), .func (.func 28) #[.pointer (some ⟨k, 0, none⟩)] #[], .slice L m d] w fun e w' =>
      e = .returned (.int .i64 (p.odd l false 7)) ∧ (p.odd l false 7 = 0 → PP w' g k (p.turned l true)) ∧ (p.odd l false 7 ≠ 0 → PP w' g s p) ∧ Turns w w' (fun j => j = g ∨ j = k) (fun j => j = g ∨ j = k) := by
  have n0 := fun w' => Tryd.notFalse w'
  have n1 := fun w' => Tryd.notTrue w'
  have hTB : TB < k := hS.pos
  have HP := Lib.hid h
  have HK : Hid (g ≠ k ∧ s ≠ k ∧ TB < k) := ⟨hgk, hsk, hTB⟩
  have HM := Lib.hid hm
  have HS := Lib.hid hS
  have HL : Hid (∀ (W : World) (i : Nat), i < m → Only w W k → ∃ b off, L = some ⟨b, off, none⟩ ∧ W.cell? ⟨b, off + i, none⟩ = some (.int .i64 (l.getD i 0))) := fun W i hi ho => by
    obtain ⟨b, off, e, hlt, hc⟩ := hl (by omega)
    refine ⟨b, off, e, ?_⟩
    have hb := hn (by omega) _ e
    rw [World.cell?_of_block (a := ⟨b, off + i, none⟩) (ho.block b hlt (by simp at hb ⊢; omega)), hc i (by omega), List.getD_eq_getElem?_getD, List.getElem?_eq_getElem (by omega)]
    rfl
  have HO : Hid (∀ (W : World) (b : Int), PP W g s p → Calls Tryd.prog 42 #[.pointer (some ⟨g, 0, none⟩), .int .i64 b] W fun e w' => e = .returned (.bool (p.th b)) ∧ W = w') := fun W b hW => (powns_any p g s b W hW).mono fun _ _ h => ⟨h.1, h.2.symm⟩
  have HPk : Hid (∀ W, Only w W k → PP W g s p) := fun W ho => h.turns (turns_of_only ho (F := fun j => j = k) rfl) hgk hsk (by show ¬ TB = k; omega)
  clear h hS hgk hsk hm hl hn hTB
  go_enter Tryd.func30, Tryd.ntmps30
  go_wp2
  go_loopw [16] (fun x wr => ∃ i : Nat, i ≤ m ∧ x = .int .i64 (i : Int) ∧ Hid (∀ j, j < i → p.th (l.getD j 0) = true) ∧ w = wr) (fun x _ => m - (intOf x).toNat)
  case atStart => exact ⟨0, by omega, rfl, fun j hj => by omega, rfl⟩
  case round =>
    obtain ⟨i, hi, rfl, HT, rfl⟩ := hrel
    by_cases hlt : i < m
    · obtain ⟨b, off, rfl, hc⟩ := HL.out w i hlt (only_refl w k)
      have d3 : decide ((i : Int) < (m : Int)) = true := decide_eq_true (by omega)
      have d4 : decide (i < m) = true := decide_eq_true hlt
      have y8 : IntKind.i64.wrap ((i : Int) + 1) = (i : Int) + 1 := IntWalk.i64_in _ (by omega)
      have HO1 := HO.out w (l.getD i 0) HP.out
      cases ht : p.th (l.getD i 0) with
      | true =>
        rw [ht] at HO1
        have HO1 := Lib.hid HO1
        have HT1 : Hid (∀ j, j < i + 1 → p.th (l.getD j 0) = true) := fun j hj => by
          rcases Nat.lt_or_ge j i with h1 | h1
          · exact HT.out j h1
          · rw [show j = i by omega]; exact ht
        generalize l.getD i 0 = x at hc HO1
        clear HT ht HO HL
        go_wp2_with (go_at_call 42; (with_reducible refine HO1.out.mono ?_); rintro e w' ⟨rfl, rfl⟩)
        refine ⟨⟨i + 1, by omega, by go_num, HT1, trivial⟩, ?_⟩
        simp [intOf]; omega
      | false =>
        rw [ht] at HO1
        have HO1 := Lib.hid HO1
        have HE : Hid (p.odd l false 7 = 10) := odd_block (i := i) (by have := HM.out; omega) ht
        generalize l.getD i 0 = x at hc HO1
        clear HT ht HO HL
        go_wp2_with (go_at_call 42; (with_reducible refine HO1.out.mono ?_); rintro e w' ⟨rfl, rfl⟩)
        go_ret
        refine ⟨by rw [HE.out]; rfl, fun h0 => ?_, fun _ => HP.out, Turns.refl _ _⟩
        rw [HE.out] at h0
        cases h0
    · obtain rfl : i = m := by omega
      have d3 : decide ((i : Int) < (i : Int)) = false := decide_eq_false (by omega)
      have d4 : decide (i < i) = false := decide_eq_false (by omega)
      have HA : Hid (∀ j, j < l.length → p.th (l.getD j 0) = true) := fun j hj => HT.out j (by have := HM.out; omega)
      clear HT HO
      go_wp2
      go_loopw [27] (fun x wr => ∃ j : Nat, j ≤ i ∧ x = .int .i64 (j : Int) ∧ Hid (∀ n, n < j → p.oddAt l false n = true) ∧ Hid (SetAt wr k (Pl.pad ⟨p.lo, p.turnK l true j⟩) ∧ Only w wr k)) (fun x _ => i - (intOf x).toNat)
      case atStart => exact ⟨0, by omega, rfl, fun j hj => by omega, HS.out, only_refl w k⟩
      case round =>
        obtain ⟨j, hj, rfl, HJ, HW⟩ := hrel
        by_cases hlt : j < i
        · obtain ⟨b, off, rfl, hc⟩ := HL.out wr j hlt HW.out.2
          have d3 : decide ((j : Int) < (i : Int)) = true := decide_eq_true (by omega)
          have d4 : decide (j < i) = true := decide_eq_true hlt
          have y8 : IntKind.i64.wrap ((j : Int) + 1) = (j : Int) + 1 := IntWalk.i64_in _ (by omega)
          have hjl : j < l.length := by have := HM.out; omega
          cases ho : p.oddAt l false j with
          | true =>
            have HD := deed_mark_yes HP.out hjl HA.out HW.out.1 ho
            have HD := Lib.hid HD
            have HJ1 : Hid (∀ n, n < j + 1 → p.oddAt l false n = true) := fun n hn => by
              rcases Nat.lt_or_ge n j with h1 | h1
              · exact HJ.out n h1
              · rw [show n = j by omega]; exact ho
            generalize l.getD j 0 = x at hc HD
            clear HJ ho HL
            go_wp2_with (go_at_call 28; (with_reducible refine HD.out.mono ?_); rintro e w1 ⟨rfl, hs1, ho1⟩)
            refine ⟨⟨j + 1, by omega, by go_num, HJ1, hs1, only_trans HW.out.2 ho1⟩, ?_⟩
            simp [intOf]; omega
          | false =>
            have HD := deed_mark_no HP.out hjl HA.out HW.out.1 ho
            have HD := Lib.hid HD
            have HE : Hid (p.odd l false 7 = 7) := odd_wrong HA.out hjl ho
            generalize l.getD j 0 = x at hc HD
            clear HJ ho HL
            go_wp2_with (go_at_call 28; (with_reducible refine HD.out.mono ?_); rintro e w1 ⟨rfl, ho1⟩)
            go_ret
            have hoo := only_trans HW.out.2 ho1
            refine ⟨by rw [HE.out]; rfl, fun h0 => ?_, fun _ => HPk.out _ hoo, turns_of_only hoo (.inr rfl)⟩
            rw [HE.out] at h0
            cases h0
        · obtain rfl : j = i := by omega
          have d3 : decide ((j : Int) < (j : Int)) = false := decide_eq_false (by omega)
          have d4 : decide (j < j) = false := decide_eq_false (by omega)
          have HE : Hid (p.odd l false 7 = 0) := odd_fine HA.out fun n hn => HJ.out n (by have := HM.out; omega)
          have hP1 := HPk.out _ HW.out.2
          have q0 := hP1.c0
          have q1 := hP1.blk.frozen 0
          have HP1 := Lib.hid hP1
          clear HJ HL hP1
          go_wp2
          go_ret
          obtain ⟨k1, k2, k3⟩ := HK.out
          have hw := HW.out
          have e1 : p.turned l true = ⟨p.lo, p.turnK l true j⟩ := by
            unfold Pl.turned
            rw [← HM.out]
          have hb := HP1.out.blk.set_ 0 (.pointer (some ⟨k, 0, none⟩))
          rw [poolCells_set] at hb
          refine ⟨by rw [HE.out]; rfl, fun _ => ?_, fun h0 => absurd HE.out h0, (turns_of_only hw.2 (.inr rfl)).trans (Turns.set_ (.inl rfl) 0 _)⟩
          rw [e1]
          refine PP.with_ HP.out (Pl.turnK_length _ _ _ _) hb ?_ k1
          exact hw.1.only (only_set _ g 0 _) (fun e => k1 e.symm) HP.out.pos
set_option maxRecDepth 100000 in
theorem pmark_none (L : Option Addr) (m d : Nat) (w : World) : Calls Tryd.prog 17 #[.pointer none, .slice L m d] w fun e w' => e = .returned (.int .i64 8) ∧ Below w.heap.size w w' := by
  have z0 := fun w' => Tryd.poolIsN w'
  go_enter Tryd.func17, Tryd.ntmps17
  go_wp2
  go_ret
  exact ⟨rfl, Below.refl _ _⟩
set_option maxRecDepth 100000 in
set_option maxHeartbeats 1000000 in
theorem pmark_any {w : World} {g : Nat} {F : Nat → Prop} {p : Pl} (h : PPool w g F p) (l : List Int) (L : Option Addr) (m d : Nat) (hm : m = l.length) (hs : m ≤ 100000) (hl : RI w w.heap.size L l) (hn : 0 < m → ∀ ad, L = some ad → ¬ F ad.block) (hz : ∀ z ∈ l, InZ z) : Calls Tryd.prog 17 #[.pointer (some ⟨g, 0, none⟩), .slice L m d] w fun e w' => ∃ F', e = .returned (.int .i64 (p.mark l).2) ∧ PPool w' g F' (p.mark l).1 ∧ Turns w w' F F' := by
  obtain ⟨s, h, hF⟩ := h
  have z0 := fun w' => Tryd.poolIsS g w'
  have hmf : ∀ (fn : Fn) (first cap : Array Value) (w : World), (Instr.makeFunc fn first cap).run Tryd.prog w = .ok (.func fn first cap) w := fun _ _ _ _ => rfl
  have c0 := h.c0
  have HCl := Lib.hid (bitsClone_any p.pad s w h.set h.len)
  have HBc : Hid (∀ (W : World) (k : Nat), w.heap.size ≤ k → SetAt W k p.pad → Below w.heap.size w W → Calls Tryd.prog 30 #[.pointer (some ⟨g, 0, none⟩), .pointer (some ⟨k, 0, none⟩), .func (.func 28) #[.pointer (some ⟨k, 0, none⟩)] #[], .slice L m d] W fun e w' =>
      e = .returned (.int .i64 (p.odd l false 7)) ∧ (p.odd l false 7 = 0 → PP w' g k (p.turned l true)) ∧ (p.odd l false 7 ≠ 0 → PP w' g s p) ∧ Turns W w' (fun j => j = g ∨ j = k) (fun j => j = g ∨ j = k)) := fun W k hk hS hb =>
    become_mark (h.up hb) hS (by have := h.lt; omega) (by have := h.slt; omega) l L m d hm hs (ri_up hl hb) fun h0 ad e => by
      obtain ⟨b, off, e2, hlt, _⟩ := hl (by omega)
      rw [e] at e2; injection e2 with e2; subst e2
      show b ≠ k
      omega
  have HF := Lib.hid hF
  have HG : Hid (p.mark l = if p.odd l false 7 = 0 then (p.turned l true, 0) else (p, p.odd l false 7)) := rfl
  generalize p.odd l false 7 = o at HBc HG
  clear h hF hl hn hz hm
  go_enter Tryd.func17, Tryd.ntmps17
  go_wp2_with (first
    | (go_at_call 29; (with_reducible refine HCl.out.mono ?_); rintro e w1 ⟨k, rfl, hk, hS1, hb1⟩)
    | (go_at_call 30; (with_reducible refine (HBc.out w1 k hk.out hS1.out hb1).mono ?_); rintro e w2 ⟨rfl, hy, hn2, ht2⟩))
  go_ret
  have hk2 := hk.out
  have htt : Turns w w2 (fun j => j = g ∨ j = s) (fun j => j = g ∨ j = k) := turns_two_new hb1 ht2 hk2
  by_cases h0 : o = 0
  · refine ⟨_, by rw [HG.out, if_pos h0, h0]; rfl, by rw [HG.out, if_pos h0]; exact (hy h0).pool, ?_⟩
    exact htt.wide (fun j hj => (HF.out j).2 hj) (fun j hj => .inr (.inl hj))
  · refine ⟨F, by rw [HG.out, if_neg h0]; rfl, by rw [HG.out, if_neg h0]; exact ⟨s, hn2 h0, HF.out⟩, ?_⟩
    exact htt.wide (fun j hj => (HF.out j).2 hj) (fun j hj => .inl hj)
end Go.Proofs.YtibaaideleinhaaDoor
