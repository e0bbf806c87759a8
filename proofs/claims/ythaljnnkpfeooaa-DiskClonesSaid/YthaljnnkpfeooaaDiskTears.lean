/- DiskTears returns true for every list of writes, every number and all masks, and leaves memory that was there as it was; nothing else is assumed beyond the statement itself. -/
import Derived.Test.YthaljnnkpfeooaaDiskTearsM
set_option linter.unusedVariables false
namespace Go.Proofs.Ythaljnnkpfeooaa
open Go.ChangeShapes Go.WideShapes Go.ChangeAt Go.RowKit

theorem Dk.want_length (masks : List Int) (k : Nat) : ∀ (l : List (List UInt8)) (i : Nat) (cur : List UInt8), (∀ b ∈ l, b.length = 256) → cur.length = 256 → (Dk.want masks k l i cur).length = 256
  | [], i, cur, _, h => h
  | b :: l, i, cur, hl, h => by
    rw [Dk.want]
    refine Dk.want_length masks k l (i + 1) _ (fun x hx => hl x (List.mem_cons_of_mem _ hx)) ?_
    split
    · exact hl b (List.mem_cons_self ..)
    · exact h
/-- A part of bytes. -/
theorem rb_part {w : World} {B a : Nat} {L : List UInt8} (h : RB w B (some ⟨a, 0, none⟩) L) (q m : Nat) (hq : q + m ≤ L.length) (hm : 0 < m) : RB w B (some ⟨a, q, none⟩) ((L.drop q).take m) := by
  have h1 := rb_cut h (k := q) (c := L.length + 1) (by omega) (by omega)
  rw [if_neg (by omega)] at h1
  simp only [Option.map_some, Nat.mul_one, add_at, Nat.zero_add] at h1
  exact rb_take h1 m (by rw [List.length_drop]; omega)

set_option maxRecDepth 100000 in
set_option maxHeartbeats 2000000 in
theorem tears_out (m : Nat) (A : Option Addr) (c : Nat) (i : Int) (v : Value) (w : World) (h : 20 < m ∨ i < 0 ∨ 15 < i) :
    Calls Try.prog 6 #[.slice A m c, .int .i64 i, v] w fun e w' => e = .returned (.bool true) ∧ Below w.heap.size w w' := by
  have HB : Hid (Calls Try.prog 10 #[.int .i64 16] w fun e w' => ∃ g F, e = .returned (.tuple #[.pointer (some ⟨g, 0, none⟩), .int .i64 0]) ∧ GivesDisk Aw.d0 w w' g F) := blank_any 16 w (by omega) (by omega)
  have HAw := Lib.hid awake6_any
  have z1 := fun g w' => Try.dIsNil g w'
  have hh : (20 < m) ∨ (¬ 20 < m ∧ i < 0) ∨ (¬ 20 < m ∧ ¬ i < 0 ∧ 15 < i) := by omega
  clear h
  rcases hh with h | ⟨h1, h⟩ | ⟨h1, h2, h⟩
  · have e1 : decide ((m : Int) > 20) = true := decide_eq_true (by omega)
    have e2 : decide (20 < m) = true := decide_eq_true h
    have e3 : decide ((20 : Int) < (m : Int)) = true := decide_eq_true (by omega)
    go_enter Try.func6, Try.ntmps6
    go_wp2_with (first
      | (go_at_call 10; (with_reducible refine HB.out.mono ?_); rintro e w1 ⟨g, F0, rfl, hG⟩; have h1 : Has w w1 g F0 Aw.d0 := Has.gives (Below.refl _ _) hG)
      | (go_at_call 9; (with_reducible refine (HAw.out _).mono ?_); rintro e w3 ⟨rfl, hb3⟩))
    go_ret
    exact ⟨rfl, chain6 h1.below hb3⟩
  · have e1 : decide ((m : Int) > 20) = false := decide_eq_false (by omega)
    have e2 : decide (20 < m) = false := decide_eq_false h1
    have e3 : decide ((20 : Int) < (m : Int)) = false := decide_eq_false (by omega)
    have e4 : decide (i < 0) = true := decide_eq_true h
    go_enter Try.func6, Try.ntmps6
    go_wp2_with (first
      | (go_at_call 10; (with_reducible refine HB.out.mono ?_); rintro e w1 ⟨g, F0, rfl, hG⟩; have h1 : Has w w1 g F0 Aw.d0 := Has.gives (Below.refl _ _) hG)
      | (go_at_call 9; (with_reducible refine (HAw.out _).mono ?_); rintro e w3 ⟨rfl, hb3⟩))
    go_ret
    exact ⟨rfl, chain6 (by assumption : Has w w1 g F0 Aw.d0).below hb3⟩
  · have e1 : decide ((m : Int) > 20) = false := decide_eq_false (by omega)
    have e2 : decide (20 < m) = false := decide_eq_false h1
    have e3 : decide ((20 : Int) < (m : Int)) = false := decide_eq_false (by omega)
    have e4 : decide (i < 0) = false := decide_eq_false h2
    have e5 : decide (i > 15) = true := decide_eq_true h
    have e6 : decide (15 < i) = true := decide_eq_true h
    go_enter Try.func6, Try.ntmps6
    go_wp2_with (first
      | (go_at_call 10; (with_reducible refine HB.out.mono ?_); rintro e w1 ⟨g, F0, rfl, hG⟩; have h1 : Has w w1 g F0 Aw.d0 := Has.gives (Below.refl _ _) hG)
      | (go_at_call 9; (with_reducible refine (HAw.out _).mono ?_); rintro e w3 ⟨rfl, hb3⟩))
    go_ret
    exact ⟨rfl, chain6 (by assumption : Has w w1 g F0 Aw.d0).below hb3⟩

set_option maxRecDepth 100000 in
set_option maxHeartbeats 4000000 in
theorem tears_in (Ls : List (List UInt8)) (A : Option Addr) (c n : Nat) (Z : List Int) (A2 : Option Addr) (c2 m mz : Nat) (w : World) (hp : Parts w w.heap.size A Ls) (hM : RI w w.heap.size A2 Z) (hm : m = Ls.length) (hmz : mz = Z.length) (h20 : m ≤ 20) (hn : n ≤ 15) :
    Calls Try.prog 6 #[.slice A m c, .int .i64 (n : Int), .slice A2 mz c2] w fun e w' => e = .returned (.bool true) ∧ Below w.heap.size w w' := by
  have HB : Hid (Calls Try.prog 10 #[.int .i64 16] w fun e w' => ∃ g F, e = .returned (.tuple #[.pointer (some ⟨g, 0, none⟩), .int .i64 0]) ∧ GivesDisk Aw.d0 w w' g F) := blank_any 16 w (by omega) (by omega)
  have HAw := Lib.hid awake6_any
  have z1 := fun g w' => Try.dIsNil g w'
  have e1 : decide ((m : Int) > 20) = false := decide_eq_false (by omega)
  have e2 : decide (20 < m) = false := decide_eq_false (by omega)
  have e3 : decide ((20 : Int) < (m : Int)) = false := decide_eq_false (by omega)
  have e4 : decide ((n : Int) < 0) = false := decide_eq_false (by omega)
  have e5 : decide ((n : Int) > 15) = false := decide_eq_false (by omega)
  have e6 : decide ((15 : Int) < (n : Int)) = false := decide_eq_false (by omega)
  have e7 : decide (15 < n) = false := decide_eq_false (by omega)
  have HP := Lib.hid hp
  have HM := Lib.hid hM
  have Hm := Lib.hid hm
  have Hmz := Lib.hid hmz
  have Hn := Lib.hid hn
  have Hd : Hid (Aw.d0 = Dk.tk n Ls 0) := rfl
  clear hp hM hm hmz hn
  go_enter Try.func6, Try.ntmps6
  go_wp2_with (first
    | (go_at_call 10; (with_reducible refine HB.out.mono ?_); rintro e w1 ⟨g, F0, rfl, hG⟩; have h1 : Has w w1 g F0 (Dk.tk n Ls 0) := Has.gives (Below.refl _ _) hG))
  go_loopw [9] (fun x wr => ∃ i : Nat, i ≤ m ∧ x = .int .i64 (i : Int) ∧ ∃ F, Hid (Has w wr g F (Dk.tk n Ls i))) (fun x _ => m - (intOf x).toNat)
  case atStart => exact ⟨0, by omega, rfl, F0, h1⟩
  case round =>
    clear h1 hG
    obtain ⟨i, hi, rfl, F, hH⟩ := hrel
    by_cases hlt : i < m
    · have hi2 : i < Ls.length := by have := Hm.out; omega
      obtain ⟨b, off, rfl, hbb, hcc⟩ := HP.out (by omega)
      obtain ⟨Ai, ci, hh1, hh2, hh3, hh4⟩ := hcc i hi2
      have k1 : wr.cell? ⟨b, off + i, none⟩ = some (.slice Ai Ls[i].length ci) := by rw [hH.out.below.cell (p := ⟨b, off + i, none⟩) hbb]; exact hh1
      obtain ⟨li, hli⟩ : ∃ li, li = Ls[i].length := ⟨_, rfl⟩
      rw [← hli] at k1
      have HBk : Hid (Calls Try.prog 24 #[.slice Ai li ci] wr fun e w' => ∃ g5, e = .returned (.slice (some ⟨g5, 0, none⟩) 256 256) ∧ wr.heap.size ≤ g5 ∧ Blk w' g5 5 (cells (blockL Ls[i])).toArray ∧ Below wr.heap.size wr w') :=
        blockl_any Ls[i] Ai li ci wr ((hh2.below hH.out.below).more hH.out.below.size) hli (by unfold maxLen at hh4; omega)
      have HWr : Hid (∀ (W : World) (q : Nat), Has w W g F (Dk.tk n Ls i) → RB W W.heap.size (some ⟨q, 0, none⟩) (blockL Ls[i]) → (∀ ad, (some ⟨q, 0, none⟩ : Option Addr) = some ad → ¬ F ad.block) → Calls Try.prog 23 #[.pointer (some ⟨g, 0, none⟩), .int .i64 (n : Int), .slice (some ⟨q, 0, none⟩) 256 256] W fun e w' => e = .returned (.int .i64 0) ∧ ∃ F', Has w w' g F' (Dk.tk n Ls (i + 1))) := fun W q h hr hq => by
        have := write_any h.disk (n : Int) (Dk.tk_load n Ls i (by omega)) (blockL Ls[i]) (some ⟨q, 0, none⟩) 256 256 (blockL_length _).symm hr hq (Nat.le_refl _) (by omega)
        unfold WritePost at this
        rw [Dk.tk_write n Hn.out Ls i hi2] at this
        refine this.mono ?_
        rintro e w' ⟨F', he, hp', ht'⟩
        exact ⟨he, F', h.turned hp' ht'⟩
      have u0 : (0 : Int) ≤ (i : Int) := by omega
      have u1 : (i : Int) < (m : Int) := by omega
      clear hcc hh1 hh2 hh3 hh4 hli
      go_wp2_with (first
        | (go_at_call 24; (with_reducible refine HBk.out.mono ?_); rintro e w5 ⟨g5, rfl, hg5, hB5, hb5⟩)
        | (go_at_call 23; (with_reducible refine (HWr.out _ _ (hH.out.more hb5) (rb_blk6 hB5) (hH.out.new hg5)).mono ?_); rintro e w6 ⟨rfl, F6, hH6⟩; have HH6 := Lib.hid hH6; clear hH6))
      refine ⟨⟨i + 1, by omega, by go_num, F6, HH6⟩, ?_⟩
      simp [intOf]; omega
    · have him : i = m := by omega
      obtain ⟨R, hR, hRl, hRs⟩ := Dk.tk_read n Hn.out Ls Z m Hm.out
      have hH2 := hH.out
      rw [him] at hH2
      have HH := Lib.hid hH2
      have HCr : Hid (Calls Try.prog 20 #[.pointer (some ⟨g, 0, none⟩), .slice A2 mz c2] wr fun e w' => e = .returned (.tuple #[]) ∧ Has w w' g F ((Dk.tk n Ls m).crash Z)) := by
        refine (crash_any hH2.disk Z A2 mz c2 Hmz.out ?_ ?_).mono ?_
        · intro h0
          obtain ⟨b, off, e, hlt, hc⟩ := HM.out h0
          exact ⟨b, off, e, Nat.lt_of_lt_of_le hlt hH2.below.size, fun k hk => (hH2.below.cell (p := ⟨b, off + k, none⟩) hlt).trans (hc k hk)⟩
        · intro h0 ad e hf
          obtain ⟨b, off, e', hlt, _⟩ := HM.out h0
          rw [e] at e'
          injection e' with e'
          subst e'
          have := hH2.own _ hf
          simp at this
          omega
        · rintro e w' ⟨he, hd⟩
          exact ⟨he, hH2.deeds hd⟩
      have HRd : Hid (∀ W, Has w W g F ((Dk.tk n Ls m).crash Z) → Calls Try.prog 19 #[.pointer (some ⟨g, 0, none⟩), .int .i64 (n : Int)] W fun e w' => ∃ a c, e = .returned (.tuple #[.slice (some ⟨a, 0, none⟩) 256 c, .int .i64 0]) ∧ 256 ≤ c ∧ c ≤ 9223372036854775807 ∧ Hid (RB w' w'.heap.size (some ⟨a, 0, none⟩) R) ∧ Below w.heap.size w w') := fun W h => by
        refine (read_any h.disk (n : Int) ?_).mono ?_
        · show 0 + m + 0 + 0 ≤ 100000
          omega
        · rintro e w' ⟨A3, c3, he, ho, hd⟩
          rw [hR] at he ho
          simp only at he ho
          obtain ⟨a, rfl, hA, hl1, hl2, _⟩ := own_arr ho (by omega)
          refine ⟨a, c3, ?_, by omega, hl2, hA.all, (h.deeds hd).below⟩
          rw [he, hRl]
      have d0 : decide ((i : Int) < (m : Int)) = false := decide_eq_false (by omega)
      have d1 : decide (i < m) = false := decide_eq_false hlt
      clear him hH hH2 hi hlt
      go_wp2_with (first
        | (go_at_call 20; (with_reducible refine HCr.out.mono ?_); rintro e w7 ⟨rfl, h7⟩; have H7 := Lib.hid h7; clear h7)
        | (go_at_call 19; (with_reducible refine (HRd.out _ H7.out).mono ?_); rintro e wB ⟨ar, cr, rfl, hcr, hcr2, hRB, hbB⟩))
      have HBk0 : Hid (∀ W : World, Calls Try.prog 24 #[.slice none 0 0] W fun e w' => ∃ g, e = .returned (.slice (some ⟨g, 0, none⟩) 256 256) ∧ W.heap.size ≤ g ∧ Blk w' g 5 (cells (blockL [])).toArray ∧ Below W.heap.size W w') := fun W => block_any [] none 0 0 W (RB.none_ _ _) rfl (by simp)
      have HRl := Lib.hid hRl
      have HRs := Lib.hid hRs
      have HRB := Lib.hid hRB.out
      have HbB := Lib.hid hbB
      clear hR hRl hRs hRB hbB H7 HCr HRd HH HB
      obtain ⟨wo, hwo⟩ : ∃ wo : World, wo = wr := ⟨_, rfl⟩
      go_loopw [12] (fun x wr => ∃ k : Nat, k ≤ 4 ∧ x = .int .i64 (k : Int) ∧ Hid (Below wB.heap.size wB wr)) (fun x _ => 4 - (intOf x).toNat)
      case atStart => exact ⟨0, by omega, rfl, Below.refl _ _⟩
      case round =>
        obtain ⟨k, hk, rfl, hBk⟩ := hrel
        by_cases hk4 : k < 4
        · have u0 : (0 : Int) ≤ (k : Int) := by omega
          have u1 : (k : Int) < 4 := by omega
          go_wp2_with (first
            | (go_at_call 24; (with_reducible refine (HBk0.out _).mono ?_); rintro e wq ⟨gq, rfl, hgq, hBq, hbq⟩))
          have hBw : Below wB.heap.size wB wq := hBk.out.trans (hbq.mono hBk.out.size)
          have hRq : Hid (RB wq wq.heap.size (some ⟨gq, 0, none⟩) (Dk.want Z k ((Ls.map blockL).take 0) 0 (blockL []))) := rb_blk6 hBq
          have hBw2 := Lib.hid hBw
          clear hBk hBw hBq hbq hgq
          obtain ⟨wo2, hwo2⟩ : ∃ wo2 : World, wo2 = wr := ⟨_, rfl⟩
          go_loopw [13, 14] (fun y x wr => ∃ (j gw : Nat), j ≤ m ∧ x = .int .i64 (j : Int) ∧ y = .slice (some ⟨gw, 0, none⟩) 256 256 ∧ Hid (RB wr wr.heap.size (some ⟨gw, 0, none⟩) (Dk.want Z k ((Ls.map blockL).take j) 0 (blockL []))) ∧ Hid (Below wB.heap.size wB wr)) (fun _ x _ => m - (intOf x).toNat)
          case atStart => exact ⟨0, gq, by omega, rfl, rfl, hRq, hBw2⟩
          case round =>
            clear hRq hBw2
            obtain ⟨j, gw, hj, rfl, rfl, hRw, hBw⟩ := hrel
            have v0 : (0 : Int) ≤ (j : Int) := by omega
            by_cases hjm : j < m ∧ j < mz
            · obtain ⟨hj1, hj2⟩ := hjm
              have w1 : (j : Int) < (m : Int) := by omega
              have w2 : (j : Int) < (mz : Int) := by omega
              have hjz : j < Z.length := by have := Hmz.out; omega
              have hjl : j < Ls.length := by have := Hm.out; omega
              obtain ⟨mb, mo, rfl, hmb, hmc⟩ := HM.out (by omega)
              obtain ⟨b, off, rfl, hbb, hcc⟩ := HP.out (by omega)
              have hbw : Below w.heap.size w wr := HbB.out.trans (hBw.out.mono HbB.out.size)
              obtain ⟨zz, hzz⟩ : ∃ zz, zz = Z.getD j 0 := ⟨_, rfl⟩
              have k1 : wr.cell? ⟨mb, mo + j, none⟩ = some (.int .i64 zz) := by
                rw [hbw.cell (p := ⟨mb, mo + j, none⟩) hmb, hmc j hjz, hzz]
                simp [List.getD, hjz]
              obtain ⟨bt, hbt⟩ : ∃ bt, bt = Dk.bitOf zz k := ⟨_, rfl⟩
              have bt1 : (bits BinOp.and IntKind.i64 (zz / 2 ^ k) 1 == 1) = bt := by rw [hbt]; exact bit_test zz k
              have hsn : Dk.want Z k ((Ls.map blockL).take (j + 1)) 0 (blockL []) = if bt = true then blockL Ls[j] else Dk.want Z k ((Ls.map blockL).take j) 0 (blockL []) := by
                have hmin : (List.take j (Ls.map blockL)).length = j := by rw [List.length_take, List.length_map]; omega
                rw [List.take_succ_eq_append_getElem (by simpa using hjl), Dk.want_snoc, hmin, ← hzz, ← hbt]
                by_cases hb : bt = true
                · rw [if_pos ⟨hjz, hb⟩, if_pos hb]; simp
                · rw [if_neg (fun h => hb h.2), if_neg hb]
              rcases bt with _ | _
              · have hN : Hid (RB wr wr.heap.size (some ⟨gw, 0, none⟩) (Dk.want Z k ((Ls.map blockL).take (j + 1)) 0 (blockL []))) := by
                  show RB _ _ _ _
                  rw [hsn]; exact hRw.out
                clear hmc hcc hzz hbt hsn hbw
                go_wp2
                refine ⟨⟨j + 1, gw, by omega, by go_num, rfl, hN, hBw⟩, ?_⟩
                simp [intOf]; omega
              · obtain ⟨Ai, ci, hh1, hh2, hh3, hh4⟩ := hcc j hjl
                have k2 : wr.cell? ⟨b, off + j, none⟩ = some (.slice Ai Ls[j].length ci) := by rw [hbw.cell (p := ⟨b, off + j, none⟩) hbb]; exact hh1
                obtain ⟨li, hli⟩ : ∃ li, li = Ls[j].length := ⟨_, rfl⟩
                rw [← hli] at k2
                have HBk : Hid (Calls Try.prog 24 #[.slice Ai li ci] wr fun e w' => ∃ g5, e = .returned (.slice (some ⟨g5, 0, none⟩) 256 256) ∧ Hid (RB w' w'.heap.size (some ⟨g5, 0, none⟩) (Dk.want Z k ((Ls.map blockL).take (j + 1)) 0 (blockL []))) ∧ Hid (Below wB.heap.size wB w')) := by
                  refine (blockl_any Ls[j] Ai li ci wr ((hh2.below hbw).more hbw.size) hli (by unfold maxLen at hh4; omega)).mono ?_
                  rintro e w' ⟨g5, he, hg5, hB5, hb5⟩
                  refine ⟨g5, he, ?_, hBw.out.trans (hb5.mono hBw.out.size)⟩
                  show RB _ _ _ _
                  rw [hsn]
                  exact rb_blk6 hB5
                clear hmc hcc hzz hbt hsn hbw hh1 hh2 hh3 hh4 hli
                go_wp2_with (first
                  | (go_at_call 24; (with_reducible refine HBk.out.mono ?_); rintro e w5 ⟨g5, rfl, hR5, hb5⟩))
                refine ⟨⟨j + 1, g5, by omega, by go_num, rfl, hR5, hb5⟩, ?_⟩
                simp [intOf]; omega
            · have hwf : Dk.want Z k ((Ls.map blockL).take j) 0 (blockL []) = Dk.want Z k (Ls.map blockL) 0 (blockL []) := by
                by_cases h1 : j < m
                · exact Dk.want_all Z k _ _ j (by have := Hmz.out; omega)
                · rw [List.take_of_length_le (by rw [List.length_map]; have := Hm.out; omega)]
              obtain ⟨T, hT⟩ : ∃ T, T = Dk.want Z k (Ls.map blockL) 0 (blockL []) := ⟨_, rfl⟩
              have hTl : T.length = 256 := by
                rw [hT]
                exact Dk.want_length Z k _ 0 _ (fun b hb => by obtain ⟨x, _, rfl⟩ := List.mem_map.1 hb; exact blockL_length x) (blockL_length [])
              have hsec := HRs.out k hk4
              rw [← hT] at hsec
              have hRT : RB wr wr.heap.size (some ⟨gw, 0, none⟩) T := by rw [hT, ← hwf]; exact hRw.out
              have hRR : RB wr wr.heap.size (some ⟨ar, 0, none⟩) R := (HRB.out.below hBw.out).more hBw.out.size
              obtain ⟨q, hq⟩ : ∃ q, q = 64 * k := ⟨_, rfl⟩
              obtain ⟨X, hX⟩ : ∃ X, X = Dk.sector R k := ⟨_, rfl⟩
              have hXl : X.length = 64 := by rw [hX]; exact Dk.sector_length R HRl.out k hk4
              have p1 : RB wr wr.heap.size (some ⟨ar, q, none⟩) X := by
                rw [hX, hq]; exact rb_part hRR (64 * k) 64 (by rw [HRl.out]; omega) (by omega)
              have p2 : RB wr wr.heap.size (some ⟨gw, q, none⟩) X := by
                rw [hX, hsec, hq]; exact rb_part hRT (64 * k) 64 (by rw [hTl]; omega) (by omega)
              have HC1 : ∀ nn, (convert 33 9 (.slice (some ⟨ar, q, none⟩) 64 (cr - q))).run Try.prog (wr.drewN nn) = .ok (.string (text X)) (wr.drewN nn) := fun nn => aw_str (p1.drewN nn) 64 (cr - q) hXl.symm
              have HC2 : ∀ nn, (convert 33 9 (.slice (some ⟨gw, q, none⟩) 64 (256 - q))).run Try.prog (wr.drewN nn) = .ok (.string (text X)) (wr.drewN nn) := fun nn => aw_str (p2.drewN nn) 64 (256 - q) hXl.symm
              have HS1 := fun W => sl_both ar 0 256 cr q (q + 64) (q : Int) ((q : Int) + 64) rfl (by omega) (by omega) (by omega) (by omega) W
              have HS2 := fun W => sl_both gw 0 256 256 q (q + 64) (q : Int) ((q : Int) + 64) rfl (by omega) (by omega) (by omega) (by omega) W
              rw [show q + 64 - q = 64 by omega, Nat.zero_add] at HS1 HS2
              have y1 : (64 : Int) * (k : Int) = (q : Int) := by omega
              have y2 : IntKind.i64.wrap (q : Int) = (q : Int) := IntWalk.i64_in _ (by omega)
              have y3 : IntKind.i64.wrap ((q : Int) + 64) = (q : Int) + 64 := IntWalk.i64_in _ (by omega)
              have y4 : (0 : Int) ≤ (q : Int) := by omega
              have hex : (¬ j < m) ∨ (j < m ∧ ¬ j < mz) := by omega
              clear hwf hT hTl hsec hRT hRR hq hX hXl p1 p2 hRw hjm
              have HbN : Hid (∀ nn, Below wB.heap.size wB (wr.drewN nn)) := fun nn => ⟨hBw.out.os, hBw.out.tape, hBw.out.output, hBw.out.size, hBw.out.block⟩
              rcases hex with hx | ⟨hx1, hx2⟩
              · have d4 : decide ((j : Int) < (m : Int)) = false := decide_eq_false (by omega)
                have d5 : decide (j < m) = false := decide_eq_false hx
                go_wp2
                go_quiet (fail)
                have hbn : Hid (Below wB.heap.size wB (wr.drewN nq)) := HbN.out nq
                go_wp2
                refine ⟨⟨k + 1, by omega, by go_num, hbn⟩, ?_⟩
                simp [intOf]; omega
              · have d4 : decide ((j : Int) < (m : Int)) = true := decide_eq_true (by omega)
                have d5 : decide (j < m) = true := decide_eq_true hx1
                have d6 : decide ((j : Int) < (mz : Int)) = false := decide_eq_false (by omega)
                have d7 : decide (j < mz) = false := decide_eq_false hx2
                go_wp2
                go_quiet (fail)
                have hbn : Hid (Below wB.heap.size wB (wr.drewN nq)) := HbN.out nq
                go_wp2
                refine ⟨⟨k + 1, by omega, by go_num, hbn⟩, ?_⟩
                simp [intOf]; omega
        · have d4 : decide ((k : Int) < 4) = false := decide_eq_false (by omega)
          have HbE : Hid (Below w.heap.size w wr) := HbB.out.trans (hBk.out.mono HbB.out.size)
          clear hk4 hk hBk
          go_wp2_with (first
            | (go_at_call 9; (with_reducible refine (HAw.out _).mono ?_); rintro e wz ⟨rfl, hbz⟩))
          go_ret
          exact ⟨rfl, chain6 HbE.out hbz⟩

theorem tears_any (Ls : List (List UInt8)) (A : Option Addr) (c : Nat) (i : Int) (Z : List Int) (A2 : Option Addr) (c2 : Nat) (w : World) (hp : Parts w w.heap.size A Ls) (hM : RI w w.heap.size A2 Z) :
    Calls Try.prog 6 #[.slice A Ls.length c, .int .i64 i, .slice A2 Z.length c2] w fun e w' => e = .returned (.bool true) ∧ Below w.heap.size w w' := by
  by_cases h : 20 < Ls.length ∨ i < 0 ∨ 15 < i
  · exact tears_out _ A c i _ w h
  · obtain ⟨n, rfl⟩ : ∃ n : Nat, i = (n : Int) := ⟨i.toNat, by omega⟩
    exact tears_in Ls A c n Z A2 c2 _ _ w hp hM rfl rfl (by omega) (by omega)
theorem Try.cells5 : Try.prog.cellsOf 5 = 1 := by kernel_rfl
theorem Try.cells33 : Try.prog.cellsOf 33 = 1 := by kernel_rfl
theorem Try.cells3 : Try.prog.cellsOf 3 = 1 := by kernel_rfl
set_option maxRecDepth 100000 in
theorem tears_lifted (os : Os) (started : os.Started) (H : Type) (enc : TypeId × Value → H) :
    ReturnsInHanded {} Try.checked os 6 .any (Rows.diskTearsSpec.pre6 enc Try.prog Try.f6 Rows.diskTearsRow.domain false) (Rows.diskTearsSpec.post enc Try.prog Try.f6 false true false false) := by
  refine returnsInHanded_of_change_sized (C := Try.checked) Try.own started (by kernel_rfl) Try.func6
    (ChangeSpec.witness6 (enc := enc) (C := Try.checked) false ⟨#[], #[.slice none 0 0, .int .i64 0, .slice none 0 0], []⟩ 8 (by kernel_rfl) (by kernel_rfl) (by kernel_rfl) (by kernel_rfl)) ?_
  intro W base args ds gs before hval0 hW hcnd hsz0 _
  have hval : ∀ (j : Nat) t v, Try.f6.params[j]? = some t → args[j]? = some v → Value.okWide Try.prog W .any base t v := hval0
  have hW' : DataW.Whole enc Try.prog Try.f6.params.toList Rows.diskTearsSpec.vars false W args.toList ds gs before := hW
  have hWk := hW'
  clear hsz0 hval0
  obtain ⟨p, q, hA, hV, rfl, hfz, hnd⟩ := hW'
  rw [Try.params6] at hA hval
  obtain ⟨v0, v1, v2, d0, d1, d2, p0, p1, p2, rfl, rfl, rfl, h0, h1, h2⟩ := trodAll_three hA
  obtain ⟨rfl, rfl⟩ := trodVars_none hV
  obtain ⟨A, Ls, c, rfl, hp, hlc, hcm⟩ := open_parts Try.underlying41 Try.underlying33 Try.underlying5 Try.cells33 Try.cells5 (hval 0 41 v0 rfl rfl) h0
  obtain ⟨z, rfl, rfl, rfl, wz⟩ := open_int Try.underlying3 (hval 1 3 v1 rfl rfl) h1
  obtain ⟨A2, Z, c2, rfl, hM, hlc2, hcm2, hZ⟩ := open_intl Try.underlying34 Try.underlying3 Try.cells3 (hval 2 34 v2 rfl rfl) h2
  refine (tears_any Ls A c z Z A2 c2 W hp hM).mono fun e W' ⟨he, hb⟩ => ⟨_, he, ?_⟩
  exact law_post Try.laidOut hWk rfl rfl rfl rfl rfl Try.underlying4 (by kernel_rfl) hb
theorem tears_holds : Rows.DiskTearsSaid :=
  OpenClaim.holds_of_wide 6 Try.f6 rfl rfl rfl rfl rfl rfl rfl ⟨rfl, rfl, rfl, rfl, rfl⟩ rfl rfl rfl rfl rfl (by kernel_rfl) Try.func6 (by kernel_rfl)
    (of_decide_eq_true (by kernel_rfl)) (by unfold Func.isWrapper; first | (rw [if_pos (by decide +kernel)]; kernel_rfl) | (rw [if_neg (by decide +kernel)]; exact ⟨rfl, rfl⟩))
    (fun os started H enc _ => tears_lifted os started H enc)

end Go.Proofs.Ythaljnnkpfeooaa
