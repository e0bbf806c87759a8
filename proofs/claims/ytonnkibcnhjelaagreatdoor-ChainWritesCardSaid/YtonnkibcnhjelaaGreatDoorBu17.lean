/- Lemmas under the proofs of this place: CellPConcat, CellRNeed, CrcOpen. No statement is proved here. -/
import Derived.Test.YtonnkibcnhjelaaGreatDoorBu03
import Derived.Test.YtonnkibcnhjelaaGreatDoorBu06
import Derived.Test.YtonnkibcnhjelaaGreatDoorBu02
import Derived.Test.YtonnkibcnhjelaaGreatDoorBu09
import Derived.Test.YtonnkibcnhjelaaGreatDoorBu05
import Derived.Test.YtonnkibcnhjelaaGreatDoorBu12
import Derived.Test.YtonnkibcnhjelaaGreatDoorBu13
import Derived.Deep.RegionWith
import Derived.Deep.QuietTactic
import Derived.BigQuiet
import Derived.Lib.SmallJoins
section
set_option linter.unusedVariables false
set_option linter.unusedSimpArgs false
namespace Go.Proofs.YtonnkibcnhjelaaGreatDoor
open Go.RowKit
theorem zzero_ints (k : Nat) : Builtin.zeroCells (Value.int IntKind.i64 0).cells k = (zcells (List.replicate k 0)).toArray := by
  apply Array.toList_inj.1
  apply List.ext_getElem
  · simp [Builtin.zeroCells, zcells, Value.cells]
  · intro j h1 h2
    simp [Builtin.zeroCells, zcells, Value.cells]
    have : j % 1 = 0 := by omega
    simp [this]
set_option maxRecDepth 100000 in
set_option maxHeartbeats 2000000 in
theorem cgrow_any (n : Nat) (w : World) (hn : n ≤ 3000000) :
    Calls Tryz.prog 88 #[.slice none 0 0, .int .i64 (n : Int)] w fun e w' => ∃ A c, e = .returned (.slice A 0 c) ∧ w'.ownsRow w.heap.size 3 1 (.slice A 0 c) 0 [] ∧ Below w.heap.size w w' := by
  obtain ⟨i0, hi0, hz0, hz1, hz2⟩ := info_parts Tryz.infoZ
  by_cases h : n = 0
  · subst h
    go_enter Tryz.func88, Tryz.ntmps88
    go_wp2
    go_ret
    exact ⟨none, 0, rfl, World.ownsRow_nil _ _ _ _, Below.refl _ _⟩
  · have d0 : decide (0 < (n : Int)) = true := decide_eq_true (by omega)
    have d1 : decide ((n : Int) > 0) = true := decide_eq_true (by omega)
    have d2 : decide (0 < n) = true := decide_eq_true (by omega)
    have d3 : decide ((n : Int) < 0) = false := decide_eq_false (by omega)
    have s0 : ∀ W, (Instr.sliceAt 38 (.slice none 0 0) none (some (.int .i64 0)) none).run Tryz.prog W = .ok (.slice none 0 0) W := fun W => by
      have := zsl_to none 0 0 0 0 rfl (Nat.le_refl _) W
      simpa using this
    have HN : Hid (n ≠ 0) := h
    clear h
    go_enter Tryz.func88, Tryz.ntmps88
    go_wp2_with (at_builtin; refine wpList_append_make _ rfl (.tmp 20) (.tmp 21) 38 3 rfl w.heap.size 3 i0 _ 1 8 .i64 Tryz.underlying38 Tryz.underlying3 hi0 hz0 hz1 hz2 rfl (by omega) (.slice none 0 0) 0 [] rfl (World.ownsRow_nil _ _ _ _) n rfl (zcells (List.replicate n 0)) (zzero_ints n) (zcells_one _) (by simp only [maxLen]; omega) (by omega) (Nat.le_refl _) ?_; intro v2 w2 ho2 hg2 hat2; obtain ⟨A2, c2, rfl⟩ := own_slice7 ho2; have s1 := zsl_to A2 (0 + n) c2 0 0 rfl (Nat.zero_le _); have ho3 := zown_empty ho2)
    go_ret
    exact ⟨_, _, rfl, ho3, (Below.refl _ _).grown hg2 (Nat.le_refl _) (by simp [Value.ownBlock])⟩
def two1 (a b k : Nat) : Nat := if k = 0 then 0 else if k = 1 then a else a + b
def twoL (X Y : List Int) (k : Nat) : List Int := if k = 0 then [] else if k = 1 then X else X ++ Y
set_option maxRecDepth 100000 in
set_option maxHeartbeats 4000000 in
theorem cconcat_any (X Y : List Int) (a b : Nat) (A B : Option Addr) (cA cB g c : Nat) (w : World) (ha : a = X.length) (hb : b = Y.length) (hla : a ≤ 1000000) (hlb : b ≤ 1000000) (hg : g < w.heap.size)
    (h0 : w.cell? ⟨g, 0, none⟩ = some (.slice A a cA)) (h1 : w.cell? ⟨g, 1, none⟩ = some (.slice B b cB)) (hA : RI w w.heap.size A X) (hB : RI w w.heap.size B Y) :
    Calls Tryz.prog 58 #[.slice (some ⟨g, 0, none⟩) 2 2] w fun e w' => ∃ A c n, e = .returned (.slice A n c) ∧ n = a + b ∧ w'.ownsRow w.heap.size 3 1 (.slice A n c) n (zcells (X ++ Y)) ∧ Below w.heap.size w w' := by
  obtain ⟨i0, hi0, hz0, hz1, hz2⟩ := info_parts Tryz.infoZ
  have HL := Lib.hid (And.intro ha hb)
  have HX := Lib.hid hA
  have HY := Lib.hid hB
  have H0 := Lib.hid h0
  have H1 := Lib.hid h1
  have HG := Lib.hid hg
  have z0 := h0
  have z1 := h1
  clear ha hb hA hB h0 h1 hg
  go_enter Tryz.func58, Tryz.ntmps58
  go_wp2
  go_loop [3, 11] (fun s i => ∃ k : Nat, k ≤ 2 ∧ i = .int .i64 (k : Int) ∧ s = .int .i64 (two1 a b k : Int)) (fun _ i => 2 - (intOf i).toNat)
  case atStart => exact ⟨0, by omega, rfl, rfl⟩
  case round =>
    obtain ⟨k, hk, rfl, rfl⟩ := hrel
    by_cases hlt : k < 2
    · by_cases hk0 : k = 0
      · subst hk0
        have e0 : two1 a b 0 = 0 := rfl
        rw [e0]
        clear e0
        go_wp2
        go_round
        case rel => exact ⟨1, by omega, rfl, by simp [two1]⟩
        case measure => simp [intOf]
      · obtain rfl : k = 1 := by omega
        have e0 : two1 a b 1 = a := rfl
        rw [e0]
        clear e0
        go_wp2
        go_round
        case rel => exact ⟨2, by omega, rfl, by simp [two1]⟩
        case measure => simp [intOf]
    · obtain rfl : k = 2 := by omega
      have e0 : two1 a b 2 = a + b := rfl
      obtain ⟨t, ht⟩ : ∃ t, t = a + b := ⟨_, rfl⟩
      rw [e0, ← ht]
      have HGr : Hid (Calls Tryz.prog 88 #[.slice none 0 0, .int .i64 (t : Int)] w fun e w' => ∃ A c, e = .returned (.slice A 0 c) ∧ w'.ownsRow w.heap.size 3 1 (.slice A 0 c) 0 [] ∧ Below w.heap.size w w') := cgrow_any t w (by omega)
      have HT := Lib.hid ht
      clear e0 ht
      go_wp2_with (go_at_call 88; (with_reducible refine HGr.out.mono ?_); rintro e w1 ⟨A1, c1, rfl, ho1, hb1⟩)
      have HO1 := Lib.hid ho1
      have HB1 := Lib.hid hb1
      clear ho1 hb1
      go_loopw [6, 27] (fun v i wr => ∃ k : Nat, k ≤ 2 ∧ i = .int .i64 (k : Int) ∧ ∃ (A : Option Addr) (q cc : Nat), v = .slice A q cc ∧ q ≤ 2000000 ∧ Hid (q = two1 a b k ∧ wr.ownsRow w.heap.size 3 1 (.slice A q cc) q (zcells (twoL X Y k))) ∧ Hid (Below w.heap.size w wr)) (fun _ i _ => 2 - (intOf i).toNat)
      case atStart => exact ⟨0, by omega, rfl, A1, 0, c1, rfl, by omega, ⟨rfl, HO1.out⟩, HB1.out⟩
      case round =>
        obtain ⟨k, hk, rfl, A2, q, c2, rfl, hq, HO, HB⟩ := hrel
        by_cases hlt : k < 2
        · by_cases hk0 : k = 0
          · subst hk0
            obtain ⟨hq0, ho⟩ := HO.out
            obtain rfl : q = 0 := hq0
            have k0 := (HB.out.cell (p := ⟨g, 0, none⟩) HG.out).trans H0.out
            have hrd : Reads wr w.heap.size 1 A a (zcells X) := by
              have h2 := (HX.out.below HB.out).rz
              unfold RZ at h2
              rwa [← HL.out.1] at h2
            clear z0 z1
            go_wp2_with (at_builtin; refine wpList_append_any _ rfl (.tmp 31) (.tmp 32) 38 rfl w.heap.size 3 i0 _ 1 8 Tryz.underlying38 hi0 hz0 hz1 hz2 rfl (by omega) (.slice A2 0 c2) 0 _ rfl ho w.heap.size A a cA (zcells X) rfl hrd (zcells_one _) (by simp only [maxLen]; omega) (by omega) HB.out.size ?_; intro v3 w3 ho3 hg3 hat3; obtain ⟨A3, c3, rfl⟩ := own_slice7 ho3)
            have hb3 : Below w.heap.size w w3 := HB.out.grown hg3 HB.out.size (fun j hj => (ho.lt j hj).1)
            go_roundw
            case rel =>
              refine ⟨1, by omega, rfl, A3, a, c3, rfl, by omega, ⟨by simp [two1], ?_⟩, hb3⟩
              simpa [twoL, zcells] using ho3
            case measure => simp [intOf]
          · obtain rfl : k = 1 := by omega
            obtain ⟨hq0, ho⟩ := HO.out
            have hq1 : q = a := hq0
            have k0 := (HB.out.cell (p := ⟨g, 1, none⟩) HG.out).trans H1.out
            have hrd : Reads wr w.heap.size 1 B b (zcells Y) := by
              have h2 := (HY.out.below HB.out).rz
              unfold RZ at h2
              rwa [← HL.out.2] at h2
            have HQ := Lib.hid hq1
            clear z0 z1 hq0 hq1
            go_wp2_with (at_builtin; refine wpList_append_any _ rfl (.tmp 31) (.tmp 32) 38 rfl w.heap.size 3 i0 _ 1 8 Tryz.underlying38 hi0 hz0 hz1 hz2 rfl (by omega) (.slice A2 q c2) q _ rfl ho w.heap.size B b cB (zcells Y) rfl hrd (zcells_one _) (by simp only [maxLen]; omega) (by omega) HB.out.size ?_; intro v3 w3 ho3 hg3 hat3; obtain ⟨A3, c3, rfl⟩ := own_slice7 ho3)
            have hb3 : Below w.heap.size w w3 := HB.out.grown hg3 HB.out.size (fun j hj => (ho.lt j hj).1)
            go_roundw
            case rel =>
              refine ⟨2, by omega, rfl, A3, q + b, c3, rfl, by have := HQ.out; omega, ⟨by rw [HQ.out]; rfl, ?_⟩, hb3⟩
              have e1 : twoL X Y 2 = X ++ Y := rfl
              have e2 : twoL X Y 1 = X := rfl
              rw [e2] at ho3
              rw [e1, zcells_append]
              exact ho3
            case measure => simp [intOf]
        · obtain rfl : k = 2 := by omega
          clear z0 z1
          go_wp2
          go_ret
          exact ⟨A2, c2, q, rfl, HO.out.1, HO.out.2, HB.out⟩
end Go.Proofs.YtonnkibcnhjelaaGreatDoor
end
section
set_option linter.unusedVariables false
namespace Go.Proofs.YtonnkibcnhjelaaGreatDoor
open Go.RowKit
set_option maxRecDepth 100000 in
set_option maxHeartbeats 1000000 in
theorem rcneed_any (n : Nat) (hn : n ≤ 1000000000) (w : World) : Calls Tryz.prog 68 #[.int .i64 (n : Int)] w fun e w' => e = .returned (.int .i64 (needC n : Int)) ∧ w = w' := by
  by_cases h : n = 0
  · subst h
    have d0 : decide (((0 : Nat) : Int) ≤ 0) = true := by decide
    go_enter Tryz.func68, Tryz.ntmps68
    go_wp2
    go_ret
    exact ⟨rfl, rfl⟩
  · have d0 : decide ((n : Int) ≤ 0) = false := decide_eq_false (by omega)
    have d1 : decide (n = 0) = false := decide_eq_false h
    have d2 : decide (n ≤ 0) = false := decide_eq_false (by omega)
    have u0 : (0 : Int) ≤ (n : Int) - 1 := by omega
    have e1 : IntKind.i64.wrap ((n : Int) - 1) = (n : Int) - 1 := IntWalk.i64_in _ (by omega)
    have e2 : ((n : Int) - 1).tdiv 242 = ((n : Int) - 1) / 242 := Int.tdiv_eq_ediv_of_nonneg u0
    have e4 : ((n : Int) - 1) / 242 + 1 = (needC n : Int) := by unfold needC; omega
    have e3 : IntKind.i64.wrap (((n : Int) - 1) / 242 + 1) = (needC n : Int) := by rw [IntWalk.i64_in _ (by omega), e4]
    have HE := Lib.hid e4
    clear e4
    go_enter Tryz.func68, Tryz.ntmps68
    go_wp2
    go_ret
    exact ⟨by first | rfl | rw [← HE.out], rfl⟩
end Go.Proofs.YtonnkibcnhjelaaGreatDoor
end
section
set_option linter.unusedVariables false
namespace Go.Proofs.YtonnkibcnhjelaaGreatDoor
open Go.RowKit
def GivesOpen : Option (List UInt8) → World → Ending → World → Prop
  | some M, w, e, w' => GivesBytes M w e w'
  | none, w, e, w' => e = .returned (.tuple #[.slice none 0 0, .int .i64 12]) ∧ Below w.heap.size w w'
set_option maxRecDepth 100000 in
set_option maxHeartbeats 1000000 in
theorem open_short (N : Nat) (A : Option Addr) (c : Nat) (w : World) (hl : N < 4) :
    Calls Tryz.prog 113 #[.slice A N c] w (GivesOpen none w) := by
  have hd2 : decide ((N : Int) - 4 < 0) = true := by simp; omega
  go_enter Tryz.func113, Tryz.ntmps113
  go_wp2
  go_quiet (fail)
  go_wp2
  go_ret2
  exact ⟨rfl, ⟨rfl, rfl, rfl, Nat.le_refl _, fun _ _ => rfl⟩⟩
set_option maxRecDepth 100000 in
set_option maxHeartbeats 1000000 in
theorem open_core (n : Nat) (A : Option Addr) (c : Nat) (P Q : List UInt8) (w : World) (hc : n + 4 ≤ c) (hcap : c ≤ 9223372036854775807) (b : Bool) (R : World → Ending → World → Prop)
    (HS : Hid (∀ W, Below w.heap.size w W → Calls Tryz.prog 94 #[.slice A n c] W fun e w' => e = .returned (.int .u32 (sumL P : Int)) ∧ W = w'))
    (HB : Hid (∀ W, Calls Tryz.prog 93 #[.int .u32 (sumL P : Int)] W (GivesOne Q W)))
    (HE : Hid (∀ W C d, Below w.heap.size w W → RB W W.heap.size C Q → Calls Tryz.prog 122 #[.slice (Option.map (fun x => x.add n) A) 4 (c - n), .slice C Q.length d] W fun e w' => e = .returned (.bool b) ∧ W = w'))
    (HC : Hid (∀ W, Below w.heap.size w W → Calls Tryz.prog 60 #[.slice A n c] W (GivesOne P W)))
    (HR : Hid (b = true → ∀ e w', GivesBytes P w e w' → R w e w')) (HR2 : Hid (b = false → ∀ w', Below w.heap.size w w' → R w (.returned (.tuple #[.slice none 0 0, .int .i64 12])) w')) :
    Calls Tryz.prog 113 #[.slice A (n + 4) c] w (R w) := by
  have hd2 : decide ((n : Int) < 0) = false := by simp
  have hn4 : (n : Int) ≤ (n : Int) + 4 := by omega
  have hnc : (n : Int) ≤ (c : Int) := by omega
  have hcn : ¬ c = n := by omega
  rcases b with _ | _
  all_goals
    go_enter Tryz.func113, Tryz.ntmps113
    go_wp2
    refine wp_region_any (by kernel_rfl) ?_
    change wpAny _ _ _ _ _ _ _ (World.drew _)
    refine wpAny_take (i := 0) (v := ?_) rfl (by kernel_rfl) (by kernel_rfl) (by kernel_rfl) (fun _ _ _ h => h) (Or.inl ⟨by kernel_rfl, ?_⟩) ?_
    rotate_left
    · intro w; go_simp; with_reducible rfl
    rotate_left
    refine wpAny_take (i := 1) (v := ?_) rfl (by kernel_rfl) (by kernel_rfl) (by kernel_rfl) (fun _ _ _ h => h) (Or.inl ⟨by kernel_rfl, ?_⟩) ?_
    rotate_left
    · intro w; go_simp; with_reducible rfl
    rotate_left
    refine wpAny_take (i := 2) (v := ?_) rfl (by kernel_rfl) (by kernel_rfl) (by kernel_rfl) (fun _ _ _ h => h) (Or.inl ⟨by kernel_rfl, ?_⟩) ?_
    rotate_left
    · intro w; go_simp; with_reducible rfl
    rotate_left
    refine wpAny_take (i := 3) (v := ?_) rfl (by kernel_rfl) (by kernel_rfl) (by kernel_rfl) (fun _ _ _ h => h) (Or.inl ⟨by kernel_rfl, ?_⟩) ?_
    rotate_left
    · intro w; go_simp; with_reducible rfl
    rotate_left
    refine wpAny_take (i := 4) (v := ?_) rfl (by kernel_rfl) (by kernel_rfl) (by kernel_rfl) (fun _ _ _ h => h) (Or.inl ⟨by kernel_rfl, ?_⟩) ?_
    rotate_left
    · intro w; go_simp; with_reducible rfl
    rotate_left
    refine wpAny_take (i := 5) (v := ?_) rfl (by kernel_rfl) (by kernel_rfl) (by kernel_rfl) (fun _ _ _ h => h) (Or.inl ⟨by kernel_rfl, ?_⟩) ?_
    rotate_left
    · intro w; go_simp; with_reducible rfl
    rotate_left
    refine wpAny_take (i := 6) (v := ?_) rfl (by kernel_rfl) (by kernel_rfl) (by kernel_rfl) (fun _ _ _ h => h) (Or.inl ⟨by kernel_rfl, ?_⟩) ?_
    rotate_left
    · intro w; go_simp; with_reducible rfl
    rotate_left
    refine wpAny_take (i := 7) (v := ?_) rfl (by kernel_rfl) (by kernel_rfl) (by kernel_rfl) (fun _ _ _ h => h) (Or.inl ⟨by kernel_rfl, ?_⟩) ?_
    rotate_left
    · intro w; go_simp; with_reducible rfl
    rotate_left
    refine wpAny_take (i := 8) (v := ?_) rfl (by kernel_rfl) (by kernel_rfl) (by kernel_rfl) (fun _ _ _ h => h) (Or.inl ⟨by kernel_rfl, ?_⟩) ?_
    rotate_left
    · intro w; go_simp; with_reducible rfl
    rotate_left
    refine wpAny_tail 9 (by kernel_rfl) (by kernel_rfl) ?_
    simp only [List.drop_succ_cons, List.drop_zero]
    go_wp2_with (first
      | (go_at_call 94; (with_reducible refine (HS.out _ (Below.refl _ _).drew).mono ?_); rintro e w' ⟨rfl, rfl⟩)
      | (go_at_call 93; (with_reducible refine (HB.out _).mono ?_); rintro e w1 ⟨A1, c1, rfl, ho1, hb1⟩; have hb2 : Below w.heap.size w w1 := below_drew hb1)
      | (go_at_call 122; (with_reducible refine (HE.out _ _ _ hb2 (own_rb ho1)).mono ?_); rintro e w' ⟨rfl, rfl⟩)
      | (go_at_call 60; (with_reducible refine (HC.out _ hb2).mono ?_); rintro e w2 ⟨A2, c2, rfl, ho2, hb3⟩))
  · exact HR2.out (by trivial) _ hb2
  · have ho3 : Own w2 w.heap.size A2 P c2 := Joins.ownsRow_le ho2 hb2.size
    have hb4 := hb2.trans (hb3.mono hb2.size)
    exact HR.out (by trivial) _ _ ⟨A2, c2, rfl, ho3, hb4⟩
theorem open_any (L : List UInt8) (A : Option Addr) (c B : Nat) (w : World) (hr : RB w B A L) (hlc : L.length ≤ c) (hc : c ≤ 9223372036854775807) (hl : L.length ≤ 1048576) :
    Calls Tryz.prog 113 #[.slice A L.length c] w (GivesOpen (openL L) w) := by
  have hr := rb_lt hr
  by_cases h4 : L.length < 4
  · have e : openL L = none := by unfold openL; rw [if_neg (by omega)]
    rw [e]
    exact open_short _ A c w h4
  · obtain ⟨n, hn⟩ : ∃ n, n = L.length - 4 := ⟨_, rfl⟩
    have hn4 : L.length = n + 4 := by omega
    have hp : (L.take n).length = n := by rw [List.length_take]; omega
    have hd : (L.drop n).length = 4 := by rw [List.length_drop]; omega
    have hrp : RB w w.heap.size A (L.take n) := rb_take hr n (by omega)
    have hrd : RB w w.heap.size (A.map (fun x => x.add n)) (L.drop n) := rb_cut1 hr (by omega) hlc (by omega)
    have hop : openL L = if L.drop n = le4 (sumL (L.take n)) then some (L.take n) else none := by
      unfold openL sealL
      rw [← hn]
      have hx : (L.take n ++ le4 (sumL (L.take n)) = L) ↔ (L.drop n = le4 (sumL (L.take n))) := by
        conv => lhs; rhs; rw [← List.take_append_drop n L]
        rw [List.append_cancel_left_eq]
        exact ⟨Eq.symm, Eq.symm⟩
      by_cases hy : L.drop n = le4 (sumL (L.take n))
      · rw [if_pos ⟨by omega, hx.2 hy⟩, if_pos hy]
      · rw [if_neg (fun h => hy (hx.1 h.2)), if_neg hy]
    rw [hn4]
    refine open_core n A c (L.take n) (le4 (sumL (L.take n))) w (by omega) hc (decide (L.drop n = le4 (sumL (L.take n)))) (GivesOpen (openL L)) (fun W hb => ?_) (fun W => ?_) (fun W C d hb hC => ?_) (fun W hb => ?_) (fun hb e w' h => ?_) (fun hb w' h => ?_)
    · have := sum_any (L.take n) A c _ W (hrp.below hb) (by omega)
      rwa [hp] at this
    · exact sumBytes_any _ W (sumL_lt _)
    · have := equal_any (L.drop n) (le4 (sumL (L.take n))) (A.map (fun x => x.add n)) C (c - n) d _ _ W (hrd.below hb) hC
      rwa [hd] at this
    · have := clone_any (L.take n) A c _ W (hrp.below hb) (by omega)
      rwa [hp] at this
    · rw [hop, if_pos (by simpa using hb)]
      exact h
    · rw [hop, if_neg (by simpa using hb)]
      exact ⟨rfl, h⟩
end Go.Proofs.YtonnkibcnhjelaaGreatDoor
end
