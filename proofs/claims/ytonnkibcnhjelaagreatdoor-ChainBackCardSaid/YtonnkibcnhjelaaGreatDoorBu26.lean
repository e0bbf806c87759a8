/- Lemmas under the proofs of this place: CellPCut. No statement is proved here. -/
import Derived.Test.YtonnkibcnhjelaaGreatDoorBu18
import Derived.Test.YtonnkibcnhjelaaGreatDoorBu17
import Derived.Test.YtonnkibcnhjelaaGreatDoorBu19
import Derived.Test.YtonnkibcnhjelaaGreatDoorBu08
import Derived.Test.YtonnkibcnhjelaaGreatDoorBu13
import Derived.Test.YtonnkibcnhjelaaGreatDoorBu21
import Derived.Test.YtonnkibcnhjelaaGreatDoorBu23
set_option linter.unusedVariables false
set_option linter.unusedSimpArgs false
namespace Go.Proofs.YtonnkibcnhjelaaGreatDoor
open Go.RowKit Go.Shelf
attribute [local go_sem] Oper.semAt_some
theorem below_two {B g k : Nat} {w0 W : World} (h : Below B w0 W) (hg : B ≤ g) (hk : B ≤ k) (u v : Value) : Below B w0 ((W.setCell ⟨g, 0, none⟩ u).setCell ⟨k, 0, none⟩ v) := (h.setCell (p := ⟨g, 0, none⟩) hg u).setCell (p := ⟨k, 0, none⟩) hk v
theorem four_cells (w : World) (v0 v1 v2 v3 : Value) (t : TypeId) : ∀ j u, [v0, v1, v2, v3][j]? = some u → (w.alloc (.cells #[v0, v1, v2, v3] t)).cell? ((⟨w.heap.size, 0, none⟩ : Addr).add j) = some u := by
  obtain ⟨ad, e, _, hc⟩ := (four_new w v0 v1 v2 v3 t).2 (by omega)
  injection e with e
  subst e
  exact hc
theorem zidx_run (b n c i : Nat) {o : Oper} {a : Act} {w : World} (x y : Operand) (ho : o.op = .indexAddr 38 x y) (hx : a.eval x = .slice (some ⟨b, 0, none⟩) n c) (hy : a.eval y = .int .i64 (i : Int)) (hi : i < n) :
    (execOp a.eval o).run Tryz.prog w = .ok (.value (.pointer (some ⟨b, i, none⟩))) w := by
  have h2 : (i : Int) < (n : Int) := by omega
  have h3 : ¬ ((i : Int) < 0) := by omega
  have hu : (underlying 38).run Tryz.prog w = .ok (.slice 3) w := by kernel_rfl
  have hs : (sizeOf 3).run Tryz.prog w = .ok 1 w := by kernel_rfl
  unfold execOp
  simp [ho, hx, hy, Instr.indexAt, asIntOf, hu, hs, hi, h2, h3, Addr.add]
  omega
set_option maxRecDepth 100000 in
set_option maxHeartbeats 4000000 in
theorem ccut_long (o : Int) (ps : List Int) (t : List UInt8) (np n : Nat) (A B : Option Addr) (cA cB : Nat) (w : World) (hn : n = t.length) (h : 262144 < n) :
    Calls Tryz.prog 23 #[.int .i64 o, .slice A np cA, .slice B n cB] w (GivesCLN (cutC o ps t) w) := by
  have HV : Hid (cutC o ps t = ([], 3)) := cut_long (by omega)
  have d0 : decide ((262144 : Int) < (n : Int)) = true := decide_eq_true (by omega)
  have d1 : decide ((n : Int) > 262144) = true := decide_eq_true (by omega)
  have d2 : decide (262144 < n) = true := decide_eq_true h
  clear hn h
  go_enter Tryz.func23, Tryz.ntmps23
  go_wp2
  refine bodyPost_ret (v := .tuple #[.slice none 0 0, .int .i64 3]) (by simp [results, Tryz.results23, go_sem]) rfl ⟨none, 0, by rw [HV.out]; rfl, by rw [HV.out]; exact CLN.nil, ?_⟩
  exact (((Below.refl _ _).alloc (Nat.le_refl _) _).alloc (by simp) _).alloc (by simp; omega) _
set_option maxRecDepth 100000 in
set_option maxHeartbeats 4000000 in
theorem ccut_few (o : Int) (ps : List Int) (t : List UInt8) (np n : Nat) (A B : Option Addr) (cA cB : Nat) (w : World) (hn : n = t.length) (hp : np = ps.length) (h : n ≤ 262144) (hf : n = 0 ∨ np ≠ needC n) :
    Calls Tryz.prog 23 #[.int .i64 o, .slice A np cA, .slice B n cB] w (GivesCLN (cutC o ps t) w) := by
  have HV : Hid (cutC o ps t = ([], 1)) := cut_few (by omega) (by
    rw [← hp, ← hn]
    have : needC 0 = 0 := rfl
    rcases hf with h0 | h0
    · by_cases h1 : np = 0
      · exact .inr h1
      · left; rw [h0, this]; exact h1
    · exact .inl h0)
  have d0 : decide ((262144 : Int) < (n : Int)) = false := decide_eq_false (by omega)
  have d1 : decide ((n : Int) > 262144) = false := decide_eq_false (by omega)
  have d2 : decide (262144 < n) = false := decide_eq_false (by omega)
  clear hn hp
  by_cases h0 : n = 0
  · subst h0
    go_enter Tryz.func23, Tryz.ntmps23
    go_wp2
    refine bodyPost_ret (v := .tuple #[.slice none 0 0, .int .i64 1]) (by simp [results, Tryz.results23, go_sem]) rfl ⟨none, 0, by rw [HV.out]; rfl, by rw [HV.out]; exact CLN.nil, ?_⟩
    exact (((Below.refl _ _).alloc (Nat.le_refl _) _).alloc (by simp) _).alloc (by simp; omega) _
  · have h1 : np ≠ needC n := hf.resolve_left h0
    obtain ⟨N, hN⟩ : ∃ N, N = needC n := ⟨_, rfl⟩
    rw [← hN] at h1
    have HN : Hid (∀ W, Calls Tryz.prog 55 #[.int .i64 (n : Int)] W fun e w' => e = .returned (.int .i64 (N : Int)) ∧ W = w') := fun W => by rw [hN]; exact cneed_any n (by omega) W
    have e0 : ((n : Int) == 0) = false := by simp; omega
    have e1 : ((np : Int) != (N : Int)) = true := by simp; omega
    have e2 : ((np : Int) == (N : Int)) = false := by simp; omega
    clear hf h0 hN h1
    go_enter Tryz.func23, Tryz.ntmps23
    go_wp2_with (go_at_call 55; (with_reducible refine (HN.out _).mono ?_); rintro e w1 ⟨rfl, rfl⟩)
    refine bodyPost_ret (v := .tuple #[.slice none 0 0, .int .i64 1]) (by simp [results, Tryz.results23, go_sem]) rfl ⟨none, 0, by rw [HV.out]; rfl, by rw [HV.out]; exact CLN.nil, ?_⟩
    exact (((Below.refl _ _).alloc (Nat.le_refl _) _).alloc (by simp) _).alloc (by simp; omega) _
set_option maxRecDepth 100000 in
set_option maxHeartbeats 4000000 in
theorem ccut_place (o : Int) (ps : List Int) (t : List UInt8) (np n : Nat) (A B : Option Addr) (cA cB : Nat) (w : World) (hn : n = t.length) (hp : np = ps.length) (h : n ≤ 262144) (h0 : n ≠ 0) (hN : np = needC n) (hA : RI w w.heap.size A ps) (hbad : ps.any (fun p => !placeOk p) = true) :
    Calls Tryz.prog 23 #[.int .i64 o, .slice A np cA, .slice B n cB] w (GivesCLN (cutC o ps t) w) := by
  have hNd : needC n = (n + 241) / 242 := rfl
  have HV : Hid (cutC o ps t = ([], 1)) := by
    obtain ⟨x, hx, hxb⟩ := List.any_eq_true.1 hbad
    obtain ⟨i, hi, rfl⟩ := List.getElem_of_mem hx
    refine cut_bad (by omega) (by rw [← hp, ← hn]; exact hN) (by omega) hi ?_
    unfold cutOk
    have e : ps.getD i 0 = ps[i] := by simp [hi]
    rw [e]
    have : placeOk ps[i] = false := by simpa using hxb
    rw [this, Bool.and_false]
  have d0 : decide ((262144 : Int) < (n : Int)) = false := decide_eq_false (by omega)
  have d1 : decide ((n : Int) > 262144) = false := decide_eq_false (by omega)
  have d2 : decide (262144 < n) = false := decide_eq_false (by omega)
  have HN : Hid (∀ W, Calls Tryz.prog 55 #[.int .i64 (n : Int)] W fun e w' => e = .returned (.int .i64 (np : Int)) ∧ W = w') := fun W => by rw [hN]; exact cneed_any n (by omega) W
  have HC : Hid (∀ W, Below w.heap.size w W → Calls Tryz.prog 56 #[.slice A np cA, .func (.func 57) #[] #[]] W fun e w' => e = .returned (.bool true) ∧ W = w') := fun W hb => by
    have := ccontains_any ps np A cA W hp (by omega) (ri_up hA hb)
    rw [hbad] at this
    exact this
  have HB : Hid (∀ v0 v1 v2 : Value, Below w.heap.size w (((w.alloc (.cells #[v0] 3)).alloc (.cells #[v1] 58)).alloc (.cells #[v2] 25))) := fun v0 v1 v2 => (((Below.refl _ _).alloc (Nat.le_refl _) _).alloc (by simp) _).alloc (by simp; omega) _
  have e0 : ((n : Int) == 0) = false := by simp; omega
  clear hn hp h h0 hN hA hbad hNd
  go_enter Tryz.func23, Tryz.ntmps23
  go_wp2_with (first
    | (go_at_call 55; (with_reducible refine (HN.out _).mono ?_); rintro e w1 ⟨rfl, rfl⟩)
    | (go_at_call 56; (with_reducible refine (HC.out _ (HB.out _ _ _)).mono ?_); rintro e w1 ⟨rfl, rfl⟩))
  refine bodyPost_ret (v := .tuple #[.slice none 0 0, .int .i64 1]) (by simp [results, Tryz.results23, go_sem]) rfl ⟨none, 0, by rw [HV.out]; rfl, by rw [HV.out]; exact CLN.nil, ?_⟩
  exact HB.out _ _ _
set_option maxRecDepth 100000 in
set_option maxHeartbeats 4000000 in
theorem ccut_in (o : Int) (ps : List Int) (t : List UInt8) (np n : Nat) (A B : Option Addr) (cA cB : Nat) (w : World) (hn : n = t.length) (hp : np = ps.length) (h : n ≤ 262144) (h0 : n ≠ 0) (hN : np = needC n) (hA : RI w w.heap.size A ps) (hpa : np ≤ cA) (hr : RB w w.heap.size B t) (hc : n ≤ cB) (hok : ps.any (fun p => !placeOk p) = false) :
    Calls Tryz.prog 23 #[.int .i64 o, .slice A np cA, .slice B n cB] w (GivesCLN (cutC o ps t) w) := by
  have hNd : needC n = (n + 241) / 242 := rfl
  obtain ⟨ic, hic, hcz0, hcz1, hcz2⟩ := info_parts Tryz.cellInfo
  have d0 : decide ((262144 : Int) < (n : Int)) = false := decide_eq_false (by omega)
  have d1 : decide ((n : Int) > 262144) = false := decide_eq_false (by omega)
  have d2 : decide (262144 < n) = false := decide_eq_false (by omega)
  have HN : Hid (∀ W, Calls Tryz.prog 55 #[.int .i64 (n : Int)] W fun e w' => e = .returned (.int .i64 (np : Int)) ∧ W = w') := fun W => by rw [hN]; exact cneed_any n (by omega) W
  have HC : Hid (∀ W, Below w.heap.size w W → Calls Tryz.prog 56 #[.slice A np cA, .func (.func 57) #[] #[]] W fun e w' => e = .returned (.bool false) ∧ W = w') := fun W hb => by
    have := ccontains_any ps np A cA W hp (by omega) (ri_up hA hb)
    rw [hok] at this
    exact this
  have HB : Hid (∀ v0 v1 v2 : Value, Below w.heap.size w (((w.alloc (.cells #[v0] 3)).alloc (.cells #[v1] 58)).alloc (.cells #[v2] 25))) := fun v0 v1 v2 => (((Below.refl _ _).alloc (Nat.le_refl _) _).alloc (by simp) _).alloc (by simp; omega) _
  have e0 : ((n : Int) == 0) = false := by simp; omega
  obtain ⟨A1, hA1⟩ : ∃ A1, A1 = if cA = 1 then A else A.map (·.add (1 * 1)) := ⟨_, rfl⟩
  obtain ⟨m1, hm1⟩ : ∃ m1, m1 = np - 1 := ⟨_, rfl⟩
  obtain ⟨c1, hc1⟩ : ∃ c1, c1 = cA - 1 := ⟨_, rfl⟩
  have sl : ∀ W, (Instr.sliceAt 38 (.slice A np cA) (some (.int .i64 1)) none none).run Tryz.prog W = .ok (.slice A1 m1 c1) W := fun W => by
    rw [hA1, hm1, hc1]
    exact zsl_from A np cA 1 1 rfl (by omega) hpa W
  have hrA1 : RI w w.heap.size A1 (ps.drop 1) := by
    have h2 := Reads.cut hA.rz (k := 1) (cap := cA) (by omega) (by omega)
    rw [Nat.mul_one, ← hA1, zcells_drop] at h2
    refine RZ.ri ?_
    unfold RZ
    rw [List.length_drop]
    exact h2
  have HA1 : Hid (m1 = (ps.drop 1).length ∧ RI w w.heap.size A1 (ps.drop 1)) := ⟨by rw [List.length_drop]; omega, hrA1⟩
  have HW5 : ∃ W5, Hid (W5 = (((((w.alloc (.cells #[.int .i64 o] 3)).alloc (.cells #[.slice none 0 0] 58)).alloc (.cells #[.int .i64 0] 25)).alloc (.cells #[.int .i64 0] 3)).alloc (.cells #[.slice A1 m1 c1, .slice (some ⟨w.heap.size + 1 + 1 + 1, 0, none⟩) 1 1] 38))) ∧ Hid (Below w.heap.size w W5) ∧ Hid (W5.heap.size = w.heap.size + 5) ∧ Hid (Blk W5 w.heap.size 3 #[.int .i64 o] ∧ Blk W5 (w.heap.size + 1) 58 #[.slice none 0 0] ∧ Blk W5 (w.heap.size + 1 + 1) 25 #[.int .i64 0] ∧ Blk W5 (w.heap.size + 1 + 1 + 1) 3 #[.int .i64 0] ∧ Blk W5 (w.heap.size + 1 + 1 + 1 + 1) 38 #[.slice A1 m1 c1, .slice (some ⟨w.heap.size + 1 + 1 + 1, 0, none⟩) 1 1]) := by
    refine ⟨_, rfl, ?_, ?_, ?_⟩
    · exact ((((((Below.refl w.heap.size w).alloc (Nat.le_refl _) _).alloc (by simp) _).alloc (by simp; omega) _).alloc (by simp; omega) _).alloc (by simp; omega) _)
    · show _ = _
      simp
    · refine ⟨?_, ?_, ?_, ?_, ?_⟩
      · have h1 := Blk.new w 3 #[.int .i64 o]
        exact ((((h1.alloc _).alloc _).alloc _).alloc _)
      · have h1 := Blk.new (w.alloc (.cells #[.int .i64 o] 3)) 58 #[.slice none 0 0]
        rw [World.size_alloc] at h1
        exact (((h1.alloc _).alloc _).alloc _)
      · have h1 := Blk.new ((w.alloc (.cells #[.int .i64 o] 3)).alloc (.cells #[.slice none 0 0] 58)) 25 #[.int .i64 0]
        rw [World.size_alloc, World.size_alloc] at h1
        exact ((h1.alloc _).alloc _)
      · have h1 := Blk.new (((w.alloc (.cells #[.int .i64 o] 3)).alloc (.cells #[.slice none 0 0] 58)).alloc (.cells #[.int .i64 0] 25)) 3 #[.int .i64 0]
        rw [World.size_alloc, World.size_alloc, World.size_alloc] at h1
        exact (h1.alloc _)
      · have h1 := Blk.new ((((w.alloc (.cells #[.int .i64 o] 3)).alloc (.cells #[.slice none 0 0] 58)).alloc (.cells #[.int .i64 0] 25)).alloc (.cells #[.int .i64 0] 3)) 38 #[.slice A1 m1 c1, .slice (some ⟨w.heap.size + 1 + 1 + 1, 0, none⟩) 1 1]
        rw [World.size_alloc, World.size_alloc, World.size_alloc, World.size_alloc] at h1
        exact h1
  obtain ⟨W5, HW5, HB5, HS5, HK5⟩ := HW5
  have HCC : Hid (Calls Tryz.prog 58 #[.slice (some ⟨w.heap.size + 1 + 1 + 1 + 1, 0, none⟩) 2 2] (((((w.alloc (.cells #[.int .i64 o] 3)).alloc (.cells #[.slice none 0 0] 58)).alloc (.cells #[.int .i64 0] 25)).alloc (.cells #[.int .i64 0] 3)).alloc (.cells #[.slice A1 m1 c1, .slice (some ⟨w.heap.size + 1 + 1 + 1, 0, none⟩) 1 1] 38)) fun e w' => ∃ gN cN, e = .returned (.slice (some ⟨gN, 0, none⟩) np cN) ∧ Hid (W5.heap.size ≤ gN ∧ (∃ cur, Blk w' gN 3 cur) ∧ ∀ i, i < np → w'.cell? ⟨gN, i, none⟩ = some (.int .i64 (ps.getD (i + 1) 0))) ∧ Hid (Below W5.heap.size W5 w')) := by
    have b5 := HB5.out
    have e5 := HW5.out
    show Calls _ _ _ _ _
    rw [← e5]
    have hs5 := HS5.out
    refine (cconcat_any (ps.drop 1) [0] m1 1 A1 (some ⟨w.heap.size + 1 + 1 + 1, 0, none⟩) c1 1 (w.heap.size + 1 + 1 + 1 + 1) 2 W5 HA1.out.1 rfl (by have := HA1.out.1; rw [List.length_drop] at this; omega) (by omega) (by omega) (HK5.out.2.2.2.2.cell 0) (HK5.out.2.2.2.2.cell 1) (ri_up HA1.out.2 b5) ?_).mono ?_
    · intro _
      refine ⟨_, _, rfl, by omega, fun k hk => ?_⟩
      obtain rfl : k = 0 := by simpa using hk
      exact HK5.out.2.2.2.1.cell 0
    · rintro e w' ⟨A', c', n', rfl, hn', ho', hb'⟩
      have hm : m1 + 1 = np := by have := HA1.out.1; rw [List.length_drop] at this; omega
      obtain rfl : n' = np := by omega
      rcases ho'.2 with ⟨_, h9⟩ | ⟨g, cap, cur, he, h2, h3, h4⟩
      · omega
      · simp only [Value.slice.injEq] at he
        obtain ⟨rfl, -, rfl⟩ := he
        refine ⟨g, c', rfl, ⟨h2, ⟨cur, h3⟩, fun i hi => ?_⟩, hb'⟩
        have hcs := World.ownsRow.cells ho' (g := g) rfl
        have hz : (zcells (ps.drop 1 ++ [0]))[i]? = some (.int .i64 (ps.getD (i + 1) 0)) := by
          have hl : i < (ps.drop 1 ++ [0]).length := by rw [List.length_append, List.length_drop]; simp; omega
          rw [zcells_get _ i hl]
          congr 2
          by_cases h6 : i < (ps.drop 1).length
          · rw [List.getElem_append_left h6]
            rw [List.length_drop] at h6
            simp [List.getElem_drop, show i + 1 < ps.length by omega, Nat.add_comm 1 i]
          · rw [List.getElem_append_right (by omega)]
            rw [List.length_drop] at h6
            have : ps.length ≤ i + 1 := by omega
            simp [this]
        have := hcs i _ hz
        rwa [add_at, Nat.zero_add] at this
  obtain ⟨tb, tf, hBe, htb, -⟩ := RB.at_ hr (by omega)
  subst hBe
  refine (callsIn_wide (n := 9)).1 ?_
  refine callsIn_of_wp_marks Tryz.func23 rfl trivial ?_ rfl
  refine wpIn_wide.2 ?_
  simp only [Tryz.ntmps23, List.size_toArray, List.length_cons, List.length_nil, Nat.reduceAdd, Nat.reduceSub, Array.replicate_succ, Array.replicate_zero, List.push_toArray, List.append_toArray, List.nil_append, List.cons_append]
  have HP := Lib.hid (And.intro hn (And.intro hp (And.intro hN (And.intro h (And.intro hc h0)))))
  have HI := Lib.hid hA
  have HR := Lib.hid hr
  have HO := Lib.hid hok
  have hnp : np ≤ 1100 := by omega
  have hnp1 : 1 ≤ np := by omega
  have HTB := Lib.hid htb
  clear hn hp h h0 hN hA hr hok hNd hA1 hm1 hc1 hrA1 hc htb
  go_wp2_with (first
    | (go_at_call 55; (with_reducible refine (HN.out _).mono ?_); rintro e w1 ⟨rfl, rfl⟩)
    | (go_at_call 56; (with_reducible refine (HC.out _ (HB.out _ _ _)).mono ?_); rintro e w1 ⟨rfl, rfl⟩)
    | (go_at_call 58; (with_reducible refine HCC.out.mono ?_); rintro e w6 ⟨gN, cN, rfl, hN6, hb6⟩)
    | (at_make; refine wpList_make_own _ rfl _ _ 58 rfl w6.heap.size 64 ic _ 4 Tryz.underlying58 hic hcz0 hcz1 .i64 .i64 _ np rfl rfl (by omega) (by rw [hcz2]; omega) (by unfold maxLen; omega) (by simp) ?_; intro w7 ho7 hg7)
    | (go_at_call 59; (with_reducible refine (cparts_any _ _ _ _).mono ?_); rintro e w8 ⟨rfl, rfl⟩))
  have HB6 := Lib.hid hb6.out
  obtain ⟨W8, hW8⟩ : ∃ W8, (w7.alloc (.cells #[.slice (some ⟨w6.heap.size + 1, 0, none⟩) 0 np] 58)).alloc (.cells #[.slice (some ⟨tb, tf, none⟩) n cB] 39) = W8 := ⟨_, rfl⟩
  rw [hW8]
  rw [World.size_alloc] at ho7
  have hE : CutE w W8 o ps t np n cB tb tf gN cN w6.heap.size (w6.heap.size + 1) w7.heap.size (w7.heap.size + 1) := by
    obtain ⟨p1, p2, p3, p4, p5, p6⟩ := HP.out
    obtain ⟨g1, ⟨cur, g2⟩, g3⟩ := hN6.out
    obtain ⟨k0, k1, k2, -, -⟩ := HK5.out
    have s5 := HS5.out
    have s6 := HB6.out.size
    have s7 := hg7.size
    rw [World.size_alloc] at s7
    have gl := Blk.lt g2
    have gz := (own_lt ho7 (k := w6.heap.size + 1) rfl).1
    have hup : ∀ {g : Nat} {ty : TypeId} {cs : Array Value}, Blk w6 g ty cs → Blk W8 g ty cs := fun h => by
      rw [← hW8]
      exact (((h.alloc _).grown hg7 (by simp)).alloc _).alloc _
    have b68 : Below w6.heap.size w6 W8 := by
      rw [← hW8]
      exact ((((Below.refl w6.heap.size w6).alloc (Nat.le_refl _) _).grown hg7 (by simp) (by simp)).alloc (by omega) _).alloc (by simp; omega) _
    refine ⟨p1, p2, p3, by omega, p4, p5, HO.out, ?_, hup (k0.below HB6.out (by omega)), hup (k1.below HB6.out (by omega)), hup (k2.below HB6.out (by omega)), ?_, fun i hi => ?_, ?_, ?_, ?_, ?_, HR.out⟩
    · rw [← hW8]
      simp
      omega
    · rw [← hW8]
      exact (((Blk.new w6 _ _).grown hg7 (by simp)).alloc _).alloc _
    · rw [b68.cell (p := ⟨gN, i, none⟩) gl]
      exact g3 i hi
    · rw [← hW8]
      exact (Blk.new w7 _ _).alloc _
    · rw [← hW8]
      have h9 := own_base ho7
      exact (h9.alloc _).alloc _
    · rw [← hW8]
      have h9 := (Blk.new (w7.alloc (.cells #[.slice (some ⟨w6.heap.size + 1, 0, none⟩) 0 np] 58)) 39 #[.slice (some ⟨tb, tf, none⟩) n cB]).cell 0
      rw [World.size_alloc] at h9
      exact h9
    · exact HB5.out.trans ((HB6.out.mono HB5.out.size).trans (b68.mono (Nat.le_trans HB5.out.size s6)))
  obtain ⟨bn, hbn⟩ : ∃ b, b = w6.heap.size := ⟨_, rfl⟩
  obtain ⟨bl, hbl⟩ : ∃ b, b = w7.heap.size := ⟨_, rfl⟩
  rw [← hbn, ← hbl] at hE ⊢
  obtain ⟨gr, hgr⟩ : ∃ b, b = bn + 1 := ⟨_, rfl⟩
  obtain ⟨bt, hbt⟩ : ∃ b, b = bl + 1 := ⟨_, rfl⟩
  rw [← hgr, ← hbt] at hE ⊢
  have HE := Lib.hid hE
  have hE' := HE.out.ord
  have hbt8 : bt < W8.heap.size := hE'.2.2.2.2.1
  clear hgr hbt hbn hbl ho7 hg7 hb6 HB6 hN6 hW8 hE'
  refine (wpIn_wide (n := 9)).1 ?_
  refine wpIn_rangeFunc_ownG (F := Fence.wide) (n := 9) rfl (by omega) (gf := 89) (lb := #[.pointer (some ⟨bt, 0, none⟩)]) rfl trivial (enters_of Tryz.func89 (by kernel_rfl) rfl)
    (cparts_stops 8 (by omega) bt tb tf n np cB HE.out.hN (by have := HE.out.hl; omega) HE.out.hc W8 hbt8 HE.out.bT) (fun h k => Eq.trans k h) (keepsAt_b hbt8) (Below.refl _ _) (fun _ => rfl)
    (fun pre V => CutI W8 o ps t np gr bl (pre.map (·.1)) V) (fun c _ V => CutX W8 w.heap.size o ps t np gr bl c V)
    (cutI_own (fun pre : List (Upto np) => pre.map (·.1)) W8 o ps t np gr bl) (fun c => cutX_own W8 w.heap.size o ps t np gr bl c) HE.out.start
    (fun x => { tmps := #[Value.int .i64 o, .slice A np cA, .slice (some ⟨tb, tf, none⟩) n cB, .pointer (some ⟨w.heap.size, 0, none⟩), undef, undef, .pointer (some ⟨w.heap.size + 1, 0, none⟩), .pointer (some ⟨w.heap.size + 1 + 1, 0, none⟩), .pointer (some ⟨bn, 0, none⟩), .pointer (some ⟨bl, 0, none⟩), .int .i64 (x.1 : Int), partV tb tf n cB x.1, undef, .bool false, .slice (some ⟨tb, tf, none⟩) n cB, .int .i64 (n : Int), .bool false, .bool false, .slice (some ⟨tb, tf, none⟩) n cB, .int .i64 (n : Int), .bool false, .bool false, .slice A np cA, .int .i64 (np : Int), .slice (some ⟨tb, tf, none⟩) n cB, .int .i64 (n : Int), .int .i64 (np : Int), .bool false, .bool false, .bool false, .slice A np cA, .bool false, .bool false, .slice A np cA, .slice A1 m1 c1, .slice (some ⟨w.heap.size + 1 + 1 + 1, 0, none⟩) 1 1, .slice (some ⟨w.heap.size + 1 + 1 + 1 + 1, 0, none⟩) 2 2, .slice (some ⟨gN, 0, none⟩) np cN, .slice A np cA, .int .i64 (np : Int), .slice (some ⟨gr, 0, none⟩) 0 np, .slice (some ⟨tb, tf, none⟩) n cB, .func (.func 89) #[] #[.pointer (some ⟨bt, 0, none⟩)], .int .i64 (x.1 : Int), partV tb tf n cB x.1, undef, undef, undef, undef, undef, undef, undef, undef, undef, undef, undef, undef, undef, undef, undef, undef, undef], defers := [] }) ?assign ?body ?done ?stop
  case assign =>
    intro l x V K hK
    gi_wp2
    exact hK
  case body =>
    rintro l pre ⟨i, hin⟩ V hI hlen
    have HIN : Hid (i < np) := hin
    obtain ⟨js, hjs⟩ : ∃ js, js = pre.map (fun x : Upto np => x.1) := ⟨_, rfl⟩
    have hjl : js.length = pre.length := by rw [hjs, List.length_map]
    have hpm : List.map (fun x : Upto np => x.1) (pre ++ [⟨i, hin⟩] : List (Upto np)) = js ++ [i] := by rw [List.map_append, ← hjs]; rfl
    obtain ⟨pr, hpr⟩ : ∃ pr : List (Upto np), pr = pre ++ [⟨i, hin⟩] := ⟨_, rfl⟩
    rw [← hpr] at hpm ⊢
    have HPM := Lib.hid hpm
    have hjn : js.length < np := by omega
    simp only at hI ⊢
    rw [← hjs] at hI
    have HI := Lib.hid hI
    obtain ⟨PV, hPV⟩ : ∃ PV, PV = partV tb tf n cB i := ⟨_, rfl⟩
    rw [← hPV]
    obtain ⟨nx, hnx⟩ : ∃ z, z = ps.getD (i + 1) 0 := ⟨_, rfl⟩
    obtain ⟨q, hq⟩ : ∃ q, q = partN n i := ⟨_, rfl⟩
    obtain ⟨r1, r2, r3, r4⟩ := HE.out.part hin
    have HQ : Hid (q = (cutAt o ps t i).data.length ∧ q ≤ 242 ∧ nx = ps.getD (i + 1) 0) := ⟨by rw [hq, r2], by omega, hnx⟩
    have hPV2 : PV = .slice (some ⟨tb, tf + i * 242, none⟩) q (cB - i * 242) := by rw [hPV, hq]; rfl
    have HRd : Hid (∀ X, Below V.heap.size V X → X.cell? ⟨w.heap.size, 0, none⟩ = some (.int .i64 o) ∧ X.cell? ⟨bn, 0, none⟩ = some (.slice (some ⟨gN, 0, none⟩) np cN) ∧ X.cell? ⟨gN, i, none⟩ = some (.int .i64 nx)) := fun X hX => by
      rw [hnx]
      exact HE.out.reads HI.out hX hin
    have HCl : Hid (∀ X, Below V.heap.size V X → Calls Tryz.prog 60 #[PV] X fun e w' => ∃ A' c', e = .returned (.slice A' q c') ∧ Hid (RB w' w'.heap.size A' (cutAt o ps t i).data) ∧ Hid (∀ ad, A' = some ad → X.heap.size ≤ ad.block) ∧ Below X.heap.size X w') := fun X hX => by
      rw [hPV2, HQ.out.1]
      have hb := HE.out.bytes HI.out hX hin
      refine (clone_any (cutAt o ps t i).data _ _ _ X hb (by have := HQ.out; omega)).mono fun e w' hh => ?_
      obtain ⟨A', c', he, ho, hb'⟩ := hh
      refine ⟨A', c', he, own_rb ho, fun ad e => ?_, hb'⟩
      subst e
      rcases ho.2 with ⟨h8, _⟩ | ⟨g, cap, cur, h8, h9, _⟩
      · cases h8
      · injection h8 with h8
        injection h8 with h8
        rw [h8]
        exact h9
    clear hPV hPV2 hnx hq r1 r2 r3 r4 hjs hpm hpr hI hjl hlen hin hE
    refine wpIn_block ?_
    refine wpIn_seq ?_
    refine region_round (fun a X => ∃ (gc : Nat) (A' : Option Addr) (c' : Nat), a = ⟨#[Value.int .i64 o, .slice A np cA, .slice (some ⟨tb, tf, none⟩) n cB, .pointer (some ⟨w.heap.size, 0, none⟩), undef, undef, .pointer (some ⟨w.heap.size + 1, 0, none⟩), .pointer (some ⟨w.heap.size + 1 + 1, 0, none⟩), .pointer (some ⟨bn, 0, none⟩), .pointer (some ⟨bl, 0, none⟩), .int .i64 (i : Int), PV, .pointer (some ⟨gc, 0, none⟩), .bool false, .slice (some ⟨tb, tf, none⟩) n cB, .int .i64 (n : Int), .bool false, .bool false, .slice (some ⟨tb, tf, none⟩) n cB, .int .i64 (n : Int), .bool false, .bool false, .slice A np cA, .int .i64 (np : Int), .slice (some ⟨tb, tf, none⟩) n cB, .int .i64 (n : Int), .int .i64 (np : Int), .bool false, .bool false, .bool false, .slice A np cA, .bool false, .bool false, .slice A np cA, .slice A1 m1 c1, .slice (some ⟨w.heap.size + 1 + 1 + 1, 0, none⟩) 1 1, .slice (some ⟨w.heap.size + 1 + 1 + 1 + 1, 0, none⟩) 2 2, .slice (some ⟨gN, 0, none⟩) np cN, .slice A np cA, .int .i64 (np : Int), .slice (some ⟨gr, 0, none⟩) 0 np, .slice (some ⟨tb, tf, none⟩) n cB, .func (.func 89) #[] #[.pointer (some ⟨bt, 0, none⟩)], .int .i64 (i : Int), PV, .int .i64 o, .int .i64 (i : Int), .slice (some ⟨gN, 0, none⟩) np cN, .int .i64 (i : Int), .pointer (some ⟨gN, i, none⟩), .int .i64 nx, PV, .slice A' q c', .agg #[.int .i64 o, .int .i64 (i : Int), .int .i64 nx, .slice A' q c'], undef, undef, undef, undef, undef, undef, undef, undef], []⟩ ∧ Hid (Below V.heap.size V X) ∧ Hid (V.heap.size ≤ gc ∧ Blk X gc 64 #[.int .i64 o, .int .i64 (i : Int), .int .i64 nx, .slice A' q c']) ∧ Hid (RB X X.heap.size A' (cutAt o ps t i).data) ∧ Hid (∀ ad, A' = some ad → V.heap.size ≤ ad.block)) (by kernel_rfl) (by kernel_rfl) ?_ ?_
    · refine wpAny_of_T (S := (fun V => V.cell? ⟨w.heap.size, 0, none⟩ = some (.int .i64 o) ∧ V.cell? ⟨bn, 0, none⟩ = some (.slice (some ⟨gN, 0, none⟩) np cN) ∧ V.cell? ⟨gN, i, none⟩ = some (.int .i64 nx))) (T := fun k => decide (10 ≤ k)) _ _ _ _ ?_
      have hV0 : Below V.heap.size V { V with drawn := V.drawn + 1 } := (Below.refl _ _).drew
      have hS0 := HRd.out _ hV0
      refine any_asT rfl (listed' := #[false, false, false, false, false, false, false, false, false, false, false]) (by kernel_rfl) ?_
      refine take_d (i := 0) (.int .i64 o) 45 rfl (by kernel_rfl) (by kernel_rfl) (by kernel_rfl) (by kernel_rfl) rfl (by kernel_rfl) (by kernel_rfl) (fun V hV => cell_run 3 (.tmp 3) ⟨w.heap.size, 0, none⟩ (.int .i64 o) _ (by kernel_rfl) (by kernel_rfl) hV.1 Tryz.underlying3 rfl (by kernel_rfl)) hS0 (fun _ _ _ h => h) ?_
      simp only [Act.put, List.setIfInBounds_toArray, List.set_cons_zero, List.set_cons_succ]
      refine take_d (i := 1) (.int .i64 (i : Int)) 46 rfl (by kernel_rfl) (by kernel_rfl) (by kernel_rfl) (by kernel_rfl) rfl (by kernel_rfl) (by kernel_rfl) (fun V hV => by kernel_rfl) hS0 (fun _ _ _ h => h) ?_
      simp only [Act.put, List.setIfInBounds_toArray, List.set_cons_zero, List.set_cons_succ]
      refine take_d (i := 2) (.slice (some ⟨gN, 0, none⟩) np cN) 47 rfl (by kernel_rfl) (by kernel_rfl) (by kernel_rfl) (by kernel_rfl) rfl (by kernel_rfl) (by kernel_rfl) (fun V hV => cell_run 38 (.tmp 8) ⟨bn, 0, none⟩ (.slice (some ⟨gN, 0, none⟩) np cN) _ (by kernel_rfl) (by kernel_rfl) hV.2.1 Tryz.underlying38 rfl (by kernel_rfl)) hS0 (fun _ _ _ h => h) ?_
      simp only [Act.put, List.setIfInBounds_toArray, List.set_cons_zero, List.set_cons_succ]
      refine take_d (i := 3) (.int .i64 (i : Int)) 48 rfl (by kernel_rfl) (by kernel_rfl) (by kernel_rfl) (by kernel_rfl) rfl (by kernel_rfl) (by kernel_rfl) (fun V hV => by kernel_rfl) hS0 (fun _ _ _ h => h) ?_
      simp only [Act.put, List.setIfInBounds_toArray, List.set_cons_zero, List.set_cons_succ]
      refine take_d (i := 4) (.pointer (some ⟨gN, i, none⟩)) 49 rfl (by kernel_rfl) (by kernel_rfl) (by kernel_rfl) (by kernel_rfl) rfl (by kernel_rfl) (by kernel_rfl) (fun V hV => zidx_run gN np cN i (.tmp 47) (.tmp 48) (by kernel_rfl) (by kernel_rfl) (by kernel_rfl) HIN.out) hS0 (fun _ _ _ h => h) ?_
      simp only [Act.put, List.setIfInBounds_toArray, List.set_cons_zero, List.set_cons_succ]
      refine take_d (i := 5) (.int .i64 nx) 50 rfl (by kernel_rfl) (by kernel_rfl) (by kernel_rfl) (by kernel_rfl) rfl (by kernel_rfl) (by kernel_rfl) (fun V hV => cell_run 3 (.tmp 49) ⟨gN, i, none⟩ (.int .i64 nx) _ (by kernel_rfl) (by kernel_rfl) hV.2.2 Tryz.underlying3 rfl (by kernel_rfl)) hS0 (fun _ _ _ h => h) ?_
      simp only [Act.put, List.setIfInBounds_toArray, List.set_cons_zero, List.set_cons_succ]
      refine take_d (i := 6) (PV) 51 rfl (by kernel_rfl) (by kernel_rfl) (by kernel_rfl) (by kernel_rfl) rfl (by kernel_rfl) (by kernel_rfl) (fun V hV => by kernel_rfl) hS0 (fun _ _ _ h => h) ?_
      simp only [Act.put, List.setIfInBounds_toArray, List.set_cons_zero, List.set_cons_succ]
      refine any_twoT (i := 7) (j := 9) (by kernel_rfl) ?_ ?_
      · refine op_enter 60 #[PV] (some 52) rfl (by kernel_rfl) (by kernel_rfl) (by kernel_rfl) ((HCl.out _ hV0).mono ?_)
        rintro e w1 ⟨A', c', rfl, hr1, hn1, hb1⟩
        have hV1 := hV0.trans (hb1.mono hV0.size)
        have hS1 := HRd.out _ hV1
        refine ⟨_, rfl, hS1, ?_⟩
        simp only [Act.put, List.setIfInBounds_toArray, List.set_cons_zero, List.set_cons_succ]
        refine take_d (i := 8) (.agg #[.int .i64 o, .int .i64 (i : Int), .int .i64 nx, .slice A' q c']) 53 rfl (by kernel_rfl) (by kernel_rfl) (by kernel_rfl) (by kernel_rfl) rfl (by kernel_rfl) (by kernel_rfl) (fun V hV => by kernel_rfl) hS1 (fun _ _ _ h => h) ?_
        simp only [Act.put, List.setIfInBounds_toArray, List.set_cons_zero, List.set_cons_succ]
        have hV2 := hV1.alloc hV1.size (.cells #[.int .i64 0, .int .i64 0, .int .i64 0, .slice none 0 0] 64)
        refine any_comes (i := 9) (by kernel_rfl) (op_value (.pointer (some ⟨w1.heap.size, 0, none⟩)) rfl (by kernel_rfl) (w' := w1.alloc (.cells #[.int .i64 0, .int .i64 0, .int .i64 0, .slice none 0 0] 64)) (by kernel_rfl) rfl ⟨HRd.out _ hV2, ?_⟩)
        simp only [Act.put, List.setIfInBounds_toArray, List.set_cons_zero, List.set_cons_succ]
        refine any_left (by kernel_rfl) ?_
        refine wpAny_tail 10 (by kernel_rfl) (by kernel_rfl) ?_
        have a24 := fun w' => Tryz.aggCell w'
        have s24 := fun w' => Tryz.sizeCell w'
        go_wp2
        refine ⟨_, A', c', rfl, hV1.alloc hV1.size _, ⟨hV1.size, Blk.new w1 _ _⟩, rb_up7 hr1.out ((Below.refl _ _).alloc (Nat.le_refl _) _), fun ad e => Nat.le_trans hV0.size (hn1.out ad e)⟩
      · have hA0 := hV0.alloc hV0.size (.cells #[.int .i64 0, .int .i64 0, .int .i64 0, .slice none 0 0] 64)
        refine op_value (.pointer (some ⟨V.heap.size, 0, none⟩)) rfl (by kernel_rfl) (w' := World.alloc { V with drawn := V.drawn + 1 } (.cells #[.int .i64 0, .int .i64 0, .int .i64 0, .slice none 0 0] 64)) (by kernel_rfl) rfl ⟨HRd.out _ hA0, ?_⟩
        simp only [Act.put, List.setIfInBounds_toArray, List.set_cons_zero, List.set_cons_succ]
        refine any_comes (i := 7) (by kernel_rfl) ?_
        refine op_enter 60 #[PV] (some 52) rfl (by kernel_rfl) (by kernel_rfl) (by kernel_rfl) ((HCl.out _ hA0).mono ?_)
        rintro e w1 ⟨A', c', rfl, hr1, hn1, hb1⟩
        have hV1 := hA0.trans (hb1.mono hA0.size)
        have hS1 := HRd.out _ hV1
        refine ⟨_, rfl, hS1, ?_⟩
        simp only [Act.put, List.setIfInBounds_toArray, List.set_cons_zero, List.set_cons_succ]
        refine take_d (i := 8) (.agg #[.int .i64 o, .int .i64 (i : Int), .int .i64 nx, .slice A' q c']) 53 rfl (by kernel_rfl) (by kernel_rfl) (by kernel_rfl) (by kernel_rfl) rfl (by kernel_rfl) (by kernel_rfl) (fun V hV => by kernel_rfl) hS1 (fun _ _ _ h => h) ?_
        simp only [Act.put, List.setIfInBounds_toArray, List.set_cons_zero, List.set_cons_succ]
        refine any_left (by kernel_rfl) ?_
        refine wpAny_tail 10 (by kernel_rfl) (by kernel_rfl) ?_
        have a24 := fun w' => Tryz.aggCell w'
        have s24 := fun w' => Tryz.sizeCell w'
        have bk := Lib.hid (Blk.below (Blk.new { V with drawn := V.drawn + 1 } 64 #[.int .i64 0, .int .i64 0, .int .i64 0, .slice none 0 0]) hb1 (by simp))
        have z0 := bk.out.cell 0
        have z1 := bk.out.cell 1
        have z2 := bk.out.cell 2
        have z3 := bk.out.cell 3
        have y0 := bk.out.frozen 0
        have y1 := bk.out.frozen 1
        have y2 := bk.out.frozen 2
        have y3 := bk.out.frozen 3
        go_wp2
        refine ⟨_, A', c', rfl, ((((hV1.setCell (p := ⟨V.heap.size, 0, none⟩) (Nat.le_refl _) _).setCell (p := ⟨V.heap.size, 1, none⟩) (Nat.le_refl _) _).setCell (p := ⟨V.heap.size, 2, none⟩) (Nat.le_refl _) _).setCell (p := ⟨V.heap.size, 3, none⟩) (Nat.le_refl _) _), ⟨Nat.le_refl _, (((bk.out.set_ 0 _).set_ 1 _).set_ 2 _).set_ 3 _⟩, rb_only8 hr1.out bk.out (no8_cell 0 0 0 none 0 0) (only_trans (only_trans (only_trans (only_set _ _ _ _) (only_set _ _ _ _)) (only_set _ _ _ _)) (only_set _ _ _ _)), fun ad e => Nat.le_trans hA0.size (hn1.out ad e)⟩
    · rintro a X ⟨gc, A', c', rfl, HBx, HGc, HRb, HNw⟩
      have hb8 := HI.out.1.size
      obtain ⟨f0, f1, f2, fn, fN, ft⟩ := HE.out.far
      obtain ⟨o1, o2, o3, o4, o5, o6, o7⟩ := HE.out.ord
      have HEo : Hid (w.heap.size + 2 < V.heap.size ∧ bl < V.heap.size ∧ gr < V.heap.size ∧ bt < V.heap.size ∧ W8.heap.size ≤ V.heap.size) := ⟨by omega, by omega, by omega, by omega, hb8⟩
      have HF : Hid (¬ cutF gr bl bt ∧ bl ≠ gr ∧ w.heap.size + 1 < W8.heap.size ∧ w.heap.size + 1 + 1 < W8.heap.size ∧ bl < W8.heap.size ∧ gr < W8.heap.size ∧ bt ≠ w.heap.size + 1 ∧ bt ≠ w.heap.size + 1 + 1) := ⟨ft, by omega, by omega, by omega, by omega, by omega, by omega, by omega⟩
      have bkV1 : Blk V (w.heap.size + 1) 58 #[.slice none 0 0] := HE.out.b1.turns HI.out.1 f1
      have bkV2 : Blk V (w.heap.size + 1 + 1) 25 #[.int .i64 0] := HE.out.b2.turns HI.out.1 f2
      have HVb : Hid (Blk V (w.heap.size + 1) 58 #[.slice none 0 0] ∧ Blk V (w.heap.size + 1 + 1) 25 #[.int .i64 0]) := ⟨bkV1, bkV2⟩
      have v0 := HGc.out.2.cell 0
      have v1 := HGc.out.2.cell 1
      have v2 := HGc.out.2.cell 2
      have v3 := HGc.out.2.cell 3
      have a24 := fun w' => Tryz.aggCell w'
      have s24 := fun w' => Tryz.sizeCell w'
      have nf := fun w' => Tryz.notFalse w'
      have nt := fun w' => Tryz.notTrue w'
      obtain ⟨bm, hbm⟩ : ∃ b, b = (cutAt o ps t i).may := ⟨_, rfl⟩
      have HMy : Hid (∀ Y, Calls Tryz.prog 61 #[.agg #[.int .i64 o, .int .i64 (i : Int), .int .i64 nx, .slice A' q c']] Y fun e w' => e = .returned (.bool bm) ∧ Below Y.heap.size Y w') := fun Y => by
        have h1 := cmaybe_any (cutAt o ps t i) A' c' Y
        rw [hbm]
        unfold ceV at h1
        rw [← HQ.out.1] at h1
        rw [HQ.out.2.2]
        exact h1
      have HBm := Lib.hid hbm
      clear f0 f1 f2 fn fN ft o1 o2 o3 o4 o5 o6 o7 hb8 bkV1 bkV2 hbm
      cases bm with
      | false =>
        gi_wp2_with (first
          | (refine ⟨trivial, ?_⟩; gi_at_call 61; refine (CallsIn.inRound l (callsIn_wide.2 (HMy.out _))).mono ?_; rintro e w11 ⟨rfl, b11⟩; have hbX := HBx.out.trans (b11.mono HBx.out.size); have q1 := HVb.out.1.below hbX (by have := HEo.out.1; omega); have q2 := HVb.out.2.below hbX (by have := HEo.out.1; omega); have x1 := q1.cell 0; have x2 := q1.frozen 0; have x3 := q2.cell 0; have x4 := q2.frozen 0))
        have hT : Turns V (((w11.setCell ⟨w.heap.size + 1, 0, none⟩ (.slice none 0 0)).setCell ⟨w.heap.size + 1 + 1, 0, none⟩ (.int .i64 1))) (cutG w.heap.size gr bl) (cutG w.heap.size gr bl) := ((Turns.of_below hbX _).trans (Turns.set_ (.inr (.inr (.inl rfl))) 0 _)).trans (Turns.set_ (.inr (.inr (.inr rfl))) 0 _)
        have hVl := HI.out.2.1
        have hVg := (own_lt HI.out.2.2.2.choose_spec.1 (k := gr) rfl).2
        refine ⟨keeps_turns hT fun k hk => ?_, rfl, ?_, ?_, ?_, i, HIN.out, HBm.out.symm⟩
        · rcases hk with rfl | rfl | rfl | rfl
          · exact ⟨_, _, hVl⟩
          · exact ⟨_, hVg⟩
          · exact ⟨_, _, HVb.out.1⟩
          · exact ⟨_, _, HVb.out.2⟩
        · exact (HI.out.1.wide (E := cutG w.heap.size gr bl) (E' := cutG w.heap.size gr bl) (fun k hk => by rcases hk with h | h; exact .inl h; exact .inr (.inl h)) (fun k hk => .inl hk)).trans hT
        · exact (q1.set_ 0 _).far (by show w.heap.size + 1 ≠ w.heap.size + 1 + 1; omega) _
        · exact (q2.far (p := ⟨w.heap.size + 1, 0, none⟩) (by show w.heap.size + 1 + 1 ≠ w.heap.size + 1; omega) _).set_ 0 _
      | true =>
        obtain ⟨rows, hro, hrl, hrm, hrb⟩ := HI.out.2.2.2
        have HO := Lib.hid hro
        have HRw := Lib.hid (And.intro hrl (And.intro hrm hrb))
        clear hro hrl hrm hrb
        gi_wp2_with (first
          | (refine ⟨trivial, ?_⟩; gi_at_call 61; refine (CallsIn.inRound l (callsIn_wide.2 (HMy.out _))).mono ?_; rintro e w11 ⟨rfl, b11⟩; have hbX := HBx.out.trans (b11.mono HBx.out.size); have q1 := HI.out.2.1.below hbX HEo.out.2.1; have x1 := q1.cell 0; have gcl := Blk.lt HGc.out.2; have qc := HGc.out.2.below b11 gcl; have x3 := qc.cell 0; have x4 := qc.cell 1; have x5 := qc.cell 2; have x6 := qc.cell 3; have ho11 := own_turns HO.out (Turns.of_below hbX (fun _ => False)) (fun _ _ h => h))
          | (gi_at_builtin; refine wpListIn_append_fits _ rfl (.tmp 57) (.tmp 59) 58 rfl gr 64 ic 4 Tryz.underlying58 hic hcz1 gr js.length np (rowE rows) rfl (ho11.alloc _) ⟨w11.heap.size, 0, none⟩ 1 1 [.int .i64 o, .int .i64 (i : Int), .int .i64 nx, .slice A' q c'] rfl rfl (four_cells w11 _ _ _ _ _) (ceC_one _ _ _ _ _ _) (by omega) ?_; intro w12 ho12 hg12; have q12 := (q1.alloc _).grown hg12 (fun e => by injection e with e; exact HF.out.2.1 e); have x7 := q12.cell 0; have x8 := q12.frozen 0))
        have hbA : Below V.heap.size V (w11.alloc (.cells #[.int .i64 o, .int .i64 (i : Int), .int .i64 nx, .slice A' q c'] 64)) := hbX.alloc hbX.size _
        have hT12 : Turns V w12 (cutF gr bl) (cutF gr bl) := (Turns.of_below hbA _).trans (Turns.grown hg12 (fun k e => by injection e with e; exact .inr e.symm))
        have hT : Turns V (w12.setCell ⟨bl, 0, none⟩ (.slice (some ⟨gr, 0, none⟩) (js.length + 1) np)) (cutF gr bl) (cutF gr bl) := hT12.trans (Turns.set_ (.inl rfl) 0 _)
        have hTX : Turns X (w12.setCell ⟨bl, 0, none⟩ (.slice (some ⟨gr, 0, none⟩) (js.length + 1) np)) (cutF gr bl) (cutF gr bl) := ((Turns.of_below (b11.alloc b11.size _) _).trans (Turns.grown hg12 (fun k e => by injection e with e; exact .inr e.symm))).trans (Turns.set_ (.inl rfl) 0 _)
        have hVl := HI.out.2.1
        have hVg := (own_lt HO.out (k := gr) rfl).2
        have hne := HF.out
        have heo := HEo.out
        refine ⟨keeps_turns hT fun k hk => ?_, hT.cell (p := ⟨bt, 0, none⟩) heo.2.2.2.1 hne.1, ?_⟩
        · rcases hk with rfl | rfl
          · exact ⟨_, _, hVl⟩
          · exact ⟨_, hVg⟩
        show CutI W8 o ps t np gr bl (List.map (fun x : Upto np => x.1) pr) _
        rw [HPM.out]
        have hlj : (js ++ [i]).length = js.length + 1 := by simp
        refine ⟨HI.out.1.trans hT, ?_, fun j hj => ?_, rows ++ [(cutAt o ps t i, A', c')], ?_, ?_, ?_, fun x hx => ?_⟩
        · rw [hlj]
          exact q12.set_ 0 _
        · rcases List.mem_append.1 hj with h | h
          · exact HI.out.2.2.1 j h
          · rw [List.mem_singleton] at h
            subst h
            exact HBm.out.symm
        · rw [hlj, rowE_snoc]
          have e : ceC (cutAt o ps t i, A', c') = [.int .i64 o, .int .i64 (i : Int), .int .i64 nx, .slice A' q c'] := by
            rw [HQ.out.1, HQ.out.2.2]
            rfl
          rw [e]
          exact own_turns ho12 (Turns.set_ (F := fun k => k = bl) rfl 0 _) (fun k hk e => by injection hk with hk; exact hne.2.1 (by rw [← e, ← hk]))
        · rw [List.length_append, HRw.out.1, hlj]; rfl
        · rw [List.map_append, HRw.out.2.1, List.map_append]; rfl
        · rcases List.mem_append.1 hx with h | h
          · obtain ⟨h1, h2⟩ := HRw.out.2.2 x h
            refine ⟨RB.more (Reads.turns h1 (Nat.le_refl _) hT (fun ad e hf => ?_)) hT.size, h2⟩
            have := h2 ad e
            unfold cutF at hf
            omega
          · rw [List.mem_singleton] at h
            subst h
            refine ⟨RB.more (Reads.turns HRb.out (Nat.le_refl _) hTX (fun ad e hf => ?_)) hTX.size, fun ad e => Nat.le_trans heo.2.2.2.2 (HNw.out ad e)⟩
            have := HNw.out ad e
            unfold cutF at hf
            omega
  case done =>
    rintro D ys Z hD hys hI hK
    have hI : CutI W8 o ps t np gr bl (List.map (fun x : Upto np => x.1) ys) Z := hI
    have hys : List.map (fun x : Upto np => x.1) ys = List.range np := hys
    rw [hys] at hI
    obtain ⟨hT, hBl, hmay, rows, hown, hlen, hmap, hrb⟩ := hI
    rw [List.length_range] at hBl hown hlen
    obtain ⟨f0, f1, f2, fn, fN, ft⟩ := HE.out.far
    obtain ⟨o1, o2, o3, o4, o5, o6, o7⟩ := HE.out.ord
    have q1 := HE.out.b1.turns hT f1
    have q2 := HE.out.b2.turns hT f2
    have x0 := hBl.cell 0
    have x1 := q1.cell 0
    have x2 := q1.frozen 0
    have x3 := q2.cell 0
    have x4 := q2.frozen 0
    have HV : Hid (cutC o ps t = ((List.range np).map (cutAt o ps t), 0)) := by
      show _ = _
      rw [HE.out.hp]
      refine cut_ok (by have := HE.out.hl; have := HE.out.hn; omega) (by rw [← HE.out.hp, HE.out.hN, HE.out.hn]) (by rw [← HE.out.hp]; omega) fun i hi => ?_
      unfold cutOk
      rw [hmay i (List.mem_range.2 (by rw [HE.out.hp]; exact hi)), Bool.true_and]
      have h5 := List.any_eq_false.1 HE.out.place (ps[i]) (List.getElem_mem hi)
      have e : ps.getD i 0 = ps[i] := by simp [hi]
      rw [e]
      simpa using h5
    have HBf : Hid (Below w.heap.size w Z) := HE.out.low hT
    have HOw := Lib.hid (And.intro hown (And.intro hlen (And.intro hmap hrb)))
    have HTs := Lib.hid hT.size
    have HK := Lib.hid hK
    have HQ1 := Lib.hid q1
    have HQ2 := Lib.hid q2
    have HGe : Hid (w.heap.size + 2 < gr ∧ gr < Z.heap.size ∧ D < Z.heap.size) := ⟨by omega, by have := hT.size; omega, (Array.getElem?_eq_some_iff.1 hK).1⟩
    clear hT hBl hmay hown hlen hmap hrb f0 f1 f2 fn fN ft o1 o2 o3 o4 o5 o6 o7 hys hK q1 q2 hE
    go_wp2
    have hge := HGe.out
    have hds : w.heap.size ≤ D := Nat.le_trans HE.out.below.size hD
    obtain ⟨hown, hlen, hmap, hrb⟩ := HOw.out
    have hT2 : Turns Z ((Z.setCell ⟨w.heap.size + 1, 0, none⟩ (.slice (some ⟨gr, 0, none⟩) np np)).setCell ⟨w.heap.size + 1 + 1, 0, none⟩ (.int .i64 0)) (fun k => k = w.heap.size + 1 ∨ k = w.heap.size + 1 + 1) (fun k => k = w.heap.size + 1 ∨ k = w.heap.size + 1 + 1) := (Turns.set_ (.inl rfl) 0 _).trans (Turns.set_ (.inr rfl) 0 _)
    have hK2 := ((KeepsOthers.setCell Z ⟨w.heap.size + 1, 0, none⟩ (.slice (some ⟨gr, 0, none⟩) np np)).trans (KeepsOthers.setCell _ ⟨w.heap.size + 1 + 1, 0, none⟩ (.int .i64 0))).same D _ HK.out rfl
    have b1 : Blk ((Z.setCell ⟨w.heap.size + 1, 0, none⟩ (.slice (some ⟨gr, 0, none⟩) np np)).setCell ⟨w.heap.size + 1 + 1, 0, none⟩ (.int .i64 0)) (w.heap.size + 1) 58 #[.slice (some ⟨gr, 0, none⟩) np np] := (HQ1.out.set_ 0 _).far (by show w.heap.size + 1 ≠ w.heap.size + 1 + 1; omega) _
    have b2 : Blk ((Z.setCell ⟨w.heap.size + 1, 0, none⟩ (.slice (some ⟨gr, 0, none⟩) np np)).setCell ⟨w.heap.size + 1 + 1, 0, none⟩ (.int .i64 0)) (w.heap.size + 1 + 1) 25 #[.int .i64 0] := (HQ2.out.far (p := ⟨w.heap.size + 1, 0, none⟩) (by show w.heap.size + 1 + 1 ≠ w.heap.size + 1; omega) _).set_ 0 _
    have hbz := below_two (g := w.heap.size + 1) (k := w.heap.size + 1 + 1) HBf.out (by omega) (by omega) (.slice (some ⟨gr, 0, none⟩) np np) (.int .i64 0)
    have hlow : ∀ x ∈ rows, ∀ ad, x.2.1 = some ad → ¬ (ad.block = w.heap.size + 1 ∨ ad.block = w.heap.size + 1 + 1) := fun x hx ad e => by
      have := (hrb x hx).2 ad e
      have := HE.out.ord
      omega
    generalize (Z.setCell ⟨w.heap.size + 1, 0, none⟩ (.slice (some ⟨gr, 0, none⟩) np np)).setCell ⟨w.heap.size + 1 + 1, 0, none⟩ (.int .i64 0) = Z2 at hT2 hK2 b1 b2 hbz ⊢
    have kp : ∀ r, some D = some r → ∃ o : Obj, Z2.heap[r]? = some o ∧ o.isCells = false := fun r e => by cases e; exact ⟨_, hK2, rfl⟩
    have c1 := cell_kept (b1.cell 0) (grownBy_putObj' Z2 D (.deferred none)) kp
    have c2 := cell_kept (b2.cell 0) (grownBy_putObj' Z2 D (.deferred none)) kp
    have hown2 := own_kept_ (own_turns hown hT2 (fun k hk e => by
      have hk : gr = k := by simpa [Value.ownBlock] using hk
      have := hge.1
      omega)) (grownBy_putObj' Z2 D (.deferred none)) kp
    refine ⟨by simp, .inl ⟨_, _, rfl, run_takeDeferred hK2, ?_⟩⟩
    refine ⟨.tuple #[.slice (some ⟨gr, 0, none⟩) np np, .int .i64 0], by simp [results, Tryz.results23, go_sem, c1, c2], some ⟨gr, 0, none⟩, np, ?_, ?_, ?_⟩
    · rw [HV.out]
      simp
    · rw [HV.out, ← hmap]
      exact CLN.of_own hown2 (by have := hge.1; omega) hlen.symm (hp := fun x hx ad e => Nat.le_trans HE.out.below.size ((hrb x hx).2 ad e)) (hr := fun x hx => rb_kept (RB.more (Reads.turns (hrb x hx).1 (Nat.le_refl _) hT2 (hlow x hx)) hT2.size) (grownBy_putObj' Z2 D (.deferred none)) kp)
    · exact hbz.grown (grownBy_putObj' Z2 D (.deferred none)) hbz.size (fun k e => by cases e; exact hds)
  case stop =>
    rintro D c pre Z hD _ hX hK
    have hX : CutX W8 w.heap.size o ps t np gr bl c Z := hX
    obtain ⟨rfl, hT, q1, q2, i, hi, hb⟩ := hX
    have HV : cutC o ps t = ([], 1) := by
      refine cut_bad (by have := HE.out.hl; have := HE.out.hn; omega) (by rw [← HE.out.hp, HE.out.hN, HE.out.hn]) (by rw [← HE.out.hp]; omega) (by rw [← HE.out.hp]; exact hi) ?_
      unfold cutOk
      rw [hb]
      rfl
    have hds : w.heap.size ≤ D := Nat.le_trans HE.out.below.size hD
    obtain ⟨o1, o2, o3, o4, o5, o6, o7⟩ := HE.out.ord
    have hbz : Below w.heap.size w Z := HE.out.below.trans (hT.below (fun k hk => by unfold cutG at hk; omega) (by omega))
    have kp : ∀ r, some D = some r → ∃ o : Obj, Z.heap[r]? = some o ∧ o.isCells = false := fun r e => by cases e; exact ⟨_, hK, rfl⟩
    have c1 := cell_kept (q1.cell 0) (grownBy_putObj' Z D (.deferred none)) kp
    have c2 := cell_kept (q2.cell 0) (grownBy_putObj' Z D (.deferred none)) kp
    refine wpIn_ret ?_
    refine ⟨by simp, .inl ⟨_, _, rfl, run_takeDeferred hK, ?_⟩⟩
    refine ⟨.tuple #[.slice none 0 0, .int .i64 1], by simp [results, Tryz.results23, go_sem, c1, c2], none, 0, ?_, ?_, ?_⟩
    · rw [HV]; rfl
    · rw [HV]; exact CLN.nil
    · exact hbz.grown (grownBy_putObj' Z D (.deferred none)) hbz.size (fun k e => by cases e; exact hds)
theorem ccut_lies (o : Int) (ps : List Int) (t : List UInt8) (A B : Option Addr) (cA cB : Nat) (w : World) (ht : t.length ≤ 1000000) (hp : ps.length ≤ 1000000) (ho : -9223372036854775808 ≤ o ∧ o ≤ 9223372036854775807) (hps : ∀ p ∈ ps, -9223372036854775808 ≤ p ∧ p ≤ 9223372036854775807)
    (hA : RI w w.heap.size A ps) (hpa : ps.length ≤ cA) (hpm : cA ≤ 9223372036854775807) (hr : RB w w.heap.size B t) (hc : t.length ≤ cB) (hcm : cB ≤ 9223372036854775807) :
    Calls Tryz.prog 23 #[.int .i64 o, .slice A ps.length cA, .slice B t.length cB] w (GivesCLN (cutC o ps t) w) := by
  by_cases h : 262144 < t.length
  · exact ccut_long o ps t _ _ A B cA cB w rfl h
  · by_cases hf : t.length = 0 ∨ ps.length ≠ needC t.length
    · exact ccut_few o ps t _ _ A B cA cB w rfl rfl (by omega) hf
    · have h0 : t.length ≠ 0 := fun e => hf (.inl e)
      have hN : ps.length = needC t.length := Classical.byContradiction fun e => hf (.inr e)
      cases hb : ps.any (fun p => !placeOk p) with
      | true => exact ccut_place o ps t _ _ A B cA cB w rfl rfl (by omega) h0 hN hA hb
      | false => exact ccut_in o ps t _ _ A B cA cB w rfl rfl (by omega) h0 hN hA hpa hr hc hb
end Go.Proofs.YtonnkibcnhjelaaGreatDoor
