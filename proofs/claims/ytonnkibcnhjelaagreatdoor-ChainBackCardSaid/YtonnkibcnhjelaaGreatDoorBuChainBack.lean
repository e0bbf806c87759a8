/- ChainBack returns true for every two texts and every list of masks, and leaves memory that was there as it was; nothing else is assumed beyond the statement itself. -/
import Derived.Test.YtonnkibcnhjelaaGreatDoorBu42
import Derived.Test.YtonnkibcnhjelaaGreatDoorBu36
import Derived.Test.YtonnkibcnhjelaaGreatDoorTie
import Derived.Test.YtonnkibcnhjelaaGreatDoorCards
import Derived.SevenTiedAt
import Derived.Deep.QuietTactic
import Derived.BigQuiet
set_option linter.unusedVariables false
namespace Go.Proofs.YtonnkibcnhjelaaGreatDoor
open Go.ChangeShapes Go.WideShapes Go.ChangeAt Go.RowKit
theorem Tryz.textAgg (w : World) : (isAgg 41).run Tryz.prog w = .ok true w := by kernel_rfl
theorem Tryz.textSize (w : World) : (sizeOf 41).run Tryz.prog w = .ok 3 w := by kernel_rfl
structure BkP (w W : World) (g g3 g4 gp : Nat) (A3 A4 : Array Value) (P1 P2 P3 : Int) (F : Nat → Prop) (D : Dk) : Prop where
  s : BkS w W g g3 g4 A3 A4 F D
  prt : Blk W gp 35 #[.int .i64 P1, .int .i64 P2, .int .i64 P3]
  pn : ¬ F gp
section
variable {w W W' : World} {g g3 g4 gp : Nat} {A3 A4 : Array Value} {P1 P2 P3 : Int} {F F' : Nat → Prop} {D D' : Dk}
theorem BkP.turned (h : BkP w W g g3 g4 gp A3 A4 P1 P2 P3 F D) (hp : PDisk W' g F' D') (ht : Turns W W' F F') : BkP w W' g g3 g4 gp A3 A4 P1 P2 P3 F' D' := ⟨h.s.turned hp ht, h.prt.turns ht h.pn, not_foot ht h.prt.lt h.pn⟩
theorem BkP.more (h : BkP w W g g3 g4 gp A3 A4 P1 P2 P3 F D) (hb : Below W.heap.size W W') : BkP w W' g g3 g4 gp A3 A4 P1 P2 P3 F D := h.turned (h.s.has.disk.below hb) (Turns.of_below hb F)
theorem BkP.drew (h : BkP w W g g3 g4 gp A3 A4 P1 P2 P3 F D) : BkP w W.drew g g3 g4 gp A3 A4 P1 P2 P3 F D := h.more ((Below.refl _ _).drew)
theorem BkP.drewN (h : BkP w W g g3 g4 gp A3 A4 P1 P2 P3 F D) (n : Nat) : BkP w (W.drewN n) g g3 g4 gp A3 A4 P1 P2 P3 F D := h.more ⟨rfl, rfl, rfl, Nat.le_refl _, fun _ _ => rfl⟩
theorem BkP.cells (h : BkP w W g g3 g4 gp A3 A4 P1 P2 P3 F D) : W.cell? ⟨gp, 0, none⟩ = some (.int .i64 P1) ∧ W.cell? ⟨gp, 1, none⟩ = some (.int .i64 P2) ∧ W.cell? ⟨gp, 2, none⟩ = some (.int .i64 P3) := ⟨by rw [h.prt.cell]; rfl, by rw [h.prt.cell]; rfl, by rw [h.prt.cell]; rfl⟩
theorem BkP.first (h : BkS w W g g3 g4 A3 A4 F D) : BkP w (W.alloc (.cells #[.int .i64 P1, .int .i64 P2, .int .i64 P3] 35)) g g3 g4 W.heap.size A3 A4 P1 P2 P3 F D := ⟨h.alloc _, Blk.new W _ _, fun hf => Nat.lt_irrefl _ (h.has.flt _ hf)⟩
end
set_option maxRecDepth 100000 in
set_option maxHeartbeats 8000000 in
theorem cback_any (a b : Tx) (pA dA pB dB M : Option Addr) (pc1 dc1 pc2 dc2 mk mc : Nat) (masks : List Int) (w : World) (ha : TV w a pA pc1 dA dc1) (hb : TV w b pB pc2 dB dc2) (hM : RI w w.heap.size M masks) (hmk : mk = masks.length) (hE : Er w) :
    Calls Tryz.prog 4 #[txV a pA pc1 dA dc1, txV b pB pc2 dB dc2, .slice M mk mc] w fun e w' => e = .returned (.bool true) ∧ Below w.heap.size w w' := by
  unfold txV
  obtain ⟨oa, hoa⟩ : ∃ x, x = a.owner := ⟨_, rfl⟩
  obtain ⟨na, hna⟩ : ∃ x, x = a.places.length := ⟨_, rfl⟩
  obtain ⟨ta, hta⟩ : ∃ x, x = a.data.length := ⟨_, rfl⟩
  obtain ⟨ob, hob⟩ : ∃ x, x = b.owner := ⟨_, rfl⟩
  obtain ⟨nb, hnb⟩ : ∃ x, x = b.places.length := ⟨_, rfl⟩
  obtain ⟨tb, htb⟩ : ∃ x, x = b.data.length := ⟨_, rfl⟩
  obtain ⟨fw, hfw⟩ : ∃ x, x = fewT [a, b] := ⟨_, rfl⟩
  rw [← hoa, ← hna, ← hta, ← hob, ← hnb, ← htb]
  have HB : Hid (∀ W, Calls Tryz.prog 5 #[.int .i64 16] W fun e w' => ∃ g F, e = .returned (.tuple #[.pointer (some ⟨g, 0, none⟩), .int .i64 0]) ∧ GivesDisk (Dk.blank 16) W w' g F) := fun W => blank_any 16 W (by omega) (by omega)
  have HF : Hid (∀ V, Below w.heap.size w V → Calls Tryz.prog 7 #[.slice (some ⟨V.heap.size, 0, none⟩) 2 2] (V.alloc (.cells #[.int .i64 oa, .slice pA na pc1, .slice dA ta dc1, .int .i64 ob, .slice pB nb pc2, .slice dB tb dc2] 41)) fun e w' => e = .returned (.bool fw) ∧ Below V.heap.size V w') := fun V hV => by
    rw [hoa, hna, hta, hob, hnb, htb, hfw]
    refine (fewT_any [a, b] _ 2 2 (Below.refl _ _) (two_tl V a b pA dA pB dB pc1 dc1 pc2 dc2 (ha.up hV) (hb.up hV)) rfl).mono fun e w' hh => ⟨hh.1, ?_⟩
    exact chain6 ((Below.refl _ _).alloc (Nat.le_refl _) _) hh.2
  have HAw : Hid (∀ W, Below w.heap.size w W → Calls Tryz.prog 9 #[] W fun e w' => e = .returned (.bool true) ∧ Below W.heap.size W w') := fun W hb => awake10_any W (hE.below hb)
  have HEr := Lib.hid hE
  clear hE
  have n0 := fun w' => Tryz.notFalse w'
  have n1 := fun w' => Tryz.notTrue w'
  have y2 := fun g w' => Tryz.dIsNil g w'
  have a41 := fun w' => Tryz.textAgg w'
  have s41 := fun w' => Tryz.textSize w'
  have a35 := fun w' => Tryz.aggPart w'
  have s35 := fun w' => Tryz.sizePart w'
  have b35 := fun w' => Tryz.partBuild0 w'
  have p1 := fun a b c w' => Tryz.partEqY a b c w'
  rcases fw with _ | _
  · clear ha hb hM hmk hoa hna hta hob hnb htb hfw
    go_enter Tryz.func4, Tryz.ntmps4
    go_wp2_with (first
      | (go_at_call 5; (with_reducible refine (HB.out _).mono ?_); rintro e w1 ⟨g, F0, rfl, hG⟩; have s1 := bks_first hG; obtain ⟨c0, c1, c2, e0, e1, e2⟩ := s1.cells; have k1 := s1.has.below)
      | (go_at_call 7; have hx := HF.out w1 k1; (with_reducible refine hx.mono ?_); clear hx; rintro e w2 ⟨rfl, b2⟩; have k2 := chain6 k1 b2)
      | (go_at_call 9; (with_reducible refine (HAw.out _ k2).mono ?_); rintro e w3 ⟨rfl, b3⟩))
    go_ret
    exact ⟨rfl, chain6 k2 b3⟩
  · obtain ⟨⟨f1, f2⟩, f3, f4⟩ := fewT_two hfw.symm
    obtain ⟨D1, hD1⟩ : ∃ x, x = (chWrite (Dk.blank 16) a.owner a.places a.data).1 := ⟨_, rfl⟩
    obtain ⟨P, hP⟩ : ∃ x, x = (chWrite (Dk.blank 16) a.owner a.places a.data).2.1 := ⟨_, rfl⟩
    obtain ⟨z, hz⟩ : ∃ x, x = (chWrite (Dk.blank 16) a.owner a.places a.data).2.2 := ⟨_, rfl⟩
    have HWa : Hid (∀ W g g3 g4 A3 A4 F, BkS w W g g3 g4 A3 A4 F (Dk.blank 16) → Calls Tryz.prog 10 #[.pointer (some ⟨g, 0, none⟩), .int .i64 oa, .slice pA na pc1, .slice dA ta dc1] W fun e w' => ∃ F', e = .returned (.tuple #[.agg #[.int .i64 P.first, .int .i64 P.size, .int .i64 P.owner], .int .i64 z]) ∧ BkS w w' g g3 g4 A3 A4 F' D1) := fun W g g3 g4 A3 A4 F h => by
      obtain ⟨m1, m2⟩ := h.has.oldI ha.ri
      have mr := rb_up7 ha.rb h.has.below
      have := chwrite_any a.owner a.places a.data na ta pA dA pc1 dc1 h.has.disk (by decide) hna hta (by omega) (by omega) ha.oin ha.pin m1 (fun h => m2 (by omega)) (by rw [hna]; exact ha.plen) mr (fun h' => h.has.old ha.rb (by omega)) (by rw [hta]; exact ha.dlen)
      rw [← hoa] at this
      refine this.mono fun e w' hh => ?_
      obtain ⟨F', he, hp, ht⟩ := hh
      rw [hoa, ← hP, ← hz] at he
      rw [hoa, ← hD1] at hp
      exact ⟨F', he, h.turned hp ht⟩
    by_cases hz0 : z = 0
    · have hz0' : (chWrite (Dk.blank 16) a.owner a.places a.data).2.2 = 0 := by rw [← hz]; exact hz0
      have hfl := back_ok hz0'
      rw [← hD1] at hfl
      have hl1 : D1.load ≤ 24 := by
        have := chWrite_load (Dk.blank 16) a.owner a.places a.data
        rw [← hD1] at this
        have h0 : (Dk.blank 16).load = 0 := rfl
        omega
      obtain ⟨D2, hD2⟩ : ∃ x, x = D1.flush.1 := ⟨_, rfl⟩
      have hl2 : D2.load ≤ 26 := by
        have : D1.flush.1.load ≤ D1.load + 2 := step_load D1 ⟨3, 0, [], false, []⟩
        rw [hD2]; omega
      have HFl : Hid (∀ W g g3 g4 gp A3 A4 P1 P2 P3 F, BkP w W g g3 g4 gp A3 A4 P1 P2 P3 F D1 → Calls Tryz.prog 14 #[.pointer (some ⟨g, 0, none⟩)] W fun e w' => e = .returned (.int .i64 0) ∧ BkP w w' g g3 g4 gp A3 A4 P1 P2 P3 F D2) := fun W g g3 g4 gp A3 A4 P1 P2 P3 F h =>
        (flush_any h.s.has.disk (by omega)).mono fun e w' hh => by
          obtain ⟨he, hd⟩ := hh
          rw [hfl] at he
          rw [← hD2] at hd
          exact ⟨he, h.turned hd.1 hd.2⟩
      obtain ⟨D3, hD3⟩ : ∃ x, x = (chWrite D2 b.owner b.places b.data).1 := ⟨_, rfl⟩
      have hl3 : D3.load ≤ 50 := by
        have := chWrite_load D2 b.owner b.places b.data
        rw [← hD3] at this
        omega
      have HWb : Hid (∀ W g g3 g4 gp A3 A4 P1 P2 P3 F, BkP w W g g3 g4 gp A3 A4 P1 P2 P3 F D2 → Calls Tryz.prog 10 #[.pointer (some ⟨g, 0, none⟩), .int .i64 ob, .slice pB nb pc2, .slice dB tb dc2] W fun e w' => ∃ v F', e = .returned v ∧ BkP w w' g g3 g4 gp A3 A4 P1 P2 P3 F' D3) := fun W g g3 g4 gp A3 A4 P1 P2 P3 F h => by
        obtain ⟨m1, m2⟩ := h.s.has.oldI hb.ri
        have mr := rb_up7 hb.rb h.s.has.below
        have := chwrite_any b.owner b.places b.data nb tb pB dB pc2 dc2 h.s.has.disk (by omega) hnb htb (by omega) (by omega) hb.oin hb.pin m1 (fun h => m2 (by omega)) (by rw [hnb]; exact hb.plen) mr (fun h' => h.s.has.old hb.rb (by omega)) (by rw [htb]; exact hb.dlen)
        rw [← hob] at this
        refine this.mono fun e w' hh => ?_
        obtain ⟨F', he, hp, ht⟩ := hh
        rw [hob, ← hD3] at hp
        exact ⟨_, F', he, h.turned hp ht⟩
      obtain ⟨D4, hD4⟩ : ∃ x, x = D3.crash masks := ⟨_, rfl⟩
      have hl4 : D4.load ≤ 52 := by
        have : (D3.crash masks).load ≤ D3.load + 2 := step_load D3 ⟨5, 0, [], false, masks⟩
        rw [hD4]; omega
      have HCr : Hid (∀ W g g3 g4 gp A3 A4 P1 P2 P3 F, BkP w W g g3 g4 gp A3 A4 P1 P2 P3 F D3 → Calls Tryz.prog 15 #[.pointer (some ⟨g, 0, none⟩), .slice M mk mc] W fun e w' => e = .returned (.tuple #[]) ∧ BkP w w' g g3 g4 gp A3 A4 P1 P2 P3 F D4) := fun W g g3 g4 gp A3 A4 P1 P2 P3 F h => by
        obtain ⟨m1, m2⟩ := h.s.has.oldI hM
        refine (crash_any h.s.has.disk masks M mk mc hmk m1 m2).mono fun e w' hh => ?_
        obtain ⟨he, hd⟩ := hh
        rw [← hD4] at hd
        exact ⟨he, h.turned hd.1 hd.2⟩
      have hPa := chWrite_part hz0'
      rw [← hP] at hPa
      have HRd : Hid ((∀ i, i < na → ∀ k, k < nb → a.places.getD i 0 ≠ b.places.getD k 0) → ∀ W g g3 g4 gp A3 A4 F, BkP w W g g3 g4 gp A3 A4 P.first P.size P.owner F D4 → Calls Tryz.prog 16 #[.pointer (some ⟨g, 0, none⟩), .agg #[.int .i64 P.first, .int .i64 P.size, .int .i64 P.owner]] W fun e w' => ∃ F' A c A2 c2, e = .returned (.tuple #[.slice A ta c, .slice A2 na c2, .int .i64 0]) ∧ RB w' w'.heap.size A a.data ∧ RI w' w'.heap.size A2 a.places ∧ ∃ D5, BkS w w' g g3 g4 A3 A4 F' D5) := fun hne W g g3 g4 gp A3 A4 F h => by
        have hback := chRead_back (d := Dk.blank 16) (o := a.owner) (ps := a.places) (t := a.data) (p := b.owner) (qs := b.places) (u := b.data) masks hz0' (by rw [← hD1]; exact hfl) rfl (fun i hi k hk => hne i (by omega) k (by omega))
        rw [← hD1, ← hD2, ← hD3, ← hD4, ← hP] at hback
        have h0 : 0 < a.places.length ∨ a.places.length = 0 := by omega
        have hin : InI P.first ∧ InI P.size ∧ InI P.owner := by
          rw [hPa]
          refine ⟨?_, ini10 ⟨by show _ ≤ ((a.data.length : Nat) : Int); omega, by show ((a.data.length : Nat) : Int) ≤ _; omega⟩, ha.oin⟩
          show InI (a.places.getD 0 0)
          rw [List.getD_eq_getElem?_getD]
          rcases hg : a.places[0]? with _ | v
          · exact ini10 (by simp)
          · exact ha.pin v (List.mem_of_getElem? hg)
        refine (chread_any P h.s.has.disk (by omega) (HEr.out.below h.s.has.below) (HEr.out.foot h.s.has.own)).mono fun e w' hh => ?_
        obtain ⟨F', A, c, A2, c2, k, he, hk, hp, ht, r1, n1, r2, n2⟩ := hh
        rw [hback] at he r1 r2
        rw [hta, hna]
        exact ⟨F', A, c, A2, c2, he, r1, r2, _, h.s.turned hp ht⟩
      obtain ⟨P1, P2, P3⟩ := P
      simp only at HWa HRd
      subst hz0
      have HSt : Hid (∀ (W : World) (A : Option Addr) (c : Nat), RB W W.heap.size A a.data → (convert 39 9 (.slice A ta c)).run Tryz.prog W = .ok (.string ⟨a.data.toArray⟩) W) := fun W A c h => aw_str h ta c hta
      have HSo : Hid (∀ W, Below w.heap.size w W → RB W W.heap.size dA a.data) := fun W h => rb_up7 ha.rb h
      have HIo : Hid (∀ W, Below w.heap.size w W → RI W W.heap.size pA a.places) := fun W h => ri_up10 ha.ri h
      have HI : Hid (∀ (W : World) (A C : Option Addr) (c d : Nat), RI W W.heap.size A a.places → RI W W.heap.size C a.places → Calls Tryz.prog 17 #[.slice A na c, .slice C na d] W fun e w' => e = .returned (.bool true) ∧ Below W.heap.size W w') := fun W A C c d h1 h2 => intsq_any a.places A C na c d _ W hna h1 h2 (by omega)
      have HCa : Hid (∀ W, Below w.heap.size w W → ∀ k, k < na → ∃ b off, pA = some ⟨b, off, none⟩ ∧ W.cell? ⟨b, off + k, none⟩ = some (.int .i64 (a.places.getD k 0))) := fun W hW k hk => by
        obtain ⟨b, off, e, hlt, hc⟩ := ha.ri (by omega)
        refine ⟨b, off, e, ?_⟩
        rw [(hW.cell (p := ⟨b, off + k, none⟩) hlt).trans (hc k (by omega)), List.getD_eq_getElem?_getD, List.getElem?_eq_getElem (by omega)]; rfl
      have HCb : Hid (∀ W, Below w.heap.size w W → ∀ k, k < nb → ∃ b' off, pB = some ⟨b', off, none⟩ ∧ W.cell? ⟨b', off + k, none⟩ = some (.int .i64 (b.places.getD k 0))) := fun W hW k hk => by
        obtain ⟨b', off, e, hlt, hc⟩ := hb.ri (by omega)
        refine ⟨b', off, e, ?_⟩
        rw [(hW.cell (p := ⟨b', off + k, none⟩) hlt).trans (hc k (by omega)), List.getD_eq_getElem?_getD, List.getElem?_eq_getElem (by omega)]; rfl
      obtain ⟨zs, hzs⟩ : ∃ x, x = a.places := ⟨_, rfl⟩
      obtain ⟨us, hus⟩ : ∃ x, x = b.places := ⟨_, rfl⟩
      obtain ⟨td, htd⟩ : ∃ x, x = a.data := ⟨_, rfl⟩
      rw [← hzs] at HRd HIo HI HCa
      rw [← hus] at HRd HCb
      rw [← htd] at HRd HSt HSo
      have hna12 : na ≤ 12 := by omega
      have hnb12 : nb ≤ 12 := by omega
      clear ha hb hM hmk hoa hna hta hob hnb htb hfw f1 f2 f3 f4 hD1 hP hz hz0' hfl hl1 hD2 hl2 hD3 hl3 hD4 hl4 hPa hzs hus htd
      go_enter Tryz.func4, Tryz.ntmps4
      go_wp2_with (first
        | (go_at_call 5; (with_reducible refine (HB.out _).mono ?_); rintro e w1 ⟨g, F0, rfl, hG⟩; have s1 := bks_first hG; obtain ⟨c0, c1, c2, e0, e1, e2⟩ := s1.cells; have k1 := s1.has.below)
        | (go_at_call 7; have hx := HF.out w1 k1; (with_reducible refine hx.mono ?_); clear hx; rintro e w2 ⟨rfl, b2⟩; have s2 := s1.more b2; obtain ⟨c0, c1, c2, e0, e1, e2⟩ := s2.cells; clear s1 b2)
        | (go_at_call 10; have hx := HWa.out w2 g _ _ _ _ F0 s2; (with_reducible refine hx.mono ?_); clear hx; rintro e w3 ⟨F1, rfl, s3⟩; have s3p := BkP.first (P1 := P1) (P2 := P2) (P3 := P3) s3; clear s2)
        | (go_at_call 14; have hx := HFl.out _ g _ _ _ _ _ _ _ _ F1 s3p; (with_reducible refine hx.mono ?_); clear hx; rintro e w4 ⟨rfl, s4⟩; obtain ⟨c0, c1, c2, e0, e1, e2⟩ := s4.s.cells; have k4 := s4.s.has.below; clear s3 s3p))
      go_loopw [11, 12] (fun x _ wr => ∃ i : Nat, i ≤ na ∧ x = .int .i64 (i : Int) ∧ Hid (∀ j, j < i → ∀ k, k < nb → zs.getD j 0 ≠ us.getD k 0) ∧ Hid (BkP w wr g w.heap.size (w.heap.size + 1) w3.heap.size #[.int .i64 oa, .slice pA na pc1, .slice dA ta dc1] #[.int .i64 ob, .slice pB nb pc2, .slice dB tb dc2] P1 P2 P3 F1 D2)) (fun x _ _ => na - (intOf x).toNat)
      case atStart => exact ⟨0, by omega, rfl, fun j hj => by omega, s4⟩
      case round =>
        clear s4 k4 c0 c1 c2 e0 e1 e2 k1 HB HF HWa HFl hG
        obtain ⟨i, hi, rfl, HN, HS⟩ := hrel
        obtain ⟨c0, c1, c2, e0, e1, e2⟩ := HS.out.s.cells
        by_cases hlt : i < na
        · have d0 : decide ((i : Int) < (na : Int)) = true := decide_eq_true (by omega)
          have d1 : decide (i < na) = true := decide_eq_true hlt
          have y7 : IntKind.i64.wrap ((i : Int) + 1) = (i : Int) + 1 := IntWalk.i64_in _ (by omega)
          clear HWb HCr HRd HSt HSo HIo HI
          go_wp2
          obtain ⟨wo, rfl⟩ : ∃ wo : World, wo = wr := ⟨_, rfl⟩
          go_loopw [12] (fun x wr => ∃ k : Nat, k ≤ nb ∧ x = .int .i64 (k : Int) ∧ Hid (∀ j, j < k → zs.getD i 0 ≠ us.getD j 0) ∧ Hid (BkP w wr g w.heap.size (w.heap.size + 1) w3.heap.size #[.int .i64 oa, .slice pA na pc1, .slice dA ta dc1] #[.int .i64 ob, .slice pB nb pc2, .slice dB tb dc2] P1 P2 P3 F1 D2)) (fun x _ => nb - (intOf x).toNat)
          case atStart => exact ⟨0, by omega, rfl, fun j hj => by omega, HS⟩
          case round =>
            clear c0 c1 c2 e0 e1 e2 HS
            obtain ⟨k, hk, rfl, HJ, HS⟩ := hrel
            obtain ⟨c0, c1, c2, e0, e1, e2⟩ := HS.out.s.cells
            by_cases hkt : k < nb
            · have k0 : decide ((k : Int) < (nb : Int)) = true := decide_eq_true (by omega)
              have k1 : decide (k < nb) = true := decide_eq_true hkt
              obtain ⟨xb, xo, rfl, hpi⟩ := HCa.out _ HS.out.s.has.below i hlt
              obtain ⟨yb, yo, rfl, hpk⟩ := HCb.out _ HS.out.s.has.below k hkt
              obtain ⟨pi, hpiv⟩ : ∃ z : Int, z = zs.getD i 0 := ⟨_, rfl⟩
              obtain ⟨pk, hpkv⟩ : ∃ z : Int, z = us.getD k 0 := ⟨_, rfl⟩
              rw [← hpiv] at hpi
              rw [← hpkv] at hpk
              have Hpi := Lib.hid hpiv
              have Hpk := Lib.hid hpkv
              clear hpiv hpkv
              have u0 : (0 : Int) ≤ (i : Int) := by omega
              have u1 : (i : Int) < (na : Int) := by omega
              have u2 : (0 : Int) ≤ (k : Int) := by omega
              have u3 : (k : Int) < (nb : Int) := by omega
              have y8 : IntKind.i64.wrap ((k : Int) + 1) = (k : Int) + 1 := IntWalk.i64_in _ (by omega)
              by_cases heq : pi = pk
              · have q0 : (pi == pk) = true := by simpa using heq
                have q1 : decide (pi = pk) = true := decide_eq_true heq
                clear heq
                go_wp2
                go_quiet (fail)
                go_wp2_with (go_at_call 9; (with_reducible refine (HAw.out _ (HS.out.drewN _).s.has.below).mono ?_); rintro e w5 ⟨rfl, b5⟩)
                go_ret
                exact ⟨rfl, chain6 (HS.out.drewN _).s.has.below b5⟩
              · have q0 : (pi == pk) = false := by simpa using heq
                have q1 : decide (pi = pk) = false := decide_eq_false heq
                have HJ2 : Hid (∀ j, j < k + 1 → zs.getD i 0 ≠ us.getD j 0) := fun j hj => by
                  by_cases hjk : j < k
                  · exact HJ.out j hjk
                  · obtain rfl : j = k := by omega
                    rw [← Hpk.out, ← Hpi.out]; exact heq
                clear heq
                go_wp2
                go_quiet (fail)
                go_wp2
                go_roundw
                case rel => exact ⟨k + 1, by omega, by go_num, HJ2, HS.out.drewN _⟩
                case measure => simp [intOf]; omega
            · have k0 : decide ((k : Int) < (nb : Int)) = false := decide_eq_false (by omega)
              have k1 : decide (k < nb) = false := decide_eq_false hkt
              obtain rfl : k = nb := by omega
              have HN2 : Hid (∀ j, j < i + 1 → ∀ k', k' < k → zs.getD j 0 ≠ us.getD k' 0) := fun j hj k' hk' => by
                by_cases hji : j < i
                · exact HN.out j hji k' hk'
                · obtain rfl : j = i := by omega
                  exact HJ.out k' hk'
              go_wp2
              go_roundw
              case rel => exact ⟨i + 1, by omega, by go_num, HN2, HS⟩
              case measure => simp [intOf]; omega
        · have d0 : decide ((i : Int) < (na : Int)) = false := decide_eq_false (by omega)
          have d1 : decide (i < na) = false := decide_eq_false hlt
          obtain rfl : i = na := by omega
          have s4 := HS.out
          have HRd2 := Lib.hid (HRd.out HN.out)
          clear HS HRd HCa HCb
          go_wp2_with (first
            | (go_at_call 10; have hx := HWb.out _ g _ _ _ _ _ _ _ _ F1 s4; (with_reducible refine hx.mono ?_); clear hx; rintro e w5 ⟨v5, F5, rfl, s5⟩; clear s4)
            | (go_at_call 15; have hx := HCr.out _ g _ _ _ _ _ _ _ _ F5 s5; (with_reducible refine hx.mono ?_); clear hx; rintro e w6 ⟨rfl, s6⟩; obtain ⟨l0, l1, l2⟩ := s6.cells; clear s5)
            | (go_at_call 16; have hx := HRd2.out _ g _ _ _ _ _ F5 s6; (with_reducible refine hx.mono ?_); clear hx; rintro e w7 ⟨F7, At, ct, Al, cl, rfl, r7, i7, D5, s7⟩; obtain ⟨c0, c1, c2, e0, e1, e2⟩ := s7.cells; have q1 := HSt.out _ _ ct r7; have q2 := HSt.out _ _ dc1 (HSo.out _ s7.has.below); have j7 := HIo.out _ s7.has.below)
            | (go_at_call 17; have hx := HI.out _ Al pA cl pc1 i7 j7; (with_reducible refine hx.mono ?_); clear hx; rintro e w8 ⟨rfl, b8⟩; have s8 := s7.more b8)
            | (go_at_call 9; (with_reducible refine (HAw.out _ s8.has.below).mono ?_); rintro e w9 ⟨rfl, b9⟩))
          go_ret
          exact ⟨rfl, chain6 s8.has.below b9⟩
    · have hPz := back_bad (d := Dk.blank 16) (o := a.owner) (ps := a.places) (t := a.data) (by rw [← hz]; exact hz0)
      rw [← hP] at hPz
      subst hPz
      have zz : (z != 0) = true := by simpa using hz0
      simp only [Pt.zero] at HWa
      clear ha hb hM hmk hoa hna hta hob hnb htb hfw f1 f2 f3 f4 hD1 hP hz hz0
      go_enter Tryz.func4, Tryz.ntmps4
      go_wp2_with (first
        | (go_at_call 5; (with_reducible refine (HB.out _).mono ?_); rintro e w1 ⟨g, F0, rfl, hG⟩; have s1 := bks_first hG; obtain ⟨c0, c1, c2, e0, e1, e2⟩ := s1.cells; have k1 := s1.has.below)
        | (go_at_call 7; have hx := HF.out w1 k1; (with_reducible refine hx.mono ?_); clear hx; rintro e w2 ⟨rfl, b2⟩; have s2 := s1.more b2; obtain ⟨c0, c1, c2, e0, e1, e2⟩ := s2.cells)
        | (go_at_call 10; have hx := HWa.out w2 g _ _ _ _ F0 s2; (with_reducible refine hx.mono ?_); clear hx; rintro e w3 ⟨F1, rfl, s3⟩; have s3a := s3.alloc (.cells #[.int .i64 0, .int .i64 0, .int .i64 0] 35))
        | (go_at_call 9; (with_reducible refine (HAw.out _ s3a.has.below).mono ?_); rintro e w5 ⟨rfl, b5⟩))
      go_ret
      exact ⟨rfl, chain6 s3a.has.below b5⟩
set_option maxRecDepth 100000 in
theorem cback_lifted (os : Os) (started : os.Started) (H : Type) (enc : TypeId × Value → H) :
    ReturnsInHanded {} Tryz.checked os 4 .any (fun w args => (Rows.chainBackSpec.pre enc Tryz.prog Tryz.f4 [] false w args ∧ laidMetH Tryz.prog laidR w) ∧ sizedMet enc Tryz.prog Tryz.f4 (OpenSpec.ofChange Rows.chainBackSpec) false w args) (Rows.chainBackSpec.post enc Tryz.prog Tryz.f4 false true false false) := by
  refine returnsInHanded_of_change_and (C := Tryz.checked) (X := fun w _ => laidMetH Tryz.prog laidR w) (fun _ _ _ hh h => h.of_heap hh) Tryz.own started (by kernel_rfl) Tryz.func4
    (ChangeSpec.witness_shaped (enc := enc) (C := Tryz.checked) (os := os) (X := fun w _ => laidMetH Tryz.prog laidR w) false (World.doorLaid Tryz.prog 400 os) #[.agg #[.int .i64 0, .slice none 0 0, .slice none 0 0], .agg #[.int .i64 0, .slice none 0 0, .slice none 0 0], .slice none 0 0] 8 rfl (World.shaped_of_RefB (by kernel_rfl) (by kernel_rfl)) (by kernel_rfl) (by kernel_rfl) (by kernel_rfl) (doorR_met os _)) ?_
  intro W base args ds gs before hval0 hW hcnd hsz0 hLd _
  have hval : ∀ (j : Nat) t v, Tryz.f4.params[j]? = some t → args[j]? = some v → Value.okWide Tryz.prog W .any base t v := hval0
  have hW' : DataW.Whole enc Tryz.prog Tryz.f4.params.toList Rows.chainBackSpec.vars false W args.toList ds gs before := hW
  have hWk := hW'
  clear hsz0 hval0
  obtain ⟨p, q, hA, hV, rfl, hfz, hnd⟩ := hW'
  rw [Tryz.params4] at hA hval
  obtain ⟨v0, v1, v2, d0, d1, d2, p0, p1, p2, rfl, rfl, rfl, h0, h1, h2⟩ := trodAll_three hA
  obtain ⟨rfl, rfl⟩ := trodVars_none hV
  obtain ⟨a, pA, pc1, dA, dc1, rfl, ha⟩ := open_text (hval 0 41 v0 rfl rfl) h0
  obtain ⟨b, pB, pc2, dB, dc2, rfl, hb⟩ := open_text (hval 1 41 v1 rfl rfl) h1
  obtain ⟨M, Z, cM, rfl, hM, hlc2, hcm2, hZ⟩ := open_intl Tryz.underlying38 Tryz.underlying3 Tryz.cells3 (hval 2 38 v2 rfl rfl) h2
  refine (cback_any a b pA dA pB dB M pc1 dc1 pc2 dc2 _ cM Z W ha hb hM rfl (er_of_laid hLd)).mono fun e W' ⟨he, hb⟩ => ⟨_, he, ?_⟩
  exact law_post Tryz.laidOut hWk rfl rfl rfl rfl rfl Tryz.underlying4 (by kernel_rfl) hb
theorem cback_said : Rows.ChainBackSaid :=
  OpenClaim.holds_of_wide 4 Tryz.f4 rfl rfl rfl rfl rfl rfl rfl ⟨rfl, rfl, rfl, rfl, rfl⟩ rfl rfl rfl rfl rfl (by kernel_rfl) Tryz.func4 (by kernel_rfl)
    (of_decide_eq_true (by kernel_rfl)) (by unfold Func.isWrapper; first | (rw [if_pos (by decide +kernel)]; kernel_rfl) | (rw [if_neg (by decide +kernel)]; exact ⟨rfl, rfl⟩))
    (fun os started H enc _ => cback_lifted os started H enc)
theorem cback_holds : Rows.ChainBackCardSaid :=
  Claim7.holds_tied_plain_at .later [] [.handle, .sentinel] true Rows.chainBackCard.stood.harness true
    cback_said (fun _ h => by cases h) (by kernel_rfl) (fun _ h => by cases h) chainBack_row_tie rfl ⟨rfl, rfl⟩ (by kernel_rfl) rfl
    (fun f fn hf hfn => by
      obtain rfl : f = 4 := Option.some.inj ((show Tryz.prog.funcNamed "chantry/chantrylaw10.ChainBack" = some 4 by kernel_rfl).symm.trans hf) |>.symm
      obtain rfl : fn = Tryz.f4 := (Option.some.inj (Tryz.func4.symm.trans hfn)).symm
      exact ⟨by kernel_rfl, fun j t ht => by
        rw [Tryz.params4] at ht
        have hm : t ∈ [41, 38] := by simpa using Array.mem_of_getElem? ht
        have hall : ([41, 38].all fun u => !Tryz.prog.wantsStandIn u) = true := by kernel_rfl
        exact (show Tryz.prog.wantsStandIn t = false by simpa using List.all_eq_true.1 hall t hm)⟩)
    (by kernel_rfl)
end Go.Proofs.YtonnkibcnhjelaaGreatDoor
