/- Lemmas under the proofs of this place: DiskRCrash, DiskRLdM. No statement is proved here. -/
import Derived.Test.YtonnkibcnhjelaaGreatDoorBu31
import Derived.Test.YtonnkibcnhjelaaGreatDoorBu29
section
set_option linter.unusedVariables false
namespace Go.Proofs.YtonnkibcnhjelaaGreatDoor
open Go.RowKit
theorem RD.moreB {w : World} {g : Nat} {G B : Nat → Prop} {d : Dk} {s cs : Nat} {V : Value} {hs hv : List Value} (h : RD w g G B d s cs V hs hv) (q : Nat) (h1 : q < w.heap.size) (h2 : ¬ G q) : RD w g G (fun k => B k ∨ k = q) d s cs V hs hv :=
  ⟨h.blk, h.safe, h.hsafe.wide (fun _ h => .inl h), h.wait, h.hwait.wide (fun _ h => .inl h), h.gg, h.gs, h.gv, h.glt, fun k hk => by
    rcases hk with hk | hk
    · exact h.blt k hk
    · omega, fun k hk hb => by
    rcases hb with hb | hb
    · exact h.gb k hk hb
    · exact h2 (hb ▸ hk), h.good⟩
def cr (d : Dk) (masks : List Int) (i : Nat) : Dk := { d with safe := Dk.crashed masks d.safe (d.waits.take i) 0 }
theorem cr_yes (d : Dk) (masks : List Int) (i : Nat) (hi : i < d.waits.length) (hm : i < masks.length) : cr d masks (i + 1) = { cr d masks i with safe := (cr d masks i).safe.set (d.waits[i]).1 (Dk.torn ((cr d masks i).safe.getD (d.waits[i]).1 []) (d.waits[i]).2 (masks.getD i 0)) } := by
  unfold cr
  rw [List.take_succ_eq_append_getElem hi, Dk.crashed_snoc, List.length_take, Nat.zero_add, Nat.min_eq_left (by omega)]
  unfold Dk.tear
  rw [if_pos hm]
theorem cr_no (d : Dk) (masks : List Int) (i : Nat) (hi : i < d.waits.length) (hm : ¬ i < masks.length) : cr d masks (i + 1) = cr d masks i := by
  unfold cr
  rw [List.take_succ_eq_append_getElem hi, Dk.crashed_snoc, List.length_take, Nat.zero_add, Nat.min_eq_left (by omega)]
  unfold Dk.tear
  rw [if_neg hm]
theorem RD.on {w : World} {g : Nat} {G B : Nat → Prop} {d : Dk} {s cs : Nat} {V : Value} {hs hv : List Value} (h : RD w g G B d s cs V hs hv) :
    RD (((w.setCell ⟨g, 1, none⟩ (.slice none 0 0)).setCell ⟨g, 3, none⟩ (.bool false)).setCell ⟨g, 2, none⟩ (.int .i64 (-1))) g G B { d with waits := [], off := false, left := -1 } s cs (.slice none 0 0) hs [] := by
  have h1 := h.nothing
  have ht := (turns_own (w.setCell ⟨g, 1, none⟩ (.slice none 0 0)) g 3 (.bool false)).trans (turns_own _ g 2 (.int .i64 (-1)))
  exact h1.retell ht rfl rfl ⟨Int.le_refl _, by show (-1 : Int) ≤ _; omega⟩ ((h1.blk.set_ 3 (.bool false)).set_ 2 (.int .i64 (-1)))
set_option maxRecDepth 100000 in
set_option maxHeartbeats 4000000 in
theorem rcrash_any {w : World} {g : Nat} {G B : Nat → Prop} {d : Dk} (h : RDisk w g G B d) (masks : List Int) (A : Option Addr) (mn c2 : Nat) (hmn : mn = masks.length) (hM : RI w w.heap.size A masks) (hMF : 0 < masks.length → ∀ ad, A = some ad → ¬ G ad.block) (hl : d.load ≤ 100000) :
    Calls Tryz.prog 38 #[.pointer (some ⟨g, 0, none⟩), .slice A mn c2] w fun e w' => e = .returned (.tuple #[]) ∧ RDeeds (d.crash masks) G B w w' g := by
  obtain ⟨s, cs, V, hs, hv, hP⟩ := h
  obtain ⟨A1, c, rfl, hc1, hc2⟩ := hP.vform
  obtain ⟨m, hm⟩ : ∃ m, m = d.waits.length := ⟨_, rfl⟩
  rw [← hm] at hc1
  have hm2 : m ≤ 100000 := by unfold Dk.load at hl; omega
  have Hm := Lib.hid hm
  have HP := Lib.hid hP
  have HM := Lib.hid hM
  have HMF := Lib.hid hMF
  have Hmn := Lib.hid hmn
  clear hP hm hM hMF hmn hl
  go_enter Tryz.func38, Tryz.ntmps38
  go_wp2
  go_loopw [4] (fun x wr => ∃ i : Nat, i ≤ m ∧ x = .int .i64 (i : Int) ∧ ∃ B' hs', Hid (RD wr g G B' (cr d masks i) s cs (.slice A1 d.waits.length c) hs' hv) ∧ Hid (Turns w wr G G) ∧ Hid (∀ k, B' k → B k ∨ w.heap.size ≤ k)) (fun x _ => m - (intOf x).toNat)
  case atStart => exact ⟨0, by omega, rfl, B, hs, by show RD _ _ _ _ _ _ _ _ _ _; unfold cr; rw [List.take_zero]; exact HP.out, Turns.refl _ _, fun _ h => .inl h⟩
  case round =>
    obtain ⟨i, hi, rfl, B', hs', HR, HT, HB⟩ := hrel
    have r1 : wr.cell? ⟨g, 1, none⟩ = some (.slice A1 m c) := by rw [Hm.out]; exact HR.out.r1
    have u0 : (0 : Int) ≤ (i : Int) := by omega
    by_cases hlt : i < m
    · obtain ⟨gv, cv, hV, hvs, hvg, hvG, hm1, hm2, hcell⟩ := HR.out.row (show 0 < d.waits.length by have := Hm.out; omega)
      obtain ⟨rfl, rfl⟩ : A1 = some ⟨gv, 0, none⟩ ∧ c = cv := by
        simp only [Value.slice.injEq] at hV
        exact ⟨hV.1, hV.2.2⟩
      have hi2 : i < d.waits.length := by have := Hm.out; omega
      obtain ⟨c1, v, c2', hh⟩ := hcell i hi2
      have Hh := Lib.hid hh
      obtain ⟨-, b1, o1, cc1, rfl, -⟩ := hh
      obtain ⟨xn, hxn⟩ : ∃ xn, xn = (d.waits[i]).1 := ⟨_, rfl⟩
      have c1' : wr.cell? ⟨gv, i * 2, none⟩ = some (.int .i64 (xn : Int)) := by rw [hxn]; exact c1
      have u1 : (i : Int) < (m : Int) := by omega
      clear c1 hcell hV
      by_cases hik : i < mn
      · have v0 : (i : Int) < (mn : Int) := by omega
        have hik2 : i < masks.length := by have := Hmn.out; omega
        obtain ⟨mb, mo, rfl, hmb, hmc⟩ := HM.out (by omega)
        obtain ⟨mk, hmk⟩ : ∃ mk, mk = masks.getD i 0 := ⟨_, rfl⟩
        have hxs : xn < (cr d masks i).safe.length := by
          rw [hxn]
          show _ < (Dk.crashed masks d.safe _ 0).length
          rw [Dk.crashed_length]
          exact (HP.out.good.fit.2 _ (List.getElem_mem hi2)).1
        obtain ⟨vs, -, hs1, hs2⟩ := HR.out.at_ hxs
        obtain ⟨hsl, bs, os, ccs, rfl, hc1s, -, -, hsR⟩ := hs2
        have hh3 := Hh.out
        obtain ⟨hwl, b1', o1', cc1', he1, hc1w, -, -, hwR⟩ := hh3
        simp only [Value.slice.injEq, Option.some.injEq, Addr.mk.injEq, and_true, true_and] at he1
        obtain ⟨⟨rfl, rfl⟩, rfl⟩ := he1
        have htl : (Dk.torn ((cr d masks i).safe[xn]'hxs) (d.waits[i]).2 mk).length = 256 := Dk.torn_length _ _ _ hsl hwl
        obtain ⟨n, hn⟩ : ∃ n, n = (cr d masks i).safe.length := ⟨_, rfl⟩
        have hxn1024 : n ≤ 1024 := by rw [hn]; exact HR.out.good.many
        have u2 : (0 : Int) ≤ (xn : Int) := by omega
        have u3 : (xn : Int) < (n : Int) := by omega
        obtain ⟨W, hW⟩ : ∃ W, W = wr.alloc (.cells #[.int .i64 (xn : Int), .slice (some ⟨b1, o1, none⟩) 256 cc1] 115) := ⟨_, rfl⟩
        obtain ⟨g5, hg5⟩ : ∃ g5, g5 = wr.heap.size := ⟨_, rfl⟩
        have hbW : Below wr.heap.size wr W := by rw [hW]; exact (Below.refl _ _).alloc (Nat.le_refl _) _
        have kW : Blk W g5 115 #[.int .i64 (xn : Int), .slice (some ⟨b1, o1, none⟩) 256 cc1] := by rw [hW, hg5]; exact Blk.new _ _ _
        have hwS := (HT.out.below (B := 0) (fun _ _ => Nat.zero_le _) (Nat.zero_le _)).size
        have mkc : wr.cell? ⟨mb, mo + i, none⟩ = some (.int .i64 mk) := by
          rw [HT.out.cell (p := ⟨mb, mo + i, none⟩) hmb (fun hg' => HMF.out (by omega) _ rfl hg'), hmc i hik2, hmk]
          simp [List.getD, hik2]
        have HS7 : Hid (∀ w7, Below W.heap.size W w7 → w7.cell? ⟨g, 0, none⟩ = some (.slice (some ⟨s, 0, none⟩) n cs) ∧ w7.cell? ⟨g5, 0, none⟩ = some (.int .i64 (xn : Int)) ∧ w7.cell? ⟨g5, 1, none⟩ = some (.slice (some ⟨b1, o1, none⟩) 256 cc1) ∧ w7.cell? ⟨s, xn, none⟩ = some (.slice (some ⟨bs, os, none⟩) 256 ccs) ∧ w7.cell? ⟨mb, mo + i, none⟩ = some (.int .i64 mk)) := fun w7 hb7 => by
          have hbb := hbW.trans (hb7.mono hbW.size)
          refine ⟨by rw [hn]; exact (HR.out.under hbb).r0, ?_, ?_, ?_, ?_⟩
          · rw [(kW.below hb7 kW.lt).cell]; rfl
          · rw [(kW.below hb7 kW.lt).cell]; rfl
          · rw [hbb.cell (p := ⟨s, xn, none⟩) (HR.out.glt s HR.out.gs)]; exact hs1
          · rw [hbb.cell (p := ⟨mb, mo + i, none⟩) (by show mb < wr.heap.size; omega)]; exact mkc
        have hS := HS7.out W.drew (Below.refl _ _).drew
        have HTn : Hid (Calls Tryz.prog 76 #[.slice (some ⟨bs, os, none⟩) 256 ccs, .slice (some ⟨b1, o1, none⟩) 256 cc1, .int .i64 mk] W.drew fun e w' => (∃ q c, e = .returned (.slice (some ⟨q, 0, none⟩) 256 c) ∧ 256 ≤ c ∧ c ≤ 9223372036854775807 ∧ W.heap.size ≤ q ∧ RB w' w'.heap.size (some ⟨q, 0, none⟩) (Dk.torn ((cr d masks i).safe[xn]'hxs) (d.waits[i]).2 mk)) ∧ Below W.heap.size W w') := by
          refine (torn_any _ _ bs os ccs b1 o1 cc1 mk W.drew ((hsR.below hbW).more hbW.size) ((hwR.below hbW).more hbW.size) hsl hwl hc1s hc1w).mono ?_
          rintro e w' ⟨h1, h2⟩
          exact ⟨h1, h2.os, h2.tape, h2.output, h2.size, h2.block⟩
        have HPut : Hid (∀ w7 q cq, Below W.heap.size W w7 → 256 ≤ cq → cq ≤ 9223372036854775807 → W.heap.size ≤ q → RB w7 w7.heap.size (some ⟨q, 0, none⟩) (Dk.torn ((cr d masks i).safe[xn]'hxs) (d.waits[i]).2 mk) →
            Hid (RD (w7.setCell ⟨s, xn, none⟩ (.slice (some ⟨q, 0, none⟩) 256 cq)) g G (fun k => B' k ∨ k = q) (cr d masks (i + 1)) s cs (.slice (some ⟨gv, 0, none⟩) d.waits.length c) (hs'.set xn (.slice (some ⟨q, 0, none⟩) 256 cq)) hv) ∧ Hid (Turns w (w7.setCell ⟨s, xn, none⟩ (.slice (some ⟨q, 0, none⟩) 256 cq)) G G) ∧ Hid (∀ k, (B' k ∨ k = q) → B k ∨ w.heap.size ≤ k) ∧ w7.frozen? ⟨s, xn, none⟩ = false) := fun w7 q cq hb7 h1 h2 h3 h4 => by
          have hbb := hbW.trans (hb7.mono hbW.size)
          have hR7 := HR.out.under hbb
          have hq7 : q < w7.heap.size := by
            have := (h4.at_ (by rw [htl]; omega))
            obtain ⟨b, off, e, hlt, _⟩ := this
            injection e with e
            simp only [Addr.mk.injEq] at e
            omega
          have hwz := hbW.size
          have hqG : ¬ G q := fun hg' => by have := HR.out.glt q hg'; omega
          have hM := hR7.moreB q hq7 hqG
          have hH : Hdr w7 (fun k => B' k ∨ k = q) (.slice (some ⟨q, 0, none⟩) 256 cq) (Dk.torn ((cr d masks i).safe[xn]'hxs) (d.waits[i]).2 mk) := ⟨htl, q, 0, cq, rfl, h1, h2, .inr rfl, h4⟩
          refine ⟨?_, ?_, ?_, ?_⟩
          · show RD _ _ _ _ _ _ _ _ _ _
            rw [cr_yes d masks i hi2 hik2]
            have := hM.put xn hH
            have e : (cr d masks i).safe.getD (d.waits[i]).1 [] = (cr d masks i).safe[xn]'hxs := by rw [← hxn]; simp [List.getD, hxs]
            rw [e, ← hxn, ← hmk]
            exact this
          · exact (HT.out.trans (Turns.of_below hbb G)).trans (Turns.set_ HP.out.gs xn _)
          · intro k hk
            rcases hk with hk | hk
            · exact HB.out k hk
            · subst hk; exact .inr (by omega)
          · obtain ⟨_, hbk⟩ := (own_lt hR7.safe (k := s) rfl).2
            exact hbk.frozen xn
        have HWq := Lib.hid hW
        have Hg5 := Lib.hid hg5
        clear hmc hmk htl hs1 hsl hsR hwl hwR hn hxn hbW kW hwS mkc hW hg5 hc1s hc1w hmb
        go_wp2
        rw [← HWq.out, ← Hg5.out]
        refine region_T (fun W => W.cell? ⟨g, 0, none⟩ = some (.slice (some ⟨s, 0, none⟩) n cs) ∧ W.cell? ⟨g5, 0, none⟩ = some (.int .i64 (xn : Int)) ∧ W.cell? ⟨g5, 1, none⟩ = some (.slice (some ⟨b1, o1, none⟩) 256 cc1) ∧ W.cell? ⟨s, xn, none⟩ = some (.slice (some ⟨bs, os, none⟩) 256 ccs) ∧ W.cell? ⟨mb, mo + i, none⟩ = some (.int .i64 mk)) (fun k => decide (21 ≤ k)) (by kernel_rfl) ?_
        refine any_asT (a' := ⟨#[.pointer (some ⟨g, 0, none⟩), .slice (some ⟨mb, mo, none⟩) mn c2, undef, undef, .int .i64 (i : Int), .pointer (some ⟨g5, 0, none⟩), .int .i64 (i : Int), .pointer (some ⟨g, 0, none⟩), .pointer (some ⟨g, 0, none⟩), .pointer (some ⟨g, 1, none⟩), .slice (some ⟨gv, 0, none⟩) m c, .int .i64 (m : Int), .bool true, u13, u14, .pointer (some ⟨g, 0, none⟩), .pointer (some ⟨g, 0, none⟩), .pointer (some ⟨g, 1, none⟩), .slice (some ⟨gv, 0, none⟩) m c, .int .i64 (i : Int), .pointer (some ⟨gv, i * 2, none⟩), .agg #[.int .i64 (xn : Int), .slice (some ⟨b1, o1, none⟩) 256 cc1], .int .i64 (i : Int), .slice (some ⟨mb, mo, none⟩) mn c2, .int .i64 (mn : Int), .bool true, u26, u27, u28, u29, u30, u31, u32, u33, u34, u35, u36, u37, u38, u39, u40, u41, u42, u43, u44, u45, u46, u47, undef, undef, undef, undef, undef, undef, undef, undef, undef], []⟩) (by kernel_rfl) (listed' := #[false, false, false, false, false, false, false, false, false, false, false, false, false, false, false, false, false, false, false, false, false, false, false]) (by kernel_rfl) ?_
        refine any_take (i := 0) (.pointer (some ⟨g, 0, none⟩)) rfl (by kernel_rfl) (by kernel_rfl) (by kernel_rfl) rfl (by kernel_rfl) (by kernel_rfl) (fun W hW => by kernel_rfl) hS (listed' := #[true, false, false, false, false, false, false, false, false, false, false, false, false, false, false, false, false, false, false, false, false, false, false]) (a' := ⟨#[.pointer (some ⟨g, 0, none⟩), .slice (some ⟨mb, mo, none⟩) mn c2, undef, undef, .int .i64 (i : Int), .pointer (some ⟨g5, 0, none⟩), .int .i64 (i : Int), .pointer (some ⟨g, 0, none⟩), .pointer (some ⟨g, 0, none⟩), .pointer (some ⟨g, 1, none⟩), .slice (some ⟨gv, 0, none⟩) m c, .int .i64 (m : Int), .bool true, u13, u14, .pointer (some ⟨g, 0, none⟩), .pointer (some ⟨g, 0, none⟩), .pointer (some ⟨g, 1, none⟩), .slice (some ⟨gv, 0, none⟩) m c, .int .i64 (i : Int), .pointer (some ⟨gv, i * 2, none⟩), .agg #[.int .i64 (xn : Int), .slice (some ⟨b1, o1, none⟩) 256 cc1], .int .i64 (i : Int), .slice (some ⟨mb, mo, none⟩) mn c2, .int .i64 (mn : Int), .bool true, .pointer (some ⟨g, 0, none⟩), u27, u28, u29, u30, u31, u32, u33, u34, u35, u36, u37, u38, u39, u40, u41, u42, u43, u44, u45, u46, u47, undef, undef, undef, undef, undef, undef, undef, undef, undef], []⟩) (by kernel_rfl) (by kernel_rfl) (fun _ _ _ h => h) ?_
        refine any_take (i := 1) (.pointer (some ⟨g, 0, none⟩)) rfl (by kernel_rfl) (by kernel_rfl) (by kernel_rfl) rfl (by kernel_rfl) (by kernel_rfl) (fun W hW => by kernel_rfl) hS (listed' := #[true, true, false, false, false, false, false, false, false, false, false, false, false, false, false, false, false, false, false, false, false, false, false]) (a' := ⟨#[.pointer (some ⟨g, 0, none⟩), .slice (some ⟨mb, mo, none⟩) mn c2, undef, undef, .int .i64 (i : Int), .pointer (some ⟨g5, 0, none⟩), .int .i64 (i : Int), .pointer (some ⟨g, 0, none⟩), .pointer (some ⟨g, 0, none⟩), .pointer (some ⟨g, 1, none⟩), .slice (some ⟨gv, 0, none⟩) m c, .int .i64 (m : Int), .bool true, u13, u14, .pointer (some ⟨g, 0, none⟩), .pointer (some ⟨g, 0, none⟩), .pointer (some ⟨g, 1, none⟩), .slice (some ⟨gv, 0, none⟩) m c, .int .i64 (i : Int), .pointer (some ⟨gv, i * 2, none⟩), .agg #[.int .i64 (xn : Int), .slice (some ⟨b1, o1, none⟩) 256 cc1], .int .i64 (i : Int), .slice (some ⟨mb, mo, none⟩) mn c2, .int .i64 (mn : Int), .bool true, .pointer (some ⟨g, 0, none⟩), .pointer (some ⟨g, 0, none⟩), u28, u29, u30, u31, u32, u33, u34, u35, u36, u37, u38, u39, u40, u41, u42, u43, u44, u45, u46, u47, undef, undef, undef, undef, undef, undef, undef, undef, undef], []⟩) (by kernel_rfl) (by kernel_rfl) (fun _ _ _ h => h) ?_
        refine any_take (i := 2) (.pointer (some ⟨g, 0, none⟩)) rfl (by kernel_rfl) (by kernel_rfl) (by kernel_rfl) rfl (by kernel_rfl) (by kernel_rfl) (fun W hW => by kernel_rfl) hS (listed' := #[true, true, true, false, false, false, false, false, false, false, false, false, false, false, false, false, false, false, false, false, false, false, false]) (a' := ⟨#[.pointer (some ⟨g, 0, none⟩), .slice (some ⟨mb, mo, none⟩) mn c2, undef, undef, .int .i64 (i : Int), .pointer (some ⟨g5, 0, none⟩), .int .i64 (i : Int), .pointer (some ⟨g, 0, none⟩), .pointer (some ⟨g, 0, none⟩), .pointer (some ⟨g, 1, none⟩), .slice (some ⟨gv, 0, none⟩) m c, .int .i64 (m : Int), .bool true, u13, u14, .pointer (some ⟨g, 0, none⟩), .pointer (some ⟨g, 0, none⟩), .pointer (some ⟨g, 1, none⟩), .slice (some ⟨gv, 0, none⟩) m c, .int .i64 (i : Int), .pointer (some ⟨gv, i * 2, none⟩), .agg #[.int .i64 (xn : Int), .slice (some ⟨b1, o1, none⟩) 256 cc1], .int .i64 (i : Int), .slice (some ⟨mb, mo, none⟩) mn c2, .int .i64 (mn : Int), .bool true, .pointer (some ⟨g, 0, none⟩), .pointer (some ⟨g, 0, none⟩), .pointer (some ⟨g, 0, none⟩), u29, u30, u31, u32, u33, u34, u35, u36, u37, u38, u39, u40, u41, u42, u43, u44, u45, u46, u47, undef, undef, undef, undef, undef, undef, undef, undef, undef], []⟩) (by kernel_rfl) (by kernel_rfl) (fun _ _ _ h => h) ?_
        refine any_take (i := 3) (.slice (some ⟨s, 0, none⟩) n cs) rfl (by kernel_rfl) (by kernel_rfl) (by kernel_rfl) rfl (by kernel_rfl) (by kernel_rfl) (fun W hW => cell_run 68 (.tmp 28) ⟨g, 0, none⟩ (.slice (some ⟨s, 0, none⟩) n cs) _ (by kernel_rfl) (by kernel_rfl) hW.1 Tryz.underlying68 rfl (by kernel_rfl)) hS (listed' := #[true, true, true, true, false, false, false, false, false, false, false, false, false, false, false, false, false, false, false, false, false, false, false]) (a' := ⟨#[.pointer (some ⟨g, 0, none⟩), .slice (some ⟨mb, mo, none⟩) mn c2, undef, undef, .int .i64 (i : Int), .pointer (some ⟨g5, 0, none⟩), .int .i64 (i : Int), .pointer (some ⟨g, 0, none⟩), .pointer (some ⟨g, 0, none⟩), .pointer (some ⟨g, 1, none⟩), .slice (some ⟨gv, 0, none⟩) m c, .int .i64 (m : Int), .bool true, u13, u14, .pointer (some ⟨g, 0, none⟩), .pointer (some ⟨g, 0, none⟩), .pointer (some ⟨g, 1, none⟩), .slice (some ⟨gv, 0, none⟩) m c, .int .i64 (i : Int), .pointer (some ⟨gv, i * 2, none⟩), .agg #[.int .i64 (xn : Int), .slice (some ⟨b1, o1, none⟩) 256 cc1], .int .i64 (i : Int), .slice (some ⟨mb, mo, none⟩) mn c2, .int .i64 (mn : Int), .bool true, .pointer (some ⟨g, 0, none⟩), .pointer (some ⟨g, 0, none⟩), .pointer (some ⟨g, 0, none⟩), .slice (some ⟨s, 0, none⟩) n cs, u30, u31, u32, u33, u34, u35, u36, u37, u38, u39, u40, u41, u42, u43, u44, u45, u46, u47, undef, undef, undef, undef, undef, undef, undef, undef, undef], []⟩) (by kernel_rfl) (by kernel_rfl) (fun _ _ _ h => h) ?_
        refine any_take (i := 4) (.pointer (some ⟨g5, 0, none⟩)) rfl (by kernel_rfl) (by kernel_rfl) (by kernel_rfl) rfl (by kernel_rfl) (by kernel_rfl) (fun W hW => by kernel_rfl) hS (listed' := #[true, true, true, true, true, false, false, false, false, false, false, false, false, false, false, false, false, false, false, false, false, false, false]) (a' := ⟨#[.pointer (some ⟨g, 0, none⟩), .slice (some ⟨mb, mo, none⟩) mn c2, undef, undef, .int .i64 (i : Int), .pointer (some ⟨g5, 0, none⟩), .int .i64 (i : Int), .pointer (some ⟨g, 0, none⟩), .pointer (some ⟨g, 0, none⟩), .pointer (some ⟨g, 1, none⟩), .slice (some ⟨gv, 0, none⟩) m c, .int .i64 (m : Int), .bool true, u13, u14, .pointer (some ⟨g, 0, none⟩), .pointer (some ⟨g, 0, none⟩), .pointer (some ⟨g, 1, none⟩), .slice (some ⟨gv, 0, none⟩) m c, .int .i64 (i : Int), .pointer (some ⟨gv, i * 2, none⟩), .agg #[.int .i64 (xn : Int), .slice (some ⟨b1, o1, none⟩) 256 cc1], .int .i64 (i : Int), .slice (some ⟨mb, mo, none⟩) mn c2, .int .i64 (mn : Int), .bool true, .pointer (some ⟨g, 0, none⟩), .pointer (some ⟨g, 0, none⟩), .pointer (some ⟨g, 0, none⟩), .slice (some ⟨s, 0, none⟩) n cs, .pointer (some ⟨g5, 0, none⟩), u31, u32, u33, u34, u35, u36, u37, u38, u39, u40, u41, u42, u43, u44, u45, u46, u47, undef, undef, undef, undef, undef, undef, undef, undef, undef], []⟩) (by kernel_rfl) (by kernel_rfl) (fun _ _ _ h => h) ?_
        refine any_take (i := 5) (.int .i64 (xn : Int)) rfl (by kernel_rfl) (by kernel_rfl) (by kernel_rfl) rfl (by kernel_rfl) (by kernel_rfl) (fun W hW => cell_run 3 (.tmp 30) ⟨g5, 0, none⟩ (.int .i64 (xn : Int)) _ (by kernel_rfl) (by kernel_rfl) hW.2.1 Tryz.underlying3 rfl (by kernel_rfl)) hS (listed' := #[true, true, true, true, true, true, false, false, false, false, false, false, false, false, false, false, false, false, false, false, false, false, false]) (a' := ⟨#[.pointer (some ⟨g, 0, none⟩), .slice (some ⟨mb, mo, none⟩) mn c2, undef, undef, .int .i64 (i : Int), .pointer (some ⟨g5, 0, none⟩), .int .i64 (i : Int), .pointer (some ⟨g, 0, none⟩), .pointer (some ⟨g, 0, none⟩), .pointer (some ⟨g, 1, none⟩), .slice (some ⟨gv, 0, none⟩) m c, .int .i64 (m : Int), .bool true, u13, u14, .pointer (some ⟨g, 0, none⟩), .pointer (some ⟨g, 0, none⟩), .pointer (some ⟨g, 1, none⟩), .slice (some ⟨gv, 0, none⟩) m c, .int .i64 (i : Int), .pointer (some ⟨gv, i * 2, none⟩), .agg #[.int .i64 (xn : Int), .slice (some ⟨b1, o1, none⟩) 256 cc1], .int .i64 (i : Int), .slice (some ⟨mb, mo, none⟩) mn c2, .int .i64 (mn : Int), .bool true, .pointer (some ⟨g, 0, none⟩), .pointer (some ⟨g, 0, none⟩), .pointer (some ⟨g, 0, none⟩), .slice (some ⟨s, 0, none⟩) n cs, .pointer (some ⟨g5, 0, none⟩), .int .i64 (xn : Int), u32, u33, u34, u35, u36, u37, u38, u39, u40, u41, u42, u43, u44, u45, u46, u47, undef, undef, undef, undef, undef, undef, undef, undef, undef], []⟩) (by kernel_rfl) (by kernel_rfl) (fun _ _ _ h => h) ?_
        refine any_take (i := 6) (.pointer (some ⟨g, 0, none⟩)) rfl (by kernel_rfl) (by kernel_rfl) (by kernel_rfl) rfl (by kernel_rfl) (by kernel_rfl) (fun W hW => by kernel_rfl) hS (listed' := #[true, true, true, true, true, true, true, false, false, false, false, false, false, false, false, false, false, false, false, false, false, false, false]) (a' := ⟨#[.pointer (some ⟨g, 0, none⟩), .slice (some ⟨mb, mo, none⟩) mn c2, undef, undef, .int .i64 (i : Int), .pointer (some ⟨g5, 0, none⟩), .int .i64 (i : Int), .pointer (some ⟨g, 0, none⟩), .pointer (some ⟨g, 0, none⟩), .pointer (some ⟨g, 1, none⟩), .slice (some ⟨gv, 0, none⟩) m c, .int .i64 (m : Int), .bool true, u13, u14, .pointer (some ⟨g, 0, none⟩), .pointer (some ⟨g, 0, none⟩), .pointer (some ⟨g, 1, none⟩), .slice (some ⟨gv, 0, none⟩) m c, .int .i64 (i : Int), .pointer (some ⟨gv, i * 2, none⟩), .agg #[.int .i64 (xn : Int), .slice (some ⟨b1, o1, none⟩) 256 cc1], .int .i64 (i : Int), .slice (some ⟨mb, mo, none⟩) mn c2, .int .i64 (mn : Int), .bool true, .pointer (some ⟨g, 0, none⟩), .pointer (some ⟨g, 0, none⟩), .pointer (some ⟨g, 0, none⟩), .slice (some ⟨s, 0, none⟩) n cs, .pointer (some ⟨g5, 0, none⟩), .int .i64 (xn : Int), .pointer (some ⟨g, 0, none⟩), u33, u34, u35, u36, u37, u38, u39, u40, u41, u42, u43, u44, u45, u46, u47, undef, undef, undef, undef, undef, undef, undef, undef, undef], []⟩) (by kernel_rfl) (by kernel_rfl) (fun _ _ _ h => h) ?_
        refine any_take (i := 7) (.pointer (some ⟨g, 0, none⟩)) rfl (by kernel_rfl) (by kernel_rfl) (by kernel_rfl) rfl (by kernel_rfl) (by kernel_rfl) (fun W hW => by kernel_rfl) hS (listed' := #[true, true, true, true, true, true, true, true, false, false, false, false, false, false, false, false, false, false, false, false, false, false, false]) (a' := ⟨#[.pointer (some ⟨g, 0, none⟩), .slice (some ⟨mb, mo, none⟩) mn c2, undef, undef, .int .i64 (i : Int), .pointer (some ⟨g5, 0, none⟩), .int .i64 (i : Int), .pointer (some ⟨g, 0, none⟩), .pointer (some ⟨g, 0, none⟩), .pointer (some ⟨g, 1, none⟩), .slice (some ⟨gv, 0, none⟩) m c, .int .i64 (m : Int), .bool true, u13, u14, .pointer (some ⟨g, 0, none⟩), .pointer (some ⟨g, 0, none⟩), .pointer (some ⟨g, 1, none⟩), .slice (some ⟨gv, 0, none⟩) m c, .int .i64 (i : Int), .pointer (some ⟨gv, i * 2, none⟩), .agg #[.int .i64 (xn : Int), .slice (some ⟨b1, o1, none⟩) 256 cc1], .int .i64 (i : Int), .slice (some ⟨mb, mo, none⟩) mn c2, .int .i64 (mn : Int), .bool true, .pointer (some ⟨g, 0, none⟩), .pointer (some ⟨g, 0, none⟩), .pointer (some ⟨g, 0, none⟩), .slice (some ⟨s, 0, none⟩) n cs, .pointer (some ⟨g5, 0, none⟩), .int .i64 (xn : Int), .pointer (some ⟨g, 0, none⟩), .pointer (some ⟨g, 0, none⟩), u34, u35, u36, u37, u38, u39, u40, u41, u42, u43, u44, u45, u46, u47, undef, undef, undef, undef, undef, undef, undef, undef, undef], []⟩) (by kernel_rfl) (by kernel_rfl) (fun _ _ _ h => h) ?_
        refine any_take (i := 8) (.pointer (some ⟨g, 0, none⟩)) rfl (by kernel_rfl) (by kernel_rfl) (by kernel_rfl) rfl (by kernel_rfl) (by kernel_rfl) (fun W hW => by kernel_rfl) hS (listed' := #[true, true, true, true, true, true, true, true, true, false, false, false, false, false, false, false, false, false, false, false, false, false, false]) (a' := ⟨#[.pointer (some ⟨g, 0, none⟩), .slice (some ⟨mb, mo, none⟩) mn c2, undef, undef, .int .i64 (i : Int), .pointer (some ⟨g5, 0, none⟩), .int .i64 (i : Int), .pointer (some ⟨g, 0, none⟩), .pointer (some ⟨g, 0, none⟩), .pointer (some ⟨g, 1, none⟩), .slice (some ⟨gv, 0, none⟩) m c, .int .i64 (m : Int), .bool true, u13, u14, .pointer (some ⟨g, 0, none⟩), .pointer (some ⟨g, 0, none⟩), .pointer (some ⟨g, 1, none⟩), .slice (some ⟨gv, 0, none⟩) m c, .int .i64 (i : Int), .pointer (some ⟨gv, i * 2, none⟩), .agg #[.int .i64 (xn : Int), .slice (some ⟨b1, o1, none⟩) 256 cc1], .int .i64 (i : Int), .slice (some ⟨mb, mo, none⟩) mn c2, .int .i64 (mn : Int), .bool true, .pointer (some ⟨g, 0, none⟩), .pointer (some ⟨g, 0, none⟩), .pointer (some ⟨g, 0, none⟩), .slice (some ⟨s, 0, none⟩) n cs, .pointer (some ⟨g5, 0, none⟩), .int .i64 (xn : Int), .pointer (some ⟨g, 0, none⟩), .pointer (some ⟨g, 0, none⟩), .pointer (some ⟨g, 0, none⟩), u35, u36, u37, u38, u39, u40, u41, u42, u43, u44, u45, u46, u47, undef, undef, undef, undef, undef, undef, undef, undef, undef], []⟩) (by kernel_rfl) (by kernel_rfl) (fun _ _ _ h => h) ?_
        refine any_take (i := 9) (.slice (some ⟨s, 0, none⟩) n cs) rfl (by kernel_rfl) (by kernel_rfl) (by kernel_rfl) rfl (by kernel_rfl) (by kernel_rfl) (fun W hW => cell_run 68 (.tmp 34) ⟨g, 0, none⟩ (.slice (some ⟨s, 0, none⟩) n cs) _ (by kernel_rfl) (by kernel_rfl) hW.1 Tryz.underlying68 rfl (by kernel_rfl)) hS (listed' := #[true, true, true, true, true, true, true, true, true, true, false, false, false, false, false, false, false, false, false, false, false, false, false]) (a' := ⟨#[.pointer (some ⟨g, 0, none⟩), .slice (some ⟨mb, mo, none⟩) mn c2, undef, undef, .int .i64 (i : Int), .pointer (some ⟨g5, 0, none⟩), .int .i64 (i : Int), .pointer (some ⟨g, 0, none⟩), .pointer (some ⟨g, 0, none⟩), .pointer (some ⟨g, 1, none⟩), .slice (some ⟨gv, 0, none⟩) m c, .int .i64 (m : Int), .bool true, u13, u14, .pointer (some ⟨g, 0, none⟩), .pointer (some ⟨g, 0, none⟩), .pointer (some ⟨g, 1, none⟩), .slice (some ⟨gv, 0, none⟩) m c, .int .i64 (i : Int), .pointer (some ⟨gv, i * 2, none⟩), .agg #[.int .i64 (xn : Int), .slice (some ⟨b1, o1, none⟩) 256 cc1], .int .i64 (i : Int), .slice (some ⟨mb, mo, none⟩) mn c2, .int .i64 (mn : Int), .bool true, .pointer (some ⟨g, 0, none⟩), .pointer (some ⟨g, 0, none⟩), .pointer (some ⟨g, 0, none⟩), .slice (some ⟨s, 0, none⟩) n cs, .pointer (some ⟨g5, 0, none⟩), .int .i64 (xn : Int), .pointer (some ⟨g, 0, none⟩), .pointer (some ⟨g, 0, none⟩), .pointer (some ⟨g, 0, none⟩), .slice (some ⟨s, 0, none⟩) n cs, u36, u37, u38, u39, u40, u41, u42, u43, u44, u45, u46, u47, undef, undef, undef, undef, undef, undef, undef, undef, undef], []⟩) (by kernel_rfl) (by kernel_rfl) (fun _ _ _ h => h) ?_
        refine any_take (i := 10) (.pointer (some ⟨g5, 0, none⟩)) rfl (by kernel_rfl) (by kernel_rfl) (by kernel_rfl) rfl (by kernel_rfl) (by kernel_rfl) (fun W hW => by kernel_rfl) hS (listed' := #[true, true, true, true, true, true, true, true, true, true, true, false, false, false, false, false, false, false, false, false, false, false, false]) (a' := ⟨#[.pointer (some ⟨g, 0, none⟩), .slice (some ⟨mb, mo, none⟩) mn c2, undef, undef, .int .i64 (i : Int), .pointer (some ⟨g5, 0, none⟩), .int .i64 (i : Int), .pointer (some ⟨g, 0, none⟩), .pointer (some ⟨g, 0, none⟩), .pointer (some ⟨g, 1, none⟩), .slice (some ⟨gv, 0, none⟩) m c, .int .i64 (m : Int), .bool true, u13, u14, .pointer (some ⟨g, 0, none⟩), .pointer (some ⟨g, 0, none⟩), .pointer (some ⟨g, 1, none⟩), .slice (some ⟨gv, 0, none⟩) m c, .int .i64 (i : Int), .pointer (some ⟨gv, i * 2, none⟩), .agg #[.int .i64 (xn : Int), .slice (some ⟨b1, o1, none⟩) 256 cc1], .int .i64 (i : Int), .slice (some ⟨mb, mo, none⟩) mn c2, .int .i64 (mn : Int), .bool true, .pointer (some ⟨g, 0, none⟩), .pointer (some ⟨g, 0, none⟩), .pointer (some ⟨g, 0, none⟩), .slice (some ⟨s, 0, none⟩) n cs, .pointer (some ⟨g5, 0, none⟩), .int .i64 (xn : Int), .pointer (some ⟨g, 0, none⟩), .pointer (some ⟨g, 0, none⟩), .pointer (some ⟨g, 0, none⟩), .slice (some ⟨s, 0, none⟩) n cs, .pointer (some ⟨g5, 0, none⟩), u37, u38, u39, u40, u41, u42, u43, u44, u45, u46, u47, undef, undef, undef, undef, undef, undef, undef, undef, undef], []⟩) (by kernel_rfl) (by kernel_rfl) (fun _ _ _ h => h) ?_
        refine any_take (i := 11) (.int .i64 (xn : Int)) rfl (by kernel_rfl) (by kernel_rfl) (by kernel_rfl) rfl (by kernel_rfl) (by kernel_rfl) (fun W hW => cell_run 3 (.tmp 36) ⟨g5, 0, none⟩ (.int .i64 (xn : Int)) _ (by kernel_rfl) (by kernel_rfl) hW.2.1 Tryz.underlying3 rfl (by kernel_rfl)) hS (listed' := #[true, true, true, true, true, true, true, true, true, true, true, true, false, false, false, false, false, false, false, false, false, false, false]) (a' := ⟨#[.pointer (some ⟨g, 0, none⟩), .slice (some ⟨mb, mo, none⟩) mn c2, undef, undef, .int .i64 (i : Int), .pointer (some ⟨g5, 0, none⟩), .int .i64 (i : Int), .pointer (some ⟨g, 0, none⟩), .pointer (some ⟨g, 0, none⟩), .pointer (some ⟨g, 1, none⟩), .slice (some ⟨gv, 0, none⟩) m c, .int .i64 (m : Int), .bool true, u13, u14, .pointer (some ⟨g, 0, none⟩), .pointer (some ⟨g, 0, none⟩), .pointer (some ⟨g, 1, none⟩), .slice (some ⟨gv, 0, none⟩) m c, .int .i64 (i : Int), .pointer (some ⟨gv, i * 2, none⟩), .agg #[.int .i64 (xn : Int), .slice (some ⟨b1, o1, none⟩) 256 cc1], .int .i64 (i : Int), .slice (some ⟨mb, mo, none⟩) mn c2, .int .i64 (mn : Int), .bool true, .pointer (some ⟨g, 0, none⟩), .pointer (some ⟨g, 0, none⟩), .pointer (some ⟨g, 0, none⟩), .slice (some ⟨s, 0, none⟩) n cs, .pointer (some ⟨g5, 0, none⟩), .int .i64 (xn : Int), .pointer (some ⟨g, 0, none⟩), .pointer (some ⟨g, 0, none⟩), .pointer (some ⟨g, 0, none⟩), .slice (some ⟨s, 0, none⟩) n cs, .pointer (some ⟨g5, 0, none⟩), .int .i64 (xn : Int), u38, u39, u40, u41, u42, u43, u44, u45, u46, u47, undef, undef, undef, undef, undef, undef, undef, undef, undef], []⟩) (by kernel_rfl) (by kernel_rfl) (fun _ _ _ h => h) ?_
        refine any_take (i := 12) (.pointer (some ⟨s, xn, none⟩)) rfl (by kernel_rfl) (by kernel_rfl) (by kernel_rfl) rfl (by kernel_rfl) (by kernel_rfl) (fun W hW => by go_simp) hS (listed' := #[true, true, true, true, true, true, true, true, true, true, true, true, true, false, false, false, false, false, false, false, false, false, false]) (a' := ⟨#[.pointer (some ⟨g, 0, none⟩), .slice (some ⟨mb, mo, none⟩) mn c2, undef, undef, .int .i64 (i : Int), .pointer (some ⟨g5, 0, none⟩), .int .i64 (i : Int), .pointer (some ⟨g, 0, none⟩), .pointer (some ⟨g, 0, none⟩), .pointer (some ⟨g, 1, none⟩), .slice (some ⟨gv, 0, none⟩) m c, .int .i64 (m : Int), .bool true, u13, u14, .pointer (some ⟨g, 0, none⟩), .pointer (some ⟨g, 0, none⟩), .pointer (some ⟨g, 1, none⟩), .slice (some ⟨gv, 0, none⟩) m c, .int .i64 (i : Int), .pointer (some ⟨gv, i * 2, none⟩), .agg #[.int .i64 (xn : Int), .slice (some ⟨b1, o1, none⟩) 256 cc1], .int .i64 (i : Int), .slice (some ⟨mb, mo, none⟩) mn c2, .int .i64 (mn : Int), .bool true, .pointer (some ⟨g, 0, none⟩), .pointer (some ⟨g, 0, none⟩), .pointer (some ⟨g, 0, none⟩), .slice (some ⟨s, 0, none⟩) n cs, .pointer (some ⟨g5, 0, none⟩), .int .i64 (xn : Int), .pointer (some ⟨g, 0, none⟩), .pointer (some ⟨g, 0, none⟩), .pointer (some ⟨g, 0, none⟩), .slice (some ⟨s, 0, none⟩) n cs, .pointer (some ⟨g5, 0, none⟩), .int .i64 (xn : Int), .pointer (some ⟨s, xn, none⟩), u39, u40, u41, u42, u43, u44, u45, u46, u47, undef, undef, undef, undef, undef, undef, undef, undef, undef], []⟩) (by kernel_rfl) (by kernel_rfl) (fun _ _ _ h => h) ?_
        refine any_take (i := 13) (.slice (some ⟨bs, os, none⟩) 256 ccs) rfl (by kernel_rfl) (by kernel_rfl) (by kernel_rfl) rfl (by kernel_rfl) (by kernel_rfl) (fun W hW => cell_run 39 (.tmp 38) ⟨s, xn, none⟩ (.slice (some ⟨bs, os, none⟩) 256 ccs) _ (by kernel_rfl) (by kernel_rfl) hW.2.2.2.1 Tryz.underlying39 rfl (by kernel_rfl)) hS (listed' := #[true, true, true, true, true, true, true, true, true, true, true, true, true, true, false, false, false, false, false, false, false, false, false]) (a' := ⟨#[.pointer (some ⟨g, 0, none⟩), .slice (some ⟨mb, mo, none⟩) mn c2, undef, undef, .int .i64 (i : Int), .pointer (some ⟨g5, 0, none⟩), .int .i64 (i : Int), .pointer (some ⟨g, 0, none⟩), .pointer (some ⟨g, 0, none⟩), .pointer (some ⟨g, 1, none⟩), .slice (some ⟨gv, 0, none⟩) m c, .int .i64 (m : Int), .bool true, u13, u14, .pointer (some ⟨g, 0, none⟩), .pointer (some ⟨g, 0, none⟩), .pointer (some ⟨g, 1, none⟩), .slice (some ⟨gv, 0, none⟩) m c, .int .i64 (i : Int), .pointer (some ⟨gv, i * 2, none⟩), .agg #[.int .i64 (xn : Int), .slice (some ⟨b1, o1, none⟩) 256 cc1], .int .i64 (i : Int), .slice (some ⟨mb, mo, none⟩) mn c2, .int .i64 (mn : Int), .bool true, .pointer (some ⟨g, 0, none⟩), .pointer (some ⟨g, 0, none⟩), .pointer (some ⟨g, 0, none⟩), .slice (some ⟨s, 0, none⟩) n cs, .pointer (some ⟨g5, 0, none⟩), .int .i64 (xn : Int), .pointer (some ⟨g, 0, none⟩), .pointer (some ⟨g, 0, none⟩), .pointer (some ⟨g, 0, none⟩), .slice (some ⟨s, 0, none⟩) n cs, .pointer (some ⟨g5, 0, none⟩), .int .i64 (xn : Int), .pointer (some ⟨s, xn, none⟩), .slice (some ⟨bs, os, none⟩) 256 ccs, u40, u41, u42, u43, u44, u45, u46, u47, undef, undef, undef, undef, undef, undef, undef, undef, undef], []⟩) (by kernel_rfl) (by kernel_rfl) (fun _ _ _ h => h) ?_
        refine any_take (i := 14) (.pointer (some ⟨g5, 1, none⟩)) rfl (by kernel_rfl) (by kernel_rfl) (by kernel_rfl) rfl (by kernel_rfl) (by kernel_rfl) (fun W hW => by kernel_rfl) hS (listed' := #[true, true, true, true, true, true, true, true, true, true, true, true, true, true, true, false, false, false, false, false, false, false, false]) (a' := ⟨#[.pointer (some ⟨g, 0, none⟩), .slice (some ⟨mb, mo, none⟩) mn c2, undef, undef, .int .i64 (i : Int), .pointer (some ⟨g5, 0, none⟩), .int .i64 (i : Int), .pointer (some ⟨g, 0, none⟩), .pointer (some ⟨g, 0, none⟩), .pointer (some ⟨g, 1, none⟩), .slice (some ⟨gv, 0, none⟩) m c, .int .i64 (m : Int), .bool true, u13, u14, .pointer (some ⟨g, 0, none⟩), .pointer (some ⟨g, 0, none⟩), .pointer (some ⟨g, 1, none⟩), .slice (some ⟨gv, 0, none⟩) m c, .int .i64 (i : Int), .pointer (some ⟨gv, i * 2, none⟩), .agg #[.int .i64 (xn : Int), .slice (some ⟨b1, o1, none⟩) 256 cc1], .int .i64 (i : Int), .slice (some ⟨mb, mo, none⟩) mn c2, .int .i64 (mn : Int), .bool true, .pointer (some ⟨g, 0, none⟩), .pointer (some ⟨g, 0, none⟩), .pointer (some ⟨g, 0, none⟩), .slice (some ⟨s, 0, none⟩) n cs, .pointer (some ⟨g5, 0, none⟩), .int .i64 (xn : Int), .pointer (some ⟨g, 0, none⟩), .pointer (some ⟨g, 0, none⟩), .pointer (some ⟨g, 0, none⟩), .slice (some ⟨s, 0, none⟩) n cs, .pointer (some ⟨g5, 0, none⟩), .int .i64 (xn : Int), .pointer (some ⟨s, xn, none⟩), .slice (some ⟨bs, os, none⟩) 256 ccs, .pointer (some ⟨g5, 1, none⟩), u41, u42, u43, u44, u45, u46, u47, undef, undef, undef, undef, undef, undef, undef, undef, undef], []⟩) (by kernel_rfl) (by kernel_rfl) (fun _ _ _ h => h) ?_
        refine any_take (i := 15) (.slice (some ⟨b1, o1, none⟩) 256 cc1) rfl (by kernel_rfl) (by kernel_rfl) (by kernel_rfl) rfl (by kernel_rfl) (by kernel_rfl) (fun W hW => cell_run 39 (.tmp 40) ⟨g5, 1, none⟩ (.slice (some ⟨b1, o1, none⟩) 256 cc1) _ (by kernel_rfl) (by kernel_rfl) hW.2.2.1 Tryz.underlying39 rfl (by kernel_rfl)) hS (listed' := #[true, true, true, true, true, true, true, true, true, true, true, true, true, true, true, true, false, false, false, false, false, false, false]) (a' := ⟨#[.pointer (some ⟨g, 0, none⟩), .slice (some ⟨mb, mo, none⟩) mn c2, undef, undef, .int .i64 (i : Int), .pointer (some ⟨g5, 0, none⟩), .int .i64 (i : Int), .pointer (some ⟨g, 0, none⟩), .pointer (some ⟨g, 0, none⟩), .pointer (some ⟨g, 1, none⟩), .slice (some ⟨gv, 0, none⟩) m c, .int .i64 (m : Int), .bool true, u13, u14, .pointer (some ⟨g, 0, none⟩), .pointer (some ⟨g, 0, none⟩), .pointer (some ⟨g, 1, none⟩), .slice (some ⟨gv, 0, none⟩) m c, .int .i64 (i : Int), .pointer (some ⟨gv, i * 2, none⟩), .agg #[.int .i64 (xn : Int), .slice (some ⟨b1, o1, none⟩) 256 cc1], .int .i64 (i : Int), .slice (some ⟨mb, mo, none⟩) mn c2, .int .i64 (mn : Int), .bool true, .pointer (some ⟨g, 0, none⟩), .pointer (some ⟨g, 0, none⟩), .pointer (some ⟨g, 0, none⟩), .slice (some ⟨s, 0, none⟩) n cs, .pointer (some ⟨g5, 0, none⟩), .int .i64 (xn : Int), .pointer (some ⟨g, 0, none⟩), .pointer (some ⟨g, 0, none⟩), .pointer (some ⟨g, 0, none⟩), .slice (some ⟨s, 0, none⟩) n cs, .pointer (some ⟨g5, 0, none⟩), .int .i64 (xn : Int), .pointer (some ⟨s, xn, none⟩), .slice (some ⟨bs, os, none⟩) 256 ccs, .pointer (some ⟨g5, 1, none⟩), .slice (some ⟨b1, o1, none⟩) 256 cc1, u42, u43, u44, u45, u46, u47, undef, undef, undef, undef, undef, undef, undef, undef, undef], []⟩) (by kernel_rfl) (by kernel_rfl) (fun _ _ _ h => h) ?_
        refine any_take (i := 16) (.slice (some ⟨mb, mo, none⟩) mn c2) rfl (by kernel_rfl) (by kernel_rfl) (by kernel_rfl) rfl (by kernel_rfl) (by kernel_rfl) (fun W hW => by kernel_rfl) hS (listed' := #[true, true, true, true, true, true, true, true, true, true, true, true, true, true, true, true, true, false, false, false, false, false, false]) (a' := ⟨#[.pointer (some ⟨g, 0, none⟩), .slice (some ⟨mb, mo, none⟩) mn c2, undef, undef, .int .i64 (i : Int), .pointer (some ⟨g5, 0, none⟩), .int .i64 (i : Int), .pointer (some ⟨g, 0, none⟩), .pointer (some ⟨g, 0, none⟩), .pointer (some ⟨g, 1, none⟩), .slice (some ⟨gv, 0, none⟩) m c, .int .i64 (m : Int), .bool true, u13, u14, .pointer (some ⟨g, 0, none⟩), .pointer (some ⟨g, 0, none⟩), .pointer (some ⟨g, 1, none⟩), .slice (some ⟨gv, 0, none⟩) m c, .int .i64 (i : Int), .pointer (some ⟨gv, i * 2, none⟩), .agg #[.int .i64 (xn : Int), .slice (some ⟨b1, o1, none⟩) 256 cc1], .int .i64 (i : Int), .slice (some ⟨mb, mo, none⟩) mn c2, .int .i64 (mn : Int), .bool true, .pointer (some ⟨g, 0, none⟩), .pointer (some ⟨g, 0, none⟩), .pointer (some ⟨g, 0, none⟩), .slice (some ⟨s, 0, none⟩) n cs, .pointer (some ⟨g5, 0, none⟩), .int .i64 (xn : Int), .pointer (some ⟨g, 0, none⟩), .pointer (some ⟨g, 0, none⟩), .pointer (some ⟨g, 0, none⟩), .slice (some ⟨s, 0, none⟩) n cs, .pointer (some ⟨g5, 0, none⟩), .int .i64 (xn : Int), .pointer (some ⟨s, xn, none⟩), .slice (some ⟨bs, os, none⟩) 256 ccs, .pointer (some ⟨g5, 1, none⟩), .slice (some ⟨b1, o1, none⟩) 256 cc1, .slice (some ⟨mb, mo, none⟩) mn c2, u43, u44, u45, u46, u47, undef, undef, undef, undef, undef, undef, undef, undef, undef], []⟩) (by kernel_rfl) (by kernel_rfl) (fun _ _ _ h => h) ?_
        refine any_take (i := 17) (.int .i64 (i : Int)) rfl (by kernel_rfl) (by kernel_rfl) (by kernel_rfl) rfl (by kernel_rfl) (by kernel_rfl) (fun W hW => by kernel_rfl) hS (listed' := #[true, true, true, true, true, true, true, true, true, true, true, true, true, true, true, true, true, true, false, false, false, false, false]) (a' := ⟨#[.pointer (some ⟨g, 0, none⟩), .slice (some ⟨mb, mo, none⟩) mn c2, undef, undef, .int .i64 (i : Int), .pointer (some ⟨g5, 0, none⟩), .int .i64 (i : Int), .pointer (some ⟨g, 0, none⟩), .pointer (some ⟨g, 0, none⟩), .pointer (some ⟨g, 1, none⟩), .slice (some ⟨gv, 0, none⟩) m c, .int .i64 (m : Int), .bool true, u13, u14, .pointer (some ⟨g, 0, none⟩), .pointer (some ⟨g, 0, none⟩), .pointer (some ⟨g, 1, none⟩), .slice (some ⟨gv, 0, none⟩) m c, .int .i64 (i : Int), .pointer (some ⟨gv, i * 2, none⟩), .agg #[.int .i64 (xn : Int), .slice (some ⟨b1, o1, none⟩) 256 cc1], .int .i64 (i : Int), .slice (some ⟨mb, mo, none⟩) mn c2, .int .i64 (mn : Int), .bool true, .pointer (some ⟨g, 0, none⟩), .pointer (some ⟨g, 0, none⟩), .pointer (some ⟨g, 0, none⟩), .slice (some ⟨s, 0, none⟩) n cs, .pointer (some ⟨g5, 0, none⟩), .int .i64 (xn : Int), .pointer (some ⟨g, 0, none⟩), .pointer (some ⟨g, 0, none⟩), .pointer (some ⟨g, 0, none⟩), .slice (some ⟨s, 0, none⟩) n cs, .pointer (some ⟨g5, 0, none⟩), .int .i64 (xn : Int), .pointer (some ⟨s, xn, none⟩), .slice (some ⟨bs, os, none⟩) 256 ccs, .pointer (some ⟨g5, 1, none⟩), .slice (some ⟨b1, o1, none⟩) 256 cc1, .slice (some ⟨mb, mo, none⟩) mn c2, .int .i64 (i : Int), u44, u45, u46, u47, undef, undef, undef, undef, undef, undef, undef, undef, undef], []⟩) (by kernel_rfl) (by kernel_rfl) (fun _ _ _ h => h) ?_
        refine any_take (i := 18) (.pointer (some ⟨mb, mo + i, none⟩)) rfl (by kernel_rfl) (by kernel_rfl) (by kernel_rfl) rfl (by kernel_rfl) (by kernel_rfl) (fun W hW => by go_simp) hS (listed' := #[true, true, true, true, true, true, true, true, true, true, true, true, true, true, true, true, true, true, true, false, false, false, false]) (a' := ⟨#[.pointer (some ⟨g, 0, none⟩), .slice (some ⟨mb, mo, none⟩) mn c2, undef, undef, .int .i64 (i : Int), .pointer (some ⟨g5, 0, none⟩), .int .i64 (i : Int), .pointer (some ⟨g, 0, none⟩), .pointer (some ⟨g, 0, none⟩), .pointer (some ⟨g, 1, none⟩), .slice (some ⟨gv, 0, none⟩) m c, .int .i64 (m : Int), .bool true, u13, u14, .pointer (some ⟨g, 0, none⟩), .pointer (some ⟨g, 0, none⟩), .pointer (some ⟨g, 1, none⟩), .slice (some ⟨gv, 0, none⟩) m c, .int .i64 (i : Int), .pointer (some ⟨gv, i * 2, none⟩), .agg #[.int .i64 (xn : Int), .slice (some ⟨b1, o1, none⟩) 256 cc1], .int .i64 (i : Int), .slice (some ⟨mb, mo, none⟩) mn c2, .int .i64 (mn : Int), .bool true, .pointer (some ⟨g, 0, none⟩), .pointer (some ⟨g, 0, none⟩), .pointer (some ⟨g, 0, none⟩), .slice (some ⟨s, 0, none⟩) n cs, .pointer (some ⟨g5, 0, none⟩), .int .i64 (xn : Int), .pointer (some ⟨g, 0, none⟩), .pointer (some ⟨g, 0, none⟩), .pointer (some ⟨g, 0, none⟩), .slice (some ⟨s, 0, none⟩) n cs, .pointer (some ⟨g5, 0, none⟩), .int .i64 (xn : Int), .pointer (some ⟨s, xn, none⟩), .slice (some ⟨bs, os, none⟩) 256 ccs, .pointer (some ⟨g5, 1, none⟩), .slice (some ⟨b1, o1, none⟩) 256 cc1, .slice (some ⟨mb, mo, none⟩) mn c2, .int .i64 (i : Int), .pointer (some ⟨mb, mo + i, none⟩), u45, u46, u47, undef, undef, undef, undef, undef, undef, undef, undef, undef], []⟩) (by kernel_rfl) (by kernel_rfl) (fun _ _ _ h => h) ?_
        refine any_take (i := 19) (.int .i64 mk) rfl (by kernel_rfl) (by kernel_rfl) (by kernel_rfl) rfl (by kernel_rfl) (by kernel_rfl) (fun W hW => cell_run 3 (.tmp 44) ⟨mb, mo + i, none⟩ (.int .i64 mk) _ (by kernel_rfl) (by kernel_rfl) hW.2.2.2.2 Tryz.underlying3 rfl (by kernel_rfl)) hS (listed' := #[true, true, true, true, true, true, true, true, true, true, true, true, true, true, true, true, true, true, true, true, false, false, false]) (a' := ⟨#[.pointer (some ⟨g, 0, none⟩), .slice (some ⟨mb, mo, none⟩) mn c2, undef, undef, .int .i64 (i : Int), .pointer (some ⟨g5, 0, none⟩), .int .i64 (i : Int), .pointer (some ⟨g, 0, none⟩), .pointer (some ⟨g, 0, none⟩), .pointer (some ⟨g, 1, none⟩), .slice (some ⟨gv, 0, none⟩) m c, .int .i64 (m : Int), .bool true, u13, u14, .pointer (some ⟨g, 0, none⟩), .pointer (some ⟨g, 0, none⟩), .pointer (some ⟨g, 1, none⟩), .slice (some ⟨gv, 0, none⟩) m c, .int .i64 (i : Int), .pointer (some ⟨gv, i * 2, none⟩), .agg #[.int .i64 (xn : Int), .slice (some ⟨b1, o1, none⟩) 256 cc1], .int .i64 (i : Int), .slice (some ⟨mb, mo, none⟩) mn c2, .int .i64 (mn : Int), .bool true, .pointer (some ⟨g, 0, none⟩), .pointer (some ⟨g, 0, none⟩), .pointer (some ⟨g, 0, none⟩), .slice (some ⟨s, 0, none⟩) n cs, .pointer (some ⟨g5, 0, none⟩), .int .i64 (xn : Int), .pointer (some ⟨g, 0, none⟩), .pointer (some ⟨g, 0, none⟩), .pointer (some ⟨g, 0, none⟩), .slice (some ⟨s, 0, none⟩) n cs, .pointer (some ⟨g5, 0, none⟩), .int .i64 (xn : Int), .pointer (some ⟨s, xn, none⟩), .slice (some ⟨bs, os, none⟩) 256 ccs, .pointer (some ⟨g5, 1, none⟩), .slice (some ⟨b1, o1, none⟩) 256 cc1, .slice (some ⟨mb, mo, none⟩) mn c2, .int .i64 (i : Int), .pointer (some ⟨mb, mo + i, none⟩), .int .i64 mk, u46, u47, undef, undef, undef, undef, undef, undef, undef, undef, undef], []⟩) (by kernel_rfl) (by kernel_rfl) (fun _ _ _ h => h) ?_
        refine any_comes (i := 20) (by kernel_rfl) (op_enter 76 #[.slice (some ⟨bs, os, none⟩) 256 ccs, .slice (some ⟨b1, o1, none⟩) 256 cc1, .int .i64 mk] (some 46) rfl (by kernel_rfl) (by kernel_rfl) (by kernel_rfl) (HTn.out.mono ?_))
        rintro e w7 ⟨⟨q, cq, rfl, hcq1, hcq2, hq1, hqR⟩, hb7⟩
        have hS7 := HS7.out w7 hb7
        refine ⟨_, rfl, hS7, ?_⟩
        refine any_asT (a' := ⟨#[.pointer (some ⟨g, 0, none⟩), .slice (some ⟨mb, mo, none⟩) mn c2, undef, undef, .int .i64 (i : Int), .pointer (some ⟨g5, 0, none⟩), .int .i64 (i : Int), .pointer (some ⟨g, 0, none⟩), .pointer (some ⟨g, 0, none⟩), .pointer (some ⟨g, 1, none⟩), .slice (some ⟨gv, 0, none⟩) m c, .int .i64 (m : Int), .bool true, u13, u14, .pointer (some ⟨g, 0, none⟩), .pointer (some ⟨g, 0, none⟩), .pointer (some ⟨g, 1, none⟩), .slice (some ⟨gv, 0, none⟩) m c, .int .i64 (i : Int), .pointer (some ⟨gv, i * 2, none⟩), .agg #[.int .i64 (xn : Int), .slice (some ⟨b1, o1, none⟩) 256 cc1], .int .i64 (i : Int), .slice (some ⟨mb, mo, none⟩) mn c2, .int .i64 (mn : Int), .bool true, .pointer (some ⟨g, 0, none⟩), .pointer (some ⟨g, 0, none⟩), .pointer (some ⟨g, 0, none⟩), .slice (some ⟨s, 0, none⟩) n cs, .pointer (some ⟨g5, 0, none⟩), .int .i64 (xn : Int), .pointer (some ⟨g, 0, none⟩), .pointer (some ⟨g, 0, none⟩), .pointer (some ⟨g, 0, none⟩), .slice (some ⟨s, 0, none⟩) n cs, .pointer (some ⟨g5, 0, none⟩), .int .i64 (xn : Int), .pointer (some ⟨s, xn, none⟩), .slice (some ⟨bs, os, none⟩) 256 ccs, .pointer (some ⟨g5, 1, none⟩), .slice (some ⟨b1, o1, none⟩) 256 cc1, .slice (some ⟨mb, mo, none⟩) mn c2, .int .i64 (i : Int), .pointer (some ⟨mb, mo + i, none⟩), .int .i64 mk, .slice (some ⟨q, 0, none⟩) 256 cq, u47, undef, undef, undef, undef, undef, undef, undef, undef, undef], []⟩) (by kernel_rfl) (listed' := #[true, true, true, true, true, true, true, true, true, true, true, true, true, true, true, true, true, true, true, true, true, false, false]) (by kernel_rfl) ?_
        refine any_left (by kernel_rfl) ?_
        refine wpAny_tail 21 (by kernel_rfl) (by kernel_rfl) ?_
        simp only [List.drop_succ_cons, List.drop_zero]
        obtain ⟨hR8, hT8, hB8, f8⟩ := HPut.out w7 q cq hb7 hcq1 hcq2 hq1 hqR
        have c8 := hS7.2.2.2.1
        clear hS hS7 hb7 hcq1 hcq2 hq1 hqR HTn HS7
        go_wp2
        refine ⟨⟨i + 1, by omega, by go_num, _, _, hR8, hT8, hB8⟩, ?_⟩
        simp [intOf]; omega
      · have d2 : decide ((i : Int) < (mn : Int)) = false := decide_eq_false (by omega)
        have d3 : decide (i < mn) = false := decide_eq_false hik
        have hbW : Below wr.heap.size wr (wr.alloc (.cells #[.int .i64 (xn : Int), .slice (some ⟨b1, o1, none⟩) 256 cc1] 115)) := (Below.refl _ _).alloc (Nat.le_refl _) _
        have HN : Hid (RD (wr.alloc (.cells #[.int .i64 (xn : Int), .slice (some ⟨b1, o1, none⟩) 256 cc1] 115)) g G B' (cr d masks (i + 1)) s cs (.slice (some ⟨gv, 0, none⟩) d.waits.length c) hs' hv) := by
          show RD _ _ _ _ _ _ _ _ _ _
          rw [cr_no d masks i hi2 (by have := Hmn.out; omega)]
          exact HR.out.under hbW
        have HT2 : Hid (Turns w (wr.alloc (.cells #[.int .i64 (xn : Int), .slice (some ⟨b1, o1, none⟩) 256 cc1] 115)) G G) := HT.out.trans (Turns.of_below hbW G)
        clear hxn hbW hik HR HT
        go_wp2
        refine ⟨⟨i + 1, by omega, by go_num, _, _, HN, HT2, HB⟩, ?_⟩
        simp [intOf]; omega
    · have him : i = m := by omega
      have hR := HR.out
      have hcr : cr d masks i = { d with safe := Dk.crashed masks d.safe d.waits 0 } := by
        unfold cr
        rw [him, Hm.out, List.take_length]
      rw [hcr] at hR
      have d0 : decide ((i : Int) < (m : Int)) = false := decide_eq_false (by omega)
      have d1 : decide (i < m) = false := decide_eq_false hlt
      have f1 : wr.frozen? ⟨g, 1, none⟩ = false := hR.fz 1
      have f2 : wr.frozen? ⟨g, 2, none⟩ = false := hR.fz 2
      have f3 : wr.frozen? ⟨g, 3, none⟩ = false := hR.fz 3
      have r2 : wr.cell? ⟨g, 2, none⟩ = some (.int .i64 d.left) := hR.r2
      have r3 : wr.cell? ⟨g, 3, none⟩ = some (.bool d.off) := hR.r3
      have HE := Lib.hid hR.on
      have HTE : Hid (Turns w (((wr.setCell ⟨g, 1, none⟩ (.slice none 0 0)).setCell ⟨g, 3, none⟩ (.bool false)).setCell ⟨g, 2, none⟩ (.int .i64 (-1))) G G) := ((HT.out.trans (Turns.set_ HP.out.gg 1 _)).trans (Turns.set_ HP.out.gg 3 _)).trans (Turns.set_ HP.out.gg 2 _)
      clear him hR hcr HR HT hlt hi
      go_wp2
      go_end0
      exact ⟨rfl, G, B', ⟨_, _, _, _, _, HE.out⟩, HTE.out, HB.out⟩
end Go.Proofs.YtonnkibcnhjelaaGreatDoor
end
section
set_option linter.unusedVariables false
namespace Go.Proofs.YtonnkibcnhjelaaGreatDoor
open Go.RowKit
theorem Tryz.hdrInfo : (Tryz.prog.info? 39).map (fun i => (i.zero, i.size, i.bytes)) = some (some (.slice none 0 0), 1, 24) := by kernel_rfl
theorem one_new (W : World) (x : Value) (t : TypeId) : Reads (W.alloc (.cells #[x] t)) (W.heap.size + 1) 1 (some ⟨W.heap.size, 0, none⟩) 1 [x] := by
  refine ⟨by simp, fun h0 => ⟨_, rfl, by simp, fun j u hu => ?_⟩⟩
  have h := heap_alloc_new W (.cells #[x] t)
  have e : (⟨W.heap.size, 0, none⟩ : Addr).add j = ⟨W.heap.size, j, none⟩ := by unfold Addr.add; split <;> simp_all
  rw [e, (blk_cell h j).1]
  simpa using hu
structure LD (w0 w : World) (g : Nat) (B : Nat → Prop) (SV : Value) (hs : List Value) (Ls : List (List UInt8)) : Prop where
  blk : Blk w g 73 #[SV, .slice none 0 0, .int .i64 (-1), .bool false, .int .i64 0, .int .i64 0, .int .i64 0]
  own : w.ownsRow 0 39 1 SV Ls.length hs
  hdr : Hdrs w B hs Ls
  gge : w0.heap.size ≤ g
  sge : ∀ k, SV.ownBlock = some k → w0.heap.size ≤ k
  b : ∀ k, B k → w0.heap.size ≤ k ∧ k < w.heap.size ∧ k ≠ g ∧ SV.ownBlock ≠ some k
  below : Below w0.heap.size w0 w
section
variable {w0 w W : World} {g : Nat} {B : Nat → Prop} {SV : Value} {hs : List Value} {Ls : List (List UInt8)}
theorem LD.under (h : LD w0 w g B SV hs Ls) (hb : Below w.heap.size w W) : LD w0 W g B SV hs Ls :=
  ⟨h.blk.below hb h.blk.lt, own_turns h.own (Turns.of_below hb (fun _ => False)) (fun _ _ h => h), h.hdr.turns (Turns.of_below hb (fun _ => False)) (fun _ _ h => h), h.gge, h.sge, fun k hk => ⟨(h.b k hk).1, Nat.lt_of_lt_of_le (h.b k hk).2.1 hb.size, (h.b k hk).2.2⟩, chain6 h.below hb⟩
theorem LD.c0 (h : LD w0 w g B SV hs Ls) : w.cell? ⟨g, 0, none⟩ = some SV := by rw [h.blk.cell]; rfl
theorem load_new (h : LD w0 w g B SV hs Ls) (hb : Below w.heap.size w W) {L : List UInt8} (h256 : L.length = 256) {o : Obj} {v1 : Value} {w1 : World} (ho : w1.ownsRow W.heap.size 5 1 v1 (0 + 256) ([] ++ cells L)) (hg : (W.alloc o).grownBy w1 (Value.slice (some ⟨W.heap.size, 0, none⟩) 0 0).ownBlock) :
    ∃ q cq, v1 = .slice (some ⟨q, 0, none⟩) 256 cq ∧ Below w.heap.size w w1 ∧ w1.cell? ⟨g, 0, none⟩ = some SV ∧ Hdr w1 (fun k => k = q) (.slice (some ⟨q, 0, none⟩) 256 cq) L ∧ w.heap.size ≤ q ∧ q < w1.heap.size := by
  simp only [Nat.zero_add, List.nil_append] at ho
  obtain ⟨A3, c3, rfl⟩ := own_form ho
  have hO : Own w1 W.heap.size A3 L c3 := by unfold Own; rw [h256]; exact ho
  obtain ⟨q, rfl, hA, hl1, hl2, hl3⟩ := own_arr hO (by omega)
  have hb1 : Below w.heap.size w w1 := (hb.alloc hb.size o).grown hg (by have := hb.size; simp; omega) (by have := hb.size; simp [Value.ownBlock]; omega)
  exact ⟨q, c3, rfl, hb1, (h.under hb1).c0, ⟨h256, q, 0, c3, rfl, by omega, hl2, rfl, hA.all⟩, by have := hb.size; omega, hA.lt⟩
theorem load_mid (h : LD w0 w g B SV hs Ls) (hb : Below w.heap.size w W) {q cq : Nat} {L : List UInt8} (hH : Hdr W (fun k => k = q) (.slice (some ⟨q, 0, none⟩) 256 cq) L) (hq1 : w.heap.size ≤ q) (hq2 : q < W.heap.size)
    {o : Obj} {V' : Value} {w5 : World} (ho : w5.ownsRow 0 39 1 V' (Ls.length + 1) (hs ++ [.slice (some ⟨q, 0, none⟩) 256 cq])) (hg : (W.alloc o).grownBy w5 SV.ownBlock) (hat : V'.ownBlock = SV.ownBlock ∨ V'.ownBlock = some (W.alloc o).heap.size) :
    w5.cell? ⟨g, 0, none⟩ = some SV ∧ w5.frozen? ⟨g, 0, none⟩ = false ∧ Hid (∃ B', LD w0 (w5.setCell ⟨g, 0, none⟩ V') g B' V' (hs ++ [.slice (some ⟨q, 0, none⟩) 256 cq]) (Ls ++ [L])) := by
  have hZ := h.under (hb.alloc hb.size o)
  have hHZ : Hdr (W.alloc o) (fun k => k = q) (.slice (some ⟨q, 0, none⟩) 256 cq) L := hH.turns (Turns.alloc o (fun _ => False)) (fun _ _ h => h)
  have hqz : q < (W.alloc o).heap.size := by simp; omega
  have hwz : w.heap.size ≤ (W.alloc o).heap.size := by have := hb.size; simp; omega
  generalize W.alloc o = Z at hZ hHZ hg hat hqz hwz
  have hSg : SV.ownBlock ≠ some g := own_blk_ne hZ.own hZ.blk (by decide)
  have b5 : Blk w5 g 73 #[SV, .slice none 0 0, .int .i64 (-1), .bool false, .int .i64 0, .int .i64 0, .int .i64 0] := hZ.blk.grown hg (fun e => hSg e.symm)
  have hV'g : V'.ownBlock ≠ some g := own_blk_ne ho b5 (by decide)
  have tz : Turns Z (w5.setCell ⟨g, 0, none⟩ V') (fun k => k = g ∨ SV.ownBlock = some k) (fun k => k = g ∨ SV.ownBlock = some k) := (Turns.grown (F := fun k => k = g ∨ SV.ownBlock = some k) hg (fun k hk => .inr hk)).trans (Turns.set_ (F := fun k => k = g ∨ SV.ownBlock = some k) (.inl rfl) 0 V')
  have hlt := h.blk.lt
  have hw0 := h.below.size
  have hSlt : ∀ k, SV.ownBlock = some k → k < w.heap.size := fun k hk => (own_lt h.own hk).1
  have hBn : ∀ k, B k → ¬ (k = g ∨ SV.ownBlock = some k) := fun k hk e => by
    rcases e with e | e
    · exact (h.b k hk).2.2.1 e
    · exact (h.b k hk).2.2.2 e
  have hqn : ¬ (q = g ∨ SV.ownBlock = some q) := fun e => by
    rcases e with e | e
    · omega
    · have := hSlt q e; omega
  have hsz : (w5.setCell ⟨g, 0, none⟩ V').heap.size = w5.heap.size := by simp [World.setCell]
  refine ⟨by rw [b5.cell]; rfl, b5.frozen 0, (fun k => B k ∨ k = q), b5.set_ 0 V', ?_, ?_, h.gge, fun k hk => ?_, fun k hk => ?_, ?_⟩
  · have h1 := own_turns ho (turns_own w5 g 0 V') (fun k hk e => hV'g (by rw [hk, e]))
    simpa using h1
  · exact ((hZ.hdr.turns tz hBn).wide (fun _ h => .inl h)).snoc ((hHZ.turns tz (fun k hk e => hqn (hk ▸ e))).wide (fun _ h => .inr h))
  · rcases hat with e | e
    · exact h.sge k (e ▸ hk)
    · rw [e] at hk; injection hk with hk; omega
  · have hk2 : w0.heap.size ≤ k ∧ k < Z.heap.size ∧ k ≠ g ∧ SV.ownBlock ≠ some k := by
      rcases hk with h1 | h1
      · exact ⟨(h.b k h1).1, Nat.lt_of_lt_of_le (h.b k h1).2.1 hwz, (h.b k h1).2.2⟩
      · subst h1
        exact ⟨by omega, hqz, fun e => hqn (.inl e), fun e => hqn (.inr e)⟩
    refine ⟨hk2.1, Nat.lt_of_lt_of_le hk2.2.1 tz.size, hk2.2.2.1, fun e => ?_⟩
    rcases hat with e' | e'
    · exact hk2.2.2.2 (e' ▸ e)
    · rw [e'] at e; injection e with e; have := hk2.2.1; omega
  · exact hZ.below.trans (tz.below (fun k hk => by
      rcases hk with rfl | hk
      · exact h.gge
      · exact h.sge k hk) (by omega))
end
def GivesRef (D : Dk) (w w' : World) (g : Nat) (G B : Nat → Prop) : Prop := RDisk w' g G B D ∧ Below w.heap.size w w' ∧ (∀ k, G k → w.heap.size ≤ k) ∧ ∀ k, B k → w.heap.size ≤ k
theorem LD.end_ {w0 w : World} {g : Nat} {B : Nat → Prop} {SV : Value} {hs : List Value} {L : List UInt8} {m : Nat} (h : LD w0 w g B SV hs (Dk.chunks m L)) (hm : L.length = 256 * m) (h1 : 16 ≤ m) (h2 : m ≤ 1024) : ∃ G B, GivesRef (Dk.ofImage L) w0 w g G B := by
  have e1 : L.length / 256 = m := by omega
  have hl : (Dk.ofImage L).safe = Dk.chunks m L := by unfold Dk.ofImage; rw [e1]
  have hlen : (Dk.chunks m L).length = m := Dk.chunks_length m L
  obtain ⟨s, cs, hv, hs0, _⟩ := h.own.form (by omega)
  subst hv
  refine ⟨fun k => k = g ∨ k = s, B, ⟨s, cs, .slice none 0 0, hs, [], ?_⟩, h.below, fun k hk => ?_, fun k hk => (h.b k hk).1⟩
  · refine ⟨by have := h.blk; rw [← hl] at this; exact this, by have := h.own; rw [← hl] at this; exact this, by rw [hl]; exact h.hdr, World.ownsRow_nil _ _ _ _, Hdrs.none_, .inl rfl, .inr rfl, fun k hk => by simp [Value.ownBlock] at hk, fun k hk => ?_, fun k hk => (h.b k hk).2.1, fun k hk hb => ?_, ⟨⟨by rw [hl]; exact Dk.chunks_fit m L hm, fun x hx => by cases hx⟩, by rw [hl, hlen]; exact h1, by rw [hl, hlen]; exact h2, ⟨Int.le_refl _, by show (-1 : Int) ≤ _; omega⟩⟩⟩
    · rcases hk with rfl | rfl
      · exact h.blk.lt
      · exact (own_lt h.own (k := k) rfl).1
    · rcases hk with rfl | rfl
      · exact (h.b k hb).2.2.1 rfl
      · exact (h.b k hb).2.2.2 rfl
  · rcases hk with rfl | rfl
    · exact h.gge
    · exact h.sge k rfl
end Go.Proofs.YtonnkibcnhjelaaGreatDoor
end
