/- Lemmas under the proofs of this place: DiskRWrite, ChainPFollow. No statement is proved here. -/
import Derived.Test.YtonnkibcnhjelaaGreatDoorBu29
import Derived.Test.YtonnkibcnhjelaaGreatDoorBu20
import Derived.Test.YtonnkibcnhjelaaGreatDoorBu27
import Derived.Test.YtonnkibcnhjelaaGreatDoorBu22
import Derived.Test.YtonnkibcnhjelaaGreatDoorBu19
import Derived.Stop.IfaceNil
section
set_option linter.unusedVariables false
namespace Go.Proofs.YtonnkibcnhjelaaGreatDoor
open Go.RowKit
theorem Tryz.waitInfo : (Tryz.prog.info? 115).map (fun i => (i.zero, i.size, i.bytes)) = some (some (.agg #[.int .i64 0, .slice none 0 0]), 2, 32) := by kernel_rfl
theorem pair_new (W : World) (x y : Value) (t : TypeId) : Reads (W.alloc (.cells #[x, y] t)) (W.heap.size + 1) 2 (some ⟨W.heap.size, 0, none⟩) 1 [x, y] := by
  refine ⟨by simp, fun h0 => ⟨_, rfl, by simp, fun j u hu => ?_⟩⟩
  have h := heap_alloc_new W (.cells #[x, y] t)
  have e : (⟨W.heap.size, 0, none⟩ : Addr).add j = ⟨W.heap.size, j, none⟩ := by unfold Addr.add; split <;> simp_all
  rw [e, (blk_cell h j).1]
  simpa using hu
section
variable {w W : World} {g : Nat} {G B : Nat → Prop} {d : Dk} {s cs : Nat} {V : Value} {hs hv : List Value}
theorem RD.under (h : RD w g G B d s cs V hs hv) (hb : Below w.heap.size w W) : RD W g G B d s cs V hs hv := h.turns (Turns.of_below hb (fun _ => False)) (fun _ _ h => h) (fun _ _ h => h)
theorem rwrite_c1 (h : RD w g G B d s cs V hs hv) (hb : Below w.heap.size w W) (o : Obj) : (W.alloc o).cell? ⟨g, 1, none⟩ = some V := (h.under (hb.alloc hb.size o)).r1
theorem rwrite_own (h : RD w g G B d s cs V hs hv) (hb : Below w.heap.size w W) (o : Obj) : (W.alloc o).ownsRow 0 115 2 V d.waits.length (rwc d.waits hv) := (h.under (hb.alloc hb.size o)).wait
theorem rwrite_new (h : RD w g G B d s cs V hs hv) (hb : Below w.heap.size w W) {L : List UInt8} (h256 : L.length = 256) {o : Obj} {v1 : Value} {w1 : World} (ho : w1.ownsRow W.heap.size 5 1 v1 (0 + 256) ([] ++ cells L)) (hg : (W.alloc o).grownBy w1 (Value.slice (some ⟨W.heap.size, 0, none⟩) 0 0).ownBlock) :
    ∃ q cq, v1 = .slice (some ⟨q, 0, none⟩) 256 cq ∧ Below w.heap.size w w1 ∧ w1.cell? ⟨g, 1, none⟩ = some V ∧ Hdr w1 (fun k => k = q) (.slice (some ⟨q, 0, none⟩) 256 cq) L ∧ w.heap.size ≤ q ∧ q < w1.heap.size := by
  simp only [Nat.zero_add, List.nil_append] at ho
  obtain ⟨A3, c3, rfl⟩ := own_form ho
  have hO : Own w1 W.heap.size A3 L c3 := by unfold Own; rw [h256]; exact ho
  obtain ⟨q, rfl, hA, hl1, hl2, hl3⟩ := own_arr hO (by omega)
  have hb1 : Below w.heap.size w w1 := (hb.alloc hb.size o).grown hg (by have := hb.size; simp; omega) (by have := hb.size; simp [Value.ownBlock]; omega)
  exact ⟨q, c3, rfl, hb1, (h.under hb1).r1, ⟨h256, q, 0, c3, rfl, by omega, hl2, rfl, hA.all⟩, by have := hb.size; omega, hA.lt⟩
theorem rwrite_mid (h : RD w g G B d s cs V hs hv) (hb : Below w.heap.size w W) {q cq : Nat} {L : List UInt8} (hH : Hdr W (fun k => k = q) (.slice (some ⟨q, 0, none⟩) 256 cq) L) (hq1 : w.heap.size ≤ q) (hq2 : q < W.heap.size) (k : Nat) (hk : k < d.safe.length)
    {o : Obj} {V' : Value} {w5 : World} (ho : w5.ownsRow 0 115 2 V' (d.waits.length + 1) (rwc d.waits hv ++ [.int .i64 (k : Int), .slice (some ⟨q, 0, none⟩) 256 cq])) (hg : (W.alloc o).grownBy w5 V.ownBlock) (hat : V'.ownBlock = V.ownBlock ∨ V'.ownBlock = some (W.alloc o).heap.size) :
    w5.cell? ⟨g, 1, none⟩ = some V ∧ w5.frozen? ⟨g, 1, none⟩ = false ∧ Hid (RDeeds { d with waits := d.waits ++ [(k, L)] } G B w (w5.setCell ⟨g, 1, none⟩ V') g) := by
  have hZ := h.under (hb.alloc hb.size o)
  have t1 : Turns w (W.alloc o) G G := (Turns.of_below hb G).trans (Turns.alloc o G)
  have hHZ : Hdr (W.alloc o) (fun k => k = q) (.slice (some ⟨q, 0, none⟩) 256 cq) L := hH.turns (Turns.alloc o (fun _ => False)) (fun _ _ h => h)
  have hqz : q < (W.alloc o).heap.size := by simp; omega
  have hwz : w.heap.size ≤ (W.alloc o).heap.size := t1.size
  generalize W.alloc o = Z at hZ t1 hHZ hg hat hqz hwz
  obtain ⟨n1, n2, n3⟩ := hZ.ne
  have hrow : ∀ k, V.ownBlock = some k → G k := h.gv
  have t5 : Turns w w5 G G := t1.trans (Turns.grown hg (fun k hk => hrow k hk))
  have t6 : Turns w (w5.setCell ⟨g, 1, none⟩ V') G G := t5.trans (Turns.set_ h.gg 1 V')
  have tz : Turns Z (w5.setCell ⟨g, 1, none⟩ V') G G := (Turns.grown hg (fun k hk => hrow k hk)).trans (Turns.set_ h.gg 1 V')
  have b5 : Blk w5 g 73 (refCells (.slice (some ⟨s, 0, none⟩) d.safe.length cs) V d) := hZ.blk.grown hg (fun e => n2 e.symm)
  have hV'g : V'.ownBlock ≠ some g := own_blk_ne ho b5 (by decide)
  have hl : hv.length = d.waits.length := by have := h.hwait.1; rwa [List.length_map] at this
  have hsn : rwc d.waits hv ++ [.int .i64 (k : Int), .slice (some ⟨q, 0, none⟩) 256 cq] = rwc (d.waits ++ [(k, L)]) (hv ++ [.slice (some ⟨q, 0, none⟩) 256 cq]) := (rwc_snoc d.waits hv hl (k, L) (.slice (some ⟨q, 0, none⟩) 256 cq)).symm
  rw [hsn] at ho
  have hBG : ∀ k, B k → ¬ G k := fun k hk hg' => h.gb k hg' hk
  have hnew : ∀ k, V'.ownBlock = some k → (G k ∧ k < w.heap.size) ∨ Z.heap.size ≤ k := fun j hj => by
    rcases hat with e | e
    · exact .inl ⟨h.gv _ (e ▸ hj), h.glt _ (h.gv _ (e ▸ hj))⟩
    · rw [e] at hj; injection hj with hj; exact .inr (by omega)
  have hqG : ¬ G q := fun hg' => by have := h.glt q hg'; omega
  refine ⟨by rw [b5.cell]; rfl, b5.frozen 1, (fun k => G k ∨ V'.ownBlock = some k), (fun k => B k ∨ k = q), ⟨s, cs, V', hs, hv ++ [.slice (some ⟨q, 0, none⟩) 256 cq], ?_⟩, t6.foot_ (fun j hj => ?_), fun j hj => ?_⟩
  · refine ⟨b5.set_ 1 V', ?_, ?_, ?_, ?_, .inl h.gg, .inl h.gs, fun j hj => .inr hj, fun j hj => ?_, fun j hj => ?_, fun j hj hb' => ?_, ⟨⟨h.good.fit.1, fun x hx => ?_⟩, h.good.few, h.good.many, h.good.left⟩⟩
    · have h1 := own_turns hZ.safe (Turns.grown (F := fun k => V.ownBlock = some k) hg (fun k hk => hk)) (fun k hk e => n3 (by simp [Value.ownBlock] at hk; rw [e, ← hk]))
      exact own_turns h1 (turns_own w5 g 1 V') (fun k hk e => n1 (by simp [Value.ownBlock] at hk; omega))
    · exact (hZ.hsafe.turns tz hBG).wide (fun _ h => .inl h)
    · have h1 := own_turns ho (turns_own w5 g 1 V') (fun k hk e => hV'g (by rw [hk, e]))
      simpa using h1
    · rw [show ({ d with waits := d.waits ++ [(k, L)] } : Dk).waits.map (·.2) = d.waits.map (·.2) ++ [L] by simp]
      exact ((hZ.hwait.turns tz hBG).wide (fun _ h => .inl h)).snoc ((hHZ.turns tz (fun k hk hg' => hqG (hk ▸ hg'))).wide (fun _ h => .inr h))
    · rcases hj with h1 | h1
      · exact Nat.lt_of_lt_of_le (h.glt j h1) t6.size
      · exact Nat.lt_of_lt_of_le (own_lt ho h1).1 (by simp [World.setCell])
    · rcases hj with h1 | h1
      · exact Nat.lt_of_lt_of_le (h.blt j h1) t6.size
      · rw [h1]; exact Nat.lt_of_lt_of_le hqz tz.size
    · rcases hj with h1 | h1
      · rcases hb' with h2 | h2
        · exact h.gb j h1 h2
        · exact hqG (h2 ▸ h1)
      · rcases hnew j h1 with h3 | h3
        · rcases hb' with h2 | h2
          · exact h.gb j h3.1 h2
          · exact hqG (h2 ▸ h3.1)
        · rcases hb' with h2 | h2
          · have := h.blt j h2; omega
          · omega
    · rcases List.mem_append.1 hx with h1 | h1
      · exact h.good.fit.2 x h1
      · rw [List.mem_singleton] at h1; subst h1; exact ⟨hk, hH.1⟩
  · rcases hj with h1 | h1
    · exact .inl h1
    · rcases hnew j h1 with h3 | h3
      · exact .inl h3.1
      · exact .inr (by omega)
  · rcases hj with h1 | h1
    · exact .inl h1
    · exact .inr (by omega)
end
set_option maxRecDepth 100000 in
set_option maxHeartbeats 4000000 in
theorem rwrite_in {w : World} {g : Nat} {G B : Nat → Prop} {d : Dk} (h0 : RDisk w g G B d) (k : Nat) (hk : k < d.safe.length) (ho : d.off = false) (hl : d.load ≤ 100000)
    (L : List UInt8) (A : Option Addr) (c : Nat) (hr : RB w w.heap.size A L) (h256 : L.length = 256) :
    Calls Tryz.prog 31 #[.pointer (some ⟨g, 0, none⟩), .int .i64 (k : Int), .slice A 256 c] w fun e w' => e = .returned (.int .i64 (d.write (k : Int) L).2) ∧ RDeeds (d.write (k : Int) L).1 G B w w' g := by
  have n0 := fun w' => Tryz.notTrue w'
  have n1 := fun w' => Tryz.notFalse w'
  have ht : d.there (k : Int) = true := by unfold Dk.there; exact decide_eq_true (by omega)
  have HTh : Hid (Calls Tryz.prog 72 #[.pointer (some ⟨g, 0, none⟩), .int .i64 (k : Int)] w fun e w' => e = .returned (.bool true) ∧ w = w') := by
    have := there_any h0 (k : Int)
    rwa [ht] at this
  obtain ⟨e1, q0, hq⟩ : ∃ e1 q, Dk.deed { d with waits := d.waits ++ [(k, L)] } = (e1, q) := ⟨_, _, rfl⟩
  have HW : Hid (d.write (k : Int) L = Dk.wrote (e1, q0)) := by
    show _ = _
    rw [← hq]; exact Dk.write_yes ho ht h256
  have HFa : Hid (∀ (W : World) (G' B' : Nat → Prop), RDisk W g G' B' { d with waits := d.waits ++ [(k, L)] } → Calls Tryz.prog 73 #[.pointer (some ⟨g, 0, none⟩)] W fun e w' => e = .returned (.bool q0) ∧ RSame e1 G' B' W w' g) := fun W G' B' hp => by
    have := deed_any hp
    rwa [hq] at this
  have HWr : Hid (e1.writes < 1000000) := by
    have e : e1.writes = d.writes := by
      have : (Dk.deed { d with waits := d.waits ++ [(k, L)] }).1.writes = d.writes := by
        unfold Dk.deed
        split
        · rfl
        · split <;> rfl
      rwa [hq] at this
    show e1.writes < 1000000
    unfold Dk.load at hl
    omega
  obtain ⟨i0, hi0, hz0, hz1, hz2⟩ := info_parts Tryz.waitInfo
  obtain ⟨i1, hi1, hy0, hy1, hy2⟩ := info_parts Tryz.info5
  obtain ⟨s, cs, V, hs, hv, h⟩ := h0
  have r3 : w.cell? ⟨g, 3, none⟩ = some (.bool false) := by rw [← ho]; exact h.r3
  have H := Lib.hid h
  have HK := Lib.hid hk
  have H256 := Lib.hid h256
  have u1 : d.waits.length ≤ 100000 := by unfold Dk.load at hl; omega
  have HRd : Hid (∀ W, Below w.heap.size w W → Reads (W.alloc (.cells #[] 5)) w.heap.size 1 A 256 (cells L)) := fun W hb => by
    have h1 : RB W w.heap.size A L := hr.below hb
    have h2 := h1.alloc hb.size (.cells #[] 5)
    unfold RB at h2
    rw [h256] at h2
    exact h2
  clear h hk ho ht hq hl hr h256
  rcases q0 with _ | _
  all_goals
    go_enter Tryz.func31, Tryz.ntmps31
    go_wp2_with (first
      | (go_at_call 72; (with_reducible refine HTh.out.mono ?_); rintro e w1 ⟨rfl, rfl⟩))
    have hbW : Below w.heap.size w w.drew := (Below.refl _ _).drew
    have c1 : w.drew.cell? ⟨g, 1, none⟩ = some V := H.out.r1
    refine region_T (fun W => W.cell? ⟨g, 1, none⟩ = some V) (fun j => decide (12 ≤ j)) (by kernel_rfl) ?_
    generalize w.drew = W at hbW c1 ⊢
    have c1a := rwrite_c1 H.out hbW (.cells #[] 5)
    refine any_asT (a' := ⟨#[.pointer (some ⟨g, 0, none⟩), .int .i64 (k : Int), .slice A 256 c, undef, undef, undef, .int .i64 0, .bool false, .pointer (some ⟨g, 0, none⟩), .pointer (some ⟨g, 0, none⟩), .pointer (some ⟨g, 3, none⟩), .bool false, .bool false, .pointer (some ⟨g, 0, none⟩), .int .i64 (k : Int), .bool true, .bool false, .bool false, .slice A 256 c, .int .i64 256, .bool false, undef, undef, undef, undef, undef, undef, undef, undef, undef, undef, undef, undef, undef, undef, undef, undef, undef, undef, undef, undef, undef, undef, undef, undef, undef, undef], []⟩) (by kernel_rfl) (listed' := #[false, false, false, false, false, false, false, false, false, false, false, false, false, false, false]) (by kernel_rfl) ?_
    refine any_take (i := 0) (.pointer (some ⟨g, 0, none⟩)) rfl (by kernel_rfl) (by kernel_rfl) (by kernel_rfl) rfl (by kernel_rfl) (by kernel_rfl) (fun W hW => by kernel_rfl) c1 (listed' := #[true, false, false, false, false, false, false, false, false, false, false, false, false, false, false]) (a' := ⟨#[.pointer (some ⟨g, 0, none⟩), .int .i64 (k : Int), .slice A 256 c, undef, undef, undef, .int .i64 0, .bool false, .pointer (some ⟨g, 0, none⟩), .pointer (some ⟨g, 0, none⟩), .pointer (some ⟨g, 3, none⟩), .bool false, .bool false, .pointer (some ⟨g, 0, none⟩), .int .i64 (k : Int), .bool true, .bool false, .bool false, .slice A 256 c, .int .i64 256, .bool false, .pointer (some ⟨g, 0, none⟩), undef, undef, undef, undef, undef, undef, undef, undef, undef, undef, undef, undef, undef, undef, undef, undef, undef, undef, undef, undef, undef, undef, undef, undef, undef], []⟩) (by kernel_rfl) (by kernel_rfl) (fun _ _ _ h => h) ?_
    refine any_take (i := 1) (.pointer (some ⟨g, 0, none⟩)) rfl (by kernel_rfl) (by kernel_rfl) (by kernel_rfl) rfl (by kernel_rfl) (by kernel_rfl) (fun W hW => by kernel_rfl) c1 (listed' := #[true, true, false, false, false, false, false, false, false, false, false, false, false, false, false]) (a' := ⟨#[.pointer (some ⟨g, 0, none⟩), .int .i64 (k : Int), .slice A 256 c, undef, undef, undef, .int .i64 0, .bool false, .pointer (some ⟨g, 0, none⟩), .pointer (some ⟨g, 0, none⟩), .pointer (some ⟨g, 3, none⟩), .bool false, .bool false, .pointer (some ⟨g, 0, none⟩), .int .i64 (k : Int), .bool true, .bool false, .bool false, .slice A 256 c, .int .i64 256, .bool false, .pointer (some ⟨g, 0, none⟩), .pointer (some ⟨g, 0, none⟩), undef, undef, undef, undef, undef, undef, undef, undef, undef, undef, undef, undef, undef, undef, undef, undef, undef, undef, undef, undef, undef, undef, undef, undef], []⟩) (by kernel_rfl) (by kernel_rfl) (fun _ _ _ h => h) ?_
    refine any_take (i := 2) (.pointer (some ⟨g, 0, none⟩)) rfl (by kernel_rfl) (by kernel_rfl) (by kernel_rfl) rfl (by kernel_rfl) (by kernel_rfl) (fun W hW => by kernel_rfl) c1 (listed' := #[true, true, true, false, false, false, false, false, false, false, false, false, false, false, false]) (a' := ⟨#[.pointer (some ⟨g, 0, none⟩), .int .i64 (k : Int), .slice A 256 c, undef, undef, undef, .int .i64 0, .bool false, .pointer (some ⟨g, 0, none⟩), .pointer (some ⟨g, 0, none⟩), .pointer (some ⟨g, 3, none⟩), .bool false, .bool false, .pointer (some ⟨g, 0, none⟩), .int .i64 (k : Int), .bool true, .bool false, .bool false, .slice A 256 c, .int .i64 256, .bool false, .pointer (some ⟨g, 0, none⟩), .pointer (some ⟨g, 0, none⟩), .pointer (some ⟨g, 0, none⟩), undef, undef, undef, undef, undef, undef, undef, undef, undef, undef, undef, undef, undef, undef, undef, undef, undef, undef, undef, undef, undef, undef, undef], []⟩) (by kernel_rfl) (by kernel_rfl) (fun _ _ _ h => h) ?_
    refine any_take (i := 3) (.pointer (some ⟨g, 1, none⟩)) rfl (by kernel_rfl) (by kernel_rfl) (by kernel_rfl) rfl (by kernel_rfl) (by kernel_rfl) (fun W hW => by kernel_rfl) c1 (listed' := #[true, true, true, true, false, false, false, false, false, false, false, false, false, false, false]) (a' := ⟨#[.pointer (some ⟨g, 0, none⟩), .int .i64 (k : Int), .slice A 256 c, undef, undef, undef, .int .i64 0, .bool false, .pointer (some ⟨g, 0, none⟩), .pointer (some ⟨g, 0, none⟩), .pointer (some ⟨g, 3, none⟩), .bool false, .bool false, .pointer (some ⟨g, 0, none⟩), .int .i64 (k : Int), .bool true, .bool false, .bool false, .slice A 256 c, .int .i64 256, .bool false, .pointer (some ⟨g, 0, none⟩), .pointer (some ⟨g, 0, none⟩), .pointer (some ⟨g, 0, none⟩), .pointer (some ⟨g, 1, none⟩), undef, undef, undef, undef, undef, undef, undef, undef, undef, undef, undef, undef, undef, undef, undef, undef, undef, undef, undef, undef, undef, undef], []⟩) (by kernel_rfl) (by kernel_rfl) (fun _ _ _ h => h) ?_
    refine any_take (i := 4) (V) rfl (by kernel_rfl) (by kernel_rfl) (by kernel_rfl) rfl (by kernel_rfl) (by kernel_rfl) (fun W hW => cell_run 69 (.tmp 24) ⟨g, 1, none⟩ V _ (by kernel_rfl) (by kernel_rfl) hW Tryz.underlying69 rfl (by kernel_rfl)) c1 (listed' := #[true, true, true, true, true, false, false, false, false, false, false, false, false, false, false]) (a' := ⟨#[.pointer (some ⟨g, 0, none⟩), .int .i64 (k : Int), .slice A 256 c, undef, undef, undef, .int .i64 0, .bool false, .pointer (some ⟨g, 0, none⟩), .pointer (some ⟨g, 0, none⟩), .pointer (some ⟨g, 3, none⟩), .bool false, .bool false, .pointer (some ⟨g, 0, none⟩), .int .i64 (k : Int), .bool true, .bool false, .bool false, .slice A 256 c, .int .i64 256, .bool false, .pointer (some ⟨g, 0, none⟩), .pointer (some ⟨g, 0, none⟩), .pointer (some ⟨g, 0, none⟩), .pointer (some ⟨g, 1, none⟩), V, undef, undef, undef, undef, undef, undef, undef, undef, undef, undef, undef, undef, undef, undef, undef, undef, undef, undef, undef, undef, undef], []⟩) (by kernel_rfl) (by kernel_rfl) (fun _ _ _ h => h) ?_
    refine any_take (i := 5) (.int .i64 (k : Int)) rfl (by kernel_rfl) (by kernel_rfl) (by kernel_rfl) rfl (by kernel_rfl) (by kernel_rfl) (fun W hW => by kernel_rfl) c1 (listed' := #[true, true, true, true, true, true, false, false, false, false, false, false, false, false, false]) (a' := ⟨#[.pointer (some ⟨g, 0, none⟩), .int .i64 (k : Int), .slice A 256 c, undef, undef, undef, .int .i64 0, .bool false, .pointer (some ⟨g, 0, none⟩), .pointer (some ⟨g, 0, none⟩), .pointer (some ⟨g, 3, none⟩), .bool false, .bool false, .pointer (some ⟨g, 0, none⟩), .int .i64 (k : Int), .bool true, .bool false, .bool false, .slice A 256 c, .int .i64 256, .bool false, .pointer (some ⟨g, 0, none⟩), .pointer (some ⟨g, 0, none⟩), .pointer (some ⟨g, 0, none⟩), .pointer (some ⟨g, 1, none⟩), V, .int .i64 (k : Int), undef, undef, undef, undef, undef, undef, undef, undef, undef, undef, undef, undef, undef, undef, undef, undef, undef, undef, undef, undef], []⟩) (by kernel_rfl) (by kernel_rfl) (fun _ _ _ h => h) ?_
    refine any_take (i := 7) (.slice A 256 c) rfl (by kernel_rfl) (by kernel_rfl) (by kernel_rfl) rfl (by kernel_rfl) (by kernel_rfl) (fun W hW => by kernel_rfl) c1 (listed' := #[true, true, true, true, true, true, false, true, false, false, false, false, false, false, false]) (a' := ⟨#[.pointer (some ⟨g, 0, none⟩), .int .i64 (k : Int), .slice A 256 c, undef, undef, undef, .int .i64 0, .bool false, .pointer (some ⟨g, 0, none⟩), .pointer (some ⟨g, 0, none⟩), .pointer (some ⟨g, 3, none⟩), .bool false, .bool false, .pointer (some ⟨g, 0, none⟩), .int .i64 (k : Int), .bool true, .bool false, .bool false, .slice A 256 c, .int .i64 256, .bool false, .pointer (some ⟨g, 0, none⟩), .pointer (some ⟨g, 0, none⟩), .pointer (some ⟨g, 0, none⟩), .pointer (some ⟨g, 1, none⟩), V, .int .i64 (k : Int), undef, .slice A 256 c, undef, undef, undef, undef, undef, undef, undef, undef, undef, undef, undef, undef, undef, undef, undef, undef, undef, undef], []⟩) (by kernel_rfl) (by kernel_rfl) (fun _ _ _ h => h) ?_
    refine any_comes (i := 6) (by kernel_rfl) (op_value (a' := ⟨#[.pointer (some ⟨g, 0, none⟩), .int .i64 (k : Int), .slice A 256 c, undef, undef, undef, .int .i64 0, .bool false, .pointer (some ⟨g, 0, none⟩), .pointer (some ⟨g, 0, none⟩), .pointer (some ⟨g, 3, none⟩), .bool false, .bool false, .pointer (some ⟨g, 0, none⟩), .int .i64 (k : Int), .bool true, .bool false, .bool false, .slice A 256 c, .int .i64 256, .bool false, .pointer (some ⟨g, 0, none⟩), .pointer (some ⟨g, 0, none⟩), .pointer (some ⟨g, 0, none⟩), .pointer (some ⟨g, 1, none⟩), V, .int .i64 (k : Int), .slice (some ⟨W.heap.size, 0, none⟩) 0 0, .slice A 256 c, undef, undef, undef, undef, undef, undef, undef, undef, undef, undef, undef, undef, undef, undef, undef, undef, undef, undef], []⟩) (.slice (some ⟨W.heap.size, 0, none⟩) 0 0) rfl (by kernel_rfl) (by kernel_rfl) (by kernel_rfl) ⟨c1a, ?_⟩)
    refine any_comes (i := 8) (by kernel_rfl) (op_append rfl (by kernel_rfl) (.tmp 27) (.tmp 28) 39 rfl W.heap.size 5 i1 _ 1 1 Tryz.underlying39 hi1 hy0 hy1 hy2 rfl (by omega) (.slice (some ⟨W.heap.size, 0, none⟩) 0 0) 0 [] (by kernel_rfl) (World.ownsRow_made W #[] 0 (Nat.le_refl _) (by decide) rfl) w.heap.size A 256 c (cells L) (by kernel_rfl) (HRd.out W hbW) (cells_one _) (by unfold maxLen; omega) (by omega) (by simp) ?_)
    intro v1 w1 ho1 hg1 hat1
    obtain ⟨q, cq, rfl, hb1, c1b, hH1, hq1, hq2⟩ := rwrite_new H.out hbW H256.out ho1 hg1
    refine ⟨c1b, ?_⟩
    refine any_asT (a' := ⟨#[.pointer (some ⟨g, 0, none⟩), .int .i64 (k : Int), .slice A 256 c, undef, undef, undef, .int .i64 0, .bool false, .pointer (some ⟨g, 0, none⟩), .pointer (some ⟨g, 0, none⟩), .pointer (some ⟨g, 3, none⟩), .bool false, .bool false, .pointer (some ⟨g, 0, none⟩), .int .i64 (k : Int), .bool true, .bool false, .bool false, .slice A 256 c, .int .i64 256, .bool false, .pointer (some ⟨g, 0, none⟩), .pointer (some ⟨g, 0, none⟩), .pointer (some ⟨g, 0, none⟩), .pointer (some ⟨g, 1, none⟩), V, .int .i64 (k : Int), .slice (some ⟨W.heap.size, 0, none⟩) 0 0, .slice A 256 c, .slice (some ⟨q, 0, none⟩) 256 cq, undef, undef, undef, undef, undef, undef, undef, undef, undef, undef, undef, undef, undef, undef, undef, undef, undef], []⟩) (by kernel_rfl) (listed' := #[true, true, true, true, true, true, true, true, true, false, false, false, false, false, false]) (by kernel_rfl) ?_
    refine any_take (i := 9) (.agg #[.int .i64 (k : Int), .slice (some ⟨q, 0, none⟩) 256 cq]) rfl (by kernel_rfl) (by kernel_rfl) (by kernel_rfl) rfl (by kernel_rfl) (by kernel_rfl) (fun W hW => by kernel_rfl) c1b (listed' := #[true, true, true, true, true, true, true, true, true, true, false, false, false, false, false]) (a' := ⟨#[.pointer (some ⟨g, 0, none⟩), .int .i64 (k : Int), .slice A 256 c, undef, undef, undef, .int .i64 0, .bool false, .pointer (some ⟨g, 0, none⟩), .pointer (some ⟨g, 0, none⟩), .pointer (some ⟨g, 3, none⟩), .bool false, .bool false, .pointer (some ⟨g, 0, none⟩), .int .i64 (k : Int), .bool true, .bool false, .bool false, .slice A 256 c, .int .i64 256, .bool false, .pointer (some ⟨g, 0, none⟩), .pointer (some ⟨g, 0, none⟩), .pointer (some ⟨g, 0, none⟩), .pointer (some ⟨g, 1, none⟩), V, .int .i64 (k : Int), .slice (some ⟨W.heap.size, 0, none⟩) 0 0, .slice A 256 c, .slice (some ⟨q, 0, none⟩) 256 cq, .agg #[.int .i64 (k : Int), .slice (some ⟨q, 0, none⟩) 256 cq], undef, undef, undef, undef, undef, undef, undef, undef, undef, undef, undef, undef, undef, undef, undef, undef], []⟩) (by kernel_rfl) (by kernel_rfl) (fun _ _ _ h => h) ?_
    refine any_comes (i := 10) (by kernel_rfl) (op_value (a' := ⟨#[.pointer (some ⟨g, 0, none⟩), .int .i64 (k : Int), .slice A 256 c, undef, undef, undef, .int .i64 0, .bool false, .pointer (some ⟨g, 0, none⟩), .pointer (some ⟨g, 0, none⟩), .pointer (some ⟨g, 3, none⟩), .bool false, .bool false, .pointer (some ⟨g, 0, none⟩), .int .i64 (k : Int), .bool true, .bool false, .bool false, .slice A 256 c, .int .i64 256, .bool false, .pointer (some ⟨g, 0, none⟩), .pointer (some ⟨g, 0, none⟩), .pointer (some ⟨g, 0, none⟩), .pointer (some ⟨g, 1, none⟩), V, .int .i64 (k : Int), .slice (some ⟨W.heap.size, 0, none⟩) 0 0, .slice A 256 c, .slice (some ⟨q, 0, none⟩) 256 cq, .agg #[.int .i64 (k : Int), .slice (some ⟨q, 0, none⟩) 256 cq], .slice (some ⟨w1.heap.size, 0, none⟩) 1 1, undef, undef, undef, undef, undef, undef, undef, undef, undef, undef, undef, undef, undef, undef, undef], []⟩) (.slice (some ⟨w1.heap.size, 0, none⟩) 1 1) rfl (by kernel_rfl) (build_run 69 115 (.tmp 30) (by kernel_rfl) #[.int .i64 (k : Int), .slice (some ⟨q, 0, none⟩) 256 cq] (by kernel_rfl) Tryz.underlying69 2 (by kernel_rfl) (by kernel_rfl) (by omega) (by omega) rfl) (by kernel_rfl) ⟨rwrite_c1 H.out hb1 _, ?_⟩)
    refine any_comes (i := 11) (by kernel_rfl) (op_append rfl (by kernel_rfl) (.tmp 25) (.tmp 31) 69 rfl 0 115 i0 _ 2 32 Tryz.underlying69 hi0 hz0 hz1 hz2 rfl (by omega) V d.waits.length (rwc d.waits hv) (by kernel_rfl) (rwrite_own H.out hb1 _) (w1.heap.size + 1) (some ⟨w1.heap.size, 0, none⟩) 1 1 [.int .i64 (k : Int), .slice (some ⟨q, 0, none⟩) 256 cq] (by kernel_rfl) (pair_new w1 _ _ _) (fun u hu => by simp at hu; rcases hu with rfl | rfl <;> rfl) (by unfold maxLen; omega) (by omega) (Nat.zero_le _) ?_)
    intro V' w5 ho5 hg5 hat5
    obtain ⟨gv, cv, hv5, _⟩ := ho5.form (by omega)
    subst hv5
    obtain ⟨c15, f15, hR5⟩ := rwrite_mid H.out hb1 hH1 hq1 hq2 k HK.out ho5 hg5 hat5
    refine ⟨c15, ?_⟩
    refine any_asT (a' := ⟨#[.pointer (some ⟨g, 0, none⟩), .int .i64 (k : Int), .slice A 256 c, undef, undef, undef, .int .i64 0, .bool false, .pointer (some ⟨g, 0, none⟩), .pointer (some ⟨g, 0, none⟩), .pointer (some ⟨g, 3, none⟩), .bool false, .bool false, .pointer (some ⟨g, 0, none⟩), .int .i64 (k : Int), .bool true, .bool false, .bool false, .slice A 256 c, .int .i64 256, .bool false, .pointer (some ⟨g, 0, none⟩), .pointer (some ⟨g, 0, none⟩), .pointer (some ⟨g, 0, none⟩), .pointer (some ⟨g, 1, none⟩), V, .int .i64 (k : Int), .slice (some ⟨W.heap.size, 0, none⟩) 0 0, .slice A 256 c, .slice (some ⟨q, 0, none⟩) 256 cq, .agg #[.int .i64 (k : Int), .slice (some ⟨q, 0, none⟩) 256 cq], .slice (some ⟨w1.heap.size, 0, none⟩) 1 1, .slice (some ⟨gv, 0, none⟩) (d.waits.length + 1) cv, undef, undef, undef, undef, undef, undef, undef, undef, undef, undef, undef, undef, undef, undef], []⟩) (by kernel_rfl) (listed' := #[true, true, true, true, true, true, true, true, true, true, true, true, false, false, false]) (by kernel_rfl) ?_
    refine any_left (by kernel_rfl) ?_
    refine wpAny_tail 12 (by kernel_rfl) (by kernel_rfl) ?_
    simp only [List.drop_succ_cons, List.drop_zero]
    have HRD := hR5
    clear hR5 hbW c1 c1a hb1 c1b hH1 hq1 hq2 ho1 hg1 hat1 ho5 hg5 hat5 hi0 hz0 hz1 hz2 hi1 hy0 hy1 hy2
    go_wp2_with (first
      | (go_at_call 73; obtain ⟨G', B', hp', ht', hb'⟩ := HRD.out; (with_reducible refine (HFa.out _ _ _ hp').mono ?_); rintro e w8 ⟨rfl, hP8, hT8⟩; obtain ⟨s8, cs8, V8, hs8, hv8, hP8⟩ := hP8; obtain ⟨x, hx⟩ : ∃ x : Int, x = (e1.writes : Int) := ⟨_, rfl⟩; obtain ⟨y, hy⟩ : ∃ y : Int, y = ((e1.writes + 1 : Nat) : Int) := ⟨_, rfl⟩; have ey : IntKind.i64.wrap (x + 1) = y := (by have h1 := IntWalk.i64_in ((e1.writes : Int) + 1) (by have := HWr.out; omega); rw [hx, hy, h1]; omega); have q5 : w8.cell? ⟨g, 5, none⟩ = some (.int .i64 x) := (by rw [hx]; exact hP8.r5); have f5 := hP8.fz 5; have HP8 := Lib.hid hP8; have Hy := Lib.hid hy; have HBs := Lib.hid hb'; have HTs := Lib.hid (ht'.trans hT8); clear hP8 hT8 hp' ht' hb' hx hy))
  · go_ret
    rw [HW.out]
    simp only [Dk.wrote]
    exact ⟨rfl, G', B', ⟨_, _, _, _, _, HP8.out⟩, HTs.out, HBs.out⟩
  · go_ret
    rw [HW.out]
    simp only [Dk.wrote]
    refine ⟨rfl, G', B', ⟨s8, cs8, V8, hs8, hv8, HP8.out.retell (turns_own w8 g 5 _) rfl rfl HP8.out.good.left ?_⟩, HTs.out.trans (Turns.set_ HP8.out.gg 5 _), HBs.out⟩
    have := HP8.out.blk.set_ 5 (.int .i64 y)
    rw [Hy.out] at this ⊢
    exact this
set_option maxRecDepth 100000 in
set_option maxHeartbeats 1000000 in
theorem rwrite_any {w : World} {g : Nat} {G B : Nat → Prop} {d : Dk} (h : RDisk w g G B d) (i : Int) (hl : d.load ≤ 100000) (L : List UInt8) (A : Option Addr) (m c : Nat) (hm : m = L.length) (hr : RB w w.heap.size A L) :
    Calls Tryz.prog 31 #[.pointer (some ⟨g, 0, none⟩), .int .i64 i, .slice A m c] w fun e w' => e = .returned (.int .i64 (d.write i L).2) ∧ RDeeds (d.write i L).1 G B w w' g := by
  have n0 := fun w' => Tryz.notTrue w'
  have n1 := fun w' => Tryz.notFalse w'
  have HTh := Lib.hid (there_any h i)
  have r3 : w.cell? ⟨g, 3, none⟩ = some (.bool d.off) := by obtain ⟨s, cs, V, hs, hv, h⟩ := h; exact h.r3
  have HS : Hid (RDeeds d G B w w g) := ⟨G, B, h, Turns.refl _ _, fun _ h => .inl h⟩
  cases ho : d.off with
  | true =>
    have HV : Hid (d.write i L = (d, 9)) := by show _ = _; unfold Dk.write; rw [if_pos ho]
    rw [ho] at r3
    clear ho hm hr hl h
    go_enter Tryz.func31, Tryz.ntmps31
    go_wp2
    go_ret
    rw [HV.out]
    exact ⟨rfl, HS.out⟩
  | false =>
    rw [ho] at r3
    cases ht : d.there i with
    | false =>
      have HV : Hid (d.write i L = (d, 10)) := by show _ = _; unfold Dk.write; rw [ho, ht]; rfl
      rw [ht] at HTh
      clear ho ht hm hr hl h
      go_enter Tryz.func31, Tryz.ntmps31
      go_wp2_with (go_at_call 72; (with_reducible refine HTh.out.mono ?_); rintro e w1 ⟨rfl, rfl⟩)
      go_ret
      rw [HV.out]
      exact ⟨rfl, HS.out⟩
    | true =>
      by_cases h256 : m = 256
      · subst h256
        obtain ⟨k, rfl, hk⟩ := there_nat ht
        exact rwrite_in h k hk ho hl L A c hr hm.symm
      · have HV : Hid (d.write i L = (d, 11)) := by
          show _ = _; unfold Dk.write; rw [ho, ht]
          simp only [Bool.false_eq_true, Bool.not_true, if_false]
          rw [if_pos (by omega)]
        rw [ht] at HTh
        have d0 : (((m : Int) != 256)) = true := by simp; omega
        have d1 : ((m : Int) == 256) = false := by simp; omega
        clear ho ht hm hr hl h h256
        go_enter Tryz.func31, Tryz.ntmps31
        go_wp2_with (go_at_call 72; (with_reducible refine HTh.out.mono ?_); rintro e w1 ⟨rfl, rfl⟩)
        go_ret
        rw [HV.out]
        exact ⟨rfl, HS.out⟩
end Go.Proofs.YtonnkibcnhjelaaGreatDoor
end
section
set_option linter.unusedVariables false
set_option linter.unusedSimpArgs false
namespace Go.Proofs.YtonnkibcnhjelaaGreatDoor
open Go.RowKit
def PFollow (d : Dk) (p : Pt) (a : Addr) (F : Nat → Prop) (g : Nat) (w : World) (e : Ending) (w' : World) : Prop :=
  ∃ A c A2 c2 k, e = .returned (.tuple #[.slice A (followR d p).1.length c, .slice A2 (followR d p).2.1.length c2, errV a (followR d p).2.2]) ∧ k ≤ 2000 ∧ PDisk w' g F { d with reads := d.reads + k } ∧ Only w w' g ∧
    RB w' w'.heap.size A (followR d p).1 ∧ (∀ ad, A = some ad → w.heap.size ≤ ad.block) ∧ RI w' w'.heap.size A2 (followR d p).2.1 ∧ (∀ ad, A2 = some ad → w.heap.size ≤ ad.block)
theorem PFollow.bad {d : Dk} {p : Pt} {a : Addr} {F : Nat → Prop} {g k : Nat} {w w' : World} {e : Ending} {x : Int} (hR : followR d p = ([], [], x)) (he : e = .returned (.tuple #[.slice none 0 0, .slice none 0 0, errV a x])) (hk : k ≤ 2000) (hP : PDisk w' g F { d with reads := d.reads + k }) (ho : Only w w' g) : PFollow d p a F g w e w' := by
  unfold PFollow
  rw [hR]
  exact ⟨none, 0, none, 0, k, he, hk, hP, ho, RB.none_ _ _, (fun _ e => by cases e), (fun h => absurd h (by simp)), (fun _ e => by cases e)⟩
theorem FR.alloc {B g m q : Nat} {L P : Value} {rows : List (Ce × Option Addr × Nat)} {ps : List Int} {w : World} (h : FR B g L m P q rows ps w) (o : Obj) : FR B g L m P q rows ps (w.alloc o) := h.below ((Below.refl _ _).alloc (Nat.le_refl _) o)
theorem Tryz.errNe (t : TypeId) (v : Value) (w : World) : Sem.run Tryz.prog (binOp .neq 94 (.iface t v) .nilIface) w = .ok (.bool true) w := run_neq_iface_nil w 94 (by kernel_rfl) t v
theorem World.size_alloc_ (w : World) (o : Obj) : (w.alloc o).heap.size = w.heap.size + 1 := by simp
theorem zone10 (z : Int) : ∀ u ∈ [Value.int .i64 z], u.oneCell' = true := fun u hu => by
  rw [List.mem_singleton.1 hu]; rfl
set_option maxRecDepth 100000 in
set_option maxHeartbeats 8000000 in
theorem pfollow_any (p : Pt) (a : Addr) {w : World} {g : Nat} {F : Nat → Prop} {d : Dk} (h : PDisk w g F d) (hl : d.load ≤ 90000) (hmay : p.may d.safe.length = true) (hE : w.cell? ⟨0, 0, none⟩ = some (.iface 200 (.pointer (some a)))) (hg : ¬ F 0) :
    Calls Tryz.prog 49 #[.pointer (some ⟨g, 0, none⟩), ptV p] w (PFollow d p a F g w) := by
  have hgg : g ≠ 0 := fun e => hg (e ▸ h.fg)
  have hlt : 0 < w.heap.size := World.block_lt_of_cell? _ _ hE
  have hgw : g < w.heap.size := h.flt _ h.fg
  have hib : isBlk p.first d.safe.length = true := by rw [may_eq] at hmay; exact (Bool.and_eq_true _ _ ▸ hmay).1
  have hsz : 1 ≤ p.size ∧ p.size ≤ 262144 := by
    rw [may_eq] at hmay
    simp only [Bool.and_eq_true, decide_eq_true_eq] at hmay
    exact hmay.2.1
  obtain ⟨s, hs⟩ : ∃ s : Nat, p.size = (s : Int) := ⟨p.size.toNat, by omega⟩
  obtain ⟨n, hn⟩ : ∃ n, n = needC s := ⟨_, rfl⟩
  have hn2 : n ≤ 1100 := by rw [hn]; show (s + 241) / 242 ≤ 1100; omega
  have HN : Hid (∀ W, Calls Tryz.prog 55 #[.int .i64 (s : Int)] W fun e w' => e = .returned (.int .i64 (n : Int)) ∧ W = w') := fun W => by rw [hn]; exact cneed_any s (by omega) W
  have HRd : Hid (needC p.size.toNat = n) := by show _ = _; rw [hs, Int.toNat_natCast, hn]
  obtain ⟨f, sz, o⟩ := p
  simp only at hs hib
  subst hs
  show Calls Tryz.prog 49 #[.pointer (some ⟨g, 0, none⟩), .agg #[.int .i64 f, .int .i64 (s : Int), .int .i64 o]] w _
  obtain ⟨WA, hWA⟩ : ∃ WA, WA = w.alloc (.cells #[.int .i64 f, .int .i64 (s : Int), .int .i64 o] 35) := ⟨_, rfl⟩
  have hbA : Below w.heap.size w WA := by rw [hWA]; exact (Below.refl _ _).alloc (Nat.le_refl _) _
  have hsA : w.heap.size < WA.heap.size := by rw [hWA]; simp
  have hblk : Blk WA w.heap.size 35 #[.int .i64 f, .int .i64 (s : Int), .int .i64 o] := by rw [hWA]; exact Blk.new w _ _
  have HWA := Lib.hid hWA
  have HBox : Hid (∀ W, Only WA W g → W.cell? ⟨w.heap.size, 0, none⟩ = some (.int .i64 f) ∧ W.cell? ⟨w.heap.size, 1, none⟩ = some (.int .i64 (s : Int)) ∧ W.cell? ⟨w.heap.size, 2, none⟩ = some (.int .i64 o) ∧ W.cell? ⟨0, 0, none⟩ = some (.iface 200 (.pointer (some a)))) := fun W ho => by
    have h0 := hblk.only ho (by omega)
    refine ⟨by rw [h0.cell]; rfl, by rw [h0.cell]; rfl, by rw [h0.cell]; rfl, ?_⟩
    exact ((World.cell?_of_block (ho.block _ (Nat.lt_trans hlt hsA) (fun e => by injection e with e; exact hgg (by first | exact e | exact e.symm)))).trans (hbA.cell (p := ⟨_, 0, none⟩) hlt)).trans hE
  have HSt : Hid (Only w WA g ∧ w.heap.size ≤ WA.heap.size ∧ g < WA.heap.size ∧ (∀ k, F k → k < WA.heap.size) ∧ d.load ≤ 90000 ∧ Only WA WA g) := ⟨only_below hbA g, Nat.le_of_lt hsA, Nat.lt_trans hgw hsA, fun k hk => Nat.lt_trans (h.flt k hk) hsA, hl, only_refl _ _⟩
  have HDA : Hid (PDisk WA g F d) := h.below hbA
  obtain ⟨ic, hic, hcz0, hcz1, hcz2⟩ := info_parts Tryz.cellInfo
  obtain ⟨ii, hii, hiz0, hiz1, hiz2⟩ := info_parts Tryz.infoZ
  have a24 := fun w' => Tryz.aggCell w'
  have s24 := fun w' => Tryz.sizeCell w'
  have nf := fun w' => Tryz.notFalse w'
  have nt := fun w' => Tryz.notTrue w'
  have HG : Hid (¬ F 0) := hg
  have HIb := Lib.hid hib
  obtain ⟨x0, x1, x2, x3⟩ := HBox.out WA HSt.out.2.2.2.2.2
  clear h hl hmay hE hg hgg hlt hgw hsz hn hWA hbA hsA hblk hib
  go_enter Tryz.func49, Tryz.ntmps49
  go_upto_region 1 with (fail)
  rw [← HWA.out]
  go_wp2_with (go_at_call 55; (with_reducible refine (HN.out _).mono ?_); rintro e w9 ⟨rfl, rfl⟩)
  go_loopw [7, 8, 9, 20] (fun lv pv bv x wr => ∃ j : Nat, j ≤ n ∧ x = .int .i64 (j : Int) ∧ ∃ z : Int, bv = .int .i64 z ∧ ∃ (A : Option Addr) (c : Nat) (A2 : Option Addr) (c2 : Nat), lv = .slice A j c ∧ pv = .slice A2 j c2 ∧ ∃ rows ps k, Hid (FR WA.heap.size g (.slice A j c) j (.slice A2 j c2) j rows ps wr) ∧
      Hid (k ≤ j ∧ readCells d o n 0 f = comb (rows.map (·.1)) ps (readCells d o (n - j) j z) ∧ (d.off = true → isBlk z d.safe.length = true) ∧ (∀ x ∈ rows, x.1.may = true) ∧ PDisk wr g F { d with reads := d.reads + k } ∧ Only WA wr g)) (fun _ _ _ x _ => n - (intOf x).toNat)
  case atStart =>
    exact ⟨0, by omega, rfl, f, rfl, none, 0, none, 0, rfl, rfl, [], [], 0, ⟨World.ownsRow_nil _ _ _ _, World.ownsRow_nil _ _ _ _, rfl, rfl, (fun x hx => by cases hx), HSt.out.2.2.1⟩, ⟨by omega, (by rw [Nat.sub_zero]; exact (comb_nil d o n 0 f).symm), (fun _ => HIb.out), (fun x hx => by cases hx), HDA.out, HSt.out.2.2.2.2.2⟩⟩
  case round =>
    obtain ⟨j, hj, rfl, z, rfl, A, c, A2, c2, rfl, rfl, rows, ps, k, HR, HI⟩ := hrel
    obtain ⟨y0, y1, y2, y3⟩ := HBox.out wr HI.out.2.2.2.2.2
    clear x0 x1 x2 x3
    by_cases hlt : j < n
    · have d0 : decide ((j : Int) < (n : Int)) = true := decide_eq_true (by omega)
      have d1 : decide (j < n) = true := decide_eq_true hlt
      have e7 : IntKind.i64.wrap ((j : Int) + 1) = (j : Int) + 1 := IntWalk.i64_in _ (by omega)
      have HL : Hid (Calls Tryz.prog 78 #[.pointer (some ⟨g, 0, none⟩), .int .i64 o, .int .i64 z, .int .i64 (j : Int)] wr (PLink { d with reads := d.reads + k } o z j a F g wr)) :=
        plink_any o z j a HI.out.2.2.2.2.1 (by have h1 := HSt.out.2.2.2.2.1; have h2 := HI.out.1; show d.reads + k + d.writes + d.flushes + d.waits.length ≤ 100000; unfold Dk.load at h1; omega) y3 HG.out
      have hlc : linkC { d with reads := d.reads + k } o z j = linkC d o z j := rfl
      have hnj : n - j = (n - (j + 1)) + 1 := by omega
      have hst := readCells_link (d := d) (o := o) (z := z) (m := n - (j + 1)) (j := j) HI.out.2.2.1
      have heq := HI.out.2.1
      rw [hnj, hst] at heq
      have hkn : k + linkN { d with reads := d.reads + k } z ≤ j + 1 := by have h1 := linkN_le { d with reads := d.reads + k } z; have h2 := HI.out.1; omega
      rcases linkC_err d o z j with h0 | h9 | h13
      ·
        rw [if_neg (by rw [h0]; decide), comb_comb] at heq
        obtain ⟨hoff, hmay1⟩ := linkC_ok h0
        rcases hlk : linkC d o z j with ⟨⟨ow, nu, nx, D⟩, x⟩
        rw [hlk] at heq h0 hmay1
        have hx0 : x = 0 := h0
        subst hx0
        obtain ⟨m, hm⟩ : ∃ m, m = D.length := ⟨_, rfl⟩
        have hm0 : 0 < D.length := by have := (Ce.may_iff _).1 hmay1; exact this.2.2.2.2.2.2.1
        have HL2 : Hid (Calls Tryz.prog 78 #[.pointer (some ⟨g, 0, none⟩), .int .i64 o, .int .i64 z, .int .i64 (j : Int)] wr fun e w' => ∃ A4 c4, e = .returned (.tuple #[.agg #[.int .i64 ow, .int .i64 nu, .int .i64 nx, .slice A4 m c4], .nilIface]) ∧ Hid (RB w' w'.heap.size A4 D) ∧ Hid (∃ k', k' ≤ j + 1 ∧ PDisk w' g F { d with reads := d.reads + k' }) ∧ Hid (Only wr w' g) ∧ Hid (∀ ad, A4 = some ad → wr.heap.size ≤ ad.block ∧ ad.block < w'.heap.size)) := by
          refine HL.out.mono fun e w' hh => ?_
          obtain ⟨A4, c4, he, hr, hp, ho, hn4⟩ := hh
          rw [hlc, hlk] at he hr
          unfold ceV at he
          simp only [← hm] at he
          refine ⟨A4, c4, he, hr, ⟨_, hkn, ?_⟩, ho, fun ad e => ⟨hn4 ad e, ?_⟩⟩
          · have e1 : d.reads + k + linkN { d with reads := d.reads + k } z = d.reads + (k + linkN { d with reads := d.reads + k } z) := by omega
            rw [← e1]; exact hp
          · obtain ⟨ad', e', hb, _⟩ := hr.2 (by show 0 < D.length; exact hm0)
            rw [e] at e'; injection e' with e'; rw [e']; exact hb
        have HQ : Hid (readCells d o n 0 f = comb (rows.map (·.1) ++ [⟨ow, nu, nx, D⟩]) (ps ++ [z]) (readCells d o (n - (j + 1)) (j + 1) nx) ∧ d.off = false ∧ Ce.may ⟨ow, nu, nx, D⟩ = true ∧ m = D.length) := ⟨heq, hoff, hmay1, hm⟩
        clear HL hlc hnj hst heq hkn h0 hoff hmay1 hlk hm hm0
        go_upto_region 10 with (go_at_call 78; (with_reducible refine HL2.out.mono ?_); rintro e w4 ⟨A4, c4, rfl, r4, p4, o4, n4⟩)
        obtain ⟨W5, hW5⟩ : ∃ W, W = w4.alloc (.cells #[.int .i64 ow, .int .i64 nu, .int .i64 nx, .slice A4 m c4] 64) := ⟨_, rfl⟩
        rw [← hW5]
        have hb5 : Below w4.heap.size w4 W5 := by rw [hW5]; exact (Below.refl _ _).alloc (Nat.le_refl _) _
        have k5 : Blk W5 w4.heap.size 64 #[.int .i64 ow, .int .i64 nu, .int .i64 nx, .slice A4 m c4] := by rw [hW5]; exact Blk.new w4 _ _
        have F5 := (HR.out.only o4.out).below hb5
        have hoW : wr.heap.size ≤ w4.heap.size := o4.out.size
        have hs5 : WA.heap.size ≤ W5.heap.size := Nat.le_trans (Nat.le_trans HI.out.2.2.2.2.2.size hoW) hb5.size
        have hs4 : w4.heap.size < W5.heap.size := by rw [hW5]; simp
        have neL : (Value.slice A j c).ownBlock ≠ some w4.heap.size := fun e => by have := (HR.out.ownL.lt _ e).2; omega
        have neP : (Value.slice A2 j c2).ownBlock ≠ some w4.heap.size := fun e => by have := (HR.out.ownP.lt _ e).2; omega
        have hx : ∀ ad, A4 = some ad → WA.heap.size ≤ ad.block ∧ ad.block < (W5.alloc (.cells #[.int .i64 ow, .int .i64 nu, .int .i64 nx, .slice A4 m c4] 64)).heap.size ∧ (Value.slice A j c).ownBlock ≠ some ad.block ∧ (Value.slice A2 j c2).ownBlock ≠ some ad.block := fun ad e => by
          obtain ⟨b1, b2⟩ := n4.out ad e
          refine ⟨Nat.le_trans HI.out.2.2.2.2.2.size b1, by rw [World.size_alloc_]; omega, fun e => ?_, fun e => ?_⟩
          · have := (HR.out.ownL.lt _ e).2; omega
          · have := (HR.out.ownP.lt _ e).2; omega
        have r6 : RB (W5.alloc (.cells #[.int .i64 ow, .int .i64 nu, .int .i64 nx, .slice A4 m c4] 64)) (W5.alloc (.cells #[.int .i64 ow, .int .i64 nu, .int .i64 nx, .slice A4 m c4] 64)).heap.size A4 D := rb_up7 (rb_up7 r4.out hb5) ((Below.refl _ _).alloc (Nat.le_refl _) _)
        have F6 := F5.alloc (.cells #[.int .i64 ow, .int .i64 nu, .int .i64 nx, .slice A4 m c4] 64)
        have HK5 := Lib.hid k5
        have v0 : W5.cell? ⟨w4.heap.size, 0, none⟩ = some (.int .i64 ow) := by rw [k5.cell]; rfl
        have v1 : W5.cell? ⟨w4.heap.size, 1, none⟩ = some (.int .i64 nu) := by rw [k5.cell]; rfl
        have v2 : W5.cell? ⟨w4.heap.size, 2, none⟩ = some (.int .i64 nx) := by rw [k5.cell]; rfl
        have v3 : W5.cell? ⟨w4.heap.size, 3, none⟩ = some (.slice A4 m c4) := by rw [k5.cell]; rfl
        have o5 : Only WA W5 g := only_trans HI.out.2.2.2.2.2 (only_trans o4.out (only_below hb5 g))
        have HO5 := Lib.hid o5
        have HP5 : Hid (∃ k', k' ≤ j + 1 ∧ PDisk W5 g F { d with reads := d.reads + k' }) := by obtain ⟨k', h1, h2⟩ := p4.out; exact ⟨k', h1, h2.below hb5⟩
        have HX := Lib.hid hx
        have HR6 := Lib.hid r6
        have HF6 := Lib.hid F6
        have HNe : Hid ((Value.slice A j c).ownBlock ≠ some w4.heap.size ∧ (Value.slice A2 j c2).ownBlock ≠ some w4.heap.size ∧ WA.heap.size ≤ W5.heap.size ∧ w4.heap.size < W5.heap.size) := ⟨neL, neP, hs5, hs4⟩
        clear hW5 hb5 k5 F5 hoW hs5 hs4 neL neP hx r6 F6 o5 y0 y1 y2 y3 r4 p4 o4 n4
        go_wp2_with (first
          | (at_builtin; refine wpList_append_any _ rfl (.tmp 35) (.tmp 37) 58 rfl WA.heap.size 64 ic _ 4 48 Tryz.underlying58 hic hcz0 hcz1 hcz2 rfl (by omega) (.slice A j c) j (rowE rows) rfl HF6.out.ownL (W5.heap.size + 1) (some ⟨W5.heap.size, 0, none⟩) 1 1 [.int .i64 ow, .int .i64 nu, .int .i64 nx, .slice A4 m c4] rfl (four_src10 W5 _ _ _ _ _) (ceC_one _ _ _ _ _ _) (by simp only [maxLen]; omega) (by omega) (by rw [World.size_alloc_]; have := HNe.out.2.2.1; omega) ?_; intro v7 w7 ho7 hg7 hat7; obtain ⟨A7, c7, rfl⟩ := own_slice7 ho7; have F7 : FR WA.heap.size g (.slice A7 (j + 1) c7) (j + 1) (.slice A2 j c2) j (rows ++ [(⟨ow, nu, nx, D⟩, A4, c4)]) ps w7 := (HF6.out.pushL (⟨ow, nu, nx, D⟩, A4, c4) (by rw [HQ.out.2.2.2] at ho7; exact ho7) hg7 hat7 HR6.out HX.out); have k7 := (HK5.out.alloc (.cells #[.int .i64 ow, .int .i64 nu, .int .i64 nx, .slice A4 m c4] 64)).grown hg7 (fun e => HNe.out.1 e.symm); have HF7 := Lib.hid F7; have HK7 := Lib.hid k7; have HG7 := Lib.hid hg7; clear F7 k7 ho7 hg7 hat7 v0 v1 v2 v3)
          | (at_builtin; refine wpList_append_any _ rfl (.tmp 39) (.tmp 41) 38 rfl WA.heap.size 3 ii _ 1 8 Tryz.underlying38 hii hiz0 hiz1 hiz2 rfl (by omega) (.slice A2 j c2) j (zcells ps) rfl (HF7.out.alloc _).ownP (w7.heap.size + 1) (some ⟨w7.heap.size, 0, none⟩) 1 1 [.int .i64 z] rfl (one_src10 w7 _ _) (zone10 z) (by simp only [maxLen]; omega) (by omega) (by rw [World.size_alloc_]; have h1 := HNe.out.2.2.1; have h2 := HG7.out.size; rw [World.size_alloc_] at h2; omega) ?_; intro v9 w9 ho9 hg9 hat9; obtain ⟨A9, c9, rfl⟩ := own_slice7 ho9; have F9 : FR WA.heap.size g (.slice A7 (j + 1) c7) (j + 1) (.slice A9 (j + 1) c9) (j + 1) (rows ++ [(⟨ow, nu, nx, D⟩, A4, c4)]) (ps ++ [z]) w9 := (HF7.out.alloc _).pushP z ho9 hg9 hat9; have k9 := (HK7.out.alloc (.cells #[.int .i64 z] 3)).grown hg9 (fun e => HNe.out.2.1 e.symm); have v2 : w9.cell? ⟨w4.heap.size, 2, none⟩ = some (.int .i64 nx) := (by rw [k9.cell]; rfl); have HF9 := Lib.hid F9; have HG9 := Lib.hid hg9; clear F9 k9 ho9 hg9 hat9))
        go_roundw
        case rel =>
          obtain ⟨k', hk', hp'⟩ := HP5.out
          have rL : ∀ k, (Value.slice A j c).ownBlock = some k → WA.heap.size ≤ k := fun k hk => (HR.out.ownL.lt k hk).1
          have rP : ∀ k, (Value.slice A2 j c2).ownBlock = some k → WA.heap.size ≤ k := fun k hk => (HR.out.ownP.lt k hk).1
          have hp9 := disk_grown10 ((disk_grown10 (hp'.below ((Below.refl _ _).alloc (Nat.le_refl _) _)) HSt.out.2.2.2.1 HG7.out rL).below ((Below.refl _ _).alloc (Nat.le_refl _) _)) HSt.out.2.2.2.1 HG9.out rP
          have ho9 := only_grown10 (only_alloc (only_grown10 (only_alloc HO5.out _) HG7.out rL) _) HG9.out rP
          refine ⟨j + 1, by omega, by go_num, nx, rfl, A7, c7, A9, c9, rfl, rfl, rows ++ [(⟨ow, nu, nx, D⟩, A4, c4)], ps ++ [z], k', HF9, ⟨hk', ?_, fun e => ?_, fun y hy => ?_, hp9, ho9⟩⟩
          · rw [List.map_append]; exact HQ.out.1
          · rw [HQ.out.2.1] at e; cases e
          · rcases List.mem_append.1 hy with hy | hy
            · exact HI.out.2.2.2.1 y hy
            · rw [List.mem_singleton.1 hy]; exact HQ.out.2.2.1
        case measure => simp [intOf]; omega
      ·
        rw [h9, if_pos (by decide), comb_bad _ _ _ (by decide)] at heq
        have HL2 : Hid (Calls Tryz.prog 78 #[.pointer (some ⟨g, 0, none⟩), .int .i64 o, .int .i64 z, .int .i64 (j : Int)] wr fun e w' => ∃ A4 c4, e = .returned (.tuple #[.agg #[.int .i64 0, .int .i64 0, .int .i64 0, .slice A4 0 c4], .iface 97 (.int .i64 9)]) ∧ Hid (∃ k', k' ≤ j + 1 ∧ PDisk w' g F { d with reads := d.reads + k' }) ∧ Hid (Only wr w' g)) := by
          refine HL.out.mono fun e w' hh => ?_
          obtain ⟨A4, c4, he, hr, hp, ho, hn4⟩ := hh
          rw [hlc, h9] at he
          refine ⟨A4, c4, he, ⟨_, hkn, ?_⟩, ho⟩
          have e1 : d.reads + k + linkN { d with reads := d.reads + k } z = d.reads + (k + linkN { d with reads := d.reads + k } z) := by omega
          rw [← e1]; exact hp
        have HV : Hid (followR d ⟨f, (s : Int), o⟩ = ([], [], 9)) := followR_bad (by rw [HRd.out]; exact heq) (by decide)
        have ne := fun w' => Tryz.errNe 97 (.int .i64 9) w'
        clear HL hlc hnj hst heq hkn h9
        go_wp2_with (go_at_call 78; (with_reducible refine HL2.out.mono ?_); rintro e w4 ⟨A4, c4, rfl, p4, o4⟩)
        refine bodyPost_ret (v := .tuple #[.slice none 0 0, .slice none 0 0, .iface 97 (.int .i64 9)]) (by simp [results, Tryz.results49, go_sem]) rfl ?_
        obtain ⟨k', hk', hp'⟩ := p4.out
        exact PFollow.bad HV.out rfl (by omega) (hp'.below ((Below.refl _ _).alloc (Nat.le_refl _) _)) (only_alloc (only_trans HSt.out.1 (only_trans HI.out.2.2.2.2.2 o4.out)) _)
      ·
        rw [h13, if_pos (by decide), comb_bad _ _ _ (by decide)] at heq
        have HL2 : Hid (Calls Tryz.prog 78 #[.pointer (some ⟨g, 0, none⟩), .int .i64 o, .int .i64 z, .int .i64 (j : Int)] wr fun e w' => ∃ A4 c4, e = .returned (.tuple #[.agg #[.int .i64 0, .int .i64 0, .int .i64 0, .slice A4 0 c4], .iface 200 (.pointer (some a))]) ∧ Hid (∃ k', k' ≤ j + 1 ∧ PDisk w' g F { d with reads := d.reads + k' }) ∧ Hid (Only wr w' g)) := by
          refine HL.out.mono fun e w' hh => ?_
          obtain ⟨A4, c4, he, hr, hp, ho, hn4⟩ := hh
          rw [hlc, h13] at he
          refine ⟨A4, c4, he, ⟨_, hkn, ?_⟩, ho⟩
          have e1 : d.reads + k + linkN { d with reads := d.reads + k } z = d.reads + (k + linkN { d with reads := d.reads + k } z) := by omega
          rw [← e1]; exact hp
        have HV : Hid (followR d ⟨f, (s : Int), o⟩ = ([], [], 13)) := followR_bad (by rw [HRd.out]; exact heq) (by decide)
        have ne := fun w' => Tryz.errNe 200 (.pointer (some a)) w'
        clear HL hlc hnj hst heq hkn h13
        go_wp2_with (go_at_call 78; (with_reducible refine HL2.out.mono ?_); rintro e w4 ⟨A4, c4, rfl, p4, o4⟩)
        refine bodyPost_ret (v := .tuple #[.slice none 0 0, .slice none 0 0, .iface 200 (.pointer (some a))]) (by simp [results, Tryz.results49, go_sem]) rfl ?_
        obtain ⟨k', hk', hp'⟩ := p4.out
        exact PFollow.bad HV.out rfl (by omega) (hp'.below ((Below.refl _ _).alloc (Nat.le_refl _) _)) (only_alloc (only_trans HSt.out.1 (only_trans HI.out.2.2.2.2.2 o4.out)) _)
    · obtain rfl : j = n := by omega
      have d0 : decide ((j : Int) < (j : Int)) = false := decide_eq_false (by omega)
      have d1 : decide (j < j) = false := decide_eq_false (by omega)
      have heq := HI.out.2.1
      rw [Nat.sub_self] at heq
      have heq2 : readCells d o j 0 f = (rows.map (·.1), ps, 0) := by rw [heq]; unfold comb; simp [readCells]
      obtain ⟨cs, hcs⟩ : ∃ cs, cs = rows.map (·.1) := ⟨_, rfl⟩
      have hcl : cs.length = j := by rw [hcs, List.length_map]; exact HR.out.lenR
      have HJ0 : Calls Tryz.prog 79 #[.slice A j c] wr (GivesJN (joinC cs) wr) := by
        have h1 : CL wr wr.heap.size A cs := by rw [hcs]; exact CL.of_own HR.out.ownL HR.out.lenR.symm (fun x hx => (HR.out.dat x hx).1)
        have h2 := cjoin_lies cs A c wr h1 (by omega) (fun x hx => by
          rw [hcs] at hx
          obtain ⟨y, hy, rfl⟩ := List.mem_map.1 hx
          exact HI.out.2.2.2.1 y hy)
        rwa [hcl] at h2
      rw [← hcs] at heq2
      have HQ : Hid (readCells d o (needC (Int.toNat (s : Int))) 0 f = (cs, ps, 0)) := by show _ = _; rw [HRd.out]; exact heq2
      have HOW : Hid (Only w wr g ∧ w.heap.size ≤ wr.heap.size) := ⟨only_trans HSt.out.1 HI.out.2.2.2.2.2, Nat.le_trans HSt.out.2.1 HI.out.2.2.2.2.2.size⟩
      clear hlt heq heq2 hcs hcl
      cases hjc : joinC cs with
      | none =>
        have HV : Hid (followR d ⟨f, (s : Int), o⟩ = ([], [], 13)) := followR_none HQ.out hjc
        have HJ : Hid (Calls Tryz.prog 79 #[.slice A j c] wr fun e w' => ∃ A c, e = .returned (.tuple #[.slice A 0 c, .bool false]) ∧ Below wr.heap.size wr w') := by
          refine HJ0.mono fun e w' hh => ?_
          obtain ⟨A', c', he, _, _, hb⟩ := hh
          rw [hjc] at he
          exact ⟨A', c', he, hb⟩
        clear HJ0 hjc
        go_wp2_with (go_at_call 79; (with_reducible refine HJ.out.mono ?_); rintro e w4 ⟨A4, c4, rfl, hb4⟩; obtain ⟨q0, q1, q2, q3⟩ := HBox.out w4 (only_trans HI.out.2.2.2.2.2 (only_below hb4 g)))
        go_region
        go_wp2
        refine bodyPost_ret (v := .tuple #[.slice none 0 0, .slice none 0 0, .iface 200 (.pointer (some a))]) (by simp [results, Tryz.results49, go_sem]) rfl ?_
        exact PFollow.bad HV.out rfl (by have := HI.out.1; omega) ((HI.out.2.2.2.2.1.below hb4).below (Below.refl _ _).drew) (only_trans HOW.out.1 (only_below hb4.drew g))
      | some t =>
        obtain ⟨tl, htl⟩ : ∃ tl, tl = t.length := ⟨_, rfl⟩
        have HJ : Hid (Calls Tryz.prog 79 #[.slice A j c] wr fun e w' => ∃ A c, e = .returned (.tuple #[.slice A tl c, .bool true]) ∧ Hid (RB w' w'.heap.size A t ∧ (∀ ad, A = some ad → wr.heap.size ≤ ad.block)) ∧ Below wr.heap.size wr w') := by
          refine HJ0.mono fun e w' hh => ?_
          obtain ⟨A', c', he, h1, h2, hb⟩ := hh
          rw [hjc] at he h1
          simp only [Option.getD_some, ← htl] at he h1
          exact ⟨A', c', he, ⟨h1, h2⟩, hb⟩
        by_cases hlen : (tl : Int) = (s : Int)
        · have HV : Hid (followR d ⟨f, (s : Int), o⟩ = (t, ps, 0)) := followR_ok HQ.out hjc (by rw [← htl]; exact hlen)
          have qn : ((tl : Int) != (s : Int)) = false := by simpa using hlen
          have HT := Lib.hid htl
          clear HJ0 hjc hlen htl
          go_wp2_with (go_at_call 79; (with_reducible refine HJ.out.mono ?_); rintro e w4 ⟨A4, c4, rfl, r4, hb4⟩; obtain ⟨q0, q1, q2, q3⟩ := HBox.out w4 (only_trans HI.out.2.2.2.2.2 (only_below hb4 g)))
          refine bodyPost_ret (v := .tuple #[.slice A4 tl c4, .slice A2 j c2, .nilIface]) (by simp [results, Tryz.results49, go_sem]) rfl ?_
          unfold PFollow
          rw [HV.out]
          refine ⟨A4, c4, A2, c2, k, by rw [HT.out, ← HR.out.lenP]; rfl, by have := HI.out.1; omega, HI.out.2.2.2.2.1.below hb4, only_trans HOW.out.1 (only_below hb4 g), r4.out.1, fun ad e => Nat.le_trans HOW.out.2 (r4.out.2 ad e), ?_, fun ad e => ?_⟩
          · exact ri_up (zown_ri HR.out.lenP.symm HR.out.ownP) hb4
          · exact Nat.le_trans HSt.out.2.1 (own_new9 HR.out.ownP ad e)
        · have HV : Hid (followR d ⟨f, (s : Int), o⟩ = ([], [], 13)) := followR_odd HQ.out hjc (by rw [← htl]; exact hlen)
          have qn : ((tl : Int) != (s : Int)) = true := by simpa using hlen
          clear HJ0 hjc hlen htl
          go_wp2_with (go_at_call 79; (with_reducible refine HJ.out.mono ?_); rintro e w4 ⟨A4, c4, rfl, r4, hb4⟩; obtain ⟨q0, q1, q2, q3⟩ := HBox.out w4 (only_trans HI.out.2.2.2.2.2 (only_below hb4 g)))
          go_region
          go_wp2
          refine bodyPost_ret (v := .tuple #[.slice none 0 0, .slice none 0 0, .iface 200 (.pointer (some a))]) (by simp [results, Tryz.results49, go_sem]) rfl ?_
          exact PFollow.bad HV.out rfl (by have := HI.out.1; omega) ((HI.out.2.2.2.2.1.below hb4).below (Below.refl _ _).drew) (only_trans HOW.out.1 (only_below hb4.drew g))
end Go.Proofs.YtonnkibcnhjelaaGreatDoor
end
