/- The walk of the reference's Write (layer 6). -/
import Derived.Test.YthaljnnkpfeooaaDiskRFlush
import Derived.Test.YthaljnnkpfeooaaDiskPWrite
set_option linter.unusedVariables false
namespace Go.Proofs.Ythaljnnkpfeooaa
open Go.RowKit

theorem Try.waitInfo : (Try.prog.info? 88).map (fun i => (i.zero, i.size, i.bytes)) = some (some (.agg #[.int .i64 0, .slice none 0 0]), 2, 32) := by kernel_rfl
theorem pair_new (W : World) (x y : Value) (t : TypeId) : Reads (W.alloc (.cells #[x, y] t)) (W.heap.size + 1) 2 (some ⟨W.heap.size, 0, none⟩) 1 [x, y] := by
  refine ⟨by simp, fun h0 => ⟨_, rfl, by simp, fun j u hu => ?_⟩⟩
  have h := heap_alloc_new W (.cells #[x, y] t)
  have e : (⟨W.heap.size, 0, none⟩ : Addr).add j = ⟨W.heap.size, j, none⟩ := by unfold Addr.add; split <;> simp_all
  rw [e, (blk_cell h j).1]
  simpa using hu
section
variable {w W : World} {g : Nat} {G B : Nat → Prop} {d : Dk} {s cs : Nat} {V : Value} {hs hv : List Value}
theorem RD.under (h : RD w g G B d s cs V hs hv) (hb : Below w.heap.size w W) : RD W g G B d s cs V hs hv := h.turns (Turns.of_below hb (fun _ => False)) (fun _ _ h => h) (fun _ _ h => h)
theorem rwrite_c1 (h : RD w g G B d s cs V hs hv) (hb : Below w.heap.size w W) (o : Obj) : (W.alloc o).cell? ⟨g, 1, none⟩ = some V := (h.under (hb.alloc hb.size o)).r1
theorem rwrite_own (h : RD w g G B d s cs V hs hv) (hb : Below w.heap.size w W) (o : Obj) : (W.alloc o).ownsRow 0 88 2 V d.waits.length (rwc d.waits hv) := (h.under (hb.alloc hb.size o)).wait
/-- The bytes of one's own. -/
theorem rwrite_new (h : RD w g G B d s cs V hs hv) (hb : Below w.heap.size w W) {L : List UInt8} (h256 : L.length = 256) {o : Obj} {v1 : Value} {w1 : World} (ho : w1.ownsRow W.heap.size 5 1 v1 (0 + 256) ([] ++ cells L)) (hg : (W.alloc o).grownBy w1 (Value.slice (some ⟨W.heap.size, 0, none⟩) 0 0).ownBlock) :
    ∃ q cq, v1 = .slice (some ⟨q, 0, none⟩) 256 cq ∧ Below w.heap.size w w1 ∧ w1.cell? ⟨g, 1, none⟩ = some V ∧ Hdr w1 (fun k => k = q) (.slice (some ⟨q, 0, none⟩) 256 cq) L ∧ w.heap.size ≤ q ∧ q < w1.heap.size := by
  simp only [Nat.zero_add, List.nil_append] at ho
  obtain ⟨A3, c3, rfl⟩ := own_form ho
  have hO : Own w1 W.heap.size A3 L c3 := by unfold Own; rw [h256]; exact ho
  obtain ⟨q, rfl, hA, hl1, hl2, hl3⟩ := own_arr hO (by omega)
  have hb1 : Below w.heap.size w w1 := (hb.alloc hb.size o).grown hg (by have := hb.size; simp; omega) (by have := hb.size; simp [Value.ownBlock]; omega)
  exact ⟨q, c3, rfl, hb1, (h.under hb1).r1, ⟨h256, q, 0, c3, rfl, by omega, hl2, rfl, hA.all⟩, by have := hb.size; omega, hA.lt⟩
theorem rwrite_mid (h : RD w g G B d s cs V hs hv) (hb : Below w.heap.size w W) {q cq : Nat} {L : List UInt8} (hH : Hdr W (fun k => k = q) (.slice (some ⟨q, 0, none⟩) 256 cq) L) (hq1 : w.heap.size ≤ q) (hq2 : q < W.heap.size) (k : Nat) (hk : k < d.safe.length)
    {o : Obj} {V' : Value} {w5 : World} (ho : w5.ownsRow 0 88 2 V' (d.waits.length + 1) (rwc d.waits hv ++ [.int .i64 (k : Int), .slice (some ⟨q, 0, none⟩) 256 cq])) (hg : (W.alloc o).grownBy w5 V.ownBlock) (hat : V'.ownBlock = V.ownBlock ∨ V'.ownBlock = some (W.alloc o).heap.size) :
    w5.cell? ⟨g, 1, none⟩ = some V ∧ w5.frozen? ⟨g, 1, none⟩ = false ∧ Hid (RDeeds { d with waits := d.waits ++ [(k, L)] } G B w (w5.setCell ⟨g, 1, none⟩ V') g) := by
  have hZ := h.under (hb.alloc hb.size o)
  have t1 : Turns w (W.alloc o) G G := (Turns.of_below hb G).trans (Turns.alloc o G)
  have hHZ : Hdr (W.alloc o) (fun k => k = q) (.slice (some ⟨q, 0, none⟩) 256 cq) L := hH.turns (Turns.alloc o (fun _ => False)) (fun _ _ h => h)
  have hqz : q < (W.alloc o).heap.size := by simp; omega
  have hwz : w.heap.size ≤ (W.alloc o).heap.size := t1.size
  generalize W.alloc o = Z at hZ t1 hHZ hg hat hqz hwz
  obtain ⟨n1, n2, n3⟩ := hZ.ne
  have hrow : ∀ k, V.ownBlock = some k → G k := h.gv
  have t5 : Turns w w5 G G := t1.trans (Turns.grown hg (fun k hk => hrow k hk))
  have t6 : Turns w (w5.setCell ⟨g, 1, none⟩ V') G G := t5.trans (Turns.set_ h.gg 1 V')
  have tz : Turns Z (w5.setCell ⟨g, 1, none⟩ V') G G := (Turns.grown hg (fun k hk => hrow k hk)).trans (Turns.set_ h.gg 1 V')
  have b5 : Blk w5 g 44 (refCells (.slice (some ⟨s, 0, none⟩) d.safe.length cs) V d) := hZ.blk.grown hg (fun e => n2 e.symm)
  have hV'g : V'.ownBlock ≠ some g := own_blk_ne ho b5 (by decide)
  have hl : hv.length = d.waits.length := by have := h.hwait.1; rwa [List.length_map] at this
  have hsn : rwc d.waits hv ++ [.int .i64 (k : Int), .slice (some ⟨q, 0, none⟩) 256 cq] = rwc (d.waits ++ [(k, L)]) (hv ++ [.slice (some ⟨q, 0, none⟩) 256 cq]) := (rwc_snoc d.waits hv hl (k, L) (.slice (some ⟨q, 0, none⟩) 256 cq)).symm
  rw [hsn] at ho
  have hBG : ∀ k, B k → ¬ G k := fun k hk hg' => h.gb k hg' hk
  have hnew : ∀ k, V'.ownBlock = some k → (G k ∧ k < w.heap.size) ∨ Z.heap.size ≤ k := fun j hj => by
    rcases hat with e | e
    · exact .inl ⟨h.gv _ (e ▸ hj), h.glt _ (h.gv _ (e ▸ hj))⟩
    · rw [e] at hj; injection hj with hj; exact .inr (by omega)
  have hqG : ¬ G q := fun hg' => by have := h.glt q hg'; omega
  refine ⟨by rw [b5.cell]; rfl, b5.frozen 1, (fun k => G k ∨ V'.ownBlock = some k), (fun k => B k ∨ k = q), ⟨s, cs, V', hs, hv ++ [.slice (some ⟨q, 0, none⟩) 256 cq], ?_⟩, t6.foot_ (fun j hj => ?_), fun j hj => ?_⟩
  · refine ⟨b5.set_ 1 V', ?_, ?_, ?_, ?_, .inl h.gg, .inl h.gs, fun j hj => .inr hj, fun j hj => ?_, fun j hj => ?_, fun j hj hb' => ?_, ⟨⟨h.good.fit.1, fun x hx => ?_⟩, h.good.few, h.good.many, h.good.left⟩⟩
    · have h1 := own_turns hZ.safe (Turns.grown (F := fun k => V.ownBlock = some k) hg (fun k hk => hk)) (fun k hk e => n3 (by simp [Value.ownBlock] at hk; rw [e, ← hk]))
      exact own_turns h1 (turns_own w5 g 1 V') (fun k hk e => n1 (by simp [Value.ownBlock] at hk; omega))
    · exact (hZ.hsafe.turns tz hBG).wide (fun _ h => .inl h)
    · have h1 := own_turns ho (turns_own w5 g 1 V') (fun k hk e => hV'g (by rw [hk, e]))
      simpa using h1
    · rw [show ({ d with waits := d.waits ++ [(k, L)] } : Dk).waits.map (·.2) = d.waits.map (·.2) ++ [L] by simp]
      exact ((hZ.hwait.turns tz hBG).wide (fun _ h => .inl h)).snoc ((hHZ.turns tz (fun k hk hg' => hqG (hk ▸ hg'))).wide (fun _ h => .inr h))
    · rcases hj with h1 | h1
      · exact Nat.lt_of_lt_of_le (h.glt j h1) t6.size
      · exact Nat.lt_of_lt_of_le (own_lt ho h1).1 (by simp [World.setCell])
    · rcases hj with h1 | h1
      · exact Nat.lt_of_lt_of_le (h.blt j h1) t6.size
      · rw [h1]; exact Nat.lt_of_lt_of_le hqz tz.size
    · rcases hj with h1 | h1
      · rcases hb' with h2 | h2
        · exact h.gb j h1 h2
        · exact hqG (h2 ▸ h1)
      · rcases hnew j h1 with h3 | h3
        · rcases hb' with h2 | h2
          · exact h.gb j h3.1 h2
          · exact hqG (h2 ▸ h3.1)
        · rcases hb' with h2 | h2
          · have := h.blt j h2; omega
          · omega
    · rcases List.mem_append.1 hx with h1 | h1
      · exact h.good.fit.2 x h1
      · rw [List.mem_singleton] at h1; subst h1; exact ⟨hk, hH.1⟩
  · rcases hj with h1 | h1
    · exact .inl h1
    · rcases hnew j h1 with h3 | h3
      · exact .inl h3.1
      · exact .inr (by omega)
  · rcases hj with h1 | h1
    · exact .inl h1
    · exact .inr (by omega)
end

set_option maxRecDepth 100000 in
set_option maxHeartbeats 4000000 in
theorem rwrite_in {w : World} {g : Nat} {G B : Nat → Prop} {d : Dk} (h0 : RDisk w g G B d) (k : Nat) (hk : k < d.safe.length) (ho : d.off = false) (hl : d.load ≤ 100000)
    (L : List UInt8) (A : Option Addr) (c : Nat) (hr : RB w w.heap.size A L) (h256 : L.length = 256) :
    Calls Try.prog 35 #[.pointer (some ⟨g, 0, none⟩), .int .i64 (k : Int), .slice A 256 c] w fun e w' => e = .returned (.int .i64 (d.write (k : Int) L).2) ∧ RDeeds (d.write (k : Int) L).1 G B w w' g := by
  have n0 := fun w' => Try.notTrue w'
  have n1 := fun w' => Try.notFalse w'
  have ht : d.there (k : Int) = true := by unfold Dk.there; exact decide_eq_true (by omega)
  have HTh : Hid (Calls Try.prog 50 #[.pointer (some ⟨g, 0, none⟩), .int .i64 (k : Int)] w fun e w' => e = .returned (.bool true) ∧ w = w') := by
    have := there_any h0 (k : Int)
    rwa [ht] at this
  obtain ⟨e1, q0, hq⟩ : ∃ e1 q, Dk.deed { d with waits := d.waits ++ [(k, L)] } = (e1, q) := ⟨_, _, rfl⟩
  have HW : Hid (d.write (k : Int) L = Dk.wrote (e1, q0)) := by
    show _ = _
    rw [← hq]; exact Dk.write_yes ho ht h256
  have HFa : Hid (∀ (W : World) (G' B' : Nat → Prop), RDisk W g G' B' { d with waits := d.waits ++ [(k, L)] } → Calls Try.prog 52 #[.pointer (some ⟨g, 0, none⟩)] W fun e w' => e = .returned (.bool q0) ∧ RSame e1 G' B' W w' g) := fun W G' B' hp => by
    have := deed_any hp
    rwa [hq] at this
  have HWr : Hid (e1.writes < 1000000) := by
    have e : e1.writes = d.writes := by
      have : (Dk.deed { d with waits := d.waits ++ [(k, L)] }).1.writes = d.writes := by
        unfold Dk.deed
        split
        · rfl
        · split <;> rfl
      rwa [hq] at this
    show e1.writes < 1000000
    unfold Dk.load at hl
    omega
  obtain ⟨i0, hi0, hz0, hz1, hz2⟩ := info_parts Try.waitInfo
  obtain ⟨i1, hi1, hy0, hy1, hy2⟩ := info_parts Try.info5
  obtain ⟨s, cs, V, hs, hv, h⟩ := h0
  have r3 : w.cell? ⟨g, 3, none⟩ = some (.bool false) := by rw [← ho]; exact h.r3
  have H := Lib.hid h
  have HK := Lib.hid hk
  have H256 := Lib.hid h256
  have u1 : d.waits.length ≤ 100000 := by unfold Dk.load at hl; omega
  have HRd : Hid (∀ W, Below w.heap.size w W → Reads (W.alloc (.cells #[] 5)) w.heap.size 1 A 256 (cells L)) := fun W hb => by
    have h1 : RB W w.heap.size A L := hr.below hb
    have h2 := h1.alloc hb.size (.cells #[] 5)
    unfold RB at h2
    rw [h256] at h2
    exact h2
  clear h hk ho ht hq hl hr h256
  rcases q0 with _ | _
  all_goals
    go_enter Try.func35, Try.ntmps35
    go_wp2_with (first
      | (go_at_call 50; (with_reducible refine HTh.out.mono ?_); rintro e w1 ⟨rfl, rfl⟩))
    have hbW : Below w.heap.size w w.drew := (Below.refl _ _).drew
    have c1 : w.drew.cell? ⟨g, 1, none⟩ = some V := H.out.r1
    refine region_T (fun W => W.cell? ⟨g, 1, none⟩ = some V) (fun j => decide (12 ≤ j)) (by kernel_rfl) ?_
    generalize w.drew = W at hbW c1 ⊢
    have c1a := rwrite_c1 H.out hbW (.cells #[] 5)
    refine any_asT (a' := ⟨#[.pointer (some ⟨g, 0, none⟩), .int .i64 (k : Int), .slice A 256 c, undef, undef, undef, .int .i64 0, .bool false, .pointer (some ⟨g, 0, none⟩), .pointer (some ⟨g, 0, none⟩), .pointer (some ⟨g, 3, none⟩), .bool false, .bool false, .pointer (some ⟨g, 0, none⟩), .int .i64 (k : Int), .bool true, .bool false, .bool false, .slice A 256 c, .int .i64 256, .bool false, undef, undef, undef, undef, undef, undef, undef, undef, undef, undef, undef, undef, undef, undef, undef, undef, undef, undef, undef, undef, undef, undef, undef, undef, undef, undef], []⟩) (by kernel_rfl) (listed' := #[false, false, false, false, false, false, false, false, false, false, false, false, false, false, false]) (by kernel_rfl) ?_
    refine any_take (i := 0) (.pointer (some ⟨g, 0, none⟩)) rfl (by kernel_rfl) (by kernel_rfl) (by kernel_rfl) rfl (by kernel_rfl) (by kernel_rfl) (fun W hW => by kernel_rfl) c1 (listed' := #[true, false, false, false, false, false, false, false, false, false, false, false, false, false, false]) (a' := ⟨#[.pointer (some ⟨g, 0, none⟩), .int .i64 (k : Int), .slice A 256 c, undef, undef, undef, .int .i64 0, .bool false, .pointer (some ⟨g, 0, none⟩), .pointer (some ⟨g, 0, none⟩), .pointer (some ⟨g, 3, none⟩), .bool false, .bool false, .pointer (some ⟨g, 0, none⟩), .int .i64 (k : Int), .bool true, .bool false, .bool false, .slice A 256 c, .int .i64 256, .bool false, .pointer (some ⟨g, 0, none⟩), undef, undef, undef, undef, undef, undef, undef, undef, undef, undef, undef, undef, undef, undef, undef, undef, undef, undef, undef, undef, undef, undef, undef, undef, undef], []⟩) (by kernel_rfl) (by kernel_rfl) (fun _ _ _ h => h) ?_
    refine any_take (i := 1) (.pointer (some ⟨g, 0, none⟩)) rfl (by kernel_rfl) (by kernel_rfl) (by kernel_rfl) rfl (by kernel_rfl) (by kernel_rfl) (fun W hW => by kernel_rfl) c1 (listed' := #[true, true, false, false, false, false, false, false, false, false, false, false, false, false, false]) (a' := ⟨#[.pointer (some ⟨g, 0, none⟩), .int .i64 (k : Int), .slice A 256 c, undef, undef, undef, .int .i64 0, .bool false, .pointer (some ⟨g, 0, none⟩), .pointer (some ⟨g, 0, none⟩), .pointer (some ⟨g, 3, none⟩), .bool false, .bool false, .pointer (some ⟨g, 0, none⟩), .int .i64 (k : Int), .bool true, .bool false, .bool false, .slice A 256 c, .int .i64 256, .bool false, .pointer (some ⟨g, 0, none⟩), .pointer (some ⟨g, 0, none⟩), undef, undef, undef, undef, undef, undef, undef, undef, undef, undef, undef, undef, undef, undef, undef, undef, undef, undef, undef, undef, undef, undef, undef, undef], []⟩) (by kernel_rfl) (by kernel_rfl) (fun _ _ _ h => h) ?_
    refine any_take (i := 2) (.pointer (some ⟨g, 0, none⟩)) rfl (by kernel_rfl) (by kernel_rfl) (by kernel_rfl) rfl (by kernel_rfl) (by kernel_rfl) (fun W hW => by kernel_rfl) c1 (listed' := #[true, true, true, false, false, false, false, false, false, false, false, false, false, false, false]) (a' := ⟨#[.pointer (some ⟨g, 0, none⟩), .int .i64 (k : Int), .slice A 256 c, undef, undef, undef, .int .i64 0, .bool false, .pointer (some ⟨g, 0, none⟩), .pointer (some ⟨g, 0, none⟩), .pointer (some ⟨g, 3, none⟩), .bool false, .bool false, .pointer (some ⟨g, 0, none⟩), .int .i64 (k : Int), .bool true, .bool false, .bool false, .slice A 256 c, .int .i64 256, .bool false, .pointer (some ⟨g, 0, none⟩), .pointer (some ⟨g, 0, none⟩), .pointer (some ⟨g, 0, none⟩), undef, undef, undef, undef, undef, undef, undef, undef, undef, undef, undef, undef, undef, undef, undef, undef, undef, undef, undef, undef, undef, undef, undef], []⟩) (by kernel_rfl) (by kernel_rfl) (fun _ _ _ h => h) ?_
    refine any_take (i := 3) (.pointer (some ⟨g, 1, none⟩)) rfl (by kernel_rfl) (by kernel_rfl) (by kernel_rfl) rfl (by kernel_rfl) (by kernel_rfl) (fun W hW => by kernel_rfl) c1 (listed' := #[true, true, true, true, false, false, false, false, false, false, false, false, false, false, false]) (a' := ⟨#[.pointer (some ⟨g, 0, none⟩), .int .i64 (k : Int), .slice A 256 c, undef, undef, undef, .int .i64 0, .bool false, .pointer (some ⟨g, 0, none⟩), .pointer (some ⟨g, 0, none⟩), .pointer (some ⟨g, 3, none⟩), .bool false, .bool false, .pointer (some ⟨g, 0, none⟩), .int .i64 (k : Int), .bool true, .bool false, .bool false, .slice A 256 c, .int .i64 256, .bool false, .pointer (some ⟨g, 0, none⟩), .pointer (some ⟨g, 0, none⟩), .pointer (some ⟨g, 0, none⟩), .pointer (some ⟨g, 1, none⟩), undef, undef, undef, undef, undef, undef, undef, undef, undef, undef, undef, undef, undef, undef, undef, undef, undef, undef, undef, undef, undef, undef], []⟩) (by kernel_rfl) (by kernel_rfl) (fun _ _ _ h => h) ?_
    refine any_take (i := 4) (V) rfl (by kernel_rfl) (by kernel_rfl) (by kernel_rfl) rfl (by kernel_rfl) (by kernel_rfl) (fun W hW => cell_run 42 (.tmp 24) ⟨g, 1, none⟩ V _ (by kernel_rfl) (by kernel_rfl) hW Try.underlying42 rfl (by kernel_rfl)) c1 (listed' := #[true, true, true, true, true, false, false, false, false, false, false, false, false, false, false]) (a' := ⟨#[.pointer (some ⟨g, 0, none⟩), .int .i64 (k : Int), .slice A 256 c, undef, undef, undef, .int .i64 0, .bool false, .pointer (some ⟨g, 0, none⟩), .pointer (some ⟨g, 0, none⟩), .pointer (some ⟨g, 3, none⟩), .bool false, .bool false, .pointer (some ⟨g, 0, none⟩), .int .i64 (k : Int), .bool true, .bool false, .bool false, .slice A 256 c, .int .i64 256, .bool false, .pointer (some ⟨g, 0, none⟩), .pointer (some ⟨g, 0, none⟩), .pointer (some ⟨g, 0, none⟩), .pointer (some ⟨g, 1, none⟩), V, undef, undef, undef, undef, undef, undef, undef, undef, undef, undef, undef, undef, undef, undef, undef, undef, undef, undef, undef, undef, undef], []⟩) (by kernel_rfl) (by kernel_rfl) (fun _ _ _ h => h) ?_
    refine any_take (i := 5) (.int .i64 (k : Int)) rfl (by kernel_rfl) (by kernel_rfl) (by kernel_rfl) rfl (by kernel_rfl) (by kernel_rfl) (fun W hW => by kernel_rfl) c1 (listed' := #[true, true, true, true, true, true, false, false, false, false, false, false, false, false, false]) (a' := ⟨#[.pointer (some ⟨g, 0, none⟩), .int .i64 (k : Int), .slice A 256 c, undef, undef, undef, .int .i64 0, .bool false, .pointer (some ⟨g, 0, none⟩), .pointer (some ⟨g, 0, none⟩), .pointer (some ⟨g, 3, none⟩), .bool false, .bool false, .pointer (some ⟨g, 0, none⟩), .int .i64 (k : Int), .bool true, .bool false, .bool false, .slice A 256 c, .int .i64 256, .bool false, .pointer (some ⟨g, 0, none⟩), .pointer (some ⟨g, 0, none⟩), .pointer (some ⟨g, 0, none⟩), .pointer (some ⟨g, 1, none⟩), V, .int .i64 (k : Int), undef, undef, undef, undef, undef, undef, undef, undef, undef, undef, undef, undef, undef, undef, undef, undef, undef, undef, undef, undef], []⟩) (by kernel_rfl) (by kernel_rfl) (fun _ _ _ h => h) ?_
    refine any_take (i := 7) (.slice A 256 c) rfl (by kernel_rfl) (by kernel_rfl) (by kernel_rfl) rfl (by kernel_rfl) (by kernel_rfl) (fun W hW => by kernel_rfl) c1 (listed' := #[true, true, true, true, true, true, false, true, false, false, false, false, false, false, false]) (a' := ⟨#[.pointer (some ⟨g, 0, none⟩), .int .i64 (k : Int), .slice A 256 c, undef, undef, undef, .int .i64 0, .bool false, .pointer (some ⟨g, 0, none⟩), .pointer (some ⟨g, 0, none⟩), .pointer (some ⟨g, 3, none⟩), .bool false, .bool false, .pointer (some ⟨g, 0, none⟩), .int .i64 (k : Int), .bool true, .bool false, .bool false, .slice A 256 c, .int .i64 256, .bool false, .pointer (some ⟨g, 0, none⟩), .pointer (some ⟨g, 0, none⟩), .pointer (some ⟨g, 0, none⟩), .pointer (some ⟨g, 1, none⟩), V, .int .i64 (k : Int), undef, .slice A 256 c, undef, undef, undef, undef, undef, undef, undef, undef, undef, undef, undef, undef, undef, undef, undef, undef, undef, undef], []⟩) (by kernel_rfl) (by kernel_rfl) (fun _ _ _ h => h) ?_
    refine any_comes (i := 6) (by kernel_rfl) (op_value (a' := ⟨#[.pointer (some ⟨g, 0, none⟩), .int .i64 (k : Int), .slice A 256 c, undef, undef, undef, .int .i64 0, .bool false, .pointer (some ⟨g, 0, none⟩), .pointer (some ⟨g, 0, none⟩), .pointer (some ⟨g, 3, none⟩), .bool false, .bool false, .pointer (some ⟨g, 0, none⟩), .int .i64 (k : Int), .bool true, .bool false, .bool false, .slice A 256 c, .int .i64 256, .bool false, .pointer (some ⟨g, 0, none⟩), .pointer (some ⟨g, 0, none⟩), .pointer (some ⟨g, 0, none⟩), .pointer (some ⟨g, 1, none⟩), V, .int .i64 (k : Int), .slice (some ⟨W.heap.size, 0, none⟩) 0 0, .slice A 256 c, undef, undef, undef, undef, undef, undef, undef, undef, undef, undef, undef, undef, undef, undef, undef, undef, undef, undef], []⟩) (.slice (some ⟨W.heap.size, 0, none⟩) 0 0) rfl (by kernel_rfl) (by kernel_rfl) (by kernel_rfl) ⟨c1a, ?_⟩)
    refine any_comes (i := 8) (by kernel_rfl) (op_append rfl (by kernel_rfl) (.tmp 27) (.tmp 28) 33 rfl W.heap.size 5 i1 _ 1 1 Try.underlying33 hi1 hy0 hy1 hy2 rfl (by omega) (.slice (some ⟨W.heap.size, 0, none⟩) 0 0) 0 [] (by kernel_rfl) (World.ownsRow_made W #[] 0 (Nat.le_refl _) (by decide) rfl) w.heap.size A 256 c (cells L) (by kernel_rfl) (HRd.out W hbW) (cells_one _) (by unfold maxLen; omega) (by omega) (by simp) ?_)
    intro v1 w1 ho1 hg1 hat1
    obtain ⟨q, cq, rfl, hb1, c1b, hH1, hq1, hq2⟩ := rwrite_new H.out hbW H256.out ho1 hg1
    refine ⟨c1b, ?_⟩
    refine any_asT (a' := ⟨#[.pointer (some ⟨g, 0, none⟩), .int .i64 (k : Int), .slice A 256 c, undef, undef, undef, .int .i64 0, .bool false, .pointer (some ⟨g, 0, none⟩), .pointer (some ⟨g, 0, none⟩), .pointer (some ⟨g, 3, none⟩), .bool false, .bool false, .pointer (some ⟨g, 0, none⟩), .int .i64 (k : Int), .bool true, .bool false, .bool false, .slice A 256 c, .int .i64 256, .bool false, .pointer (some ⟨g, 0, none⟩), .pointer (some ⟨g, 0, none⟩), .pointer (some ⟨g, 0, none⟩), .pointer (some ⟨g, 1, none⟩), V, .int .i64 (k : Int), .slice (some ⟨W.heap.size, 0, none⟩) 0 0, .slice A 256 c, .slice (some ⟨q, 0, none⟩) 256 cq, undef, undef, undef, undef, undef, undef, undef, undef, undef, undef, undef, undef, undef, undef, undef, undef, undef], []⟩) (by kernel_rfl) (listed' := #[true, true, true, true, true, true, true, true, true, false, false, false, false, false, false]) (by kernel_rfl) ?_
    refine any_take (i := 9) (.agg #[.int .i64 (k : Int), .slice (some ⟨q, 0, none⟩) 256 cq]) rfl (by kernel_rfl) (by kernel_rfl) (by kernel_rfl) rfl (by kernel_rfl) (by kernel_rfl) (fun W hW => by kernel_rfl) c1b (listed' := #[true, true, true, true, true, true, true, true, true, true, false, false, false, false, false]) (a' := ⟨#[.pointer (some ⟨g, 0, none⟩), .int .i64 (k : Int), .slice A 256 c, undef, undef, undef, .int .i64 0, .bool false, .pointer (some ⟨g, 0, none⟩), .pointer (some ⟨g, 0, none⟩), .pointer (some ⟨g, 3, none⟩), .bool false, .bool false, .pointer (some ⟨g, 0, none⟩), .int .i64 (k : Int), .bool true, .bool false, .bool false, .slice A 256 c, .int .i64 256, .bool false, .pointer (some ⟨g, 0, none⟩), .pointer (some ⟨g, 0, none⟩), .pointer (some ⟨g, 0, none⟩), .pointer (some ⟨g, 1, none⟩), V, .int .i64 (k : Int), .slice (some ⟨W.heap.size, 0, none⟩) 0 0, .slice A 256 c, .slice (some ⟨q, 0, none⟩) 256 cq, .agg #[.int .i64 (k : Int), .slice (some ⟨q, 0, none⟩) 256 cq], undef, undef, undef, undef, undef, undef, undef, undef, undef, undef, undef, undef, undef, undef, undef, undef], []⟩) (by kernel_rfl) (by kernel_rfl) (fun _ _ _ h => h) ?_
    refine any_comes (i := 10) (by kernel_rfl) (op_value (a' := ⟨#[.pointer (some ⟨g, 0, none⟩), .int .i64 (k : Int), .slice A 256 c, undef, undef, undef, .int .i64 0, .bool false, .pointer (some ⟨g, 0, none⟩), .pointer (some ⟨g, 0, none⟩), .pointer (some ⟨g, 3, none⟩), .bool false, .bool false, .pointer (some ⟨g, 0, none⟩), .int .i64 (k : Int), .bool true, .bool false, .bool false, .slice A 256 c, .int .i64 256, .bool false, .pointer (some ⟨g, 0, none⟩), .pointer (some ⟨g, 0, none⟩), .pointer (some ⟨g, 0, none⟩), .pointer (some ⟨g, 1, none⟩), V, .int .i64 (k : Int), .slice (some ⟨W.heap.size, 0, none⟩) 0 0, .slice A 256 c, .slice (some ⟨q, 0, none⟩) 256 cq, .agg #[.int .i64 (k : Int), .slice (some ⟨q, 0, none⟩) 256 cq], .slice (some ⟨w1.heap.size, 0, none⟩) 1 1, undef, undef, undef, undef, undef, undef, undef, undef, undef, undef, undef, undef, undef, undef, undef], []⟩) (.slice (some ⟨w1.heap.size, 0, none⟩) 1 1) rfl (by kernel_rfl) (build_run 42 88 (.tmp 30) (by kernel_rfl) #[.int .i64 (k : Int), .slice (some ⟨q, 0, none⟩) 256 cq] (by kernel_rfl) Try.underlying42 2 (by kernel_rfl) (by kernel_rfl) (by omega) (by omega) rfl) (by kernel_rfl) ⟨rwrite_c1 H.out hb1 _, ?_⟩)
    refine any_comes (i := 11) (by kernel_rfl) (op_append rfl (by kernel_rfl) (.tmp 25) (.tmp 31) 42 rfl 0 88 i0 _ 2 32 Try.underlying42 hi0 hz0 hz1 hz2 rfl (by omega) V d.waits.length (rwc d.waits hv) (by kernel_rfl) (rwrite_own H.out hb1 _) (w1.heap.size + 1) (some ⟨w1.heap.size, 0, none⟩) 1 1 [.int .i64 (k : Int), .slice (some ⟨q, 0, none⟩) 256 cq] (by kernel_rfl) (pair_new w1 _ _ _) (fun u hu => by simp at hu; rcases hu with rfl | rfl <;> rfl) (by unfold maxLen; omega) (by omega) (Nat.zero_le _) ?_)
    intro V' w5 ho5 hg5 hat5
    obtain ⟨gv, cv, hv5, _⟩ := ho5.form (by omega)
    subst hv5
    obtain ⟨c15, f15, hR5⟩ := rwrite_mid H.out hb1 hH1 hq1 hq2 k HK.out ho5 hg5 hat5
    refine ⟨c15, ?_⟩
    refine any_asT (a' := ⟨#[.pointer (some ⟨g, 0, none⟩), .int .i64 (k : Int), .slice A 256 c, undef, undef, undef, .int .i64 0, .bool false, .pointer (some ⟨g, 0, none⟩), .pointer (some ⟨g, 0, none⟩), .pointer (some ⟨g, 3, none⟩), .bool false, .bool false, .pointer (some ⟨g, 0, none⟩), .int .i64 (k : Int), .bool true, .bool false, .bool false, .slice A 256 c, .int .i64 256, .bool false, .pointer (some ⟨g, 0, none⟩), .pointer (some ⟨g, 0, none⟩), .pointer (some ⟨g, 0, none⟩), .pointer (some ⟨g, 1, none⟩), V, .int .i64 (k : Int), .slice (some ⟨W.heap.size, 0, none⟩) 0 0, .slice A 256 c, .slice (some ⟨q, 0, none⟩) 256 cq, .agg #[.int .i64 (k : Int), .slice (some ⟨q, 0, none⟩) 256 cq], .slice (some ⟨w1.heap.size, 0, none⟩) 1 1, .slice (some ⟨gv, 0, none⟩) (d.waits.length + 1) cv, undef, undef, undef, undef, undef, undef, undef, undef, undef, undef, undef, undef, undef, undef], []⟩) (by kernel_rfl) (listed' := #[true, true, true, true, true, true, true, true, true, true, true, true, false, false, false]) (by kernel_rfl) ?_
    refine any_left (by kernel_rfl) ?_
    refine wpAny_tail 12 (by kernel_rfl) (by kernel_rfl) ?_
    simp only [List.drop_succ_cons, List.drop_zero]
    have HRD := hR5
    clear hR5 hbW c1 c1a hb1 c1b hH1 hq1 hq2 ho1 hg1 hat1 ho5 hg5 hat5 hi0 hz0 hz1 hz2 hi1 hy0 hy1 hy2
    go_wp2_with (first
      | (go_at_call 52; obtain ⟨G', B', hp', ht', hb'⟩ := HRD.out; (with_reducible refine (HFa.out _ _ _ hp').mono ?_); rintro e w8 ⟨rfl, hP8, hT8⟩; obtain ⟨s8, cs8, V8, hs8, hv8, hP8⟩ := hP8; obtain ⟨x, hx⟩ : ∃ x : Int, x = (e1.writes : Int) := ⟨_, rfl⟩; obtain ⟨y, hy⟩ : ∃ y : Int, y = ((e1.writes + 1 : Nat) : Int) := ⟨_, rfl⟩; have ey : IntKind.i64.wrap (x + 1) = y := (by have h1 := IntWalk.i64_in ((e1.writes : Int) + 1) (by have := HWr.out; omega); rw [hx, hy, h1]; omega); have q5 : w8.cell? ⟨g, 5, none⟩ = some (.int .i64 x) := (by rw [hx]; exact hP8.r5); have f5 := hP8.fz 5; have HP8 := Lib.hid hP8; have Hy := Lib.hid hy; have HBs := Lib.hid hb'; have HTs := Lib.hid (ht'.trans hT8); clear hP8 hT8 hp' ht' hb' hx hy))
  · go_ret
    rw [HW.out]
    simp only [Dk.wrote]
    exact ⟨rfl, G', B', ⟨_, _, _, _, _, HP8.out⟩, HTs.out, HBs.out⟩
  · go_ret
    rw [HW.out]
    simp only [Dk.wrote]
    refine ⟨rfl, G', B', ⟨s8, cs8, V8, hs8, hv8, HP8.out.retell (turns_own w8 g 5 _) rfl rfl HP8.out.good.left ?_⟩, HTs.out.trans (Turns.set_ HP8.out.gg 5 _), HBs.out⟩
    have := HP8.out.blk.set_ 5 (.int .i64 y)
    rw [Hy.out] at this ⊢
    exact this

set_option maxRecDepth 100000 in
set_option maxHeartbeats 1000000 in
theorem rwrite_any {w : World} {g : Nat} {G B : Nat → Prop} {d : Dk} (h : RDisk w g G B d) (i : Int) (hl : d.load ≤ 100000) (L : List UInt8) (A : Option Addr) (m c : Nat) (hm : m = L.length) (hr : RB w w.heap.size A L) :
    Calls Try.prog 35 #[.pointer (some ⟨g, 0, none⟩), .int .i64 i, .slice A m c] w fun e w' => e = .returned (.int .i64 (d.write i L).2) ∧ RDeeds (d.write i L).1 G B w w' g := by
  have n0 := fun w' => Try.notTrue w'
  have n1 := fun w' => Try.notFalse w'
  have HTh := Lib.hid (there_any h i)
  have r3 : w.cell? ⟨g, 3, none⟩ = some (.bool d.off) := by obtain ⟨s, cs, V, hs, hv, h⟩ := h; exact h.r3
  have HS : Hid (RDeeds d G B w w g) := ⟨G, B, h, Turns.refl _ _, fun _ h => .inl h⟩
  cases ho : d.off with
  | true =>
    have HV : Hid (d.write i L = (d, 9)) := by show _ = _; unfold Dk.write; rw [if_pos ho]
    rw [ho] at r3
    clear ho hm hr hl h
    go_enter Try.func35, Try.ntmps35
    go_wp2
    go_ret
    rw [HV.out]
    exact ⟨rfl, HS.out⟩
  | false =>
    rw [ho] at r3
    cases ht : d.there i with
    | false =>
      have HV : Hid (d.write i L = (d, 10)) := by show _ = _; unfold Dk.write; rw [ho, ht]; rfl
      rw [ht] at HTh
      clear ho ht hm hr hl h
      go_enter Try.func35, Try.ntmps35
      go_wp2_with (go_at_call 50; (with_reducible refine HTh.out.mono ?_); rintro e w1 ⟨rfl, rfl⟩)
      go_ret
      rw [HV.out]
      exact ⟨rfl, HS.out⟩
    | true =>
      by_cases h256 : m = 256
      · subst h256
        obtain ⟨k, rfl, hk⟩ := there_nat ht
        exact rwrite_in h k hk ho hl L A c hr hm.symm
      · have HV : Hid (d.write i L = (d, 11)) := by
          show _ = _; unfold Dk.write; rw [ho, ht]
          simp only [Bool.false_eq_true, Bool.not_true, if_false]
          rw [if_pos (by omega)]
        rw [ht] at HTh
        have d0 : (((m : Int) != 256)) = true := by simp; omega
        have d1 : ((m : Int) == 256) = false := by simp; omega
        clear ho ht hm hr hl h h256
        go_enter Try.func35, Try.ntmps35
        go_wp2_with (go_at_call 50; (with_reducible refine HTh.out.mono ?_); rintro e w1 ⟨rfl, rfl⟩)
        go_ret
        rw [HV.out]
        exact ⟨rfl, HS.out⟩

end Go.Proofs.Ythaljnnkpfeooaa
