/- The walk of layer 6's awake. -/
import Derived.Test.YthaljnnkpfeooaaDiskAwM
import Derived.Test.YthaljnnkpfeooaaDiskHas
set_option linter.unusedVariables false
namespace Go.Proofs.Ythaljnnkpfeooaa
open Go.RowKit

theorem Try.statEq (W : World) : Sem.run Try.prog (binOp .eql 39 (.agg #[.int .i64 1, .int .i64 1, .int .i64 0]) (.agg #[.int .i64 1, .int .i64 1, .int .i64 0])) W = .ok (.bool true) W := by
  first | kernel_rfl | simp [go_sem]
theorem Try.statBuilt (W : World) : Sem.run Try.prog (Instr.build 39 #[(0, .int .i64 1), (1, .int .i64 1)]) W = .ok (.agg #[.int .i64 1, .int .i64 1, .int .i64 0]) W := by
  first | kernel_rfl | simp [go_sem]
/-- One byte of a slice. -/
theorem rb_byte {w : World} {B : Nat} {A : Option Addr} {L : List UInt8} (h : RB w B A L) (k : Nat) (hk : k < L.length) : ∃ b off, A = some ⟨b, off, none⟩ ∧ w.cell? ⟨b, off + k, none⟩ = some (.int .u8 ((L.getD k 9).toNat : Int)) := by
  obtain ⟨b, off, e, _, hc⟩ := h.at_ (by omega)
  exact ⟨b, off, e, by rw [hc k hk]; simp [List.getD, hk]⟩

theorem two_below {w w' : World} {o : Obj} (h : Below (w.alloc o).heap.size (w.alloc o) w') : Below w.heap.size w w' := ((Below.refl _ _).alloc (Nat.le_refl _) o).trans (h.mono (by simp))
set_option maxRecDepth 100000 in
set_option maxHeartbeats 4000000 in
theorem awake6_any (w : World) : Calls Try.prog 9 #[] w fun e w' => e = .returned (.bool true) ∧ Below w.heap.size w w' := by
  obtain ⟨i0, hi0, hz0, hz1, hz2⟩ := info_parts Try.info5
  have hby : i0.bytes = 1 := hz2
  have HB : Hid (Calls Try.prog 10 #[.int .i64 16] w fun e w' => ∃ g F, e = .returned (.tuple #[.pointer (some ⟨g, 0, none⟩), .int .i64 0]) ∧ GivesDisk Aw.d0 w w' g F) := blank_any 16 w (by omega) (by omega)
  have HB2 := Lib.hid (fun W => blank_bad 15 W (by omega))
  have HL := Lib.hid (fun (W : World) (A : Option Addr) => load_bad (List.replicate 257 0) A 257 257 W (by simp) (by omega) (by unfold Dk.mayL; simp))
  have HBk7 : Hid (∀ W : World, Calls Try.prog 24 #[.slice (some ⟨W.heap.size, 0, none⟩) 1 1] (W.alloc (.cells #[.int .u8 7] 5)) fun e w' => ∃ g, e = .returned (.slice (some ⟨g, 0, none⟩) 256 256) ∧ (W.alloc (.cells #[.int .u8 7] 5)).heap.size ≤ g ∧ Blk w' g 5 (cells Aw.B7).toArray ∧ Below (W.alloc (.cells #[.int .u8 7] 5)).heap.size (W.alloc (.cells #[.int .u8 7] 5)) w') := fun W =>
    block_any [7] (some ⟨W.heap.size, 0, none⟩) 1 1 _ ((rb_new W [7]).more (by simp)) rfl (by simp)
  have HW1 : Hid (∀ (W : World) (g A : Nat) (F : Nat → Prop), PDisk W g F Aw.d0 → RB W W.heap.size (some ⟨A, 0, none⟩) Aw.B7 → (∀ ad, (some ⟨A, 0, none⟩ : Option Addr) = some ad → ¬ F ad.block) → Calls Try.prog 23 #[.pointer (some ⟨g, 0, none⟩), .int .i64 3, .slice (some ⟨A, 0, none⟩) 256 256] W fun e w' => ∃ F', e = .returned (.int .i64 0) ∧ PDisk w' g F' Aw.d1 ∧ Turns W w' F F') := fun W g A F hp hr hA => by
    have := write_any hp 3 Aw.l0 Aw.B7 (some ⟨A, 0, none⟩) 256 256 (blockL_length _).symm hr hA (Nat.le_refl _) (by omega)
    unfold WritePost at this
    rw [Aw.r1] at this
    exact this
  have HBk0 : Hid (∀ W : World, Calls Try.prog 24 #[.slice none 0 0] W fun e w' => ∃ g, e = .returned (.slice (some ⟨g, 0, none⟩) 256 256) ∧ W.heap.size ≤ g ∧ Blk w' g 5 (cells (blockL [])).toArray ∧ Below W.heap.size W w') := fun W => block_any [] none 0 0 W (RB.none_ _ _) rfl (by simp)
  have HCr : Hid (∀ (W : World) (g : Nat) (F : Nat → Prop), PDisk W g F Aw.d1 → ∀ {A : Nat}, RI W W.heap.size (some ⟨A, 0, none⟩) [5] → (∀ ad, (some ⟨A, 0, none⟩ : Option Addr) = some ad → ¬ F ad.block) → Calls Try.prog 20 #[.pointer (some ⟨g, 0, none⟩), .slice (some ⟨A, 0, none⟩) 1 1] W fun e w' => e = .returned (.tuple #[]) ∧ Deeds Aw.d2 F W w' g) := fun W g F hp A hr hA => crash_any hp [5] (some ⟨A, 0, none⟩) 1 1 rfl hr (fun _ => hA)
  have HRd : Hid (∀ (W : World) (g : Nat) (F : Nat → Prop), PDisk W g F Aw.d2 → Calls Try.prog 19 #[.pointer (some ⟨g, 0, none⟩), .int .i64 3] W fun e w' => ∃ a c, e = .returned (.tuple #[.slice (some ⟨a, 0, none⟩) 256 c, .int .i64 0]) ∧ Kept w' F (some ⟨a, 0, none⟩) Aw.b ∧ Deeds Aw.d3 F W w' g) := fun W g F hp =>
    (read_any hp 3 Aw.l2).mono fun e w' h => by
      obtain ⟨A, c, he, ho, hd⟩ := h
      have hbl : (Aw.d2.read 3).2.1.length = 256 := Aw.bl
      obtain ⟨a, rfl, _⟩ := own_arr ho (by rw [hbl]; omega)
      refine ⟨a, c, ?_, Kept.read ho hp.flt, hd⟩
      rw [he, hbl, Aw.r3]
  have HW4 : Hid (∀ (W : World) (g A : Nat) (F : Nat → Prop), PDisk W g F Aw.d3 → RB W W.heap.size (some ⟨A, 0, none⟩) (blockL []) → (∀ ad, (some ⟨A, 0, none⟩ : Option Addr) = some ad → ¬ F ad.block) → Calls Try.prog 23 #[.pointer (some ⟨g, 0, none⟩), .int .i64 16, .slice (some ⟨A, 0, none⟩) 256 256] W fun e w' => ∃ F', e = .returned (.int .i64 10) ∧ PDisk w' g F' Aw.d3 ∧ Turns W w' F F') := fun W g A F hp hr hA => by
    have := write_any hp 16 Aw.l3 (blockL []) (some ⟨A, 0, none⟩) 256 256 (blockL_length _).symm hr hA (Nat.le_refl _) (by omega)
    unfold WritePost at this
    rw [Aw.w4] at this
    exact this
  have HW5 : Hid (∀ (W : World) (g : Nat) (F : Nat → Prop), PDisk W g F Aw.d3 → Calls Try.prog 23 #[.pointer (some ⟨g, 0, none⟩), .int .i64 3, .slice none 0 0] W fun e w' => ∃ F', e = .returned (.int .i64 11) ∧ PDisk w' g F' Aw.d3 ∧ Turns W w' F F') := fun W g F hp => by
    have := write_any hp 3 Aw.l3 [] none 0 0 rfl (RB.none_ _ _) (fun _ e => by cases e) (Nat.le_refl _) (by omega)
    unfold WritePost at this
    rw [Aw.w5] at this
    exact this
  have HS6 : Hid (∀ (W : World) (g : Nat) (F : Nat → Prop), PDisk W g F Aw.d3 → Calls Try.prog 27 #[.pointer (some ⟨g, 0, none⟩), .int .i64 0] W fun e w' => e = .returned (.int .i64 0) ∧ Deeds Aw.d6 F W w' g) := fun W g F hp => by
    have := stop_any hp 0 ⟨by omega, by omega⟩
    rw [Aw.s6] at this
    exact this
  have HF7 : Hid (∀ (W : World) (g : Nat) (F : Nat → Prop), PDisk W g F Aw.d6 → Calls Try.prog 18 #[.pointer (some ⟨g, 0, none⟩)] W fun e w' => e = .returned (.int .i64 9) ∧ Deeds Aw.d7 F W w' g) := fun W g F hp => by
    have := flush_any hp Aw.l6
    rw [Aw.f7] at this
    exact this
  have HF8 : Hid (∀ (W : World) (g : Nat) (F : Nat → Prop), PDisk W g F Aw.d7 → Calls Try.prog 18 #[.pointer (some ⟨g, 0, none⟩)] W fun e w' => e = .returned (.int .i64 9) ∧ Deeds Aw.d7 F W w' g) := fun W g F hp => by
    have := flush_any hp Aw.l7
    rw [Aw.f8] at this
    exact this
  have HOf : Hid (∀ (W : World) (g : Nat) (F : Nat → Prop), PDisk W g F Aw.d7 → Calls Try.prog 21 #[.pointer (some ⟨g, 0, none⟩)] W fun e w' => e = .returned (.bool true) ∧ W = w') := fun W g F hp => by
    have := off_any hp
    rwa [Aw.o8] at this
  have HSt : Hid (∀ (W : World) (g : Nat) (F : Nat → Prop), PDisk W g F Aw.d7 → Calls Try.prog 14 #[.pointer (some ⟨g, 0, none⟩)] W fun e w' => e = .returned (.agg #[.int .i64 1, .int .i64 1, .int .i64 0]) ∧ Below W.heap.size W w') := fun W g F hp => by
    have := stat_any hp
    rw [show statV Aw.d7 = .agg #[.int .i64 1, .int .i64 1, .int .i64 0] by unfold statV; rw [Aw.c8.1, Aw.c8.2.1, Aw.c8.2.2]; rfl] at this
    exact this
  have HS9 : Hid (∀ (W : World) (g : Nat) (F : Nat → Prop), PDisk W g F Aw.d7 → Calls Try.prog 27 #[.pointer (some ⟨g, 0, none⟩), .int .i64 (-1)] W fun e w' => e = .returned (.int .i64 1) ∧ Deeds Aw.d7 F W w' g) := fun W g F hp => by
    have := stop_any hp (-1) ⟨by omega, by omega⟩
    rw [Aw.s9] at this
    exact this
  have z1 := fun g w' => Try.dIsNil g w'
  have q1 := fun w' => Try.statEq w'
  have q2 := fun w' => Try.statBuilt w'
  go_enter Try.func9, Try.ntmps9
  go_wp2_with (first
    | (go_at_call 10; (with_reducible refine HB.out.mono ?_); rintro e w1 ⟨g, F0, rfl, hG⟩; have h1 : Has w w1 g F0 Aw.d0 := Has.gives (Below.refl _ _) hG)
    | (go_at_call 10; (with_reducible refine (HB2.out _).mono ?_); rintro e w2 ⟨rfl, rfl⟩)
    | (at_make; refine wpList_make_full _ rfl _ _ 33 rfl w1.heap.size 5 i0 _ 1 Try.underlying33 hi0 hz0 hz1 .i64 .i64 _ _ 257 rfl rfl rfl rfl (by rw [hby]; omega) (by unfold maxLen; omega) (Nat.le_refl _) ?_; intro w3 ho3 hg3; have h3 : Has w w3 g F0 Aw.d0 := h1.more ((Below.refl _ _).grown hg3 (Nat.le_refl _) (by simp)); clear ho3 hg3)
    | (go_at_call 15; (with_reducible refine (HL.out _ _).mono ?_); rintro e w4 ⟨rfl, rfl⟩)
    | (go_at_call 24; (with_reducible refine (HBk7.out _).mono ?_); rintro e w5 ⟨g5, rfl, hg5, hB5, hb5⟩; have h5 : Has w w5 g F0 Aw.d0 := h3.more (two_below hb5); have hA5 := (h3.more ((Below.refl _ _).alloc (Nat.le_refl _) (.cells #[.int .u8 7] 5))).new hg5)
    | (go_at_call 23; (with_reducible refine (HW1.out _ _ _ _ h5.disk (rb_blk6 hB5) hA5).mono ?_); rintro e w6 ⟨F1, rfl, hp6, ht6⟩; have h6 : Has w w6 g F1 Aw.d1 := h5.turned hp6 ht6; clear hp6 ht6 hA5 hB5 hb5)
    | (go_at_call 20; (with_reducible refine (HCr.out _ _ _ (h6.more ((Below.refl _ _).alloc (Nat.le_refl _) _)).disk (ri_new w6 3 [5] #[.int .i64 5] rfl) (h6.new (Nat.le_refl _))).mono ?_); rintro e w7 ⟨rfl, hd7⟩; have h7 : Has w w7 g F1 Aw.d2 := (h6.more ((Below.refl _ _).alloc (Nat.le_refl _) _)).deeds hd7; clear hd7)
    | (go_at_call 19; (with_reducible refine (HRd.out _ _ _ h7.disk).mono ?_); rintro e w8 ⟨a8, c8, rfl, hk8, hd8⟩; have h8 : Has w w8 g F1 Aw.d3 := h7.deeds hd8; clear hd8)
    | (go_at_call 24; (with_reducible refine (HBk0.out _).mono ?_); rintro e w9 ⟨g9, rfl, hg9, hB9, hb9⟩; have h9 : Has w w9 g F1 Aw.d3 := h8.more hb9; have hA9 := h8.new hg9; have hk9 := hk8.below hb9)
    | (go_at_call 23; (with_reducible refine (HW4.out _ _ _ _ h9.disk (rb_blk6 hB9) hA9).mono ?_); rintro e wa ⟨F2, rfl, hpa, hta⟩; have ha : Has w wa g F2 Aw.d3 := h9.turned hpa hta; have hka := hk9.turns hta; clear hpa hta hB9 hb9)
    | (go_at_call 23; (with_reducible refine (HW5.out _ _ _ ha.disk).mono ?_); rintro e wb ⟨F3, rfl, hpb, htb⟩; have hb : Has w wb g F3 Aw.d3 := ha.turned hpb htb; have hkb := hka.turns htb; clear hpb htb)
    | (go_at_call 27; (with_reducible refine (HS6.out _ _ _ hb.disk).mono ?_); rintro e wc ⟨rfl, hdc⟩; have hc : Has w wc g F3 Aw.d6 := hb.deeds hdc; have hkc := hkb.turns hdc.2; clear hdc)
    | (go_at_call 18; (with_reducible refine (HF7.out _ _ _ hc.disk).mono ?_); rintro e wd ⟨rfl, hdd⟩; have hd : Has w wd g F3 Aw.d7 := hc.deeds hdd; have hkd := hkc.turns hdd.2; clear hdd)
    | (go_at_call 18; (with_reducible refine (HF8.out _ _ _ hd.disk).mono ?_); rintro e we ⟨rfl, hde⟩; have he : Has w we g F3 Aw.d7 := hd.deeds hde; have hke := hkd.turns hde.2; clear hde; have y0 := hke.block (k := 0) (by rw [Aw.bl]; omega) rfl 7 (by rw [Aw.b0]; rfl); have y1 := hke.block (k := 64) (by rw [Aw.bl]; omega) rfl 0 (by rw [Aw.b64]; rfl); have y2 := hke.block (k := 128) (by rw [Aw.bl]; omega) rfl 7 (by rw [Aw.b128]; rfl); have y3 := hke.block (k := 192) (by rw [Aw.bl]; omega) rfl 0 (by rw [Aw.b192]; rfl); simp only [Nat.zero_add, Nat.add_zero] at y0 y1 y2 y3)
    | (go_at_call 21; (with_reducible refine (HOf.out _ _ _ he.disk).mono ?_); rintro e wf ⟨rfl, rfl⟩)
    | (go_at_call 14; (with_reducible refine (HSt.out _ _ _ he.disk).mono ?_); rintro e wg ⟨rfl, hbg⟩; have hg : Has w wg g F3 Aw.d7 := he.more hbg)
    | (go_at_call 27; (with_reducible refine (HS9.out _ _ _ hg.disk).mono ?_); rintro e wh ⟨rfl, hdh⟩; have hh : Has w wh g F3 Aw.d7 := hg.deeds hdh))
  go_ret
  exact ⟨rfl, hh.below⟩

end Go.Proofs.Ythaljnnkpfeooaa
