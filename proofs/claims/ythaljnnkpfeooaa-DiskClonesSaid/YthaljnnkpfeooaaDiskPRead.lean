/- The walks of the program's Stop, Image, Safe, Read, and of falls over a disk (layer 6). -/
import Derived.Test.YthaljnnkpfeooaaDiskPOf
set_option linter.unusedVariables false
namespace Go.Proofs.Ythaljnnkpfeooaa
open Go.RowKit

theorem Dk.image_same {d d' : Dk} (hs : d'.safe = d.safe) (hw : d'.waits = d.waits) : d'.image = d.image := by
  unfold Dk.image
  have : d'.now = d.now := by funext k; unfold Dk.now; rw [hs, hw]
  rw [hs, this]
/-- Cells of the disk's own have turned, and nothing else: what is safe, and waits, is as it was. -/
theorem PD.retell {w w' : World} {g : Nat} {F E' : Nat → Prop} {d d' : Dk} {a ca b cb n : Nat} {V : Value} {ends ends' : Bool} {lf lf' : Int} (h : PD w g F d a ca b cb n V ends lf) (ht : Turns w w' (fun k => k = g) E')
    (hs : d'.safe = d.safe) (hw : d'.waits = d.waits) (hl : -1 ≤ d'.left ∧ d'.left ≤ 9223372036854775807) (hb : Blk w' g 75 (diskCells a ca b cb n V ends' lf' d'))
    (he : d'.off = false → ends' = decide (0 ≤ d'.left)) (hf : d'.off = false → 0 ≤ d'.left → lf' = d'.left) : PD w' g F d' a ca b cb n V ends' lf' := by
  obtain ⟨n1, n2, n3, n4, n5⟩ := h.ne
  refine ⟨hb, by rw [hs]; exact h.size, h.capa, h.capb, by rw [hs]; exact h.safe.turns ht (fun e => n1 e.symm), by rw [Dk.image_same hs hw]; exact h.last.turns ht (fun e => n2 e.symm), by rw [hw]; exact own_turns h.wait ht (fun k hk e => n3 (by rw [hk, e])),
    h.ab, h.fg, h.fa, h.fb, h.fv, fun k hk => Nat.lt_of_lt_of_le (h.flt k hk) ht.size, ⟨⟨by rw [hs]; exact h.good.fit.1, by rw [hs, hw]; exact h.good.fit.2⟩, by rw [hs]; exact h.good.few, by rw [hs]; exact h.good.many, hl⟩, he, hf⟩
theorem turns_own (w : World) (g i : Nat) (u : Value) : Turns w (w.setCell ⟨g, i, none⟩ u) (fun k => k = g) (fun k => k = g) := Turns.set_ (F := fun k => k = g) rfl i u
theorem turns_g {w w' : World} {g : Nat} {F E' : Nat → Prop} (hg : F g) (h : Turns w w' (fun k => k = g) E') : Turns w w' F F := h.wide (fun k hk => by rw [hk]; exact hg) (fun k hk => .inl hk)

/-- A deed with a disk: it is answered a number, and the disk is then another one. -/
def Deeds (D : Dk) (F : Nat → Prop) (w w' : World) (g : Nat) : Prop := PDisk w' g F D ∧ Turns w w' F F
set_option maxRecDepth 100000 in
theorem stop_any {w : World} {g : Nat} {F : Nat → Prop} {d : Dk} (h : PDisk w g F d) (i : Int) (hi : InI i) :
    Calls Try.prog 27 #[.pointer (some ⟨g, 0, none⟩), .int .i64 i] w fun e w' => e = .returned (.int .i64 (d.stop i).2) ∧ Deeds (d.stop i).1 F w w' g := by
  have z0 := fun w' => Try.dIsNil g w'
  obtain ⟨hi1, hi2⟩ := hi
  by_cases h0 : i < 0
  · have d0 : decide (i < 0) = true := decide_eq_true h0
    have HV : Hid (d.stop i = (d, 1)) := by show _ = _; unfold Dk.stop; rw [if_pos h0]
    go_enter Try.func27, Try.ntmps27
    go_wp2
    go_ret
    rw [HV.out]
    exact ⟨rfl, h, Turns.refl _ _⟩
  · have d0 : decide (i < 0) = false := decide_eq_false h0
    have HV : Hid (d.stop i = ({ d with left := i }, 0)) := by show _ = _; unfold Dk.stop; rw [if_neg h0]
    obtain ⟨a, ca, b, cb, n, V, ends, lf, h⟩ := h
    have c4 := h.c4
    have c5 := h.c5
    have f4 := h.fz 4
    have f5 := h.fz 5
    have HP : Hid (PD ((w.setCell ⟨g, 4, none⟩ (.bool true)).setCell ⟨g, 5, none⟩ (.int .i64 i)) g F { d with left := i } a ca b cb n V true i) := by
      refine h.retell (E' := fun k => k = g) ((turns_own _ g 4 _).trans (turns_own _ g 5 _)) rfl rfl ⟨by show (-1 : Int) ≤ i; omega, hi2⟩ ?_ (fun _ => (decide_eq_true (by show 0 ≤ i; omega)).symm) (fun _ _ => rfl)
      exact (h.blk.set_ 4 (.bool true)).set_ 5 (.int .i64 i)
    have HG := Lib.hid h.fg
    clear h h0 hi1 hi2
    go_enter Try.func27, Try.ntmps27
    go_wp2
    go_ret
    rw [HV.out]
    exact ⟨rfl, ⟨_, _, _, _, _, _, _, _, HP.out⟩, (Turns.set_ HG.out 4 _).trans (Turns.set_ HG.out 5 _)⟩
theorem stop_none (i : Int) (w : World) : Calls Try.prog 27 #[.pointer none, .int .i64 i] w fun e w' => e = .returned (.int .i64 8) ∧ w = w' := by
  have z0 := fun w' => Try.dNilIs w'
  go_enter Try.func27, Try.ntmps27
  go_wp2
  go_ret
  exact ⟨rfl, rfl⟩

set_option maxRecDepth 100000 in
theorem image_any {w : World} {g : Nat} {F : Nat → Prop} {d : Dk} (h : PDisk w g F d) :
    Calls Try.prog 29 #[.pointer (some ⟨g, 0, none⟩)] w (GivesOne d.image w) := by
  have z0 := fun w' => Try.dIsNil g w'
  obtain ⟨a, ca, b, cb, n, V, ends, lf, h⟩ := h
  have c1 := h.c1
  have hl : n = d.image.length := by rw [Dk.image_length h.good.fit, h.size]
  have hm := h.good.many
  have hs := h.size
  have HC := Lib.hid (sclone_any d.image _ cb _ w h.last.all (by omega))
  rw [← hl] at HC
  clear h hl hm hs
  go_enter Try.func29, Try.ntmps29
  go_wp2_with (go_at_call 42; (with_reducible refine HC.out.mono ?_); rintro e w1 ⟨A1, c2, rfl, ho1, hb1⟩)
  go_ret
  exact ⟨A1, c2, rfl, ho1, hb1⟩
theorem image_none (w : World) : Calls Try.prog 29 #[.pointer none] w fun e w' => e = .returned (.slice none 0 0) ∧ w = w' := by
  have z0 := fun w' => Try.dNilIs w'
  go_enter Try.func29, Try.ntmps29
  go_wp2
  go_ret
  exact ⟨rfl, rfl⟩
set_option maxRecDepth 100000 in
theorem safe_any {w : World} {g : Nat} {F : Nat → Prop} {d : Dk} (h : PDisk w g F d) :
    Calls Try.prog 17 #[.pointer (some ⟨g, 0, none⟩)] w (GivesOne d.sure w) := by
  have z0 := fun w' => Try.dIsNil g w'
  obtain ⟨a, ca, b, cb, n, V, ends, lf, h⟩ := h
  have c0 := h.c0
  have hl : n = d.sure.length := h.len.symm
  have hm := h.good.many
  have hs := h.size
  have HC := Lib.hid (sclone_any d.sure _ ca _ w h.safe.all (by omega))
  rw [← hl] at HC
  clear h hl hm hs
  go_enter Try.func17, Try.ntmps17
  go_wp2_with (go_at_call 42; (with_reducible refine HC.out.mono ?_); rintro e w1 ⟨A1, c2, rfl, ho1, hb1⟩)
  go_ret
  exact ⟨A1, c2, rfl, ho1, hb1⟩
theorem safe_none (w : World) : Calls Try.prog 17 #[.pointer none] w fun e w' => e = .returned (.slice none 0 0) ∧ w = w' := by
  have z0 := fun w' => Try.dNilIs w'
  go_enter Try.func17, Try.ntmps17
  go_wp2
  go_ret
  exact ⟨rfl, rfl⟩

/-- One more deed: does the power go? -/
theorem falls_any {w : World} {g : Nat} {F : Nat → Prop} {d : Dk} (h : PDisk w g F d) (ho : d.off = false) :
    Calls Try.prog 43 #[.pointer (some ⟨g, 0, none⟩)] w fun e w' => e = .returned (.bool (!d.deed.2)) ∧ Deeds d.deed.1 F w w' g := by
  obtain ⟨a, ca, b, cb, n, V, ends, lf, h⟩ := h
  have he := h.ends_ ho
  have hl := h.left_ ho
  have hb := h.good.left
  by_cases h0 : 0 ≤ d.left
  · rw [decide_eq_true h0] at he
    have hl := hl h0
    subst he
    refine (falls_yes g lf d.off w ⟨by omega, by omega⟩ h.c3 h.c4 h.c5 (h.fz 3) (h.fz 5)).mono ?_
    rintro e w' ⟨rfl, rfl⟩
    have hk := (h.blk.set_ 3 (.bool (decide (lf = 0)))).set_ 5 (.int .i64 (lf - 1))
    have ht : Turns w ((w.setCell ⟨g, 3, none⟩ (.bool (decide (lf = 0)))).setCell ⟨g, 5, none⟩ (.int .i64 (lf - 1))) (fun k => k = g) (fun k => k = g) := (turns_own _ g 3 _).trans (turns_own _ g 5 _)
    by_cases hz : d.left = 0
    · have hd : d.deed = ({ d with off := true }, false) := by unfold Dk.deed; rw [if_pos hz]
      rw [hd]
      have e1 : decide (lf = 0) = true := decide_eq_true (by omega)
      refine ⟨by rw [e1]; rfl, ⟨a, ca, b, cb, n, V, true, lf - 1, h.retell ht rfl rfl hb ?_ (fun h => by cases h) (fun h => by cases h)⟩, turns_g h.fg ht⟩
      rw [e1] at hk ⊢
      exact hk
    · have hd : d.deed = ({ d with left := d.left - 1 }, true) := by unfold Dk.deed; rw [if_neg hz, if_pos (by omega)]
      rw [hd]
      have e1 : decide (lf = 0) = false := decide_eq_false (by omega)
      refine ⟨by rw [e1]; rfl, ⟨a, ca, b, cb, n, V, true, lf - 1, h.retell ht rfl rfl ⟨by show -1 ≤ d.left - 1; omega, by show d.left - 1 ≤ _; omega⟩ ?_ (fun _ => (decide_eq_true (by show 0 ≤ d.left - 1; omega)).symm) (fun _ _ => by show lf - 1 = d.left - 1; omega)⟩, turns_g h.fg ht⟩
      rw [e1] at hk ⊢
      rw [← ho] at hk ⊢
      exact hk
  · rw [decide_eq_false h0] at he
    subst he
    have hd : d.deed = (d, true) := by unfold Dk.deed; rw [if_neg (by omega), if_neg (by omega)]
    refine (falls_no g w h.c4).mono ?_
    rintro e w' ⟨rfl, rfl⟩
    rw [hd]
    exact ⟨rfl, ⟨a, ca, b, cb, n, V, false, lf, h⟩, Turns.refl _ _⟩

/-- A Read: what it is answered, and the disk then. -/
def ReadPost (d : Dk) (i : Int) (g : Nat) (F : Nat → Prop) (w : World) (e : Ending) (w' : World) : Prop :=
  ∃ A c, e = .returned (.tuple #[.slice A (d.read i).2.1.length c, .int .i64 (d.read i).2.2]) ∧ Own w' w.heap.size A (d.read i).2.1 c ∧ Deeds (d.read i).1 F w w' g
theorem PD.count6 {w : World} {g : Nat} {F : Nat → Prop} {d : Dk} {a ca b cb n : Nat} {V : Value} {ends : Bool} {lf : Int} (h : PD w g F d a ca b cb n V ends lf) :
    PD (w.setCell ⟨g, 6, none⟩ (.int .i64 ((d.reads + 1 : Nat) : Int))) g F { d with reads := d.reads + 1 } a ca b cb n V ends lf :=
  h.retell (E' := fun k => k = g) (turns_own _ g 6 _) rfl rfl h.good.left (h.blk.set_ 6 _) h.ends_ h.left_
theorem PD.count7 {w : World} {g : Nat} {F : Nat → Prop} {d : Dk} {a ca b cb n : Nat} {V : Value} {ends : Bool} {lf : Int} (h : PD w g F d a ca b cb n V ends lf) :
    PD (w.setCell ⟨g, 7, none⟩ (.int .i64 ((d.writes + 1 : Nat) : Int))) g F { d with writes := d.writes + 1 } a ca b cb n V ends lf :=
  h.retell (E' := fun k => k = g) (turns_own _ g 7 _) rfl rfl h.good.left (h.blk.set_ 7 _) h.ends_ h.left_
theorem PD.count8 {w : World} {g : Nat} {F : Nat → Prop} {d : Dk} {a ca b cb n : Nat} {V : Value} {ends : Bool} {lf : Int} (h : PD w g F d a ca b cb n V ends lf) :
    PD (w.setCell ⟨g, 8, none⟩ (.int .i64 ((d.flushes + 1 : Nat) : Int))) g F { d with flushes := d.flushes + 1 } a ca b cb n V ends lf :=
  h.retell (E' := fun k => k = g) (turns_own _ g 8 _) rfl rfl h.good.left (h.blk.set_ 8 _) h.ends_ h.left_
theorem there_nat {d : Dk} {i : Int} (h : d.there i = true) : ∃ k : Nat, i = (k : Int) ∧ k < d.safe.length := by
  unfold Dk.there at h
  rw [decide_eq_true_eq] at h
  exact ⟨i.toNat, by omega, by omega⟩
set_option maxRecDepth 100000 in
theorem read_none (i : Int) (w : World) : Calls Try.prog 19 #[.pointer none, .int .i64 i] w fun e w' => e = .returned (.tuple #[.slice none 0 0, .int .i64 8]) ∧ w = w' := by
  have z0 := fun w' => Try.dNilIs w'
  have HR : Hid (Calls Try.prog 46 #[.pointer none, .int .i64 i] w fun e w' => e = .returned (.int .i64 8) ∧ w = w') := by
    show Calls _ _ _ _ _
    go_enter Try.func46, Try.ntmps46
    go_wp2
    go_ret
    exact ⟨rfl, rfl⟩
  go_enter Try.func19, Try.ntmps19
  go_wp2_with (go_at_call 46; (with_reducible refine HR.out.mono ?_); rintro e w1 ⟨rfl, rfl⟩)
  go_ret2
  exact ⟨rfl, rfl⟩
set_option maxRecDepth 100000 in
set_option maxHeartbeats 1000000 in
theorem read_any {w : World} {g : Nat} {F : Nat → Prop} {d : Dk} (h : PDisk w g F d) (i : Int) (hl : d.load ≤ 100000) :
    Calls Try.prog 19 #[.pointer (some ⟨g, 0, none⟩), .int .i64 i] w (ReadPost d i g F w) := by
  have HR := Lib.hid (reach_any h i)
  cases ho : d.off with
  | true =>
    have HV : Hid (d.read i = (d, [], 9)) := by show _ = _; unfold Dk.read; rw [if_pos ho]
    have e1 : d.reach i = 9 := by unfold Dk.reach; rw [if_pos ho]
    rw [e1] at HR
    clear ho e1
    go_enter Try.func19, Try.ntmps19
    go_wp2_with (go_at_call 46; (with_reducible refine HR.out.mono ?_); rintro e w1 ⟨rfl, rfl⟩)
    go_ret2
    unfold ReadPost
    rw [HV.out]
    exact ⟨none, 0, rfl, World.ownsRow_nil _ _ _ _, h, Turns.refl _ _⟩
  | false =>
    cases ht : d.there i with
    | false =>
      have HV : Hid (d.read i = (d, [], 10)) := by show _ = _; unfold Dk.read; rw [ho, ht]; rfl
      have e1 : d.reach i = 10 := by unfold Dk.reach; rw [ho, ht]; rfl
      rw [e1] at HR
      clear ho ht e1
      go_enter Try.func19, Try.ntmps19
      go_wp2_with (go_at_call 46; (with_reducible refine HR.out.mono ?_); rintro e w1 ⟨rfl, rfl⟩)
      go_ret2
      unfold ReadPost
      rw [HV.out]
      exact ⟨none, 0, rfl, World.ownsRow_nil _ _ _ _, h, Turns.refl _ _⟩
    | true =>
      have HV : Hid (d.read i = ({ d with reads := d.reads + 1 }, d.now i.toNat, 0)) := by show _ = _; unfold Dk.read; rw [ho, ht]; rfl
      have e1 : d.reach i = 0 := by unfold Dk.reach; rw [ho, ht]; rfl
      rw [e1] at HR
      obtain ⟨k, rfl, hk⟩ := there_nat ht
      rw [Int.toNat_natCast] at HV
      obtain ⟨a, ca, b, cb, n, V, ends, lf, h⟩ := h
      have HP := Lib.hid h.count6
      have HA := Lib.hid (aadd_any g 6 d.reads w (by unfold Dk.load at hl; omega) h.c6 (h.fz 6))
      have hn := h.size
      have hmany := h.good.many
      have hcb := h.capb
      have hrb := h.count6.last.rb (256 * k) 256 (by rw [Dk.image_length h.count6.good.fit]; show _ ≤ 256 * d.safe.length; omega)
      have hnow : ({ d with reads := d.reads + 1 } : Dk).image = d.image := Dk.image_same rfl rfl
      rw [hnow, Dk.image_get h.good.fit k hk] at hrb
      have h256 : (d.now k).length = 256 := Dk.fit_now h.good.fit hk
      obtain ⟨L, hL⟩ : ∃ L, L = d.now k := ⟨_, rfl⟩
      rw [← hL] at hrb HV h256
      obtain ⟨W, hW⟩ : ∃ W, W = w.setCell ⟨g, 6, none⟩ (.int .i64 ((d.reads + 1 : Nat) : Int)) := ⟨_, rfl⟩
      have c1 : W.cell? ⟨g, 1, none⟩ = some (.slice (some ⟨b, 0, none⟩) n cb) := by rw [hW]; exact h.count6.c1
      rw [← hW] at hrb HA HP
      have hz : W.heap.size = w.heap.size := by rw [hW]; simp [World.setCell]
      have HT : Hid (Turns w W F F) := by show Turns _ _ _ _; rw [hW]; exact Turns.set_ h.fg 6 _
      have HB := Lib.hid (block_of b n cb k W (by omega) (by omega) hcb.1 hcb.2)
      have HC := Lib.hid (sclone_any L _ (cb - 256 * k) _ W hrb (by omega))
      rw [h256] at HC
      have H256 := Lib.hid h256
      have HZ := Lib.hid hz
      clear hW hL h ho ht e1 hk hn hmany hcb hrb hnow h256 hz hl
      go_enter Try.func19, Try.ntmps19
      go_wp2_with (first
        | (go_at_call 46; (with_reducible refine HR.out.mono ?_); rintro e w1 ⟨rfl, rfl⟩)
        | (go_at_call 45; (with_reducible refine HA.out.mono ?_); rintro e w1 ⟨rfl, rfl⟩)
        | (go_at_call 44; (with_reducible refine HB.out.mono ?_); rintro e w2 ⟨rfl, rfl⟩)
        | (go_at_call 42; (with_reducible refine HC.out.mono ?_); rintro e w3 ⟨A3, c3, rfl, ho3, hb3⟩))
      go_ret2
      unfold ReadPost
      rw [HV.out]
      refine ⟨A3, c3, by simp only [H256.out]; rfl, by rw [← HZ.out]; exact ho3, PDisk.below ⟨_, _, _, _, _, _, _, _, HP.out⟩ hb3, HT.out.trans (Turns.of_below hb3 F)⟩

end Go.Proofs.Ythaljnnkpfeooaa
