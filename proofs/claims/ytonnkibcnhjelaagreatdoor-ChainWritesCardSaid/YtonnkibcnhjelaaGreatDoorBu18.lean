/- Lemmas under the proofs of this place: DiskPRead, CellRPut, CellPParts, CellPFind. No statement is proved here. -/
import Derived.Test.YtonnkibcnhjelaaGreatDoorBu16
import Derived.Test.YtonnkibcnhjelaaGreatDoorBu12
import Derived.Test.YtonnkibcnhjelaaGreatDoorBu13
import Derived.Test.YtonnkibcnhjelaaGreatDoorBu09
import Derived.Test.YtonnkibcnhjelaaGreatDoorBu02
import Derived.Test.YtonnkibcnhjelaaGreatDoorBu05
import Derived.Lib.SmallJoins
import Derived.RangeFuncNested
import Derived.RangeFuncBound
import Derived.RangeFuncCalls
import Derived.RangeFuncLeaves
import Derived.Shelf.Abstract
import Derived.OwnWalkIn
import Derived.WalkKit
import Derived.TacticsInMore
import Derived.LoopNIn
import Derived.LoopIn
section
set_option linter.unusedVariables false
namespace Go.Proofs.YtonnkibcnhjelaaGreatDoor
open Go.RowKit
theorem Dk.image_same {d d' : Dk} (hs : d'.safe = d.safe) (hw : d'.waits = d.waits) : d'.image = d.image := by
  unfold Dk.image
  have : d'.now = d.now := by funext k; unfold Dk.now; rw [hs, hw]
  rw [hs, this]
theorem PD.retell {w w' : World} {g : Nat} {F E' : Nat → Prop} {d d' : Dk} {a ca b cb n : Nat} {V : Value} {ends ends' : Bool} {lf lf' : Int} (h : PD w g F d a ca b cb n V ends lf) (ht : Turns w w' (fun k => k = g) E')
    (hs : d'.safe = d.safe) (hw : d'.waits = d.waits) (hl : -1 ≤ d'.left ∧ d'.left ≤ 9223372036854775807) (hb : Blk w' g 85 (diskCells a ca b cb n V ends' lf' d'))
    (he : d'.off = false → ends' = decide (0 ≤ d'.left)) (hf : d'.off = false → 0 ≤ d'.left → lf' = d'.left) : PD w' g F d' a ca b cb n V ends' lf' := by
  obtain ⟨n1, n2, n3, n4, n5⟩ := h.ne
  refine ⟨hb, by rw [hs]; exact h.size, h.capa, h.capb, by rw [hs]; exact h.safe.turns ht (fun e => n1 e.symm), by rw [Dk.image_same hs hw]; exact h.last.turns ht (fun e => n2 e.symm), by rw [hw]; exact own_turns h.wait ht (fun k hk e => n3 (by rw [hk, e])),
    h.ab, h.fg, h.fa, h.fb, h.fv, fun k hk => Nat.lt_of_lt_of_le (h.flt k hk) ht.size, ⟨⟨by rw [hs]; exact h.good.fit.1, by rw [hs, hw]; exact h.good.fit.2⟩, by rw [hs]; exact h.good.few, by rw [hs]; exact h.good.many, hl⟩, he, hf⟩
theorem turns_own (w : World) (g i : Nat) (u : Value) : Turns w (w.setCell ⟨g, i, none⟩ u) (fun k => k = g) (fun k => k = g) := Turns.set_ (F := fun k => k = g) rfl i u
theorem turns_g {w w' : World} {g : Nat} {F E' : Nat → Prop} (hg : F g) (h : Turns w w' (fun k => k = g) E') : Turns w w' F F := h.wide (fun k hk => by rw [hk]; exact hg) (fun k hk => .inl hk)
def Deeds (D : Dk) (F : Nat → Prop) (w w' : World) (g : Nat) : Prop := PDisk w' g F D ∧ Turns w w' F F
set_option maxRecDepth 100000 in
theorem stop_any {w : World} {g : Nat} {F : Nat → Prop} {d : Dk} (h : PDisk w g F d) (i : Int) (hi : InI i) :
    Calls Tryz.prog 36 #[.pointer (some ⟨g, 0, none⟩), .int .i64 i] w fun e w' => e = .returned (.int .i64 (d.stop i).2) ∧ Deeds (d.stop i).1 F w w' g := by
  have z0 := fun w' => Tryz.dIsNil g w'
  obtain ⟨hi1, hi2⟩ := hi
  by_cases h0 : i < 0
  · have d0 : decide (i < 0) = true := decide_eq_true h0
    have HV : Hid (d.stop i = (d, 1)) := by show _ = _; unfold Dk.stop; rw [if_pos h0]
    go_enter Tryz.func36, Tryz.ntmps36
    go_wp2
    go_ret
    rw [HV.out]
    exact ⟨rfl, h, Turns.refl _ _⟩
  · have d0 : decide (i < 0) = false := decide_eq_false h0
    have HV : Hid (d.stop i = ({ d with left := i }, 0)) := by show _ = _; unfold Dk.stop; rw [if_neg h0]
    obtain ⟨a, ca, b, cb, n, V, ends, lf, h⟩ := h
    have c4 := h.c4
    have c5 := h.c5
    have f4 := h.fz 4
    have f5 := h.fz 5
    have HP : Hid (PD ((w.setCell ⟨g, 4, none⟩ (.bool true)).setCell ⟨g, 5, none⟩ (.int .i64 i)) g F { d with left := i } a ca b cb n V true i) := by
      refine h.retell (E' := fun k => k = g) ((turns_own _ g 4 _).trans (turns_own _ g 5 _)) rfl rfl ⟨by show (-1 : Int) ≤ i; omega, hi2⟩ ?_ (fun _ => (decide_eq_true (by show 0 ≤ i; omega)).symm) (fun _ _ => rfl)
      exact (h.blk.set_ 4 (.bool true)).set_ 5 (.int .i64 i)
    have HG := Lib.hid h.fg
    clear h h0 hi1 hi2
    go_enter Tryz.func36, Tryz.ntmps36
    go_wp2
    go_ret
    rw [HV.out]
    exact ⟨rfl, ⟨_, _, _, _, _, _, _, _, HP.out⟩, (Turns.set_ HG.out 4 _).trans (Turns.set_ HG.out 5 _)⟩
set_option maxRecDepth 100000 in
theorem image_any {w : World} {g : Nat} {F : Nat → Prop} {d : Dk} (h : PDisk w g F d) :
    Calls Tryz.prog 41 #[.pointer (some ⟨g, 0, none⟩)] w (GivesOne d.image w) := by
  have z0 := fun w' => Tryz.dIsNil g w'
  obtain ⟨a, ca, b, cb, n, V, ends, lf, h⟩ := h
  have c1 := h.c1
  have hl : n = d.image.length := by rw [Dk.image_length h.good.fit, h.size]
  have hm := h.good.many
  have hs := h.size
  have HC := Lib.hid (sclone_any d.image _ cb _ w h.last.all (by omega))
  rw [← hl] at HC
  clear h hl hm hs
  go_enter Tryz.func41, Tryz.ntmps41
  go_wp2_with (go_at_call 52; (with_reducible refine HC.out.mono ?_); rintro e w1 ⟨A1, c2, rfl, ho1, hb1⟩)
  go_ret
  exact ⟨A1, c2, rfl, ho1, hb1⟩
set_option maxRecDepth 100000 in
theorem safe_any {w : World} {g : Nat} {F : Nat → Prop} {d : Dk} (h : PDisk w g F d) :
    Calls Tryz.prog 43 #[.pointer (some ⟨g, 0, none⟩)] w (GivesOne d.sure w) := by
  have z0 := fun w' => Tryz.dIsNil g w'
  obtain ⟨a, ca, b, cb, n, V, ends, lf, h⟩ := h
  have c0 := h.c0
  have hl : n = d.sure.length := h.len.symm
  have hm := h.good.many
  have hs := h.size
  have HC := Lib.hid (sclone_any d.sure _ ca _ w h.safe.all (by omega))
  rw [← hl] at HC
  clear h hl hm hs
  go_enter Tryz.func43, Tryz.ntmps43
  go_wp2_with (go_at_call 52; (with_reducible refine HC.out.mono ?_); rintro e w1 ⟨A1, c2, rfl, ho1, hb1⟩)
  go_ret
  exact ⟨A1, c2, rfl, ho1, hb1⟩
theorem falls_any {w : World} {g : Nat} {F : Nat → Prop} {d : Dk} (h : PDisk w g F d) (ho : d.off = false) :
    Calls Tryz.prog 45 #[.pointer (some ⟨g, 0, none⟩)] w fun e w' => e = .returned (.bool (!d.deed.2)) ∧ Deeds d.deed.1 F w w' g := by
  obtain ⟨a, ca, b, cb, n, V, ends, lf, h⟩ := h
  have he := h.ends_ ho
  have hl := h.left_ ho
  have hb := h.good.left
  by_cases h0 : 0 ≤ d.left
  · rw [decide_eq_true h0] at he
    have hl := hl h0
    subst he
    refine (falls_yes g lf d.off w ⟨by omega, by omega⟩ h.c3 h.c4 h.c5 (h.fz 3) (h.fz 5)).mono ?_
    rintro e w' ⟨rfl, rfl⟩
    have hk := (h.blk.set_ 3 (.bool (decide (lf = 0)))).set_ 5 (.int .i64 (lf - 1))
    have ht : Turns w ((w.setCell ⟨g, 3, none⟩ (.bool (decide (lf = 0)))).setCell ⟨g, 5, none⟩ (.int .i64 (lf - 1))) (fun k => k = g) (fun k => k = g) := (turns_own _ g 3 _).trans (turns_own _ g 5 _)
    by_cases hz : d.left = 0
    · have hd : d.deed = ({ d with off := true }, false) := by unfold Dk.deed; rw [if_pos hz]
      rw [hd]
      have e1 : decide (lf = 0) = true := decide_eq_true (by omega)
      refine ⟨by rw [e1]; rfl, ⟨a, ca, b, cb, n, V, true, lf - 1, h.retell ht rfl rfl hb ?_ (fun h => by cases h) (fun h => by cases h)⟩, turns_g h.fg ht⟩
      rw [e1] at hk ⊢
      exact hk
    · have hd : d.deed = ({ d with left := d.left - 1 }, true) := by unfold Dk.deed; rw [if_neg hz, if_pos (by omega)]
      rw [hd]
      have e1 : decide (lf = 0) = false := decide_eq_false (by omega)
      refine ⟨by rw [e1]; rfl, ⟨a, ca, b, cb, n, V, true, lf - 1, h.retell ht rfl rfl ⟨by show -1 ≤ d.left - 1; omega, by show d.left - 1 ≤ _; omega⟩ ?_ (fun _ => (decide_eq_true (by show 0 ≤ d.left - 1; omega)).symm) (fun _ _ => by show lf - 1 = d.left - 1; omega)⟩, turns_g h.fg ht⟩
      rw [e1] at hk ⊢
      rw [← ho] at hk ⊢
      exact hk
  · rw [decide_eq_false h0] at he
    subst he
    have hd : d.deed = (d, true) := by unfold Dk.deed; rw [if_neg (by omega), if_neg (by omega)]
    refine (falls_no g w h.c4).mono ?_
    rintro e w' ⟨rfl, rfl⟩
    rw [hd]
    exact ⟨rfl, ⟨a, ca, b, cb, n, V, false, lf, h⟩, Turns.refl _ _⟩
def ReadPost (d : Dk) (i : Int) (g : Nat) (F : Nat → Prop) (w : World) (e : Ending) (w' : World) : Prop :=
  ∃ A c, e = .returned (.tuple #[.slice A (d.read i).2.1.length c, .int .i64 (d.read i).2.2]) ∧ Own w' w.heap.size A (d.read i).2.1 c ∧ Deeds (d.read i).1 F w w' g
theorem PD.count6 {w : World} {g : Nat} {F : Nat → Prop} {d : Dk} {a ca b cb n : Nat} {V : Value} {ends : Bool} {lf : Int} (h : PD w g F d a ca b cb n V ends lf) :
    PD (w.setCell ⟨g, 6, none⟩ (.int .i64 ((d.reads + 1 : Nat) : Int))) g F { d with reads := d.reads + 1 } a ca b cb n V ends lf :=
  h.retell (E' := fun k => k = g) (turns_own _ g 6 _) rfl rfl h.good.left (h.blk.set_ 6 _) h.ends_ h.left_
theorem PD.count7 {w : World} {g : Nat} {F : Nat → Prop} {d : Dk} {a ca b cb n : Nat} {V : Value} {ends : Bool} {lf : Int} (h : PD w g F d a ca b cb n V ends lf) :
    PD (w.setCell ⟨g, 7, none⟩ (.int .i64 ((d.writes + 1 : Nat) : Int))) g F { d with writes := d.writes + 1 } a ca b cb n V ends lf :=
  h.retell (E' := fun k => k = g) (turns_own _ g 7 _) rfl rfl h.good.left (h.blk.set_ 7 _) h.ends_ h.left_
theorem PD.count8 {w : World} {g : Nat} {F : Nat → Prop} {d : Dk} {a ca b cb n : Nat} {V : Value} {ends : Bool} {lf : Int} (h : PD w g F d a ca b cb n V ends lf) :
    PD (w.setCell ⟨g, 8, none⟩ (.int .i64 ((d.flushes + 1 : Nat) : Int))) g F { d with flushes := d.flushes + 1 } a ca b cb n V ends lf :=
  h.retell (E' := fun k => k = g) (turns_own _ g 8 _) rfl rfl h.good.left (h.blk.set_ 8 _) h.ends_ h.left_
theorem there_nat {d : Dk} {i : Int} (h : d.there i = true) : ∃ k : Nat, i = (k : Int) ∧ k < d.safe.length := by
  unfold Dk.there at h
  rw [decide_eq_true_eq] at h
  exact ⟨i.toNat, by omega, by omega⟩
set_option maxRecDepth 100000 in
set_option maxHeartbeats 1000000 in
theorem read_any {w : World} {g : Nat} {F : Nat → Prop} {d : Dk} (h : PDisk w g F d) (i : Int) (hl : d.load ≤ 100000) :
    Calls Tryz.prog 32 #[.pointer (some ⟨g, 0, none⟩), .int .i64 i] w (ReadPost d i g F w) := by
  have HR := Lib.hid (reach_any h i)
  cases ho : d.off with
  | true =>
    have HV : Hid (d.read i = (d, [], 9)) := by show _ = _; unfold Dk.read; rw [if_pos ho]
    have e1 : d.reach i = 9 := by unfold Dk.reach; rw [if_pos ho]
    rw [e1] at HR
    clear ho e1
    go_enter Tryz.func32, Tryz.ntmps32
    go_wp2_with (go_at_call 67; (with_reducible refine HR.out.mono ?_); rintro e w1 ⟨rfl, rfl⟩)
    go_ret2
    unfold ReadPost
    rw [HV.out]
    exact ⟨none, 0, rfl, World.ownsRow_nil _ _ _ _, h, Turns.refl _ _⟩
  | false =>
    cases ht : d.there i with
    | false =>
      have HV : Hid (d.read i = (d, [], 10)) := by show _ = _; unfold Dk.read; rw [ho, ht]; rfl
      have e1 : d.reach i = 10 := by unfold Dk.reach; rw [ho, ht]; rfl
      rw [e1] at HR
      clear ho ht e1
      go_enter Tryz.func32, Tryz.ntmps32
      go_wp2_with (go_at_call 67; (with_reducible refine HR.out.mono ?_); rintro e w1 ⟨rfl, rfl⟩)
      go_ret2
      unfold ReadPost
      rw [HV.out]
      exact ⟨none, 0, rfl, World.ownsRow_nil _ _ _ _, h, Turns.refl _ _⟩
    | true =>
      have HV : Hid (d.read i = ({ d with reads := d.reads + 1 }, d.now i.toNat, 0)) := by show _ = _; unfold Dk.read; rw [ho, ht]; rfl
      have e1 : d.reach i = 0 := by unfold Dk.reach; rw [ho, ht]; rfl
      rw [e1] at HR
      obtain ⟨k, rfl, hk⟩ := there_nat ht
      rw [Int.toNat_natCast] at HV
      obtain ⟨a, ca, b, cb, n, V, ends, lf, h⟩ := h
      have HP := Lib.hid h.count6
      have HA := Lib.hid (aadd_any g 6 d.reads w (by unfold Dk.load at hl; omega) h.c6 (h.fz 6))
      have hn := h.size
      have hmany := h.good.many
      have hcb := h.capb
      have hrb := h.count6.last.rb (256 * k) 256 (by rw [Dk.image_length h.count6.good.fit]; show _ ≤ 256 * d.safe.length; omega)
      have hnow : ({ d with reads := d.reads + 1 } : Dk).image = d.image := Dk.image_same rfl rfl
      rw [hnow, Dk.image_get h.good.fit k hk] at hrb
      have h256 : (d.now k).length = 256 := Dk.fit_now h.good.fit hk
      obtain ⟨L, hL⟩ : ∃ L, L = d.now k := ⟨_, rfl⟩
      rw [← hL] at hrb HV h256
      obtain ⟨W, hW⟩ : ∃ W, W = w.setCell ⟨g, 6, none⟩ (.int .i64 ((d.reads + 1 : Nat) : Int)) := ⟨_, rfl⟩
      have c1 : W.cell? ⟨g, 1, none⟩ = some (.slice (some ⟨b, 0, none⟩) n cb) := by rw [hW]; exact h.count6.c1
      rw [← hW] at hrb HA HP
      have hz : W.heap.size = w.heap.size := by rw [hW]; simp [World.setCell]
      have HT : Hid (Turns w W F F) := by show Turns _ _ _ _; rw [hW]; exact Turns.set_ h.fg 6 _
      have HB := Lib.hid (block_of b n cb k W (by omega) (by omega) hcb.1 hcb.2)
      have HC := Lib.hid (sclone_any L _ (cb - 256 * k) _ W hrb (by omega))
      rw [h256] at HC
      have H256 := Lib.hid h256
      have HZ := Lib.hid hz
      clear hW hL h ho ht e1 hk hn hmany hcb hrb hnow h256 hz hl
      go_enter Tryz.func32, Tryz.ntmps32
      go_wp2_with (first
        | (go_at_call 67; (with_reducible refine HR.out.mono ?_); rintro e w1 ⟨rfl, rfl⟩)
        | (go_at_call 47; (with_reducible refine HA.out.mono ?_); rintro e w1 ⟨rfl, rfl⟩)
        | (go_at_call 46; (with_reducible refine HB.out.mono ?_); rintro e w2 ⟨rfl, rfl⟩)
        | (go_at_call 52; (with_reducible refine HC.out.mono ?_); rintro e w3 ⟨A3, c3, rfl, ho3, hb3⟩))
      go_ret2
      unfold ReadPost
      rw [HV.out]
      refine ⟨A3, c3, by simp only [H256.out]; rfl, by rw [← HZ.out]; exact ho3, PDisk.below ⟨_, _, _, _, _, _, _, _, HP.out⟩ hb3, HT.out.trans (Turns.of_below hb3 F)⟩
end Go.Proofs.YtonnkibcnhjelaaGreatDoor
end
section
set_option linter.unusedVariables false
namespace Go.Proofs.YtonnkibcnhjelaaGreatDoor
open Go.RowKit
def shortL (zs : List Nat) (k : Nat) : List UInt8 := (zs.take k).flatMap (fixL 2)
theorem shortL_succ (zs : List Nat) (k : Nat) (h : k < zs.length) : shortL zs (k + 1) = shortL zs k ++ fixL 2 zs[k] := by
  unfold shortL
  rw [List.take_succ_eq_append_getElem h, List.flatMap_append]
  simp
theorem ints_new (W : World) (a b c : Int) (t : TypeId) (k : Nat) (hk : k < 3) : ∀ W', Below (W.alloc (.cells #[.int .i64 a, .int .i64 b, .int .i64 c] t)).heap.size (W.alloc (.cells #[.int .i64 a, .int .i64 b, .int .i64 c] t)) W' → W'.cell? ⟨W.heap.size, k, none⟩ = some (.int .i64 ([a, b, c][k]'hk)) := fun W' hb => by
  have h0 : Blk W' W.heap.size t #[.int .i64 a, .int .i64 b, .int .i64 c] := Blk.below (Blk.new W _ _) hb (by simp)
  rw [h0.cell]
  match k, hk with
  | 0, _ => rfl
  | 1, _ => rfl
  | 2, _ => rfl
set_option maxRecDepth 100000 in
set_option maxHeartbeats 4000000 in
theorem rcput_yes (s : Ce) (A : Option Addr) (c : Nat) (w : World) (h : s.may = true) (hr : RB w w.heap.size A s.data) :
    Calls Tryz.prog 30 #[ceV s A c] w (GivesBytes s.bytes w) := by
  have HM : Hid (∀ W, Calls Tryz.prog 69 #[ceV s A c] W fun e w' => e = .returned (.bool true) ∧ Below W.heap.size W w') := fun W => by rw [← h]; exact rcmay_any s A c W
  obtain ⟨h1, h2, h3, h4, h5, h6, h7, h8⟩ := s.may_iff.1 h
  clear h
  obtain ⟨oz, nz, xz, D⟩ := s
  simp only at h1 h2 h3 h4 h5 h6 h7 h8 hr
  obtain ⟨o, rfl⟩ : ∃ k : Nat, oz = (k : Int) := ⟨oz.toNat, by omega⟩
  obtain ⟨n, rfl⟩ : ∃ k : Nat, nz = (k : Int) := ⟨nz.toNat, by omega⟩
  obtain ⟨x, rfl⟩ : ∃ k : Nat, xz = (k : Int) := ⟨xz.toNat, by omega⟩
  obtain ⟨m, hm⟩ : ∃ m, m = D.length := ⟨_, rfl⟩
  obtain ⟨X, hX⟩ : ∃ X, X = fixL 4 o := ⟨_, rfl⟩
  have lX : X.length = 4 := by rw [hX, fixL_length]
  have hm242 : m ≤ 242 := by omega
  have HBd : Hid (Ce.body ⟨(o : Int), (n : Int), (x : Int), D⟩ = X ++ shortL [n, x, m] 3 ++ D ++ List.replicate (242 - m) 0) := by
    show _ = _
    unfold Ce.body Ce.head shortL
    simp only [Int.toNat_natCast, hX, hm]
    simp
  have HF1 : Hid (∀ W, Calls Tryz.prog 70 #[.int .i64 (o : Int), .int .i64 4] W fun e w' => ∃ A c, e = .returned (.tuple #[.slice A 4 c, .int .i64 0]) ∧ Hid (w'.ownsRow W.heap.size 5 1 (.slice A 4 c) 4 (cells X)) ∧ Below W.heap.size W w') := fun W =>
    (refFix_any o 4 W (by omega) (by omega) (by omega)).mono fun e w' hh => by
      obtain ⟨A2, c2, he, ho, hb⟩ := hh.1 (by omega)
      rw [← hX, lX] at he
      unfold Own at ho
      rw [← hX, lX] at ho
      exact ⟨A2, c2, he, ho, hb⟩
  have HF2 : Hid (∀ W (k : Nat) (z : Int), ∀ hk : k < 3, z = (([n, x, m][k]'hk : Nat) : Int) → Calls Tryz.prog 70 #[.int .i64 z, .int .i64 2] W fun e w' => ∃ A c, e = .returned (.tuple #[.slice A 2 c, .int .i64 0]) ∧ Hid (RB w' w'.heap.size A (fixL 2 ([n, x, m][k]'hk))) ∧ Below W.heap.size W w') := fun W k z hk hz => by
    have hs : ([n, x, m][k]'hk) ≤ 65535 := by
      match k, hk with
      | 0, _ => show n ≤ _; omega
      | 1, _ => show x ≤ _; omega
      | 2, _ => show m ≤ _; omega
    subst hz
    refine (refFix_any _ 2 W (by omega) (by omega) (by omega)).mono fun e w' hh => ?_
    obtain ⟨A2, c2, he, ho, hb⟩ := hh.1 (by omega)
    rw [fixL_length] at he
    exact ⟨A2, c2, he, own_rb ho, hb⟩
  have HB : Hid (Below w.heap.size w (w.alloc (.cells #[.int .i64 (o : Int), .int .i64 (n : Int), .int .i64 (x : Int), .slice A m c] 64))) := (Below.refl _ _).alloc (Nat.le_refl _) _
  have HC := Lib.hid (fun W hb => cell_at w W (o : Int) (n : Int) (x : Int) A m c hb)
  have a24 := fun w' => Tryz.aggCell w'
  have s24 := fun w' => Tryz.sizeCell w'
  have HD := Lib.hid hr
  have Hm := Lib.hid hm
  unfold ceV at HM ⊢
  simp only at HM ⊢
  rw [← hm] at HM ⊢
  clear hm hr hX lX h1 h2 h3 h4 h5 h6 h7 h8
  go_enter Tryz.func30, Tryz.ntmps30
  go_wp2_with (first
    | (go_at_call 69; (with_reducible refine (HM.out _).mono ?_); rintro e w1 ⟨rfl, hb1⟩; obtain ⟨p0, p1, p2, p3⟩ := HC.out _ hb1)
    | (go_at_call 70; (with_reducible refine (HF1.out _).mono ?_); rintro e w2 ⟨A2, c2, rfl, r2, hb2⟩; have hb2' := hb2; have hb2 := chain7 hb1 hb2; clear p0 p1 p2 p3; obtain ⟨p0, p1, p2, p3⟩ := HC.out _ hb2))
  have hsz1 : w.heap.size < w1.heap.size := Nat.lt_of_lt_of_le (by simp) hb1.size
  obtain ⟨WL, hWL⟩ : ∃ WL, WL = w2.alloc (.cells #[.int .i64 (n : Int), .int .i64 (x : Int), .int .i64 (m : Int)] 3) := ⟨_, rfl⟩
  obtain ⟨lb, hlb⟩ : ∃ lb, lb = w2.heap.size := ⟨_, rfl⟩
  have hLs : lb < WL.heap.size := by rw [hWL, hlb]; simp
  have HLc : Hid (∀ k (hk : k < 3), WL.cell? ⟨lb, k, none⟩ = some (.int .i64 (([n, x, m][k]'hk : Nat) : Int))) := fun k hk => by
    rw [hWL, hlb]
    have := ints_new w2 (n : Int) (x : Int) (m : Int) 3 k hk _ (Below.refl _ _)
    rw [this]
    match k, hk with
    | 0, _ => rfl
    | 1, _ => rfl
    | 2, _ => rfl
  have HO : Hid (WL.ownsRow w1.heap.size 5 1 (.slice A2 4 c2) 4 (cells X)) := by rw [hWL]; exact r2.out.alloc _
  have HAp : Hid ((Value.slice A2 4 c2).ownBlock ≠ some lb) := fun he => by
    have := r2.out.lt lb he
    omega
  have HB1 : Hid (Below w1.heap.size w1 WL) := by rw [hWL]; exact hb2'.alloc hb2'.size _
  have HBw : Hid (Below w.heap.size w w1) := chain7 HB.out hb1
  have HWp : Hid (w1.cell? ⟨w.heap.size, 3, none⟩ = some (.slice A m c)) := (HC.out _ hb1).2.2.2
  have HD1 : Hid (RB w1 w1.heap.size A D) := rb_up7 HD.out HBw.out
  rw [← hWL, ← hlb]
  have HL := Lib.hid (show WL.heap.size = WL.heap.size from rfl)
  clear hWL hlb r2 hb2' p0 p1 p2 p3 HB HC HD hb1 hb2
  go_loopw [4, 7, 8, 9] (fun v i _ _ wr => ∃ k : Nat, k ≤ 3 ∧ i = .int .i64 (k : Int) ∧ ∃ (A' : Option Addr) (c' q : Nat), v = .slice A' q c' ∧ Hid (q = 4 + 2 * k) ∧ Hid (wr.ownsRow w1.heap.size 5 1 (.slice A' q c') q (cells (X ++ shortL [n, x, m] k))) ∧ Hid (Below w1.heap.size w1 wr ∧ lb < wr.heap.size ∧ (Value.slice A' q c').ownBlock ≠ some lb ∧ ∀ k (hk : k < 3), wr.cell? ⟨lb, k, none⟩ = some (.int .i64 (([n, x, m][k]'hk : Nat) : Int)))) (fun _ i _ _ _ => 3 - (intOf i).toNat)
  case atStart => exact ⟨0, by omega, rfl, A2, c2, 4, rfl, rfl, (by have := HO.out; rw [show X ++ shortL [n, x, m] 0 = X by simp [shortL]]; exact this), HB1.out, hLs, HAp.out, HLc.out⟩
  case round =>
    obtain ⟨k, hk, rfl, A', c', q, rfl, hq, HOw, HI⟩ := hrel
    by_cases hlt : k < 3
    · have d0 : decide ((k : Int) < 3) = true := decide_eq_true (by omega)
      have d1 : decide (k < 3) = true := decide_eq_true hlt
      obtain ⟨z, hz⟩ : ∃ z : Nat, z = [n, x, m][k]'hlt := ⟨_, rfl⟩
      obtain ⟨i1, i2, i3, i4⟩ := HI.out
      have c0 : wr.cell? ⟨lb, k, none⟩ = some (.int .i64 (z : Int)) := by rw [hz]; exact i4 k hlt
      have HF : Hid (∀ W, Calls Tryz.prog 70 #[.int .i64 (z : Int), .int .i64 2] W fun e w' => ∃ A c, e = .returned (.tuple #[.slice A 2 c, .int .i64 0]) ∧ Hid (RB w' w'.heap.size A (fixL 2 z)) ∧ Below W.heap.size W w') := fun W => by
        have := HF2.out W k (z : Int) hlt (by rw [hz])
        rw [← hz] at this
        exact this
      have Hz : Hid (shortL [n, x, m] (k + 1) = shortL [n, x, m] k ++ fixL 2 z) := by rw [hz]; exact shortL_succ [n, x, m] k hlt
      have hq11 : q + 2 ≤ 1048576 := by have := hq.out; omega
      obtain ⟨q2, hq2⟩ : ∃ q2, q + 2 = q2 := ⟨_, rfl⟩
      have Hq2 := Lib.hid hq2
      clear hz hq2 i1 i2 i3 i4
      go_wp2_with (first
        | (go_at_call 70; (with_reducible refine (HF.out _).mono ?_); rintro e w3 ⟨A3, c3, rfl, r3, hb3⟩; have o3 := own_kept HOw.out hb3; have b3 := HI.out.1.trans (hb3.mono HI.out.1.size))
        | (at_builtin; refine append_far rfl (.tmp 39) (.tmp 40) rfl rfl o3 b3 (Nat.le_refl _) rfl r3.out rfl hq11 Hq2.out ?_; intro A4 c4 w4 o4 b4 s4 f4 a4))
      obtain ⟨i1, i2, i3, i4⟩ := HI.out
      have hl2 : lb < w3.heap.size := Nat.lt_of_lt_of_le i2 hb3.size
      go_roundw
      case rel => exact ⟨k + 1, by omega, by go_num, A4, c4, q2, rfl, (by show q2 = 4 + 2 * (k + 1); have := hq.out; have := Hq2.out; omega), (by rw [Hz.out, ← List.append_assoc]; exact o4), b4, Nat.lt_of_lt_of_le hl2 s4, a4 lb hl2 i3, fun k hk => f4 _ _ ((hb3.cell (p := ⟨lb, k, none⟩) i2).trans (i4 k hk)) i3⟩
      case measure => simp [intOf]; omega
    · obtain rfl : k = 3 := by omega
      obtain rfl : q = 10 := hq.out
      have p3 : wr.cell? ⟨w.heap.size, 3, none⟩ = some (.slice A m c) := (HI.out.1.cell (p := ⟨w.heap.size, 3, none⟩) hsz1).trans HWp.out
      have rD : RB wr w1.heap.size A D := HD1.out.below HI.out.1
      have hm11 : 10 + m ≤ 1048576 := by omega
      obtain ⟨q3, hq3⟩ : ∃ q3, 10 + m = q3 := ⟨_, rfl⟩
      have Hq3 := Lib.hid hq3
      obtain ⟨P, hP⟩ : ∃ P, P = X ++ shortL [n, x, m] 3 ++ D := ⟨_, rfl⟩
      have HP : Hid (Ce.body ⟨(o : Int), (n : Int), (x : Int), D⟩ = P ++ List.replicate (242 - m) 0) := by rw [hP]; exact HBd.out
      have hq252 : q3 ≤ 252 := by omega
      have hP2 := Lib.hid hP
      obtain ⟨wo, rfl⟩ : ∃ wo : World, wo = wr := ⟨_, rfl⟩
      clear hq3 hP hm242
      go_wp2_with (first
        | (at_builtin; refine append_rb rfl (.tmp 42) (.tmp 44) rfl rfl HOw.out HI.out.1 (Nat.le_refl _) rfl rD Hm.out hm11 Hq3.out ?_; intro A4 c4 w4 o4 b4))
      rw [← hP2.out] at o4
      have O4 := Lib.hid o4
      have B4 := Lib.hid b4
      clear o4 b4 p3 rD
      go_loopw [4] (fun v wr => ∃ (L : List UInt8) (A : Option Addr) (c q : Nat), v = .slice A q c ∧ q ≤ 252 ∧ Hid (q = L.length ∧ q3 ≤ q ∧ L = P ++ List.replicate (q - q3) 0) ∧ Hid (wr.ownsRow w1.heap.size 5 1 (.slice A q c) L.length (cells L)) ∧ Hid (Below w1.heap.size w1 wr)) (fun v _ => 252 - slLen v)
      case atStart =>
        have hl : P.length = q3 := by
          have := O4.out.1
          simpa [cells_length] using this
        exact ⟨P, A4, c4, q3, rfl, hq252, ⟨hl.symm, Nat.le_refl _, by rw [Nat.sub_self]; simp⟩, (by rw [hl]; exact O4), B4⟩
      case round =>
        obtain ⟨L, A9, c9, q, rfl, hq, HJ, HW, HBe⟩ := hrel
        by_cases hlt : q < 252
        · have d0 : decide ((q : Int) < 252) = true := decide_eq_true (by omega)
          have d1 : decide (q < 252) = true := decide_eq_true hlt
          go_wp2_with (at_builtin; refine append_byte rfl _ _ rfl 0 rfl HW.out HBe.out (Nat.le_refl _) rfl rfl (by have := HJ.out.1; omega) ?_; intro v' w9 ho9 hb9)
          obtain ⟨i1, i2, i3⟩ := HJ.out
          obtain ⟨A0, c0, rfl⟩ := own_form ho9
          have hln : (L ++ [0]).length = q + 1 := by rw [List.length_append, List.length_singleton, ← i1]
          have hls : L ++ [0] = P ++ List.replicate (q + 1 - q3) 0 := by rw [show q + 1 - q3 = q - q3 + 1 by omega, List.replicate_succ', ← List.append_assoc, ← i3]
          go_roundw
          case rel => exact ⟨L ++ [0], A0, c0, (L ++ [0]).length, rfl, by omega, ⟨rfl, by omega, by rw [hln]; exact hls⟩, Lib.hid ho9, Lib.hid hb9⟩
          case measure => simp only [slLen]; omega
        · obtain ⟨i1, i2, i3⟩ := HJ.out
          obtain rfl : q = 252 := by omega
          have hbody : L = Ce.body ⟨(o : Int), (n : Int), (x : Int), D⟩ := by rw [i3, HP.out, show 252 - q3 = 242 - m by have := Hq3.out; omega]
          have hL60 : L.length = 252 := i1.symm
          have hrb : RB wr wr.heap.size A9 L := by
            have := HW.out
            rw [hL60] at this
            refine Reads.of_own (base := w1.heap.size) (e := 5) (c := c9) ?_
            rw [hL60]; exact this
          have hbw : Below w.heap.size w wr := chain7 HBw.out HBe.out
          have HSe : Hid (Calls Tryz.prog 71 #[.slice A9 252 c9] wr fun e w' => ∃ A c, e = .returned (.slice A 256 c) ∧ Hid (GivesBytes (Ce.bytes ⟨(o : Int), (n : Int), (x : Int), D⟩) w (.returned (.tuple #[.slice A 256 c, .int .i64 0])) w')) := by
            have h1 := refSeal_any L A9 c9 wr.heap.size wr hrb (by omega)
            rw [hL60] at h1
            refine h1.mono fun e w' hh => ?_
            obtain ⟨A, c, he, ho, hb⟩ := hh
            have e1 : sealL L = Ce.bytes ⟨(o : Int), (n : Int), (x : Int), D⟩ := by rw [hbody]; rfl
            have e2 : (sealL L).length = 256 := by rw [sealL_length, hL60]
            rw [e2] at he
            refine ⟨A, c, he, A, c, by rw [← e1, e2], ?_, chain7 hbw hb⟩
            rw [← e1]
            exact Joins.ownsRow_le ho hbw.size
          have d0 : decide ((252 : Int) < 252) = false := by decide
          clear hbody hL60 hrb hbw i1 i2 i3 HJ HW HBe hlt
          go_wp2_with (go_at_call 71; (with_reducible refine HSe.out.mono ?_); rintro e w9 ⟨A0, c0, rfl, hG⟩)
          go_ret2
          exact hG.out
end Go.Proofs.YtonnkibcnhjelaaGreatDoor
end
section
set_option linter.unusedVariables false
set_option linter.unusedSimpArgs false
namespace Go.Proofs.YtonnkibcnhjelaaGreatDoor
open Go.RowKit Go.Shelf
attribute [local go_sem] Oper.semAt_some
def Upto (N : Nat) : Type := { i : Nat // i < N }
def KeepsAt (B : Nat) (W W' : World) : Prop := W'.cell? ⟨B, 0, none⟩ = W.cell? ⟨B, 0, none⟩
def partV (b off n c i : Nat) : Value := .slice (some ⟨b, off + i * 242, none⟩) (if n < i * 242 + 242 then n - i * 242 else 242) (c - i * 242)
set_option maxRecDepth 100000 in
set_option maxHeartbeats 2000000 in
theorem cparts1_in (m : Nat) (hm : 1 ≤ m) (l Bs b off n N cap : Nat) (hN : N = needC n) (hn : n ≤ 1000000) (hcap : n ≤ cap) (J Jx : List (Upto N) → World → Prop)
    (hY : ∀ pre x W, J pre W → pre.length < N → YieldAt Fence.wide (m - 1) Tryz.prog l #[.int .i64 (x.1 : Int), partV b off n cap x.1] W fun e W' =>
      (e = .returned (.bool true) ∧ J (pre ++ [x]) W' ∧ KeepsAt Bs W W') ∨ (e = .returned (.bool false) ∧ Jx (pre ++ [x]) W'))
    (W : World) (hc : W.cell? ⟨Bs, 0, none⟩ = some (.slice (some ⟨b, off, none⟩) n cap)) (h0 : J [] W) :
    CallsIn Fence.wide m Tryz.prog 89 #[.func (.yield l) #[] #[], .pointer (some ⟨Bs, 0, none⟩)] W fun e W' => (∃ v, e = .returned v) ∧
      ((∃ ys : List (Upto N), ys.map (·.1) = List.range N ∧ J ys W') ∨ (∃ pre, True ∧ Jx pre W')) := by
  have HN : Hid (∀ W, Calls Tryz.prog 55 #[.int .i64 (n : Int)] W fun e w' => e = .returned (.int .i64 (N : Int)) ∧ W = w') := fun W => by rw [hN]; exact cneed_any n (by omega) W
  have HNn : Hid (N = (n + 241) / 242) := hN
  have hN1 : N ≤ 5000 := by have := HNn.out; omega
  have nf := fun w' => Tryz.notFalse w'
  have nt := fun w' => Tryz.notTrue w'
  have HC := Lib.hid hc
  have HY := Lib.hid hY
  have H0 := Lib.hid h0
  clear hN hY h0
  refine callsIn_of_wp Tryz.func89 rfl trivial ?_ rfl
  simp only [Tryz.ntmps89, List.size_toArray, List.length_cons, List.length_nil, Nat.reduceAdd, Nat.reduceSub, Array.replicate_succ, Array.replicate_zero, List.push_toArray, List.append_toArray, List.nil_append, List.cons_append]
  gi_wp2_with (refine ⟨trivial, ?_⟩; gi_at_call 55; refine (callsIn_wide.2 (HN.out _)).mono ?_; rintro e w1 ⟨rfl, rfl⟩)
  clear hc
  gi_loopw [8] (fun i wr => ∃ k : Nat, k ≤ N ∧ i = .int .i64 (k : Int) ∧ ∃ pre : List (Upto N), Hid (pre.map (·.1) = List.range k ∧ J pre wr) ∧ Hid (KeepsAt Bs W wr))
    (fun i _ => N - (intOf i).toNat)
  case atStart => exact ⟨0, Nat.zero_le _, rfl, [], ⟨rfl, H0.out⟩, rfl⟩
  case round =>
    obtain ⟨k, hk, rfl, pre, HJ, HB⟩ := hrel
    have hpl : pre.length = k := by have := congrArg List.length HJ.out.1; simpa using this
    by_cases hlt : k < N
    · have hcx := Eq.trans HB.out HC.out
      have hkn : 242 * k < n := by have := HNn.out; omega
      obtain ⟨fn, tmps, assign, body, hy, hR⟩ := HY.out pre ⟨k, hlt⟩ wr HJ.out.2 (by omega)
      dsimp only at hy
      unfold partV at hy
      have HCX := Lib.hid hcx
      have hne : ¬ cap = k * 242 := by omega
      by_cases hlast : n < k * 242 + 242
      · rw [if_pos hlast] at hy
        have u1 : (n : Int) < (k : Int) * 242 + 242 := by omega
        have u2 : ¬ (k : Int) * 242 + 242 ≤ (n : Int) := by omega
        have em : min ((k : Int) * 242 + 242) (n : Int) = (n : Int) := by omega
        clear hpl hn
        gi_wp2
        refine hR.mono ?_
        rintro e W3 (⟨rfl, hJ3, hk3⟩ | ⟨rfl, hJx3⟩)
        · gi_wp2
          go_roundw
          case rel => exact ⟨k + 1, by omega, by go_num, pre ++ [⟨k, hlt⟩], ⟨by rw [List.map_append, HJ.out.1, List.range_succ]; rfl, hJ3⟩, Eq.trans hk3 HB.out⟩
          case measure => simp [intOf]; omega
        · gi_wp2
          refine bodyPost_ret (results_none rfl _ _ _) rfl ?_
          exact ⟨⟨_, rfl⟩, .inr ⟨_, trivial, hJx3⟩⟩
      · rw [if_neg hlast] at hy
        have u1 : (k : Int) * 242 + 242 ≤ (n : Int) := by omega
        have em : min ((k : Int) * 242 + 242) (n : Int) = (k : Int) * 242 + 242 := by omega
        have et : ((k : Int) * 242 + 242).toNat = k * 242 + 242 := by omega
        have ed : k * 242 + 242 - k * 242 = 242 := by omega
        clear hpl hn
        gi_wp2
        refine hR.mono ?_
        rintro e W3 (⟨rfl, hJ3, hk3⟩ | ⟨rfl, hJx3⟩)
        · gi_wp2
          go_roundw
          case rel => exact ⟨k + 1, by omega, by go_num, pre ++ [⟨k, hlt⟩], ⟨by rw [List.map_append, HJ.out.1, List.range_succ]; rfl, hJ3⟩, Eq.trans hk3 HB.out⟩
          case measure => simp [intOf]; omega
        · gi_wp2
          refine bodyPost_ret (results_none rfl _ _ _) rfl ?_
          exact ⟨⟨_, rfl⟩, .inr ⟨_, trivial, hJx3⟩⟩
    · obtain rfl : k = N := by omega
      gi_wp2
      go_end0
      exact ⟨⟨_, rfl⟩, .inl ⟨pre, HJ.out.1, HJ.out.2⟩⟩
set_option maxRecDepth 100000 in
theorem cparts_any (A : Option Addr) (n c : Nat) (w : World) :
    Calls Tryz.prog 59 #[.slice A n c] w fun e w' => e = .returned (.func (.func 89) #[] #[.pointer (some ⟨w.heap.size, 0, none⟩)]) ∧ w' = w.alloc (.cells #[.slice A n c] 39) := by
  have hmf : ∀ (fn : Fn) (first cap : Array Value) (w : World), (Instr.makeFunc fn first cap).run Tryz.prog w = .ok (.func fn first cap) w := fun _ _ _ _ => rfl
  go_enter Tryz.func59, Tryz.ntmps59
  go_wp2
  go_ret
  exact ⟨rfl, rfl⟩
theorem cparts_stops (m : Nat) (hm : 1 ≤ m) (Bs b off n N cap : Nat) (hN : N = needC n) (hn : n ≤ 1000000) (hcap : n ≤ cap) (w : World) (hBs : Bs < w.heap.size) (hc : w.cell? ⟨Bs, 0, none⟩ = some (.slice (some ⟨b, off, none⟩) n cap)) :
    SeqStopsK Fence.wide m Tryz.prog 89 #[.pointer (some ⟨Bs, 0, none⟩)] (fun x : Upto N => #[.int .i64 (x.1 : Int), partV b off n cap x.1]) (KeepsAt Bs) (fun ys => ys.map (·.1) = List.range N) (fun _ => True) N w := fun l J Jx W hW _ _ hY h0 =>
  cparts1_in m hm l Bs b off n N cap hN hn hcap J Jx hY W ((hW.cell (p := ⟨Bs, 0, none⟩) hBs).trans hc) h0
end Go.Proofs.YtonnkibcnhjelaaGreatDoor
end
section
set_option linter.unusedVariables false
set_option linter.unusedSimpArgs false
namespace Go.Proofs.YtonnkibcnhjelaaGreatDoor
open Go.RowKit
def FoundZ (Z : List Int) (w : World) (e : Ending) (w' : World) : Prop := ∃ z : Int, e = .returned (.int .i64 z) ∧ (decide (0 ≤ z) = Z.any (fun p => !placeOk p)) ∧ w = w'
theorem no_bad {Z : List Int} {n : Nat} (hn : n = Z.length) (h : ∀ j (hj : j < Z.length), j < n → placeOk Z[j] = true) : Z.any (fun p => !placeOk p) = false := by
  rw [List.any_eq_false]
  intro x hx
  obtain ⟨j, hj, rfl⟩ := List.getElem_of_mem hx
  rw [h j hj (by omega)]
  decide
theorem one_bad {Z : List Int} {k : Nat} (hk : k < Z.length) (h : placeOk Z[k] = false) : Z.any (fun p => !placeOk p) = true := by
  rw [List.any_eq_true]
  exact ⟨Z[k], List.getElem_mem hk, by rw [h]; rfl⟩
set_option maxRecDepth 100000 in
set_option maxHeartbeats 2000000 in
theorem cindex_any (Z : List Int) (n : Nat) (A : Option Addr) (c : Nat) (w : World) (hn : n = Z.length) (hs : n ≤ 1000000) (hA : RI w w.heap.size A Z) :
    Calls Tryz.prog 86 #[.slice A n c, .func (.func 57) #[] #[]] w (FoundZ Z w) := by
  have HN := Lib.hid hn
  have HI := Lib.hid hA
  clear hn hA
  go_enter Tryz.func86, Tryz.ntmps86
  go_wp2
  go_loop [8] (fun i => ∃ k : Nat, k ≤ n ∧ i = .int .i64 (k : Int) ∧ Hid (∀ j (hj : j < Z.length), j < k → placeOk Z[j] = true)) (fun i => n - (intOf i).toNat)
  case atStart => exact ⟨0, by omega, rfl, fun j _ hj => by omega⟩
  case round =>
    obtain ⟨k, hk, rfl, HB⟩ := hrel
    by_cases hlt : k < n
    · have hkl : k < Z.length := by rw [← HN.out]; exact hlt
      obtain ⟨b, off, rfl, hbw, hc⟩ := HI.out (by omega)
      have hck := hc k hkl
      have H0 : Hid (∀ W, Calls Tryz.prog 57 #[.int .i64 Z[k]] W fun e w' => e = .returned (.bool (!(placeOk Z[k]))) ∧ W = w') := fun W => cnoplace_gives _ _ rfl W
      obtain ⟨z, hz⟩ : ∃ z, z = Z[k] := ⟨_, rfl⟩
      rw [← hz] at hck H0
      have HZ := Lib.hid hz
      clear hc hz
      cases hp : placeOk z with
      | true =>
        rw [hp] at H0
        have HP := Lib.hid hp
        clear hp
        go_wp2_with (go_at_call 57; (with_reducible refine (H0.out _).mono ?_); rintro e w1 ⟨rfl, rfl⟩)
        go_round
        case rel =>
          refine ⟨k + 1, by omega, by go_num, fun j hj hj2 => ?_⟩
          by_cases h : j < k
          · exact HB.out j hj h
          · have : j = k := by omega
            subst this
            rw [← HZ.out]
            exact HP.out
        case measure => simp [intOf]; omega
      | false =>
        rw [hp] at H0
        have HP := Lib.hid hp
        clear hp
        go_wp2_with (go_at_call 57; (with_reducible refine (H0.out _).mono ?_); rintro e w1 ⟨rfl, rfl⟩)
        go_ret
        exact ⟨_, rfl, by rw [one_bad hkl (by rw [← HZ.out]; exact HP.out)]; exact decide_eq_true (by omega), rfl⟩
    · obtain rfl : k = n := by omega
      go_wp2
      go_ret
      exact ⟨_, rfl, by rw [no_bad HN.out HB.out]; decide, rfl⟩
set_option maxRecDepth 100000 in
set_option maxHeartbeats 2000000 in
theorem ccontains_any (Z : List Int) (n : Nat) (A : Option Addr) (c : Nat) (w : World) (hn : n = Z.length) (hs : n ≤ 1000000) (hA : RI w w.heap.size A Z) :
    Calls Tryz.prog 56 #[.slice A n c, .func (.func 57) #[] #[]] w fun e w' => e = .returned (.bool (Z.any (fun p => !placeOk p))) ∧ w = w' := by
  have H0 := Lib.hid (cindex_any Z n A c w hn hs hA)
  obtain ⟨v, hv⟩ : ∃ v, v = Z.any (fun p => !placeOk p) := ⟨_, rfl⟩
  rw [← hv]
  have HV := Lib.hid hv
  clear hv hn hA
  go_enter Tryz.func56, Tryz.ntmps56
  go_wp2_with (go_at_call 86; (with_reducible refine H0.out.mono ?_); rintro e w1 ⟨z, rfl, hz, rfl⟩; have HZ := Lib.hid hz; clear hz)
  go_ret
  refine ⟨?_, rfl⟩
  rw [HV.out, ← HZ.out]
  rfl
end Go.Proofs.YtonnkibcnhjelaaGreatDoor
end
