/- Lemmas under the proofs of this place: WalAppM, DiskPRead, WalPRecM, SectPTake, SectPHead, SectJoin. No statement is proved here. -/
import Derived.Test.YtghenhacndaelaaGreatBu12
import Derived.Test.YtghenhacndaelaaGreatBu03
import Derived.Test.YtghenhacndaelaaGreatBu07
import Derived.Test.YtghenhacndaelaaGreatBu05
import Derived.Test.YtghenhacndaelaaGreatBu10
set_option linter.unusedSimpArgs false
set_option linter.unusedVariables false
set_option maxRecDepth 100000
set_option maxHeartbeats 16000000
namespace Go.Proofs.YtghenhacndaelaaGreat
section
namespace Wal
section
variable {at_ : Nat} {e : Int} {t : List UInt8}
theorem part_mayK (he : 0 ≤ e ∧ e ≤ 2147483647) (hn : at_ + needN t.length ≤ 65536) {i : Nat} (hi : i < needN t.length) : (partW at_ e t i).may = true := by
  refine (Sd.may_iff _).2 ⟨?_, ?_, he.1, he.2, ?_, ?_, ?_, ?_, ?_⟩
  · rw [part_kind]; split <;> omega
  · rw [part_kind]; split <;> omega
  · rw [part_number]; omega
  · rw [part_number]; omega
  · rw [part_left]; omega
  · rw [part_left]; omega
  · show ((t.drop (48 * i)).take 48).length ≤ 48
    rw [List.length_take]; omega
theorem split_base (he : 0 ≤ e ∧ e ≤ 2147483647) (hn : at_ + needN t.length ≤ 65536) (h0 : needN t.length ≠ 0) : splitS (base at_ e) t = ((List.range (needN t.length)).map (partW at_ e t), 0) := by
  unfold splitS
  rw [if_neg h0, if_neg (by omega), if_pos]
  · rfl
  · exact List.all_eq_true.2 fun i hi => part_mayK he hn (List.mem_range.1 hi)
def recK (at_ : Nat) (e : Int) (t : List UInt8) (i : Nat) : List UInt8 := (List.range i).flatMap fun i => (partW at_ e t i).bytes
theorem recK_succ (i : Nat) : recK at_ e t (i + 1) = recK at_ e t i ++ (partW at_ e t i).bytes := by
  unfold recK
  rw [List.range_succ, List.flatMap_append]
  simp
theorem part_bytes (i : Nat) : (partW at_ e t i).bytes.length = 64 := Sd.bytes_length _ (by
  show ((t.drop (48 * i)).take 48).length ≤ 48
  rw [List.length_take]; omega)
theorem recK_length (i : Nat) : (recK at_ e t i).length = 64 * i := by
  induction i with
  | zero => rfl
  | succ i ih => rw [recK_succ, List.length_append, ih, part_bytes]; omega
theorem recK_all : recK at_ e t (needN t.length) = recBytes at_ e t := rfl
theorem pad_step (n j : Nat) (hj : j ≤ padN n) : ((n + j) % 256 = 0 ↔ j = padN n) := by
  unfold padN at hj ⊢
  omega
end
theorem writes_step (frm : Nat) (all : List UInt8) (m k : Nat) (d : Dk) (h : (d.write ((frm + k : Nat) : Int) (blkW all k)).2 = 0) : writesW frm all (m + 1) k d = writesW frm all m (k + 1) (d.write ((frm + k : Nat) : Int) (blkW all k)).1 := by
  rw [writesW, if_pos h]
theorem writes_bad (frm : Nat) (all : List UInt8) (m k : Nat) (d : Dk) (h : (d.write ((frm + k : Nat) : Int) (blkW all k)).2 ≠ 0) : writesW frm all (m + 1) k d = d.write ((frm + k : Nat) : Int) (blkW all k) := by
  rw [writesW, if_neg h]
end Wal
end
section
open Go.RowKit
theorem Dk.image_same {d d' : Dk} (hs : d'.safe = d.safe) (hw : d'.waits = d.waits) : d'.image = d.image := by
  unfold Dk.image
  have : d'.now = d.now := by funext k; unfold Dk.now; rw [hs, hw]
  rw [hs, this]
theorem PD.retell {w w' : World} {g : Nat} {F E' : Nat → Prop} {d d' : Dk} {a ca b cb n : Nat} {V : Value} {ends ends' : Bool} {lf lf' : Int} (h : PD w g F d a ca b cb n V ends lf) (ht : Turns w w' (fun k => k = g) E')
    (hs : d'.safe = d.safe) (hw : d'.waits = d.waits) (hl : -1 ≤ d'.left ∧ d'.left ≤ 9223372036854775807) (hb : Blk w' g 94 (diskCells a ca b cb n V ends' lf' d'))
    (he : d'.off = false → ends' = decide (0 ≤ d'.left)) (hf : d'.off = false → 0 ≤ d'.left → lf' = d'.left) : PD w' g F d' a ca b cb n V ends' lf' := by
  obtain ⟨n1, n2, n3, n4, n5⟩ := h.ne
  refine ⟨hb, by rw [hs]; exact h.size, h.capa, h.capb, by rw [hs]; exact h.safe.turns ht (fun e => n1 e.symm), by rw [Dk.image_same hs hw]; exact h.last.turns ht (fun e => n2 e.symm), by rw [hw]; exact own_turns h.wait ht (fun k hk e => n3 (by rw [hk, e])),
    h.ab, h.fg, h.fa, h.fb, h.fv, fun k hk => Nat.lt_of_lt_of_le (h.flt k hk) ht.size, ⟨⟨by rw [hs]; exact h.good.fit.1, by rw [hs, hw]; exact h.good.fit.2⟩, by rw [hs]; exact h.good.few, by rw [hs]; exact h.good.many, hl⟩, he, hf⟩
theorem turns_own (w : World) (g i : Nat) (u : Value) : Turns w (w.setCell ⟨g, i, none⟩ u) (fun k => k = g) (fun k => k = g) := Turns.set_ (F := fun k => k = g) rfl i u
theorem turns_g {w w' : World} {g : Nat} {F E' : Nat → Prop} (hg : F g) (h : Turns w w' (fun k => k = g) E') : Turns w w' F F := h.wide (fun k hk => by rw [hk]; exact hg) (fun k hk => .inl hk)
def Deeds (D : Dk) (F : Nat → Prop) (w w' : World) (g : Nat) : Prop := PDisk w' g F D ∧ Turns w w' F F
theorem stop_any {w : World} {g : Nat} {F : Nat → Prop} {d : Dk} (h : PDisk w g F d) (i : Int) (hi : InI i) :
    Calls Tryz.prog 20 #[.pointer (some ⟨g, 0, none⟩), .int .i64 i] w fun e w' => e = .returned (.int .i64 (d.stop i).2) ∧ Deeds (d.stop i).1 F w w' g := by
  have z0 := fun w' => Tryz.dIsNil g w'
  obtain ⟨hi1, hi2⟩ := hi
  by_cases h0 : i < 0
  · have d0 : decide (i < 0) = true := decide_eq_true h0
    have HV : Hid (d.stop i = (d, 1)) := by show _ = _; unfold Dk.stop; rw [if_pos h0]
    go_enter Tryz.func20, Tryz.ntmps20
    go_wp2
    go_ret
    rw [HV.out]
    exact ⟨rfl, h, Turns.refl _ _⟩
  · have d0 : decide (i < 0) = false := decide_eq_false h0
    have HV : Hid (d.stop i = ({ d with left := i }, 0)) := by show _ = _; unfold Dk.stop; rw [if_neg h0]
    obtain ⟨a, ca, b, cb, n, V, ends, lf, h⟩ := h
    have c4 := h.c4
    have c5 := h.c5
    have f4 := h.fz 4
    have f5 := h.fz 5
    have HP : Hid (PD ((w.setCell ⟨g, 4, none⟩ (.bool true)).setCell ⟨g, 5, none⟩ (.int .i64 i)) g F { d with left := i } a ca b cb n V true i) := by
      refine h.retell (E' := fun k => k = g) ((turns_own _ g 4 _).trans (turns_own _ g 5 _)) rfl rfl ⟨by show (-1 : Int) ≤ i; omega, hi2⟩ ?_ (fun _ => (decide_eq_true (by show 0 ≤ i; omega)).symm) (fun _ _ => rfl)
      exact (h.blk.set_ 4 (.bool true)).set_ 5 (.int .i64 i)
    have HG := Lib.hid h.fg
    clear h h0 hi1 hi2
    go_enter Tryz.func20, Tryz.ntmps20
    go_wp2
    go_ret
    rw [HV.out]
    exact ⟨rfl, ⟨_, _, _, _, _, _, _, _, HP.out⟩, (Turns.set_ HG.out 4 _).trans (Turns.set_ HG.out 5 _)⟩
theorem falls_any {w : World} {g : Nat} {F : Nat → Prop} {d : Dk} (h : PDisk w g F d) (ho : d.off = false) :
    Calls Tryz.prog 95 #[.pointer (some ⟨g, 0, none⟩)] w fun e w' => e = .returned (.bool (!d.deed.2)) ∧ Deeds d.deed.1 F w w' g := by
  obtain ⟨a, ca, b, cb, n, V, ends, lf, h⟩ := h
  have he := h.ends_ ho
  have hl := h.left_ ho
  have hb := h.good.left
  by_cases h0 : 0 ≤ d.left
  · rw [decide_eq_true h0] at he
    have hl := hl h0
    subst he
    refine (falls_yes g lf d.off w ⟨by omega, by omega⟩ h.c3 h.c4 h.c5 (h.fz 3) (h.fz 5)).mono ?_
    rintro e w' ⟨rfl, rfl⟩
    have hk := (h.blk.set_ 3 (.bool (decide (lf = 0)))).set_ 5 (.int .i64 (lf - 1))
    have ht : Turns w ((w.setCell ⟨g, 3, none⟩ (.bool (decide (lf = 0)))).setCell ⟨g, 5, none⟩ (.int .i64 (lf - 1))) (fun k => k = g) (fun k => k = g) := (turns_own _ g 3 _).trans (turns_own _ g 5 _)
    by_cases hz : d.left = 0
    · have hd : d.deed = ({ d with off := true }, false) := by unfold Dk.deed; rw [if_pos hz]
      rw [hd]
      have e1 : decide (lf = 0) = true := decide_eq_true (by omega)
      refine ⟨by rw [e1]; rfl, ⟨a, ca, b, cb, n, V, true, lf - 1, h.retell ht rfl rfl hb ?_ (fun h => by cases h) (fun h => by cases h)⟩, turns_g h.fg ht⟩
      rw [e1] at hk ⊢
      exact hk
    · have hd : d.deed = ({ d with left := d.left - 1 }, true) := by unfold Dk.deed; rw [if_neg hz, if_pos (by omega)]
      rw [hd]
      have e1 : decide (lf = 0) = false := decide_eq_false (by omega)
      refine ⟨by rw [e1]; rfl, ⟨a, ca, b, cb, n, V, true, lf - 1, h.retell ht rfl rfl ⟨by show -1 ≤ d.left - 1; omega, by show d.left - 1 ≤ _; omega⟩ ?_ (fun _ => (decide_eq_true (by show 0 ≤ d.left - 1; omega)).symm) (fun _ _ => by show lf - 1 = d.left - 1; omega)⟩, turns_g h.fg ht⟩
      rw [e1] at hk ⊢
      rw [← ho] at hk ⊢
      exact hk
  · rw [decide_eq_false h0] at he
    subst he
    have hd : d.deed = (d, true) := by unfold Dk.deed; rw [if_neg (by omega), if_neg (by omega)]
    refine (falls_no g w h.c4).mono ?_
    rintro e w' ⟨rfl, rfl⟩
    rw [hd]
    exact ⟨rfl, ⟨a, ca, b, cb, n, V, false, lf, h⟩, Turns.refl _ _⟩
def ReadPost (d : Dk) (i : Int) (g : Nat) (F : Nat → Prop) (w : World) (e : Ending) (w' : World) : Prop :=
  ∃ A c, e = .returned (.tuple #[.slice A (d.read i).2.1.length c, .int .i64 (d.read i).2.2]) ∧ Own w' w.heap.size A (d.read i).2.1 c ∧ Deeds (d.read i).1 F w w' g
theorem PD.count6 {w : World} {g : Nat} {F : Nat → Prop} {d : Dk} {a ca b cb n : Nat} {V : Value} {ends : Bool} {lf : Int} (h : PD w g F d a ca b cb n V ends lf) :
    PD (w.setCell ⟨g, 6, none⟩ (.int .i64 ((d.reads + 1 : Nat) : Int))) g F { d with reads := d.reads + 1 } a ca b cb n V ends lf :=
  h.retell (E' := fun k => k = g) (turns_own _ g 6 _) rfl rfl h.good.left (h.blk.set_ 6 _) h.ends_ h.left_
theorem PD.count7 {w : World} {g : Nat} {F : Nat → Prop} {d : Dk} {a ca b cb n : Nat} {V : Value} {ends : Bool} {lf : Int} (h : PD w g F d a ca b cb n V ends lf) :
    PD (w.setCell ⟨g, 7, none⟩ (.int .i64 ((d.writes + 1 : Nat) : Int))) g F { d with writes := d.writes + 1 } a ca b cb n V ends lf :=
  h.retell (E' := fun k => k = g) (turns_own _ g 7 _) rfl rfl h.good.left (h.blk.set_ 7 _) h.ends_ h.left_
theorem PD.count8 {w : World} {g : Nat} {F : Nat → Prop} {d : Dk} {a ca b cb n : Nat} {V : Value} {ends : Bool} {lf : Int} (h : PD w g F d a ca b cb n V ends lf) :
    PD (w.setCell ⟨g, 8, none⟩ (.int .i64 ((d.flushes + 1 : Nat) : Int))) g F { d with flushes := d.flushes + 1 } a ca b cb n V ends lf :=
  h.retell (E' := fun k => k = g) (turns_own _ g 8 _) rfl rfl h.good.left (h.blk.set_ 8 _) h.ends_ h.left_
theorem there_nat {d : Dk} {i : Int} (h : d.there i = true) : ∃ k : Nat, i = (k : Int) ∧ k < d.safe.length := by
  unfold Dk.there at h
  rw [decide_eq_true_eq] at h
  exact ⟨i.toNat, by omega, by omega⟩
theorem read_any {w : World} {g : Nat} {F : Nat → Prop} {d : Dk} (h : PDisk w g F d) (i : Int) (hl : d.load ≤ 100000) :
    Calls Tryz.prog 66 #[.pointer (some ⟨g, 0, none⟩), .int .i64 i] w (ReadPost d i g F w) := by
  have HR := Lib.hid (reach_any h i)
  cases ho : d.off with
  | true =>
    have HV : Hid (d.read i = (d, [], 9)) := by show _ = _; unfold Dk.read; rw [if_pos ho]
    have e1 : d.reach i = 9 := by unfold Dk.reach; rw [if_pos ho]
    rw [e1] at HR
    clear ho e1
    go_enter Tryz.func66, Tryz.ntmps66
    go_wp2_with (go_at_call 81; (with_reducible refine HR.out.mono ?_); rintro e w1 ⟨rfl, rfl⟩)
    go_ret2
    unfold ReadPost
    rw [HV.out]
    exact ⟨none, 0, rfl, World.ownsRow_nil _ _ _ _, h, Turns.refl _ _⟩
  | false =>
    cases ht : d.there i with
    | false =>
      have HV : Hid (d.read i = (d, [], 10)) := by show _ = _; unfold Dk.read; rw [ho, ht]; rfl
      have e1 : d.reach i = 10 := by unfold Dk.reach; rw [ho, ht]; rfl
      rw [e1] at HR
      clear ho ht e1
      go_enter Tryz.func66, Tryz.ntmps66
      go_wp2_with (go_at_call 81; (with_reducible refine HR.out.mono ?_); rintro e w1 ⟨rfl, rfl⟩)
      go_ret2
      unfold ReadPost
      rw [HV.out]
      exact ⟨none, 0, rfl, World.ownsRow_nil _ _ _ _, h, Turns.refl _ _⟩
    | true =>
      have HV : Hid (d.read i = ({ d with reads := d.reads + 1 }, d.now i.toNat, 0)) := by show _ = _; unfold Dk.read; rw [ho, ht]; rfl
      have e1 : d.reach i = 0 := by unfold Dk.reach; rw [ho, ht]; rfl
      rw [e1] at HR
      obtain ⟨k, rfl, hk⟩ := there_nat ht
      rw [Int.toNat_natCast] at HV
      obtain ⟨a, ca, b, cb, n, V, ends, lf, h⟩ := h
      have HP := Lib.hid h.count6
      have HA := Lib.hid (aadd_any g 6 d.reads w (by unfold Dk.load at hl; omega) h.c6 (h.fz 6))
      have hn := h.size
      have hmany := h.good.many
      have hcb := h.capb
      have hrb := h.count6.last.rb (256 * k) 256 (by rw [Dk.image_length h.count6.good.fit]; show _ ≤ 256 * d.safe.length; omega)
      have hnow : ({ d with reads := d.reads + 1 } : Dk).image = d.image := Dk.image_same rfl rfl
      rw [hnow, Dk.image_get h.good.fit k hk] at hrb
      have h256 : (d.now k).length = 256 := Dk.fit_now h.good.fit hk
      obtain ⟨L, hL⟩ : ∃ L, L = d.now k := ⟨_, rfl⟩
      rw [← hL] at hrb HV h256
      obtain ⟨W, hW⟩ : ∃ W, W = w.setCell ⟨g, 6, none⟩ (.int .i64 ((d.reads + 1 : Nat) : Int)) := ⟨_, rfl⟩
      have c1 : W.cell? ⟨g, 1, none⟩ = some (.slice (some ⟨b, 0, none⟩) n cb) := by rw [hW]; exact h.count6.c1
      rw [← hW] at hrb HA HP
      have hz : W.heap.size = w.heap.size := by rw [hW]; simp [World.setCell]
      have HT : Hid (Turns w W F F) := by show Turns _ _ _ _; rw [hW]; exact Turns.set_ h.fg 6 _
      have HB := Lib.hid (block_of b n cb k W (by omega) (by omega) hcb.1 hcb.2)
      have HC := Lib.hid (sclone_any L _ (cb - 256 * k) _ W hrb (by omega))
      rw [h256] at HC
      have H256 := Lib.hid h256
      have HZ := Lib.hid hz
      clear hW hL h ho ht e1 hk hn hmany hcb hrb hnow h256 hz hl
      go_enter Tryz.func66, Tryz.ntmps66
      go_wp2_with (first
        | (go_at_call 81; (with_reducible refine HR.out.mono ?_); rintro e w1 ⟨rfl, rfl⟩)
        | (go_at_call 82; (with_reducible refine HA.out.mono ?_); rintro e w1 ⟨rfl, rfl⟩)
        | (go_at_call 75; (with_reducible refine HB.out.mono ?_); rintro e w2 ⟨rfl, rfl⟩)
        | (go_at_call 51; (with_reducible refine HC.out.mono ?_); rintro e w3 ⟨A3, c3, rfl, ho3, hb3⟩))
      go_ret2
      unfold ReadPost
      rw [HV.out]
      refine ⟨A3, c3, by simp only [H256.out]; rfl, by rw [← HZ.out]; exact ho3, PDisk.below ⟨_, _, _, _, _, _, _, _, HP.out⟩ hb3, HT.out.trans (Turns.of_below hb3 F)⟩
end
section
namespace Wal
def Cnt (sec : Sec) (N : Nat) (least most : Int) (j : Nat) : Prop := j < N ∧ (sec j).2 = 0 ∧ (sec j).1.number = (j : Int) ∧ least ≤ (sec j).1.epoch ∧ (sec j).1.epoch ≤ most
def takeW (sec : Sec) (at_ k : Nat) : List Sd := (List.range k).map fun i => (sec (at_ + i)).1
theorem takeW_succ (sec : Sec) (at_ k : Nat) : takeW sec at_ (k + 1) = takeW sec at_ k ++ [(sec (at_ + k)).1] := by
  unfold takeW
  rw [List.range_succ, List.map_append]
  rfl
theorem takeW_length (sec : Sec) (at_ k : Nat) : (takeW sec at_ k).length = k := by simp [takeW]
section
variable {sec : Sec} {N at_ : Nat} {e least most : Int} {t : List UInt8}
theorem rec_cnt (h1 : least ≤ e) (h2 : e ≤ most) (h : RecAt sec N at_ e t) {i : Nat} (hi : i < needN t.length) : Cnt sec N least most (at_ + i) := by
  have h3 := h.2.2.2 i hi
  refine ⟨by have := h.2.2.1; omega, by rw [h3], by rw [h3]; exact part_number i, by rw [h3]; exact h1, by rw [h3]; exact h2⟩
theorem rec_first (h : RecAt sec N at_ e t) : (sec at_).1.kind = 2 ∧ (sec at_).1.left = ((needN t.length - 1 : Nat) : Int) := by
  have h3 := h.2.2.2 0 h.1
  rw [Nat.add_zero] at h3
  rw [h3]
  exact ⟨rfl, by rw [part_left]; rfl⟩
theorem rec_none_first (h : ¬ Cnt sec N least most at_ ∨ (sec at_).1.kind ≠ 2) : recordW sec N at_ least most = none := by
  cases hr : recordW sec N at_ least most with
  | none => rfl
  | some x =>
    obtain ⟨t, n⟩ := x
    obtain ⟨e, h1, h2, h3, _⟩ := rec_only hr
    rcases h with h | h
    · exact absurd (rec_cnt h1 h2 h3 h3.1) h
    · exact absurd (rec_first h3).1 h
theorem rec_none_later {k : Nat} (hk : (k : Int) ≤ (sec at_).1.left) (h : ¬ Cnt sec N least most (at_ + k)) : recordW sec N at_ least most = none := by
  cases hr : recordW sec N at_ least most with
  | none => rfl
  | some x =>
    obtain ⟨t, n⟩ := x
    obtain ⟨e, h1, h2, h3, _⟩ := rec_only hr
    have h4 := (rec_first h3).2
    have h5 := h3.1
    exact absurd (rec_cnt h1 h2 h3 (i := k) (by omega)) h
theorem rec_all (hsn : Sane sec) {L : Nat} (hk : (sec at_).1.kind = 2) (hc : ∀ i, i ≤ L → Cnt sec N least most (at_ + i)) (hL : (sec at_).1.left = (L : Int)) :
    recordW sec N at_ least most = if (joinS (takeW sec at_ (L + 1))).2 = true then some ((joinS (takeW sec at_ (L + 1))).1, L + 1) else none := by
  have hc0 := hc 0 (Nat.zero_le _)
  rw [Nat.add_zero] at hc0
  have e1 : takeW sec at_ (L + 1) = (List.range (L + 1)).map fun i => (sec (at_ + i)).1 := rfl
  have hlen := takeW_length sec at_ (L + 1)
  cases hj : (joinS (takeW sec at_ (L + 1))).2 with
  | true =>
    rw [if_pos rfl]
    obtain ⟨x, r, hx⟩ : ∃ x r, takeW sec at_ (L + 1) = x :: r := by
      cases h : takeW sec at_ (L + 1) with
      | nil => rw [h] at hlen; cases hlen
      | cons x r => exact ⟨x, r, rfl⟩
    have hx0 : x = (sec at_).1 := by
      have h5 := congrArg (fun l => l[0]?) (hx.symm.trans e1)
      simp only [List.getElem?_cons_zero, List.getElem?_map, List.getElem?_range (Nat.succ_pos L), Option.map_some, Option.some.injEq] at h5
      exact h5
    rw [hx] at hj ⊢
    unfold joinS at hj ⊢
    simp only [] at hj ⊢
    by_cases hsp : splitS x ((x :: r).flatMap (·.data)) = (x :: r, 0)
    · rw [if_pos hsp]
      simp only []
      obtain ⟨t, ht⟩ : ∃ t, t = (x :: r).flatMap (·.data) := ⟨_, rfl⟩
      rw [← ht] at hsp ⊢
      rcases split_cases x t with ⟨h6, h7⟩ | ⟨_, h7⟩
      · rw [hsp] at h6
        simp only [Prod.mk.injEq, and_true] at h6
        have hm : L + 1 = needN t.length := by rw [← hlen, hx, h6]; simp
        have h0 : needN t.length ≤ 65536 := by
          unfold splitS at hsp
          rw [if_neg h7] at hsp
          by_cases hb : 65536 < needN t.length
          · rw [if_pos hb] at hsp; simp at hsp
          · omega
        have hR : RecAt sec N at_ (sec at_).1.epoch t := by
          refine ⟨by omega, h0, by have := (hc L (Nat.le_refl _)).1; omega, fun i hi => ?_⟩
          have h8 := hc i (by omega)
          have h9 : (sec (at_ + i)).1 = x.part t (needN t.length) i := by
            have h5 := congrArg (fun l => l[i]?) (e1.symm.trans (hx.trans h6))
            simp only [List.getElem?_map, List.getElem?_range hi, List.getElem?_range (show i < L + 1 by omega), Option.map_some, Option.some.injEq] at h5
            exact h5
          refine Prod.ext ?_ h8.2.1
          show (sec (at_ + i)).1 = partW at_ _ t i
          rw [h9, hx0]
          unfold partW base Sd.part
          simp only [Sd.mk.injEq, and_true, true_and]
          exact ⟨by rw [hk], by rw [hc0.2.2.1]⟩
        rw [rec_of hsn hR hc0.2.2.2.1 hc0.2.2.2.2, hm]
      · rw [hsp] at h7; exact absurd rfl h7
    · rw [if_neg hsp] at hj; cases hj
  | false =>
    rw [if_neg (by simp)]
    cases hr : recordW sec N at_ least most with
    | none => rfl
    | some x =>
      exfalso
      obtain ⟨t, n⟩ := x
      obtain ⟨e, h1, h2, h3, _⟩ := rec_only hr
      have h4 := (rec_first h3).2
      have h5 := h3.1
      have hm : L + 1 = needN t.length := by omega
      have hsp := split_rec hsn h3
      have hjj := join_split (base at_ e) t (by rw [hsp])
      rw [hsp] at hjj
      have h6 : takeW sec at_ (L + 1) = (List.range (needN t.length)).map (partW at_ e t) := by
        rw [e1, hm]
        refine List.map_congr_left fun i hi => ?_
        rw [h3.2.2.2 i (List.mem_range.1 hi)]
      rw [h6] at hj
      have : joinS ((List.range (needN t.length)).map (partW at_ e t)) = (t, true) := hjj
      rw [this] at hj
      cases hj
theorem recs_sum : ∀ (f a : Nat), (recordsW sec N least most f a).2 = a + ((recordsW sec N least most f a).1.map fun t => needN t.length).sum
  | 0, a => rfl
  | f + 1, a => by
    rw [recordsW]
    cases hr : recordW sec N a least most with
    | none => rfl
    | some x =>
      obtain ⟨t, n⟩ := x
      obtain ⟨e, _, _, _, h4⟩ := rec_only hr
      have := recs_sum f (a + n)
      simp only [List.map_cons, List.sum_cons]
      rw [this, h4]
      omega
end
end Wal
end
section
open Go.RowKit
theorem no8_sec (a b c d : Int) (A : Option Addr) (n k : Nat) : No8 #[.int .i64 a, .int .i64 b, .int .i64 c, .int .i64 d, .slice A n k] := by
  intro j z
  match j with
  | 0 => simp
  | 1 => simp
  | 2 => simp
  | 3 => simp
  | 4 => simp
  | j + 5 => simp
theorem field_any (g : Nat) (n : Int) (st : St) (w : World) (h : Cur w g st) :
    Calls Tryz.prog 105 #[.func (.func 88) #[.pointer (some ⟨g, 0, none⟩)] #[], .int .i64 n] w fun e w' => e = .returned (.int .i64 (fieldZ (stepTake n st).2)) ∧ Cur w' g (stepTake n st).1 ∧ Only w w' g := by
  have ht := take_any g n st w h
  have hle : (stepTake n st).2.length ≤ 1048576 := by
    rcases st with _ | L
    · simp [stepTake]
    · obtain ⟨_, _, _, _, _, hl⟩ := h
      simp only [stepTake]
      split
      · simp
      · simp only [List.length_take]; omega
  obtain ⟨r, hr⟩ : ∃ r, r = stepTake n st := ⟨_, rfl⟩
  rw [← hr] at ht hle ⊢
  clear hr h
  obtain ⟨st', L⟩ := r
  simp only at hle ⊢
  obtain ⟨q, hq⟩ : ∃ q, q = L.length := ⟨_, rfl⟩
  obtain ⟨u1, hu1⟩ : ∃ q, q = (unfixR L).1 := ⟨_, rfl⟩
  obtain ⟨u2, hu2⟩ : ∃ q, q = (unfixR L).2 := ⟨_, rfl⟩
  have HT : Hid (Calls Tryz.prog 88 #[.pointer (some ⟨g, 0, none⟩), .int .i64 n] w fun e w' => ∃ A c, e = .returned (.slice A q c) ∧ Hid (RB w' w'.heap.size A L ∧ Cur w' g st' ∧ Only w w' g)) := by
    refine ht.mono fun e w' hh => ?_
    obtain ⟨A, c, he, h2, h3, h4⟩ := hh
    rw [← hq] at he
    exact ⟨A, c, he, h2, h3, h4⟩
  have HU : Hid (∀ W (A : Option Addr) (c : Nat), RB W W.heap.size A L → Calls Tryz.prog 115 #[.slice A q c] W fun e w' => e = .returned (.tuple #[.int .i64 (u1 : Int), .int .i64 (u2 : Int)]) ∧ W = w') := fun W A c h => by
    rw [hq, hu1, hu2]
    exact unfix_any L A c _ W h hle
  have HV : Hid (fieldZ L = if u2 = 0 then (u1 : Int) else -1) := by show _ = _; unfold fieldZ; rw [hu1, hu2]
  clear ht hq hu1 hu2 hle
  by_cases h2 : u2 = 0
  · rw [if_pos h2] at HV
    rw [HV.out]
    subst h2
    go_enter Tryz.func105, Tryz.ntmps105
    go_wp2_with (first
      | (go_at_call 88; (with_reducible refine HT.out.mono ?_); rintro e w1 ⟨A, c, rfl, hh⟩; have hrb := hh.out.1)
      | (go_at_call 115; (with_reducible refine (HU.out _ _ _ hrb).mono ?_); rintro e w2 ⟨rfl, rfl⟩))
    go_ret
    exact ⟨rfl, hh.out.2.1, hh.out.2.2⟩
  · rw [if_neg h2] at HV
    rw [HV.out]
    have e0 : ((u2 : Int) != 0) = true := by simp; omega
    have e1 : ((u2 : Int) == 0) = false := by simp; omega
    go_enter Tryz.func105, Tryz.ntmps105
    go_wp2_with (first
      | (go_at_call 88; (with_reducible refine HT.out.mono ?_); rintro e w1 ⟨A, c, rfl, hh⟩; have hrb := hh.out.1)
      | (go_at_call 115; (with_reducible refine (HU.out _ _ _ hrb).mono ?_); rintro e w2 ⟨rfl, rfl⟩))
    go_ret
    exact ⟨rfl, hh.out.2.1, hh.out.2.2⟩
end
section
open Go.RowKit
theorem sneed_any (n : Nat) (hn : n ≤ 1000000000) (w : World) : Calls Tryz.prog 45 #[.int .i64 (n : Int)] w fun e w' => e = .returned (.int .i64 (needN n : Int)) ∧ w = w' := by
  by_cases h : n = 0
  · subst h
    have d0 : decide (((0 : Nat) : Int) ≤ 0) = true := by decide
    go_enter Tryz.func45, Tryz.ntmps45
    go_wp2
    go_ret
    exact ⟨rfl, rfl⟩
  · have d0 : decide ((n : Int) ≤ 0) = false := decide_eq_false (by omega)
    have d1 : decide (n = 0) = false := decide_eq_false h
    have d2 : decide (n ≤ 0) = false := decide_eq_false (by omega)
    have u0 : (0 : Int) ≤ (n : Int) - 1 := by omega
    have e1 : IntKind.i64.wrap ((n : Int) - 1) = (n : Int) - 1 := IntWalk.i64_in _ (by omega)
    have e2 : ((n : Int) - 1).tdiv 48 = ((n : Int) - 1) / 48 := Int.tdiv_eq_ediv_of_nonneg u0
    have e4 : ((n : Int) - 1) / 48 + 1 = (needN n : Int) := by unfold needN; omega
    have e3 : IntKind.i64.wrap (((n : Int) - 1) / 48 + 1) = (needN n : Int) := by rw [IntWalk.i64_in _ (by omega), e4]
    have HE := Lib.hid e4
    clear e4
    go_enter Tryz.func45, Tryz.ntmps45
    go_wp2
    go_ret
    exact ⟨by first | rfl | rw [← HE.out], rfl⟩
def Sd.headAt (s : Sd) (n i : Nat) : Sd := ⟨if i = 0 then s.kind else s.kind + 1, s.epoch, s.number + (i : Int), ((n - 1 - i : Nat) : Int), []⟩
theorem Tryz.secBuild4 (k e n l : Int) (w : World) : Sem.run Tryz.prog (Instr.build 49 #[(0, .int .i64 k), (1, .int .i64 e), (2, .int .i64 n), (3, .int .i64 l)]) w = .ok (.agg #[.int .i64 k, .int .i64 e, .int .i64 n, .int .i64 l, .slice none 0 0]) w := by kernel_rfl
theorem at_any (s : Sd) (A : Option Addr) (c : Nat) (n i : Nat) (w : World) (hi : i < n) (hn : n ≤ 1000000) (hnu : IntKind.i64.wrap (s.number + (i : Int)) = s.number + (i : Int)) (hk : i ≠ 0 → IntKind.i64.wrap (s.kind + 1) = s.kind + 1) :
    Calls Tryz.prog 87 #[secV s A c, .int .i64 (i : Int), .int .i64 (n : Int)] w fun e w' => e = .returned (secV (s.headAt n i) none 0) ∧ Below w.heap.size w w' := by
  obtain ⟨k, ep, nu, l, D⟩ := s
  obtain ⟨m, hm⟩ : ∃ m, m = D.length := ⟨_, rfl⟩
  simp only at hnu hk
  unfold secV Sd.headAt
  simp only
  rw [← hm]
  obtain ⟨nz, hnz⟩ : ∃ z : Int, z = nu + (i : Int) := ⟨_, rfl⟩
  obtain ⟨lz, hlz⟩ : ∃ q, q = n - 1 - i := ⟨_, rfl⟩
  rw [← hnz] at hnu
  rw [← hnz, ← hlz]
  have y0 : IntKind.i64.wrap (nu + (i : Int)) = nz := by rw [← hnz]; exact hnu
  have y1 : IntKind.i64.wrap ((n : Int) - 1) = (n : Int) - 1 := IntWalk.i64_in _ (by omega)
  have y2 : IntKind.i64.wrap ((n : Int) - 1 - (i : Int)) = (lz : Int) := by rw [IntWalk.i64_in _ (by omega)]; omega
  have b4 := fun k w' => Tryz.secBuild4 k ep nz (lz : Int) w'
  clear hm hnz hlz hnu
  by_cases hz : i = 0
  · have HZ := Lib.hid hz
    have d0 : decide ((0 : Int) < (i : Int)) = false := decide_eq_false (by omega)
    have d1 : decide ((i : Int) > 0) = false := decide_eq_false (by omega)
    have d2 : decide (0 < i) = false := decide_eq_false (by omega)
    clear hk hz
    go_enter Tryz.func87, Tryz.ntmps87
    go_wp2
    refine bodyPost_ret (v := .agg #[.int .i64 k, .int .i64 ep, .int .i64 nz, .int .i64 (lz : Int), .slice none 0 0]) (by simp [results, Tryz.results87, go_sem]) rfl ⟨rfl, ?_⟩
    exact (((Below.refl _ _).alloc (Nat.le_refl _) _).alloc (by simp) _).alloc (by simp; omega) _
  · have HZ := Lib.hid hz
    have y3 : IntKind.i64.wrap (k + 1) = k + 1 := hk hz
    have d0 : decide ((0 : Int) < (i : Int)) = true := decide_eq_true (by omega)
    have d1 : decide ((i : Int) > 0) = true := decide_eq_true (by omega)
    have d2 : decide (0 < i) = true := decide_eq_true (by omega)
    clear hk hz
    go_enter Tryz.func87, Tryz.ntmps87
    go_wp2
    refine bodyPost_ret (v := .agg #[.int .i64 (k + 1), .int .i64 ep, .int .i64 nz, .int .i64 (lz : Int), .slice none 0 0]) (by simp [results, Tryz.results87, go_sem]) rfl ⟨rfl, ?_⟩
    exact (((Below.refl _ _).alloc (Nat.le_refl _) _).alloc (by simp) _).alloc (by simp; omega) _
def Sd.same (a b : Sd) : Bool := decide (a.kind = b.kind) && (decide (a.epoch = b.epoch) && (decide (a.number = b.number) && decide (a.left = b.left)))
theorem same_any (a b : Sd) (A A' : Option Addr) (c c' : Nat) (w : World) : Calls Tryz.prog 99 #[secV a A c, secV b A' c'] w fun e w' => e = .returned (.bool (a.same b)) ∧ Below w.heap.size w w' := by
  obtain ⟨k, ep, n, l, D⟩ := a
  obtain ⟨k', ep', n', l', D'⟩ := b
  obtain ⟨m, hm⟩ : ∃ m, m = D.length := ⟨_, rfl⟩
  obtain ⟨m', hm'⟩ : ∃ m, m = D'.length := ⟨_, rfl⟩
  unfold secV Sd.same
  simp only
  rw [← hm, ← hm']
  have HB : Hid (Below w.heap.size w ((w.alloc (.cells #[.int .i64 k, .int .i64 ep, .int .i64 n, .int .i64 l, .slice A m c] 49)).alloc (.cells #[.int .i64 k', .int .i64 ep', .int .i64 n', .int .i64 l', .slice A' m' c'] 49))) := ((Below.refl _ _).alloc (Nat.le_refl _) _).alloc (by simp) _
  clear hm hm'
  by_cases h0 : k = k'
  rotate_left
  · have HM : Hid ((decide (k = k') && (decide (ep = ep') && (decide (n = n') && decide (l = l')))) = false) := by show _ = _; simp; omega
    have d0 : decide (k = k') = false := decide_eq_false h0
    have e0 : (k == k') = false := by simp; exact h0
    rw [HM.out]
    clear h0
    go_enter Tryz.func99, Tryz.ntmps99
    go_wp2
    go_ret
    exact ⟨rfl, HB.out⟩
  subst h0
  by_cases h1 : ep = ep'
  rotate_left
  · have HM : Hid ((decide (k = k) && (decide (ep = ep') && (decide (n = n') && decide (l = l')))) = false) := by show _ = _; simp; omega
    have d1 : decide (ep = ep') = false := decide_eq_false h1
    have e1 : (ep == ep') = false := by simp; exact h1
    rw [HM.out]
    clear h1
    go_enter Tryz.func99, Tryz.ntmps99
    go_wp2
    go_ret
    exact ⟨rfl, HB.out⟩
  subst h1
  by_cases h2 : n = n'
  rotate_left
  · have HM : Hid ((decide (k = k) && (decide (ep = ep) && (decide (n = n') && decide (l = l')))) = false) := by show _ = _; simp; omega
    have d2 : decide (n = n') = false := decide_eq_false h2
    have e2 : (n == n') = false := by simp; exact h2
    rw [HM.out]
    clear h2
    go_enter Tryz.func99, Tryz.ntmps99
    go_wp2
    go_ret
    exact ⟨rfl, HB.out⟩
  subst h2
  by_cases h3 : l = l'
  rotate_left
  · have HM : Hid ((decide (k = k) && (decide (ep = ep) && (decide (n = n) && decide (l = l')))) = false) := by show _ = _; simp; omega
    have d3 : decide (l = l') = false := decide_eq_false h3
    have e3 : (l == l') = false := by simp; exact h3
    rw [HM.out]
    clear h3
    go_enter Tryz.func99, Tryz.ntmps99
    go_wp2
    go_ret
    exact ⟨rfl, HB.out⟩
  subst h3
  have HM : Hid ((decide (k = k) && (decide (ep = ep) && (decide (n = n) && decide (l = l)))) = true) := by show _ = _; simp
  rw [HM.out]
  go_enter Tryz.func99, Tryz.ntmps99
  go_wp2
  go_ret
  exact ⟨rfl, HB.out⟩
def Sd.fills (s : Sd) : Bool := if 0 < s.left then decide (s.data.length = 48) else decide (0 < s.data.length)
theorem fills_any (s : Sd) (A : Option Addr) (c : Nat) (w : World) : Calls Tryz.prog 100 #[secV s A c] w fun e w' => e = .returned (.bool s.fills) ∧ Below w.heap.size w w' := by
  obtain ⟨k, ep, n, l, D⟩ := s
  obtain ⟨m, hm⟩ : ∃ m, m = D.length := ⟨_, rfl⟩
  unfold secV Sd.fills
  simp only
  rw [← hm]
  have HB : Hid (Below w.heap.size w (w.alloc (.cells #[.int .i64 k, .int .i64 ep, .int .i64 n, .int .i64 l, .slice A m c] 49))) := (Below.refl _ _).alloc (Nat.le_refl _) _
  clear hm
  by_cases h0 : 0 < l
  · rw [if_pos h0]
    have d0 : decide (0 < l) = true := decide_eq_true h0
    have d1 : decide (l > 0) = true := decide_eq_true h0
    by_cases h1 : m = 48
    · have HM : Hid (decide (m = 48) = true) := decide_eq_true h1
      have e1 : ((m : Int) == 48) = true := by simp; omega
      rw [HM.out]
      clear h1
      go_enter Tryz.func100, Tryz.ntmps100
      go_wp2
      go_ret
      exact ⟨rfl, HB.out⟩
    · have HM : Hid (decide (m = 48) = false) := decide_eq_false h1
      have e1 : ((m : Int) == 48) = false := by simp; omega
      rw [HM.out]
      clear h1
      go_enter Tryz.func100, Tryz.ntmps100
      go_wp2
      go_ret
      exact ⟨rfl, HB.out⟩
  · rw [if_neg h0]
    have d0 : decide (0 < l) = false := decide_eq_false h0
    have d1 : decide (l > 0) = false := decide_eq_false h0
    by_cases h1 : 0 < m
    · have HM : Hid (decide (0 < m) = true) := decide_eq_true h1
      have e1 : decide ((0 : Int) < (m : Int)) = true := decide_eq_true (by omega)
      have e2 : decide ((m : Int) > 0) = true := decide_eq_true (by omega)
      rw [HM.out]
      go_enter Tryz.func100, Tryz.ntmps100
      go_wp2
      go_ret
      exact ⟨rfl, HB.out⟩
    · have HM : Hid (decide (0 < m) = false) := decide_eq_false h1
      have e1 : decide ((0 : Int) < (m : Int)) = false := decide_eq_false (by omega)
      have e2 : decide ((m : Int) > 0) = false := decide_eq_false (by omega)
      rw [HM.out]
      go_enter Tryz.func100, Tryz.ntmps100
      go_wp2
      go_ret
      exact ⟨rfl, HB.out⟩
end
section
open Go.RowKit
def GivesJo (r : List UInt8 × Bool) (w : World) (e : Ending) (w' : World) : Prop :=
  ∃ A c, e = .returned (.tuple #[.slice A r.1.length c, .bool r.2]) ∧ Own w' w.heap.size A r.1 c ∧ Below w.heap.size w w'
end
end Go.Proofs.YtghenhacndaelaaGreat
