/- Lemmas under the proofs of this place: DiskPFlush, SectPGet, DiskRRead, DiskRImage, WalAwM. No statement is proved here. -/
import Derived.Test.YtghenhacndaelaaGreatBu16
import Derived.Test.YtghenhacndaelaaGreatBu12
import Derived.Deep.RegionHeldLaw
set_option linter.unusedSimpArgs false
set_option linter.unusedVariables false
set_option maxRecDepth 100000
set_option maxHeartbeats 16000000
namespace Go.Proofs.YtghenhacndaelaaGreat
section
open Go.RowKit
section
variable {w w' : World} {g : Nat} {F : Nat → Prop} {d : Dk} {a ca b cb n : Nat} {V : Value} {ends : Bool} {lf : Int}
theorem PD.row (h : PD w g F d a ca b cb n V ends lf) (h0 : 0 < d.waits.length) : ∃ gv cv, V = .slice (some ⟨gv, 0, none⟩) d.waits.length cv ∧ gv ≠ a ∧ gv ≠ b ∧ gv ≠ g ∧ gv < w.heap.size ∧ d.waits.length ≤ cv ∧ cv ≤ 9223372036854775807 ∧
    (∀ i (hi : i < d.waits.length), w.cell? ⟨gv, i * 257, none⟩ = some (.int .i64 ((d.waits[i]).1 : Int)) ∧ ∀ j, j < 256 → w.cell? ⟨gv, i * 257 + 1 + j, none⟩ = (cells (d.waits[i]).2)[j]?) := by
  obtain ⟨n1, n2, n3, n4, n5⟩ := h.ne
  have hw := h.wait
  obtain ⟨c, rfl⟩ : ∃ c, c = V := ⟨_, rfl⟩
  rcases h.wait.2 with ⟨_, h1⟩ | ⟨k, cap, cur, rfl, h2, h3, h4, h5, h6, h7⟩
  · omega
  · refine ⟨k, cap, rfl, fun e => n4 (by simp [Value.ownBlock, e]), fun e => n5 (by simp [Value.ownBlock, e]), fun e => n3 (by simp [Value.ownBlock, e]), Blk.lt (t := 99) h3, h4, h5, fun i hi => ?_⟩
    have hx : ∀ x ∈ d.waits, x.2.length = 256 := fun x hx => (h.good.fit.2 x hx).2
    have hc := World.ownsRow.cells hw (g := k) rfl
    have ea : ∀ j, (⟨k, 0, none⟩ : Addr).add j = ⟨k, j, none⟩ := fun j => by unfold Addr.add; split <;> simp_all
    have hl := waitCells_length d.waits hx
    have hat : ∀ j, j < 257 → w.cell? ⟨k, i * 257 + j, none⟩ = (Value.int .i64 ((d.waits[i]).1 : Int) :: cells (d.waits[i]).2)[j]? := fun j hj => by
      have h8 := waitCells_get d.waits hx i hi j hj
      have hlt : i * 257 + j < (waitCells d.waits).length := by rw [hl]; omega
      have h9 := hc (i * 257 + j) _ (List.getElem?_eq_getElem hlt)
      rw [ea] at h9
      rw [h9, ← h8, List.getElem?_eq_getElem hlt]
    refine ⟨by first | (simp; done) | simpa using hat 0 (by omega), fun j hj => ?_⟩
    have := hat (1 + j) (by omega)
    rw [show i * 257 + 1 + j = i * 257 + (1 + j) by omega, this, show 1 + j = j + 1 by omega, List.getElem?_cons_succ]
end
theorem flush_end {w1 wr : World} {g : Nat} {F : Nat → Prop} {d : Dk} {a ca b cb n : Nat} {V : Value} {ends : Bool} {lf : Int} (h : PD w1 g F d a ca b cb n V ends lf) (ht : Turns w1 wr (fun k => k = a) (fun k => k = a)) (hA : Arr wr a (Dk.laid d.safe d.waits).flatten) :
    PD (wr.setCell ⟨g, 2, none⟩ (.slice none 0 0)) g F { d with safe := Dk.laid d.safe d.waits, waits := [] } a ca b cb n (.slice none 0 0) ends lf ∧ Turns w1 (wr.setCell ⟨g, 2, none⟩ (.slice none 0 0)) F F := by
  obtain ⟨n1, n2, n3, n4, n5⟩ := h.ne
  have hs : (Dk.laid d.safe d.waits).length = d.safe.length := Dk.laid_length _ _
  have t2 : Turns w1 (wr.setCell ⟨g, 2, none⟩ (.slice none 0 0)) F F := (ht.wide (E := F) (E' := F) (fun k hk => by rw [hk]; exact h.fa) (fun k hk => .inl hk)).trans (Turns.set_ h.fg 2 _)
  have b1 : Blk wr g 94 (diskCells a ca b cb n V ends lf d) := h.blk.turns ht n1
  refine ⟨⟨b1.set_ 2 (.slice none 0 0), by rw [hs]; exact h.size, h.capa, h.capb, hA.set_far (fun e => n1 e.symm) _, ?_, World.ownsRow_nil _ _ _ _, h.ab, h.fg, h.fa, h.fb, fun k hk => by simp [Value.ownBlock] at hk, fun k hk => Nat.lt_of_lt_of_le (h.flt k hk) t2.size,
    ⟨⟨Dk.laid_fit _ _ h.good.fit.1 (fun x hx => (h.good.fit.2 x hx).2), fun x hx => by cases hx⟩, by rw [hs]; exact h.good.few, by rw [hs]; exact h.good.many, h.good.left⟩, h.ends_, h.left_⟩, t2⟩
  rw [Dk.image_calm _ rfl, show ({ d with safe := Dk.laid d.safe d.waits, waits := [] } : Dk).safe = d.nows from Dk.laid_nows d, ← Dk.image_nows]
  exact (h.last.turns ht (fun e => h.ab e.symm)).set_far (fun e => n2 e.symm) _
theorem flush_in {w : World} {g : Nat} {F : Nat → Prop} {d : Dk} (h0 : PDisk w g F d) (ho : d.off = false) (hl : d.load ≤ 100000) (e1 : Dk) (hq : d.deed = (e1, true)) :
    Calls Tryz.prog 74 #[.pointer (some ⟨g, 0, none⟩)] w fun e w' => e = .returned (.int .i64 0) ∧ Deeds { e1 with safe := Dk.laid e1.safe e1.waits, waits := [], flushes := e1.flushes + 1 } F w w' g := by
  have z0 := fun w' => Tryz.dIsNil g w'
  have c3 : w.cell? ⟨g, 3, none⟩ = some (.bool false) := by
    obtain ⟨a, ca, b, cb, n, V, ends, lf, h⟩ := h0
    rw [← ho]; exact h.c3
  have HFa : Hid (Calls Tryz.prog 95 #[.pointer (some ⟨g, 0, none⟩)] w fun e w' => e = .returned (.bool false) ∧ Deeds e1 F w w' g) := by
    have := falls_any h0 ho
    rwa [hq] at this
  have HQ := Lib.hid hq
  have HL : Hid (e1.load ≤ 100000) := by
    have : d.deed.1.load ≤ 100000 := by
      unfold Dk.deed
      split
      · exact hl
      · split
        · exact hl
        · exact hl
    rwa [hq] at this
  clear hq hl h0 ho
  go_enter Tryz.func74, Tryz.ntmps74
  go_wp2_with (first
    | (go_at_call 95; (with_reducible refine HFa.out.mono ?_); rintro e w1 ⟨rfl, hP1, hT1⟩; obtain ⟨a, ca, b, cb, n, V, ends, lf, hP⟩ := hP1; obtain ⟨A, c, rfl, hc1, hc2⟩ := hP.vform; have k2 := hP.c2; have HP := Lib.hid hP; have HT := Lib.hid hT1; obtain ⟨m, hm⟩ : ∃ m, m = e1.waits.length := ⟨_, rfl⟩; rw [← hm] at k2 hc1; have Hm := Lib.hid hm; clear hP hT1 hm))
  go_loopw [20] (fun x wr => ∃ i : Nat, i ≤ m ∧ x = .int .i64 (i : Int) ∧ Hid (Turns w1 wr (fun k => k = a) (fun k => k = a)) ∧ Hid (Arr wr a (Dk.laid e1.safe (e1.waits.take i)).flatten)) (fun x _ => m - (intOf x).toNat)
  case atStart => exact ⟨0, by omega, rfl, Turns.refl _ _, by show Arr _ _ _; rw [List.take_zero]; exact HP.out.safe⟩
  case round =>
    obtain ⟨i, hi, rfl, HT2, HA⟩ := hrel
    have HPr : Hid (∀ k, k ≠ a → ∀ j, k < w1.heap.size → wr.cell? ⟨k, j, none⟩ = w1.cell? ⟨k, j, none⟩) := fun k hk j hlt => HT2.out.cell (p := ⟨k, j, none⟩) hlt hk
    have r2 : wr.cell? ⟨g, 2, none⟩ = some (.slice A m c) := by rw [HPr.out g HP.out.ne.1 2 (HP.out.flt g HP.out.fg)]; exact k2
    have r0 : wr.cell? ⟨g, 0, none⟩ = some (.slice (some ⟨a, 0, none⟩) n ca) := by rw [HPr.out g HP.out.ne.1 0 (HP.out.flt g HP.out.fg)]; exact HP.out.c0
    by_cases hlt : i < m
    · obtain ⟨gv, cv, hV, hva, hvb, hvg, hvl, hm1, hm2, hcell⟩ := HP.out.row (by have := Hm.out; omega)
      obtain ⟨rfl, -, rfl⟩ : A = some ⟨gv, 0, none⟩ ∧ m = e1.waits.length ∧ c = cv := by
        have := Hm.out
        simp only [Value.slice.injEq] at hV
        exact ⟨hV.1, this, hV.2.2⟩
      have hi2 : i < e1.waits.length := by have := Hm.out; omega
      obtain ⟨hcn, hcb⟩ := hcell i hi2
      obtain ⟨x, hx⟩ : ∃ x, x = e1.waits[i] := ⟨_, rfl⟩
      rw [← hx] at hcn hcb
      rw [← HPr.out gv hva _ hvl] at hcn
      have u0 : (0 : Int) ≤ (i : Int) := by omega
      have u1 : (i : Int) < (m : Int) := by omega
      have HA' := HA.out
      obtain ⟨sp, hsp⟩ := HA'
      have hfit := HP.out.good.fit
      have hxm : x ∈ e1.waits := by rw [hx]; exact List.getElem_mem hi2
      obtain ⟨hx1, hx2⟩ := hfit.2 x hxm
      obtain ⟨xn, xb⟩ := x
      simp only at hx1 hx2 hcn hcb
      have hsz := HP.out.size
      have hmany := HP.out.good.many
      have hlf : ∀ b ∈ Dk.laid e1.safe (e1.waits.take i), b.length = 256 := Dk.laid_fit _ _ hfit.1 (fun y hy => (hfit.2 y (List.mem_of_mem_take hy)).2)
      have hll : (Dk.laid e1.safe (e1.waits.take i)).length = e1.safe.length := Dk.laid_length _ _
      have hlen : (Dk.laid e1.safe (e1.waits.take i)).flatten.length = 256 * e1.safe.length := by rw [Dk.flatten_length hlf, hll]
      have HNew : Hid (∀ w7, Hid (Blk w7 a 5 (splice (cells (Dk.laid e1.safe (e1.waits.take i)).flatten ++ sp) (256 * xn) (cells xb)).toArray) → Arr w7 a (Dk.laid e1.safe (e1.waits.take (i + 1))).flatten) := by
        intro w7 h7
        have h7 := h7.out
        rw [splice_cells _ _ _ _ (by rw [hlen]; omega), ← Dk.flatten_set _ _ _ hlf (by rw [hll]; exact hx1) hx2] at h7
        refine ⟨sp, ?_⟩
        rw [List.take_succ_eq_append_getElem hi2, ← hx, Dk.laid_snoc]
        exact h7
      have Hcp : Hid ((cells xb).length = 256) := by show _ = _; rw [cells_length]; exact hx2
      have Hft : Hid (256 * xn + (cells xb).length ≤ (cells (Dk.laid e1.safe (e1.waits.take i)).flatten ++ sp).length) := by show _ ≤ _; rw [List.length_append, cells_length, cells_length, hlen]; omega
      obtain ⟨cur, hcur⟩ : ∃ cur, cur = cells (Dk.laid e1.safe (e1.waits.take i)).flatten ++ sp := ⟨_, rfl⟩
      rw [← hcur] at hsp HNew Hft
      have Hsp := Lib.hid hsp
      have HBl := fun W => Lib.hid (block_of a n ca xn W (by omega) (by omega) HP.out.capa.1 HP.out.capa.2)
      have HBl2 := Lib.hid HBl
      have HS := fun W => sa_all gv (i * 257 + 1) W
      have Hsrc : Hid (∀ j v, (cells xb)[j]? = some v → wr.cell? ((⟨gv, i * 257 + 1, none⟩ : Addr).add j) = some v) := by
        intro j v hv
        have hj : j < 256 := by have := (List.getElem?_eq_some_iff.1 hv).1; rw [Hcp.out] at this; exact this
        rw [add_at, HPr.out gv hva _ hvl, hcb j hj]; exact hv
      have Hg : Hid (∀ w7, Hid (Turns wr.drew w7 (fun k => k = a) (fun k => k = a)) → (w7.cell? ⟨g, 0, none⟩ = some (.slice (some ⟨a, 0, none⟩) n ca) ∧ w7.cell? ⟨gv, i * 257, none⟩ = some (.int .i64 (xn : Int))) ∧ Turns w1 w7 (fun k => k = a) (fun k => k = a)) := by
        intro w7 h7
        have hs := HT2.out.size
        refine ⟨⟨?_, ?_⟩, HT2.out.trans (Turns.of_drew h7.out)⟩
        · rw [h7.out.cell (p := ⟨g, 0, none⟩) (by have := HP.out.flt g HP.out.fg; show g < wr.heap.size; omega) HP.out.ne.1]; exact r0
        · rw [h7.out.cell (p := ⟨gv, i * 257, none⟩) (show gv < wr.heap.size by omega) hva]; exact hcn
      clear hV hcell hcb HA hsp hfit hxm hx1 hx2 hsz hmany hlf hll hlen hcur HBl
      go_wp2
      go_region_held_law (fun w' => w'.cell? ⟨g, 0, none⟩ = some (.slice (some ⟨a, 0, none⟩) n ca) ∧ w'.cell? ⟨gv, i * 257, none⟩ = some (.int .i64 (xn : Int)))
        (first | exact ⟨r0, hcn⟩ | exact (Hg.out w7 ht7).1)
        (first
          | (refine step_copy_foot rfl (.tmp 37) (.tmp 41) _ _ rfl 5 Tryz.underlying39 Tryz.size5 (some ⟨a, 256 * xn, none⟩) (some ⟨gv, i * 257 + 1, none⟩) 256 (ca - 256 * xn) 256 256 rfl rfl a (256 * xn) cur 5 Hsp.out.drew (cells xb) Hcp.out (fun _ => ⟨rfl, _, rfl, Hsrc.out⟩) Hft.out (cells_one _) ?_; intro w7 h7 ht7)
          | (go_at_call 75; (with_reducible refine (HBl2.out _).out.mono ?_); rintro e w6 ⟨rfl, rfl⟩))
      have HT7 := (Hg.out w7 ht7).2
      have HA7 := HNew.out w7 h7
      go_wp2
      refine ⟨⟨i + 1, by omega, by go_num, HT7, HA7⟩, ?_⟩
      simp [intOf]; omega
    · have him : i = m := by omega
      have hi2 : e1.waits.take i = e1.waits := by rw [him, Hm.out]; exact List.take_length
      have HA' := HA.out
      rw [hi2] at HA'
      have d0 : decide ((i : Int) < (m : Int)) = false := decide_eq_false (by omega)
      have d1 : decide (i < m) = false := decide_eq_false hlt
      have fz2 : wr.frozen? ⟨g, 2, none⟩ = false := by rw [HT2.out.frozen (p := ⟨g, 2, none⟩) (HP.out.flt g HP.out.fg) HP.out.ne.1]; exact HP.out.fz 2
      have HEnd := Lib.hid (flush_end HP.out HT2.out HA')
      have HAd : Hid (Calls Tryz.prog 82 #[.pointer (some ⟨g, 8, none⟩), .int .i64 1] (wr.setCell ⟨g, 2, none⟩ (.slice none 0 0)) fun e w' => w' = (wr.setCell ⟨g, 2, none⟩ (.slice none 0 0)).setCell ⟨g, 8, none⟩ (.int .i64 ((e1.flushes + 1 : Nat) : Int)) ∧ e = .returned (.int .i64 ((e1.flushes + 1 : Nat) : Int))) :=
        aadd_any g 8 e1.flushes _ (by have := HL.out; unfold Dk.load at this; omega) HEnd.out.1.c8 (HEnd.out.1.fz 8)
      clear him hi2 HA' HA hlt hi
      go_wp2_with (first
        | (go_at_call 82; (with_reducible refine HAd.out.mono ?_); rintro e w9 ⟨rfl, rfl⟩))
      go_ret
      exact ⟨rfl, ⟨_, _, _, _, _, _, _, _, HEnd.out.1.count8⟩, (HT.out.trans HEnd.out.2).trans (Turns.set_ HP.out.fg 8 _)⟩
theorem Dk.flush_yes {d e1 : Dk} (ho : d.off = false) (hq : d.deed = (e1, true)) : d.flush = ({ e1 with safe := Dk.laid e1.safe e1.waits, waits := [], flushes := e1.flushes + 1 }, 0) := by
  unfold Dk.flush; rw [ho, hq]; rfl
theorem Dk.flush_no {d e1 : Dk} (ho : d.off = false) (hq : d.deed = (e1, false)) : d.flush = (e1, 9) := by
  unfold Dk.flush; rw [ho, hq]; rfl
theorem flush_any {w : World} {g : Nat} {F : Nat → Prop} {d : Dk} (h : PDisk w g F d) (hl : d.load ≤ 100000) :
    Calls Tryz.prog 74 #[.pointer (some ⟨g, 0, none⟩)] w fun e w' => e = .returned (.int .i64 d.flush.2) ∧ Deeds d.flush.1 F w w' g := by
  have z0 := fun w' => Tryz.dIsNil g w'
  cases ho : d.off with
  | true =>
    have HV : Hid (d.flush = (d, 9)) := by show _ = _; unfold Dk.flush; rw [if_pos ho]
    have c3 : w.cell? ⟨g, 3, none⟩ = some (.bool true) := by
      obtain ⟨a, ca, b, cb, n, V, ends, lf, h⟩ := h
      rw [← ho]; exact h.c3
    clear ho hl
    go_enter Tryz.func74, Tryz.ntmps74
    go_wp2
    go_ret
    rw [HV.out]
    exact ⟨rfl, h, Turns.refl _ _⟩
  | false =>
    obtain ⟨e1, q, hq⟩ : ∃ e1 q, d.deed = (e1, q) := ⟨_, _, rfl⟩
    cases q with
    | true =>
      rw [Dk.flush_yes ho hq]
      exact flush_in h ho hl e1 hq
    | false =>
      rw [Dk.flush_no ho hq]
      have c3 : w.cell? ⟨g, 3, none⟩ = some (.bool false) := by
        obtain ⟨a, ca, b, cb, n, V, ends, lf, h⟩ := h
        rw [← ho]; exact h.c3
      have HFa : Hid (Calls Tryz.prog 95 #[.pointer (some ⟨g, 0, none⟩)] w fun e w' => e = .returned (.bool true) ∧ Deeds e1 F w w' g) := by
        have := falls_any h ho
        rwa [hq] at this
      clear ho hq hl h
      go_enter Tryz.func74, Tryz.ntmps74
      go_wp2_with (go_at_call 95; (with_reducible refine HFa.out.mono ?_); rintro e w1 ⟨rfl, hP1⟩)
      go_ret
      exact ⟨rfl, hP1⟩
end
section
open Go.RowKit
theorem taken_bad (M : List UInt8) (hM : M.length = 60) (g : Nat) (w : World) (h : Cur w g (some M)) (hf : ¬ Formed M) :
    Calls Tryz.prog 85 #[.pointer (some ⟨g, 0, none⟩)] w (GivesT (.zero, false) g w) := by
  by_cases h48 : (M.getD 1 0).toNat ≤ 48
  · cases hm : Sd.may ⟨((M.getD 0 0).toNat : Int), capZ (unfixL ((M.drop 4).take 4)), capZ (unfixL ((M.drop 8).take 4)), (unfixL ((M.drop 2).take 2) : Int), (M.drop 12).take (M.getD 1 0).toNat⟩ with
    | false => exact taken_no M hM g w h h48 hm
    | true =>
      refine taken_odd M hM g w h h48 hm fun hz => hf ?_
      obtain ⟨a1, a2, a3, a4, a5, a6, a7, a8, a9⟩ := (Sd.may_iff _).1 hm
      simp only at a1 a2 a3 a4 a5 a6 a7 a8 a9
      refine ⟨by omega, h48, ?_, ?_, by rw [← List.drop_drop]; exact hz⟩
      · unfold capZ at a3
        split at a3
        · assumption
        · omega
      · unfold capZ at a5
        split at a5
        · assumption
        · omega
  · exact taken_long M hM g w h (by omega)
theorem taken_good (M : List UInt8) (hM : M.length = 60) (g : Nat) (w : World) (h : Cur w g (some M)) (hf : Formed M) :
    Calls Tryz.prog 85 #[.pointer (some ⟨g, 0, none⟩)] w (GivesTn (secOf M, true) g w) := by
  obtain ⟨h1, h2, h3, h4, h5⟩ := hf
  have hlt := (M.getD 0 0).toNat_lt
  have e1 : capZ (unfixL ((M.drop 4).take 4)) = (unfixL ((M.drop 4).take 4) : Int) := by unfold capZ; rw [if_pos h3]
  have e2 : capZ (unfixL ((M.drop 8).take 4)) = (unfixL ((M.drop 8).take 4) : Int) := by unfold capZ; rw [if_pos h4]
  have l2 := unfixL_lt ((M.drop 2).take 2)
  have l3 : ((M.drop 2).take 2).length = 2 := by simp; omega
  rw [l3] at l2
  have key := taken_ok M hM g w h h2 (by
    rw [Sd.may_iff, e1, e2]
    have : (256 : Nat) ^ 2 = 65536 := rfl
    refine ⟨?_, ?_, ?_, ?_, ?_, ?_, ?_, ?_, ?_⟩
    · show (1 : Int) ≤ ((M.getD 0 0).toNat : Int); omega
    · show ((M.getD 0 0).toNat : Int) ≤ 255; omega
    · show (0 : Int) ≤ (unfixL ((M.drop 4).take 4) : Int); omega
    · show (unfixL ((M.drop 4).take 4) : Int) ≤ 2147483647; omega
    · show (0 : Int) ≤ (unfixL ((M.drop 8).take 4) : Int); omega
    · show (unfixL ((M.drop 8).take 4) : Int) ≤ 2147483647; omega
    · show (0 : Int) ≤ (unfixL ((M.drop 2).take 2) : Int); omega
    · show (unfixL ((M.drop 2).take 2) : Int) ≤ 65535; omega
    · show ((M.drop 12).take (M.getD 1 0).toNat).length ≤ 48
      rw [List.length_take]; omega) (by rw [List.drop_drop]; exact h5)
  rw [e1, e2] at key
  exact key
def GivesSn (r : Sd × Int) (w : World) (e : Ending) (w' : World) : Prop :=
  ∃ A c, e = .returned (.tuple #[secV r.1 A c, .int .i64 r.2]) ∧ RB w' w'.heap.size A r.1.data ∧ (∀ ad, A = some ad → w.heap.size ≤ ad.block) ∧ Below w.heap.size w w'
theorem sget_size (b : List UInt8) (n : Nat) (A : Option Addr) (c : Nat) (w : World) (hn : n = b.length) (h : n ≠ 64) :
    Calls Tryz.prog 68 #[.slice A n c] w (GivesSn (getS b) w) := by
  have HV : Hid (getS b = (.zero, 11)) := getS_size (by omega)
  have nb := fun w' => Tryz.secBuild0 w'
  have a24 := fun w' => Tryz.aggSec w'
  have s24 := fun w' => Tryz.sizeSec w'
  have d0 : (((n : Int) != 64)) = true := by simp; omega
  have d1 : ((n : Int) == 64) = false := by simp; omega
  clear hn h
  go_enter Tryz.func68, Tryz.ntmps68
  go_wp2
  refine bodyPost_ret (v := .tuple #[.agg #[.int .i64 0, .int .i64 0, .int .i64 0, .int .i64 0, .slice none 0 0], .int .i64 11]) (by simp [results, Tryz.results68, go_sem]) rfl ⟨none, 0, by rw [HV.out]; rfl, by rw [HV.out]; exact RB.none_ _ _, (fun ad e => nomatch e), (Below.refl _ _).alloc (Nat.le_refl _) _⟩
theorem sget_sum (b : List UInt8) (A : Option Addr) (c : Nat) (w : World) (h64 : b.length = 64) (hr : RB w w.heap.size A b) (hc : 64 ≤ c) (hcm : c ≤ 9223372036854775807) (ho : openL b = none) :
    Calls Tryz.prog 68 #[.slice A 64 c] w (GivesSn (getS b) w) := by
  have HV : Hid (getS b = (.zero, 12)) := getS_sum h64 ho
  have HO : Hid (∀ W, Below w.heap.size w W → Calls Tryz.prog 84 #[.slice A 64 c] W fun e w' => e = .returned (.tuple #[.slice none 0 0, .int .i64 12]) ∧ Below W.heap.size W w') := fun W hb => by
    have := open_any b A c _ W (rb_up7 hr hb) (by omega) hcm (by omega)
    rw [ho, h64] at this
    exact this
  have HB : Hid (Below w.heap.size w (w.alloc (.cells #[.int .i64 0, .int .i64 0, .int .i64 0, .int .i64 0, .slice none 0 0] 49))) := (Below.refl _ _).alloc (Nat.le_refl _) _
  have HC := Lib.hid (fun W hb => res_at w W hb)
  have nb := fun w' => Tryz.secBuild0 w'
  have a24 := fun w' => Tryz.aggSec w'
  have s24 := fun w' => Tryz.sizeSec w'
  clear h64 hr hc hcm ho
  go_enter Tryz.func68, Tryz.ntmps68
  go_wp2_with (go_at_call 84; (with_reducible refine (HO.out _ HB.out).mono ?_); rintro e w1 ⟨rfl, hb1⟩; obtain ⟨⟨p0, p1, p2, p3, p4⟩, f0, f1, f2, f3, f4⟩ := HC.out _ hb1)
  refine bodyPost_ret (v := .tuple #[.agg #[.int .i64 0, .int .i64 0, .int .i64 0, .int .i64 0, .slice none 0 0], .int .i64 12]) (by simp [results, Tryz.results68, go_sem, p0, p1, p2, p3, p4]) rfl ⟨none, 0, by rw [HV.out]; rfl, by rw [HV.out]; exact RB.none_ _ _, (fun ad e => nomatch e), below_five (chain7 HB.out hb1) (Nat.le_refl _) _ _ _ _ _⟩
theorem sget_in (b M : List UInt8) (A : Option Addr) (c : Nat) (w : World) (h64 : b.length = 64) (hr : RB w w.heap.size A b) (hc : 64 ≤ c) (hcm : c ≤ 9223372036854775807) (ho : openL b = some M) :
    Calls Tryz.prog 68 #[.slice A 64 c] w (GivesSn (getS b) w) := by
  have hM : M.length = 60 := by have := (openL_some ho).2; omega
  have HO : Hid (∀ W, Below w.heap.size w W → Calls Tryz.prog 84 #[.slice A 64 c] W fun e w' => ∃ A c, e = .returned (.tuple #[.slice A 60 c, .int .i64 0]) ∧ Hid (RB w' w'.heap.size A M) ∧ Below W.heap.size W w') := fun W hb => by
    have := open_any b A c _ W (rb_up7 hr hb) (by omega) hcm (by omega)
    rw [ho, h64] at this
    refine this.mono fun e w' hh => ?_
    obtain ⟨A, c, he, h2, h3⟩ := hh
    rw [hM] at he
    exact ⟨A, c, he, own_rb h2, h3⟩
  have HF : Hid (∀ W (A : Option Addr) (c : Nat), RB W W.heap.size A M → Calls Tryz.prog 86 #[.slice A 60 c] W fun e w' => ∃ g, e = .returned (.pointer (some ⟨g, 0, none⟩)) ∧ W.heap.size ≤ g ∧ Hid (Cur w' g (some M)) ∧ Below W.heap.size W w') := fun W A c h => by
    have := from_any M A c W h (by omega)
    rw [hM] at this
    exact this
  have HB : Hid (Below w.heap.size w (w.alloc (.cells #[.int .i64 0, .int .i64 0, .int .i64 0, .int .i64 0, .slice none 0 0] 49))) := (Below.refl _ _).alloc (Nat.le_refl _) _
  have HC := Lib.hid (fun W hb => res_at w W hb)
  have nb := fun w' => Tryz.secBuild0 w'
  have a24 := fun w' => Tryz.aggSec w'
  have s24 := fun w' => Tryz.sizeSec w'
  by_cases hf : Formed M
  · have HV : Hid (getS b = (secOf M, 0)) := getS_ok h64 ho hf
    rcases hs : secOf M with ⟨kz, ez, nz, lz, D⟩
    obtain ⟨m, hm⟩ : ∃ m, m = D.length := ⟨_, rfl⟩
    have HT : Hid (∀ W g, Hid (Cur W g (some M)) → Calls Tryz.prog 85 #[.pointer (some ⟨g, 0, none⟩)] W fun e w' => ∃ A c, e = .returned (.tuple #[.agg #[.int .i64 kz, .int .i64 ez, .int .i64 nz, .int .i64 lz, .slice A m c], .bool true]) ∧ Hid (RB w' w'.heap.size A D) ∧ Hid (Only W w' g) ∧ Hid (∀ ad, A = some ad → W.heap.size ≤ ad.block)) := fun W g h => by
      refine (taken_good M hM g W h.out hf).mono fun e w' hh => ?_
      obtain ⟨A, c, he, h2, h3, h4⟩ := hh
      rw [hs] at he h2
      unfold secV at he
      simp only [← hm] at he
      exact ⟨A, c, he, h2, h3, h4⟩
    rw [hs] at HV
    have HM := Lib.hid hm
    clear hM h64 hr hc hcm ho hf hs hm
    go_enter Tryz.func68, Tryz.ntmps68
    go_wp2_with (first
      | (go_at_call 84; (with_reducible refine (HO.out _ HB.out).mono ?_); rintro e w1 ⟨A1, c1, rfl, r1, b1⟩; have r1' := r1.out)
      | (go_at_call 86; (with_reducible refine (HF.out _ _ _ r1').mono ?_); rintro e w2 ⟨g, rfl, hg2, cu2, b2⟩; have b12 := chain7 b1 b2)
      | (go_at_call 85; (with_reducible refine (HT.out _ _ cu2).mono ?_); rintro e w3 ⟨A3, c3, rfl, r3, o3, nw3⟩; have NW3 : Hid (∀ ad, A3 = some ad → w.heap.size ≤ ad.block) := fun ad e => Nat.le_trans (chain7 HB.out b12).size (nw3.out ad e); have b3 := below_only b12 o3.out (Nat.le_trans b1.size hg2) b12.size; have b4 := b3.alloc b3.size (.cells #[.int .i64 kz, .int .i64 ez, .int .i64 nz, .int .i64 lz, .slice A3 m c3] 49); obtain ⟨⟨p0, p1, p2, p3, p4⟩, f0, f1, f2, f3, f4⟩ := HC.out _ b4))
    refine bodyPost_ret (v := .tuple #[.agg #[.int .i64 kz, .int .i64 ez, .int .i64 nz, .int .i64 lz, .slice A3 m c3], .int .i64 0]) (by simp [results, Tryz.results68, go_sem, p0, p1, p2, p3, p4]) rfl ⟨A3, c3, ?_, ?_, NW3.out, below_five (HB.out.trans (b4.mono HB.out.size)) (Nat.le_refl _) _ _ _ _ _⟩
    · rw [HV.out, HM.out]
      rfl
    · rw [HV.out]
      exact rb_five (rb_up7 r3.out ((Below.refl _ _).alloc (Nat.le_refl _) _)) (Blk.below (Blk.new w 49 _) b4 (by simp)) (no8_sec _ _ _ _ _ _ _) _ _ _ _ _
  · have HV : Hid (getS b = (.zero, 5)) := getS_form h64 ho hf
    have HT : Hid (∀ W g, Hid (Cur W g (some M)) → Calls Tryz.prog 85 #[.pointer (some ⟨g, 0, none⟩)] W fun e w' => ∃ A c, e = .returned (.tuple #[.agg #[.int .i64 0, .int .i64 0, .int .i64 0, .int .i64 0, .slice A 0 c], .bool false]) ∧ Hid (Only W w' g)) := fun W g h => by
      refine (taken_bad M hM g W h.out hf).mono fun e w' hh => ?_
      obtain ⟨A, c, he, h2, h3⟩ := hh
      exact ⟨A, c, he, h3⟩
    clear hM h64 hr hc hcm ho hf
    go_enter Tryz.func68, Tryz.ntmps68
    go_wp2_with (first
      | (go_at_call 84; (with_reducible refine (HO.out _ HB.out).mono ?_); rintro e w1 ⟨A1, c1, rfl, r1, b1⟩; have r1' := r1.out)
      | (go_at_call 86; (with_reducible refine (HF.out _ _ _ r1').mono ?_); rintro e w2 ⟨g, rfl, hg2, cu2, b2⟩; have b12 := chain7 b1 b2)
      | (go_at_call 85; (with_reducible refine (HT.out _ _ cu2).mono ?_); rintro e w3 ⟨A3, c3, rfl, o3⟩; have b3 := below_only b12 o3.out (Nat.le_trans b1.size hg2) b12.size; have b4 := b3.alloc b3.size (.cells #[.int .i64 0, .int .i64 0, .int .i64 0, .int .i64 0, .slice A3 0 c3] 49); obtain ⟨⟨p0, p1, p2, p3, p4⟩, f0, f1, f2, f3, f4⟩ := HC.out _ b4))
    refine bodyPost_ret (v := .tuple #[.agg #[.int .i64 0, .int .i64 0, .int .i64 0, .int .i64 0, .slice none 0 0], .int .i64 5]) (by simp [results, Tryz.results68, go_sem, p0, p1, p2, p3, p4]) rfl ⟨none, 0, by rw [HV.out]; rfl, by rw [HV.out]; exact RB.none_ _ _, (fun ad e => nomatch e), below_five (HB.out.trans (b4.mono HB.out.size)) (Nat.le_refl _) _ _ _ _ _⟩
theorem sget_new (b : List UInt8) (A : Option Addr) (c : Nat) (w : World) (hr : RB w w.heap.size A b) (hc : b.length ≤ c) (hcm : c ≤ 9223372036854775807) (hl : b.length ≤ 1000000) :
    Calls Tryz.prog 68 #[.slice A b.length c] w (GivesSn (getS b) w) := by
  by_cases h : b.length = 64
  · rw [h]
    cases ho : openL b with
    | none => exact sget_sum b A c w h hr (by omega) hcm ho
    | some M => exact sget_in b M A c w h hr (by omega) hcm ho
  · exact sget_size b _ A c w rfl h
end
section
open Go.RowKit
def RReadPost (d : Dk) (i : Int) (g : Nat) (G B : Nat → Prop) (w : World) (e : Ending) (w' : World) : Prop :=
  ∃ A c, e = .returned (.tuple #[.slice A (d.read i).2.1.length c, .int .i64 (d.read i).2.2]) ∧ Own w' w.heap.size A (d.read i).2.1 c ∧ RSame (d.read i).1 G B w w' g
theorem rread_any {w : World} {g : Nat} {G B : Nat → Prop} {d : Dk} (h : RDisk w g G B d) (i : Int) (hl : d.load ≤ 100000) :
    Calls Tryz.prog 52 #[.pointer (some ⟨g, 0, none⟩), .int .i64 i] w (RReadPost d i g G B w) := by
  have HT := Lib.hid (there_any h i)
  have n0 := fun w' => Tryz.notTrue w'
  have n1 := fun w' => Tryz.notFalse w'
  have r3 : w.cell? ⟨g, 3, none⟩ = some (.bool d.off) := by obtain ⟨s, cs, V, hs, hv, h⟩ := h; exact h.r3
  cases ho : d.off with
  | true =>
    have HV : Hid (d.read i = (d, [], 9)) := by show _ = _; unfold Dk.read; rw [if_pos ho]
    rw [ho] at r3
    clear ho
    go_enter Tryz.func52, Tryz.ntmps52
    go_wp2
    go_ret2
    unfold RReadPost
    rw [HV.out]
    exact ⟨none, 0, rfl, World.ownsRow_nil _ _ _ _, h, Turns.refl _ _⟩
  | false =>
    rw [ho] at r3
    cases ht : d.there i with
    | false =>
      have HV : Hid (d.read i = (d, [], 10)) := by show _ = _; unfold Dk.read; rw [ho, ht]; rfl
      rw [ht] at HT
      clear ho ht
      go_enter Tryz.func52, Tryz.ntmps52
      go_wp2_with (go_at_call 76; (with_reducible refine HT.out.mono ?_); rintro e w1 ⟨rfl, rfl⟩)
      go_ret2
      unfold RReadPost
      rw [HV.out]
      exact ⟨none, 0, rfl, World.ownsRow_nil _ _ _ _, h, Turns.refl _ _⟩
    | true =>
      have HV : Hid (d.read i = ({ d with reads := d.reads + 1 }, d.now i.toNat, 0)) := by show _ = _; unfold Dk.read; rw [ho, ht]; rfl
      rw [ht] at HT
      obtain ⟨k, rfl, hk⟩ := there_nat ht
      rw [Int.toNat_natCast] at HV
      obtain ⟨i0, hi0, hz0, hz1, hz2⟩ := info_parts Tryz.info5
      obtain ⟨s, cs, V, hs, hv, h⟩ := h
      obtain ⟨y, hy⟩ : ∃ y : Int, y = ((d.reads + 1 : Nat) : Int) := ⟨_, rfl⟩
      obtain ⟨x, hx⟩ : ∃ x : Int, x = (d.reads : Int) := ⟨_, rfl⟩
      have e1 : IntKind.i64.wrap (x + 1) = y := by
        have h1 := IntWalk.i64_in ((d.reads : Int) + 1) (by unfold Dk.load at hl; omega)
        rw [hx, hy, h1]; omega
      have r4 := h.r4
      have f4 := h.fz 4
      rw [← hx] at r4
      have HP : Hid (RDisk (w.setCell ⟨g, 4, none⟩ (.int .i64 y)) g G B { d with reads := d.reads + 1 }) := by
        refine ⟨s, cs, V, hs, hv, h.retell (turns_own w g 4 _) rfl rfl h.good.left ?_⟩
        have := h.blk.set_ 4 (.int .i64 y)
        rw [hy] at this ⊢
        exact this
      have HN : Hid (∀ W, Below (w.setCell ⟨g, 4, none⟩ (.int .i64 y)).heap.size (w.setCell ⟨g, 4, none⟩ (.int .i64 y)) W → Calls Tryz.prog 77 #[.pointer (some ⟨g, 0, none⟩), .int .i64 (k : Int)] W fun e w' => (∃ b off c, e = .returned (.slice (some ⟨b, off, none⟩) 256 c) ∧ Hid (RB W W.heap.size (some ⟨b, off, none⟩) (d.now k))) ∧ W = w') := fun W hb => by
        refine (now_any (HP.out.below hb) k hk (by show d.waits.length ≤ 1000000; unfold Dk.load at hl; omega)).mono ?_
        rintro e w' ⟨⟨v, rfl, _, b, off, c, rfl, _, _, _, hr⟩, rfl⟩
        exact ⟨⟨b, off, c, rfl, hr⟩, rfl⟩
      have HG := Lib.hid h.gg
      have hnl : (d.now k).length = 256 := Dk.fit_now h.good.fit hk
      obtain ⟨L, hL⟩ : ∃ L, L = d.now k := ⟨_, rfl⟩
      rw [← hL] at HV HN hnl
      have Hnl := Lib.hid hnl
      obtain ⟨W, hW⟩ : ∃ W, W = w.setCell ⟨g, 4, none⟩ (.int .i64 y) := ⟨_, rfl⟩
      have HT2 : Hid (Turns w W G G) := by show Turns _ _ _ _; rw [hW]; exact Turns.set_ HG.out 4 _
      have hz : W.heap.size = w.heap.size := by rw [hW]; simp [World.setCell]
      rw [← hW] at HP HN
      have HWq := Lib.hid hW
      have HZ := Lib.hid hz
      have HMd : Hid ((W.alloc (.cells #[] 5)).ownsRow w.heap.size 5 1 (.slice (some ⟨w.heap.size, 0, none⟩) 0 0) 0 []) := by
        show World.ownsRow _ _ _ _ _ _ _
        rw [← hz]; exact World.ownsRow_made W #[] 0 (Nat.le_refl _) (by decide) rfl
      clear h ho ht hk hl hx hy hL hW hz hnl
      go_enter Tryz.func52, Tryz.ntmps52
      go_wp2_with (go_at_call 76; (with_reducible refine HT.out.mono ?_); rintro e w1 ⟨rfl, rfl⟩)
      rw [← HWq.out]
      have hbA : Below W.heap.size W (W.alloc (.cells #[] 5)) := (Below.refl _ _).alloc (Nat.le_refl _) _
      go_wp2_with (first
        | (go_at_call 77; (with_reducible refine (HN.out _ hbA).mono ?_); rintro e w2 ⟨⟨b, off, c, rfl, hR⟩, rfl⟩)
        | (at_builtin; refine wpList_append_any _ rfl (.tmp 25) (.tmp 28) _ rfl w.heap.size 5 i0 _ 1 1 Tryz.underlying39 hi0 hz0 hz1 hz2 rfl (by omega) (.slice (some ⟨w.heap.size, 0, none⟩) 0 0) 0 [] rfl HMd.out _ (some ⟨b, off, none⟩) 256 c (cells L) rfl (by have := hR.out; unfold RB at this; rw [Hnl.out] at this; exact this) (cells_one _) (by simp only [maxLen]; omega) (by omega) (by have := HZ.out; simp; omega) ?_; intro v5 w5 ho5 hg5 hat5; simp only [Nat.zero_add, List.nil_append] at ho5; have hb5 : Below W.heap.size W w5 := hbA.grown hg5 (by simp) (by have := HZ.out; simp [Value.ownBlock]; omega)))
      obtain ⟨A3, c3, hv⟩ := own_form ho5
      subst hv
      go_ret2
      unfold RReadPost
      rw [HV.out]
      refine ⟨A3, c3, by simp only [Hnl.out]; rfl, ?_, HP.out.below hb5, HT2.out.trans (Turns.of_below hb5 G)⟩
      unfold Own
      simp only [Hnl.out]
      exact ho5
end
section
open Go.RowKit
def nowK (d : Dk) (k : Nat) : List UInt8 := (List.range k).flatMap d.now
theorem nowK_succ (d : Dk) (k : Nat) : nowK d (k + 1) = nowK d k ++ d.now k := by unfold nowK; rw [List.range_succ, List.flatMap_append]; simp
theorem rimage_any {w : World} {g : Nat} {G B : Nat → Prop} {d : Dk} (h : RDisk w g G B d) (hl : d.load ≤ 100000) :
    Calls Tryz.prog 57 #[.pointer (some ⟨g, 0, none⟩)] w (GivesOne d.image w) := by
  obtain ⟨i0, hi0, hz0, hz1, hz2⟩ := info_parts Tryz.info5
  have H := Lib.hid h
  obtain ⟨m, hm⟩ : ∃ m, m = d.safe.length := ⟨_, rfl⟩
  have Hm := Lib.hid hm
  have hmany := h.good.many
  rw [← hm] at hmany
  have HN : Hid (∀ W (k : Nat), Below w.heap.size w W → k < m → Calls Tryz.prog 77 #[.pointer (some ⟨g, 0, none⟩), .int .i64 (k : Int)] W fun e w' => (∃ b off c, e = .returned (.slice (some ⟨b, off, none⟩) 256 c) ∧ Hid (Reads W W.heap.size 1 (some ⟨b, off, none⟩) 256 (cells (d.now k)))) ∧ W = w') := fun W k hb hk => by
    refine (now_any (h.below hb) k (by omega) (by unfold Dk.load at hl; omega)).mono ?_
    rintro e w' ⟨⟨v, rfl, h256, b, off, c, rfl, _, _, _, hr⟩, rfl⟩
    refine ⟨⟨b, off, c, rfl, ?_⟩, rfl⟩
    unfold RB at hr
    rw [h256] at hr
    exact hr
  have HR0 : Hid (∀ W, Below w.heap.size w W → ∃ s cs, W.cell? ⟨g, 0, none⟩ = some (.slice (some ⟨s, 0, none⟩) m cs)) := fun W hb => by
    obtain ⟨s, cs, V, hs, hv, h⟩ := h.below hb
    exact ⟨s, cs, by rw [hm]; exact h.r0⟩
  clear h hm hl
  go_enter Tryz.func57, Tryz.ntmps57
  go_wp2
  go_loopw [3, 4] (fun v x wr => ∃ k : Nat, k ≤ m ∧ x = .int .i64 (k : Int) ∧ Hid (wr.ownsRow w.heap.size 5 1 v (256 * k) (cells (nowK d k))) ∧ Below w.heap.size w wr) (fun _ x _ => m - (intOf x).toNat)
  case atStart => exact ⟨0, by omega, rfl, World.ownsRow_nil _ _ _ _, Below.refl _ _⟩
  case round =>
    obtain ⟨k, hk, rfl, HO, hb⟩ := hrel
    obtain ⟨s, cs, r0⟩ := HR0.out wr hb
    by_cases hlt : k < m
    · have u0 : (0 : Int) ≤ (k : Int) := by omega
      have u1 : (k : Int) < (m : Int) := by omega
      have d0 : decide ((k : Int) < (m : Int)) = true := decide_eq_true u1
      have hN := Lib.hid (HN.out wr k hb hlt)
      go_wp2_with (first
        | (go_at_call 77; (with_reducible refine hN.out.mono ?_); rintro e w2 ⟨⟨b, off, c, rfl, hR⟩, rfl⟩)
        | (at_builtin; refine wpList_append_any _ rfl (.tmp 14) (.tmp 17) _ rfl w.heap.size 5 i0 _ 1 1 Tryz.underlying39 hi0 hz0 hz1 hz2 rfl (by omega) u3 (256 * k) (cells (nowK d k)) rfl HO.out _ (some ⟨b, off, none⟩) 256 c (cells (d.now k)) rfl hR.out (cells_one _) (by simp only [maxLen]; omega) (by omega) hb.size ?_; intro v5 w5 ho5 hg5 hat5; have HO5 : Hid (w5.ownsRow w.heap.size 5 1 v5 (256 * (k + 1)) (cells (nowK d (k + 1)))) := (by show World.ownsRow _ _ _ _ _ _ _; rw [nowK_succ, cells_append, show 256 * (k + 1) = 256 * k + 256 by omega]; exact ho5); have hb5 : Below w.heap.size w w5 := hb.grown hg5 hb.size (fun j hj => (HO.out.lt j hj).1)))
      refine ⟨⟨k + 1, by omega, by go_num, HO5, hb5⟩, ?_⟩
      simp [intOf]; omega
    · have hkm : k = m := by omega
      have d0 : decide ((k : Int) < (m : Int)) = false := decide_eq_false (by omega)
      have d1 : decide (k < m) = false := decide_eq_false hlt
      have HOE : Hid (wr.ownsRow w.heap.size 5 1 u3 d.image.length (cells d.image)) := by
        show World.ownsRow _ _ _ _ _ _ _
        have h1 := HO.out
        rw [hkm] at h1
        rw [Dk.image_length H.out.good.fit, ← Hm.out]
        have : nowK d m = d.image := by unfold nowK Dk.image; rw [Hm.out]
        rw [← this]; exact h1
      clear hkm HO hk hlt HN HR0
      go_wp2
      go_ret
      obtain ⟨A3, c3, hv⟩ := own_form HOE.out
      exact ⟨A3, c3, by rw [hv]; rfl, by have := HOE.out; rw [hv] at this; exact this, hb⟩
theorem Hdr.form {w : World} {B : Nat → Prop} {v : Value} {L : List UInt8} (h : Hdr w B v L) : ∃ b off c, v = .slice (some ⟨b, off, none⟩) 256 c ∧ Hid (Reads w w.heap.size 1 (some ⟨b, off, none⟩) 256 (cells L)) := by
  obtain ⟨h256, b, off, c, rfl, _, _, _, hr⟩ := h
  refine ⟨b, off, c, rfl, ?_⟩
  unfold RB at hr
  rw [h256] at hr
  exact hr
theorem rsure_any {w : World} {g : Nat} {G B : Nat → Prop} {d : Dk} (h : RDisk w g G B d) :
    Calls Tryz.prog 59 #[.pointer (some ⟨g, 0, none⟩)] w (GivesOne d.sure w) := by
  obtain ⟨i0, hi0, hz0, hz1, hz2⟩ := info_parts Tryz.info5
  have H := Lib.hid h
  obtain ⟨m, hm⟩ : ∃ m, m = d.safe.length := ⟨_, rfl⟩
  have Hm := Lib.hid hm
  have hmany := h.good.many
  rw [← hm] at hmany
  have HR0 : Hid (∀ W (k : Nat) (hk : k < d.safe.length), Below w.heap.size w W → ∃ s cs b off c, W.cell? ⟨g, 0, none⟩ = some (.slice (some ⟨s, 0, none⟩) m cs) ∧ W.cell? ⟨s, k, none⟩ = some (.slice (some ⟨b, off, none⟩) 256 c) ∧ Hid (Reads W W.heap.size 1 (some ⟨b, off, none⟩) 256 (cells d.safe[k]))) := fun W k hk hb => by
    obtain ⟨s, cs, V, hs, hv, h⟩ := h.below hb
    obtain ⟨v, _, h1, h2⟩ := h.at_ hk
    obtain ⟨b, off, c, rfl, h3⟩ := h2.form
    exact ⟨s, cs, b, off, c, by rw [hm]; exact h.r0, h1, h3⟩
  have HR1 : Hid (∀ W, Below w.heap.size w W → ∃ s cs, W.cell? ⟨g, 0, none⟩ = some (.slice (some ⟨s, 0, none⟩) m cs)) := fun W hb => by
    obtain ⟨s, cs, V, hs, hv, h⟩ := h.below hb
    exact ⟨s, cs, by rw [hm]; exact h.r0⟩
  clear h hm
  go_enter Tryz.func59, Tryz.ntmps59
  go_wp2
  go_loopw [3, 4] (fun v x wr => ∃ k : Nat, k ≤ m ∧ x = .int .i64 (k : Int) ∧ Hid (wr.ownsRow w.heap.size 5 1 v (256 * k) (cells (d.safe.take k).flatten)) ∧ Below w.heap.size w wr) (fun _ x _ => m - (intOf x).toNat)
  case atStart => exact ⟨0, by omega, rfl, World.ownsRow_nil _ _ _ _, Below.refl _ _⟩
  case round =>
    obtain ⟨k, hk, rfl, HO, hb⟩ := hrel
    by_cases hlt : k < m
    · have hk2 : k < d.safe.length := by have := Hm.out; omega
      obtain ⟨s, cs, b, off, c, r0, r1, hR⟩ := HR0.out wr k hk2 hb
      have hsn : Hid ((d.safe.take (k + 1)).flatten = (d.safe.take k).flatten ++ d.safe[k]) := by
        show _ = _
        rw [List.take_succ_eq_append_getElem hk2, List.flatten_append]; simp
      have u0 : (0 : Int) ≤ (k : Int) := by omega
      have u1 : (k : Int) < (m : Int) := by omega
      go_wp2_with (first
        | (at_builtin; refine wpList_append_any _ rfl (.tmp 14) (.tmp 21) _ rfl w.heap.size 5 i0 _ 1 1 Tryz.underlying39 hi0 hz0 hz1 hz2 rfl (by omega) u3 (256 * k) (cells (d.safe.take k).flatten) rfl HO.out _ (some ⟨b, off, none⟩) 256 c (cells d.safe[k]) rfl hR.out (cells_one _) (by simp only [maxLen]; omega) (by omega) hb.size ?_; intro v5 w5 ho5 hg5 hat5; have HO5 : Hid (w5.ownsRow w.heap.size 5 1 v5 (256 * (k + 1)) (cells (d.safe.take (k + 1)).flatten)) := (by show World.ownsRow _ _ _ _ _ _ _; rw [hsn.out, cells_append, show 256 * (k + 1) = 256 * k + 256 by omega]; exact ho5); have hb5 : Below w.heap.size w w5 := hb.grown hg5 hb.size (fun j hj => (HO.out.lt j hj).1)))
      refine ⟨⟨k + 1, by omega, by go_num, HO5, hb5⟩, ?_⟩
      simp [intOf]; omega
    · have hkm : k = m := by omega
      obtain ⟨s, cs, r0⟩ := HR1.out wr hb
      have d0 : decide ((k : Int) < (m : Int)) = false := decide_eq_false (by omega)
      have d1 : decide (k < m) = false := decide_eq_false hlt
      have HOE : Hid (wr.ownsRow w.heap.size 5 1 u3 d.sure.length (cells d.sure)) := by
        show World.ownsRow _ _ _ _ _ _ _
        have h1 := HO.out
        rw [hkm, Hm.out, List.take_length] at h1
        have h2 : d.sure.length = 256 * d.safe.length := Dk.flatten_length H.out.good.fit.1
        rw [h2]; exact h1
      clear hkm HO hk hlt HR0 HR1
      go_wp2
      go_ret
      obtain ⟨A3, c3, hv⟩ := own_form HOE.out
      exact ⟨A3, c3, by rw [hv]; rfl, by have := HOE.out; rw [hv] at this; exact this, hb⟩
end
section
set_option maxRecDepth 100000
namespace Wal.Ex
open Wal
def noLg : Lg := ⟨0, 0, 0, [], true⟩
def o1 := openW (Dk.blank 16) 2 3 1 1
def l1 : Lg := o1.2.1.getD noLg
def a2 := appendW o1.1 l1 (List.replicate 49 0)
def a3 := appendW a2.1 a2.2.1 [97, 98]
def a4 := appendW a3.1 a3.2.1 []
def a5 := appendW a4.1 a4.2.1 (List.replicate 480 0)
def o7 := openW a5.1 2 3 1 5
def l7 : Lg := o7.2.1.getD noLg
def d8 := (o7.1.stop 0).1
def a9 := appendW d8 l7 [120]
def a10 := appendW a9.1 a9.2.1 [120]
def d12 := a10.1.crash []
def o13 := openW d12 2 3 2 6
def l13 : Lg := o13.2.1.getD noLg
def o14 := openW o13.1 2 15 1 1
def S : List (List UInt8) := [List.replicate 49 0, [97, 98]]
theorem four {x : Dk × Option Lg × List (List UInt8) × Int} {R : List (List UInt8)} {c : Int} (h1 : x.2.1.isSome = true) (h2 : x.2.2.1 = R) (h3 : x.2.2.2 = c) : x = (x.1, some (x.2.1.getD noLg), R, c) := by
  obtain ⟨a, b, e, f⟩ := x
  cases b with
  | none => cases h1
  | some b => subst h2 h3; rfl
theorem fourN {x : Dk × Option Lg × List (List UInt8) × Int} {R : List (List UInt8)} {c : Int} (h1 : x.2.1.isSome = false) (h2 : x.2.2.1 = R) (h3 : x.2.2.2 = c) : x = (x.1, none, R, c) := by
  obtain ⟨a, b, e, f⟩ := x
  cases b with
  | none => subst h2 h3; rfl
  | some b => cases h1
theorem three {x : Dk × Lg × Int} {c : Int} (h : x.2.2 = c) : x = (x.1, x.2.1, c) := by
  obtain ⟨a, b, e⟩ := x
  subst h
  rfl
theorem fits {l : Lg} (h : decide (l.b.length ≤ 64 * l.n) && (decide (l.b.length % 64 = 0) && (decide (l.n ≤ 1000) && (decide (l.n % 4 = 0) && (decide (l.frm + l.n / 4 ≤ 16) && (decide (1 ≤ l.epoch) && decide (l.epoch ≤ 2147483647)))))) = true) : l.fit 16 := by
  simp only [Bool.and_eq_true, decide_eq_true_eq] at h
  exact ⟨h.1, h.2.1, h.2.2.1, h.2.2.2.1, h.2.2.2.2.1, h.2.2.2.2.2⟩
abbrev Ok (d : Dk) (l : Lg) : Prop := d.load ≤ 80000 ∧ d.safe.length = 16 ∧ l.fit 16
theorem ok1 : Ok o1.1 l1 := ⟨by decide +kernel, by decide +kernel, fits (by decide +kernel)⟩
theorem ok2 : Ok a2.1 a2.2.1 := ⟨by decide +kernel, by decide +kernel, fits (by decide +kernel)⟩
theorem ok3 : Ok a3.1 a3.2.1 := ⟨by decide +kernel, by decide +kernel, fits (by decide +kernel)⟩
theorem ok4 : Ok a4.1 a4.2.1 := ⟨by decide +kernel, by decide +kernel, fits (by decide +kernel)⟩
theorem ok5 : Ok a5.1 a5.2.1 := ⟨by decide +kernel, by decide +kernel, fits (by decide +kernel)⟩
theorem ok8 : Ok d8 l7 := ⟨by decide +kernel, by decide +kernel, fits (by decide +kernel)⟩
theorem ok9 : Ok a9.1 a9.2.1 := ⟨by decide +kernel, by decide +kernel, fits (by decide +kernel)⟩
theorem ok10 : Ok a10.1 a10.2.1 := ⟨by decide +kernel, by decide +kernel, fits (by decide +kernel)⟩
theorem ok12 : d12.load ≤ 80000 ∧ d12.safe.length = 16 := ⟨by decide +kernel, by decide +kernel⟩
theorem ok13 : o13.1.load ≤ 80000 ∧ o13.1.safe.length = 16 := ⟨by decide +kernel, by decide +kernel⟩
theorem e1 : openW (Dk.blank 16) 2 3 1 1 = (o1.1, some l1, [], 0) := four (x := o1) (by decide +kernel) (by decide +kernel) (by decide +kernel)
theorem e2 : appendW o1.1 l1 (List.replicate 49 0) = (a2.1, a2.2.1, 0) := three (x := a2) (by decide +kernel)
theorem e3 : appendW a2.1 a2.2.1 [97, 98] = (a3.1, a3.2.1, 0) := three (x := a3) (by decide +kernel)
theorem e4 : appendW a3.1 a3.2.1 [] = (a4.1, a4.2.1, 1) := three (x := a4) (by decide +kernel)
theorem u4 : used a4.2.1 = 3 := by decide +kernel
theorem e5 : appendW a4.1 a4.2.1 (List.replicate 480 0) = (a5.1, a5.2.1, 2) := three (x := a5) (by decide +kernel)
theorem e6 : (turnW a5.2.1 0).2 = 1 := by decide +kernel
theorem e7 : openW a5.1 2 3 1 5 = (o7.1, some l7, S, 0) := four (x := o7) (by decide +kernel) (by decide +kernel) (by decide +kernel)
theorem u7 : used l7 = 3 ∧ l7.n = 12 := by decide +kernel
theorem e9 : appendW d8 l7 [120] = (a9.1, a9.2.1, 9) := three (x := a9) (by decide +kernel)
theorem e10 : appendW a9.1 a9.2.1 [120] = (a10.1, a10.2.1, 8) := three (x := a10) (by decide +kernel)
theorem e11 : (resetW a10.2.1 9).2 = 8 := by decide +kernel
theorem g11 : (resetW a10.2.1 9).1.gone = true := by decide +kernel
theorem e13 : openW d12 2 3 2 6 = (o13.1, some l13, [], 0) := four (x := o13) (by decide +kernel) (by decide +kernel) (by decide +kernel)
theorem e14 : openW o13.1 2 15 1 1 = (o14.1, none, [], 1) := fourN (x := o14) (by decide +kernel) (by decide +kernel) (by decide +kernel)
end Wal.Ex
end
end Go.Proofs.YtghenhacndaelaaGreat
