/- Lemmas under the proofs of this place: ChainPlainR, DiskRFlush, DiskHas. No statement is proved here. -/
import Derived.Test.YtonnkibcnhjelaaGreatDoorBu28
import Derived.Test.YtonnkibcnhjelaaGreatDoorBu24
import Derived.Test.YtonnkibcnhjelaaGreatDoorBu27
import Derived.Deep.RegionHeld3
section
set_option linter.unusedVariables false
namespace Go.Proofs.YtonnkibcnhjelaaGreatDoor
def comb (cs : List Ce) (ps : List Int) (r : List Ce × List Int × Int) : List Ce × List Int × Int := if r.2.2 ≠ 0 then ([], [], r.2.2) else (cs ++ r.1, ps ++ r.2.1, 0)
theorem linkC_err (d : Dk) (o z : Int) (i : Nat) : (linkC d o z i).2 = 0 ∨ linkC d o z i = (.zero, 9) ∨ linkC d o z i = (.zero, 13) := by
  unfold linkC
  split
  · exact .inr (.inr rfl)
  · split
    · exact .inr (.inl rfl)
    · split
      · exact .inr (.inr rfl)
      · exact .inl rfl
theorem linkC_ok {d : Dk} {o z : Int} {i : Nat} (h : (linkC d o z i).2 = 0) : d.off = false ∧ (linkC d o z i).1.may = true := by
  unfold linkC at h ⊢
  split at h
  · cases h
  · rename_i h1
    rw [if_neg h1]
    split at h
    · cases h
    · rename_i h2
      rw [if_neg h2]
      split at h
      · cases h
      · rename_i h3
        rw [if_neg h3]
        refine ⟨by simpa using h2, ?_⟩
        have h4 : (getC (d.now z.toNat)).2 = 0 := Classical.byContradiction fun hh => h3 (.inl hh)
        exact (getC_bytes h4).1
theorem linkN_le (d : Dk) (z : Int) : linkN d z ≤ 1 := by
  unfold linkN
  split
  · omega
  · split <;> omega
theorem readCells_link {d : Dk} {o z : Int} {m j : Nat} (hb : d.off = true → isBlk z d.safe.length = true) :
    readCells d o (m + 1) j z = if (linkC d o z j).2 ≠ 0 then ([], [], (linkC d o z j).2) else comb [(linkC d o z j).1] [z] (readCells d o m (j + 1) (linkC d o z j).1.next) := by
  have hbl : (2 ≤ z ∧ z < (d.safe.length : Int)) ↔ isBlk z d.safe.length = true := by unfold isBlk; simp only [Bool.and_eq_true, decide_eq_true_eq]
  show (if d.off then _ else _) = _
  unfold linkC
  cases ho : d.off with
  | true =>
    have := hb ho
    rw [if_pos rfl, this]
    rfl
  | false =>
    rw [if_neg (by decide)]
    cases hi : isBlk z d.safe.length with
    | false =>
      rw [if_pos (by rw [hbl, hi]; decide)]
      rfl
    | true =>
      rw [if_neg (by rw [hbl, hi]; decide)]
      simp only [Bool.true_eq_false, if_false, Bool.false_eq_true]
      by_cases hg : (getC (d.now z.toNat)).2 ≠ 0 ∨ (getC (d.now z.toNat)).1.owner ≠ o ∨ (getC (d.now z.toNat)).1.number ≠ (j : Int)
      · rw [if_pos hg, if_pos hg]; rfl
      · rw [if_neg hg, if_neg hg]; rfl
theorem comb_comb (cs : List Ce) (ps : List Int) (c : Ce) (z : Int) (r : List Ce × List Int × Int) : comb cs ps (comb [c] [z] r) = comb (cs ++ [c]) (ps ++ [z]) r := by
  unfold comb
  by_cases h : r.2.2 ≠ 0
  · rw [if_pos h, if_pos h]
    rw [if_pos h]
  · rw [if_neg h, if_neg h]
    simp
theorem readCells_bad (d : Dk) (o : Int) (n i : Nat) (z : Int) : (readCells d o n i z).2.2 ≠ 0 → readCells d o n i z = ([], [], (readCells d o n i z).2.2) := by
  cases n with
  | zero => intro h; exact absurd rfl h
  | succ n =>
    simp only [readCells]
    repeat' split
    all_goals (intro h; first | rfl | exact absurd rfl h)
theorem comb_nil (d : Dk) (o : Int) (n i : Nat) (z : Int) : comb [] [] (readCells d o n i z) = readCells d o n i z := by
  unfold comb
  by_cases h : (readCells d o n i z).2.2 ≠ 0
  · rw [if_pos h]; exact (readCells_bad d o n i z h).symm
  · rw [if_neg h]
    have h0 : (readCells d o n i z).2.2 = 0 := Classical.byContradiction h
    rw [← h0]
    simp
theorem comb_bad (cs : List Ce) (ps : List Int) (e : Int) (h : e ≠ 0) : comb cs ps ([], [], e) = ([], [], e) := by
  unfold comb
  rw [if_pos h]
def followR (d : Dk) (p : Pt) : List UInt8 × List Int × Int :=
  let r := readCells d p.owner (needC p.size.toNat) 0 p.first
  if r.2.2 ≠ 0 then ([], [], r.2.2) else
  match joinC r.1 with
  | some t => if (t.length : Int) = p.size then (t, r.2.1, 0) else ([], [], 13)
  | none => ([], [], 13)
theorem chRead_no {d : Dk} {p : Pt} (h : p.may d.safe.length = false) : chRead d p = ([], [], 1) := by unfold chRead; rw [if_pos h]
theorem chRead_may {d : Dk} {p : Pt} (h : p.may d.safe.length = true) : chRead d p = followR d p := by
  unfold chRead followR
  rw [if_neg (by rw [h]; decide)]
  rfl
theorem followR_bad {d : Dk} {p : Pt} {e : Int} (h : readCells d p.owner (needC p.size.toNat) 0 p.first = ([], [], e)) (he : e ≠ 0) : followR d p = ([], [], e) := by
  unfold followR
  rw [h]
  simp only
  rw [if_pos he]
theorem followR_none {d : Dk} {p : Pt} {cs : List Ce} {ps : List Int} (h : readCells d p.owner (needC p.size.toNat) 0 p.first = (cs, ps, 0)) (hj : joinC cs = none) : followR d p = ([], [], 13) := by
  unfold followR
  rw [h]
  simp [hj]
theorem followR_odd {d : Dk} {p : Pt} {cs : List Ce} {ps : List Int} {t : List UInt8} (h : readCells d p.owner (needC p.size.toNat) 0 p.first = (cs, ps, 0)) (hj : joinC cs = some t) (hn : (t.length : Int) ≠ p.size) : followR d p = ([], [], 13) := by
  unfold followR
  rw [h]
  simp [hj, hn]
theorem followR_ok {d : Dk} {p : Pt} {cs : List Ce} {ps : List Int} {t : List UInt8} (h : readCells d p.owner (needC p.size.toNat) 0 p.first = (cs, ps, 0)) (hj : joinC cs = some t) (hn : (t.length : Int) = p.size) : followR d p = (t, ps, 0) := by
  unfold followR
  rw [h]
  simp [hj, hn]
theorem followR_err (d : Dk) (p : Pt) (hb : isBlk p.first d.safe.length = true) : (followR d p).2.2 = 0 ∨ followR d p = ([], [], 9) ∨ followR d p = ([], [], 13) := by
  have key : ∀ n j z, (d.off = true → isBlk z d.safe.length = true) → (readCells d p.owner n j z).2.2 = 0 ∨ readCells d p.owner n j z = ([], [], 9) ∨ readCells d p.owner n j z = ([], [], 13) := by
    intro n
    induction n with
    | zero => intro j z _; exact .inl rfl
    | succ n ih =>
      intro j z hz
      rw [readCells_link hz]
      rcases linkC_err d p.owner z j with h | h | h
      · rw [if_neg (by rw [h]; decide)]
        rcases ih (j + 1) (linkC d p.owner z j).1.next (fun h9 => by rw [(linkC_ok h).1] at h9; cases h9) with h1 | h1 | h1
        · left; unfold comb; rw [if_neg (by rw [h1]; decide)]
        · right; left; rw [h1]; rfl
        · right; right; rw [h1]; rfl
      · right; left; rw [h]; rfl
      · right; right; rw [h]; rfl
  rcases key (needC p.size.toNat) 0 p.first (fun _ => hb) with h | h | h
  · unfold followR
    simp only
    rw [if_neg (by rw [h]; decide)]
    split
    · split
      · exact .inl rfl
      · exact .inr (.inr rfl)
    · exact .inr (.inr rfl)
  · exact .inr (.inl (followR_bad h (by decide)))
  · exact .inr (.inr (followR_bad h (by decide)))
end Go.Proofs.YtonnkibcnhjelaaGreatDoor
end
section
set_option linter.unusedVariables false
namespace Go.Proofs.YtonnkibcnhjelaaGreatDoor
open Go.RowKit
theorem own_set {w : World} {base s n c : Nat} {e : TypeId} {hs : List Value} (h : w.ownsRow base e 1 (.slice (some ⟨s, 0, none⟩) n c) n hs) (k : Nat) (v : Value) : (w.setCell ⟨s, k, none⟩ v).ownsRow base e 1 (.slice (some ⟨s, 0, none⟩) n c) n (hs.set k v) := by
  refine ⟨by rw [List.length_set]; exact h.1, ?_⟩
  rcases h.2 with ⟨h1, h2⟩ | ⟨g, cap, cur, h1, h2, h3, h4, h5, h6, h7⟩
  · cases h1
  · simp only [Value.slice.injEq, Option.some.injEq, Addr.mk.injEq, and_true, true_and] at h1
    obtain ⟨rfl, rfl⟩ := h1
    refine .inr ⟨s, c, cur.setIfInBounds k v, rfl, h2, Blk.set_ (t := e) h3 k v, h4, h5, by simpa using h6, ?_⟩
    rw [← h7]
    simp [List.take_set]
theorem RD.put {w : World} {g : Nat} {G B : Nat → Prop} {d : Dk} {s cs : Nat} {V : Value} {hs hv : List Value} (h : RD w g G B d s cs V hs hv) (n : Nat) {v : Value} {L : List UInt8} (hL : Hdr w B v L) :
    RD (w.setCell ⟨s, n, none⟩ v) g G B { d with safe := d.safe.set n L } s cs V (hs.set n v) hv := by
  obtain ⟨n1, n2, n3⟩ := h.ne
  have ht : Turns w (w.setCell ⟨s, n, none⟩ v) (fun k => k = s) (fun k => k = s) := turns_own w s n v
  have hb : ∀ k, B k → ¬ k = s := fun k hk e => h.gb s h.gs (e ▸ hk)
  have hlen : (d.safe.set n L).length = d.safe.length := List.length_set
  refine ⟨?_, ?_, (h.hsafe.set_ n hL).turns ht hb, own_turns h.wait ht (fun k hk e => n3 (by rw [hk, e])), h.hwait.turns ht hb, h.gg, h.gs, h.gv, fun k hk => Nat.lt_of_lt_of_le (h.glt k hk) ht.size, fun k hk => Nat.lt_of_lt_of_le (h.blt k hk) ht.size, h.gb, ?_⟩
  · have := h.blk.turns ht n1
    rw [← hlen] at this
    exact this
  · have := own_set h.safe n v
    rw [← hlen] at this
    exact this
  · refine ⟨⟨fun b hb' => ?_, fun x hx => by rw [show ({ d with safe := d.safe.set n L } : Dk).safe.length = d.safe.length from hlen]; exact h.good.fit.2 x hx⟩, by show 16 ≤ (d.safe.set n L).length; rw [hlen]; exact h.good.few, by show (d.safe.set n L).length ≤ 1024; rw [hlen]; exact h.good.many, h.good.left⟩
    rcases List.mem_or_eq_of_mem_set hb' with h1 | h1
    · exact h.good.fit.1 b h1
    · rw [h1]; exact hL.1
theorem RD.nothing {w : World} {g : Nat} {G B : Nat → Prop} {d : Dk} {s cs : Nat} {V : Value} {hs hv : List Value} (h : RD w g G B d s cs V hs hv) :
    RD (w.setCell ⟨g, 1, none⟩ (.slice none 0 0)) g G B { d with waits := [] } s cs (.slice none 0 0) hs [] := by
  obtain ⟨n1, n2, n3⟩ := h.ne
  have ht : Turns w (w.setCell ⟨g, 1, none⟩ (.slice none 0 0)) (fun k => k = g) (fun k => k = g) := turns_own w g 1 _
  have hb : ∀ k, B k → ¬ k = g := fun k hk e => h.gb g h.gg (e ▸ hk)
  exact ⟨h.blk.set_ 1 (.slice none 0 0), own_turns h.safe ht (fun k hk e => n1 (by simp [Value.ownBlock] at hk; omega)), h.hsafe.turns ht hb, World.ownsRow_nil _ _ _ _, Hdrs.none_, h.gg, h.gs, fun k hk => by simp [Value.ownBlock] at hk, fun k hk => Nat.lt_of_lt_of_le (h.glt k hk) ht.size, fun k hk => Nat.lt_of_lt_of_le (h.blt k hk) ht.size, h.gb,
    ⟨⟨h.good.fit.1, fun x hx => by cases hx⟩, h.good.few, h.good.many, h.good.left⟩⟩
def fl (d : Dk) (i : Nat) : Dk := { d with safe := Dk.laid d.safe (d.waits.take i) }
theorem fl_succ (d : Dk) (i : Nat) (hi : i < d.waits.length) : fl d (i + 1) = { fl d i with safe := (fl d i).safe.set (d.waits[i]).1 (d.waits[i]).2 } := by
  unfold fl
  rw [List.take_succ_eq_append_getElem hi, Dk.laid_snoc]
set_option maxRecDepth 100000 in
set_option maxHeartbeats 4000000 in
theorem rflush_in {w : World} {g : Nat} {G B : Nat → Prop} {d : Dk} (h0 : RDisk w g G B d) (ho : d.off = false) (hl : d.load ≤ 100000) (e1 : Dk) (hq : d.deed = (e1, true)) :
    Calls Tryz.prog 35 #[.pointer (some ⟨g, 0, none⟩)] w fun e w' => e = .returned (.int .i64 0) ∧ RSame { e1 with safe := Dk.laid e1.safe e1.waits, waits := [], flushes := e1.flushes + 1 } G B w w' g := by
  have n0 := fun w' => Tryz.notTrue w'
  have r3 : w.cell? ⟨g, 3, none⟩ = some (.bool false) := by
    obtain ⟨s, cs, V, hs, hv, h⟩ := h0
    rw [← ho]; exact h.r3
  have HFa : Hid (Calls Tryz.prog 73 #[.pointer (some ⟨g, 0, none⟩)] w fun e w' => e = .returned (.bool true) ∧ RSame e1 G B w w' g) := by
    have := deed_any h0
    rwa [hq] at this
  have HL : Hid (e1.load ≤ 100000) := by
    have : d.deed.1.load ≤ 100000 := by
      unfold Dk.deed
      split
      · exact hl
      · split
        · exact hl
        · exact hl
    rwa [hq] at this
  clear hq hl h0 ho
  go_enter Tryz.func35, Tryz.ntmps35
  go_wp2_with (first
    | (go_at_call 73; (with_reducible refine HFa.out.mono ?_); rintro e w1 ⟨rfl, hP1, hT1⟩; obtain ⟨s, cs, V, hs, hv, hP⟩ := hP1; obtain ⟨A, c, rfl, hc1, hc2⟩ := hP.vform; have HP := Lib.hid hP; have HT := Lib.hid hT1; obtain ⟨m, hm⟩ : ∃ m, m = e1.waits.length := ⟨_, rfl⟩; rw [← hm] at hc1; have Hm := Lib.hid hm; clear hP hT1 hm))
  go_loopw [3] (fun x wr => ∃ i : Nat, i ≤ m ∧ x = .int .i64 (i : Int) ∧ ∃ hs', Hid (RD wr g G B (fl e1 i) s cs (.slice A e1.waits.length c) hs' hv) ∧ Hid (Turns w1 wr G G)) (fun x _ => m - (intOf x).toNat)
  case atStart => exact ⟨0, by omega, rfl, hs, by show RD _ _ _ _ _ _ _ _ _ _; unfold fl; rw [List.take_zero]; exact HP.out, Turns.refl _ _⟩
  case round =>
    obtain ⟨i, hi, rfl, hs', HR, HT2⟩ := hrel
    have r1 : wr.cell? ⟨g, 1, none⟩ = some (.slice A m c) := by rw [Hm.out]; exact HR.out.r1
    have u0 : (0 : Int) ≤ (i : Int) := by omega
    by_cases hlt : i < m
    · obtain ⟨gv, cv, hV, hvs, hvg, hvG, hm1, hm2, hcell⟩ := HR.out.row (show 0 < e1.waits.length by have := Hm.out; omega)
      obtain ⟨rfl, rfl⟩ : A = some ⟨gv, 0, none⟩ ∧ c = cv := by
        simp only [Value.slice.injEq] at hV
        exact ⟨hV.1, hV.2.2⟩
      have hi2 : i < e1.waits.length := by have := Hm.out; omega
      obtain ⟨c1, v, c2, hh⟩ := hcell i hi2
      have Hh := Lib.hid hh
      obtain ⟨-, b1, o1, cc1, rfl, -⟩ := hh
      obtain ⟨xn, hxn⟩ : ∃ xn, xn = (e1.waits[i]).1 := ⟨_, rfl⟩
      have c1' : wr.cell? ⟨gv, i * 2, none⟩ = some (.int .i64 (xn : Int)) := by rw [hxn]; exact c1
      have hxs : xn < (fl e1 i).safe.length := by
        rw [hxn]
        show _ < (Dk.laid e1.safe _).length
        rw [Dk.laid_length]
        exact (HP.out.good.fit.2 _ (List.getElem_mem hi2)).1
      obtain ⟨n, hn⟩ : ∃ n, n = (fl e1 i).safe.length := ⟨_, rfl⟩
      have r0 : wr.cell? ⟨g, 0, none⟩ = some (.slice (some ⟨s, 0, none⟩) n cs) := by rw [hn]; exact HR.out.r0
      obtain ⟨v0, -, cx, -⟩ := HR.out.at_ hxs
      have fx : wr.frozen? ⟨s, xn, none⟩ = false := by
        obtain ⟨_, hb⟩ := (own_lt HR.out.safe (k := s) rfl).2
        exact hb.frozen xn
      have u1 : (i : Int) < (m : Int) := by omega
      have u2 : (0 : Int) ≤ (xn : Int) := by omega
      have u3 : (xn : Int) < (n : Int) := by omega
      have HN : Hid (RD (wr.setCell ⟨s, xn, none⟩ (.slice (some ⟨b1, o1, none⟩) 256 cc1)) g G B (fl e1 (i + 1)) s cs (.slice (some ⟨gv, 0, none⟩) e1.waits.length c) (hs'.set xn (.slice (some ⟨b1, o1, none⟩) 256 cc1)) hv) := by
        show RD _ _ _ _ _ _ _ _ _ _
        rw [fl_succ e1 i hi2, hxn]
        exact HR.out.put _ Hh.out
      have HT3 : Hid (Turns w1 (wr.setCell ⟨s, xn, none⟩ (.slice (some ⟨b1, o1, none⟩) 256 cc1)) G G) := HT2.out.trans (Turns.set_ HP.out.gs xn _)
      have hsg : s ≠ g := HP.out.ne.1.symm
      have hsv : s ≠ gv := hvs.symm
      have q0 : ∀ u, (wr.setCell ⟨s, xn, none⟩ u).cell? ⟨g, 0, none⟩ = some (.slice (some ⟨s, 0, none⟩) n cs) ∧ (wr.setCell ⟨s, xn, none⟩ u).cell? ⟨g, 1, none⟩ = some (.slice (some ⟨gv, 0, none⟩) m c) ∧ (wr.setCell ⟨s, xn, none⟩ u).cell? ⟨gv, i * 2, none⟩ = some (.int .i64 (xn : Int)) ∧ (wr.setCell ⟨s, xn, none⟩ u).cell? ⟨gv, i * 2 + 1, none⟩ = some (.slice (some ⟨b1, o1, none⟩) 256 cc1) := fun u =>
        ⟨(World.cell?_setCell_far _ _ _ _ hsg).trans r0, (World.cell?_setCell_far _ _ _ _ hsg).trans r1, (World.cell?_setCell_far _ _ _ _ hsv).trans c1', (World.cell?_setCell_far _ _ _ _ hsv).trans c2⟩
      have Hq0 := Lib.hid q0
      clear hV hcell c1 hxn hxs hn HR HT2 q0
      go_wp2
      go_region_held3 (fun w' => w'.cell? ⟨g, 0, none⟩ = some (.slice (some ⟨s, 0, none⟩) n cs) ∧ w'.cell? ⟨g, 1, none⟩ = some (.slice (some ⟨gv, 0, none⟩) m c) ∧ w'.cell? ⟨gv, i * 2, none⟩ = some (.int .i64 (xn : Int)) ∧ w'.cell? ⟨gv, i * 2 + 1, none⟩ = some (.slice (some ⟨b1, o1, none⟩) 256 cc1))
        (first | exact ⟨r0, r1, c1', c2⟩ | exact Hq0.out _)
        (fail)
      go_wp2
      refine ⟨⟨i + 1, by omega, by go_num, _, Lib.hid (HN.out.turns (Turns.drew (fun _ => False)) (fun _ _ h => h) (fun _ _ h => h)), Lib.hid (HT3.out.trans (Turns.drew G))⟩, ?_⟩
      simp [intOf]; omega
    · have him : i = m := by omega
      have hR := HR.out
      have hfl : fl e1 i = { e1 with safe := Dk.laid e1.safe e1.waits } := by
        unfold fl
        rw [him, Hm.out, List.take_length]
      rw [hfl] at hR
      have HR2 := Lib.hid hR
      have d0 : decide ((i : Int) < (m : Int)) = false := decide_eq_false (by omega)
      have d1 : decide (i < m) = false := decide_eq_false hlt
      have f1 : wr.frozen? ⟨g, 1, none⟩ = false := hR.fz 1
      obtain ⟨x, hx⟩ : ∃ x : Int, x = (e1.flushes : Int) := ⟨_, rfl⟩
      obtain ⟨y, hy⟩ : ∃ y : Int, y = ((e1.flushes + 1 : Nat) : Int) := ⟨_, rfl⟩
      have ey : IntKind.i64.wrap (x + 1) = y := by
        have h1 := IntWalk.i64_in ((e1.flushes : Int) + 1) (by have := HL.out; unfold Dk.load at this; omega)
        rw [hx, hy, h1]; omega
      have hNo := hR.nothing
      have q6 : (wr.setCell ⟨g, 1, none⟩ (.slice none 0 0)).cell? ⟨g, 6, none⟩ = some (.int .i64 x) := by rw [hx]; exact hNo.r6
      have fq6 : (wr.setCell ⟨g, 1, none⟩ (.slice none 0 0)).frozen? ⟨g, 6, none⟩ = false := hNo.fz 6
      have HEnd : Hid (RD ((wr.setCell ⟨g, 1, none⟩ (.slice none 0 0)).setCell ⟨g, 6, none⟩ (.int .i64 y)) g G B { e1 with safe := Dk.laid e1.safe e1.waits, waits := [], flushes := e1.flushes + 1 } s cs (.slice none 0 0) hs' []) := by
        refine hNo.retell (turns_own _ g 6 _) rfl rfl hNo.good.left ?_
        have := hNo.blk.set_ 6 (.int .i64 y)
        rw [hy] at this ⊢
        exact this
      have HTE : Hid (Turns w ((wr.setCell ⟨g, 1, none⟩ (.slice none 0 0)).setCell ⟨g, 6, none⟩ (.int .i64 y)) G G) := ((HT.out.trans HT2.out).trans (Turns.set_ HP.out.gg 1 _)).trans (Turns.set_ HP.out.gg 6 _)
      clear him hR hfl hx hy hNo HR HT2 hlt hi
      go_wp2
      go_ret
      exact ⟨rfl, ⟨_, _, _, _, _, HEnd.out⟩, HTE.out⟩
set_option maxRecDepth 100000 in
theorem rflush_any {w : World} {g : Nat} {G B : Nat → Prop} {d : Dk} (h : RDisk w g G B d) (hl : d.load ≤ 100000) :
    Calls Tryz.prog 35 #[.pointer (some ⟨g, 0, none⟩)] w fun e w' => e = .returned (.int .i64 d.flush.2) ∧ RSame d.flush.1 G B w w' g := by
  have n0 := fun w' => Tryz.notTrue w'
  have n1 := fun w' => Tryz.notFalse w'
  have r3 : w.cell? ⟨g, 3, none⟩ = some (.bool d.off) := by obtain ⟨s, cs, V, hs, hv, h⟩ := h; exact h.r3
  cases ho : d.off with
  | true =>
    have HV : Hid (d.flush = (d, 9)) := by show _ = _; unfold Dk.flush; rw [if_pos ho]
    rw [ho] at r3
    clear ho hl
    go_enter Tryz.func35, Tryz.ntmps35
    go_wp2
    go_ret
    rw [HV.out]
    exact ⟨rfl, h, Turns.refl _ _⟩
  | false =>
    obtain ⟨e1, q, hq⟩ : ∃ e1 q, d.deed = (e1, q) := ⟨_, _, rfl⟩
    cases q with
    | true =>
      rw [Dk.flush_yes ho hq]
      exact rflush_in h ho hl e1 hq
    | false =>
      rw [Dk.flush_no ho hq]
      rw [ho] at r3
      have HFa : Hid (Calls Tryz.prog 73 #[.pointer (some ⟨g, 0, none⟩)] w fun e w' => e = .returned (.bool false) ∧ RSame e1 G B w w' g) := by
        have := deed_any h
        rwa [hq] at this
      clear ho hq hl h
      go_enter Tryz.func35, Tryz.ntmps35
      go_wp2_with (go_at_call 73; (with_reducible refine HFa.out.mono ?_); rintro e w1 ⟨rfl, hP1⟩)
      go_ret
      exact ⟨rfl, hP1⟩
def tornP (was b : List UInt8) (m : Int) (k : Nat) : List UInt8 := (List.range k).flatMap fun j => Dk.sector (if Dk.bitOf m j then b else was) j
theorem tornP_succ (was b : List UInt8) (m : Int) (k : Nat) : tornP was b m (k + 1) = tornP was b m k ++ Dk.sector (if Dk.bitOf m k then b else was) k := by unfold tornP; rw [List.range_succ, List.flatMap_append]; simp
theorem rb_sector {w : World} {B b off : Nat} {L : List UInt8} (h : RB w B (some ⟨b, off, none⟩) L) (hl : L.length = 256) (k : Nat) (hk : k < 4) : Reads w B 1 (some ⟨b, off + 64 * k, none⟩) 64 (cells (Dk.sector L k)) := by
  have h1 := rb_cut h (k := 64 * k) (c := L.length + 1) (by omega) (by omega)
  rw [if_neg (by omega)] at h1
  simp only [Option.map_some, Nat.mul_one, add_at] at h1
  have h2 := rb_take h1 64 (by rw [List.length_drop]; omega)
  have h3 : (Dk.sector L k).length = 64 := Dk.sector_length L hl k hk
  unfold Dk.sector at h3 ⊢
  unfold RB at h2
  rw [h3] at h2
  exact h2
set_option maxRecDepth 100000 in
set_option maxHeartbeats 2000000 in
theorem torn_any (L M : List UInt8) (b1 o1 c1 b2 o2 c2 : Nat) (m : Int) (w : World) (h1 : RB w w.heap.size (some ⟨b1, o1, none⟩) L) (h2 : RB w w.heap.size (some ⟨b2, o2, none⟩) M) (hL : L.length = 256) (hM : M.length = 256) (hc1 : 256 ≤ c1) (hc2 : 256 ≤ c2) :
    Calls Tryz.prog 76 #[.slice (some ⟨b1, o1, none⟩) 256 c1, .slice (some ⟨b2, o2, none⟩) 256 c2, .int .i64 m] w fun e w' => (∃ q c, e = .returned (.slice (some ⟨q, 0, none⟩) 256 c) ∧ 256 ≤ c ∧ c ≤ 9223372036854775807 ∧ w.heap.size ≤ q ∧ RB w' w'.heap.size (some ⟨q, 0, none⟩) (Dk.torn L M m)) ∧ Below w.heap.size w w' := by
  obtain ⟨i0, hi0, hz0, hz1, hz2⟩ := info_parts Tryz.info5
  have H1 := Lib.hid h1
  have H2 := Lib.hid h2
  have HL := Lib.hid hL
  have HM := Lib.hid hM
  clear h1 h2 hL hM
  go_enter Tryz.func76, Tryz.ntmps76
  go_wp2
  go_loopw [7, 8] (fun v x wr => ∃ k : Nat, k ≤ 4 ∧ x = .int .i64 (k : Int) ∧ Hid (wr.ownsRow w.heap.size 5 1 v (64 * k) (cells (tornP L M m k))) ∧ Below w.heap.size w wr) (fun _ x _ => 4 - (intOf x).toNat)
  case atStart => exact ⟨0, by omega, rfl, World.ownsRow_nil _ _ _ _, Below.refl _ _⟩
  case round =>
    obtain ⟨k, hk, rfl, HO, hb⟩ := hrel
    by_cases hlt : k < 4
    · have u0 : (0 : Int) ≤ (k : Int) := by omega
      have u1 : (k : Int) < 4 := by omega
      obtain ⟨q, hq⟩ : ∃ q, q = 64 * k := ⟨_, rfl⟩
      have y1 : (64 : Int) * (k : Int) = (q : Int) := by omega
      have y3 : IntKind.i64.wrap ((q : Int) + 64) = (q : Int) + 64 := IntWalk.i64_in _ (by omega)
      have y4 : (0 : Int) ≤ (q : Int) := by omega
      have HS1 := fun W => sl_both b1 o1 256 c1 q (q + 64) (q : Int) ((q : Int) + 64) rfl (by omega) (by omega) (by omega) (by omega) W
      have HS2 := fun W => sl_both b2 o2 256 c2 q (q + 64) (q : Int) ((q : Int) + 64) rfl (by omega) (by omega) (by omega) (by omega) W
      rw [show q + 64 - q = 64 by omega] at HS1 HS2
      have HR1 : Hid (Reads wr wr.heap.size 1 (some ⟨b1, o1 + q, none⟩) 64 (cells (Dk.sector L k))) := by
        show Reads _ _ _ _ _ _
        rw [hq]; exact rb_sector ((H1.out.below hb).more hb.size) HL.out k hlt
      have HR2 : Hid (Reads wr wr.heap.size 1 (some ⟨b2, o2 + q, none⟩) 64 (cells (Dk.sector M k))) := by
        show Reads _ _ _ _ _ _
        rw [hq]; exact rb_sector ((H2.out.below hb).more hb.size) HM.out k hlt
      obtain ⟨bt, hbt⟩ : ∃ bt, bt = Dk.bitOf m k := ⟨_, rfl⟩
      have bt1 : (bits BinOp.and IntKind.i64 (m / 2 ^ k) 1 == 1) = bt := by rw [hbt]; exact bit_test m k
      rcases bt with _ | _
      · have HSn : Hid (tornP L M m (k + 1) = tornP L M m k ++ Dk.sector L k) := by show _ = _; rw [tornP_succ, ← hbt]; rfl
        clear hbt hq
        go_wp2_with (first
          | (at_builtin; refine wpList_append_any _ rfl (.tmp 21) (.tmp 28) _ rfl w.heap.size 5 i0 _ 1 1 Tryz.underlying39 hi0 hz0 hz1 hz2 rfl (by omega) u7 (64 * k) (cells (tornP L M m k)) rfl HO.out _ (some ⟨b1, o1 + q, none⟩) 64 (c1 - q) (cells (Dk.sector L k)) rfl HR1.out (cells_one _) (by simp only [maxLen]; omega) (by omega) hb.size ?_; intro v5 w5 ho5 hg5 hat5; have HO5 : Hid (w5.ownsRow w.heap.size 5 1 v5 (64 * (k + 1)) (cells (tornP L M m (k + 1)))) := (by show World.ownsRow _ _ _ _ _ _ _; rw [HSn.out, cells_append, show 64 * (k + 1) = 64 * k + 64 by omega]; exact ho5); have hb5 : Below w.heap.size w w5 := hb.grown hg5 hb.size (fun j hj => (HO.out.lt j hj).1)))
        refine ⟨⟨k + 1, by omega, by go_num, HO5, hb5⟩, ?_⟩
        simp [intOf]; omega
      · have HSn : Hid (tornP L M m (k + 1) = tornP L M m k ++ Dk.sector M k) := by show _ = _; rw [tornP_succ, ← hbt]; rfl
        clear hbt hq
        go_wp2_with (first
          | (at_builtin; refine wpList_append_any _ rfl (.tmp 21) (.tmp 28) _ rfl w.heap.size 5 i0 _ 1 1 Tryz.underlying39 hi0 hz0 hz1 hz2 rfl (by omega) u7 (64 * k) (cells (tornP L M m k)) rfl HO.out _ (some ⟨b2, o2 + q, none⟩) 64 (c2 - q) (cells (Dk.sector M k)) rfl HR2.out (cells_one _) (by simp only [maxLen]; omega) (by omega) hb.size ?_; intro v5 w5 ho5 hg5 hat5; have HO5 : Hid (w5.ownsRow w.heap.size 5 1 v5 (64 * (k + 1)) (cells (tornP L M m (k + 1)))) := (by show World.ownsRow _ _ _ _ _ _ _; rw [HSn.out, cells_append, show 64 * (k + 1) = 64 * k + 64 by omega]; exact ho5); have hb5 : Below w.heap.size w w5 := hb.grown hg5 hb.size (fun j hj => (HO.out.lt j hj).1)))
        refine ⟨⟨k + 1, by omega, by go_num, HO5, hb5⟩, ?_⟩
        simp [intOf]; omega
    · have hk4 : k = 4 := by omega
      have d0 : decide ((k : Int) < 4) = false := decide_eq_false (by omega)
      have hO := HO.out
      rw [hk4] at hO
      have htl : (Dk.torn L M m).length = 256 := Dk.torn_length L M m HL.out HM.out
      have HOE : Hid (∃ q c, u7 = .slice (some ⟨q, 0, none⟩) 256 c ∧ 256 ≤ c ∧ c ≤ 9223372036854775807 ∧ w.heap.size ≤ q ∧ RB wr wr.heap.size (some ⟨q, 0, none⟩) (Dk.torn L M m)) := by
        show ∃ _, _
        obtain ⟨A3, c3, hv⟩ := own_form hO
        rw [hv] at hO ⊢
        have hO2 : Own wr w.heap.size A3 (Dk.torn L M m) c3 := by unfold Own; rw [htl]; exact hO
        obtain ⟨q, rfl, hA, hl1, hl2, hl3⟩ := own_arr hO2 (by omega)
        exact ⟨q, c3, rfl, by omega, hl2, hl3, hA.all⟩
      clear hk4 HO hO htl hk hlt
      go_wp2
      go_ret
      obtain ⟨q, c, hv, h3⟩ := HOE.out
      exact ⟨⟨q, c, by rw [hv]; rfl, h3⟩, hb⟩
end Go.Proofs.YtonnkibcnhjelaaGreatDoor
end
section
set_option linter.unusedVariables false
namespace Go.Proofs.YtonnkibcnhjelaaGreatDoor
open Go.RowKit
structure Has (w0 w : World) (g : Nat) (F : Nat → Prop) (d : Dk) : Prop where
  disk : PDisk w g F d
  below : Below w0.heap.size w0 w
  own : ∀ k, F k → w0.heap.size ≤ k
section
variable {w0 w w' : World} {g : Nat} {F F' : Nat → Prop} {d d' : Dk}
theorem Has.turned (h : Has w0 w g F d) (hp : PDisk w' g F' d') (ht : Turns w w' F F') : Has w0 w' g F' d' :=
  ⟨hp, h.below.trans (ht.below h.own h.below.size), fun k hk => by
    rcases ht.foot k hk with h1 | h1
    · exact h.own k h1
    · exact Nat.le_trans h.below.size h1⟩
theorem Has.deeds (h : Has w0 w g F d) (hd : Deeds d' F w w' g) : Has w0 w' g F d' := h.turned hd.1 hd.2
theorem Has.more (h : Has w0 w g F d) (hb : Below w.heap.size w w') : Has w0 w' g F d := h.turned (h.disk.below hb) (Turns.of_below hb F)
theorem Has.gives {D : Dk} (hb : Below w0.heap.size w0 w) (h : GivesDisk D w w' g F) : Has w0 w' g F D :=
  ⟨h.1, hb.trans (h.2.1.mono hb.size), fun k hk => Nat.le_trans hb.size (h.2.2 k hk)⟩
theorem Has.flt (h : Has w0 w g F d) : ∀ k, F k → k < w.heap.size := h.disk.flt
theorem chain6 {w0 w w' : World} (h : Below w0.heap.size w0 w) (k : Below w.heap.size w w') : Below w0.heap.size w0 w' := h.trans (k.mono h.size)
theorem Has.new (h : Has w0 w g F d) {b : Nat} (hb : w.heap.size ≤ b) : ∀ ad, (some ⟨b, 0, none⟩ : Option Addr) = some ad → ¬ F ad.block := fun ad e hf => by
  injection e with e
  subst e
  have := h.flt _ hf
  simp at this
  omega
theorem Has.old (h : Has w0 w g F d) {A : Option Addr} {L : List UInt8} (hr : RB w0 w0.heap.size A L) (h0 : 0 < L.length) : ∀ ad, A = some ad → ¬ F ad.block := fun ad e hf => by
  obtain ⟨ad', e', hb, _⟩ := hr.2 h0
  rw [e] at e'
  injection e' with e'
  subst e'
  have := h.own _ hf
  omega
end
def Kept (w : World) (F : Nat → Prop) (A : Option Addr) (L : List UInt8) : Prop := RB w w.heap.size A L ∧ ∀ ad, A = some ad → ¬ F ad.block ∧ ad.block < w.heap.size
theorem Kept.turns {w w' : World} {F F' : Nat → Prop} {A : Option Addr} {L : List UInt8} (h : Kept w F A L) (ht : Turns w w' F F') : Kept w' F' A L := by
  refine ⟨(Reads.turns h.1 (Nat.le_refl _) ht (fun ad e => (h.2 ad e).1)).more ht.size, fun ad e => ⟨fun hf => ?_, Nat.lt_of_lt_of_le (h.2 ad e).2 ht.size⟩⟩
  rcases ht.foot _ hf with h1 | h1
  · exact (h.2 ad e).1 h1
  · have := (h.2 ad e).2; omega
theorem Kept.below {w w' : World} {F : Nat → Prop} {A : Option Addr} {L : List UInt8} (h : Kept w F A L) (hb : Below w.heap.size w w') : Kept w' F A L := h.turns (Turns.of_below hb F)
theorem Kept.no {w : World} {F : Nat → Prop} {A : Option Addr} {L : List UInt8} (h : Kept w F A L) : ∀ ad, A = some ad → ¬ F ad.block := fun ad e => (h.2 ad e).1
theorem Kept.read {w w' : World} {F : Nat → Prop} {A : Option Addr} {L : List UInt8} {c : Nat} (ho : Own w' w.heap.size A L c) (hF : ∀ k, F k → k < w.heap.size) : Kept w' F A L := by
  refine ⟨own_rb ho, fun ad e => ?_⟩
  rcases ho.2 with ⟨h1, _⟩ | ⟨g, cap, cur, h1, hb, hg, _⟩
  · simp only [Value.slice.injEq] at h1
    rw [h1.1] at e; cases e
  · simp only [Value.slice.injEq] at h1
    rw [h1.1] at e
    injection e with e
    subst e
    exact ⟨fun hf => by have := hF _ hf; simp at this; omega, Blk.lt (t := 5) hg⟩
theorem Kept.block {w : World} {F : Nat → Prop} {A : Option Addr} {L : List UInt8} (h : Kept w F A L) {k : Nat} (hk : k < L.length) {b off : Nat} (e : A = some ⟨b, off, none⟩) (v : Int) (hv : ((L.getD k 9).toNat : Int) = v) : w.cell? ⟨b, off + k, none⟩ = some (.int .u8 v) := by
  obtain ⟨b', off', e', _, hc⟩ := h.1.at_ (by omega)
  rw [e] at e'
  simp only [Option.some.injEq, Addr.mk.injEq, and_true] at e'
  obtain ⟨rfl, rfl⟩ := e'
  rw [hc k hk, ← hv]
  simp [List.getD, hk]
end Go.Proofs.YtonnkibcnhjelaaGreatDoor
end
