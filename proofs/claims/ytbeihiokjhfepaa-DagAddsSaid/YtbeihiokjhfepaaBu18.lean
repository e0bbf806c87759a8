/- Lemmas under the proofs of this place: DagRAdd, DagROrder, DagRPast. No statement is proved here. -/
import Derived.Test.YtbeihiokjhfepaaBu16
import Derived.Test.YtbeihiokjhfepaaBu15
import Derived.Test.YtbeihiokjhfepaaBu12
import Derived.Deep.RegionHeldLaw
import Derived.Deep.Cut
import Derived.IntWalk
set_option linter.unusedSimpArgs false
set_option linter.unusedVariables false
set_option maxRecDepth 100000
set_option maxHeartbeats 16000000
namespace Go.Proofs.Ytbeihiokjhfepaa
section
open Go.RowKit
theorem Try.infoNode : (Try.prog.info? 63).map (fun i => (i.zero, i.size, i.bytes)) = some (some (.agg #[.string ⟨#[]⟩, .slice none 0 0]), 2, 40) := by kernel_rfl
theorem rowN_append (r s : List NdA) : rowN (r ++ s) = rowN r ++ rowN s := by simp [rowN]
theorem nown_form {w : World} {base n : Nat} {v : Value} {xs : List Value} {t : TypeId} (h : w.ownsRow base t 2 v n xs) : ∃ A c, v = .slice A n c := by
  rcases h.2 with ⟨rfl, rfl⟩ | ⟨g, cap, cur, rfl, _⟩
  · exact ⟨none, 0, rfl⟩
  · exact ⟨_, _, rfl⟩
theorem append_nall {ops : Array Oper} {rest : List Oper} {o : Oper} {a : Act} {Q : Exit → Act → World → Prop} (hgd : o.guard = none) (s x : Operand)
    (ho : o.op = .call { callee := .builtin .append, args := #[s, x], argTypes := #[25, 25] })
    {wr : World} {A C : Option Addr} {q c m d B : Nat} {r1 r2 : List NdA} (hs : a.eval s = .slice A q c) (hS : wr.ownsRow B 63 2 (.slice A q c) q (rowN r1)) (hx : a.eval x = .slice C m d) (hM : Reads wr wr.heap.size 2 C m (rowN r2)) (hlen : q + m ≤ 100000) (hB : B ≤ wr.heap.size)
    (h : ∀ A' c' w1, Hid (w1.ownsRow B 63 2 (.slice A' (q + m) c') (q + m) (rowN (r1 ++ r2))) → Hid (Below B wr w1) → wpList Try.prog ops Q rest (a.put o.dst (.slice A' (q + m) c')) w1) :
    wpList Try.prog ops Q (o :: rest) a wr := by
  obtain ⟨i0, hi0, hz0, hz1, hz2⟩ := info_parts Try.infoNode
  refine wpList_append_any _ hgd s x 25 ho B 63 i0 _ 2 40 Try.underlying25 hi0 hz0 hz1 hz2 rfl (by omega) _ q (rowN r1) hs hS _ C m d (rowN r2) hx hM (rowN_one _) (by simp only [maxLen]; omega) (by omega) hB ?_
  intro v' w1 ho1 hg1 _
  obtain ⟨A', c', rfl⟩ := nown_form ho1
  refine h A' c' w1 ?_ ((Below.refl _ _).grown hg1 hB fun k hk => (hS.lt k hk).1)
  show w1.ownsRow _ _ _ _ _ _
  rw [rowN_append]
  exact ho1
theorem Try.nodeBuild (A : Option Addr) (n c : Nat) (t : ByteArray) (w : World) : Sem.run Try.prog (Instr.build 63 #[(0, .string t), (1, .slice A n c)]) w = .ok (.agg #[.string t, .slice A n c]) w := by kernel_rfl
theorem Try.dagBuild (A : Option Addr) (n c : Nat) (w : World) : Sem.run Try.prog (Instr.build 27 #[(0, .slice A n c)]) w = .ok (.agg #[.slice A n c]) w := by kernel_rfl
def RAddP (g : Gr) (r : List NdA) (x : Bs) (p : List Bs) (pA : Option Addr) (pc : Nat) (A : Option Addr) (n c : Nat) (w : World) (e : Ending) (w' : World) : Prop :=
  ((addG g x p).2 ≠ 0 ∧ e = .returned (.tuple #[.agg #[.slice A n c], .int .i64 (addG g x p).2]) ∧ Hid (Below w.heap.size w w')) ∨
  ((addG g x p).2 = 0 ∧ ∃ A' c', e = .returned (.tuple #[.agg #[.slice A' (n + 1) c'], .int .i64 0]) ∧ Hid (Reads w' w'.heap.size 2 A' (n + 1) (rowN (r ++ [(⟨x, p⟩, pA, pc)]))) ∧ Hid (∀ ad, A' = some ad → w.heap.size ≤ ad.block ∧ ad.block < w'.heap.size) ∧ Hid (Below w.heap.size w w'))
theorem addG_arg {g : Gr} {x : Bs} {p : List Bs} (h : ¬ (rightB x = true ∧ risesL p = true)) : (addG g x p).2 = 1 := by unfold addG; rw [if_neg h]
theorem addG_two {g : Gr} {x : Bs} {p : List Bs} (h : rightB x = true ∧ risesL p = true) (h2 : hasG g x = true) : (addG g x p).2 = 7 := by unfold addG; rw [if_pos h, if_pos h2]
theorem addG_pred {g : Gr} {x : Bs} {p : List Bs} (h : rightB x = true ∧ risesL p = true) (h2 : hasG g x = false) (h3 : p.all (hasG g) = false) : (addG g x p).2 = 14 := by unfold addG; rw [if_pos h, if_neg (by rw [h2]; simp), if_neg (by rw [h3]; simp)]
theorem addG_full {g : Gr} {x : Bs} {p : List Bs} (h : rightB x = true ∧ risesL p = true) (h2 : hasG g x = false) (h3 : p.all (hasG g) = true) (h4 : 4096 ≤ g.length) : (addG g x p).2 = 2 := by unfold addG; rw [if_pos h, if_neg (by rw [h2]; simp), if_pos h3, if_pos h4]
theorem addG_yes {g : Gr} {x : Bs} {p : List Bs} (h : rightB x = true ∧ risesL p = true) (h2 : hasG g x = false) (h3 : p.all (hasG g) = true) (h4 : ¬ 4096 ≤ g.length) : (addG g x p).2 = 0 ∧ (addG g x p).1 = g ++ [⟨x, p⟩] := by unfold addG; rw [if_pos h, if_neg (by rw [h2]; simp), if_pos h3, if_neg h4]; exact ⟨rfl, rfl⟩
theorem radd_any (g : Gr) (r : List NdA) (x : Bs) (p : List Bs) (A pA : Option Addr) (n c m pc : Nat) (w : World) (hrg : r.map (·.1) = g) (hn : n = g.length) (hm : m = p.length) (h : NR w w.heap.size A r) (hP : SS w w.heap.size pA p) (hl : n ≤ 5000) (hml : m ≤ 1000000) :
    Calls Try.prog 11 #[.agg #[.slice A n c], .string (text x), .slice pA m pc] w (RAddP g r x p pA pc A n c w) := by
  have hNL : NL w w.heap.size A g := ⟨r, hrg, h⟩
  have HRt : Hid (∀ W, Calls Try.prog 35 #[.string (text x)] W fun e w' => e = .returned (.bool (rightB x)) ∧ W = w') := fun W => refRight_any x W
  have HRs : Hid (∀ W, Below w.heap.size w W → Calls Try.prog 36 #[.slice pA m pc] W fun e w' => e = .returned (.bool (risesL p)) ∧ Below W.heap.size W w') := fun W hW => refRising_any p pA m pc w.heap.size W hm (hP.below hW) hml
  have HHs : Hid (∀ (z : Bs) W, Below w.heap.size w W → Calls Try.prog 19 #[.agg #[.slice A n c], .string (text z)] W fun e w' => e = .returned (.bool (hasG g z)) ∧ Below W.heap.size W w') := fun z W hW => rhasg_any g z A n c W hn (hNL.up hW) (by omega)
  have HRd : Hid (Reads w w.heap.size 2 A n (rowN r)) := by
    have h1 := h.1
    have h2 : r.length = n := by rw [hn, ← hrg, List.length_map]
    rw [h2] at h1
    exact h1
  have HPs : Hid (0 < p.length → ∃ b off, pA = some ⟨b, off, none⟩ ∧ b < w.heap.size ∧ ∀ k, k < p.length → w.cell? ⟨b, off + k, none⟩ = some (.string (text (p.getD k [])))) := fun hh => hP.at_ hh
  have HNn := Lib.hid hn
  have HMm := Lib.hid hm
  obtain ⟨PR, hPR⟩ : ∃ P, P = RAddP g r x p pA pc A n c w := ⟨_, rfl⟩
  have HNo : Hid (∀ {e : Ending} {w' : World} (y : Int), (addG g x p).2 = y → y ≠ 0 → e = .returned (.tuple #[.agg #[.slice A n c], .int .i64 y]) → Below w.heap.size w w' → PR e w') := fun y h1 h2 h3 h4 => by
    rw [hPR]
    exact .inl ⟨by rw [h1]; exact h2, by rw [h1]; exact h3, h4⟩
  have HYes : Hid (∀ {e : Ending} {w' : World} (A' : Option Addr) (c' : Nat), (addG g x p).2 = 0 → e = .returned (.tuple #[.agg #[.slice A' (n + 1) c'], .int .i64 0]) → Reads w' w'.heap.size 2 A' (n + 1) (rowN (r ++ [(⟨x, p⟩, pA, pc)])) → (∀ ad, A' = some ad → w.heap.size ≤ ad.block ∧ ad.block < w'.heap.size) → Below w.heap.size w w' → PR e w') := fun A' c' h1 h2 h3 h4 h5 => by
    rw [hPR]
    exact .inr ⟨h1, A', c', h2, h3, h4, h5⟩
  rw [← hPR]
  clear hPR h hNL hP hrg hn hm
  have HHx := Lib.hid (HHs.out x)
  obtain ⟨br, hbr⟩ : ∃ b, b = rightB x := ⟨_, rfl⟩
  obtain ⟨bs, hbs⟩ : ∃ b, b = risesL p := ⟨_, rfl⟩
  obtain ⟨bh, hbh⟩ : ∃ b, b = hasG g x := ⟨_, rfl⟩
  rw [← hbr] at HRt
  rw [← hbs] at HRs
  rw [← hbh] at HHx
  obtain ⟨t, ht⟩ : ∃ t, t = text x := ⟨_, rfl⟩
  rw [← ht] at HRt HHx ⊢
  have HT := Lib.hid ht
  have HBr := Lib.hid hbr
  have HBs := Lib.hid hbs
  have HBh := Lib.hid hbh
  clear ht hbr hbs hbh
  have a27 := fun w' => Try.dagAgg w'
  have s27 := fun w' => Try.dagSize w'
  obtain ⟨wd, hwd⟩ : ∃ wd, wd = w.alloc (.cells #[.slice A n c] 27) := ⟨_, rfl⟩
  have hV : DgV w wd A n c := hwd
  have hsd : wd.heap.size = w.heap.size + 1 := by rw [hwd]; simp
  obtain ⟨wb, hwb⟩ : ∃ wb, wb = wd.alloc (.cells #[.slice none 0 0] 27) := ⟨_, rfl⟩
  have hdb : Below wd.heap.size wd wb := by rw [hwb]; exact (Below.refl _ _).alloc (Nat.le_refl _) _
  have hR0 : Blk wb (w.heap.size + 1) 27 #[.slice none 0 0] := by rw [hwb, ← hsd]; exact Blk.new _ _ _
  have HB0 := Lib.hid (below16 hV.below hdb)
  have HV : Hid (∀ W, Below wb.heap.size wb W → W.cell? ⟨w.heap.size, 0, none⟩ = some (.slice A n c)) := fun W hW => (hV.cell (below16 hdb hW)).1
  have HR := Lib.hid hR0
  have HWb : Hid (wb = (w.alloc (.cells #[.slice A n c] 27)).alloc (.cells #[.slice none 0 0] 27)) := by show _ = _; rw [hwb, hwd]
  have hsb : wb.heap.size = w.heap.size + 2 := by rw [hwb]; simp [hsd]
  have HSb := Lib.hid hsb
  clear hwd hV hwb hdb hR0 hsd hsb
  have HEnd : Hid (∀ (W : World) (v : Value), Below wb.heap.size wb W → (W.setCell ⟨w.heap.size + 1, 0, none⟩ v).cell? ⟨w.heap.size + 1, 0, none⟩ = some v ∧ Below w.heap.size w (W.setCell ⟨w.heap.size + 1, 0, none⟩ v)) := fun W v hW => by
    have K := (HR.out.below hW HR.out.lt).set_ 0 v
    exact ⟨K.cell 0, Below.setCell (below16 HB0.out hW) (show w.heap.size ≤ w.heap.size + 1 by omega) v⟩
  have HFr : Hid (∀ (W : World), Below wb.heap.size wb W → W.cell? ⟨w.heap.size + 1, 0, none⟩ = some (.slice none 0 0) ∧ W.frozen? ⟨w.heap.size + 1, 0, none⟩ = false ∧ w.heap.size + 1 < W.heap.size) := fun W hW => by
    have K := HR.out.below hW HR.out.lt
    exact ⟨K.cell 0, K.frozen 0, K.lt⟩
  obtain ⟨r0, rf, rl⟩ := HFr.out wb (Below.refl _ _)
  have c0 := HV.out wb (Below.refl _ _)
  go_enter Try.func11, Try.ntmps11
  go_upto_region 1 with (fail)
  rw [← HWb.out]
  clear HWb
  cases br with
  | false =>
    go_wp2_with (go_at_call 35; (with_reducible refine (HRt.out _).mono ?_); rintro e w1 ⟨rfl, rfl⟩)
    obtain ⟨y0, hbE⟩ := HEnd.out wb (.slice A n c) (Below.refl _ _)
    refine bodyPost_ret (v := .tuple #[.agg #[.slice A n c], .int .i64 1]) (by simp [results, Try.results11, go_sem, y0]) rfl ?_
    exact HNo.out 1 (addG_arg (by rw [← HBr.out]; simp)) (by decide) rfl hbE
  | true =>
    cases bs with
    | false =>
      go_wp2_with (first
        | (go_at_call 36; (with_reducible refine (HRs.out _ HB0.out).mono ?_); rintro e w2 ⟨rfl, b2⟩; have D2 := Lib.hid b2; have B2 := Lib.hid (below16 HB0.out b2); clear r0 rf rl c0; have c0 := HV.out _ D2.out; obtain ⟨r0, rf, rl⟩ := HFr.out _ D2.out)
        | (go_at_call 35; (with_reducible refine (HRt.out _).mono ?_); rintro e w1 ⟨rfl, rfl⟩))
      obtain ⟨y0, hbE⟩ := HEnd.out w2 (.slice A n c) D2.out
      refine bodyPost_ret (v := .tuple #[.agg #[.slice A n c], .int .i64 1]) (by simp [results, Try.results11, go_sem, y0]) rfl ?_
      exact HNo.out 1 (addG_arg (by rw [← HBs.out]; simp)) (by decide) rfl hbE
    | true =>
      have HOK : Hid (rightB x = true ∧ risesL p = true) := ⟨HBr.out.symm, HBs.out.symm⟩
      cases bh with
      | true =>
        go_wp2_with (first
          | (go_at_call 19; (with_reducible refine (HHx.out _ B2.out).mono ?_); rintro e w3 ⟨rfl, b3⟩; have D3 := Lib.hid (below16 D2.out b3); have B3 := Lib.hid (below16 B2.out b3); clear r0 rf rl c0; have c0 := HV.out _ D3.out; obtain ⟨r0, rf, rl⟩ := HFr.out _ D3.out)
          | (go_at_call 36; (with_reducible refine (HRs.out _ HB0.out).mono ?_); rintro e w2 ⟨rfl, b2⟩; have D2 := Lib.hid b2; have B2 := Lib.hid (below16 HB0.out b2); clear r0 rf rl c0; have c0 := HV.out _ D2.out; obtain ⟨r0, rf, rl⟩ := HFr.out _ D2.out)
          | (go_at_call 35; (with_reducible refine (HRt.out _).mono ?_); rintro e w1 ⟨rfl, rfl⟩))
        obtain ⟨y0, hbE⟩ := HEnd.out w3 (.slice A n c) D3.out
        refine bodyPost_ret (v := .tuple #[.agg #[.slice A n c], .int .i64 7]) (by simp [results, Try.results11, go_sem, y0]) rfl ?_
        exact HNo.out 7 (addG_two HOK.out HBh.out.symm) (by decide) rfl hbE
      | false =>
        go_wp2_with (first
          | (go_at_call 19; (with_reducible refine (HHx.out _ B2.out).mono ?_); rintro e w3 ⟨rfl, b3⟩; have D3 := Lib.hid (below16 D2.out b3); have B3 := Lib.hid (below16 B2.out b3); clear r0 rf rl c0; have c0 := HV.out _ D3.out; obtain ⟨r0, rf, rl⟩ := HFr.out _ D3.out)
          | (go_at_call 36; (with_reducible refine (HRs.out _ HB0.out).mono ?_); rintro e w2 ⟨rfl, b2⟩; have D2 := Lib.hid b2; have B2 := Lib.hid (below16 HB0.out b2); clear r0 rf rl c0; have c0 := HV.out _ D2.out; obtain ⟨r0, rf, rl⟩ := HFr.out _ D2.out)
          | (go_at_call 35; (with_reducible refine (HRt.out _).mono ?_); rintro e w1 ⟨rfl, rfl⟩))
        obtain ⟨wo, hwo⟩ : ∃ wo, wo = w3 := ⟨_, rfl⟩
        rw [← hwo] at D3 B3 ⊢
        clear r0 rf rl c0 hwo b2 b3
        go_loopw [8] (fun v wr => ∃ k : Nat, k ≤ m ∧ v = .int .i64 (k : Int) ∧ Hid (∀ j, j < k → hasG g (p.getD j []) = true) ∧ Hid (Below wb.heap.size wb wr)) (fun v _ => m - (intOf v).toNat)
        case atStart => exact ⟨0, Nat.zero_le _, rfl, fun j hj => by omega, D3.out⟩
        case round =>
          obtain ⟨k, hk, rfl, HF, HD⟩ := hrel
          have c0 := HV.out _ HD.out
          obtain ⟨r0, rf, rl⟩ := HFr.out _ HD.out
          have hB := below16 HB0.out HD.out
          have HBw := Lib.hid hB
          by_cases hlt : k < m
          · have d0 : decide ((k : Int) < (m : Int)) = true := decide_eq_true (by omega)
            have hkp : k < p.length := by have := HMm.out; omega
            obtain ⟨pb, po, rfl, hpb, hpc⟩ := HPs.out (by omega)
            have hpk := hpc k hkp
            obtain ⟨z, hz⟩ : ∃ z, z = p.getD k [] := ⟨_, rfl⟩
            rw [← hz] at hpk
            obtain ⟨s, hs⟩ : ∃ s, s = text z := ⟨_, rfl⟩
            rw [← hs] at hpk
            have HHz := Lib.hid (HHs.out z)
            rw [← hs] at HHz
            obtain ⟨bz, hbz⟩ : ∃ b, b = hasG g z := ⟨_, rfl⟩
            rw [← hbz] at HHz
            have HSt : Hid (∀ W, Below wb.heap.size wb W → W.cell? ⟨w.heap.size, 0, none⟩ = some (.slice A n c) ∧ W.cell? ⟨pb, po + k, none⟩ = some (.string s)) := fun W hW => ⟨HV.out W hW, ((below16 HB0.out hW).cell (p := ⟨pb, po + k, none⟩) hpb).trans hpk⟩
            have u0 : (0 : Int) ≤ (k : Int) := by omega
            have u1 : (k : Int) < (m : Int) := by omega
            have HZ : Hid (bz = hasG g (p.getD k [])) := by show _ = _; rw [hbz, hz]
            have HPm : Hid (p.getD k [] ∈ p) := by
              show _ ∈ _
              rw [List.getD, List.getElem?_eq_getElem hkp]
              exact List.getElem_mem hkp
            have P0 : Below wb.heap.size wb wr.drew := HD.out.drew
            have h0 := HSt.out _ P0
            clear hz hs hbz hpk hpc hpb hkp hB
            go_wp2
            go_region_held_law (fun w' => w'.cell? ⟨w.heap.size, 0, none⟩ = some (.slice A n c) ∧ w'.cell? ⟨pb, po + k, none⟩ = some (.string s))
              (exact HSt.out _ (by assumption))
              (first
                | (go_at_call 19; (with_reducible refine (HHz.out _ (below16 HB0.out P0)).mono ?_); rintro e x1 ⟨rfl, b1⟩; have P1 : Below wb.heap.size wb x1 := below16 P0 b1))
            clear r0 rf rl c0
            have c0 := HV.out _ P1
            obtain ⟨r0, rf, rl⟩ := HFr.out _ P1
            cases bz with
            | true =>
              go_wp2
              go_roundw
              case rel => exact ⟨k + 1, by omega, by go_num, fun j hj => (by
                rcases Nat.lt_or_ge j k with h1 | h1
                · exact HF.out j h1
                · rw [show j = k by omega]; exact HZ.out.symm), P1⟩
              case measure => simp [intOf]; omega
            | false =>
              go_wp2
              obtain ⟨y0, hbE⟩ := HEnd.out x1 (.slice A n c) P1
              refine bodyPost_ret (v := .tuple #[.agg #[.slice A n c], .int .i64 14]) (by simp [results, Try.results11, go_sem, y0]) rfl ?_
              exact HNo.out 14 (addG_pred HOK.out HBh.out.symm (by rw [List.all_eq_false]; exact ⟨_, HPm.out, by rw [← HZ.out]; simp⟩)) (by decide) rfl hbE
          · have d0 : decide ((k : Int) < (m : Int)) = false := decide_eq_false (by omega)
            have hall : p.all (hasG g) = true := by
              rw [List.all_eq_true]
              intro q hq
              obtain ⟨j, hj, e⟩ := List.getElem_of_mem hq
              have h1 := HF.out j (by have := HMm.out; omega)
              rw [List.getD, List.getElem?_eq_getElem hj] at h1
              rw [← e]
              exact h1
            have HAll := Lib.hid hall
            clear hall hB
            by_cases hfull : 4096 ≤ n
            · have d1 : decide ((n : Int) ≥ 4096) = true := decide_eq_true (by omega)
              have d1' : decide ((4096 : Int) ≤ (n : Int)) = true := decide_eq_true (by omega)
              go_wp2
              obtain ⟨y0, hbE⟩ := HEnd.out wr (.slice A n c) HD.out
              refine bodyPost_ret (v := .tuple #[.agg #[.slice A n c], .int .i64 2]) (by simp [results, Try.results11, go_sem, y0]) rfl ?_
              exact HNo.out 2 (addG_full HOK.out HBh.out.symm HAll.out (by have := HNn.out; omega)) (by decide) rfl hbE
            · have d1 : decide ((n : Int) ≥ 4096) = false := decide_eq_false (by omega)
              have d1' : decide ((4096 : Int) ≤ (n : Int)) = false := decide_eq_false (by omega)
              have hyes := addG_yes HOK.out HBh.out.symm HAll.out (by have := HNn.out; omega)
              have HY0 := Lib.hid hyes.1
              clear hyes
              have hsz := HSb.out
              have hsw := HD.out.size
              have HRw : Hid (Reads (wr.alloc (.cells #[] 63)) (wr.alloc (.cells #[] 63)).heap.size 2 A n (rowN r)) := by
                have h1 : Below w.heap.size w (wr.alloc (.cells #[] 63)) := HBw.out.alloc HBw.out.size _
                exact (HRd.out.below h1).more h1.size
              have HMk : Hid ((wr.alloc (.cells #[] 63)).ownsRow wr.heap.size 63 2 (.slice (some ⟨wr.heap.size, 0, none⟩) 0 0) 0 (rowN [])) := World.ownsRow_made wr #[] 0 (Nat.le_refl _) (by decide) rfl
              have HR1 : Hid (∀ W : World, Reads (W.alloc (.cells #[.string t, .slice pA m pc] 63)) (W.alloc (.cells #[.string t, .slice pA m pc] 63)).heap.size 2 (some ⟨W.heap.size, 0, none⟩) 1 (rowN [((⟨x, p⟩ : Nd), pA, pc)])) := fun W => by
                rw [HT.out, HMm.out]
                refine ⟨rfl, fun _ => ⟨⟨W.heap.size, 0, none⟩, rfl, by simp, fun j u hu => ?_⟩⟩
                have K := Blk.new W 63 #[.string (text x), .slice pA p.length pc]
                match j with
                | 0 =>
                  have e0 : (⟨W.heap.size, 0, none⟩ : Addr).add 0 = ⟨W.heap.size, 0, none⟩ := by simp [Addr.add]
                  rw [e0, show u = .string (text x) by simpa [rowN, ndC] using hu.symm]
                  exact K.cell 0
                | 1 =>
                  have e1 : (⟨W.heap.size, 0, none⟩ : Addr).add 1 = ⟨W.heap.size, 1, none⟩ := by simp [Addr.add]
                  rw [e1, show u = .slice pA p.length pc by simpa [rowN, ndC] using hu.symm]
                  exact K.cell 1
                | j + 2 => simp [rowN, ndC] at hu
              have nbn := fun (A : Option Addr) (n c : Nat) (t : ByteArray) w' => Try.nodeBuild A n c t w'
              have nbd := fun (A : Option Addr) (n c : Nat) w' => Try.dagBuild A n c w'
              have zal : wr.heap.size ≤ (wr.alloc (.cells #[] 63)).heap.size := by simp
              have c1 := HV.out _ (HD.out.alloc hsw (.cells #[] 63))
              clear hsz
              go_wp2_with (first
                | (at_builtin; refine append_nall rfl (.tmp 46) (.tmp 50) rfl rfl (HO4.out.alloc _) rfl (HR1.out w4) (by omega) z4 ?_; intro X2 cc2 w5 ho5 hb5; have D5 := Lib.hid ((((HD.out.alloc hsw (.cells #[] 63)).trans (hb4.out.mono hsw)).alloc (Nat.le_trans hsw z4') (.cells #[.string t, .slice pA m pc] 63)).trans (hb5.out.mono hsw)); clear r0 rf rl; obtain ⟨r0, rf, rl⟩ := HFr.out _ D5.out)
                | (at_builtin; refine append_nall rfl (.tmp 42) (.tmp 44) rfl rfl HMk.out rfl HRw.out (by omega) zal ?_; intro X1 cc1 w4 ho4 hb4; have HO4 : Hid (w4.ownsRow wr.heap.size 63 2 (.slice X1 n cc1) n (rowN r)) := (by have h1 := ho4.out; simp only [Nat.zero_add, List.nil_append] at h1; exact h1); have z4' : wr.heap.size ≤ w4.heap.size := Nat.le_trans zal hb4.out.size; have z4 : wr.heap.size ≤ (w4.alloc (.cells #[.string t, .slice pA m pc] 63)).heap.size := Nat.le_trans z4' (by simp)))
              obtain ⟨y0, hbE⟩ := HEnd.out w5 (.slice X2 (n + 1) cc2) D5.out
              have hlo : w.heap.size + 1 < wr.heap.size := by have := HSb.out; omega
              have hoE := ownsRow_setCell_below ho5.out (a := ⟨w.heap.size + 1, 0, none⟩) hlo (.slice X2 (n + 1) cc2)
              have hnew : ∀ ad, X2 = some ad → w.heap.size ≤ ad.block ∧ ad.block < (w5.setCell ⟨w.heap.size + 1, 0, none⟩ (.slice X2 (n + 1) cc2)).heap.size := fun ad e => by
                have h1 := hoE.lt ad.block (by rw [e]; rfl)
                exact ⟨by omega, h1.2⟩
              have hRd := Reads.of_own hoE
              refine bodyPost_ret (v := .tuple #[.agg #[.slice X2 (n + 1) cc2], .int .i64 0]) (by simp [results, Try.results11, go_sem, y0]) rfl ?_
              exact HYes.out X2 cc2 HY0.out rfl hRd hnew hbE
end
section
open Go.RowKit
theorem rowI_succ (g : Gr) (m k : Nat) : rowI g m (k + 1) = rowI g m k ++ if (depthsG g).getD k 0 = m then [(g.getD k nd0).id] else [] := by
  unfold rowI
  rw [List.range_succ, List.filter_append, List.map_append]
  congr 1
  by_cases h : (depthsG g).getD k 0 = m
  · rw [if_pos h]
    have h2 : ((depthsG g).getD k 0 == m) = true := by simpa using h
    rw [List.filter_cons, h2]
    rfl
  · rw [if_neg h]
    have h2 : ((depthsG g).getD k 0 == m) = false := by simpa using h
    rw [List.filter_cons, h2]
    rfl
theorem orderK_len {g : Gr} (ok : GrOk g) (m : Nat) : (orderK g m).length ≤ g.length := by
  have h1 := List.Nodup.length_le_of_subset (l₂ := idsG g) ((orderK_by ok m).imp fun h => h.2) (fun x hx => ((orderK_mem ok x m).1 hx).1)
  rwa [idsG_len] at h1
theorem rorder_any (g : Gr) (ok : GrOk g) (A : Option Addr) (n c : Nat) (w : World) (hn : n = g.length) (h : NL w w.heap.size A g) (hl : n ≤ 5000) (hp : ∀ k, k < g.length → (g.getD k nd0).preds.length ≤ 1000000) :
    Calls Try.prog 41 #[.agg #[.slice A n c]] w (GivesStrs (orderG g) w) := by
  have HR : Hid (0 < g.length → ∃ b off, A = some ⟨b, off, none⟩ ∧ b < w.heap.size ∧ ∀ i, i < g.length → ∃ pA pc, SS w w.heap.size pA (g.getD i nd0).preds ∧ ((g.getD i nd0).preds.length ≤ pc ∧ pc ≤ 9223372036854775807) ∧ w.cell? ⟨b, off + i * 2, none⟩ = some (.string (text (g.getD i nd0).id)) ∧ w.cell? ⟨b, off + i * 2 + 1, none⟩ = some (.slice pA (g.getD i nd0).preds.length pc)) := fun hh => h.at_ hh
  have HN := Lib.hid hn
  have HOl : Hid (∀ m, (orderK g m).length ≤ n) := fun m => by rw [hn]; exact orderK_len ok m
  have hdl : (depthsG g).length = n := by rw [hn]; exact depthsK_len g _
  have HDs : Hid (∀ W, Below w.heap.size w W → Calls Try.prog 50 #[.agg #[.slice A n c]] W fun e w' => ∃ D dc, e = .returned (.slice D n dc) ∧ Hid (NS w' w'.heap.size D (depthsG g)) ∧ Hid (Below W.heap.size W w')) := fun W hb => (rdepths_any g ok A n c W hn (h.up hb) hl hp).mono fun e w' hh => by
    obtain ⟨D, dc, q1, q2, q3⟩ := hh
    rw [hdl] at q1
    exact ⟨D, dc, q1, q2, q3⟩
  have HOf : Hid (∀ (l : List Bs) (m : Nat) (X : Option Addr) (d : Nat) W, m = l.length → SS W W.heap.size X l → m ≤ 10000 → Calls Try.prog 48 #[.slice X m d] W fun e w' => ∃ A3 n3 c3, e = .returned (.slice A3 n3 c3) ∧ Hid (n3 = (ofL l).length) ∧ Hid (SS w' w'.heap.size A3 (ofL l)) ∧ Hid (Below W.heap.size W w')) := fun l m X d W h1 h2 h3 => (refOf_any l X m d _ W h1 h2 h3).mono fun e w' hh => by
    obtain ⟨A3, c3, q1, q2, q3, q4, q5⟩ := hh
    exact ⟨A3, _, c3, q1, rfl, q2, q5⟩
  have HG : Hid (orderK g n = orderG g) := by show _ = _; rw [hn]; rfl
  have HDl := Lib.hid hdl
  clear hn h hp ok hdl
  obtain ⟨wb, hwb⟩ : ∃ wb, wb = w.alloc (.cells #[.slice A n c] 27) := ⟨_, rfl⟩
  have HV : Hid (DgV w wb A n c) := hwb
  have HWb := Lib.hid hwb
  clear hwb
  have a27 := fun w' => Try.dagAgg w'
  have s27 := fun w' => Try.dagSize w'
  obtain ⟨c0, cl, cf⟩ := HV.out.cell (Below.refl _ _)
  rw [HWb.out] at c0
  have HB0 := Lib.hid HV.out.below
  rw [HWb.out] at HB0
  go_enter Try.func41, Try.ntmps41
  go_wp2_with (go_at_call 50; (with_reducible refine (HDs.out _ HB0.out).mono ?_); rintro e w1 ⟨D, dc, rfl, hD, b1⟩; clear c0 cl cf)
  have hb1 : Below wb.heap.size wb w1 := by rw [HWb.out]; exact b1.out
  have HB1 := Lib.hid hb1
  clear HDs b1 hb1
  go_loopw [4, 5] (fun v i wr => ∃ (m y : Nat) (X : Option Addr) (cc : Nat), m ≤ n ∧ v = .slice X y cc ∧ i = .int .i64 ((m + 1 : Nat) : Int) ∧ y ≤ n ∧ Hid (wr.ownsRow w1.heap.size 9 1 (.slice X y cc) y (scells (orderK g m))) ∧ Hid (Below w1.heap.size w1 wr)) (fun _ i _ => n + 1 - (intOf i).toNat)
  case atStart => exact ⟨0, 0, none, 0, Nat.zero_le _, rfl, rfl, Nat.zero_le _, ⟨rfl, .inl ⟨rfl, rfl⟩⟩, Below.refl _ _⟩
  case round =>
    obtain ⟨m, y, X, cc, hm, rfl, rfl, hy, HO, HB⟩ := hrel
    have hbb := below16 HB1.out HB.out
    obtain ⟨c0, cl, cf⟩ := HV.out.cell hbb
    have hB := below16 HV.out.below hbb
    have HB2 := Lib.hid hB
    by_cases hlt : m < n
    · have d0 : decide (((m + 1 : Nat) : Int) ≤ (n : Int)) = true := decide_eq_true (by omega)
      obtain ⟨wo, hwo⟩ : ∃ wo, wo = wr := ⟨_, rfl⟩
      have HK1 : Hid (orderK g (m + 1) = orderK g m ++ ofL (rowG g (m + 1))) := rfl
      have hOl1 := HOl.out (m + 1)
      rw [← hwo] at HO HB HB2 c0 cl cf ⊢
      obtain ⟨mm, hmm⟩ : ∃ x, x = m + 1 := ⟨_, rfl⟩
      rw [← hmm] at HK1 hOl1 d0 ⊢
      have HMM := Lib.hid hmm
      have hmn : mm ≤ n := by omega
      have d0n : decide (mm ≤ n) = true := decide_eq_true hmn
      clear hB hwo hbb hmm
      go_wp2
      go_loopw [6, 7] (fun v i wr => ∃ (k z : Nat) (Z : Option Addr) (zc : Nat), k ≤ n ∧ v = .slice Z z zc ∧ i = .int .i64 (k : Int) ∧ z ≤ k ∧ Hid (wr.ownsRow wo.heap.size 9 1 (.slice Z z zc) z (scells (rowI g mm k))) ∧ Hid (Below wo.heap.size wo wr)) (fun _ i _ => n - (intOf i).toNat)
      case atStart => exact ⟨0, 0, none, 0, Nat.zero_le _, rfl, rfl, Nat.le_refl _, ⟨rfl, .inl ⟨rfl, rfl⟩⟩, Below.refl _ _⟩
      case round =>
        obtain ⟨k, z, Z, zc, hk, rfl, rfl, hz, HI, HBi⟩ := hrel
        have hbb := below16 HB.out HBi.out
        have hbw := below16 HB1.out hbb
        obtain ⟨c0, cl, cf⟩ := HV.out.cell hbw
        have hB := below16 HB2.out HBi.out
        have HB3 := Lib.hid hB
        by_cases hlt2 : k < n
        · have d1 : decide ((k : Int) < (n : Int)) = true := decide_eq_true (by omega)
          have hkg : k < g.length := by have := HN.out; omega
          obtain ⟨b, off, rfl, hb, hc⟩ := HR.out (by omega)
          obtain ⟨pA, pc, -, -, hc0, -⟩ := hc k hkg
          rw [← hB.cell (p := ⟨b, off + k * 2, none⟩) hb] at hc0
          obtain ⟨db, dof, rfl, hdb, hdc⟩ := hD.out.at_ (by have := HDl.out; omega)
          have hdk := hdc k (by have := HDl.out; omega)
          rw [← hbb.cell (p := ⟨db, dof + k, none⟩) hdb] at hdk
          have hsu := rowI_succ g mm k
          obtain ⟨x, hx⟩ : ∃ l, l = (g.getD k nd0).id := ⟨_, rfl⟩
          obtain ⟨dd, hdd⟩ : ∃ d, d = (depthsG g).getD k 0 := ⟨_, rfl⟩
          rw [← hx] at hc0 hsu
          rw [← hdd] at hdk hsu
          obtain ⟨s, hs1⟩ : ∃ s, s = text x := ⟨_, rfl⟩
          rw [← hs1] at hc0
          have HS1 := Lib.hid hs1
          have HSu := Lib.hid hsu
          have u0 : (0 : Int) ≤ (k : Int) := by omega
          have u1 : (k : Int) < (n : Int) := by omega
          have HPb := HBi.out.size
          clear hx hdd hs1 hsu hdc hdb hc hkg hB hbb hbw hb
          by_cases he : dd = mm
          · have e0 : (((dd : Nat) : Int) == ((mm : Nat) : Int)) = true := by simp [he]
            have e1 : decide (((dd : Nat) : Int) = ((mm : Nat) : Int)) = true := decide_eq_true (by omega)
            rw [if_pos he] at HSu
            clear he
            go_wp2_with (at_builtin; refine append_sone rfl (.tmp 30) (.tmp 37) rfl rfl HI.out HS1.out rfl (by omega) HPb ?_; intro X7 cc7 w7 ho7 hb7)
            go_roundw
            case rel => exact ⟨k + 1, z + 1, X7, cc7, by omega, rfl, by go_num, by omega, by rw [HSu.out]; exact ho7.out, HBi.out.trans hb7.out⟩
            case measure => simp [intOf]; omega
          · have e0 : (((dd : Nat) : Int) == ((mm : Nat) : Int)) = false := by simp; omega
            have e1 : decide (((dd : Nat) : Int) = ((mm : Nat) : Int)) = false := decide_eq_false (by omega)
            rw [if_neg he, List.append_nil] at HSu
            go_wp2
            go_roundw
            case rel => exact ⟨k + 1, z, Z, zc, by omega, rfl, by go_num, by omega, by rw [HSu.out]; exact HI.out, HBi.out⟩
            case measure => simp [intOf]; omega
        · have d1 : decide ((k : Int) < (n : Int)) = false := decide_eq_false (by omega)
          have hkn : k = n := by omega
          subst hkn
          have hRw : rowI g mm k = rowG g mm := by rw [HN.out]; rfl
          have hzl : z = (rowG g mm).length := by
            have h1 := HI.out.1
            rw [scells_length, hRw] at h1
            omega
          have HOf2 := Lib.hid (HOf.out (rowG g mm) z Z zc wr hzl (by have h1 := HI.out; rw [hRw, hzl] at h1; exact own_ss h1) (by omega))
          have HO1 := Lib.hid (sown_kept HO.out HBi.out)
          have hyl : y = (orderK g m).length := by
            have h1 := HO.out.1
            rw [scells_length] at h1
            omega
          rw [HK1.out, List.length_append, ← hyl] at hOl1
          have hbo := HBi.out.size
          have z2 := HB.out.size
          have zz := Nat.le_trans z2 hbo
          have HYl := Lib.hid hyl
          clear hRw hzl hB hbb hbw HOf hyl
          go_wp2_with (first
            | (go_at_call 48; (with_reducible refine HOf2.out.mono ?_); rintro e w5 ⟨A3, n3, c3, rfl, hn3, hS3, b3⟩; have HO2 := Lib.hid (sown_kept HO1.out b3.out); have zz5 := Nat.le_trans zz b3.out.size)
            | (at_builtin; refine append_sall rfl (.tmp 39) (.tmp 41) rfl rfl HO2.out rfl hn3.out hS3.out (by have := hn3.out; omega) zz5 ?_; intro X7 cc7 w7 ho7 hb7))
          go_roundw
          case rel => exact ⟨mm, y + n3, X7, cc7, by have := HMM.out; omega, rfl, by go_num, by have := hn3.out; omega, by rw [HK1.out]; exact ho7.out, (below16 (below16 HB.out HBi.out) b3.out).trans hb7.out⟩
          case measure => simp [intOf]; have := HMM.out; omega
    · have d0 : decide (((m + 1 : Nat) : Int) ≤ (n : Int)) = false := decide_eq_false (by omega)
      have d0n : decide (m + 1 ≤ n) = false := decide_eq_false (by omega)
      have d0m : ¬ (m + 1 ≤ n) := by omega
      have hmn : m = n := by omega
      subst hmn
      have hyl : y = (orderG g).length := by
        have h1 := HO.out.1
        rw [scells_length, HG.out] at h1
        omega
      have HSS : Hid (SS wr wr.heap.size X (orderG g)) := by
        have h1 := HO.out
        rw [HG.out, hyl] at h1
        exact own_ss h1
      have HCp := Lib.hid (sown_cap HO.out)
      have HYL := Lib.hid hyl
      clear hB hyl hbb
      go_wp2
      go_ret
      exact ⟨X, cc, by rw [← HYL.out]; rfl, HSS.out, by rw [← HYL.out]; exact HCp.out.1, HCp.out.2, HB2.out⟩
end
section
open Go.RowKit
def pastC (g : Gr) (l : List Bs) : Nat → List Bs
  | 0 => []
  | j + 1 => if hasL (l ++ pastC g l j) (g.getD (g.length - 1 - j) nd0).id = true then pastC g l j ++ (g.getD (g.length - 1 - j) nd0).preds else pastC g l j
theorem pastC_eq (g : Gr) (l : List Bs) : ∀ j, (pastK g l j).2 = l ++ pastC g l j
  | 0 => by simp [pastK, pastC]
  | j + 1 => by
    have ih := pastC_eq g l j
    unfold pastK pastC
    rw [ih]
    split
    · simp
    · rw [ih]
theorem pastO_succ (g : Gr) (l : List Bs) (j : Nat) : (pastK g l (j + 1)).1 = (pastK g l j).1 ++ if hasL (l ++ pastC g l j) (g.getD (g.length - 1 - j) nd0).id = true then [(g.getD (g.length - 1 - j) nd0).id] else [] := by
  rw [← pastC_eq]
  show (if hasL (pastK g l j).2 (g.getD (g.length - 1 - j) nd0).id = true then _ else _ : List Bs × List Bs).1 = _
  split <;> simp
theorem pastO_len (g : Gr) (l : List Bs) : ∀ j, (pastK g l j).1.length ≤ j
  | 0 => Nat.le_refl _
  | j + 1 => by
    rw [pastO_succ, List.length_append]
    have ih := pastO_len g l j
    split <;> simp <;> omega
theorem hasL_app (l m : List Bs) (x : Bs) : hasL (l ++ m) x = (hasL l x || hasL m x) := by simp [hasL]
def flagsG (g : Gr) (c : List Bs) : List Bool := (idsG g).map fun x => hasL c x
theorem flagsG_len (g : Gr) (c : List Bs) : (flagsG g c).length = g.length := by simp [flagsG, idsG]
theorem flagsG_at (g : Gr) (c : List Bs) {k : Nat} (h : k < g.length) : (flagsG g c).getD k false = hasL c (g.getD k nd0).id := by
  have h2 : k < (idsG g).length := by rw [idsG_len]; exact h
  unfold flagsG
  rw [List.getD, List.getElem?_map, List.getElem?_eq_getElem h2, idsG_at h]
  rfl
theorem flagsG_none (g : Gr) : flagsG g [] = List.replicate g.length false := by
  apply List.ext_getElem
  · simp [flagsG, idsG]
  · intro i h1 h2
    simp [flagsG, hasL]
theorem flagsG_one {g : Gr} (hd : (idsG g).Nodup) (c : List Bs) {p : Bs} (hp : p ∈ idsG g) : (flagsG g c).set (idxG g p) true = flagsG g (c ++ [p]) := by
  apply List.ext_getElem
  · simp [flagsG]
  · intro i h1 h2
    rw [List.length_set, flagsG_len] at h1
    have e : ∀ c, (flagsG g c)[i]'(by rw [flagsG_len]; exact h1) = hasL c (g.getD i nd0).id := fun c => by
      have := flagsG_at g c h1
      rw [List.getD, List.getElem?_eq_getElem (by rw [flagsG_len]; exact h1)] at this
      exact this
    rw [List.getElem_set, e (c ++ [p]), hasL_app]
    split
    · rename_i h3
      have h4 : (g.getD i nd0).id = p := by rw [← h3]; exact idx_id (idx_lt.2 hp)
      rw [h4]
      simp [hasL]
    · rename_i h3
      rw [e c]
      have h4 : (g.getD i nd0).id ≠ p := fun h5 => h3 (by rw [← h5]; exact idx_at hd h1)
      have h5 : hasL [p] (g.getD i nd0).id = false := by
        simp [hasL]
        exact fun h6 => h4 h6.symm
      rw [h5, Bool.or_false]
theorem rpast_any (g : Gr) (ok : GrOk g) (l : List Bs) (A Y : Option Addr) (n c m d : Nat) (w : World) (hn : n = g.length) (hm : m = l.length) (h : NL w w.heap.size A g) (hY : SS w w.heap.size Y l) (hl : n ≤ 5000) (hml : m ≤ 1000000) (hp : ∀ k, k < g.length → (g.getD k nd0).preds.length ≤ 1000000) :
    Calls Try.prog 17 #[.agg #[.slice A n c], .slice Y m d] w (GivesStrs (pastG g l) w) := by
  have HR : Hid (0 < g.length → ∃ b off, A = some ⟨b, off, none⟩ ∧ b < w.heap.size ∧ ∀ i, i < g.length → ∃ pA pc, SS w w.heap.size pA (g.getD i nd0).preds ∧ ((g.getD i nd0).preds.length ≤ pc ∧ pc ≤ 9223372036854775807) ∧ w.cell? ⟨b, off + i * 2, none⟩ = some (.string (text (g.getD i nd0).id)) ∧ w.cell? ⟨b, off + i * 2 + 1, none⟩ = some (.slice pA (g.getD i nd0).preds.length pc)) := fun hh => h.at_ hh
  have HN := Lib.hid hn
  have HPl := Lib.hid hp
  have HOk := Lib.hid ok
  have HHas : Hid (∀ (x : Bs) W, Below w.heap.size w W → Calls Try.prog 29 #[.slice Y m d, .string (text x)] W fun e w' => e = .returned (.bool (hasL l x)) ∧ W = w') := fun x W hW => refHas_any l x Y m d w.heap.size W hm (hY.below hW) hml
  have HFd : Hid (∀ (z : Bs) W, Below w.heap.size w W → Calls Try.prog 47 #[.agg #[.slice A n c], .string (text z)] W fun e w' => e = .returned (.int .i64 (idxZ g z)) ∧ Below W.heap.size W w') := fun z W hW => rfind_any g z A n c W hn (h.up hW) (by omega)
  have HOf : Hid (∀ (l : List Bs) (m : Nat) (X : Option Addr) (d : Nat) W, m = l.length → SS W W.heap.size X l → m ≤ 10000 → Calls Try.prog 48 #[.slice X m d] W (GivesStrs (ofL l) W)) := fun l m X d W h1 h2 h3 => refOf_any l X m d _ W h1 h2 h3
  have HP : Hid (ofL (pastK g l n).1 = pastG g l) := by show _ = _; rw [hn]; rfl
  have HPl1 : Hid (∀ j, (pastK g l j).1.length ≤ j) := fun j => pastO_len g l j
  clear hn hm h hp ok hY
  obtain ⟨wb, hwb⟩ : ∃ wb, wb = w.alloc (.cells #[.slice A n c] 27) := ⟨_, rfl⟩
  have HV : Hid (DgV w wb A n c) := hwb
  have HWb := Lib.hid hwb
  clear hwb
  have a27 := fun w' => Try.dagAgg w'
  have s27 := fun w' => Try.dagSize w'
  obtain ⟨c0, cl, cf⟩ := HV.out.cell (Below.refl _ _)
  rw [HWb.out] at c0
  have hwn : (w.alloc (.cells #[.slice A n c] 27)).heap.size = wb.heap.size := by rw [HWb.out]
  have HSz : Hid (∀ W, Below wb.heap.size wb W → W.cell? ⟨w.heap.size, 0, none⟩ = some (.slice A n c)) := fun W hW => (HV.out.cell hW).1
  have ei : IntKind.i64.wrap ((n : Int) - 1) = (n : Int) - 1 := IntWalk.i64_in _ (by omega)
  go_enter Try.func17, Try.ntmps17
  go_wp2_with (at_make; refine make_flags rfl n (.tmp 11) (.tmp 11) rfl rfl rfl (by omega) ?_; intro w1 hf1 hb1; clear c0 cl cf; rw [hwn] at hf1; have c0 := HSz.out w1 (by have h2 := hb1.out; rw [hwn] at h2; rw [HWb.out]; rw [HWb.out] at h2; exact h2))
  have hws : wb.heap.size = w.heap.size + 1 := by rw [HWb.out]; simp
  have HB1 : Hid (Below wb.heap.size wb w1) := by
    have h2 := hb1.out
    rw [← HWb.out] at h2
    exact h2
  have HF1 : Hid (FlB w1 wb.heap.size (flagsG g [])) := by
    show FlB _ _ _
    rw [flagsG_none, ← HN.out]
    exact hf1.out
  obtain ⟨ib, hib⟩ : ∃ x, x = w.heap.size + 1 := ⟨_, rfl⟩
  rw [← hib] at hws
  rw [hws] at HF1
  first | rw [hws] | rw [← hib]
  have HIb := Lib.hid hib
  clear hwn hf1 hb1 c0 hib
  have HWs := Lib.hid hws
  clear hws
  have hz1 : ib + 1 ≤ w1.heap.size := HF1.out.lt
  go_loopw [6, 7] (fun v i wr => ∃ (j y : Nat) (X : Option Addr) (cc : Nat), j ≤ n ∧ v = .slice X y cc ∧ i = .int .i64 ((n : Int) - 1 - (j : Int)) ∧ y ≤ j ∧ Hid (wr.ownsRow (ib + 1) 9 1 (.slice X y cc) y (scells (pastK g l j).1)) ∧ Hid (FlB wr ib (flagsG g (pastC g l j))) ∧ Hid (Below wb.heap.size wb wr)) (fun _ i _ => (intOf i + 1).toNat)
  case atStart => exact ⟨0, 0, none, 0, Nat.zero_le _, rfl, by simp, Nat.le_refl _, ⟨rfl, .inl ⟨rfl, rfl⟩⟩, HF1.out, HB1.out⟩
  case round =>
    obtain ⟨j, y, X, cc, hj, rfl, rfl, hy, HO, HF, HB⟩ := hrel
    have hB := below16 HV.out.below HB.out
    have HB2 := Lib.hid hB
    have c0 := HSz.out _ HB.out
    by_cases hlt : j < n
    · have d0 : decide ((n : Int) - 1 - (j : Int) ≥ 0) = true := decide_eq_true (by omega)
      have d0' : decide ((0 : Int) ≤ (n : Int) - 1 - (j : Int)) = true := decide_eq_true (by omega)
      obtain ⟨k, hk⟩ : ∃ k, k = n - 1 - j := ⟨_, rfl⟩
      have hkz : (n : Int) - 1 - (j : Int) = (k : Int) := by omega
      rw [hkz] at d0 d0' ⊢
      have hkn : k < n := by omega
      have hkg : k < g.length := by have := HN.out; omega
      have hgk : g.length - 1 - j = k := by have := HN.out; omega
      obtain ⟨b, off, rfl, hb, hc⟩ := HR.out (by omega)
      obtain ⟨pA, pc, hs, -, hc0, hc1⟩ := hc k hkg
      have hpl := HPl.out k hkg
      have hO1 := pastO_succ g l j
      have hC1 : pastC g l (j + 1) = if hasL (l ++ pastC g l j) (g.getD (g.length - 1 - j) nd0).id = true then pastC g l j ++ (g.getD (g.length - 1 - j) nd0).preds else pastC g l j := rfl
      rw [hgk] at hO1 hC1
      have hfl := flagsG_at g (pastC g l j) hkg
      have hclo : ∀ p ∈ (g.getD k nd0).preds, idxG g p < k := fun p hp => HOk.out.closed k hkg p hp
      obtain ⟨ps, hps⟩ : ∃ l, l = (g.getD k nd0).preds := ⟨_, rfl⟩
      obtain ⟨x, hx⟩ : ∃ l, l = (g.getD k nd0).id := ⟨_, rfl⟩
      rw [← hps] at hs hc1 hpl hC1 hclo
      rw [← hx] at hc0 hO1 hC1 hfl
      obtain ⟨C, hC⟩ : ∃ c, c = pastC g l j := ⟨_, rfl⟩
      rw [← hC] at HF hO1 hC1 hfl
      rw [hasL_app] at hO1 hC1
      obtain ⟨fb, hfb⟩ : ∃ b, b = hasL C x := ⟨_, rfl⟩
      obtain ⟨lb, hlb⟩ : ∃ b, b = hasL l x := ⟨_, rfl⟩
      rw [← hfb, ← hlb] at hO1 hC1
      rw [← hfb] at hfl
      have hff := HF.out.cell (k := k) (by rw [flagsG_len]; exact hkg)
      rw [hfl] at hff
      obtain ⟨pl, hpl0⟩ : ∃ m, m = ps.length := ⟨_, rfl⟩
      rw [← hpl0] at hc1 hpl
      obtain ⟨sx, hsx⟩ : ∃ s, s = text x := ⟨_, rfl⟩
      rw [← hsx] at hc0
      have HH := Lib.hid (HHas.out x wr hB)
      rw [← hsx, ← hlb] at HH
      have HC0 : Hid (∀ W, Below w.heap.size w W → W.cell? ⟨b, off + k * 2, none⟩ = some (.string sx)) := fun W hW => (hW.cell (p := ⟨b, off + k * 2, none⟩) hb).trans hc0
      have HC1 : Hid (∀ W, Below w.heap.size w W → W.cell? ⟨b, off + k * 2 + 1, none⟩ = some (.slice pA pl pc)) := fun W hW => (hW.cell (p := ⟨b, off + k * 2 + 1, none⟩) hb).trans hc1
      have hc0 := HC0.out _ hB
      have hc1 := HC1.out _ hB
      have HO1 := Lib.hid hO1
      have HCc := Lib.hid hC1
      have HS := Lib.hid hs
      have HClo := Lib.hid hclo
      have HPL := Lib.hid hpl0
      have HSX := Lib.hid hsx
      have u0 : (0 : Int) ≤ (k : Int) := by omega
      have u1 : (k : Int) < (n : Int) := by omega
      have ei2 : IntKind.i64.wrap ((k : Int) - 1) = (k : Int) - 1 := IntWalk.i64_in _ (by omega)
      have HKZ : Hid ((k : Int) - 1 = (n : Int) - 1 - ((j + 1 : Nat) : Int)) := by show _ = _; omega
      have hib : ib + 1 ≤ wr.heap.size := HF.out.lt
      obtain ⟨wo, hwo⟩ : ∃ wo, wo = wr := ⟨_, rfl⟩
      rw [← hwo] at HO HF HB HB2 HH c0 hc0 hc1 hff hib ⊢
      clear hwo hO1 hC1 hs hclo hpl0 hsx hfb hlb hps hx hC hfl hgk hkz hkg hc HR hB hk
      by_cases hinc : fb = true ∨ lb = true
      · have hor : fb = true ∨ (fb = false ∧ lb = true) := by cases fb <;> simp_all
        have hon : (lb || fb) = true := by rcases hinc with h | h <;> simp [h]
        rw [hon, if_pos rfl] at HO1 HCc
        clear hon hinc
        rcases hor with rfl | ⟨rfl, rfl⟩
        all_goals
          go_wp2_with (first
            | (go_at_call 29; (with_reducible refine HH.out.mono ?_); rintro e w1 ⟨rfl, rfl⟩)
            | (at_builtin; refine append_sone rfl (.tmp 37) (.tmp 44) rfl rfl HO.out HSX.out rfl (by omega) hib ?_; intro X7 cc7 w7 ho7 hb7))
          have HF7 : Hid (FlB w7 ib (flagsG g C)) := HF.out.below hb7.out (Nat.lt_succ_self _)
          have HB7 : Hid (Below wb.heap.size wb w7) := HB.out.trans (hb7.out.mono (by have := HWs.out; omega))
          clear hc0 hc1 c0 hff hib HH HO HF HB hb7
          go_loopw [8] (fun v wr => ∃ (t : Nat), t ≤ pl ∧ v = .int .i64 (t : Int) ∧ Hid (wr.ownsRow (ib + 1) 9 1 (.slice X7 (y + 1) cc7) (y + 1) (scells ((pastK g l j).1 ++ [x]))) ∧ Hid (FlB wr ib (flagsG g (C ++ ps.take t))) ∧ Hid (Below wb.heap.size wb wr)) (fun v _ => pl - (intOf v).toNat)
          case atStart => exact ⟨0, Nat.zero_le _, rfl, ho7.out, by rw [List.take_zero, List.append_nil]; exact HF7.out, HB7.out⟩
          case round =>
            obtain ⟨t, ht, rfl, HOr, HFr, HBr⟩ := hrel
            have c0 := HSz.out _ HBr.out
            have hBr := below16 HV.out.below HBr.out
            have HBw := Lib.hid hBr
            have hc1 := HC1.out _ hBr
            by_cases hlt2 : t < pl
            · have d1 : decide ((t : Int) < (pl : Int)) = true := decide_eq_true (by omega)
              have htl : t < ps.length := by have := HPL.out; omega
              obtain ⟨pb, po, rfl, hpb, hpc⟩ := HS.out.at_ (by omega)
              have hpt := hpc t htl
              obtain ⟨p, hp⟩ : ∃ p, p = ps.getD t [] := ⟨_, rfl⟩
              rw [← hp] at hpt
              have hpm : p ∈ ps := by
                rw [hp, List.getD, List.getElem?_eq_getElem htl]
                exact List.getElem_mem htl
              have hq := HClo.out p hpm
              have hqn : idxG g p < g.length := by have := HN.out; omega
              have hFs := flagsG_one HOk.out.nodup (C ++ ps.take t) (idx_lt.1 hqn)
              have hTs : C ++ ps.take (t + 1) = C ++ ps.take t ++ [p] := by
                rw [List.take_succ_eq_append_getElem htl, hp, List.getD, List.getElem?_eq_getElem htl]
                simp
              rw [← hTs] at hFs
              have hfz : idxZ g p = ((idxG g p : Nat) : Int) := if_pos hqn
              obtain ⟨sp, hsp⟩ : ∃ s, s = text p := ⟨_, rfl⟩
              have HF2 : Hid (∀ W, Below w.heap.size w W → Calls Try.prog 47 #[.agg #[.slice (some ⟨b, off, none⟩) n c], .string sp] W fun e w' => e = .returned (.int .i64 ((idxG g p : Nat) : Int)) ∧ Below W.heap.size W w') := fun W hW => by
                rw [hsp, ← hfz]
                exact HFd.out p W hW
              obtain ⟨q, hqq⟩ : ∃ q, q = idxG g p := ⟨_, rfl⟩
              rw [← hqq] at hq hFs HF2 hqn
              rw [← hsp] at hpt
              have HSt : Hid (∀ W, Below wb.heap.size wb W → W.cell? ⟨w.heap.size, 0, none⟩ = some (.slice (some ⟨b, off, none⟩) n c) ∧ W.cell? ⟨b, off + k * 2 + 1, none⟩ = some (.slice (some ⟨pb, po, none⟩) pl pc) ∧ W.cell? ⟨pb, po + t, none⟩ = some (.string sp)) := fun W hW => by
                have h1 := below16 HV.out.below hW
                exact ⟨HSz.out W hW, HC1.out W h1, (h1.cell (p := ⟨pb, po + t, none⟩) hpb).trans hpt⟩
              have v0 : (0 : Int) ≤ (t : Int) := by omega
              have v1 : (t : Int) < (pl : Int) := by omega
              have v2 : (0 : Int) ≤ (q : Int) := by omega
              have v3 : (q : Int) < (n : Int) := by omega
              have HFs := Lib.hid hFs
              have P0 : Below wb.heap.size wb wr.drew := HBr.out.drew
              have h0 := HSt.out _ P0
              clear hp hpm hfz hsp hqq hpc hpt hpb htl hFs hTs hBr
              have hqg := hqn
              clear hqn
              go_wp2
              go_region_held_law (fun w' => w'.cell? ⟨w.heap.size, 0, none⟩ = some (.slice (some ⟨b, off, none⟩) n c) ∧ w'.cell? ⟨b, off + k * 2 + 1, none⟩ = some (.slice (some ⟨pb, po, none⟩) pl pc) ∧ w'.cell? ⟨pb, po + t, none⟩ = some (.string sp))
                (exact HSt.out _ (by first | assumption | exact Below.setCell (by assumption) (show wb.heap.size ≤ ib by have := HWs.out; omega) _))
                (first
                  | (go_at_call 47; (with_reducible refine (HF2.out _ (below16 HV.out.below P0)).mono ?_); rintro e x1 ⟨rfl, b1⟩; have P1 : Below wb.heap.size wb x1 := below16 P0 b1; have K1 : FlB x1 ib (flagsG g (C ++ ps.take t)) := HFr.out.below (w' := x1) ⟨b1.os, b1.tape, b1.output, b1.size, b1.block⟩ HFr.out.lt; have f1 := K1.frozen q; have f0 := K1.cell (k := q) (by rw [flagsG_len]; exact hqg); have z9 : ib < x1.heap.size := K1.lt))
              have HO1 := Lib.hid (sown_far (i := q) (u := .bool true) (sown_kept HOr.out (show Below wr.heap.size wr x1 from ⟨b1.os, b1.tape, b1.output, b1.size, b1.block⟩)) (Nat.lt_succ_self ib))
              have HF1 := Lib.hid (K1.set_ q true)
              rw [HFs.out] at HF1
              have HB1 := Lib.hid (Below.setCell (p := ⟨ib, q, none⟩) P1 (show wb.heap.size ≤ ib by have := HWs.out; omega) (.bool true))
              obtain ⟨x2, hx2⟩ : ∃ x2, x2 = x1.setCell ⟨ib, q, none⟩ (.bool true) := ⟨_, rfl⟩
              rw [← hx2] at HO1 HF1 HB1 ⊢
              clear hx2
              go_wp2
              go_roundw
              case rel => exact ⟨t + 1, by omega, by go_num, HO1.out, HF1.out, HB1.out⟩
              case measure => simp [intOf]; omega
            · have d1 : decide ((t : Int) < (pl : Int)) = false := decide_eq_false (by omega)
              have htp : t = pl := by omega
              have hTk : ps.take t = ps := by rw [htp, HPL.out]; exact List.take_length
              rw [hTk] at HFr
              clear htp hTk hBr
              go_wp2
              go_roundw
              case rel => exact ⟨j + 1, y + 1, X7, cc7, by omega, rfl, by rw [HKZ.out], by omega, by rw [HO1.out]; exact HOr.out, by rw [HCc.out]; exact HFr.out, HBr.out⟩
              case measure => simp [intOf]
      · have h1 : fb = false ∧ lb = false := by cases fb <;> cases lb <;> simp_all
        obtain ⟨rfl, rfl⟩ := h1
        rw [show (false || false) = false from rfl, if_neg (by simp)] at HO1 HCc
        rw [List.append_nil] at HO1
        clear hinc
        go_wp2_with (go_at_call 29; (with_reducible refine HH.out.mono ?_); rintro e w1 ⟨rfl, rfl⟩)
        go_roundw
        case rel => exact ⟨j + 1, y, X, cc, by omega, rfl, by rw [HKZ.out], by omega, by rw [HO1.out]; exact HO.out, by rw [HCc.out]; exact HF.out, HB.out⟩
        case measure => simp [intOf]
    · have hjn : j = n := by omega
      subst hjn
      have d0 : decide ((j : Int) - 1 - (j : Int) ≥ 0) = false := decide_eq_false (by omega)
      have d0' : decide ((0 : Int) ≤ (j : Int) - 1 - (j : Int)) = false := decide_eq_false (by omega)
      have hyl : y = (pastK g l j).1.length := by
        have h1 := HO.out.1
        rw [scells_length] at h1
        omega
      have HOf2 := Lib.hid (HOf.out (pastK g l j).1 y X cc wr hyl (by have h := HO.out; rw [hyl] at h; exact own_ss h) (by omega))
      rw [HP.out] at HOf2
      clear hB hyl HR HOf
      go_wp2_with (go_at_call 48; (with_reducible refine HOf2.out.mono ?_); rintro e w3 ⟨A3, c3, rfl, hS3, hl3, hc3, hb3⟩)
      go_ret
      exact ⟨A3, c3, rfl, hS3, hl3, hc3, below16 HB2.out hb3⟩
theorem rahead_any (g : Gr) (ok : GrOk g) (x y : Bs) (A : Option Addr) (n c : Nat) (w : World) (hn : n = g.length) (h : NL w w.heap.size A g) (hl : n ≤ 5000) (hp : ∀ k, k < g.length → (g.getD k nd0).preds.length ≤ 1000000) :
    Calls Try.prog 27 #[.agg #[.slice A n c], .string (text x), .string (text y)] w fun e w' => e = .returned (.bool (aheadG g x y)) ∧ Below w.heap.size w w' := by
  have HHx : Hid (∀ W, Below w.heap.size w W → Calls Try.prog 19 #[.agg #[.slice A n c], .string (text x)] W fun e w' => e = .returned (.bool (hasG g x)) ∧ Below W.heap.size W w') := fun W hW => rhasg_any g x A n c W hn (h.up hW) (by omega)
  have HHy : Hid (∀ W, Below w.heap.size w W → Calls Try.prog 19 #[.agg #[.slice A n c], .string (text y)] W fun e w' => e = .returned (.bool (hasG g y)) ∧ Below W.heap.size W w') := fun W hW => rhasg_any g y A n c W hn (h.up hW) (by omega)
  have hpl : (pastG g [y]).length ≤ 1000000 := by
    have h1 := (past_up g [y]).imp (S := fun a b => a ≠ b) (fun h => less_ne h)
    have h2 := List.Nodup.length_le_of_subset (l₂ := idsG g) h1 (fun z hz => ((past_mem ok [y] z).1 hz).1)
    rw [idsG_len] at h2
    omega
  obtain ⟨lp, hlp⟩ : ∃ l, l = pastG g [y] := ⟨_, rfl⟩
  obtain ⟨pn, hpn⟩ : ∃ l, l = lp.length := ⟨_, rfl⟩
  have HPa : Hid (∀ W, Below w.heap.size w W → Calls Try.prog 17 #[.agg #[.slice A n c], .slice (some ⟨W.heap.size, 0, none⟩) 1 1] (W.alloc (.cells #[.string (text y)] 9)) fun e w' => ∃ A3 c3, e = .returned (.slice A3 pn c3) ∧ Hid (SS w' w'.heap.size A3 lp) ∧ Hid (Below W.heap.size W w')) := fun W hW => by
    have hb : Below W.heap.size W (W.alloc (.cells #[.string (text y)] 9)) := (Below.refl _ _).alloc (Nat.le_refl _) _
    have hss : SS (W.alloc (.cells #[.string (text y)] 9)) (W.alloc (.cells #[.string (text y)] 9)).heap.size (some ⟨W.heap.size, 0, none⟩) [y] := by
      refine ⟨rfl, fun _ => ⟨⟨W.heap.size, 0, none⟩, rfl, by simp, fun j u hu => ?_⟩⟩
      match j with
      | 0 =>
        have e0 : (⟨W.heap.size, 0, none⟩ : Addr).add 0 = ⟨W.heap.size, 0, none⟩ := by simp [Addr.add]
        rw [e0, show u = .string (text y) by simpa [scells] using hu.symm]
        exact (Blk.new W 9 #[.string (text y)]).cell 0
      | j + 1 => simp [scells] at hu
    refine (rpast_any g ok [y] A _ n c 1 1 _ hn rfl (h.up (hW.trans (hb.mono hW.size))) hss hl (by omega) hp).mono fun e w' hh => ?_
    obtain ⟨A3, c3, q1, q2, q3, q4, q5⟩ := hh
    rw [← hlp, ← hpn] at q1
    rw [← hlp] at q2
    exact ⟨A3, c3, q1, q2, below16 hb q5⟩
  have HHl : Hid (∀ (A3 : Option Addr) (c3 : Nat) W, SS W W.heap.size A3 lp → Calls Try.prog 29 #[.slice A3 pn c3, .string (text x)] W fun e w' => e = .returned (.bool (hasL lp x)) ∧ W = w') := fun A3 c3 W h1 => refHas_any lp x A3 pn c3 _ W hpn h1 (by rw [hpn, hlp]; exact hpl)
  have HA : Hid (aheadG g x y = (decide (x ≠ y) && hasG g x && hasG g y && hasL lp x)) := by show _ = _; rw [hlp]; rfl
  obtain ⟨R, hR⟩ : ∃ r, r = aheadG g x y := ⟨_, rfl⟩
  rw [← hR] at HA ⊢
  obtain ⟨bx, hbx⟩ : ∃ r, r = hasG g x := ⟨_, rfl⟩
  obtain ⟨by_, hby⟩ : ∃ r, r = hasG g y := ⟨_, rfl⟩
  obtain ⟨bl, hbl⟩ : ∃ r, r = hasL lp x := ⟨_, rfl⟩
  rw [← hbx] at HHx HA
  rw [← hby] at HHy HA
  rw [← hbl] at HHl HA
  obtain ⟨tx, htx⟩ : ∃ t, t = text x := ⟨_, rfl⟩
  obtain ⟨ty, hty⟩ : ∃ t, t = text y := ⟨_, rfl⟩
  have heq : (tx.toList == ty.toList) = decide (x = y) := by rw [htx, hty, text_eq]
  rw [← htx] at HHx HHl ⊢
  rw [← hty] at HHy HPa ⊢
  obtain ⟨bq, hbq⟩ : ∃ b, b = decide (x = y) := ⟨_, rfl⟩
  have hne : decide (x ≠ y) = !bq := by rw [hbq]; simp
  rw [← hbq] at heq
  rw [hne] at HA
  clear hn h hp hpl hlp hpn hR hbx hby hbl htx hty hbq hne ok
  have a27 := fun w' => Try.dagAgg w'
  have s27 := fun w' => Try.dagSize w'
  obtain ⟨wb, hwb⟩ : ∃ wb, wb = w.alloc (.cells #[.slice A n c] 27) := ⟨_, rfl⟩
  have HV : Hid (DgV w wb A n c) := hwb
  have HWb := Lib.hid hwb
  clear hwb
  obtain ⟨c0, cl, cf⟩ := HV.out.cell (Below.refl _ _)
  have HSz : Hid (∀ W, Below wb.heap.size wb W → W.cell? ⟨w.heap.size, 0, none⟩ = some (.slice A n c)) := fun W hW => (HV.out.cell hW).1
  rw [HWb.out] at c0 HSz
  have HB0 := Lib.hid HV.out.below
  rw [HWb.out] at HB0
  have hz0 : (w.alloc (.cells #[.slice A n c] 27)).heap.size = w.heap.size + 1 := by simp
  cases bq with
  | true =>
    go_enter Try.func27, Try.ntmps27
    go_wp2_with (fail)
    go_ret
    exact ⟨by rw [HA.out]; rfl, HB0.out⟩
  | false =>
    cases bx with
    | false =>
      go_enter Try.func27, Try.ntmps27
      go_wp2_with (go_at_call 19; (with_reducible refine (HHx.out _ HB0.out).mono ?_); rintro e w1 ⟨rfl, b1⟩)
      go_ret
      exact ⟨by rw [HA.out]; rfl, below16 HB0.out b1⟩
    | true =>
      cases by_ with
      | false =>
        go_enter Try.func27, Try.ntmps27
        go_wp2_with (first
          | (go_at_call 19; (with_reducible refine (HHy.out _ B1.out).mono ?_); rintro e w2 ⟨rfl, b2⟩)
          | (go_at_call 19; (with_reducible refine (HHx.out _ HB0.out).mono ?_); rintro e w1 ⟨rfl, b1⟩; have B1 := Lib.hid (below16 HB0.out b1); have c1 := HSz.out _ b1))
        go_ret
        exact ⟨by rw [HA.out]; rfl, below16 B1.out b2⟩
      | true =>
        go_enter Try.func27, Try.ntmps27
        go_wp2_with (first
          | (go_at_call 29; (with_reducible refine (HHl.out _ _ _ s3.out).mono ?_); rintro e w4 ⟨rfl, rfl⟩)
          | (go_at_call 17; (with_reducible refine (HPa.out _ B2.out).mono ?_); rintro e w3 ⟨A3, c3, rfl, s3, b3⟩)
          | (go_at_call 19; (with_reducible refine (HHy.out _ B1.out).mono ?_); rintro e w2 ⟨rfl, b2⟩; have B2 := Lib.hid (below16 B1.out b2); have c2 := HSz.out _ (below16 b1 b2))
          | (go_at_call 19; (with_reducible refine (HHx.out _ HB0.out).mono ?_); rintro e w1 ⟨rfl, b1⟩; have B1 := Lib.hid (below16 HB0.out b1); have c1 := HSz.out _ b1))
        go_ret
        exact ⟨by rw [HA.out]; cases bl <;> rfl, below16 B2.out b3.out⟩
end
end Go.Proofs.Ytbeihiokjhfepaa
