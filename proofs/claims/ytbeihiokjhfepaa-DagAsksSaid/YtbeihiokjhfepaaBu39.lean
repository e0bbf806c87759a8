/- Lemmas under the proofs of this place: DagAheadA. No statement is proved here. -/
import Derived.Test.YtbeihiokjhfepaaBu35
import Derived.Test.YtbeihiokjhfepaaBu17
import Derived.Deep.Cut
set_option linter.unusedSimpArgs false
set_option linter.unusedVariables false
set_option maxRecDepth 100000
set_option maxHeartbeats 16000000
namespace Go.Proofs.Ytbeihiokjhfepaa
open Go.RowKit
theorem few2_nl (W : World) (t : TypeId) (ask : List Bs) (B : Option Addr) (d : Nat) (hs : SS W W.heap.size B ask) (h1 : ask.length ≤ d) (h2 : d ≤ 9223372036854775807) :
    NL (W.alloc (.cells #[.string (text []), .slice B ask.length d] t)) (W.alloc (.cells #[.string (text []), .slice B ask.length d] t)).heap.size (some ⟨W.heap.size, 0, none⟩) [⟨[], ask⟩] := by
  have hb : Below W.heap.size W (W.alloc (.cells #[.string (text []), .slice B ask.length d] t)) := (Below.refl _ _).alloc (Nat.le_refl _) _
  refine ⟨[(⟨[], ask⟩, B, d)], rfl, ⟨rfl, fun _ => ⟨_, rfl, by simp, fun j u hu => ?_⟩⟩, fun x hx => ?_⟩
  · rw [addD, Nat.zero_add, (Blk.new W t #[.string (text []), .slice B ask.length d]).cell]
    match j, hu with
    | 0, hu => exact hu
    | 1, hu => exact hu
  · rw [List.mem_singleton] at hx
    subst hx
    exact ⟨(hs.below hb).more hb.size, h1, h2⟩
theorem ahead_self {g : Gr} (ok : GrOk g) (x : Bs) : aheadG g x x = false := by
  cases hh : aheadG g x x with
  | false => rfl
  | true => exact absurd rfl (Anc.ne ok ((ahead_iff ok x x).1 hh))
theorem ahead_back {g : Gr} (ok : GrOk g) {x y : Bs} (h : aheadG g x y = true) : aheadG g y x = false := by
  cases hh : aheadG g y x with
  | false => rfl
  | true => exact absurd rfl (Anc.ne ok (((ahead_iff ok x y).1 h).trans ((ahead_iff ok y x).1 hh)))
theorem ahead_preds {g : Gr} (ok : GrOk g) {q y : Bs} (h : q ∈ predsG g y) : aheadG g q y = true := (ahead_iff ok q y).2 (.one h)
theorem ahead_more {g : Gr} (ok : GrOk g) {x q y : Bs} (h : aheadG g x q = true) (h2 : q ∈ predsG g y) : aheadG g x y = true := (ahead_iff ok x y).2 (.more ((ahead_iff ok x q).1 h) h2)
theorem past_len {g : Gr} (ok : GrOk g) (l : List Bs) : (pastG g l).length ≤ g.length := by
  have h1 := (past_up g l).imp (S := fun a b => a ≠ b) (fun h => less_ne h)
  have h2 := List.Nodup.length_le_of_subset (l₂ := idsG g) h1 (fun z hz => ((past_mem ok l z).1 hz).1)
  rw [idsG_len] at h2
  exact h2
structure Asks (G : Gr) (p : Nat) (W0 : World) : Prop where
  ahead : ∀ x y, x.length ≤ 1000 → y.length ≤ 1000 → ∀ W, Below W0.heap.size W0 W → Calls Try.prog 26 #[.pointer (some ⟨p, 0, none⟩), .string (text x), .string (text y)] W fun e w' => e = .returned (.bool (aheadG G x y)) ∧ Hid (Below W0.heap.size W0 w')
  depth : ∀ x, x.length ≤ 1000 → ∀ W, Below W0.heap.size W0 W → Calls Try.prog 20 #[.pointer (some ⟨p, 0, none⟩), .string (text x)] W fun e w' => e = .returned (.int .i64 ((depthG G x : Nat) : Int)) ∧ Hid (Below W0.heap.size W0 w')
  has : ∀ x, x.length ≤ 1000 → ∀ W, Below W0.heap.size W0 W → Calls Try.prog 18 #[.pointer (some ⟨p, 0, none⟩), .string (text x)] W fun e w' => e = .returned (.bool (hasG G x)) ∧ Hid (Below W0.heap.size W0 w')
  preds : ∀ x, x.length ≤ 1000 → ∀ W, Below W0.heap.size W0 W → Calls Try.prog 22 #[.pointer (some ⟨p, 0, none⟩), .string (text x)] W (GivesLc (predsG G x) (predsG G x).length W)
theorem asks_of {w W0 : World} {p : Nat} {F : Nat → Prop} {G : Gr} (dh : DH w W0 p F G) (ok : GrOk G) (hg : G.length ≤ 1000) : Asks G p W0 :=
  ⟨fun x y hx hy W hW => (dagahead_any (dh.up hW).dag ok hg x y hx hy).mono fun e w' hh => ⟨hh.1, hW.trans (hh.2.mono hW.size)⟩,
   fun x hx W hW => (dagdepth_any (dh.up hW).dag ok hg x hx).mono fun e w' hh => ⟨hh.1, hW.trans (hh.2.mono hW.size)⟩,
   fun x hx W hW => (daghas_any (dh.up hW).dag ok hg x hx).mono fun e w' hh => ⟨hh.1, hW.trans (hh.2.mono hW.size)⟩,
   fun x hx W hW => (dagpreds_any (dh.up hW).dag ok hg x hx).mono fun e w' hh => givesLc_of rfl hh⟩
theorem dagahead16_any {w : World} (l : Gr) (A : Option Addr) (n c : Nat) (hn : n = l.length) (h : NL w w.heap.size A l) (ask : List Bs) (B : Option Addr) (m d : Nat) (hm : m = ask.length) (hB : SS w w.heap.size B ask) (hmd : m ≤ d) (hdm : d ≤ 9223372036854775807) (hAw : ∀ W, Calls Try.prog 10 #[] W fun e w' => e = .returned (.bool true) ∧ Below W.heap.size W w') :
    Calls Try.prog 6 #[.slice A n c, .slice B m d] w fun e w' => e = .returned (.bool true) ∧ Below w.heap.size w w' := by
  have HL : Hid (0 < l.length → ∃ b off, A = some ⟨b, off, none⟩ ∧ b < w.heap.size ∧ ∀ i, i < l.length → ∃ pA pc, SS w w.heap.size pA (l.getD i nd0).preds ∧ ((l.getD i nd0).preds.length ≤ pc ∧ pc ≤ 9223372036854775807) ∧ w.cell? ⟨b, off + i * 2, none⟩ = some (.string (text (l.getD i nd0).id)) ∧ w.cell? ⟨b, off + i * 2 + 1, none⟩ = some (.slice pA (l.getD i nd0).preds.length pc)) := fun hh => h.at_ hh
  have HN := Lib.hid hn
  have HFe : Hid (∀ W, Below w.heap.size w W → Calls Try.prog 9 #[.slice A n c] W fun e w' => ∃ b, e = .returned (.bool b) ∧ Hid (b = true → fewG l) ∧ Hid (Below W.heap.size W w')) := fun W hW => few_any l A n c W hn (h.up hW)
  have HF2 : Hid (∀ W, Below w.heap.size w W → Calls Try.prog 9 #[.slice (some ⟨W.heap.size, 0, none⟩) 1 1] (W.alloc (.cells #[.string { data := #[] }, .slice B m d] 35)) fun e w' => ∃ b, e = .returned (.bool b) ∧ Hid (b = true → fewG [⟨[], ask⟩]) ∧ Hid (Below W.heap.size W w')) := fun W hW => by
    have h1 := few2_nl W 35 ask B d ((hB.below hW).more hW.size) (by omega) hdm
    rw [← hm] at h1
    refine (few_any [⟨[], ask⟩] _ 1 1 _ rfl h1).mono fun e w' hh => ?_
    obtain ⟨b, q1, q2, q3⟩ := hh
    exact ⟨b, q1, q2, Below.trans ((Below.refl _ _).alloc (Nat.le_refl _) _) (q3.out.mono (by simp))⟩
  have HAw := Lib.hid hAw
  obtain ⟨G, hG⟩ : ∃ g, g = makeG l := ⟨_, rfl⟩
  have HMa : Hid (∀ W, Below w.heap.size w W → fewG l → Calls Try.prog 14 #[.slice A n c] W (GivesMake w G)) := fun W hW hf => by
    rw [hG]
    exact make_any hW l A n c hn h hf
  have ok : Hid (GrOk G) := by show GrOk G; rw [hG]; exact makeK_ok l _
  have HGl : Hid (fewG l → G.length ≤ 1000 ∧ n = l.length ∧ n ≤ 1000) := fun hf => by
    have h1 := hf.1
    have h2 : G.length ≤ l.length := by rw [hG]; exact makeK_len l l.length
    exact ⟨by omega, hn, by omega⟩
  have HPr : Hid (∀ y q, q ∈ predsG G y → q.length ≤ 1000) := fun y q hq => by
    have h1 := preds_idx ok.out hq
    have h2 := right_of ok.out (idx_lt.1 (Nat.lt_of_lt_of_le h1 (idx_le G y)))
    have h3 : q.length = 32 := by simpa [rightB] using h2
    omega
  have HPl : Hid (fewG l → ∀ x, (predsG G x).length ≤ 1000) := fun hf x => by
    by_cases hx : x ∈ idsG G
    · have h1 := idx_lt.2 hx
      rw [hG] at h1 ⊢
      exact makeK_preds hf l.length _ h1
    · rw [preds_no hx]
      exact Nat.zero_le _
  obtain ⟨P, hP⟩ : ∃ P, P = pastG G ask := ⟨_, rfl⟩
  obtain ⟨np, hnp⟩ : ∃ x, x = P.length := ⟨_, rfl⟩
  have HNp : Hid (np = P.length ∧ np ≤ G.length) := ⟨hnp, by rw [hnp, hP]; exact past_len ok.out ask⟩
  have HPx : Hid (∀ x, x ∈ P → x.length ≤ 1000 ∧ lessL (predsG G x) P = []) := fun x hx => by
    rw [hP] at hx ⊢
    have h1 := right_of ok.out ((past_mem ok.out ask x).1 hx).1
    have h2 : x.length = 32 := by simpa [rightB] using h1
    exact ⟨by omega, less_past ok.out ask hx⟩
  have HPa : Hid (∀ W p F, G.length ≤ 1000 → m ≤ 10 → DH w W p F G → Calls Try.prog 16 #[.pointer (some ⟨p, 0, none⟩), .slice B m d] W (GivesLc P np W)) := fun W p F hg h10 hW => (dagpast_any hW.dag ok.out hg ask B m d hm ((hB.below hW.below).more hW.below.size) (by omega) hmd hdm).mono fun e w' hh => givesLc_of hnp (by rw [hP]; exact hh)
  have HB0 := Lib.hid (Below.refl w.heap.size w)
  have a27 := fun w' => Try.dagAgg w'
  have s27 := fun w' => Try.dagSize w'
  have nnp := fun p w' => Try.dagNil p w'
  clear hn h hAw hG hm hB hmd hdm hP hnp
  by_cases hm10 : m ≤ 10
  · have e0 : decide ((m : Int) > 10) = false := decide_eq_false (by omega)
    have e1 : decide ((10 : Int) < (m : Int)) = false := decide_eq_false (by omega)
    have HM10 := Lib.hid hm10
    clear hm10
    go_enter Try.func6, Try.ntmps6
    go_upto_region 6 with (first
      | (go_at_call 9; (with_reducible refine (HFe.out _ HB0.out).mono ?_); rintro e w1 ⟨b, rfl, hb, hb1⟩; rcases b with _ | _)
      | (go_at_call 9; (with_reducible refine (HF2.out _ (HB0.out.trans hb1.out)).mono ?_); rintro e w2 ⟨b2, rfl, hb2, hb12⟩; rcases b2 with _ | _)
      | (go_at_call 10; (with_reducible refine (HAw.out _).mono ?_); rintro e w3 ⟨rfl, b3⟩)
      | (go_at_call 14; (with_reducible refine (HMa.out _ (hb1.out.trans (hb12.out.mono hb1.out.size)) (hb.out trivial)).mono ?_); rintro e w4 ⟨p, F, A', n', c', rfl, hD, hR⟩))
    · go_ret
      exact ⟨rfl, hb1.out.trans (b3.mono hb1.out.size)⟩
    · go_ret
      have q1 := hb1.out.trans (hb12.out.mono hb1.out.size)
      exact ⟨rfl, q1.trans (b3.mono q1.size)⟩
    have hfw := hb.out trivial
    have HFw := Lib.hid hfw
    have HGL := Lib.hid (HGl.out hfw)
    have HPl2 := Lib.hid (HPl.out hfw)
    have HW0 : Hid (DH w (w4.alloc (.cells #[.slice A' n' c'] 27)) p F G) := hD.out.up ((Below.refl _ _).alloc (Nat.le_refl _) _)
    obtain ⟨wm, hwm⟩ : ∃ x, x = w4.alloc (.cells #[.slice A' n' c'] 27) := ⟨_, rfl⟩
    rw [← hwm] at HW0 ⊢
    clear hwm hD hR hb hb1 hb2 hb12 hfw HGl HPl HFe HMa HF2 HB0
    go_wp2
    go_loopw [7] (fun v wr => ∃ k : Nat, k ≤ n ∧ v = .int .i64 (k : Int) ∧ Hid (Below wm.heap.size wm wr)) (fun v _ => n - (intOf v).toNat)
    case atStart => exact ⟨0, Nat.zero_le _, rfl, Below.refl _ _⟩
    case round =>
      obtain ⟨i, hi, rfl, HBi⟩ := hrel
      by_cases hlt : i < n
      · have d0 : decide ((i : Int) < (n : Int)) = true := decide_eq_true (by omega)
        go_wp2
        go_loopw [8] (fun v wr => ∃ k : Nat, k ≤ n ∧ v = .int .i64 (k : Int) ∧ Hid (Below wm.heap.size wm wr)) (fun v _ => n - (intOf v).toNat)
        case atStart => exact ⟨0, Nat.zero_le _, rfl, HBi.out⟩
        case round =>
          obtain ⟨k, hk, rfl, HBk⟩ := hrel
          by_cases hlt2 : k < n
          · have d0 : decide ((k : Int) < (n : Int)) = true := decide_eq_true (by omega)
            have hil : i < l.length := by have := HGL.out.2.1; omega
            have hkl : k < l.length := by have := HGL.out.2.1; omega
            obtain ⟨b, off, rfl, hb, hc⟩ := HL.out (by omega)
            obtain ⟨-, -, -, -, hc0, -⟩ := hc i hil
            obtain ⟨-, -, -, -, hc1, -⟩ := hc k hkl
            have f1 := (HFw.out.2 i hil).1
            have f2 := (HFw.out.2 k hkl).1
            obtain ⟨x, hx⟩ : ∃ x, x = (l.getD i nd0).id := ⟨_, rfl⟩
            obtain ⟨y, hy⟩ : ∃ y, y = (l.getD k nd0).id := ⟨_, rfl⟩
            rw [← hx] at hc0 f1
            rw [← hy] at hc1 f2
            have f1 : x.length ≤ 1000 := by omega
            have f2 : y.length ≤ 1000 := by omega
            obtain ⟨t, ht⟩ : ∃ t, t = text x := ⟨_, rfl⟩
            obtain ⟨u, hu⟩ : ∃ u, u = text y := ⟨_, rfl⟩
            rw [← ht] at hc0
            rw [← hu] at hc1
            have HC : Hid (∀ W, Below wm.heap.size wm W → W.cell? ⟨b, off + i * 2, none⟩ = some (.string t) ∧ W.cell? ⟨b, off + k * 2, none⟩ = some (.string u)) := fun W hW => by
              have hW2 := HW0.out.below.trans (hW.mono HW0.out.below.size)
              exact ⟨(hW2.cell (p := ⟨b, off + i * 2, none⟩) hb).trans hc0, (hW2.cell (p := ⟨b, off + k * 2, none⟩) hb).trans hc1⟩
            have aks := asks_of HW0.out ok.out HGL.out.1
            have HAxy := Lib.hid (aks.ahead x y f1 f2)
            have HAyx := Lib.hid (aks.ahead y x f2 f1)
            have HDx := Lib.hid (aks.depth x f1)
            have HDy := Lib.hid (aks.depth y f2)
            have HPy := Lib.hid (aks.preds y f2)
            have HF1 := Lib.hid f1
            have HF2 := Lib.hid f2
            have htu : (t.toList == u.toList) = decide (x = y) := by rw [ht, hu, text_eq]
            have HTx := Lib.hid ht
            have HTu := Lib.hid hu
            rw [← ht, ← hu] at HAxy HAyx
            rw [← ht] at HDx
            rw [← hu] at HDy HPy
            obtain ⟨lp, hlp⟩ : ∃ q, q = predsG G y := ⟨_, rfl⟩
            obtain ⟨m2, hm2⟩ : ∃ q, q = lp.length := ⟨_, rfl⟩
            have HMl := Lib.hid hm2
            have HMm : Hid (m2 = m2 + 0 ∧ m2 ≤ 1000) := ⟨by omega, by rw [hm2, hlp]; exact HPl2.out y⟩
            have HLp := Lib.hid hlp
            rw [← hlp, ← hm2] at HPy
            obtain ⟨v, hv⟩ : ∃ v, v = aheadG G x y := ⟨_, rfl⟩
            have HV := Lib.hid hv
            rw [← hv] at HAxy
            have hback : v = true → aheadG G y x = false := fun e => ahead_back ok.out (by rw [← hv]; exact e)
            have hself : x = y → v = false := fun e => by rw [hv, e]; exact ahead_self ok.out y
            obtain ⟨dx, hdx⟩ : ∃ q, q = depthG G x := ⟨_, rfl⟩
            obtain ⟨dy, hdy⟩ : ∃ q, q = depthG G y := ⟨_, rfl⟩
            have hdep : v = true → dx < dy := fun e => by
              rw [hdx, hdy]
              exact Anc.depth ok.out ((ahead_iff ok.out x y).1 (by rw [← hv]; exact e))
            rw [← hdx] at HDx
            rw [← hdy] at HDy
            obtain ⟨v2, hv2⟩ : ∃ v2, v2 = aheadG G y x := ⟨_, rfl⟩
            rw [← hv2] at HAyx hback
            clear hc hc0 hc1 hb f1 f2 hx hy ht hu hil hkl hlp hm2 hv hdx hdy hv2 aks HBi
            go_wp2
            have S0 : Below wm.heap.size wm wr.drew := HBk.out.drew
            refine region_T (fun W => Below wm.heap.size wm W) (fun j => decide (11 ≤ j)) (by kernel_rfl) ?_
            refine any_asT rfl (listed' := #[false, false, false, false, false, false, false, false, false, false, false, false]) (by kernel_rfl) ?_
            refine take_c (i := 0) (.slice (some ⟨b, off, none⟩) n c) 50 rfl (by kernel_rfl) (by kernel_rfl) (by kernel_rfl) (by kernel_rfl) (by kernel_rfl) rfl (by kernel_rfl) (by kernel_rfl) (fun W hW => by kernel_rfl) S0 (fun _ _ _ h => h) ?_
            simp only [Act.put, List.setIfInBounds_toArray, List.set_cons_zero, List.set_cons_succ]
            refine take_c (i := 1) (.int .i64 (i : Int)) 51 rfl (by kernel_rfl) (by kernel_rfl) (by kernel_rfl) (by kernel_rfl) (by kernel_rfl) rfl (by kernel_rfl) (by kernel_rfl) (fun W hW => by kernel_rfl) S0 (fun _ _ _ h => h) ?_
            simp only [Act.put, List.setIfInBounds_toArray, List.set_cons_zero, List.set_cons_succ]
            refine take_c (i := 2) (.pointer (some ⟨b, off + i * 2, none⟩)) 52 rfl (by kernel_rfl) (by kernel_rfl) (by kernel_rfl) (by kernel_rfl) (by kernel_rfl) rfl (by kernel_rfl) (by kernel_rfl) (fun W hW => nidx_run (.tmp 50) (.tmp 51) b off n c i (by kernel_rfl) (by kernel_rfl) (by kernel_rfl) hlt) S0 (fun _ _ _ h => h) ?_
            simp only [Act.put, List.setIfInBounds_toArray, List.set_cons_zero, List.set_cons_succ]
            refine take_c (i := 3) (.pointer (some ⟨b, off + i * 2, none⟩)) 53 rfl (by kernel_rfl) (by kernel_rfl) (by kernel_rfl) (by kernel_rfl) (by kernel_rfl) rfl (by kernel_rfl) (by kernel_rfl) (fun W hW => nfld0_run (.tmp 52) b (off + i * 2) (by kernel_rfl) (by kernel_rfl)) S0 (fun _ _ _ h => h) ?_
            simp only [Act.put, List.setIfInBounds_toArray, List.set_cons_zero, List.set_cons_succ]
            refine take_c (i := 4) (.string t) 54 rfl (by kernel_rfl) (by kernel_rfl) (by kernel_rfl) (by kernel_rfl) (by kernel_rfl) rfl (by kernel_rfl) (by kernel_rfl) (fun W hW => cell_run 9 (.tmp 53) ⟨b, off + i * 2, none⟩ (.string t) _ (by kernel_rfl) (by kernel_rfl) (HC.out W hW).1 Try.underlying9 rfl (by kernel_rfl)) S0 (fun _ _ _ h => h) ?_
            simp only [Act.put, List.setIfInBounds_toArray, List.set_cons_zero, List.set_cons_succ]
            refine take_c (i := 5) (.slice (some ⟨b, off, none⟩) n c) 55 rfl (by kernel_rfl) (by kernel_rfl) (by kernel_rfl) (by kernel_rfl) (by kernel_rfl) rfl (by kernel_rfl) (by kernel_rfl) (fun W hW => by kernel_rfl) S0 (fun _ _ _ h => h) ?_
            simp only [Act.put, List.setIfInBounds_toArray, List.set_cons_zero, List.set_cons_succ]
            refine take_c (i := 6) (.int .i64 (k : Int)) 56 rfl (by kernel_rfl) (by kernel_rfl) (by kernel_rfl) (by kernel_rfl) (by kernel_rfl) rfl (by kernel_rfl) (by kernel_rfl) (fun W hW => by kernel_rfl) S0 (fun _ _ _ h => h) ?_
            simp only [Act.put, List.setIfInBounds_toArray, List.set_cons_zero, List.set_cons_succ]
            refine take_c (i := 7) (.pointer (some ⟨b, off + k * 2, none⟩)) 57 rfl (by kernel_rfl) (by kernel_rfl) (by kernel_rfl) (by kernel_rfl) (by kernel_rfl) rfl (by kernel_rfl) (by kernel_rfl) (fun W hW => nidx_run (.tmp 55) (.tmp 56) b off n c k (by kernel_rfl) (by kernel_rfl) (by kernel_rfl) hlt2) S0 (fun _ _ _ h => h) ?_
            simp only [Act.put, List.setIfInBounds_toArray, List.set_cons_zero, List.set_cons_succ]
            refine take_c (i := 8) (.pointer (some ⟨b, off + k * 2, none⟩)) 58 rfl (by kernel_rfl) (by kernel_rfl) (by kernel_rfl) (by kernel_rfl) (by kernel_rfl) rfl (by kernel_rfl) (by kernel_rfl) (fun W hW => nfld0_run (.tmp 57) b (off + k * 2) (by kernel_rfl) (by kernel_rfl)) S0 (fun _ _ _ h => h) ?_
            simp only [Act.put, List.setIfInBounds_toArray, List.set_cons_zero, List.set_cons_succ]
            refine take_c (i := 9) (.string u) 59 rfl (by kernel_rfl) (by kernel_rfl) (by kernel_rfl) (by kernel_rfl) (by kernel_rfl) rfl (by kernel_rfl) (by kernel_rfl) (fun W hW => cell_run 9 (.tmp 58) ⟨b, off + k * 2, none⟩ (.string u) _ (by kernel_rfl) (by kernel_rfl) (HC.out W hW).2 Try.underlying9 rfl (by kernel_rfl)) S0 (fun _ _ _ h => h) ?_
            simp only [Act.put, List.setIfInBounds_toArray, List.set_cons_zero, List.set_cons_succ]
            refine take_c (i := 10) (.string t) 9 rfl (by kernel_rfl) (by kernel_rfl) (by kernel_rfl) (by kernel_rfl) (by kernel_rfl) rfl (by kernel_rfl) (by kernel_rfl) (fun W hW => by kernel_rfl) S0 (fun _ _ _ h => h) ?_
            simp only [Act.put, List.setIfInBounds_toArray, List.set_cons_zero, List.set_cons_succ]
            refine any_left (by kernel_rfl) ?_
            have hz := S0
            clear S0
            by_cases hxy : x = y
            · have hv0 := hself hxy
              subst hv0
              have heq : (t.toList == u.toList) = true := by rw [htu]; exact decide_eq_true hxy
              clear htu hself hback hdep hxy
              refine wpAny_tail 11 (by kernel_rfl) (by kernel_rfl) ?_
              simp only [List.append, List.append_eq, List.drop_succ_cons, List.drop_zero, List.drop_nil]
              go_wp2_with (first
                | (go_at_call 26; (with_reducible refine (HAxy.out _ (by assumption)).mono ?_); rintro e z ⟨rfl, hz⟩; replace hz := hz.out)
                | (go_at_call 22; (with_reducible refine (HPy.out _ (by assumption)).mono ?_); rintro e w6 ⟨A6, c6, rfl, s6, hb6, hc6⟩))
              have HB6 : Hid (Below wm.heap.size wm w6) := hz.trans (hb6.out.mono hz.size)
              have HD6 := Lib.hid (HW0.out.up HB6.out)
              have ak6 := asks_of HD6.out ok.out HGL.out.1
              have HA6 := Lib.hid ak6.ahead
              clear hz hb6 hc6 ak6 heq
              go_loopw [12] (fun v wr => ∃ j : Nat, j ≤ m2 ∧ v = .int .i64 (j : Int) ∧ Hid (Below w6.heap.size w6 wr)) (fun v _ => m2 - (intOf v).toNat)
              case atStart => exact ⟨0, Nat.zero_le _, rfl, Below.refl _ _⟩
              case round =>
                obtain ⟨j, hj, rfl, HBj⟩ := hrel
                by_cases hltj : j < m2
                · have d0 : decide ((j : Int) < (m2 : Int)) = true := decide_eq_true (by omega)
                  have hjl : j < lp.length := by have := HMl.out; omega
                  obtain ⟨qb, qo, rfl, hqb, hqc⟩ := s6.out.at_ (by omega)
                  have hqk := hqc j hjl
                  have hqm : lp.getD j [] ∈ lp := by
                    rw [List.getD, List.getElem?_eq_getElem hjl]
                    exact List.getElem_mem hjl
                  obtain ⟨q, hq⟩ : ∃ q, q = lp.getD j [] := ⟨_, rfl⟩
                  rw [← hq] at hqk hqm
                  have hqp : q ∈ predsG G y := by rw [← HLp.out]; exact hqm
                  have fq := HPr.out y q hqp
                  obtain ⟨tq, htq⟩ : ∃ t, t = text q := ⟨_, rfl⟩
                  rw [← htq] at hqk
                  have HE : Hid (∀ W, Below w6.heap.size w6 W → W.cell? ⟨qb, qo + j, none⟩ = some (.string tq)) := fun W hW => (hW.cell (p := ⟨qb, qo + j, none⟩) hqb).trans hqk
                  have HAxq := Lib.hid (HA6.out x q HF1.out fq)
                  have HAqy := Lib.hid (HA6.out q y fq HF2.out)
                  have HAxz := Lib.hid (HA6.out x y HF1.out HF2.out)
                  rw [← HTx.out, ← htq] at HAxq
                  rw [← HTu.out, ← htq, ahead_preds ok.out hqp] at HAqy
                  rw [← HTx.out, ← HTu.out] at HAxz
                  obtain ⟨vq, hvq⟩ : ∃ v, v = aheadG G x q := ⟨_, rfl⟩
                  have hmore : vq = true → aheadG G x y = true := fun e => ahead_more ok.out (by rw [← hvq]; exact e) hqp
                  rw [← hvq] at HAxq
                  have hz := HBj.out
                  have xz := HE.out _ hz
                  clear hjl hqc hqk hqm hq hqp fq htq hvq hqb HA6 HAxy HAyx HDx HDy HPy
                  cases vq with
                  | false =>
                    clear hmore HAxz
                    go_wp2_with (first
                      | (go_at_call 26; (with_reducible refine (HAxq.out _ (by assumption)).mono ?_); rintro e z ⟨rfl, hz⟩; replace hz := hz.out; have xz := HE.out _ hz)
                      | (go_at_call 26; (with_reducible refine (HAqy.out _ (by assumption)).mono ?_); rintro e z ⟨rfl, hz⟩; replace hz := hz.out; have xz := HE.out _ hz))
                    go_roundw
                    case rel => exact ⟨j + 1, hltj, congrArg (Value.int .i64) (next64 hltj ⟨HMl.out, HMm.out.2⟩), hz⟩
                    case measure => exact less64 hltj ⟨HMl.out, HMm.out.2⟩
                  | true =>
                    have hm1 := hmore rfl
                    rw [hm1] at HAxz
                    clear hmore hm1
                    go_wp2_with (first
                      | (go_at_call 26; (with_reducible refine (HAxq.out _ (by assumption)).mono ?_); rintro e z ⟨rfl, hz⟩; replace hz := hz.out; have xz := HE.out _ hz)
                      | (go_at_call 26; (with_reducible refine (HAxz.out _ (by assumption)).mono ?_); rintro e z ⟨rfl, hz⟩; replace hz := hz.out; have xz := HE.out _ hz)
                      | (go_at_call 26; (with_reducible refine (HAqy.out _ (by assumption)).mono ?_); rintro e z ⟨rfl, hz⟩; replace hz := hz.out; have xz := HE.out _ hz))
                    go_roundw
                    case rel => exact ⟨j + 1, hltj, congrArg (Value.int .i64) (next64 hltj ⟨HMl.out, HMm.out.2⟩), hz⟩
                    case measure => exact less64 hltj ⟨HMl.out, HMm.out.2⟩
                · have d0 : decide ((j : Int) < (m2 : Int)) = false := decide_eq_false (by omega)
                  clear HAxy HAyx HDx HDy HPy
                  go_wp2
                  go_roundw
                  case rel => exact ⟨k + 1, hlt2, congrArg (Value.int .i64) (next64 hlt2 HGL.out.2), HB6.out.trans (HBj.out.mono HB6.out.size)⟩
                  case measure => exact less64 hlt2 HGL.out.2
            · have heq : (t.toList == u.toList) = false := by rw [htu]; exact decide_eq_false hxy
              cases v with
              | false =>
                clear htu hself hback hdep hxy
                refine wpAny_tail 11 (by kernel_rfl) (by kernel_rfl) ?_
                simp only [List.append, List.append_eq, List.drop_succ_cons, List.drop_zero, List.drop_nil]
                go_wp2_with (first
                  | (go_at_call 26; (with_reducible refine (HAxy.out _ (by assumption)).mono ?_); rintro e z ⟨rfl, hz⟩; replace hz := hz.out)
                  | (go_at_call 22; (with_reducible refine (HPy.out _ (by assumption)).mono ?_); rintro e w6 ⟨A6, c6, rfl, s6, hb6, hc6⟩))
                have HB6 : Hid (Below wm.heap.size wm w6) := hz.trans (hb6.out.mono hz.size)
                have HD6 := Lib.hid (HW0.out.up HB6.out)
                have ak6 := asks_of HD6.out ok.out HGL.out.1
                have HA6 := Lib.hid ak6.ahead
                clear hz hb6 hc6 ak6 heq
                go_loopw [12] (fun v wr => ∃ j : Nat, j ≤ m2 ∧ v = .int .i64 (j : Int) ∧ Hid (Below w6.heap.size w6 wr)) (fun v _ => m2 - (intOf v).toNat)
                case atStart => exact ⟨0, Nat.zero_le _, rfl, Below.refl _ _⟩
                case round =>
                  obtain ⟨j, hj, rfl, HBj⟩ := hrel
                  by_cases hltj : j < m2
                  · have d0 : decide ((j : Int) < (m2 : Int)) = true := decide_eq_true (by omega)
                    have hjl : j < lp.length := by have := HMl.out; omega
                    obtain ⟨qb, qo, rfl, hqb, hqc⟩ := s6.out.at_ (by omega)
                    have hqk := hqc j hjl
                    have hqm : lp.getD j [] ∈ lp := by
                      rw [List.getD, List.getElem?_eq_getElem hjl]
                      exact List.getElem_mem hjl
                    obtain ⟨q, hq⟩ : ∃ q, q = lp.getD j [] := ⟨_, rfl⟩
                    rw [← hq] at hqk hqm
                    have hqp : q ∈ predsG G y := by rw [← HLp.out]; exact hqm
                    have fq := HPr.out y q hqp
                    obtain ⟨tq, htq⟩ : ∃ t, t = text q := ⟨_, rfl⟩
                    rw [← htq] at hqk
                    have HE : Hid (∀ W, Below w6.heap.size w6 W → W.cell? ⟨qb, qo + j, none⟩ = some (.string tq)) := fun W hW => (hW.cell (p := ⟨qb, qo + j, none⟩) hqb).trans hqk
                    have HAxq := Lib.hid (HA6.out x q HF1.out fq)
                    have HAqy := Lib.hid (HA6.out q y fq HF2.out)
                    have HAxz := Lib.hid (HA6.out x y HF1.out HF2.out)
                    rw [← HTx.out, ← htq] at HAxq
                    rw [← HTu.out, ← htq, ahead_preds ok.out hqp] at HAqy
                    rw [← HTx.out, ← HTu.out] at HAxz
                    obtain ⟨vq, hvq⟩ : ∃ v, v = aheadG G x q := ⟨_, rfl⟩
                    have hmore : vq = true → aheadG G x y = true := fun e => ahead_more ok.out (by rw [← hvq]; exact e) hqp
                    rw [← hvq] at HAxq
                    have hz := HBj.out
                    have xz := HE.out _ hz
                    clear hjl hqc hqk hqm hq hqp fq htq hvq hqb HA6 HAxy HAyx HDx HDy HPy
                    cases vq with
                    | false =>
                      clear hmore HAxz
                      go_wp2_with (first
                        | (go_at_call 26; (with_reducible refine (HAxq.out _ (by assumption)).mono ?_); rintro e z ⟨rfl, hz⟩; replace hz := hz.out; have xz := HE.out _ hz)
                        | (go_at_call 26; (with_reducible refine (HAqy.out _ (by assumption)).mono ?_); rintro e z ⟨rfl, hz⟩; replace hz := hz.out; have xz := HE.out _ hz))
                      go_roundw
                      case rel => exact ⟨j + 1, hltj, congrArg (Value.int .i64) (next64 hltj ⟨HMl.out, HMm.out.2⟩), hz⟩
                      case measure => exact less64 hltj ⟨HMl.out, HMm.out.2⟩
                    | true =>
                      have hm1 := hmore rfl
                      rw [hm1] at HAxz
                      clear hmore hm1
                      go_wp2_with (first
                        | (go_at_call 26; (with_reducible refine (HAxq.out _ (by assumption)).mono ?_); rintro e z ⟨rfl, hz⟩; replace hz := hz.out; have xz := HE.out _ hz)
                        | (go_at_call 26; (with_reducible refine (HAxz.out _ (by assumption)).mono ?_); rintro e z ⟨rfl, hz⟩; replace hz := hz.out; have xz := HE.out _ hz)
                        | (go_at_call 26; (with_reducible refine (HAqy.out _ (by assumption)).mono ?_); rintro e z ⟨rfl, hz⟩; replace hz := hz.out; have xz := HE.out _ hz))
                      go_roundw
                      case rel => exact ⟨j + 1, hltj, congrArg (Value.int .i64) (next64 hltj ⟨HMl.out, HMm.out.2⟩), hz⟩
                      case measure => exact less64 hltj ⟨HMl.out, HMm.out.2⟩
                  · have d0 : decide ((j : Int) < (m2 : Int)) = false := decide_eq_false (by omega)
                    clear HAxy HAyx HDx HDy HPy
                    go_wp2
                    go_roundw
                    case rel => exact ⟨k + 1, hlt2, congrArg (Value.int .i64) (next64 hlt2 HGL.out.2), HB6.out.trans (HBj.out.mono HB6.out.size)⟩
                    case measure => exact less64 hlt2 HGL.out.2
              | true =>
                have hv2 := hback rfl
                subst hv2
                have hlt3 := hdep rfl
                have g0 : decide ((dx : Int) ≥ (dy : Int)) = false := decide_eq_false (by omega)
                have g1 : decide ((dy : Int) ≤ (dx : Int)) = false := decide_eq_false (by omega)
                have g2 : decide (dy ≤ dx) = false := decide_eq_false (by omega)
                have g3 : ¬ dy ≤ dx := (by omega)
                clear htu hself hback hdep hxy hlt3
                refine wpAny_tail 11 (by kernel_rfl) (by kernel_rfl) ?_
                simp only [List.append, List.append_eq, List.drop_succ_cons, List.drop_zero, List.drop_nil]
                go_wp2_with (first
                  | (go_at_call 26; (with_reducible refine (HAxy.out _ (by assumption)).mono ?_); rintro e z ⟨rfl, hz⟩; replace hz := hz.out)
                  | (go_at_call 26; (with_reducible refine (HAyx.out _ (by assumption)).mono ?_); rintro e z ⟨rfl, hz⟩; replace hz := hz.out)
                  | (go_at_call 20; (with_reducible refine (HDx.out _ (by assumption)).mono ?_); rintro e z ⟨rfl, hz⟩; replace hz := hz.out)
                  | (go_at_call 20; (with_reducible refine (HDy.out _ (by assumption)).mono ?_); rintro e z ⟨rfl, hz⟩; replace hz := hz.out)
                  | (go_at_call 22; (with_reducible refine (HPy.out _ (by assumption)).mono ?_); rintro e w6 ⟨A6, c6, rfl, s6, hb6, hc6⟩))
                have HB6 : Hid (Below wm.heap.size wm w6) := hz.trans (hb6.out.mono hz.size)
                have HD6 := Lib.hid (HW0.out.up HB6.out)
                have ak6 := asks_of HD6.out ok.out HGL.out.1
                have HA6 := Lib.hid ak6.ahead
                clear hz hb6 hc6 ak6 heq
                go_loopw [12] (fun v wr => ∃ j : Nat, j ≤ m2 ∧ v = .int .i64 (j : Int) ∧ Hid (Below w6.heap.size w6 wr)) (fun v _ => m2 - (intOf v).toNat)
                case atStart => exact ⟨0, Nat.zero_le _, rfl, Below.refl _ _⟩
                case round =>
                  obtain ⟨j, hj, rfl, HBj⟩ := hrel
                  by_cases hltj : j < m2
                  · have d0 : decide ((j : Int) < (m2 : Int)) = true := decide_eq_true (by omega)
                    have hjl : j < lp.length := by have := HMl.out; omega
                    obtain ⟨qb, qo, rfl, hqb, hqc⟩ := s6.out.at_ (by omega)
                    have hqk := hqc j hjl
                    have hqm : lp.getD j [] ∈ lp := by
                      rw [List.getD, List.getElem?_eq_getElem hjl]
                      exact List.getElem_mem hjl
                    obtain ⟨q, hq⟩ : ∃ q, q = lp.getD j [] := ⟨_, rfl⟩
                    rw [← hq] at hqk hqm
                    have hqp : q ∈ predsG G y := by rw [← HLp.out]; exact hqm
                    have fq := HPr.out y q hqp
                    obtain ⟨tq, htq⟩ : ∃ t, t = text q := ⟨_, rfl⟩
                    rw [← htq] at hqk
                    have HE : Hid (∀ W, Below w6.heap.size w6 W → W.cell? ⟨qb, qo + j, none⟩ = some (.string tq)) := fun W hW => (hW.cell (p := ⟨qb, qo + j, none⟩) hqb).trans hqk
                    have HAxq := Lib.hid (HA6.out x q HF1.out fq)
                    have HAqy := Lib.hid (HA6.out q y fq HF2.out)
                    have HAxz := Lib.hid (HA6.out x y HF1.out HF2.out)
                    rw [← HTx.out, ← htq] at HAxq
                    rw [← HTu.out, ← htq, ahead_preds ok.out hqp] at HAqy
                    rw [← HTx.out, ← HTu.out] at HAxz
                    obtain ⟨vq, hvq⟩ : ∃ v, v = aheadG G x q := ⟨_, rfl⟩
                    have hmore : vq = true → aheadG G x y = true := fun e => ahead_more ok.out (by rw [← hvq]; exact e) hqp
                    rw [← hvq] at HAxq
                    have hz := HBj.out
                    have xz := HE.out _ hz
                    clear hjl hqc hqk hqm hq hqp fq htq hvq hqb HA6 HAxy HAyx HDx HDy HPy
                    cases vq with
                    | false =>
                      clear hmore HAxz
                      go_wp2_with (first
                        | (go_at_call 26; (with_reducible refine (HAxq.out _ (by assumption)).mono ?_); rintro e z ⟨rfl, hz⟩; replace hz := hz.out; have xz := HE.out _ hz)
                        | (go_at_call 26; (with_reducible refine (HAqy.out _ (by assumption)).mono ?_); rintro e z ⟨rfl, hz⟩; replace hz := hz.out; have xz := HE.out _ hz))
                      go_roundw
                      case rel => exact ⟨j + 1, hltj, congrArg (Value.int .i64) (next64 hltj ⟨HMl.out, HMm.out.2⟩), hz⟩
                      case measure => exact less64 hltj ⟨HMl.out, HMm.out.2⟩
                    | true =>
                      have hm1 := hmore rfl
                      rw [hm1] at HAxz
                      clear hmore hm1
                      go_wp2_with (first
                        | (go_at_call 26; (with_reducible refine (HAxq.out _ (by assumption)).mono ?_); rintro e z ⟨rfl, hz⟩; replace hz := hz.out; have xz := HE.out _ hz)
                        | (go_at_call 26; (with_reducible refine (HAxz.out _ (by assumption)).mono ?_); rintro e z ⟨rfl, hz⟩; replace hz := hz.out; have xz := HE.out _ hz)
                        | (go_at_call 26; (with_reducible refine (HAqy.out _ (by assumption)).mono ?_); rintro e z ⟨rfl, hz⟩; replace hz := hz.out; have xz := HE.out _ hz))
                      go_roundw
                      case rel => exact ⟨j + 1, hltj, congrArg (Value.int .i64) (next64 hltj ⟨HMl.out, HMm.out.2⟩), hz⟩
                      case measure => exact less64 hltj ⟨HMl.out, HMm.out.2⟩
                  · have d0 : decide ((j : Int) < (m2 : Int)) = false := decide_eq_false (by omega)
                    clear HAxy HAyx HDx HDy HPy
                    go_wp2
                    go_roundw
                    case rel => exact ⟨k + 1, hlt2, congrArg (Value.int .i64) (next64 hlt2 HGL.out.2), HB6.out.trans (HBj.out.mono HB6.out.size)⟩
                    case measure => exact less64 hlt2 HGL.out.2
          · have d0 : decide ((k : Int) < (n : Int)) = false := decide_eq_false (by omega)
            go_wp2
            go_roundw
            case rel => exact ⟨i + 1, hlt, congrArg (Value.int .i64) (next64 hlt HGL.out.2), HBk.out⟩
            case measure => exact less64 hlt HGL.out.2
      · have d0 : decide ((i : Int) < (n : Int)) = false := decide_eq_false (by omega)
        have hDi := HW0.out.up HBi.out
        go_wp2_with (go_at_call 16; (with_reducible refine (HPa.out _ p F HGL.out.1 HM10.out hDi).mono ?_); rintro e w6 ⟨A6, c6, rfl, s6, hb6, hc6⟩)
        have HD6 := Lib.hid (hDi.up hb6.out)
        have aks := asks_of HD6.out ok.out HGL.out.1
        have HP6 := Lib.hid aks.preds
        have HNb : Hid (np = P.length ∧ np ≤ 1000) := ⟨HNp.out.1, Nat.le_trans HNp.out.2 HGL.out.1⟩
        clear hDi hb6 hc6 aks
        go_loopw [14] (fun v wr => ∃ k : Nat, k ≤ np ∧ v = .int .i64 (k : Int) ∧ Hid (Below w6.heap.size w6 wr)) (fun v _ => np - (intOf v).toNat)
        case atStart => exact ⟨0, Nat.zero_le _, rfl, Below.refl _ _⟩
        case round =>
          obtain ⟨k, hk, rfl, HBk⟩ := hrel
          by_cases hlt2 : k < np
          · have d0 : decide ((k : Int) < (np : Int)) = true := decide_eq_true (by omega)
            have hkP : k < P.length := by have := HNb.out.1; omega
            have sP := Lib.hid ((s6.out.below HBk.out).more HBk.out.size)
            obtain ⟨ob, oo, rfl, hob, hoc⟩ := s6.out.at_ (by omega)
            have hok := hoc k hkP
            have hxm : P.getD k [] ∈ P := by
              rw [List.getD, List.getElem?_eq_getElem hkP]
              exact List.getElem_mem hkP
            obtain ⟨f1, hless⟩ := HPx.out _ hxm
            obtain ⟨x, hx⟩ : ∃ x, x = P.getD k [] := ⟨_, rfl⟩
            rw [← hx] at hok f1 hless
            have HPy := Lib.hid (HP6.out x f1 wr HBk.out)
            obtain ⟨t, ht⟩ : ∃ t, t = text x := ⟨_, rfl⟩
            rw [← ht] at hok HPy
            have x0 := (HBk.out.cell (p := ⟨ob, oo + k, none⟩) hob).trans hok
            obtain ⟨lp, hlp⟩ : ∃ q, q = predsG G x := ⟨_, rfl⟩
            obtain ⟨m2, hm2⟩ : ∃ q, q = lp.length := ⟨_, rfl⟩
            have HMl := Lib.hid hm2
            have hml : Hid (m2 ≤ 1000) := by show m2 ≤ 1000; rw [hm2, hlp]; exact HPl2.out x
            rw [← hlp] at hless
            rw [← hlp, ← hm2] at HPy
            have HLe : Hid (∀ (C : Option Addr) (cc : Nat) W, SS W W.heap.size C lp → SS W W.heap.size (some ⟨ob, oo, none⟩) P → Calls Try.prog 31 #[.slice C m2 cc, .slice (some ⟨ob, oo, none⟩) np c6] W fun e w' => ∃ A7 c7, e = .returned (.slice A7 0 c7) ∧ Hid (Below W.heap.size W w')) := fun C cc W h1 h2 => (refLess_any lp P C (some ⟨ob, oo, none⟩) m2 cc np c6 _ W HMl.out HNb.out.1 h1 h2 (by have := hml.out; omega) (by have := HNb.out.2; omega)).mono fun e w' hh => by
              obtain ⟨A7, c7, q1, _, _, _, q5⟩ := hh
              rw [hless] at q1
              exact ⟨A7, c7, q1, q5⟩
            clear hx hxm f1 hless ht hok hoc hob hkP hlp hm2
            go_wp2_with (first
              | (go_at_call 22; (with_reducible refine HPy.out.mono ?_); rintro e y1 ⟨A8, c8, rfl, s8, hb8, hc8⟩; have sP2 := Lib.hid ((sP.out.below hb8.out).more hb8.out.size))
              | (go_at_call 31; (with_reducible refine (HLe.out _ _ _ s8.out sP2.out).mono ?_); rintro e y2 ⟨A9, c9, rfl, hb9⟩))
            go_roundw
            case rel => exact ⟨k + 1, hlt2, congrArg (Value.int .i64) (next64 hlt2 HNb.out), HBk.out.trans ((hb8.out.trans (hb9.out.mono hb8.out.size)).mono HBk.out.size)⟩
            case measure => exact less64 hlt2 HNb.out
          · have d0 : decide ((k : Int) < (np : Int)) = false := decide_eq_false (by omega)
            go_wp2_with (go_at_call 10; (with_reducible refine (HAw.out _).mono ?_); rintro e w8 ⟨rfl, b8⟩)
            go_ret
            have q1 := HD6.out.below.trans (HBk.out.mono HD6.out.below.size)
            exact ⟨rfl, q1.trans (b8.mono q1.size)⟩
  · have e0 : decide ((m : Int) > 10) = true := decide_eq_true (by omega)
    have e1 : decide ((10 : Int) < (m : Int)) = true := decide_eq_true (by omega)
    clear hm10
    go_enter Try.func6, Try.ntmps6
    go_wp2_with (first
      | (go_at_call 9; (with_reducible refine (HFe.out _ HB0.out).mono ?_); rintro e w1 ⟨b, rfl, hb, hb1⟩; rcases b with _ | _)
      | (go_at_call 10; (with_reducible refine (HAw.out _).mono ?_); rintro e w3 ⟨rfl, b3⟩))
    all_goals
      go_ret
      exact ⟨rfl, hb1.out.trans (b3.mono hb1.out.size)⟩
end Go.Proofs.Ytbeihiokjhfepaa
