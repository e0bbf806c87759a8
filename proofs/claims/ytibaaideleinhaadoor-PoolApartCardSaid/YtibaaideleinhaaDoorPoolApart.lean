/- PoolApart returns true for every size, every list of takes and every list of gives, and leaves memory that was there as it was; the library table of math/bits lies as its text lays it (the card ties that); nothing else is assumed beyond the statement itself. -/
import Derived.Test.YtibaaideleinhaaDoorPoolDoes
import Derived.Test.YtibaaideleinhaaDoorPoolApartM
import Derived.Deep.Grids
import Derived.Test.YtibaaideleinhaaDoorBitsLaid
import Derived.Test.YtibaaideleinhaaDoorCards
import Derived.Test.YtibaaideleinhaaDoorTie
import Derived.SevenTiedAt
set_option linter.unusedVariables false
set_option linter.unusedSimpArgs false
namespace Go.Proofs.YtibaaideleinhaaDoor
open Go.ChangeShapes Go.WideShapes Go.ChangeAt Go.RowKit

theorem Tryd.pEqS (g : Nat) (w : World) : Sem.run Tryd.prog (binOp .eql 23 (.pointer (some ⟨g, 0, none⟩)) (.pointer none)) w = .ok (.bool false) w := by kernel_rfl
theorem own_blkB {w : World} {base g n : Nat} {l : List Bool} (h : w.ownsRow base 4 1 (.slice (some ⟨g, 0, none⟩) n n) n (bcells l)) : Blk w g 4 (bcells l).toArray := by
  rcases h.2 with ⟨h1, _⟩ | ⟨k, cap, cur, he, hb, hg, h1, h2, h3, h4⟩
  · cases h1
  · simp only [Value.slice.injEq, Option.some.injEq, Addr.mk.injEq] at he
    obtain ⟨⟨rfl, -, -⟩, -, rfl⟩ := he
    have e : cur = (bcells l).toArray := by
      apply Array.toList_inj.1
      have h5 : cur.toList.take (n * 1) = bcells l := h4
      rw [← h5, List.take_of_length_le (by simp; omega)]
    rw [e] at hg
    exact hg
theorem bset_arr (l : List Bool) (j : Nat) (q : Bool) : (bcells l).toArray.setIfInBounds j (.bool q) = (bcells (l.set j q)).toArray := by
  apply Array.toList_inj.1
  simp [bcells, List.map_set]
/-- The pool, the law's own marks, and what was taken last. -/
structure AP (w wr : World) (g : Nat) (F : Nat → Prop) (p : Pl) (gh : Nat) (C : List Bool) (A : Option Addr) (l : List Int) : Prop where
  pa : Pa w wr g F p
  hb : Blk wr gh 4 (bcells C).toArray
  nf : ¬ F gh
  hw : w.heap.size ≤ gh
  ri : RI wr wr.heap.size A l
  na : 0 < l.length → ∀ ad, A = some ad → ¬ F ad.block
section
variable {w wr W : World} {g gh : Nat} {F F' : Nat → Prop} {p p' : Pl} {C : List Bool} {A : Option Addr} {l : List Int}
theorem AP.more (h : AP w wr g F p gh C A l) (hb : Below wr.heap.size wr W) : AP w W g F p gh C A l := ⟨h.pa.more hb, h.hb.below hb h.hb.lt, h.nf, h.hw, ri_up h.ri hb, h.na⟩
/-- What was taken lies in no block of marks. -/
theorem AP.apart (h : AP w wr g F p gh C A l) (h0 : 0 < l.length) : ∃ b off, A = some ⟨b, off, none⟩ ∧ b ≠ gh ∧ ∀ k (hk : k < l.length), wr.cell? ⟨b, off + k, none⟩ = some (.int .i64 (l.getD k 0)) := by
  obtain ⟨b, off, e, hlt, hc⟩ := h.ri h0
  refine ⟨b, off, e, fun e2 => ?_, fun k hk => ?_⟩
  · have h1 := hc 0 h0
    rw [e2, h.hb.cell] at h1
    simp only [Nat.add_zero] at h1
    rw [List.getElem?_toArray] at h1
    have hm := List.mem_of_getElem? h1
    simp [bcells] at hm
  · rw [hc k hk, List.getD_eq_getElem?_getD, List.getElem?_eq_getElem hk]; rfl
theorem AP.cell (h : AP w wr g F p gh C A l) {j : Nat} (hj : j < C.length) : wr.cell? ⟨gh, j, none⟩ = some (.bool (C.getD j false)) := by
  rw [h.hb.cell]
  show (bcells C).toArray[j]? = _
  rw [List.getElem?_toArray]
  exact bcells_get C j hj
theorem AP.store (h : AP w wr g F p gh C A l) (j : Nat) (q : Bool) : AP w (wr.setCell ⟨gh, j, none⟩ (.bool q)) g F p gh (C.set j q) A l := by
  have ht : Turns wr (wr.setCell ⟨gh, j, none⟩ (.bool q)) (fun k => k = gh) (fun k => k = gh) := Turns.set_ (F := fun k => k = gh) rfl j _
  refine ⟨⟨h.pa.pp.turns ht (fun k hk e => h.nf (e ▸ hk)) (fun e => ne_tab_bools h.hb h.pa.pp.tz e.symm), h.pa.own, h.pa.below.trans (ht.below (fun k e => by rw [e]; exact h.hw) h.pa.below.size)⟩, ?_, h.nf, h.hw, fun h0 => ?_, h.na⟩
  · have := h.hb.set_ j (.bool q)
    rwa [bset_arr] at this
  · obtain ⟨b, off, e, hne, hc⟩ := h.apart h0
    obtain ⟨b', off', e', hlt, hc'⟩ := h.ri h0
    rw [e] at e'; injection e' with e'; injection e' with e1 e2; subst e1 e2
    refine ⟨b, off, e, by simpa [World.setCell] using hlt, fun k hk => ?_⟩
    rw [ht.cell (p := ⟨b, off + k, none⟩) hlt hne]
    exact hc' k hk
theorem AP.drop (h : AP w wr g F p gh C A l) : AP w wr g F p gh C none [] := ⟨h.pa, h.hb, h.nf, h.hw, fun h0 => absurd h0 (by simp), fun h0 => absurd h0 (by simp)⟩
theorem AP.turned (h : AP w wr g F p gh C A l) (hp : PPool W g F' p') (ht : Turns wr W F F') : AP w W g F' p' gh C A l := by
  refine ⟨h.pa.turned hp ht, h.hb.turns ht h.nf, not_foot11 ht h.hb.lt h.nf, h.hw, fun h0 => ?_, fun h0 ad e => ?_⟩
  · obtain ⟨b, off, e, hlt, hc⟩ := h.ri h0
    exact ⟨b, off, e, Nat.lt_of_lt_of_le hlt ht.size, fun k hk => (ht.cell (p := ⟨b, off + k, none⟩) hlt (h.na h0 ⟨b, off, none⟩ e)).trans (hc k hk)⟩
  · obtain ⟨b, off, e2, hlt, hc⟩ := h.ri h0
    rw [e] at e2; injection e2 with e2; rw [e2]
    exact not_foot11 ht hlt (by have := h.na h0 ad e; rwa [e2] at this)
end
set_option maxRecDepth 100000 in
set_option maxHeartbeats 8000000 in
theorem poolapart_any (sz : Int) (T : List Int) (G : List Bool) (AT AG : Option Addr) (m mg cT cG : Nat) (w : World) (hT : RI w w.heap.size AT T) (hm : m = T.length) (hG : BS w w.heap.size AG G) (hmg : mg = G.length) (hsz : InZ sz) (hTz : ∀ z ∈ T, InZ z) (hQ : Tq w) :
    Calls Tryd.prog 4 #[.int .i64 sz, .slice AT m cT, .slice AG mg cG] w fun e w' => e = .returned (.bool true) ∧ Below w.heap.size w w' := by
  have HQ := Lib.hid hQ
  have HAw : Hid (∀ W, Below w.heap.size w W → Calls Tryd.prog 9 #[] W fun e w' => e = .returned (.bool true) ∧ Below W.heap.size W w') := fun W hb => awake11_any W (HQ.out.below hb)
  have p0 := fun g w' => Tryd.pEqS g w'
  obtain ⟨i0, hi0, hz0, hz1, hz2⟩ := info_parts Tryd.infoBoolP
  have hby : i0.bytes = 1 := hz2
  clear hQ
  by_cases hneg : sz < 0
  · have d0 : decide (sz < 0) = true := decide_eq_true hneg
    obtain ⟨r, hr, hr60⟩ : ∃ r : Nat, sz.tmod 60 = -(r : Int) ∧ r < 60 := by
      refine ⟨((-sz).tmod 60).toNat, ?_, ?_⟩
      · have h1 : sz.tmod 60 = -((-sz).tmod 60) := by rw [Int.neg_tmod]; omega
        have h2 : 0 ≤ (-sz).tmod 60 := Int.tmod_nonneg _ (by omega)
        omega
      · have h2 : (-sz).tmod 60 < 60 := Int.tmod_lt_of_pos _ (by omega)
        omega
    have y0 : IntKind.i64.wrap (5 + (-(r : Int))) = 5 - (r : Int) := (IntWalk.i64_in _ (by omega)).trans (by omega)
    by_cases hr0 : r = 0
    · subst hr0
      have y1 : IntKind.i64.wrap (5 + sz.tmod 60) = 5 := by rw [hr]; rfl
      have HO : Hid (∀ W, Below w.heap.size w W → Calls Tryd.prog 6 #[.int .i64 5, .int .i64 5] W fun e w' => ∃ g F, e = .returned (.tuple #[.pointer (some ⟨g, 0, none⟩), .int .i64 0]) ∧ Pa w w' g F (Pl.made 5 5)) := fun W hb => (pof_yes 5 5 W (by decide) (HQ.out.below hb)).mono fun e w' hh => by
        obtain ⟨g, F, he, h1, h2, h3⟩ := hh
        exact ⟨g, F, he, h1, fun k hk => Nat.le_trans hb.size (h3 k hk), hb.trans (h2.mono hb.size)⟩
      clear hT hm hG hmg hsz hTz hneg hr hr60 y0
      go_enter Tryd.func4, Tryd.ntmps4
      go_wp2_with (first
        | (go_at_call 6; have hx := HO.out w (Below.refl _ _); (with_reducible refine hx.mono ?_); clear hx; rintro e w1 ⟨g, F, rfl, s1⟩)
        | (go_at_call 9; (with_reducible refine (HAw.out _ s1.below).mono ?_); rintro e w6 ⟨rfl, b6⟩))
      go_ret
      exact ⟨rfl, s1.below.trans (b6.mono s1.below.size)⟩
    · have y1 : IntKind.i64.wrap (5 + sz.tmod 60) = 5 - (r : Int) := by rw [hr]; exact y0
      obtain ⟨zb, hzb⟩ : ∃ z : Int, z = 5 - (r : Int) := ⟨_, rfl⟩
      have HO : Hid (∀ W, Calls Tryd.prog 6 #[.int .i64 5, .int .i64 zb] W fun e w' => e = .returned (.tuple #[.pointer none, .int .i64 1]) ∧ Below W.heap.size W w') := fun W => pof_no 5 zb W (by unfold Pl.ofOk; rw [decide_eq_false (show ¬ (5 : Int) ≤ zb by omega)]; rfl)
      rw [← hzb] at y1
      clear hT hm hG hmg hsz hTz hneg hr hr60 y0 hzb hr0
      go_enter Tryd.func4, Tryd.ntmps4
      go_wp2_with (first
        | (go_at_call 6; (with_reducible refine (HO.out _).mono ?_); rintro e w1 ⟨rfl, b1⟩)
        | (go_at_call 9; (with_reducible refine (HAw.out _ b1).mono ?_); rintro e w6 ⟨rfl, b6⟩))
      go_ret
      exact ⟨rfl, b1.trans (b6.mono b1.size)⟩
  · have d0 : decide (sz < 0) = false := decide_eq_false hneg
    obtain ⟨N, hN, hN60⟩ : ∃ N : Nat, sz.tmod 60 = (N : Int) ∧ N < 60 := by
      refine ⟨(sz.tmod 60).toNat, ?_, ?_⟩
      · have h2 : 0 ≤ sz.tmod 60 := Int.tmod_nonneg _ (by omega)
        omega
      · have h2 : sz.tmod 60 < 60 := Int.tmod_lt_of_pos _ (by omega)
        omega
    have hN2 : sz % 60 = (N : Int) := by rw [← Int.tmod_eq_emod_of_nonneg (by omega)]; exact hN
    obtain ⟨b, hb⟩ : ∃ b : Nat, b = 5 + N := ⟨_, rfl⟩
    have y1 : IntKind.i64.wrap (5 + sz.tmod 60) = (b : Int) := by rw [hN]; exact (IntWalk.i64_in _ (by omega)).trans (by omega)
    have y2 : IntKind.i64.wrap (5 + sz % 60) = (b : Int) := by rw [hN2]; exact (IntWalk.i64_in _ (by omega)).trans (by omega)
    have y3 : IntKind.i64.wrap (5 + (N : Int)) = (b : Int) := (IntWalk.i64_in _ (by omega)).trans (by omega)
    have hmade : (Pl.made 5 (b : Int)).tk = List.replicate N false := by show List.replicate ((b : Int) - 5).toNat false = _; congr 1; omega
    have hok : Pl.ofOk 5 (b : Int) = true := by
      unfold Pl.ofOk
      rw [decide_eq_true (show (0 : Int) ≤ 5 by omega), decide_eq_true (show (5 : Int) ≤ (b : Int) by omega), decide_eq_true (show (b : Int) ≤ 1024 by omega)]; rfl
    have HO : Hid (∀ W, Below w.heap.size w W → Calls Tryd.prog 6 #[.int .i64 5, .int .i64 (b : Int)] W fun e w' => ∃ g F, e = .returned (.tuple #[.pointer (some ⟨g, 0, none⟩), .int .i64 0]) ∧ Pa w w' g F ⟨5, List.replicate N false⟩) := fun W hb => (pof_yes 5 (b : Int) W hok (HQ.out.below hb)).mono fun e w' hh => by
      obtain ⟨g, F, he, h1, h2, h3⟩ := hh
      have e9 : Pl.made 5 (b : Int) = ⟨5, List.replicate N false⟩ := by rw [← hmade]; rfl
      rw [e9] at h1
      exact ⟨g, F, he, h1, fun k hk => Nat.le_trans hb.size (h3 k hk), hb.trans (h2.mono hb.size)⟩
    by_cases h40 : 40 < m
    · have d1 : decide ((40 : Int) < (m : Int)) = true := decide_eq_true (by omega)
      have d2 : decide ((m : Int) > 40) = true := decide_eq_true (by omega)
      clear hT hm hG hmg hsz hTz hneg hN hN2 hb hmade hok hN60 h40
      go_enter Tryd.func4, Tryd.ntmps4
      go_wp2_with (first
        | (go_at_call 6; have hx := HO.out w (Below.refl _ _); (with_reducible refine hx.mono ?_); clear hx; rintro e w1 ⟨g, F, rfl, s1⟩)
        | (go_at_call 9; (with_reducible refine (HAw.out _ s1.below).mono ?_); rintro e w6 ⟨rfl, b6⟩))
      go_ret
      exact ⟨rfl, s1.below.trans (b6.mono s1.below.size)⟩
    · have d1 : decide ((40 : Int) < (m : Int)) = false := decide_eq_false (by omega)
      have d2 : decide ((m : Int) > 40) = false := decide_eq_false (by omega)
      have hm40 : m ≤ 40 := by omega
      have HTk : Hid (∀ W, Below w.heap.size w W → ∀ i, i < m → ∃ tb tf, AT = some ⟨tb, tf, none⟩ ∧ W.cell? ⟨tb, tf + i, none⟩ = some (.int .i64 (T.getD i 0)) ∧ InZ (T.getD i 0)) := fun W hb i hi => by
        obtain ⟨tb, tf, e, hlt, hc⟩ := hT (by omega)
        refine ⟨tb, tf, e, ?_, ?_⟩
        · rw [(hb.cell (p := ⟨tb, tf + i, none⟩) hlt).trans (hc i (by omega)), List.getD_eq_getElem?_getD, List.getElem?_eq_getElem (by omega)]; rfl
        · rw [List.getD_eq_getElem?_getD, List.getElem?_eq_getElem (by omega)]; exact hTz _ (List.getElem_mem _)
      have HGk : Hid (∀ W, Below w.heap.size w W → ∀ i, i < mg → ∃ gb go, AG = some ⟨gb, go, none⟩ ∧ W.cell? ⟨gb, go + i, none⟩ = some (.bool (G.getD i false))) := fun W hb i hi => by
        obtain ⟨gb, go, e, hlt, hc⟩ := hG.at_ (by omega)
        exact ⟨gb, go, e, (hb.cell (p := ⟨gb, go + i, none⟩) hlt).trans (hc i (by omega))⟩
      have Hmg : Hid (mg = G.length) := hmg
      have u0 : (0 : Int) ≤ (N : Int) := by omega
      have hN1 : (N : Int) ≤ 60 := by omega
      have Hb : Hid (b = 5 + N) := hb
      clear hT hm hG hmg hsz hTz hneg hb hmade hok h40
      go_enter Tryd.func4, Tryd.ntmps4
      go_wp2_with (first
        | (go_at_call 6; have hx := HO.out w (Below.refl _ _); (with_reducible refine hx.mono ?_); clear hx; rintro e w1 ⟨g, F, rfl, s1⟩)
        | (at_make; refine wpList_make_full _ rfl _ _ 27 rfl w1.heap.size 4 i0 _ 1 Tryd.underlying27 hi0 hz0 hz1 .i64 .i64 _ _ N rfl rfl rfl rfl (by rw [hby]; omega) (by unfold maxLen; omega) (Nat.le_refl _) ?_; intro w2 ho2 hg2; have hB2 := own_blkB (made_bsP ho2)))
      obtain ⟨gh, hgh⟩ : ∃ g, g = w1.heap.size := ⟨_, rfl⟩
      have hAP : AP w w2 g F ⟨5, List.replicate N false⟩ gh (List.replicate N false) none [] := by
        rw [hgh]
        refine ⟨s1.more ((Below.refl _ _).grown hg2 (Nat.le_refl _) (by simp)), hB2, fun hf => Nat.lt_irrefl _ (s1.pp.flt _ hf), s1.below.size, fun h0 => absurd h0 (by simp), fun h0 => absurd h0 (by simp)⟩
      rw [← hgh]
      clear hgh hB2 ho2 hg2 s1 y1 y2 hN hN2 HO
      go_loopw [10, 11] (fun nv x wr => ∃ i : Nat, i ≤ m ∧ x = .int .i64 (i : Int) ∧ ∃ ct : Nat, nv = .int .i64 (ct : Int) ∧ ct ≤ 60 ∧ ∃ (p : Pl) (F : Nat → Prop), Hid (ct = p.tk.count true ∧ p.lo = 5 ∧ p.tk.length = N ∧ AP w wr g F p gh p.tk none [])) (fun _ x _ => m - (intOf x).toNat)
      case atStart => exact ⟨0, by omega, rfl, 0, rfl, by omega, _, F, by simp [List.count_replicate], rfl, by simp, hAP⟩
      case round =>
        clear hAP
        obtain ⟨i, hi, rfl, ct, rfl, hct, p, F, HI⟩ := hrel
        by_cases hlt : i < m
        · have d3 : decide ((i : Int) < (m : Int)) = true := decide_eq_true (by omega)
          have d4 : decide (i < m) = true := decide_eq_true hlt
          have y4 : IntKind.i64.wrap ((i : Int) + 1) = (i : Int) + 1 := IntWalk.i64_in _ (by omega)
          obtain ⟨tb, tf, rfl, htc, hzin⟩ := HTk.out wr HI.out.2.2.2.pa.below i hlt
          obtain ⟨z, hz⟩ : ∃ z, z = T.getD i 0 := ⟨_, rfl⟩
          rw [← hz] at htc hzin
          obtain ⟨l, hl⟩ : ∃ l, l = (p.take z).2.1 := ⟨_, rfl⟩
          obtain ⟨f, hf⟩ : ∃ f, f = (p.take z).2.2 := ⟨_, rfl⟩
          obtain ⟨p1, hp1⟩ : ∃ q, q = (p.take z).1 := ⟨_, rfl⟩
          obtain ⟨ll, hll⟩ : ∃ n, n = l.length := ⟨_, rfl⟩
          have hgd : Pl.Good p l true ∧ p1 = p.turned l true ∧ (f ≠ 0 → ll = 0) := by
            by_cases hf0 : (p.take z).2.2 = 0
            · have h9 := Pl.take_ok hf0
              rw [← hl, ← hp1] at h9
              exact ⟨h9.1, h9.2, fun h => absurd (by rw [hf]; exact hf0) h⟩
            · have h9 := Pl.take_no hf0
              rw [← hl, ← hp1] at h9
              rw [h9.1] at hll ⊢
              exact ⟨⟨fun i hi => by simp at hi, fun i hi => by simp at hi, fun i k _ hk => by simp at hk⟩, h9.2, fun _ => by rw [hll]; rfl⟩
          have hcnt := hgd.1.count_t l.length (Nat.le_refl _)
          have hle : (p.turnK l true l.length).count true ≤ N := by
            have h9 := List.count_le_length (l := p.turnK l true l.length) (a := true)
            rw [Pl.turnK_length, HI.out.2.2.1] at h9
            exact h9
          have hcn1 : ct + ll = p1.tk.count true := by rw [hgd.2.1]; show _ = (p.turnK l true l.length).count true; rw [hcnt, ← HI.out.1, hll]
          have hll60 : ct + ll ≤ N := by rw [hcn1, hgd.2.1]; exact hle
          have HGd := Lib.hid hgd
          have Hll : Hid (ll = l.length) := hll
          have HTa : Hid (Calls Tryd.prog 12 #[.pointer (some ⟨g, 0, none⟩), .int .i64 z] wr fun e w' => ∃ F' A c, e = .returned (.tuple #[.slice A ll c, .int .i64 f]) ∧ Hid (AP w w' g F' p1 gh p.tk A l)) := by
            refine (ptake_any HI.out.2.2.2.pa.pp z hzin).mono fun e w' hh => ?_
            obtain ⟨F', A, c, he, hp, ht, hr, hn, _⟩ := hh
            rw [← hl, ← hf, ← hll] at he
            rw [← hl] at hr
            rw [← hp1] at hp
            exact ⟨F', A, c, he, HI.out.2.2.2.pa.turned hp ht, HI.out.2.2.2.hb.turns ht HI.out.2.2.2.nf, not_foot11 ht HI.out.2.2.2.hb.lt HI.out.2.2.2.nf, HI.out.2.2.2.hw, hr, fun _ ad e => hn ad e⟩
          have Hlo : Hid (p.lo = 5 ∧ p1.lo = 5 ∧ p.tk.length = N ∧ p1.tk.length = N) := ⟨HI.out.2.1, by rw [hgd.2.1]; exact HI.out.2.1, HI.out.2.2.1, by rw [hgd.2.1]; exact (Pl.turned_length p l true).trans HI.out.2.2.1⟩
          have HC1 : Hid (ct + ll = p1.tk.count true) := hcn1
          have hidx : Hid (∀ k, k < ll → ∃ j : Nat, j < N ∧ l.getD k 0 = 5 + (j : Int) ∧ j = p.idx l k ∧ j = p1.idx l k) := fun k hk => by
            have h1 := hgd.1.idx_lt (i := k) (by omega)
            refine ⟨p.idx l k, by rw [← HI.out.2.2.1]; exact h1.1, by rw [h1.2, HI.out.2.1], rfl, ?_⟩
            unfold Pl.idx
            rw [Hlo.out.1, Hlo.out.2.1]
          clear hz hl hf hp1 hll hgd hcnt hle hcn1
          go_wp2_with (go_at_call 12; (with_reducible refine HTa.out.mono ?_); rintro e w3 ⟨F1, A, c, rfl, HA0⟩)
          obtain ⟨wo, rfl⟩ : ∃ wo : World, wo = wr := ⟨_, rfl⟩
          go_loopw [10, 14] (fun nv kv wr => ∃ k : Nat, k ≤ ll ∧ kv = .int .i64 (k : Int) ∧ ∃ nn : Nat, nv = .int .i64 (nn : Int) ∧ nn ≤ 60 ∧ Hid (nn = ct + k ∧ AP w wr g F1 p1 gh (p.turnK l true k) A l)) (fun _ kv _ => ll - (intOf kv).toNat)
          case atStart => exact ⟨0, by omega, rfl, ct, rfl, by omega, rfl, HA0.out⟩
          case round =>
            clear HA0 htc hzin HTa
            obtain ⟨k, hk, rfl, nn, rfl, hnn, HA⟩ := hrel
            by_cases hkt : k < ll
            · have e3 : decide ((k : Int) < (ll : Int)) = true := decide_eq_true (by omega)
              have e4 : decide (k < ll) = true := decide_eq_true hkt
              have y5 : IntKind.i64.wrap ((k : Int) + 1) = (k : Int) + 1 := IntWalk.i64_in _ (by omega)
              have y6 : IntKind.i64.wrap ((nn : Int) + 1) = (nn : Int) + 1 := IntWalk.i64_in _ (by omega)
              obtain ⟨pb, po, rfl, hne, hc⟩ := HA.out.2.apart (by have := Hll.out; omega)
              obtain ⟨j, hjN, hjx, hji, -⟩ := hidx.out k hkt
              have xk := hc k (by have := Hll.out; omega)
              obtain ⟨x, hx⟩ : ∃ x, x = l.getD k 0 := ⟨_, rfl⟩
              rw [← hx] at xk hjx
              have vj : wo = wo := rfl
              have cj := HA.out.2.cell (j := j) (by rw [Pl.turnK_length, Hlo.out.2.2.1]; exact hjN)
              have hfree : (p.turnK l true k).getD j false = false := by rw [hji]; exact HGd.out.1.ahead (by have := Hll.out; omega)
              rw [hfree] at cj
              have fj := HA.out.2.hb.frozen j
              have x0 : decide (x < 5) = false := decide_eq_false (by omega)
              have x1 : decide (x ≥ (b : Int)) = false := decide_eq_false (by have := Hb.out; omega)
              have x2 : decide ((b : Int) ≤ x) = false := decide_eq_false (by have := Hb.out; omega)
              have y7 : IntKind.i64.wrap (x - 5) = (j : Int) := by rw [show x - 5 = (j : Int) by omega]; exact IntWalk.i64_in _ (by omega)
              have j0 : (0 : Int) ≤ (j : Int) := by omega
              have j1 : (j : Int) < (N : Int) := by omega
              have HS := HA.out.2.store j true
              have HS2 : Hid (AP w (wr.setCell ⟨gh, j, none⟩ (.bool true)) g F1 p1 gh (p.turnK l true (k + 1)) (some ⟨pb, po, none⟩) l) := by rw [hji] at HS ⊢; exact HS
              have hn9 : Hid (nn = ct + k) := HA.out.1
              clear hc hx hjx hji hfree HS vj hne
              go_wp2
              go_roundw
              case rel => exact ⟨k + 1, by omega, by go_num, nn + 1, by go_num, by have := hn9.out; omega, ⟨by have := hn9.out; omega, HS2.out⟩⟩
              case measure => simp [intOf]; omega
            · have e3 : decide ((k : Int) < (ll : Int)) = false := decide_eq_false (by omega)
              have e4 : decide (k < ll) = false := decide_eq_false hkt
              obtain rfl : k = ll := by omega
              have hcn : nn = p1.tk.count true := by have := HA.out.1; have := HC1.out; omega
              have hlo5 : p1.lo = 5 := Hlo.out.2.1
              have hlen : p1.tk.length = N := Hlo.out.2.2.2
              have HX : Hid (AP w wr g F1 p1 gh p1.tk A l) := by
                show AP _ _ _ _ _ _ _ _ _
                have h9 := HA.out.2
                have e9 : p.turnK l true k = p1.tk := by rw [HGd.out.2.1, Hll.out]; rfl
                rwa [e9] at h9
              have hnk : Hid (nn = ct + k) := HA.out.1
              obtain ⟨fr, hfr⟩ : ∃ n, n = (Pl.list p1 false).length := ⟨_, rfl⟩
              have hft := Pl.free_taken p1
              rw [Pl.list_count p1 true, ← hcn, ← hfr, hlen] at hft
              have HFr : Hid (∀ W A, AP w W g F1 p1 gh p1.tk A l → Calls Tryd.prog 14 #[.pointer (some ⟨g, 0, none⟩)] W fun e w' => e = .returned (.int .i64 (fr : Int)) ∧ Below W.heap.size W w') := fun W A h => by rw [hfr]; exact pfree_any h.pa.pp
              have HTn : Hid (∀ W A, AP w W g F1 p1 gh p1.tk A l → Calls Tryd.prog 15 #[.pointer (some ⟨g, 0, none⟩)] W fun e w' => ∃ A c, e = .returned (.slice A nn c) ∧ Below W.heap.size W w') := fun W A h => (ptaken_any h.pa.pp).mono fun e w' hh => by
                obtain ⟨A, c, he, _, _, _, hb⟩ := hh
                rw [Pl.list_count, ← hcn] at he
                exact ⟨A, c, he, hb⟩
              have y9 : IntKind.i64.wrap ((fr : Int) + (nn : Int)) = (N : Int) := by rw [show (fr : Int) + (nn : Int) = (N : Int) by omega]; exact IntWalk.i64_in _ (by omega)
              have HEnd : Hid (nn = p1.tk.count true ∧ p1.lo = 5 ∧ p1.tk.length = N) := ⟨hcn, hlo5, hlen⟩
              clear hfr hft hcn hlo5 hlen
              clear HA
              by_cases hg : i < mg
              · have g0 : decide ((i : Int) < (mg : Int)) = true := decide_eq_true (by omega)
                have g1 : decide (i < mg) = true := decide_eq_true hg
                obtain ⟨gb, go, rfl, hgc⟩ := HGk.out wr HX.out.pa.below i hg
                obtain ⟨gv, hgv⟩ : ∃ v, v = G.getD i false := ⟨_, rfl⟩
                rw [← hgv] at hgc
                clear hgv
                rcases gv with _ | _
                · go_wp2_with (first | (go_at_call 14; (with_reducible refine (HFr.out _ _ HX.out).mono ?_); rintro e w8 ⟨rfl, b8⟩; have s8 := HX.out.more b8) | (go_at_call 15; (with_reducible refine (HTn.out _ _ s8).mono ?_); rintro e w9 ⟨A9, c9, rfl, b9⟩; have s9 := s8.more b9))
                  go_roundw
                  case rel => exact ⟨i + 1, by omega, by go_num, nn, rfl, by omega, p1, F1, HEnd.out.1, HEnd.out.2.1, HEnd.out.2.2, s9.drop⟩
                  case measure => simp [intOf]; omega
                · by_cases hf : f = 0
                  · subst hf
                    have hgd2 := HGd.out.1.turned
                    obtain ⟨p2, hp2⟩ : ∃ q, q = p1.turned l false := ⟨_, rfl⟩
                    rw [← HGd.out.2.1] at hgd2
                    have hct2 := hgd2.count_f l.length (Nat.le_refl _)
                    have HGd2 := Lib.hid hgd2
                    have HGi : Hid (∀ W, AP w W g F1 p1 gh p1.tk A l → Calls Tryd.prog 13 #[.pointer (some ⟨g, 0, none⟩), .slice A k c] W fun e w' => e = .returned (.int .i64 0) ∧ Hid (∃ F2, AP w w' g F2 p2 gh p1.tk A l)) := fun W h => by
                      refine (pgive_any h.pa.pp l A k c Hll.out (by omega) h.ri (fun h0 => h.na (by have := Hll.out; omega)) (fun z hz => ?_)).mono fun e w' hh => ?_
                      · obtain ⟨q, hq, e⟩ := List.mem_iff_getElem.1 hz
                        obtain ⟨j, hjN, hjx, -, -⟩ := hidx.out q (by have := Hll.out; omega)
                        rw [List.getD_eq_getElem?_getD, List.getElem?_eq_getElem hq, Option.getD_some, e] at hjx
                        unfold InZ; omega
                      · obtain ⟨F2, he, hp, ht⟩ := hh
                        rw [Pl.give_good HGd2.out, ← hp2] at he hp
                        exact ⟨he, F2, h.turned hp ht⟩
                    have Hp2 : Hid (p2 = p1.turned l false ∧ (p1.turnK l false l.length).count true + l.length = p1.tk.count true) := ⟨hp2, hct2⟩
                    clear hgd2 hp2 hct2
                    go_wp2_with (go_at_call 13; (with_reducible refine (HGi.out _ HX.out).mono ?_); rintro e w5 ⟨rfl, HA5⟩)
                    obtain ⟨F2, HA6⟩ := HA5.out
                    have HA7 := Lib.hid HA6
                    clear HA5 HA6 HX HFr HTn y9 HGi
                    obtain ⟨wo2, rfl⟩ : ∃ wo : World, wo = wr := ⟨_, rfl⟩
                    go_loopw [10, 15] (fun nv kv wr => ∃ k2 : Nat, k2 ≤ k ∧ kv = .int .i64 (k2 : Int) ∧ ∃ n2 : Nat, nv = .int .i64 (n2 : Int) ∧ n2 ≤ 60 ∧ Hid (n2 + k2 = nn ∧ AP w wr g F2 p2 gh (p1.turnK l false k2) A l)) (fun _ kv _ => k - (intOf kv).toNat)
                    case atStart => exact ⟨0, by omega, rfl, nn, rfl, by omega, rfl, HA7.out⟩
                    case round =>
                      clear HA7
                      obtain ⟨k2, hk2, rfl, n2, rfl, hn2, HA⟩ := hrel
                      by_cases hkt2 : k2 < k
                      · have e3' : decide ((k2 : Int) < (k : Int)) = true := decide_eq_true (by omega)
                        have e4' : decide (k2 < k) = true := decide_eq_true hkt2
                        have y5 : IntKind.i64.wrap ((k2 : Int) + 1) = (k2 : Int) + 1 := IntWalk.i64_in _ (by omega)
                        obtain ⟨n3, hn3⟩ : ∃ n3, n2 = n3 + 1 := ⟨n2 - 1, by have := HA.out.1; have := hnk.out; omega⟩
                        have y6 : IntKind.i64.wrap ((n2 : Int) - 1) = (n3 : Int) := by rw [show (n2 : Int) - 1 = (n3 : Int) by omega]; exact IntWalk.i64_in _ (by omega)
                        obtain ⟨pb, po, rfl, hne, hc⟩ := HA.out.2.apart (by have := Hll.out; omega)
                        obtain ⟨j, hjN, hjx, -, hji⟩ := hidx.out k2 (by omega)
                        have xk := hc k2 (by have := Hll.out; omega)
                        obtain ⟨x, hx⟩ : ∃ x, x = l.getD k2 0 := ⟨_, rfl⟩
                        rw [← hx] at xk hjx
                        have cj := HA.out.2.cell (j := j) (by rw [Pl.turnK_length, Hlo.out.2.2.2]; exact hjN)
                        have fj := HA.out.2.hb.frozen j
                        have y7 : IntKind.i64.wrap (x - 5) = (j : Int) := by rw [show x - 5 = (j : Int) by omega]; exact IntWalk.i64_in _ (by omega)
                        have j0 : (0 : Int) ≤ (j : Int) := by omega
                        have j1 : (j : Int) < (N : Int) := by omega
                        have HS := HA.out.2.store j false
                        have HS2 : Hid (AP w (wr.setCell ⟨gh, j, none⟩ (.bool false)) g F2 p2 gh (p1.turnK l false (k2 + 1)) (some ⟨pb, po, none⟩) l) := by rw [hji] at HS ⊢; exact HS
                        have hn9 : Hid (n2 + k2 = nn ∧ n2 = n3 + 1) := ⟨HA.out.1, hn3⟩
                        clear hc hx hjx hji HS hne hn3
                        go_wp2
                        go_roundw
                        case rel => exact ⟨k2 + 1, by omega, by go_num, n3, rfl, by have := hn9.out.2; omega, by have := hn9.out; omega, HS2.out⟩
                        case measure => simp [intOf]; omega
                      · have e3' : decide ((k2 : Int) < (k : Int)) = false := decide_eq_false (by omega)
                        have e4' : decide (k2 < k) = false := decide_eq_false hkt2
                        obtain rfl : k2 = k := by omega
                        have hcn : n2 = p2.tk.count true := by
                          have h1 := HA.out.1; have h2 := HEnd.out.1; have h3 := Hp2.out.2
                          rw [Hp2.out.1]
                          show n2 = (p1.turnK l false l.length).count true
                          have := Hll.out
                          omega
                        have hlo5 : p2.lo = 5 := by rw [Hp2.out.1]; exact HEnd.out.2.1
                        have hlen : p2.tk.length = N := by rw [Hp2.out.1]; exact (Pl.turned_length p1 l false).trans HEnd.out.2.2
                        have HX : Hid (AP w wr g F2 p2 gh p2.tk A l) := by
                          show AP _ _ _ _ _ _ _ _ _
                          have h9 := HA.out.2
                          have e9 : p1.turnK l false k2 = p2.tk := by rw [Hp2.out.1, Hll.out]; rfl
                          rwa [e9] at h9
                        clear HEnd HA
                        obtain ⟨fr, hfr⟩ : ∃ n, n = (Pl.list p2 false).length := ⟨_, rfl⟩
                        have hft := Pl.free_taken p2
                        rw [Pl.list_count p2 true, ← hcn, ← hfr, hlen] at hft
                        have HFr : Hid (∀ W A, AP w W g F2 p2 gh p2.tk A l → Calls Tryd.prog 14 #[.pointer (some ⟨g, 0, none⟩)] W fun e w' => e = .returned (.int .i64 (fr : Int)) ∧ Below W.heap.size W w') := fun W A h => by rw [hfr]; exact pfree_any h.pa.pp
                        have HTn : Hid (∀ W A, AP w W g F2 p2 gh p2.tk A l → Calls Tryd.prog 15 #[.pointer (some ⟨g, 0, none⟩)] W fun e w' => ∃ A c, e = .returned (.slice A n2 c) ∧ Below W.heap.size W w') := fun W A h => (ptaken_any h.pa.pp).mono fun e w' hh => by
                          obtain ⟨A, c, he, _, _, _, hb⟩ := hh
                          rw [Pl.list_count, ← hcn] at he
                          exact ⟨A, c, he, hb⟩
                        have y9 : IntKind.i64.wrap ((fr : Int) + (n2 : Int)) = (N : Int) := by rw [show (fr : Int) + (n2 : Int) = (N : Int) by omega]; exact IntWalk.i64_in _ (by omega)
                        have HEnd : Hid (n2 = p2.tk.count true ∧ p2.lo = 5 ∧ p2.tk.length = N) := ⟨hcn, hlo5, hlen⟩
                        clear hfr hft hcn hlo5 hlen
                        go_wp2_with (first | (go_at_call 14; (with_reducible refine (HFr.out _ _ HX.out).mono ?_); rintro e w8 ⟨rfl, b8⟩; have s8 := HX.out.more b8) | (go_at_call 15; (with_reducible refine (HTn.out _ _ s8).mono ?_); rintro e w9 ⟨A9, c9, rfl, b9⟩; have s9 := s8.more b9))
                        go_roundw
                        case rel => exact ⟨i + 1, by omega, by go_num, n2, rfl, by omega, p2, F2, HEnd.out.1, HEnd.out.2.1, HEnd.out.2.2, s9.drop⟩
                        case measure => simp [intOf]; omega
                  · have hq0 : (f == 0) = false := by simpa using hf
                    have hq1 : (f != 0) = true := by simpa using hf
                    go_wp2_with (first | (go_at_call 14; (with_reducible refine (HFr.out _ _ HX.out).mono ?_); rintro e w8 ⟨rfl, b8⟩; have s8 := HX.out.more b8) | (go_at_call 15; (with_reducible refine (HTn.out _ _ s8).mono ?_); rintro e w9 ⟨A9, c9, rfl, b9⟩; have s9 := s8.more b9))
                    go_roundw
                    case rel => exact ⟨i + 1, by omega, by go_num, nn, rfl, by omega, p1, F1, HEnd.out.1, HEnd.out.2.1, HEnd.out.2.2, s9.drop⟩
                    case measure => simp [intOf]; omega
              · have g0 : decide ((i : Int) < (mg : Int)) = false := decide_eq_false (by omega)
                have g1 : decide (i < mg) = false := decide_eq_false hg
                go_wp2_with (first | (go_at_call 14; (with_reducible refine (HFr.out _ _ HX.out).mono ?_); rintro e w8 ⟨rfl, b8⟩; have s8 := HX.out.more b8) | (go_at_call 15; (with_reducible refine (HTn.out _ _ s8).mono ?_); rintro e w9 ⟨A9, c9, rfl, b9⟩; have s9 := s8.more b9))
                go_roundw
                case rel => exact ⟨i + 1, by omega, by go_num, nn, rfl, by omega, p1, F1, HEnd.out.1, HEnd.out.2.1, HEnd.out.2.2, s9.drop⟩
                case measure => simp [intOf]; omega
        · have d3 : decide ((i : Int) < (m : Int)) = false := decide_eq_false (by omega)
          have d4 : decide (i < m) = false := decide_eq_false hlt
          have hb := HI.out.2.2.2.pa.below
          go_wp2_with (go_at_call 9; (with_reducible refine (HAw.out _ hb).mono ?_); rintro e w6 ⟨rfl, b6⟩)
          go_ret
          exact ⟨rfl, hb.trans (b6.mono hb.size)⟩
section
variable {H : Type} {enc : TypeId × Value → H} {P : Program}
/-- An argument []bool. -/
theorem open_boolsl {W : World} {base : Nat} {t e : TypeId} {v : Value} {d : DataW H} {ps : List MemPlace} (ht : P.underlying t = some (.slice e)) (he : P.underlying e = some .bool) (hc : P.cellsOf e = 1)
    (hv : Value.okWide P W .any base t v) (h : DataW.Trod enc P W 0 (fun _ => true) true t v d ps) :
    ∃ (A : Option Addr) (Z : List Bool) (c : Nat), v = .slice A Z.length c ∧ BS W W.heap.size A Z := by
  obtain ⟨a0, len, cap, rfl⟩ := okWide_slice ht hv
  obtain ⟨fuel, hf⟩ := h
  rcases Deep.open_bools ht he hc hf with ⟨hcs, hx⟩ | ⟨a, len', cap', B, hcs, _, hl, hm, hx, hcell⟩
  · simp [Value.cells] at hcs
    obtain ⟨rfl, rfl, rfl⟩ := hcs
    exact ⟨none, [], 0, rfl, rfl, fun h => absurd h (by simp)⟩
  · simp [Value.cells] at hcs
    obtain ⟨rfl, rfl, rfl⟩ := hcs
    have hlen : ((List.range len).map B).length = len := by simp
    refine ⟨some a, (List.range len).map B, cap, by rw [hlen], by rw [bcells_length, hlen, Nat.mul_one], fun hn => ?_⟩
    rw [hlen] at hn
    refine ⟨a, rfl, ?_, fun j u hu => ?_⟩
    · have h0 := hcell 0 (by omega)
      have := World.block_lt_of_cell? W _ h0
      rwa [block_of_add] at this
    · have hj : j < len := by
        have := (List.getElem?_eq_some_iff.1 hu).1
        rwa [bcells_length, hlen] at this
      rw [bcells_get _ j (by rw [hlen]; exact hj)] at hu
      injection hu with hu
      subst hu
      rw [hcell j (by omega)]
      simp [List.getD, hj]
end
theorem Tryd.cellsBoolP : Tryd.prog.cellsOf 4 = 1 := by kernel_rfl
theorem Tryd.cellsIntP : Tryd.prog.cellsOf 3 = 1 := by kernel_rfl
set_option maxRecDepth 100000 in
theorem poolapart_lifted (os : Os) (started : os.Started) (H : Type) (enc : TypeId × Value → H) :
    ReturnsInHanded {} Tryd.checked os 4 .any (fun w args => (Rows.poolApartSpec.pre enc Tryd.prog Tryd.f4 [] false w args ∧ laidMetH Tryd.prog laidZ w) ∧ sizedMet enc Tryd.prog Tryd.f4 (OpenSpec.ofChange Rows.poolApartSpec) false w args) (Rows.poolApartSpec.post enc Tryd.prog Tryd.f4 false true false false) := by
  refine returnsInHanded_of_change_and (C := Tryd.checked) (X := fun w _ => laidMetH Tryd.prog laidZ w) (fun _ _ _ hh h => h.of_heap hh) Tryd.own started (by kernel_rfl) Tryd.func4
    (ChangeSpec.witness_shaped (enc := enc) (C := Tryd.checked) (os := os) (X := fun w _ => laidMetH Tryd.prog laidZ w) false (World.doorLaid Tryd.prog 400 os) #[.int .i64 0, .slice none 0 0, .slice none 0 0] 8 rfl (World.shaped_of_RefB (by kernel_rfl) (by kernel_rfl)) (by kernel_rfl) (by kernel_rfl) (by kernel_rfl) (doorZ_met os _)) ?_
  intro W base args ds gs before hval0 hW hcnd hsz0 hLd _
  have hval : ∀ (j : Nat) t v, Tryd.f4.params[j]? = some t → args[j]? = some v → Value.okWide Tryd.prog W .any base t v := hval0
  have hW' : DataW.Whole enc Tryd.prog Tryd.f4.params.toList Rows.poolApartSpec.vars false W args.toList ds gs before := hW
  have hWk := hW'
  clear hsz0 hval0
  obtain ⟨p, q, hA, hV, rfl, hfz, hnd⟩ := hW'
  rw [Tryd.params4] at hA hval
  obtain ⟨v0, v1, v2, d0, d1, d2, p0, p1, p2, rfl, rfl, rfl, h0, h1, h2⟩ := trodAll_three hA
  obtain ⟨rfl, rfl⟩ := trodVars_none hV
  obtain ⟨sz, rfl, rfl, rfl, wz⟩ := open_int Tryd.underlying3 (hval 0 3 v0 rfl rfl) h0
  obtain ⟨A, Z, c, rfl, hr, hlc, hcm, hwf⟩ := open_intl Tryd.underlying36 Tryd.underlying3 Tryd.cellsIntP (hval 1 36 v1 rfl rfl) h1
  obtain ⟨AG, G, cG, rfl, hG⟩ := open_boolsl Tryd.underlying27 Tryd.underlying4 Tryd.cellsBoolP (hval 2 27 v2 rfl rfl) h2
  refine (poolapart_any sz Z G A AG _ _ c cG W hr rfl hG rfl (inz_wf wz) (fun z hz => inz_wf (hwf z hz)) (tz_of_laid hLd)).mono fun e W' ⟨he, hb⟩ => ⟨_, he, ?_⟩
  exact law_post Tryd.laidOut hWk rfl rfl rfl rfl rfl Tryd.underlying4 (by kernel_rfl) hb
theorem poolapart_said : Rows.PoolApartSaid :=
  OpenClaim.holds_of_wide 4 Tryd.f4 rfl rfl rfl rfl rfl rfl rfl ⟨rfl, rfl, rfl, rfl, rfl⟩ rfl rfl rfl rfl rfl (by kernel_rfl) Tryd.func4 (by kernel_rfl)
    (of_decide_eq_true (by kernel_rfl)) (by unfold Func.isWrapper; first | (rw [if_pos (by decide +kernel)]; kernel_rfl) | (rw [if_neg (by decide +kernel)]; exact ⟨rfl, rfl⟩))
    (fun os started H enc _ => poolapart_lifted os started H enc)
theorem poolapart_holds : Rows.PoolApartCardSaid :=
  Claim7.holds_tied_plain_at .later [] [.data] true Rows.poolApartCard.stood.harness false
    poolapart_said (fun _ h => by cases h) (by kernel_rfl) (fun _ h => by cases h) poolApart_row_tie rfl ⟨rfl, rfl⟩ (by kernel_rfl) rfl
    (fun f fn hf hfn => by
      obtain rfl : f = 4 := Option.some.inj ((show Tryd.prog.funcNamed "chantry/chantrylaw11.PoolApart" = some 4 by kernel_rfl).symm.trans hf) |>.symm
      obtain rfl : fn = Tryd.f4 := (Option.some.inj (Tryd.func4.symm.trans hfn)).symm
      exact ⟨by kernel_rfl, fun j t ht => by
        rw [Tryd.params4] at ht
        have hm : t ∈ [3, 36, 27] := by simpa using Array.mem_of_getElem? ht
        have hall : ([3, 36, 27].all fun u => !Tryd.prog.wantsStandIn u) = true := by kernel_rfl
        exact (show Tryd.prog.wantsStandIn t = false by simpa using List.all_eq_true.1 hall t hm)⟩)
    (by kernel_rfl)
end Go.Proofs.YtibaaideleinhaaDoor
