/- The walks of the reference's Give, Mark (layer 11). -/
import Derived.Test.YtibaaideleinhaaDoorPoolRTake
set_option linter.unusedVariables false
namespace Go.Proofs.YtibaaideleinhaaDoor
open Go.RowKit

theorem odd_zero_give {p : Pl} {l : List Int} (h : p.odd l true 6 = 0) : ∀ i, i < l.length → p.th (l.getD i 0) = true := fun i hi => by
  cases ht : p.th (l.getD i 0) with
  | true => rfl
  | false => rw [odd_block hi ht] at h; exact absurd h (by decide)
set_option maxRecDepth 100000 in
set_option maxHeartbeats 4000000 in
theorem rpgive_any (p : Pl) (l : List Int) (A L : Option Addr) (c m d : Nat) (w : World) (h : PlAt w p A c) (hl : RI w w.heap.size L l) (hm : m = l.length) (hz : ∀ z ∈ l, InZ z) (hs : m ≤ 100000) :
    Calls Tryd.prog 22 #[plV p A c, .slice L m d] w fun e w' => ∃ v, e = .returned (.tuple #[v, .int .i64 (p.give l).2]) ∧ GivesP (p.give l).1 A w w' v ∧ Below w.heap.size w w' := by
  have a0 := fun w' => Tryd.poolAgg w'
  have s0 := fun w' => Tryd.poolSize w'
  obtain ⟨n, hn⟩ : ∃ n, n = p.tk.length := ⟨_, rfl⟩
  obtain ⟨lo, hlo⟩ : ∃ n, n = p.lo := ⟨_, rfl⟩
  obtain ⟨r, hr⟩ : ∃ r, r = p.odd l true 6 := ⟨_, rfl⟩
  have HO : Hid (∀ w', Below w.heap.size w w' → GivesP p A w w' (.agg #[.int .i64 lo, .slice A n c])) := fun w' hb => by rw [hlo, hn]; exact GivesP.old h hb
  have hb0 : Below w.heap.size w ((w.alloc (.cells #[.int .i64 lo, .slice A n c] 29)).alloc (.cells #[.int .i64 0, .slice none 0 0] 29)) := ((Below.refl w.heap.size w).alloc (Nat.le_refl _) _).alloc (by simp) _
  have HOd : Hid (∀ W, Below w.heap.size w W → Calls Tryd.prog 37 #[.agg #[.int .i64 lo, .slice A n c], .slice L m d, .bool true, .int .i64 6] W fun e w' => e = .returned (.int .i64 r) ∧ Below W.heap.size W w') := fun W hb => by rw [hlo, hn, hr]; exact rpodd_any p l true 6 A L c m d W (h.up hb) (ri_up hl hb) hm hz hs
  have HK : Hid (Blk ((w.alloc (.cells #[.int .i64 lo, .slice A n c] 29)).alloc (.cells #[.int .i64 0, .slice none 0 0] 29)) w.heap.size 29 #[.int .i64 lo, .slice A n c] ∧ Blk ((w.alloc (.cells #[.int .i64 lo, .slice A n c] 29)).alloc (.cells #[.int .i64 0, .slice none 0 0] 29)) (w.heap.size + 1) 29 #[.int .i64 0, .slice none 0 0]) := two_new w lo A n c
  by_cases hr0 : r = 0
  · have hv : p.give l = (p.turned l false, 0) := by unfold Pl.give; rw [if_pos (by rw [← hr]; exact hr0)]
    rw [hv]
    have hth := odd_zero_give (p := p) (l := l) (by rw [← hr]; exact hr0)
    have HTu : Hid (∀ W, Below w.heap.size w W → Calls Tryd.prog 36 #[.agg #[.int .i64 lo, .slice A n c], .slice L m d, .bool false] W fun e w' => ∃ A' c', e = .returned (.agg #[.int .i64 lo, .slice A' n c']) ∧ plV (p.turned l false) A' c' = .agg #[.int .i64 lo, .slice A' n c'] ∧ PlAt w' (p.turned l false) A' c' ∧ (∀ ad, A' = some ad → A = some ad ∨ W.heap.size ≤ ad.block) ∧ Below W.heap.size W w') := fun W hb => by
      rw [hlo, hn]
      refine (rpturned p l false A L c m d W (h.up hb) (ri_up hl hb) hm hth hs).mono fun e w' hh => ?_
      obtain ⟨v, he, ⟨A', c', ev, hp, ho⟩, hb'⟩ := hh
      have e3 : plV (p.turned l false) A' c' = .agg #[.int .i64 p.lo, .slice A' p.tk.length c'] := by unfold plV; rw [Pl.turned_length]; rfl
      exact ⟨A', c', by rw [he, ev, e3], e3, hp, ho, hb'⟩
    have HP0 : Hid (0 < (p.turned l false).tk.length → ∀ ad, A = some ad → ad.block < w.heap.size) := fun h0 ad e => by
      rw [Pl.turned_length] at h0
      obtain ⟨b, off, e2, hb, _⟩ := h.bs.at_ h0
      rw [e] at e2
      injection e2 with e2
      subst e2
      exact hb
    subst hr0
    unfold plV
    rw [← hn, ← hlo]
    clear h hl hm hz hn hlo hr hv hth
    go_enter Tryd.func22, Tryd.ntmps22
    go_wp2_with (first
      | (go_at_call 37; (with_reducible refine (HOd.out _ hb0).mono ?_); rintro e w2 ⟨rfl, b2⟩; have hb2 := hb0.trans (b2.mono hb0.size); have K0 := HK.out.1.below b2 HK.out.1.lt; have K1 := HK.out.2.below b2 HK.out.2.lt; have c00 : w2.cell? ⟨w.heap.size, 0, none⟩ = some (.int .i64 lo) := K0.cell 0; have c01 : w2.cell? ⟨w.heap.size, 1, none⟩ = some (.slice A n c) := K0.cell 1)
      | (go_at_call 36; (with_reducible refine (HTu.out _ hb2).mono ?_); rintro e w3 ⟨A', c', rfl, hpv, hG, hgo, b3⟩; have hb3 := hb2.trans (b3.mono hb2.size); have K13 := K1.below b3 K1.lt; have c10 : w3.cell? ⟨w.heap.size + 1, 0, none⟩ = some (.int .i64 0) := K13.cell 0; have c11 : w3.cell? ⟨w.heap.size + 1, 1, none⟩ = some (.slice none 0 0) := K13.cell 1; have f10 := K13.frozen 0; have f11 := K13.frozen 1))
    obtain ⟨r0, r1⟩ := res_two (u0 := lo) (A := A') (n := n) (c := c') K13
    have hl2 := K1.lt
    have hG2 : PlAt ((w3.setCell ⟨w.heap.size + 1, 0, none⟩ (.int .i64 lo)).setCell ⟨w.heap.size + 1, 1, none⟩ (.slice A' n c')) (p.turned l false) A' c' := plat_set2 hG (fun h0 ad e => by
      rcases hgo ad e with h1 | h1
      · have := HP0.out h0 ad h1; omega
      · omega)
    have hb5 : Below w.heap.size w ((w3.setCell ⟨w.heap.size + 1, 0, none⟩ (.int .i64 lo)).setCell ⟨w.heap.size + 1, 1, none⟩ (.slice A' n c')) := (hb3.setCell (p := ⟨w.heap.size + 1, 0, none⟩) (Nat.le_succ _) _).setCell (p := ⟨w.heap.size + 1, 1, none⟩) (Nat.le_succ _) _
    refine bodyPost_ret (v := .tuple #[.agg #[.int .i64 lo, .slice A' n c'], .int .i64 0]) (by simp [results, Tryd.results22, go_sem, r0, r1]) rfl ⟨_, rfl, ⟨A', c', hpv.symm, hG2, fun ad e => (hgo ad e).imp id (fun h => Nat.le_trans hb2.size h)⟩, hb5⟩
  · have hv : p.give l = (p, r) := by unfold Pl.give; rw [if_neg (by rw [← hr]; exact hr0), hr]
    rw [hv]
    have q0 : (r != 0) = true := by simpa using hr0
    unfold plV
    rw [← hn, ← hlo]
    clear h hl hm hz hn hlo hr hv hr0
    go_enter Tryd.func22, Tryd.ntmps22
    go_wp2_with (first
      | (go_at_call 37; (with_reducible refine (HOd.out _ hb0).mono ?_); rintro e w2 ⟨rfl, b2⟩; have hb2 := hb0.trans (b2.mono hb0.size); have K0 := HK.out.1.below b2 HK.out.1.lt; have K1 := HK.out.2.below b2 HK.out.2.lt; have c00 : w2.cell? ⟨w.heap.size, 0, none⟩ = some (.int .i64 lo) := K0.cell 0; have c01 : w2.cell? ⟨w.heap.size, 1, none⟩ = some (.slice A n c) := K0.cell 1; have c10 : w2.cell? ⟨w.heap.size + 1, 0, none⟩ = some (.int .i64 0) := K1.cell 0; have c11 : w2.cell? ⟨w.heap.size + 1, 1, none⟩ = some (.slice none 0 0) := K1.cell 1; have f10 := K1.frozen 0; have f11 := K1.frozen 1))
    obtain ⟨r0, r1⟩ := res_two (u0 := lo) (A := A) (n := n) (c := c) K1
    have hb3 : Below w.heap.size w ((w2.setCell ⟨w.heap.size + 1, 0, none⟩ (.int .i64 lo)).setCell ⟨w.heap.size + 1, 1, none⟩ (.slice A n c)) := (hb2.setCell (p := ⟨w.heap.size + 1, 0, none⟩) (Nat.le_succ _) _).setCell (p := ⟨w.heap.size + 1, 1, none⟩) (Nat.le_succ _) _
    refine bodyPost_ret (v := .tuple #[.agg #[.int .i64 lo, .slice A n c], .int .i64 r]) (by simp [results, Tryd.results22, go_sem, r0, r1]) rfl ⟨_, rfl, HO.out _ hb3, hb3⟩
theorem odd_zero_mark {p : Pl} {l : List Int} (h : p.odd l false 7 = 0) : ∀ i, i < l.length → p.th (l.getD i 0) = true := fun i hi => by
  cases ht : p.th (l.getD i 0) with
  | true => rfl
  | false => rw [odd_block hi ht] at h; exact absurd h (by decide)
set_option maxRecDepth 100000 in
set_option maxHeartbeats 4000000 in
theorem rpmark_any (p : Pl) (l : List Int) (A L : Option Addr) (c m d : Nat) (w : World) (h : PlAt w p A c) (hl : RI w w.heap.size L l) (hm : m = l.length) (hz : ∀ z ∈ l, InZ z) (hs : m ≤ 100000) :
    Calls Tryd.prog 23 #[plV p A c, .slice L m d] w fun e w' => ∃ v, e = .returned (.tuple #[v, .int .i64 (p.mark l).2]) ∧ GivesP (p.mark l).1 A w w' v ∧ Below w.heap.size w w' := by
  have a0 := fun w' => Tryd.poolAgg w'
  have s0 := fun w' => Tryd.poolSize w'
  obtain ⟨n, hn⟩ : ∃ n, n = p.tk.length := ⟨_, rfl⟩
  obtain ⟨lo, hlo⟩ : ∃ n, n = p.lo := ⟨_, rfl⟩
  obtain ⟨r, hr⟩ : ∃ r, r = p.odd l false 7 := ⟨_, rfl⟩
  have HO : Hid (∀ w', Below w.heap.size w w' → GivesP p A w w' (.agg #[.int .i64 lo, .slice A n c])) := fun w' hb => by rw [hlo, hn]; exact GivesP.old h hb
  have hb0 : Below w.heap.size w ((w.alloc (.cells #[.int .i64 lo, .slice A n c] 29)).alloc (.cells #[.int .i64 0, .slice none 0 0] 29)) := ((Below.refl w.heap.size w).alloc (Nat.le_refl _) _).alloc (by simp) _
  have HOd : Hid (∀ W, Below w.heap.size w W → Calls Tryd.prog 37 #[.agg #[.int .i64 lo, .slice A n c], .slice L m d, .bool false, .int .i64 7] W fun e w' => e = .returned (.int .i64 r) ∧ Below W.heap.size W w') := fun W hb => by rw [hlo, hn, hr]; exact rpodd_any p l false 7 A L c m d W (h.up hb) (ri_up hl hb) hm hz hs
  have HK : Hid (Blk ((w.alloc (.cells #[.int .i64 lo, .slice A n c] 29)).alloc (.cells #[.int .i64 0, .slice none 0 0] 29)) w.heap.size 29 #[.int .i64 lo, .slice A n c] ∧ Blk ((w.alloc (.cells #[.int .i64 lo, .slice A n c] 29)).alloc (.cells #[.int .i64 0, .slice none 0 0] 29)) (w.heap.size + 1) 29 #[.int .i64 0, .slice none 0 0]) := two_new w lo A n c
  by_cases hr0 : r = 0
  · have hv : p.mark l = (p.turned l true, 0) := by unfold Pl.mark; rw [if_pos (by rw [← hr]; exact hr0)]
    rw [hv]
    have hth := odd_zero_mark (p := p) (l := l) (by rw [← hr]; exact hr0)
    have HTu : Hid (∀ W, Below w.heap.size w W → Calls Tryd.prog 36 #[.agg #[.int .i64 lo, .slice A n c], .slice L m d, .bool true] W fun e w' => ∃ A' c', e = .returned (.agg #[.int .i64 lo, .slice A' n c']) ∧ plV (p.turned l true) A' c' = .agg #[.int .i64 lo, .slice A' n c'] ∧ PlAt w' (p.turned l true) A' c' ∧ (∀ ad, A' = some ad → A = some ad ∨ W.heap.size ≤ ad.block) ∧ Below W.heap.size W w') := fun W hb => by
      rw [hlo, hn]
      refine (rpturned p l true A L c m d W (h.up hb) (ri_up hl hb) hm hth hs).mono fun e w' hh => ?_
      obtain ⟨v, he, ⟨A', c', ev, hp, ho⟩, hb'⟩ := hh
      have e3 : plV (p.turned l true) A' c' = .agg #[.int .i64 p.lo, .slice A' p.tk.length c'] := by unfold plV; rw [Pl.turned_length]; rfl
      exact ⟨A', c', by rw [he, ev, e3], e3, hp, ho, hb'⟩
    have HP0 : Hid (0 < (p.turned l true).tk.length → ∀ ad, A = some ad → ad.block < w.heap.size) := fun h0 ad e => by
      rw [Pl.turned_length] at h0
      obtain ⟨b, off, e2, hb, _⟩ := h.bs.at_ h0
      rw [e] at e2
      injection e2 with e2
      subst e2
      exact hb
    subst hr0
    unfold plV
    rw [← hn, ← hlo]
    clear h hl hm hz hn hlo hr hv hth
    go_enter Tryd.func23, Tryd.ntmps23
    go_wp2_with (first
      | (go_at_call 37; (with_reducible refine (HOd.out _ hb0).mono ?_); rintro e w2 ⟨rfl, b2⟩; have hb2 := hb0.trans (b2.mono hb0.size); have K0 := HK.out.1.below b2 HK.out.1.lt; have K1 := HK.out.2.below b2 HK.out.2.lt; have c00 : w2.cell? ⟨w.heap.size, 0, none⟩ = some (.int .i64 lo) := K0.cell 0; have c01 : w2.cell? ⟨w.heap.size, 1, none⟩ = some (.slice A n c) := K0.cell 1)
      | (go_at_call 36; (with_reducible refine (HTu.out _ hb2).mono ?_); rintro e w3 ⟨A', c', rfl, hpv, hG, hgo, b3⟩; have hb3 := hb2.trans (b3.mono hb2.size); have K13 := K1.below b3 K1.lt; have c10 : w3.cell? ⟨w.heap.size + 1, 0, none⟩ = some (.int .i64 0) := K13.cell 0; have c11 : w3.cell? ⟨w.heap.size + 1, 1, none⟩ = some (.slice none 0 0) := K13.cell 1; have f10 := K13.frozen 0; have f11 := K13.frozen 1))
    obtain ⟨r0, r1⟩ := res_two (u0 := lo) (A := A') (n := n) (c := c') K13
    have hl2 := K1.lt
    have hG2 : PlAt ((w3.setCell ⟨w.heap.size + 1, 0, none⟩ (.int .i64 lo)).setCell ⟨w.heap.size + 1, 1, none⟩ (.slice A' n c')) (p.turned l true) A' c' := plat_set2 hG (fun h0 ad e => by
      rcases hgo ad e with h1 | h1
      · have := HP0.out h0 ad h1; omega
      · omega)
    have hb5 : Below w.heap.size w ((w3.setCell ⟨w.heap.size + 1, 0, none⟩ (.int .i64 lo)).setCell ⟨w.heap.size + 1, 1, none⟩ (.slice A' n c')) := (hb3.setCell (p := ⟨w.heap.size + 1, 0, none⟩) (Nat.le_succ _) _).setCell (p := ⟨w.heap.size + 1, 1, none⟩) (Nat.le_succ _) _
    refine bodyPost_ret (v := .tuple #[.agg #[.int .i64 lo, .slice A' n c'], .int .i64 0]) (by simp [results, Tryd.results23, go_sem, r0, r1]) rfl ⟨_, rfl, ⟨A', c', hpv.symm, hG2, fun ad e => (hgo ad e).imp id (fun h => Nat.le_trans hb2.size h)⟩, hb5⟩
  · have hv : p.mark l = (p, r) := by unfold Pl.mark; rw [if_neg (by rw [← hr]; exact hr0), hr]
    rw [hv]
    have q0 : (r != 0) = true := by simpa using hr0
    unfold plV
    rw [← hn, ← hlo]
    clear h hl hm hz hn hlo hr hv hr0
    go_enter Tryd.func23, Tryd.ntmps23
    go_wp2_with (first
      | (go_at_call 37; (with_reducible refine (HOd.out _ hb0).mono ?_); rintro e w2 ⟨rfl, b2⟩; have hb2 := hb0.trans (b2.mono hb0.size); have K0 := HK.out.1.below b2 HK.out.1.lt; have K1 := HK.out.2.below b2 HK.out.2.lt; have c00 : w2.cell? ⟨w.heap.size, 0, none⟩ = some (.int .i64 lo) := K0.cell 0; have c01 : w2.cell? ⟨w.heap.size, 1, none⟩ = some (.slice A n c) := K0.cell 1; have c10 : w2.cell? ⟨w.heap.size + 1, 0, none⟩ = some (.int .i64 0) := K1.cell 0; have c11 : w2.cell? ⟨w.heap.size + 1, 1, none⟩ = some (.slice none 0 0) := K1.cell 1; have f10 := K1.frozen 0; have f11 := K1.frozen 1))
    obtain ⟨r0, r1⟩ := res_two (u0 := lo) (A := A) (n := n) (c := c) K1
    have hb3 : Below w.heap.size w ((w2.setCell ⟨w.heap.size + 1, 0, none⟩ (.int .i64 lo)).setCell ⟨w.heap.size + 1, 1, none⟩ (.slice A n c)) := (hb2.setCell (p := ⟨w.heap.size + 1, 0, none⟩) (Nat.le_succ _) _).setCell (p := ⟨w.heap.size + 1, 1, none⟩) (Nat.le_succ _) _
    refine bodyPost_ret (v := .tuple #[.agg #[.int .i64 lo, .slice A n c], .int .i64 r]) (by simp [results, Tryd.results23, go_sem, r0, r1]) rfl ⟨_, rfl, HO.out _ hb3, hb3⟩
end Go.Proofs.YtibaaideleinhaaDoor
