/- Lemmas under the proofs of this place: SupPGet, DiskRLoad, SupVars. No statement is proved here. -/
import Derived.Test.YtkockhggnbfahaaBu24
import Derived.Test.YtkockhggnbfahaaBu19
import Derived.Test.YtkockhggnbfahaaBu27
import Derived.Test.YtkockhggnbfahaaBu25
import Derived.Test.YtkockhggnbfahaaBu18
section
set_option linter.unusedVariables false
set_option linter.unusedSimpArgs false
namespace Go.Proofs.Ytkockhggnbfahaa
open Go.RowKit
theorem no8_sup (s : Pu) : No8 (supC s) := by
  intro j z
  unfold supC
  match j with
  | 0 => simp
  | 1 => simp
  | 2 => simp
  | 3 => simp
  | 4 => simp
  | 5 => simp
  | j + 6 => simp
theorem Try.supBuild2 (g b : Int) (w : World) : Sem.run Try.prog (Instr.build 25 #[(0, .int .i64 g), (1, .int .i64 b)]) w = .ok (.agg #[.int .i64 g, .int .i64 b, .int .i64 0, .int .i64 0, .int .i64 0, .int .i64 0]) w := by kernel_rfl
structure MidG (w W : World) (gt gc gs : Nat) (cs : Array Value) (st : St) (s : Pu) : Prop where
  res : Blk W w.heap.size 25 (supC .zero)
  sec : Blk W gt 70 cs
  cur : Cur W gc st
  sup : Blk W gs 25 (supC s)
  below : Below w.heap.size w W
  ne : w.heap.size ≠ gc ∧ gt ≠ gc ∧ gs ≠ gc ∧ w.heap.size ≠ gs ∧ gt ≠ gs ∧ w.heap.size ≤ gs ∧ w.heap.size ≤ gc ∧ w.heap.size < W.heap.size
section
variable {w W W' : World} {gt gc gs : Nat} {cs : Array Value} {st st' : St} {s s' : Pu}
theorem MidG.next (h : MidG w W gt gc gs cs st s) (hc : Cur W' gc st') (ho : Only W W' gc) : MidG w W' gt gc gs cs st' s :=
  ⟨h.res.only ho h.ne.1, h.sec.only ho h.ne.2.1, hc, h.sup.only ho h.ne.2.2.1, below_only h.below ho h.ne.2.2.2.2.2.2.1 h.below.size, ⟨h.ne.1, h.ne.2.1, h.ne.2.2.1, h.ne.2.2.2.1, h.ne.2.2.2.2.1, h.ne.2.2.2.2.2.1, h.ne.2.2.2.2.2.2.1, Nat.lt_of_lt_of_le h.ne.2.2.2.2.2.2.2 ho.size⟩⟩
theorem MidG.put (h : MidG w W gt gc gs cs st s) (i : Nat) (v : Value) (hs : (supC s).setIfInBounds i v = supC s') : MidG w (W.setCell ⟨gs, i, none⟩ v) gt gc gs cs st s' :=
  ⟨h.res.far h.ne.2.2.2.1 _, h.sec.far h.ne.2.2.2.2.1 _, cur_set8 h.cur h.sup (no8_sup s) (Ne.symm h.ne.2.2.1) _, by rw [← hs]; exact h.sup.set_ i v, h.below.setCell h.ne.2.2.2.2.2.1 _, ⟨h.ne.1, h.ne.2.1, h.ne.2.2.1, h.ne.2.2.2.1, h.ne.2.2.2.2.1, h.ne.2.2.2.2.2.1, h.ne.2.2.2.2.2.2.1, by simpa [World.setCell] using h.ne.2.2.2.2.2.2.2⟩⟩
theorem MidG.f (h : MidG w W gt gc gs cs st s) : (∀ i, W.frozen? ⟨gs, i, none⟩ = false) ∧ W.cell? ⟨gs, 0, none⟩ = some (.int .i64 s.gen) ∧ W.cell? ⟨gs, 1, none⟩ = some (.int .i64 s.blocks) ∧ W.cell? ⟨gs, 2, none⟩ = some (.int .i64 s.log) ∧ W.cell? ⟨gs, 3, none⟩ = some (.int .i64 s.first) ∧ W.cell? ⟨gs, 4, none⟩ = some (.int .i64 s.size) ∧ W.cell? ⟨gs, 5, none⟩ = some (.int .i64 s.owner) :=
  ⟨fun i => h.sup.frozen i, by rw [h.sup.cell]; rfl, by rw [h.sup.cell]; rfl, by rw [h.sup.cell]; rfl, by rw [h.sup.cell]; rfl, by rw [h.sup.cell]; rfl, by rw [h.sup.cell]; rfl⟩
theorem MidG.up (h : MidG w W gt gc gs cs st s) (hb : Below W.heap.size W W') : MidG w W' gt gc gs cs st s :=
  ⟨h.res.below hb h.res.lt, h.sec.below hb h.sec.lt, cur_below h.cur hb, h.sup.below hb h.sup.lt, chain7 h.below hb, ⟨h.ne.1, h.ne.2.1, h.ne.2.2.1, h.ne.2.2.2.1, h.ne.2.2.2.2.1, h.ne.2.2.2.2.2.1, h.ne.2.2.2.2.2.2.1, Nat.lt_of_lt_of_le h.ne.2.2.2.2.2.2.2 hb.size⟩⟩
theorem MidG.r (h : MidG w W gt gc gs cs st s) : ResU W w.heap.size :=
  ⟨⟨by rw [h.res.cell]; rfl, by rw [h.res.cell]; rfl, by rw [h.res.cell]; rfl, by rw [h.res.cell]; rfl, by rw [h.res.cell]; rfl, by rw [h.res.cell]; rfl⟩, h.res.frozen 0, h.res.frozen 1, h.res.frozen 2, h.res.frozen 3, h.res.frozen 4, h.res.frozen 5⟩
end
theorem midg_start {w w1 w2 : World} {g m c1 : Nat} {A1 : Option Addr} {k ep n l : Int} {D : List UInt8} (hb1 : Below (w.alloc (.cells #[.int .i64 0, .int .i64 0, .int .i64 0, .int .i64 0, .int .i64 0, .int .i64 0] 25)).heap.size (w.alloc (.cells #[.int .i64 0, .int .i64 0, .int .i64 0, .int .i64 0, .int .i64 0, .int .i64 0] 25)) w1) (hg : (w1.alloc (.cells #[.int .i64 k, .int .i64 ep, .int .i64 n, .int .i64 l, .slice A1 m c1] 70)).heap.size ≤ g) (hc : Cur w2 g (some D)) (hb2 : Below (w1.alloc (.cells #[.int .i64 k, .int .i64 ep, .int .i64 n, .int .i64 l, .slice A1 m c1] 70)).heap.size (w1.alloc (.cells #[.int .i64 k, .int .i64 ep, .int .i64 n, .int .i64 l, .slice A1 m c1] 70)) w2) :
    MidG w (w2.alloc (.cells #[.int .i64 ep, .int .i64 n, .int .i64 0, .int .i64 0, .int .i64 0, .int .i64 0] 25)) w1.heap.size g w2.heap.size #[.int .i64 k, .int .i64 ep, .int .i64 n, .int .i64 l, .slice A1 m c1] (some D) ⟨ep, n, 0, 0, 0, 0⟩ := by
  have e1 : (w.alloc (.cells #[.int .i64 0, .int .i64 0, .int .i64 0, .int .i64 0, .int .i64 0, .int .i64 0] 25)).heap.size = w.heap.size + 1 := by simp
  have e2 : (w1.alloc (.cells #[.int .i64 k, .int .i64 ep, .int .i64 n, .int .i64 l, .slice A1 m c1] 70)).heap.size = w1.heap.size + 1 := by simp
  have s1 := hb1.size
  have s2 := hb2.size
  have hgl : g < w2.heap.size := by
    obtain ⟨_, _, _, _, hb⟩ := cur_blk hc
    exact hb.lt
  have hr0 : Blk w1 w.heap.size 25 (supC .zero) := Blk.below (Blk.new w _ _) hb1 (by omega)
  have hr1 : Blk w2 w.heap.size 25 (supC .zero) := (hr0.alloc _).below hb2 (by omega)
  have ht : Blk w2 w1.heap.size 70 #[.int .i64 k, .int .i64 ep, .int .i64 n, .int .i64 l, .slice A1 m c1] := Blk.below (Blk.new w1 _ _) hb2 (by omega)
  have hs : Blk (w2.alloc (.cells #[.int .i64 ep, .int .i64 n, .int .i64 0, .int .i64 0, .int .i64 0, .int .i64 0] 25)) w2.heap.size 25 (supC ⟨ep, n, 0, 0, 0, 0⟩) := Blk.new w2 _ _
  have hbb : Below w.heap.size w w2 := chain7 (chain7 (chain7 ((Below.refl _ _).alloc (Nat.le_refl _) _) hb1) ((Below.refl _ _).alloc (Nat.le_refl _) _)) hb2
  exact ⟨hr1.alloc _, ht.alloc _, cur_alloc hc _, hs, hbb.alloc hbb.size _, by omega, by omega, by omega, by omega, by omega, by omega, by omega, by simp; omega⟩
set_option maxRecDepth 100000 in
set_option maxHeartbeats 4000000 in
theorem supget_err (b : List UInt8) (q : Nat) (A : Option Addr) (c : Nat) (w : World) (hq : q = b.length) (hr : RB w w.heap.size A b) (hc : q ≤ c) (hcm : c ≤ 9223372036854775807) (hl : q ≤ 1000000) (h : (getS b).2 ≠ 0) :
    Calls Try.prog 9 #[.slice A q c] w (GivesU (getU b) w) := by
  obtain ⟨x, hx⟩ : ∃ x, x = (getS b).1 := ⟨_, rfl⟩
  obtain ⟨z, hz⟩ : ∃ z, z = (getS b).2 := ⟨_, rfl⟩
  have HG : Hid (∀ W, Below w.heap.size w W → Calls Try.prog 31 #[.slice A q c] W fun e w' => ∃ A' c', e = .returned (.tuple #[secV x A' c', .int .i64 z]) ∧ Below W.heap.size W w') := fun W hb => by
    have h1 : Calls Try.prog 31 #[.slice A q c] W (GivesS (getS b) W) := by rw [hq]; exact sget_any b A c W (rb_up7 hr hb) (by omega) hcm (by omega)
    refine h1.mono fun e w' hh => ?_
    obtain ⟨A', c', he, _, hb⟩ := hh
    rw [← hx, ← hz] at he
    exact ⟨A', c', he, hb⟩
  have HB : Hid (Below w.heap.size w (w.alloc (.cells #[.int .i64 0, .int .i64 0, .int .i64 0, .int .i64 0, .int .i64 0, .int .i64 0] 25))) := (Below.refl _ _).alloc (Nat.le_refl _) _
  have HC := Lib.hid (fun W hb => resu_at w W hb)
  have nb := fun w' => Try.supBuild0 w'
  have a24 := fun w' => Try.aggSec8 w'
  have s24 := fun w' => Try.sizeSec w'
  have a25 := fun w' => Try.aggSup w'
  have s25 := fun w' => Try.sizeSup w'
  rw [← hz] at h
  have HV : Hid (getU b = (.zero, z)) := by show _ = _; rw [hz]; exact getU_err (by rw [← hz]; exact h)
  have z0 : (z != 0) = true := by simpa using h
  clear hq hr hc hcm hl hx hz h
  obtain ⟨k, ep, n, l, D⟩ := x
  obtain ⟨m, hm⟩ : ∃ m, m = D.length := ⟨_, rfl⟩
  unfold secV at HG
  simp only at HG
  rw [← hm] at HG
  clear hm
  go_enter Try.func9, Try.ntmps9
  go_wp2_with (go_at_call 31; (with_reducible refine (HG.out _ HB.out).mono ?_); rintro e w1 ⟨A1, c1, rfl, hb1⟩; have hb1a := hb1.alloc hb1.size (.cells #[.int .i64 k, .int .i64 ep, .int .i64 n, .int .i64 l, .slice A1 m c1] 70); obtain ⟨⟨p0, p1, p2, p3, p4, p5⟩, f0, f1, f2, f3, f4, f5⟩ := HC.out _ hb1a; have b1 := chain7 HB.out hb1a)
  refine bodyPost_ret (v := .tuple #[.agg #[.int .i64 0, .int .i64 0, .int .i64 0, .int .i64 0, .int .i64 0, .int .i64 0], .int .i64 z]) (by simp [results, Try.results9, go_sem, p0, p1, p2, p3, p4, p5]) rfl ⟨by rw [HV.out]; rfl, below_six b1 (Nat.le_refl _) _ _ _ _ _ _⟩
set_option maxRecDepth 100000 in
set_option maxHeartbeats 8000000 in
theorem supget_in (b : List UInt8) (q : Nat) (A : Option Addr) (c : Nat) (w : World) (hq : q = b.length) (hr : RB w w.heap.size A b) (hc : q ≤ c) (hcm : c ≤ 9223372036854775807) (hl : q ≤ 1000000) (h0 : (getS b).2 = 0) :
    Calls Try.prog 9 #[.slice A q c] w (GivesU (getU b) w) := by
  obtain ⟨hxm, hxb⟩ := getS_bytes h0
  obtain ⟨x, hx⟩ : ∃ x, x = (getS b).1 := ⟨_, rfl⟩
  rw [← hx] at hxm hxb
  have hD48 : x.data.length ≤ 48 := by have := (Sd.may_iff _).1 hxm; omega
  have HG : Hid (∀ W, Below w.heap.size w W → Calls Try.prog 31 #[.slice A q c] W fun e w' => ∃ A' c', e = .returned (.tuple #[secV x A' c', .int .i64 0]) ∧ Hid (RB w' w'.heap.size A' x.data) ∧ Below W.heap.size W w') := fun W hb => by
    have h1 : Calls Try.prog 31 #[.slice A q c] W (GivesS (getS b) W) := by rw [hq]; exact sget_any b A c W (rb_up7 hr hb) (by omega) hcm (by omega)
    refine h1.mono fun e w' hh => ?_
    obtain ⟨A', c', he, hrc, hb⟩ := hh
    rw [← hx, h0] at he
    rw [← hx] at hrc
    exact ⟨A', c', he, hrc, hb⟩
  have HI : Hid ((x.kind = 1 ∧ x.left = 0 ∧ leftN (stK x.data 4) = 0 ∧ (supZ x).may = true) ↔ (x.data.length = 16 ∧ (supOf x).may = true ∧ (supOf x).sec = x)) := supZ_iff x
  have HNo : Hid (¬ (x.kind = 1 ∧ x.left = 0 ∧ leftN (stK x.data 4) = 0 ∧ (supZ x).may = true) → getU b = (.zero, 5)) := fun hn => getU_no h0 (by rw [← hx]; exact fun hh => hn ((supZ_iff x).2 hh))
  have HYes : Hid ((x.kind = 1 ∧ x.left = 0 ∧ leftN (stK x.data 4) = 0 ∧ (supZ x).may = true) → getU b = (supZ x, 0)) := fun hn => by
    have h1 := (supZ_iff x).1 hn
    rw [getU_ok h0 (by rw [← hx]; exact h1), ← hx, supZ_of h1]
  have HB : Hid (Below w.heap.size w (w.alloc (.cells #[.int .i64 0, .int .i64 0, .int .i64 0, .int .i64 0, .int .i64 0, .int .i64 0] 25))) := (Below.refl _ _).alloc (Nat.le_refl _) _
  have nb := fun w' => Try.supBuild0 w'
  have a24 := fun w' => Try.aggSec8 w'
  have s24 := fun w' => Try.sizeSec w'
  have a25 := fun w' => Try.aggSup w'
  have s25 := fun w' => Try.sizeSup w'
  clear HI hq hr hc hcm hl h0 hx hxm hxb
  obtain ⟨k, ep, n, l, D⟩ := x
  have n2 := fun w' => Try.supBuild2 ep n w'
  have HF : Hid (∀ W (A : Option Addr) (c : Nat), RB W W.heap.size A D → Calls Try.prog 32 #[.slice A D.length c] W fun e w' => ∃ g, e = .returned (.pointer (some ⟨g, 0, none⟩)) ∧ W.heap.size ≤ g ∧ Hid (Cur w' g (some D)) ∧ Below W.heap.size W w') := fun W A c h => from_any D A c W h (by show D.length ≤ _; simp only at hD48; omega)
  clear hD48
  obtain ⟨m, hm⟩ : ∃ m, m = D.length := ⟨_, rfl⟩
  obtain ⟨z0, hz0⟩ : ∃ z, z = zK D 0 := ⟨_, rfl⟩
  obtain ⟨z1, hz1⟩ : ∃ z, z = zK D 1 := ⟨_, rfl⟩
  obtain ⟨z2, hz2⟩ : ∃ z, z = zK D 2 := ⟨_, rfl⟩
  obtain ⟨z3, hz3⟩ : ∃ z, z = zK D 3 := ⟨_, rfl⟩
  obtain ⟨lf, hlf⟩ : ∃ z, z = leftN (stK D 4) := ⟨_, rfl⟩
  have HZ : Hid (supZ ⟨k, ep, n, l, D⟩ = ⟨ep, n, z0, z1, z2, z3⟩) := by show _ = _; unfold supZ; rw [hz0, hz1, hz2, hz3]
  unfold secV at HG
  simp only at HG HNo HYes
  rw [HZ.out, ← hlf] at HNo HYes
  rw [← hm] at HG HF
  have HN0 : Hid (∀ W gt gc gs cs s, MidG w W gt gc gs cs (stK D 0) s → Calls Try.prog 33 #[.pointer (some ⟨gc, 0, none⟩)] W fun e w' => e = .returned (.int .i64 z0) ∧ MidG w w' gt gc gs cs (stK D 1) s) := fun W gt gc gs cs s h => by
    refine (next_any gc _ W h.cur).mono fun e w' hh => ?_
    obtain ⟨he, hc, ho⟩ := hh
    exact ⟨by rw [he, hz0]; rfl, h.next hc ho⟩
  have HN1 : Hid (∀ W gt gc gs cs s, MidG w W gt gc gs cs (stK D 1) s → Calls Try.prog 33 #[.pointer (some ⟨gc, 0, none⟩)] W fun e w' => e = .returned (.int .i64 z1) ∧ MidG w w' gt gc gs cs (stK D 2) s) := fun W gt gc gs cs s h => by
    refine (next_any gc _ W h.cur).mono fun e w' hh => ?_
    obtain ⟨he, hc, ho⟩ := hh
    exact ⟨by rw [he, hz1]; rfl, h.next hc ho⟩
  have HN2 : Hid (∀ W gt gc gs cs s, MidG w W gt gc gs cs (stK D 2) s → Calls Try.prog 33 #[.pointer (some ⟨gc, 0, none⟩)] W fun e w' => e = .returned (.int .i64 z2) ∧ MidG w w' gt gc gs cs (stK D 3) s) := fun W gt gc gs cs s h => by
    refine (next_any gc _ W h.cur).mono fun e w' hh => ?_
    obtain ⟨he, hc, ho⟩ := hh
    exact ⟨by rw [he, hz2]; rfl, h.next hc ho⟩
  have HN3 : Hid (∀ W gt gc gs cs s, MidG w W gt gc gs cs (stK D 3) s → Calls Try.prog 33 #[.pointer (some ⟨gc, 0, none⟩)] W fun e w' => e = .returned (.int .i64 z3) ∧ MidG w w' gt gc gs cs (stK D 4) s) := fun W gt gc gs cs s h => by
    refine (next_any gc _ W h.cur).mono fun e w' hh => ?_
    obtain ⟨he, hc, ho⟩ := hh
    exact ⟨by rw [he, hz3]; rfl, h.next hc ho⟩
  have HLf : Hid (∀ W gt gc gs cs s, MidG w W gt gc gs cs (stK D 4) s → Calls Try.prog 34 #[.pointer (some ⟨gc, 0, none⟩)] W fun e w' => e = .returned (.int .i64 (lf : Int)) ∧ W = w') := fun W gt gc gs cs s h => by
    rw [hlf]
    exact left_any gc _ W h.cur
  have HCk : Hid (∀ v : Int, v = (if Pu.may ⟨ep, n, z0, z1, z2, z3⟩ = true then 0 else 1) → ∀ W, Calls Try.prog 10 #[.agg #[.int .i64 ep, .int .i64 n, .int .i64 z0, .int .i64 z1, .int .i64 z2, .int .i64 z3]] W fun e w' => e = .returned (.int .i64 v) ∧ Below W.heap.size W w') := fun v hv W => by
    rw [hv]
    exact scheck_any ⟨ep, n, z0, z1, z2, z3⟩ W
  have HSec := Lib.hid (fun w1 A1 c1 W hb => secv_at w1 W k ep n l A1 m c1 hb)
  have HSt : Hid (∀ w1 w2 g A1 c1, Below (w.alloc (.cells #[.int .i64 0, .int .i64 0, .int .i64 0, .int .i64 0, .int .i64 0, .int .i64 0] 25)).heap.size (w.alloc (.cells #[.int .i64 0, .int .i64 0, .int .i64 0, .int .i64 0, .int .i64 0, .int .i64 0] 25)) w1 → (w1.alloc (.cells #[.int .i64 k, .int .i64 ep, .int .i64 n, .int .i64 l, .slice A1 m c1] 70)).heap.size ≤ g → Cur w2 g (some D) → Below (w1.alloc (.cells #[.int .i64 k, .int .i64 ep, .int .i64 n, .int .i64 l, .slice A1 m c1] 70)).heap.size (w1.alloc (.cells #[.int .i64 k, .int .i64 ep, .int .i64 n, .int .i64 l, .slice A1 m c1] 70)) w2 → MidG w (w2.alloc (.cells #[.int .i64 ep, .int .i64 n, .int .i64 0, .int .i64 0, .int .i64 0, .int .i64 0] 25)) w1.heap.size g w2.heap.size #[.int .i64 k, .int .i64 ep, .int .i64 n, .int .i64 l, .slice A1 m c1] (stK D 0) ⟨ep, n, 0, 0, 0, 0⟩) := fun w1 w2 g A1 c1 h1 h2 h3 h4 => midg_start h1 h2 h3 h4
  clear hz0 hz1 hz2 hz3 hm hlf
  by_cases e0 : k = 1
  rotate_left
  · have HV : Hid (getU b = (.zero, 5)) := HNo.out (fun hh => e0 hh.1)
    have d0 : (k != 1) = true := by simpa using e0
    have d0' : (k == 1) = false := by simpa using e0
    clear HNo HYes HCk HLf e0
    go_enter Try.func9, Try.ntmps9
    go_wp2_with (first
      | (go_at_call 33; (with_reducible refine (HN3.out _ _ _ _ _ _ Mw2).mono ?_); rintro e w7 ⟨rfl, Mq3⟩; have fz3 := Mq3.f.1 5; have cz3 : w7.cell? ⟨w2.heap.size, 5, none⟩ = some (.int .i64 0) := (by rw [Mq3.sup.cell]; rfl); have Mw3 := Mq3.put 5 (.int .i64 z3) (s' := ⟨ep, n, z0, z1, z2, z3⟩) rfl; obtain ⟨⟨p0, p1, p2, p3, p4, p5⟩, f0, f1, f2, f3, f4, f5⟩ := Mw3.r; have k0 : (w7.setCell ⟨w2.heap.size, 5, none⟩ (.int .i64 z3)).cell? ⟨w1.heap.size, 0, none⟩ = some (.int .i64 k) := (by rw [Mw3.sec.cell]; rfl); have k3 : (w7.setCell ⟨w2.heap.size, 5, none⟩ (.int .i64 z3)).cell? ⟨w1.heap.size, 3, none⟩ = some (.int .i64 l) := (by rw [Mw3.sec.cell]; rfl); have y0 : (w7.setCell ⟨w2.heap.size, 5, none⟩ (.int .i64 z3)).cell? ⟨w2.heap.size, 0, none⟩ = some (.int .i64 ep) := (by rw [Mw3.sup.cell]; rfl); have y1 : (w7.setCell ⟨w2.heap.size, 5, none⟩ (.int .i64 z3)).cell? ⟨w2.heap.size, 1, none⟩ = some (.int .i64 n) := (by rw [Mw3.sup.cell]; rfl); have y2 : (w7.setCell ⟨w2.heap.size, 5, none⟩ (.int .i64 z3)).cell? ⟨w2.heap.size, 2, none⟩ = some (.int .i64 z0) := (by rw [Mw3.sup.cell]; rfl); have y3 : (w7.setCell ⟨w2.heap.size, 5, none⟩ (.int .i64 z3)).cell? ⟨w2.heap.size, 3, none⟩ = some (.int .i64 z1) := (by rw [Mw3.sup.cell]; rfl); have y4 : (w7.setCell ⟨w2.heap.size, 5, none⟩ (.int .i64 z3)).cell? ⟨w2.heap.size, 4, none⟩ = some (.int .i64 z2) := (by rw [Mw3.sup.cell]; rfl); have y5 : (w7.setCell ⟨w2.heap.size, 5, none⟩ (.int .i64 z3)).cell? ⟨w2.heap.size, 5, none⟩ = some (.int .i64 z3) := (by rw [Mw3.sup.cell]; rfl))
      | (go_at_call 33; (with_reducible refine (HN2.out _ _ _ _ _ _ Mw1).mono ?_); rintro e w6 ⟨rfl, Mq2⟩; have fz2 := Mq2.f.1 4; have cz2 : w6.cell? ⟨w2.heap.size, 4, none⟩ = some (.int .i64 0) := (by rw [Mq2.sup.cell]; rfl); have Mw2 := Mq2.put 4 (.int .i64 z2) (s' := ⟨ep, n, z0, z1, z2, 0⟩) rfl)
      | (go_at_call 33; (with_reducible refine (HN1.out _ _ _ _ _ _ Mw0).mono ?_); rintro e w5 ⟨rfl, Mq1⟩; have fz1 := Mq1.f.1 3; have cz1 : w5.cell? ⟨w2.heap.size, 3, none⟩ = some (.int .i64 0) := (by rw [Mq1.sup.cell]; rfl); have Mw1 := Mq1.put 3 (.int .i64 z1) (s' := ⟨ep, n, z0, z1, 0, 0⟩) rfl)
      | (go_at_call 33; (with_reducible refine (HN0.out _ _ _ _ _ _ M0).mono ?_); rintro e w4 ⟨rfl, Mq0⟩; have fz0 := Mq0.f.1 2; have cz0 : w4.cell? ⟨w2.heap.size, 2, none⟩ = some (.int .i64 0) := (by rw [Mq0.sup.cell]; rfl); have Mw0 := Mq0.put 2 (.int .i64 z0) (s' := ⟨ep, n, z0, 0, 0, 0⟩) rfl)
      | (go_at_call 32; (with_reducible refine (HF.out _ _ _ r1a).mono ?_); rintro e w2 ⟨gc, rfl, hgc, cu2, hb2⟩; obtain ⟨q1, q2, q4⟩ := HSec.out w1 A1 c1 w2 hb2; have M0 := HSt.out w1 w2 gc A1 c1 hb1 hgc cu2.out hb2)
      | (go_at_call 31; (with_reducible refine (HG.out _ HB.out).mono ?_); rintro e w1 ⟨A1, c1, rfl, r1, hb1⟩; have r1a := rb_up7 r1.out ((Below.refl _ _).alloc (Nat.le_refl _) (.cells #[.int .i64 k, .int .i64 ep, .int .i64 n, .int .i64 l, .slice A1 m c1] 70)); obtain ⟨t1, t2, t4⟩ := HSec.out w1 A1 c1 _ (Below.refl _ _)))
    refine bodyPost_ret (v := .tuple #[.agg #[.int .i64 0, .int .i64 0, .int .i64 0, .int .i64 0, .int .i64 0, .int .i64 0], .int .i64 5]) (by simp [results, Try.results9, go_sem, p0, p1, p2, p3, p4, p5]) rfl ⟨by rw [HV.out]; rfl, below_six Mw3.below (Nat.le_refl _) _ _ _ _ _ _⟩
  have d0 : (k != 1) = false := by simpa using e0
  have d0' : (k == 1) = true := by simpa using e0
  by_cases e1 : l = 0
  rotate_left
  · have HV : Hid (getU b = (.zero, 5)) := HNo.out (fun hh => e1 hh.2.1)
    have d1 : (l != 0) = true := by simpa using e1
    have d1' : (l == 0) = false := by simpa using e1
    clear HNo HYes HCk HLf e0 e1
    go_enter Try.func9, Try.ntmps9
    go_wp2_with (first
      | (go_at_call 33; (with_reducible refine (HN3.out _ _ _ _ _ _ Mw2).mono ?_); rintro e w7 ⟨rfl, Mq3⟩; have fz3 := Mq3.f.1 5; have cz3 : w7.cell? ⟨w2.heap.size, 5, none⟩ = some (.int .i64 0) := (by rw [Mq3.sup.cell]; rfl); have Mw3 := Mq3.put 5 (.int .i64 z3) (s' := ⟨ep, n, z0, z1, z2, z3⟩) rfl; obtain ⟨⟨p0, p1, p2, p3, p4, p5⟩, f0, f1, f2, f3, f4, f5⟩ := Mw3.r; have k0 : (w7.setCell ⟨w2.heap.size, 5, none⟩ (.int .i64 z3)).cell? ⟨w1.heap.size, 0, none⟩ = some (.int .i64 k) := (by rw [Mw3.sec.cell]; rfl); have k3 : (w7.setCell ⟨w2.heap.size, 5, none⟩ (.int .i64 z3)).cell? ⟨w1.heap.size, 3, none⟩ = some (.int .i64 l) := (by rw [Mw3.sec.cell]; rfl); have y0 : (w7.setCell ⟨w2.heap.size, 5, none⟩ (.int .i64 z3)).cell? ⟨w2.heap.size, 0, none⟩ = some (.int .i64 ep) := (by rw [Mw3.sup.cell]; rfl); have y1 : (w7.setCell ⟨w2.heap.size, 5, none⟩ (.int .i64 z3)).cell? ⟨w2.heap.size, 1, none⟩ = some (.int .i64 n) := (by rw [Mw3.sup.cell]; rfl); have y2 : (w7.setCell ⟨w2.heap.size, 5, none⟩ (.int .i64 z3)).cell? ⟨w2.heap.size, 2, none⟩ = some (.int .i64 z0) := (by rw [Mw3.sup.cell]; rfl); have y3 : (w7.setCell ⟨w2.heap.size, 5, none⟩ (.int .i64 z3)).cell? ⟨w2.heap.size, 3, none⟩ = some (.int .i64 z1) := (by rw [Mw3.sup.cell]; rfl); have y4 : (w7.setCell ⟨w2.heap.size, 5, none⟩ (.int .i64 z3)).cell? ⟨w2.heap.size, 4, none⟩ = some (.int .i64 z2) := (by rw [Mw3.sup.cell]; rfl); have y5 : (w7.setCell ⟨w2.heap.size, 5, none⟩ (.int .i64 z3)).cell? ⟨w2.heap.size, 5, none⟩ = some (.int .i64 z3) := (by rw [Mw3.sup.cell]; rfl))
      | (go_at_call 33; (with_reducible refine (HN2.out _ _ _ _ _ _ Mw1).mono ?_); rintro e w6 ⟨rfl, Mq2⟩; have fz2 := Mq2.f.1 4; have cz2 : w6.cell? ⟨w2.heap.size, 4, none⟩ = some (.int .i64 0) := (by rw [Mq2.sup.cell]; rfl); have Mw2 := Mq2.put 4 (.int .i64 z2) (s' := ⟨ep, n, z0, z1, z2, 0⟩) rfl)
      | (go_at_call 33; (with_reducible refine (HN1.out _ _ _ _ _ _ Mw0).mono ?_); rintro e w5 ⟨rfl, Mq1⟩; have fz1 := Mq1.f.1 3; have cz1 : w5.cell? ⟨w2.heap.size, 3, none⟩ = some (.int .i64 0) := (by rw [Mq1.sup.cell]; rfl); have Mw1 := Mq1.put 3 (.int .i64 z1) (s' := ⟨ep, n, z0, z1, 0, 0⟩) rfl)
      | (go_at_call 33; (with_reducible refine (HN0.out _ _ _ _ _ _ M0).mono ?_); rintro e w4 ⟨rfl, Mq0⟩; have fz0 := Mq0.f.1 2; have cz0 : w4.cell? ⟨w2.heap.size, 2, none⟩ = some (.int .i64 0) := (by rw [Mq0.sup.cell]; rfl); have Mw0 := Mq0.put 2 (.int .i64 z0) (s' := ⟨ep, n, z0, 0, 0, 0⟩) rfl)
      | (go_at_call 32; (with_reducible refine (HF.out _ _ _ r1a).mono ?_); rintro e w2 ⟨gc, rfl, hgc, cu2, hb2⟩; obtain ⟨q1, q2, q4⟩ := HSec.out w1 A1 c1 w2 hb2; have M0 := HSt.out w1 w2 gc A1 c1 hb1 hgc cu2.out hb2)
      | (go_at_call 31; (with_reducible refine (HG.out _ HB.out).mono ?_); rintro e w1 ⟨A1, c1, rfl, r1, hb1⟩; have r1a := rb_up7 r1.out ((Below.refl _ _).alloc (Nat.le_refl _) (.cells #[.int .i64 k, .int .i64 ep, .int .i64 n, .int .i64 l, .slice A1 m c1] 70)); obtain ⟨t1, t2, t4⟩ := HSec.out w1 A1 c1 _ (Below.refl _ _)))
    refine bodyPost_ret (v := .tuple #[.agg #[.int .i64 0, .int .i64 0, .int .i64 0, .int .i64 0, .int .i64 0, .int .i64 0], .int .i64 5]) (by simp [results, Try.results9, go_sem, p0, p1, p2, p3, p4, p5]) rfl ⟨by rw [HV.out]; rfl, below_six Mw3.below (Nat.le_refl _) _ _ _ _ _ _⟩
  have d1 : (l != 0) = false := by simpa using e1
  have d1' : (l == 0) = true := by simpa using e1
  by_cases e2 : lf = 0
  rotate_left
  · have HV : Hid (getU b = (.zero, 5)) := HNo.out (fun hh => e2 hh.2.2.1)
    have d2 : ((lf : Int) != 0) = true := by simp; omega
    have d2' : ((lf : Int) == 0) = false := by simp; omega
    clear HNo HYes HCk e0 e1 e2
    go_enter Try.func9, Try.ntmps9
    go_wp2_with (first
      | (go_at_call 34; (with_reducible refine (HLf.out _ _ _ _ _ _ Mw3).mono ?_); rintro e w8 ⟨rfl, rfl⟩)
      | (go_at_call 33; (with_reducible refine (HN3.out _ _ _ _ _ _ Mw2).mono ?_); rintro e w7 ⟨rfl, Mq3⟩; have fz3 := Mq3.f.1 5; have cz3 : w7.cell? ⟨w2.heap.size, 5, none⟩ = some (.int .i64 0) := (by rw [Mq3.sup.cell]; rfl); have Mw3 := Mq3.put 5 (.int .i64 z3) (s' := ⟨ep, n, z0, z1, z2, z3⟩) rfl; obtain ⟨⟨p0, p1, p2, p3, p4, p5⟩, f0, f1, f2, f3, f4, f5⟩ := Mw3.r; have k0 : (w7.setCell ⟨w2.heap.size, 5, none⟩ (.int .i64 z3)).cell? ⟨w1.heap.size, 0, none⟩ = some (.int .i64 k) := (by rw [Mw3.sec.cell]; rfl); have k3 : (w7.setCell ⟨w2.heap.size, 5, none⟩ (.int .i64 z3)).cell? ⟨w1.heap.size, 3, none⟩ = some (.int .i64 l) := (by rw [Mw3.sec.cell]; rfl); have y0 : (w7.setCell ⟨w2.heap.size, 5, none⟩ (.int .i64 z3)).cell? ⟨w2.heap.size, 0, none⟩ = some (.int .i64 ep) := (by rw [Mw3.sup.cell]; rfl); have y1 : (w7.setCell ⟨w2.heap.size, 5, none⟩ (.int .i64 z3)).cell? ⟨w2.heap.size, 1, none⟩ = some (.int .i64 n) := (by rw [Mw3.sup.cell]; rfl); have y2 : (w7.setCell ⟨w2.heap.size, 5, none⟩ (.int .i64 z3)).cell? ⟨w2.heap.size, 2, none⟩ = some (.int .i64 z0) := (by rw [Mw3.sup.cell]; rfl); have y3 : (w7.setCell ⟨w2.heap.size, 5, none⟩ (.int .i64 z3)).cell? ⟨w2.heap.size, 3, none⟩ = some (.int .i64 z1) := (by rw [Mw3.sup.cell]; rfl); have y4 : (w7.setCell ⟨w2.heap.size, 5, none⟩ (.int .i64 z3)).cell? ⟨w2.heap.size, 4, none⟩ = some (.int .i64 z2) := (by rw [Mw3.sup.cell]; rfl); have y5 : (w7.setCell ⟨w2.heap.size, 5, none⟩ (.int .i64 z3)).cell? ⟨w2.heap.size, 5, none⟩ = some (.int .i64 z3) := (by rw [Mw3.sup.cell]; rfl))
      | (go_at_call 33; (with_reducible refine (HN2.out _ _ _ _ _ _ Mw1).mono ?_); rintro e w6 ⟨rfl, Mq2⟩; have fz2 := Mq2.f.1 4; have cz2 : w6.cell? ⟨w2.heap.size, 4, none⟩ = some (.int .i64 0) := (by rw [Mq2.sup.cell]; rfl); have Mw2 := Mq2.put 4 (.int .i64 z2) (s' := ⟨ep, n, z0, z1, z2, 0⟩) rfl)
      | (go_at_call 33; (with_reducible refine (HN1.out _ _ _ _ _ _ Mw0).mono ?_); rintro e w5 ⟨rfl, Mq1⟩; have fz1 := Mq1.f.1 3; have cz1 : w5.cell? ⟨w2.heap.size, 3, none⟩ = some (.int .i64 0) := (by rw [Mq1.sup.cell]; rfl); have Mw1 := Mq1.put 3 (.int .i64 z1) (s' := ⟨ep, n, z0, z1, 0, 0⟩) rfl)
      | (go_at_call 33; (with_reducible refine (HN0.out _ _ _ _ _ _ M0).mono ?_); rintro e w4 ⟨rfl, Mq0⟩; have fz0 := Mq0.f.1 2; have cz0 : w4.cell? ⟨w2.heap.size, 2, none⟩ = some (.int .i64 0) := (by rw [Mq0.sup.cell]; rfl); have Mw0 := Mq0.put 2 (.int .i64 z0) (s' := ⟨ep, n, z0, 0, 0, 0⟩) rfl)
      | (go_at_call 32; (with_reducible refine (HF.out _ _ _ r1a).mono ?_); rintro e w2 ⟨gc, rfl, hgc, cu2, hb2⟩; obtain ⟨q1, q2, q4⟩ := HSec.out w1 A1 c1 w2 hb2; have M0 := HSt.out w1 w2 gc A1 c1 hb1 hgc cu2.out hb2)
      | (go_at_call 31; (with_reducible refine (HG.out _ HB.out).mono ?_); rintro e w1 ⟨A1, c1, rfl, r1, hb1⟩; have r1a := rb_up7 r1.out ((Below.refl _ _).alloc (Nat.le_refl _) (.cells #[.int .i64 k, .int .i64 ep, .int .i64 n, .int .i64 l, .slice A1 m c1] 70)); obtain ⟨t1, t2, t4⟩ := HSec.out w1 A1 c1 _ (Below.refl _ _)))
    refine bodyPost_ret (v := .tuple #[.agg #[.int .i64 0, .int .i64 0, .int .i64 0, .int .i64 0, .int .i64 0, .int .i64 0], .int .i64 5]) (by simp [results, Try.results9, go_sem, p0, p1, p2, p3, p4, p5]) rfl ⟨by rw [HV.out]; rfl, below_six Mw3.below (Nat.le_refl _) _ _ _ _ _ _⟩
  have d2 : ((lf : Int) != 0) = false := by simp; omega
  have d2' : ((lf : Int) == 0) = true := by simp; omega
  cases e3 : Pu.may ⟨ep, n, z0, z1, z2, z3⟩ with
  | false =>
    have HV : Hid (getU b = (.zero, 5)) := HNo.out (fun hh => by rw [e3] at hh; exact absurd hh.2.2.2 (by decide))
    have HCv := Lib.hid (HCk.out 1 (by rw [e3]; rfl))
    clear HNo HYes HCk e0 e1 e2 e3
    go_enter Try.func9, Try.ntmps9
    go_wp2_with (first
      | (go_at_call 10; (with_reducible refine (HCv.out _).mono ?_); rintro e w9 ⟨rfl, hb9⟩; have M9 := Mw3.up hb9; obtain ⟨⟨p0, p1, p2, p3, p4, p5⟩, f0, f1, f2, f3, f4, f5⟩ := M9.r; have y0 : w9.cell? ⟨w2.heap.size, 0, none⟩ = some (.int .i64 ep) := (by rw [M9.sup.cell]; rfl); have y1 : w9.cell? ⟨w2.heap.size, 1, none⟩ = some (.int .i64 n) := (by rw [M9.sup.cell]; rfl); have y2 : w9.cell? ⟨w2.heap.size, 2, none⟩ = some (.int .i64 z0) := (by rw [M9.sup.cell]; rfl); have y3 : w9.cell? ⟨w2.heap.size, 3, none⟩ = some (.int .i64 z1) := (by rw [M9.sup.cell]; rfl); have y4 : w9.cell? ⟨w2.heap.size, 4, none⟩ = some (.int .i64 z2) := (by rw [M9.sup.cell]; rfl); have y5 : w9.cell? ⟨w2.heap.size, 5, none⟩ = some (.int .i64 z3) := (by rw [M9.sup.cell]; rfl))
      | (go_at_call 34; (with_reducible refine (HLf.out _ _ _ _ _ _ Mw3).mono ?_); rintro e w8 ⟨rfl, rfl⟩)
      | (go_at_call 33; (with_reducible refine (HN3.out _ _ _ _ _ _ Mw2).mono ?_); rintro e w7 ⟨rfl, Mq3⟩; have fz3 := Mq3.f.1 5; have cz3 : w7.cell? ⟨w2.heap.size, 5, none⟩ = some (.int .i64 0) := (by rw [Mq3.sup.cell]; rfl); have Mw3 := Mq3.put 5 (.int .i64 z3) (s' := ⟨ep, n, z0, z1, z2, z3⟩) rfl; obtain ⟨⟨p0, p1, p2, p3, p4, p5⟩, f0, f1, f2, f3, f4, f5⟩ := Mw3.r; have k0 : (w7.setCell ⟨w2.heap.size, 5, none⟩ (.int .i64 z3)).cell? ⟨w1.heap.size, 0, none⟩ = some (.int .i64 k) := (by rw [Mw3.sec.cell]; rfl); have k3 : (w7.setCell ⟨w2.heap.size, 5, none⟩ (.int .i64 z3)).cell? ⟨w1.heap.size, 3, none⟩ = some (.int .i64 l) := (by rw [Mw3.sec.cell]; rfl); have y0 : (w7.setCell ⟨w2.heap.size, 5, none⟩ (.int .i64 z3)).cell? ⟨w2.heap.size, 0, none⟩ = some (.int .i64 ep) := (by rw [Mw3.sup.cell]; rfl); have y1 : (w7.setCell ⟨w2.heap.size, 5, none⟩ (.int .i64 z3)).cell? ⟨w2.heap.size, 1, none⟩ = some (.int .i64 n) := (by rw [Mw3.sup.cell]; rfl); have y2 : (w7.setCell ⟨w2.heap.size, 5, none⟩ (.int .i64 z3)).cell? ⟨w2.heap.size, 2, none⟩ = some (.int .i64 z0) := (by rw [Mw3.sup.cell]; rfl); have y3 : (w7.setCell ⟨w2.heap.size, 5, none⟩ (.int .i64 z3)).cell? ⟨w2.heap.size, 3, none⟩ = some (.int .i64 z1) := (by rw [Mw3.sup.cell]; rfl); have y4 : (w7.setCell ⟨w2.heap.size, 5, none⟩ (.int .i64 z3)).cell? ⟨w2.heap.size, 4, none⟩ = some (.int .i64 z2) := (by rw [Mw3.sup.cell]; rfl); have y5 : (w7.setCell ⟨w2.heap.size, 5, none⟩ (.int .i64 z3)).cell? ⟨w2.heap.size, 5, none⟩ = some (.int .i64 z3) := (by rw [Mw3.sup.cell]; rfl))
      | (go_at_call 33; (with_reducible refine (HN2.out _ _ _ _ _ _ Mw1).mono ?_); rintro e w6 ⟨rfl, Mq2⟩; have fz2 := Mq2.f.1 4; have cz2 : w6.cell? ⟨w2.heap.size, 4, none⟩ = some (.int .i64 0) := (by rw [Mq2.sup.cell]; rfl); have Mw2 := Mq2.put 4 (.int .i64 z2) (s' := ⟨ep, n, z0, z1, z2, 0⟩) rfl)
      | (go_at_call 33; (with_reducible refine (HN1.out _ _ _ _ _ _ Mw0).mono ?_); rintro e w5 ⟨rfl, Mq1⟩; have fz1 := Mq1.f.1 3; have cz1 : w5.cell? ⟨w2.heap.size, 3, none⟩ = some (.int .i64 0) := (by rw [Mq1.sup.cell]; rfl); have Mw1 := Mq1.put 3 (.int .i64 z1) (s' := ⟨ep, n, z0, z1, 0, 0⟩) rfl)
      | (go_at_call 33; (with_reducible refine (HN0.out _ _ _ _ _ _ M0).mono ?_); rintro e w4 ⟨rfl, Mq0⟩; have fz0 := Mq0.f.1 2; have cz0 : w4.cell? ⟨w2.heap.size, 2, none⟩ = some (.int .i64 0) := (by rw [Mq0.sup.cell]; rfl); have Mw0 := Mq0.put 2 (.int .i64 z0) (s' := ⟨ep, n, z0, 0, 0, 0⟩) rfl)
      | (go_at_call 32; (with_reducible refine (HF.out _ _ _ r1a).mono ?_); rintro e w2 ⟨gc, rfl, hgc, cu2, hb2⟩; obtain ⟨q1, q2, q4⟩ := HSec.out w1 A1 c1 w2 hb2; have M0 := HSt.out w1 w2 gc A1 c1 hb1 hgc cu2.out hb2)
      | (go_at_call 31; (with_reducible refine (HG.out _ HB.out).mono ?_); rintro e w1 ⟨A1, c1, rfl, r1, hb1⟩; have r1a := rb_up7 r1.out ((Below.refl _ _).alloc (Nat.le_refl _) (.cells #[.int .i64 k, .int .i64 ep, .int .i64 n, .int .i64 l, .slice A1 m c1] 70)); obtain ⟨t1, t2, t4⟩ := HSec.out w1 A1 c1 _ (Below.refl _ _)))
    refine bodyPost_ret (v := .tuple #[.agg #[.int .i64 0, .int .i64 0, .int .i64 0, .int .i64 0, .int .i64 0, .int .i64 0], .int .i64 5]) (by simp [results, Try.results9, go_sem, p0, p1, p2, p3, p4, p5]) rfl ⟨by rw [HV.out]; rfl, below_six M9.below (Nat.le_refl _) _ _ _ _ _ _⟩
  | true =>
    have HV : Hid (getU b = (⟨ep, n, z0, z1, z2, z3⟩, 0)) := HYes.out ⟨e0, e1, e2, e3⟩
    have HCv := Lib.hid (HCk.out 0 (by rw [e3]; rfl))
    clear HNo HYes HCk e0 e1 e2 e3
    go_enter Try.func9, Try.ntmps9
    go_wp2_with (first
      | (go_at_call 10; (with_reducible refine (HCv.out _).mono ?_); rintro e w9 ⟨rfl, hb9⟩; have M9 := Mw3.up hb9; obtain ⟨⟨p0, p1, p2, p3, p4, p5⟩, f0, f1, f2, f3, f4, f5⟩ := M9.r; have y0 : w9.cell? ⟨w2.heap.size, 0, none⟩ = some (.int .i64 ep) := (by rw [M9.sup.cell]; rfl); have y1 : w9.cell? ⟨w2.heap.size, 1, none⟩ = some (.int .i64 n) := (by rw [M9.sup.cell]; rfl); have y2 : w9.cell? ⟨w2.heap.size, 2, none⟩ = some (.int .i64 z0) := (by rw [M9.sup.cell]; rfl); have y3 : w9.cell? ⟨w2.heap.size, 3, none⟩ = some (.int .i64 z1) := (by rw [M9.sup.cell]; rfl); have y4 : w9.cell? ⟨w2.heap.size, 4, none⟩ = some (.int .i64 z2) := (by rw [M9.sup.cell]; rfl); have y5 : w9.cell? ⟨w2.heap.size, 5, none⟩ = some (.int .i64 z3) := (by rw [M9.sup.cell]; rfl))
      | (go_at_call 34; (with_reducible refine (HLf.out _ _ _ _ _ _ Mw3).mono ?_); rintro e w8 ⟨rfl, rfl⟩)
      | (go_at_call 33; (with_reducible refine (HN3.out _ _ _ _ _ _ Mw2).mono ?_); rintro e w7 ⟨rfl, Mq3⟩; have fz3 := Mq3.f.1 5; have cz3 : w7.cell? ⟨w2.heap.size, 5, none⟩ = some (.int .i64 0) := (by rw [Mq3.sup.cell]; rfl); have Mw3 := Mq3.put 5 (.int .i64 z3) (s' := ⟨ep, n, z0, z1, z2, z3⟩) rfl; obtain ⟨⟨p0, p1, p2, p3, p4, p5⟩, f0, f1, f2, f3, f4, f5⟩ := Mw3.r; have k0 : (w7.setCell ⟨w2.heap.size, 5, none⟩ (.int .i64 z3)).cell? ⟨w1.heap.size, 0, none⟩ = some (.int .i64 k) := (by rw [Mw3.sec.cell]; rfl); have k3 : (w7.setCell ⟨w2.heap.size, 5, none⟩ (.int .i64 z3)).cell? ⟨w1.heap.size, 3, none⟩ = some (.int .i64 l) := (by rw [Mw3.sec.cell]; rfl); have y0 : (w7.setCell ⟨w2.heap.size, 5, none⟩ (.int .i64 z3)).cell? ⟨w2.heap.size, 0, none⟩ = some (.int .i64 ep) := (by rw [Mw3.sup.cell]; rfl); have y1 : (w7.setCell ⟨w2.heap.size, 5, none⟩ (.int .i64 z3)).cell? ⟨w2.heap.size, 1, none⟩ = some (.int .i64 n) := (by rw [Mw3.sup.cell]; rfl); have y2 : (w7.setCell ⟨w2.heap.size, 5, none⟩ (.int .i64 z3)).cell? ⟨w2.heap.size, 2, none⟩ = some (.int .i64 z0) := (by rw [Mw3.sup.cell]; rfl); have y3 : (w7.setCell ⟨w2.heap.size, 5, none⟩ (.int .i64 z3)).cell? ⟨w2.heap.size, 3, none⟩ = some (.int .i64 z1) := (by rw [Mw3.sup.cell]; rfl); have y4 : (w7.setCell ⟨w2.heap.size, 5, none⟩ (.int .i64 z3)).cell? ⟨w2.heap.size, 4, none⟩ = some (.int .i64 z2) := (by rw [Mw3.sup.cell]; rfl); have y5 : (w7.setCell ⟨w2.heap.size, 5, none⟩ (.int .i64 z3)).cell? ⟨w2.heap.size, 5, none⟩ = some (.int .i64 z3) := (by rw [Mw3.sup.cell]; rfl))
      | (go_at_call 33; (with_reducible refine (HN2.out _ _ _ _ _ _ Mw1).mono ?_); rintro e w6 ⟨rfl, Mq2⟩; have fz2 := Mq2.f.1 4; have cz2 : w6.cell? ⟨w2.heap.size, 4, none⟩ = some (.int .i64 0) := (by rw [Mq2.sup.cell]; rfl); have Mw2 := Mq2.put 4 (.int .i64 z2) (s' := ⟨ep, n, z0, z1, z2, 0⟩) rfl)
      | (go_at_call 33; (with_reducible refine (HN1.out _ _ _ _ _ _ Mw0).mono ?_); rintro e w5 ⟨rfl, Mq1⟩; have fz1 := Mq1.f.1 3; have cz1 : w5.cell? ⟨w2.heap.size, 3, none⟩ = some (.int .i64 0) := (by rw [Mq1.sup.cell]; rfl); have Mw1 := Mq1.put 3 (.int .i64 z1) (s' := ⟨ep, n, z0, z1, 0, 0⟩) rfl)
      | (go_at_call 33; (with_reducible refine (HN0.out _ _ _ _ _ _ M0).mono ?_); rintro e w4 ⟨rfl, Mq0⟩; have fz0 := Mq0.f.1 2; have cz0 : w4.cell? ⟨w2.heap.size, 2, none⟩ = some (.int .i64 0) := (by rw [Mq0.sup.cell]; rfl); have Mw0 := Mq0.put 2 (.int .i64 z0) (s' := ⟨ep, n, z0, 0, 0, 0⟩) rfl)
      | (go_at_call 32; (with_reducible refine (HF.out _ _ _ r1a).mono ?_); rintro e w2 ⟨gc, rfl, hgc, cu2, hb2⟩; obtain ⟨q1, q2, q4⟩ := HSec.out w1 A1 c1 w2 hb2; have M0 := HSt.out w1 w2 gc A1 c1 hb1 hgc cu2.out hb2)
      | (go_at_call 31; (with_reducible refine (HG.out _ HB.out).mono ?_); rintro e w1 ⟨A1, c1, rfl, r1, hb1⟩; have r1a := rb_up7 r1.out ((Below.refl _ _).alloc (Nat.le_refl _) (.cells #[.int .i64 k, .int .i64 ep, .int .i64 n, .int .i64 l, .slice A1 m c1] 70)); obtain ⟨t1, t2, t4⟩ := HSec.out w1 A1 c1 _ (Below.refl _ _)))
    refine bodyPost_ret (v := .tuple #[.agg #[.int .i64 ep, .int .i64 n, .int .i64 z0, .int .i64 z1, .int .i64 z2, .int .i64 z3], .int .i64 0]) (by simp [results, Try.results9, go_sem, p0, p1, p2, p3, p4, p5]) rfl ⟨by rw [HV.out]; rfl, below_six M9.below (Nat.le_refl _) _ _ _ _ _ _⟩
theorem supget_any (b : List UInt8) (A : Option Addr) (c : Nat) (w : World) (hr : RB w w.heap.size A b) (hc : b.length ≤ c) (hcm : c ≤ 9223372036854775807) (hl : b.length ≤ 1000000) :
    Calls Try.prog 9 #[.slice A b.length c] w (GivesU (getU b) w) := by
  by_cases h : (getS b).2 = 0
  · exact supget_in b _ A c w rfl hr hc hcm hl h
  · exact supget_err b _ A c w rfl hr hc hcm hl h
end Go.Proofs.Ytkockhggnbfahaa
end
section
set_option linter.unusedVariables false
namespace Go.Proofs.Ytkockhggnbfahaa
open Go.RowKit
theorem Try.refBuild (w : World) : Sem.run Try.prog (Instr.build 90 #[(2, .int .i64 (-1))]) w = .ok (.agg #[.slice none 0 0, .slice none 0 0, .int .i64 (-1), .bool false, .int .i64 0, .int .i64 0, .int .i64 0]) w := by
  kernel_rfl
set_option maxRecDepth 100000 in
set_option maxHeartbeats 4000000 in
theorem rload_any (L : List UInt8) (A : Option Addr) (n c : Nat) (w : World) (hr : RB w w.heap.size A L) (hn : n = L.length) (hc : n ≤ c) (hcm : c ≤ 9223372036854775807) (hm : Dk.mayL L) :
    Calls Try.prog 16 #[.slice A n c] w fun e w' => ∃ g G B, e = .returned (.tuple #[.pointer (some ⟨g, 0, none⟩), .int .i64 0]) ∧ GivesRef (Dk.ofImage L) w w' g G B := by
  obtain ⟨h1, h2, h3⟩ := hm
  rw [← hn] at h1 h2 h3
  obtain ⟨m, hmm⟩ : ∃ m, m = n / 256 := ⟨_, rfl⟩
  have hnm : n = 256 * m := by omega
  obtain ⟨bA, oA, rfl, hbA, hcA⟩ := hr.at_ (by omega)
  have HF : Hid (∀ W, Calls Try.prog 44 #[.int .i64 (m : Int)] W fun e w' => e = .returned (.bool true) ∧ W = w') := fun W => by
    have := may_any (m : Int) W
    rwa [decide_eq_true (by omega)] at this
  have n0 := fun w' => Try.notTrue w'
  have n1 := fun w' => Try.notFalse w'
  have u0 : (0 : Int) ≤ (n : Int) := by omega
  have u1 : (n : Int) ≤ 1000000 := by omega
  have e1 : (n : Int) % 256 = 0 := by omega
  have e2 : (n : Int).tmod 256 = 0 := by rw [Int.tmod_eq_emod_of_nonneg u0]; exact e1
  have e3 : (n : Int) / 256 = (m : Int) := by omega
  have e4 : (n : Int).tdiv 256 = (m : Int) := by rw [Int.tdiv_eq_ediv_of_nonneg u0]; exact e3
  have nb := fun w' => Try.refBuild w'
  obtain ⟨i0, hi0, hz0, hz1, hz2⟩ := info_parts Try.hdrInfo
  obtain ⟨i1, hi1, hy0, hy1, hy2⟩ := info_parts Try.info5
  have HR := Lib.hid hr
  have HN := Lib.hid hn
  have HNM := Lib.hid hnm
  have HC := Lib.hid hc
  have HM : Hid (16 ≤ m ∧ m ≤ 1024) := ⟨by omega, by omega⟩
  have hm1024 : m ≤ 1024 := HM.out.2
  clear hr hn hnm hc hmm h1 h2 h3 hbA hcA
  go_enter Try.func16, Try.ntmps16
  go_wp2_with (first
    | (go_at_call 44; (with_reducible refine (HF.out _).mono ?_); rintro e w1 ⟨rfl, rfl⟩))
  have HL0 : LD w (w.alloc (.cells #[.slice none 0 0, .slice none 0 0, .int .i64 (-1), .bool false, .int .i64 0, .int .i64 0, .int .i64 0] 90)) w.heap.size (fun _ => False) (.slice none 0 0) [] [] :=
    ⟨Blk.new _ _ _, World.ownsRow_nil _ _ _ _, Hdrs.none_, Nat.le_refl _, fun k hk => by simp [Value.ownBlock] at hk, fun k hk => hk.elim, (Below.refl _ _).alloc (Nat.le_refl _) _⟩
  generalize (w.alloc (.cells #[.slice none 0 0, .slice none 0 0, .int .i64 (-1), .bool false, .int .i64 0, .int .i64 0, .int .i64 0] 90)) = W0 at HL0 ⊢
  obtain ⟨g, hg⟩ : ∃ g, g = w.heap.size := ⟨_, rfl⟩
  rw [← hg] at HL0 ⊢
  clear hg e1 e2 e3 e4 u0 u1
  go_loopw [6] (fun x wr => ∃ j : Nat, j ≤ m ∧ x = .int .i64 (j : Int) ∧ ∃ B SV hs, Hid (LD w wr g B SV hs ((Dk.chunks m L).take j))) (fun x _ => m - (intOf x).toNat)
  case atStart => exact ⟨0, by omega, rfl, _, _, _, HL0⟩
  case round =>
    clear HL0
    obtain ⟨j, hj, rfl, B, SV, hs, HD⟩ := hrel
    have u0 : (0 : Int) ≤ (j : Int) := by omega
    by_cases hlt : j < m
    · have u1 : (j : Int) < (m : Int) := by omega
      have hmm := HM.out
      obtain ⟨q0, hq0⟩ : ∃ q0, q0 = 256 * j := ⟨_, rfl⟩
      have y1 : (256 : Int) * (j : Int) = (q0 : Int) := by omega
      have y2 : IntKind.i64.wrap (q0 : Int) = (q0 : Int) := IntWalk.i64_in _ (by omega)
      have y3 : IntKind.i64.wrap ((q0 : Int) + 256) = (q0 : Int) + 256 := IntWalk.i64_in _ (by omega)
      have y4 : (0 : Int) ≤ (q0 : Int) := by omega
      have hnm := HNM.out
      have hnc := HC.out
      have HS1 := fun W => sl_both bA oA n c q0 (q0 + 256) (q0 : Int) ((q0 : Int) + 256) rfl (by omega) (by omega) (by omega) (by omega) W
      rw [show q0 + 256 - q0 = 256 by omega] at HS1
      have hck : (Dk.chunks m L)[j]'(by rw [Dk.chunks_length]; exact hlt) = (L.drop q0).take 256 := by rw [Dk.chunks_get m L j hlt, hq0]
      obtain ⟨X, hX⟩ : ∃ X, X = (L.drop q0).take 256 := ⟨_, rfl⟩
      have hXl : X.length = 256 := by rw [hX, List.length_take, List.length_drop, ← HN.out]; omega
      have htk : Hid ((Dk.chunks m L).take (j + 1) = (Dk.chunks m L).take j ++ [X]) := by
        show _ = _
        rw [List.take_succ_eq_append_getElem (by rw [Dk.chunks_length]; exact hlt), hck, ← hX]
      have hlen : Hid (((Dk.chunks m L).take j).length = j) := by show _ = _; rw [List.length_take, Dk.chunks_length]; omega
      have HRd : Hid (∀ W, Below wr.heap.size wr W → Reads (W.alloc (.cells #[] 5)) w.heap.size 1 (some ⟨bA, oA + q0, none⟩) 256 (cells X)) := fun W hb => by
        have h1 := (HR.out.below HD.out.below).below (hb.mono HD.out.below.size)
        have h2 := rb_cut h1 (k := q0) (c := L.length + 1) (by rw [← HN.out]; omega) (by omega)
        rw [if_neg (by rw [← HN.out]; omega)] at h2
        simp only [Option.map_some, Nat.mul_one, add_at] at h2
        have h3 := (rb_take h2 256 (by rw [List.length_drop, ← HN.out]; omega)).alloc (Nat.le_trans HD.out.below.size hb.size) (.cells #[] 5)
        rw [← hX] at h3
        unfold RB at h3
        rw [hXl] at h3
        exact h3
      have HX := Lib.hid hXl
      have hown := HD.out.own
      rw [hlen.out] at hown
      have HO := Lib.hid hown
      clear hnm hnc hq0 hck hX hXl hown hmm
      go_wp2
      have hbW : Below wr.heap.size wr wr.drew := (Below.refl _ _).drew
      have c1 : wr.drew.cell? ⟨g, 0, none⟩ = some SV := HD.out.c0
      refine region_T (fun W => W.cell? ⟨g, 0, none⟩ = some SV) (fun k => decide (16 ≤ k)) (by kernel_rfl) ?_
      generalize wr.drew = W at hbW c1 ⊢
      have c1a : (W.alloc (.cells #[] 5)).cell? ⟨g, 0, none⟩ = some SV := (HD.out.under (hbW.alloc hbW.size _)).c0
      refine any_asT (a' := ⟨#[.slice (some ⟨bA, oA, none⟩) n c, undef, .pointer none, .int .i64 0, .int .i64 (m : Int), .pointer (some ⟨g, 0, none⟩), .int .i64 (j : Int), .slice (some ⟨bA, oA, none⟩) n c, .int .i64 (n : Int), .int .i64 (m : Int), .slice (some ⟨bA, oA, none⟩) n c, .int .i64 (n : Int), .int .i64 0, .bool false, .bool false, .int .i64 (m : Int), .bool true, .bool false, .bool false, .agg #[.slice none 0 0, .slice none 0 0, .int .i64 (-1), .bool false, .int .i64 0, .int .i64 0, .int .i64 0], .pointer (some ⟨g, 0, none⟩), .int .i64 (j : Int), .int .i64 (m : Int), .bool true, u24, u25, u26, u27, u28, u29, u30, u31, u32, u33, u34, u35, u36, u37, u38, u39, u40, u41, u42, u43, undef], []⟩) (by kernel_rfl) (listed' := #[false, false, false, false, false, false, false, false, false, false, false, false, false, false, false, false, false, false, false]) (by kernel_rfl) ?_
      refine any_take (i := 0) (.pointer (some ⟨g, 0, none⟩)) rfl (by kernel_rfl) (by kernel_rfl) (by kernel_rfl) rfl (by kernel_rfl) (by kernel_rfl) (fun W hW => by kernel_rfl) c1 (listed' := #[true, false, false, false, false, false, false, false, false, false, false, false, false, false, false, false, false, false, false]) (a' := ⟨#[.slice (some ⟨bA, oA, none⟩) n c, undef, .pointer none, .int .i64 0, .int .i64 (m : Int), .pointer (some ⟨g, 0, none⟩), .int .i64 (j : Int), .slice (some ⟨bA, oA, none⟩) n c, .int .i64 (n : Int), .int .i64 (m : Int), .slice (some ⟨bA, oA, none⟩) n c, .int .i64 (n : Int), .int .i64 0, .bool false, .bool false, .int .i64 (m : Int), .bool true, .bool false, .bool false, .agg #[.slice none 0 0, .slice none 0 0, .int .i64 (-1), .bool false, .int .i64 0, .int .i64 0, .int .i64 0], .pointer (some ⟨g, 0, none⟩), .int .i64 (j : Int), .int .i64 (m : Int), .bool true, u24, u25, .pointer (some ⟨g, 0, none⟩), u27, u28, u29, u30, u31, u32, u33, u34, u35, u36, u37, u38, u39, u40, u41, u42, u43, undef], []⟩) (by kernel_rfl) (by kernel_rfl) (fun _ _ _ h => h) ?_
      refine any_take (i := 1) (.pointer (some ⟨g, 0, none⟩)) rfl (by kernel_rfl) (by kernel_rfl) (by kernel_rfl) rfl (by kernel_rfl) (by kernel_rfl) (fun W hW => by kernel_rfl) c1 (listed' := #[true, true, false, false, false, false, false, false, false, false, false, false, false, false, false, false, false, false, false]) (a' := ⟨#[.slice (some ⟨bA, oA, none⟩) n c, undef, .pointer none, .int .i64 0, .int .i64 (m : Int), .pointer (some ⟨g, 0, none⟩), .int .i64 (j : Int), .slice (some ⟨bA, oA, none⟩) n c, .int .i64 (n : Int), .int .i64 (m : Int), .slice (some ⟨bA, oA, none⟩) n c, .int .i64 (n : Int), .int .i64 0, .bool false, .bool false, .int .i64 (m : Int), .bool true, .bool false, .bool false, .agg #[.slice none 0 0, .slice none 0 0, .int .i64 (-1), .bool false, .int .i64 0, .int .i64 0, .int .i64 0], .pointer (some ⟨g, 0, none⟩), .int .i64 (j : Int), .int .i64 (m : Int), .bool true, u24, u25, .pointer (some ⟨g, 0, none⟩), .pointer (some ⟨g, 0, none⟩), u28, u29, u30, u31, u32, u33, u34, u35, u36, u37, u38, u39, u40, u41, u42, u43, undef], []⟩) (by kernel_rfl) (by kernel_rfl) (fun _ _ _ h => h) ?_
      refine any_take (i := 2) (.pointer (some ⟨g, 0, none⟩)) rfl (by kernel_rfl) (by kernel_rfl) (by kernel_rfl) rfl (by kernel_rfl) (by kernel_rfl) (fun W hW => by kernel_rfl) c1 (listed' := #[true, true, true, false, false, false, false, false, false, false, false, false, false, false, false, false, false, false, false]) (a' := ⟨#[.slice (some ⟨bA, oA, none⟩) n c, undef, .pointer none, .int .i64 0, .int .i64 (m : Int), .pointer (some ⟨g, 0, none⟩), .int .i64 (j : Int), .slice (some ⟨bA, oA, none⟩) n c, .int .i64 (n : Int), .int .i64 (m : Int), .slice (some ⟨bA, oA, none⟩) n c, .int .i64 (n : Int), .int .i64 0, .bool false, .bool false, .int .i64 (m : Int), .bool true, .bool false, .bool false, .agg #[.slice none 0 0, .slice none 0 0, .int .i64 (-1), .bool false, .int .i64 0, .int .i64 0, .int .i64 0], .pointer (some ⟨g, 0, none⟩), .int .i64 (j : Int), .int .i64 (m : Int), .bool true, u24, u25, .pointer (some ⟨g, 0, none⟩), .pointer (some ⟨g, 0, none⟩), .pointer (some ⟨g, 0, none⟩), u29, u30, u31, u32, u33, u34, u35, u36, u37, u38, u39, u40, u41, u42, u43, undef], []⟩) (by kernel_rfl) (by kernel_rfl) (fun _ _ _ h => h) ?_
      refine any_take (i := 3) (.pointer (some ⟨g, 0, none⟩)) rfl (by kernel_rfl) (by kernel_rfl) (by kernel_rfl) rfl (by kernel_rfl) (by kernel_rfl) (fun W hW => by kernel_rfl) c1 (listed' := #[true, true, true, true, false, false, false, false, false, false, false, false, false, false, false, false, false, false, false]) (a' := ⟨#[.slice (some ⟨bA, oA, none⟩) n c, undef, .pointer none, .int .i64 0, .int .i64 (m : Int), .pointer (some ⟨g, 0, none⟩), .int .i64 (j : Int), .slice (some ⟨bA, oA, none⟩) n c, .int .i64 (n : Int), .int .i64 (m : Int), .slice (some ⟨bA, oA, none⟩) n c, .int .i64 (n : Int), .int .i64 0, .bool false, .bool false, .int .i64 (m : Int), .bool true, .bool false, .bool false, .agg #[.slice none 0 0, .slice none 0 0, .int .i64 (-1), .bool false, .int .i64 0, .int .i64 0, .int .i64 0], .pointer (some ⟨g, 0, none⟩), .int .i64 (j : Int), .int .i64 (m : Int), .bool true, u24, u25, .pointer (some ⟨g, 0, none⟩), .pointer (some ⟨g, 0, none⟩), .pointer (some ⟨g, 0, none⟩), .pointer (some ⟨g, 0, none⟩), u30, u31, u32, u33, u34, u35, u36, u37, u38, u39, u40, u41, u42, u43, undef], []⟩) (by kernel_rfl) (by kernel_rfl) (fun _ _ _ h => h) ?_
      refine any_take (i := 4) (SV) rfl (by kernel_rfl) (by kernel_rfl) (by kernel_rfl) rfl (by kernel_rfl) (by kernel_rfl) (fun W hW => cell_run 85 (.tmp 29) ⟨g, 0, none⟩ SV _ (by kernel_rfl) (by kernel_rfl) hW Try.underlying85 rfl (by kernel_rfl)) c1 (listed' := #[true, true, true, true, true, false, false, false, false, false, false, false, false, false, false, false, false, false, false]) (a' := ⟨#[.slice (some ⟨bA, oA, none⟩) n c, undef, .pointer none, .int .i64 0, .int .i64 (m : Int), .pointer (some ⟨g, 0, none⟩), .int .i64 (j : Int), .slice (some ⟨bA, oA, none⟩) n c, .int .i64 (n : Int), .int .i64 (m : Int), .slice (some ⟨bA, oA, none⟩) n c, .int .i64 (n : Int), .int .i64 0, .bool false, .bool false, .int .i64 (m : Int), .bool true, .bool false, .bool false, .agg #[.slice none 0 0, .slice none 0 0, .int .i64 (-1), .bool false, .int .i64 0, .int .i64 0, .int .i64 0], .pointer (some ⟨g, 0, none⟩), .int .i64 (j : Int), .int .i64 (m : Int), .bool true, u24, u25, .pointer (some ⟨g, 0, none⟩), .pointer (some ⟨g, 0, none⟩), .pointer (some ⟨g, 0, none⟩), .pointer (some ⟨g, 0, none⟩), SV, u31, u32, u33, u34, u35, u36, u37, u38, u39, u40, u41, u42, u43, undef], []⟩) (by kernel_rfl) (by kernel_rfl) (fun _ _ _ h => h) ?_
      refine any_take (i := 6) (.slice (some ⟨bA, oA, none⟩) n c) rfl (by kernel_rfl) (by kernel_rfl) (by kernel_rfl) rfl (by kernel_rfl) (by kernel_rfl) (fun W hW => by kernel_rfl) c1 (listed' := #[true, true, true, true, true, false, true, false, false, false, false, false, false, false, false, false, false, false, false]) (a' := ⟨#[.slice (some ⟨bA, oA, none⟩) n c, undef, .pointer none, .int .i64 0, .int .i64 (m : Int), .pointer (some ⟨g, 0, none⟩), .int .i64 (j : Int), .slice (some ⟨bA, oA, none⟩) n c, .int .i64 (n : Int), .int .i64 (m : Int), .slice (some ⟨bA, oA, none⟩) n c, .int .i64 (n : Int), .int .i64 0, .bool false, .bool false, .int .i64 (m : Int), .bool true, .bool false, .bool false, .agg #[.slice none 0 0, .slice none 0 0, .int .i64 (-1), .bool false, .int .i64 0, .int .i64 0, .int .i64 0], .pointer (some ⟨g, 0, none⟩), .int .i64 (j : Int), .int .i64 (m : Int), .bool true, u24, u25, .pointer (some ⟨g, 0, none⟩), .pointer (some ⟨g, 0, none⟩), .pointer (some ⟨g, 0, none⟩), .pointer (some ⟨g, 0, none⟩), SV, u31, .slice (some ⟨bA, oA, none⟩) n c, u33, u34, u35, u36, u37, u38, u39, u40, u41, u42, u43, undef], []⟩) (by kernel_rfl) (by kernel_rfl) (fun _ _ _ h => h) ?_
      refine any_take (i := 7) (.int .i64 (j : Int)) rfl (by kernel_rfl) (by kernel_rfl) (by kernel_rfl) rfl (by kernel_rfl) (by kernel_rfl) (fun W hW => by kernel_rfl) c1 (listed' := #[true, true, true, true, true, false, true, true, false, false, false, false, false, false, false, false, false, false, false]) (a' := ⟨#[.slice (some ⟨bA, oA, none⟩) n c, undef, .pointer none, .int .i64 0, .int .i64 (m : Int), .pointer (some ⟨g, 0, none⟩), .int .i64 (j : Int), .slice (some ⟨bA, oA, none⟩) n c, .int .i64 (n : Int), .int .i64 (m : Int), .slice (some ⟨bA, oA, none⟩) n c, .int .i64 (n : Int), .int .i64 0, .bool false, .bool false, .int .i64 (m : Int), .bool true, .bool false, .bool false, .agg #[.slice none 0 0, .slice none 0 0, .int .i64 (-1), .bool false, .int .i64 0, .int .i64 0, .int .i64 0], .pointer (some ⟨g, 0, none⟩), .int .i64 (j : Int), .int .i64 (m : Int), .bool true, u24, u25, .pointer (some ⟨g, 0, none⟩), .pointer (some ⟨g, 0, none⟩), .pointer (some ⟨g, 0, none⟩), .pointer (some ⟨g, 0, none⟩), SV, u31, .slice (some ⟨bA, oA, none⟩) n c, .int .i64 (j : Int), u34, u35, u36, u37, u38, u39, u40, u41, u42, u43, undef], []⟩) (by kernel_rfl) (by kernel_rfl) (fun _ _ _ h => h) ?_
      refine any_take (i := 8) (.int .i64 (q0 : Int)) rfl (by kernel_rfl) (by kernel_rfl) (by kernel_rfl) rfl (by kernel_rfl) (by kernel_rfl) (fun W hW => by go_simp) c1 (listed' := #[true, true, true, true, true, false, true, true, true, false, false, false, false, false, false, false, false, false, false]) (a' := ⟨#[.slice (some ⟨bA, oA, none⟩) n c, undef, .pointer none, .int .i64 0, .int .i64 (m : Int), .pointer (some ⟨g, 0, none⟩), .int .i64 (j : Int), .slice (some ⟨bA, oA, none⟩) n c, .int .i64 (n : Int), .int .i64 (m : Int), .slice (some ⟨bA, oA, none⟩) n c, .int .i64 (n : Int), .int .i64 0, .bool false, .bool false, .int .i64 (m : Int), .bool true, .bool false, .bool false, .agg #[.slice none 0 0, .slice none 0 0, .int .i64 (-1), .bool false, .int .i64 0, .int .i64 0, .int .i64 0], .pointer (some ⟨g, 0, none⟩), .int .i64 (j : Int), .int .i64 (m : Int), .bool true, u24, u25, .pointer (some ⟨g, 0, none⟩), .pointer (some ⟨g, 0, none⟩), .pointer (some ⟨g, 0, none⟩), .pointer (some ⟨g, 0, none⟩), SV, u31, .slice (some ⟨bA, oA, none⟩) n c, .int .i64 (j : Int), .int .i64 (q0 : Int), u35, u36, u37, u38, u39, u40, u41, u42, u43, undef], []⟩) (by kernel_rfl) (by kernel_rfl) (fun _ _ _ h => h) ?_
      refine any_take (i := 9) (.int .i64 (j : Int)) rfl (by kernel_rfl) (by kernel_rfl) (by kernel_rfl) rfl (by kernel_rfl) (by kernel_rfl) (fun W hW => by kernel_rfl) c1 (listed' := #[true, true, true, true, true, false, true, true, true, true, false, false, false, false, false, false, false, false, false]) (a' := ⟨#[.slice (some ⟨bA, oA, none⟩) n c, undef, .pointer none, .int .i64 0, .int .i64 (m : Int), .pointer (some ⟨g, 0, none⟩), .int .i64 (j : Int), .slice (some ⟨bA, oA, none⟩) n c, .int .i64 (n : Int), .int .i64 (m : Int), .slice (some ⟨bA, oA, none⟩) n c, .int .i64 (n : Int), .int .i64 0, .bool false, .bool false, .int .i64 (m : Int), .bool true, .bool false, .bool false, .agg #[.slice none 0 0, .slice none 0 0, .int .i64 (-1), .bool false, .int .i64 0, .int .i64 0, .int .i64 0], .pointer (some ⟨g, 0, none⟩), .int .i64 (j : Int), .int .i64 (m : Int), .bool true, u24, u25, .pointer (some ⟨g, 0, none⟩), .pointer (some ⟨g, 0, none⟩), .pointer (some ⟨g, 0, none⟩), .pointer (some ⟨g, 0, none⟩), SV, u31, .slice (some ⟨bA, oA, none⟩) n c, .int .i64 (j : Int), .int .i64 (q0 : Int), .int .i64 (j : Int), u36, u37, u38, u39, u40, u41, u42, u43, undef], []⟩) (by kernel_rfl) (by kernel_rfl) (fun _ _ _ h => h) ?_
      refine any_take (i := 10) (.int .i64 (q0 : Int)) rfl (by kernel_rfl) (by kernel_rfl) (by kernel_rfl) rfl (by kernel_rfl) (by kernel_rfl) (fun W hW => by go_simp) c1 (listed' := #[true, true, true, true, true, false, true, true, true, true, true, false, false, false, false, false, false, false, false]) (a' := ⟨#[.slice (some ⟨bA, oA, none⟩) n c, undef, .pointer none, .int .i64 0, .int .i64 (m : Int), .pointer (some ⟨g, 0, none⟩), .int .i64 (j : Int), .slice (some ⟨bA, oA, none⟩) n c, .int .i64 (n : Int), .int .i64 (m : Int), .slice (some ⟨bA, oA, none⟩) n c, .int .i64 (n : Int), .int .i64 0, .bool false, .bool false, .int .i64 (m : Int), .bool true, .bool false, .bool false, .agg #[.slice none 0 0, .slice none 0 0, .int .i64 (-1), .bool false, .int .i64 0, .int .i64 0, .int .i64 0], .pointer (some ⟨g, 0, none⟩), .int .i64 (j : Int), .int .i64 (m : Int), .bool true, u24, u25, .pointer (some ⟨g, 0, none⟩), .pointer (some ⟨g, 0, none⟩), .pointer (some ⟨g, 0, none⟩), .pointer (some ⟨g, 0, none⟩), SV, u31, .slice (some ⟨bA, oA, none⟩) n c, .int .i64 (j : Int), .int .i64 (q0 : Int), .int .i64 (j : Int), .int .i64 (q0 : Int), u37, u38, u39, u40, u41, u42, u43, undef], []⟩) (by kernel_rfl) (by kernel_rfl) (fun _ _ _ h => h) ?_
      refine any_take (i := 11) (.int .i64 ((q0 : Int) + 256)) rfl (by kernel_rfl) (by kernel_rfl) (by kernel_rfl) rfl (by kernel_rfl) (by kernel_rfl) (fun W hW => by go_simp) c1 (listed' := #[true, true, true, true, true, false, true, true, true, true, true, true, false, false, false, false, false, false, false]) (a' := ⟨#[.slice (some ⟨bA, oA, none⟩) n c, undef, .pointer none, .int .i64 0, .int .i64 (m : Int), .pointer (some ⟨g, 0, none⟩), .int .i64 (j : Int), .slice (some ⟨bA, oA, none⟩) n c, .int .i64 (n : Int), .int .i64 (m : Int), .slice (some ⟨bA, oA, none⟩) n c, .int .i64 (n : Int), .int .i64 0, .bool false, .bool false, .int .i64 (m : Int), .bool true, .bool false, .bool false, .agg #[.slice none 0 0, .slice none 0 0, .int .i64 (-1), .bool false, .int .i64 0, .int .i64 0, .int .i64 0], .pointer (some ⟨g, 0, none⟩), .int .i64 (j : Int), .int .i64 (m : Int), .bool true, u24, u25, .pointer (some ⟨g, 0, none⟩), .pointer (some ⟨g, 0, none⟩), .pointer (some ⟨g, 0, none⟩), .pointer (some ⟨g, 0, none⟩), SV, u31, .slice (some ⟨bA, oA, none⟩) n c, .int .i64 (j : Int), .int .i64 (q0 : Int), .int .i64 (j : Int), .int .i64 (q0 : Int), .int .i64 ((q0 : Int) + 256), u38, u39, u40, u41, u42, u43, undef], []⟩) (by kernel_rfl) (by kernel_rfl) (fun _ _ _ h => h) ?_
      refine any_take (i := 12) (.slice (some ⟨bA, oA + q0, none⟩) 256 (c - q0)) rfl (by kernel_rfl) (by kernel_rfl) (by kernel_rfl) rfl (by kernel_rfl) (by kernel_rfl) (fun W hW => slice_run 26 (.tmp 32) (some (.tmp 34)) (some (.tmp 37)) rfl _ _ _ _ (by kernel_rfl) (by kernel_rfl) (by kernel_rfl) (HS1 W)) c1 (listed' := #[true, true, true, true, true, false, true, true, true, true, true, true, true, false, false, false, false, false, false]) (a' := ⟨#[.slice (some ⟨bA, oA, none⟩) n c, undef, .pointer none, .int .i64 0, .int .i64 (m : Int), .pointer (some ⟨g, 0, none⟩), .int .i64 (j : Int), .slice (some ⟨bA, oA, none⟩) n c, .int .i64 (n : Int), .int .i64 (m : Int), .slice (some ⟨bA, oA, none⟩) n c, .int .i64 (n : Int), .int .i64 0, .bool false, .bool false, .int .i64 (m : Int), .bool true, .bool false, .bool false, .agg #[.slice none 0 0, .slice none 0 0, .int .i64 (-1), .bool false, .int .i64 0, .int .i64 0, .int .i64 0], .pointer (some ⟨g, 0, none⟩), .int .i64 (j : Int), .int .i64 (m : Int), .bool true, u24, u25, .pointer (some ⟨g, 0, none⟩), .pointer (some ⟨g, 0, none⟩), .pointer (some ⟨g, 0, none⟩), .pointer (some ⟨g, 0, none⟩), SV, u31, .slice (some ⟨bA, oA, none⟩) n c, .int .i64 (j : Int), .int .i64 (q0 : Int), .int .i64 (j : Int), .int .i64 (q0 : Int), .int .i64 ((q0 : Int) + 256), .slice (some ⟨bA, oA + q0, none⟩) 256 (c - q0), u39, u40, u41, u42, u43, undef], []⟩) (by kernel_rfl) (by kernel_rfl) (fun _ _ _ h => h) ?_
      refine any_comes (i := 5) (by kernel_rfl) (op_value (a' := ⟨#[.slice (some ⟨bA, oA, none⟩) n c, undef, .pointer none, .int .i64 0, .int .i64 (m : Int), .pointer (some ⟨g, 0, none⟩), .int .i64 (j : Int), .slice (some ⟨bA, oA, none⟩) n c, .int .i64 (n : Int), .int .i64 (m : Int), .slice (some ⟨bA, oA, none⟩) n c, .int .i64 (n : Int), .int .i64 0, .bool false, .bool false, .int .i64 (m : Int), .bool true, .bool false, .bool false, .agg #[.slice none 0 0, .slice none 0 0, .int .i64 (-1), .bool false, .int .i64 0, .int .i64 0, .int .i64 0], .pointer (some ⟨g, 0, none⟩), .int .i64 (j : Int), .int .i64 (m : Int), .bool true, u24, u25, .pointer (some ⟨g, 0, none⟩), .pointer (some ⟨g, 0, none⟩), .pointer (some ⟨g, 0, none⟩), .pointer (some ⟨g, 0, none⟩), SV, .slice (some ⟨W.heap.size, 0, none⟩) 0 0, .slice (some ⟨bA, oA, none⟩) n c, .int .i64 (j : Int), .int .i64 (q0 : Int), .int .i64 (j : Int), .int .i64 (q0 : Int), .int .i64 ((q0 : Int) + 256), .slice (some ⟨bA, oA + q0, none⟩) 256 (c - q0), u39, u40, u41, u42, u43, undef], []⟩) (.slice (some ⟨W.heap.size, 0, none⟩) 0 0) rfl (by kernel_rfl) (by kernel_rfl) (by kernel_rfl) ⟨c1a, ?_⟩)
      refine any_comes (i := 13) (by kernel_rfl) (op_append rfl (by kernel_rfl) (.tmp 31) (.tmp 38) 26 rfl W.heap.size 5 i1 _ 1 1 Try.underlying26 hi1 hy0 hy1 hy2 rfl (by omega) (.slice (some ⟨W.heap.size, 0, none⟩) 0 0) 0 [] (by kernel_rfl) (World.ownsRow_made W #[] 0 (Nat.le_refl _) (by decide) rfl) w.heap.size (some ⟨bA, oA + q0, none⟩) 256 (c - q0) (cells X) (by kernel_rfl) (HRd.out W hbW) (cells_one _) (by unfold maxLen; omega) (by omega) (by simp) ?_)
      intro v1 w1 ho1 hg1 hat1
      obtain ⟨q, cq, rfl, hb1, c1b, hH1, hq1, hq2⟩ := load_new HD.out hbW HX.out ho1 hg1
      refine ⟨c1b, ?_⟩
      refine any_asT (a' := ⟨#[.slice (some ⟨bA, oA, none⟩) n c, undef, .pointer none, .int .i64 0, .int .i64 (m : Int), .pointer (some ⟨g, 0, none⟩), .int .i64 (j : Int), .slice (some ⟨bA, oA, none⟩) n c, .int .i64 (n : Int), .int .i64 (m : Int), .slice (some ⟨bA, oA, none⟩) n c, .int .i64 (n : Int), .int .i64 0, .bool false, .bool false, .int .i64 (m : Int), .bool true, .bool false, .bool false, .agg #[.slice none 0 0, .slice none 0 0, .int .i64 (-1), .bool false, .int .i64 0, .int .i64 0, .int .i64 0], .pointer (some ⟨g, 0, none⟩), .int .i64 (j : Int), .int .i64 (m : Int), .bool true, u24, u25, .pointer (some ⟨g, 0, none⟩), .pointer (some ⟨g, 0, none⟩), .pointer (some ⟨g, 0, none⟩), .pointer (some ⟨g, 0, none⟩), SV, .slice (some ⟨W.heap.size, 0, none⟩) 0 0, .slice (some ⟨bA, oA, none⟩) n c, .int .i64 (j : Int), .int .i64 (q0 : Int), .int .i64 (j : Int), .int .i64 (q0 : Int), .int .i64 ((q0 : Int) + 256), .slice (some ⟨bA, oA + q0, none⟩) 256 (c - q0), .slice (some ⟨q, 0, none⟩) 256 cq, u40, u41, u42, u43, undef], []⟩) (by kernel_rfl) (listed' := #[true, true, true, true, true, true, true, true, true, true, true, true, true, true, false, false, false, false, false]) (by kernel_rfl) ?_
      have c1c : (w1.alloc (.cells #[.slice (some ⟨q, 0, none⟩) 256 cq] 26)).cell? ⟨g, 0, none⟩ = some SV := (HD.out.under (hb1.alloc hb1.size _)).c0
      refine any_comes (i := 14) (by kernel_rfl) (op_value (a' := ⟨#[.slice (some ⟨bA, oA, none⟩) n c, undef, .pointer none, .int .i64 0, .int .i64 (m : Int), .pointer (some ⟨g, 0, none⟩), .int .i64 (j : Int), .slice (some ⟨bA, oA, none⟩) n c, .int .i64 (n : Int), .int .i64 (m : Int), .slice (some ⟨bA, oA, none⟩) n c, .int .i64 (n : Int), .int .i64 0, .bool false, .bool false, .int .i64 (m : Int), .bool true, .bool false, .bool false, .agg #[.slice none 0 0, .slice none 0 0, .int .i64 (-1), .bool false, .int .i64 0, .int .i64 0, .int .i64 0], .pointer (some ⟨g, 0, none⟩), .int .i64 (j : Int), .int .i64 (m : Int), .bool true, u24, u25, .pointer (some ⟨g, 0, none⟩), .pointer (some ⟨g, 0, none⟩), .pointer (some ⟨g, 0, none⟩), .pointer (some ⟨g, 0, none⟩), SV, .slice (some ⟨W.heap.size, 0, none⟩) 0 0, .slice (some ⟨bA, oA, none⟩) n c, .int .i64 (j : Int), .int .i64 (q0 : Int), .int .i64 (j : Int), .int .i64 (q0 : Int), .int .i64 ((q0 : Int) + 256), .slice (some ⟨bA, oA + q0, none⟩) 256 (c - q0), .slice (some ⟨q, 0, none⟩) 256 cq, .slice (some ⟨w1.heap.size, 0, none⟩) 1 1, u41, u42, u43, undef], []⟩) (.slice (some ⟨w1.heap.size, 0, none⟩) 1 1) rfl (by kernel_rfl) (by kernel_rfl) (by kernel_rfl) ⟨c1c, ?_⟩)
      refine any_comes (i := 15) (by kernel_rfl) (op_append rfl (by kernel_rfl) (.tmp 30) (.tmp 40) 85 rfl 0 26 i0 _ 1 24 Try.underlying85 hi0 hz0 hz1 hz2 rfl (by omega) SV j hs (by kernel_rfl) (own_turns HO.out (Turns.of_below (hb1.alloc hb1.size _) (fun _ => False)) (fun _ _ h => h)) (w1.heap.size + 1) (some ⟨w1.heap.size, 0, none⟩) 1 1 [.slice (some ⟨q, 0, none⟩) 256 cq] (by kernel_rfl) (one_new w1 _ _) (fun u hu => by simp at hu; rw [hu]; rfl) (by have := HM.out; unfold maxLen; omega) (by have := HM.out; omega) (Nat.zero_le _) ?_)
      intro V' w5 ho5 hg5 hat5
      obtain ⟨gv, cv, hv5, _⟩ := ho5.form (by omega)
      subst hv5
      obtain ⟨c15, f15, hR5⟩ := load_mid HD.out hb1 hH1 hq1 hq2 (by rw [hlen.out]; exact ho5) hg5 hat5
      refine ⟨c15, ?_⟩
      refine any_asT (a' := ⟨#[.slice (some ⟨bA, oA, none⟩) n c, undef, .pointer none, .int .i64 0, .int .i64 (m : Int), .pointer (some ⟨g, 0, none⟩), .int .i64 (j : Int), .slice (some ⟨bA, oA, none⟩) n c, .int .i64 (n : Int), .int .i64 (m : Int), .slice (some ⟨bA, oA, none⟩) n c, .int .i64 (n : Int), .int .i64 0, .bool false, .bool false, .int .i64 (m : Int), .bool true, .bool false, .bool false, .agg #[.slice none 0 0, .slice none 0 0, .int .i64 (-1), .bool false, .int .i64 0, .int .i64 0, .int .i64 0], .pointer (some ⟨g, 0, none⟩), .int .i64 (j : Int), .int .i64 (m : Int), .bool true, u24, u25, .pointer (some ⟨g, 0, none⟩), .pointer (some ⟨g, 0, none⟩), .pointer (some ⟨g, 0, none⟩), .pointer (some ⟨g, 0, none⟩), SV, .slice (some ⟨W.heap.size, 0, none⟩) 0 0, .slice (some ⟨bA, oA, none⟩) n c, .int .i64 (j : Int), .int .i64 (q0 : Int), .int .i64 (j : Int), .int .i64 (q0 : Int), .int .i64 ((q0 : Int) + 256), .slice (some ⟨bA, oA + q0, none⟩) 256 (c - q0), .slice (some ⟨q, 0, none⟩) 256 cq, .slice (some ⟨w1.heap.size, 0, none⟩) 1 1, .slice (some ⟨gv, 0, none⟩) (j + 1) cv, u42, u43, undef], []⟩) (by kernel_rfl) (listed' := #[true, true, true, true, true, true, true, true, true, true, true, true, true, true, true, true, false, false, false]) (by kernel_rfl) ?_
      refine any_left (by kernel_rfl) ?_
      refine wpAny_tail 16 (by kernel_rfl) (by kernel_rfl) ?_
      simp only [List.drop_succ_cons, List.drop_zero]
      rw [← htk.out] at hR5
      have HR5 := Lib.hid hR5
      clear hR5 hbW c1 c1a c1b c1c hb1 hH1 hq1 hq2 ho1 hg1 hat1 ho5 hg5 hat5 hi0 hz0 hz1 hz2 hi1 hy0 hy1 hy2 y1 y2 y3 y4 HS1
      go_wp2
      obtain ⟨B5, hR5⟩ := HR5.out.out
      refine ⟨⟨j + 1, by omega, by go_num, B5, _, _, hR5⟩, ?_⟩
      simp [intOf]; omega
    · have hjm : j = m := by omega
      have hD := HD.out
      rw [hjm, List.take_of_length_le (by rw [Dk.chunks_length]; exact Nat.le_refl _)] at hD
      have HE := Lib.hid (hD.end_ (by rw [← HN.out]; exact HNM.out) HM.out.1 HM.out.2)
      have d0 : decide ((j : Int) < (m : Int)) = false := decide_eq_false (by omega)
      have d1 : decide (j < m) = false := decide_eq_false hlt
      clear hjm hD HD hlt hj
      go_wp2
      go_ret2
      obtain ⟨G, B', hE⟩ := HE.out
      exact ⟨g, G, B', rfl, hE⟩
end Go.Proofs.Ytkockhggnbfahaa
end
section
set_option linter.unusedVariables false
namespace Go.Proofs.Ytkockhggnbfahaa
open Go.RowKit
def AtV (w W : World) (g : Nat) (d : Dk) (vs : List (Nat × Pu)) : Prop := ∃ F, Has w W g F d ∧ ∀ v ∈ vs, Blk W v.1 25 (supC v.2) ∧ ¬ F v.1
section
variable {w W W' : World} {g : Nat} {d d' : Dk} {vs : List (Nat × Pu)}
theorem AtV.of {F F' : Nat → Prop} (hH : Has w W g F d) (hv : ∀ v ∈ vs, Blk W v.1 25 (supC v.2) ∧ ¬ F v.1) (h1 : PDisk W' g F' d') (h2 : Turns W W' F F') : AtV w W' g d' vs := by
  refine ⟨F', hH.turned h1 h2, fun v hvv => ?_⟩
  obtain ⟨hb, hn⟩ := hv v hvv
  refine ⟨hb.turns h2 hn, fun hf => ?_⟩
  rcases h2.foot _ hf with h3 | h3
  · exact hn h3
  · exact absurd hb.lt (by omega)
theorem AtV.more (h : AtV w W g d vs) (hb : Below W.heap.size W W') : AtV w W' g d vs := by
  obtain ⟨F, hH, hv⟩ := h
  exact AtV.of hH hv (hH.disk.below hb) (Turns.of_below hb F)
theorem AtV.put (h : AtV w W g d vs) (s : Pu) : AtV w (W.alloc (.cells (supC s) 25)) g d ((W.heap.size, s) :: vs) := by
  obtain ⟨F, hH, hv⟩ := h
  have hb : Below W.heap.size W (W.alloc (.cells (supC s) 25)) := (Below.refl _ _).alloc (Nat.le_refl _) _
  refine ⟨F, hH.more hb, fun v hvv => ?_⟩
  rcases List.mem_cons.1 hvv with rfl | hvv
  · exact ⟨Blk.new W _ _, fun hf => by have := hH.flt _ hf; simp only at this; omega⟩
  · exact ⟨(hv v hvv).1.below hb (hv v hvv).1.lt, (hv v hvv).2⟩
theorem AtV.below (h : AtV w W g d vs) : Below w.heap.size w W := by obtain ⟨F, hH, _⟩ := h; exact hH.below
theorem AtV.var (h : AtV w W g d vs) {b : Nat} {s : Pu} (hv : (b, s) ∈ vs) : W.cell? ⟨b, 0, none⟩ = some (.int .i64 s.gen) ∧ W.cell? ⟨b, 1, none⟩ = some (.int .i64 s.blocks) ∧ W.cell? ⟨b, 2, none⟩ = some (.int .i64 s.log) ∧ W.cell? ⟨b, 3, none⟩ = some (.int .i64 s.first) ∧ W.cell? ⟨b, 4, none⟩ = some (.int .i64 s.size) ∧ W.cell? ⟨b, 5, none⟩ = some (.int .i64 s.owner) := by
  obtain ⟨F, hH, hvs⟩ := h
  have hb := (hvs _ hv).1
  exact ⟨by rw [hb.cell]; rfl, by rw [hb.cell]; rfl, by rw [hb.cell]; rfl, by rw [hb.cell]; rfl, by rw [hb.cell]; rfl, by rw [hb.cell]; rfl⟩
theorem AtV.put2 (h : AtV w W g d vs) (s : Pu) {b : Nat} (hb : b = W.heap.size) : AtV w (W.alloc (.cells (supC s) 25)) g d ((b, s) :: vs) := by subst hb; exact h.put s
def AtB (w W : World) (g : Nat) (d : Dk) (vs : List (Nat × Pu)) (b : Nat) : Prop := ∃ F, Has w W g F d ∧ (∀ v ∈ vs, Blk W v.1 25 (supC v.2) ∧ ¬ F v.1) ∧ ¬ F b
theorem AtV.fresh (h : AtV w W g d vs) {b : Nat} (hw : Below W.heap.size W W') (hb : W.heap.size ≤ b) : AtB w W' g d vs b := by
  obtain ⟨F, hH, hv⟩ := h
  exact ⟨F, hH.more hw, fun v hvv => ⟨(hv v hvv).1.below hw (hv v hvv).1.lt, (hv v hvv).2⟩, fun hf => by have := hH.flt _ hf; omega⟩
theorem AtV.gives {w1 : World} {D : Dk} {F : Nat → Prop} (hb : Below w.heap.size w W) (h : GivesDisk D W w1 g F) : AtV w w1 g D [] := ⟨F, Has.gives hb h, fun v hv => by cases hv⟩
end
theorem Try.supEq (a b c d e f : Int) (W : World) : Sem.run Try.prog (binOp .eql 25 (.agg #[.int .i64 a, .int .i64 b, .int .i64 c, .int .i64 d, .int .i64 e, .int .i64 f]) (.agg #[.int .i64 a, .int .i64 b, .int .i64 c, .int .i64 d, .int .i64 e, .int .i64 f])) W = .ok (.bool true) W := by
  simp [go_sem]
end Go.Proofs.Ytkockhggnbfahaa
end
