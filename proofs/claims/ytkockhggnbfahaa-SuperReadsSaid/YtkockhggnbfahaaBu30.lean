/- Lemmas under the proofs of this place: SupPSmall, DiskTwo. No statement is proved here. -/
import Derived.Test.YtkockhggnbfahaaBu29
import Derived.Test.YtkockhggnbfahaaBu27
import Derived.Test.YtkockhggnbfahaaBu21
import Derived.Test.YtkockhggnbfahaaBu25
section
set_option linter.unusedVariables false
set_option linter.unusedSimpArgs false
namespace Go.Proofs.Ytkockhggnbfahaa
open Go.RowKit
set_option maxRecDepth 100000 in
set_option maxHeartbeats 2000000 in
theorem slot_any (s : Pu) (h0 : 0 ≤ s.gen) (w : World) : Calls Try.prog 56 #[supV s] w fun e w' => e = .returned (.int .i64 (s.gen % 2)) ∧ Below w.heap.size w w' := by
  obtain ⟨g, b, l, fi, si, ow⟩ := s
  simp only at h0
  obtain ⟨r, hr⟩ : ∃ r, r = g % 2 := ⟨_, rfl⟩
  have hr1 : g.tmod 2 = r := by rw [Int.tmod_eq_emod_of_nonneg h0, hr]
  have HB : Hid (Below w.heap.size w (w.alloc (.cells #[.int .i64 g, .int .i64 b, .int .i64 l, .int .i64 fi, .int .i64 si, .int .i64 ow] 25))) := (Below.refl _ _).alloc (Nat.le_refl _) _
  unfold supV
  simp only
  rw [← hr]
  clear hr
  go_enter Try.func56, Try.ntmps56
  go_wp2
  go_ret
  first
    | exact ⟨rfl, HB.out⟩
    | exact ⟨by rw [hr1], HB.out⟩
set_option maxRecDepth 100000 in
set_option maxHeartbeats 2000000 in
theorem iszero_any (b : List UInt8) (n : Nat) (A : Option Addr) (c : Nat) (w : World) (hn : n = b.length) (hr : RB w w.heap.size A b) (hl : n ≤ 1000000) :
    Calls Try.prog 54 #[.slice A n c] w fun e w' => e = .returned (.bool (b.all (· == 0))) ∧ Below w.heap.size w w' := by
  obtain ⟨i0, hi0, hz0, hz1, hz2⟩ := info_parts Try.info5
  obtain ⟨v, hv⟩ : ∃ v, v = b.all (· == 0) := ⟨_, rfl⟩
  have hd : decide (b = List.replicate n 0) = v := by
    rw [hv, hn]
    by_cases h : b = List.replicate b.length 0
    · rw [decide_eq_true h]
      symm
      rw [List.all_eq_true]
      intro x hx
      have := List.eq_replicate_iff.1 h
      simpa using this.2 x hx
    · rw [decide_eq_false h]
      symm
      rw [Bool.eq_false_iff]
      intro ha
      rw [List.all_eq_true] at ha
      exact h (List.eq_replicate_iff.2 ⟨rfl, fun x hx => by simpa using ha x hx⟩)
  have HE : Hid (∀ W (A' : Option Addr) (c' : Nat), Below w.heap.size w W → RB W W.heap.size A' (List.replicate n 0) → Calls Try.prog 86 #[.slice A n c, .slice A' n c'] W fun e w' => e = .returned (.bool v) ∧ W = w') := fun W A' c' hb h => by
    have h1 := equal_any b (List.replicate n 0) A A' c c' _ _ W (rb_up7 hr hb) h
    rw [hd, List.length_replicate, ← hn] at h1
    exact h1
  have HL := Lib.hid hl
  rw [← hv]
  clear hv hd hn hr hl
  go_enter Try.func54, Try.ntmps54
  go_wp2_with (first
    | (go_at_call 86; (with_reducible refine (HE.out _ _ _ hb9 rb9).mono ?_); rintro e w3 ⟨rfl, rfl⟩)
    | (at_make; refine wpList_make_yes _ rfl (.tmp 5) (.tmp 5) 26 rfl w.heap.size 5 i0 _ 1 Try.underlying26 hi0 hz0 hz1 .i64 .i64 _ _ n rfl rfl rfl rfl (by rw [hz2]; have := HL.out; omega) (by have := HL.out; unfold maxLen; omega) (Nat.le_refl _) ?_; intro w9 hown9 hg9; have hb9 := (Below.refl w.heap.size w).grown hg9 (Nat.le_refl _) (by simp); have rb9 := made_rb7 hown9; clear hown9 hg9))
  go_ret
  exact ⟨rfl, hb9⟩
def cntU (n k : Int) (b : List UInt8) : Pu := if (getU (b.take 64)).2 = 0 ∧ (getU (b.take 64)).1.blocks = n ∧ (getU (b.take 64)).1.gen % 2 = k then (getU (b.take 64)).1 else .zero
theorem step_cnt (n k : Int) (b : List UInt8) (s : Pu) (h0 : 0 ≤ s.gen) : stepU n k b s = if (cntU n k b).gen > s.gen then cntU n k b else s := by
  unfold stepU cntU
  by_cases h : (getU (b.take 64)).2 = 0 ∧ (getU (b.take 64)).1.blocks = n ∧ (getU (b.take 64)).1.gen % 2 = k
  · rw [if_pos h]
    by_cases h2 : s.gen < (getU (b.take 64)).1.gen
    · rw [if_pos ⟨h.1, h.2.1, h.2.2, h2⟩, if_pos h2]
    · rw [if_neg (fun hh => h2 hh.2.2.2), if_neg h2]
  · rw [if_neg h, if_neg (fun hh => h ⟨hh.1, hh.2.1, hh.2.2.1⟩), if_neg (by show ¬ (0 : Int) > s.gen; omega)]
theorem cnt_gen (n k : Int) (b : List UInt8) : 0 ≤ (cntU n k b).gen := by
  unfold cntU
  split
  · rename_i h; have := getU_gen h.1; omega
  · exact Int.le_refl 0
theorem step_gen (n k : Int) (b : List UInt8) (s : Pu) (h0 : 0 ≤ s.gen) : 0 ≤ (stepU n k b s).gen := by
  rw [step_cnt n k b s h0]
  split
  · exact cnt_gen n k b
  · exact h0
set_option maxRecDepth 100000 in
set_option maxHeartbeats 4000000 in
theorem counted_any (b : List UInt8) (a c : Nat) (k n : Int) (w : World) (h256 : b.length = 256) (hr : RB w w.heap.size (some ⟨a, 0, none⟩) b) (hc : 256 ≤ c) (hcm : c ≤ 9223372036854775807) :
    Calls Try.prog 52 #[.slice (some ⟨a, 0, none⟩) 256 c, .int .i64 k, .int .i64 n] w fun e w' => e = .returned (supV (cntU n k b)) ∧ Below w.heap.size w w' := by
  have h64 : (b.take 64).length = 64 := by rw [List.length_take]; omega
  obtain ⟨t, ht⟩ : ∃ t, t = (getU (b.take 64)).1 := ⟨_, rfl⟩
  obtain ⟨f, hf⟩ : ∃ f, f = (getU (b.take 64)).2 := ⟨_, rfl⟩
  have HGt : Hid (∀ W, Below w.heap.size w W → Calls Try.prog 9 #[.slice (some ⟨a, 0, none⟩) 64 c] W fun e w' => e = .returned (.tuple #[.agg #[.int .i64 t.gen, .int .i64 t.blocks, .int .i64 t.log, .int .i64 t.first, .int .i64 t.size, .int .i64 t.owner], .int .i64 f]) ∧ Below W.heap.size W w') := fun W hb => by
    have h1 := supget_any (b.take 64) (some ⟨a, 0, none⟩) c W (rb_take (rb_up7 hr hb) 64 (by omega)) (by omega) hcm (by omega)
    rw [h64] at h1
    unfold GivesU at h1
    rw [← ht, ← hf] at h1
    exact h1
  have hgn : f = 0 → 1 ≤ t.gen := fun h0 => by rw [ht]; exact getU_gen (by rw [← hf]; exact h0)
  have HV : Hid (cntU n k b = if f = 0 ∧ t.blocks = n ∧ t.gen % 2 = k then t else .zero) := by show _ = _; unfold cntU; rw [ht, hf]
  have ks := fun W => sl_to a 0 256 c 64 64 rfl (by omega) (by omega) W
  have HB : Hid (Below w.heap.size w (w.alloc (.cells #[.int .i64 0, .int .i64 0, .int .i64 0, .int .i64 0, .int .i64 0, .int .i64 0] 25))) := (Below.refl _ _).alloc (Nat.le_refl _) _
  have HC := Lib.hid (fun W hb => resu_at w W hb)
  have HT := Lib.hid (fun w1 W hb => super_at w1 W t.gen t.blocks t.log t.first t.size t.owner hb)
  have nb := fun w' => Try.supBuild0 w'
  have a25 := fun w' => Try.aggSup w'
  have s25 := fun w' => Try.sizeSup w'
  have HSl : Hid (∀ r : Int, 0 ≤ t.gen → t.gen % 2 = r → ∀ W, Calls Try.prog 56 #[.agg #[.int .i64 t.gen, .int .i64 t.blocks, .int .i64 t.log, .int .i64 t.first, .int .i64 t.size, .int .i64 t.owner]] W fun e w' => e = .returned (.int .i64 r) ∧ Below W.heap.size W w') := fun r h0 h1 W => by rw [← h1]; exact slot_any t h0 W
  clear h256 hr hc hcm h64 ht hf
  by_cases h0 : f = 0
  rotate_left
  · have HV2 : Hid (cntU n k b = .zero) := by show _ = _; rw [HV.out, if_neg (fun hh => h0 hh.1)]
    have q0 : (f != 0) = true := by simpa using h0
    have q1 : (f == 0) = false := by simpa using h0
    clear HV HSl hgn h0
    go_enter Try.func52, Try.ntmps52
    go_wp2_with (first
      | (go_at_call 9; (with_reducible refine (HGt.out _ HB.out).mono ?_); rintro e w1 ⟨rfl, hb1⟩; have hb1a := hb1.alloc hb1.size (.cells #[.int .i64 t.gen, .int .i64 t.blocks, .int .i64 t.log, .int .i64 t.first, .int .i64 t.size, .int .i64 t.owner] 25); obtain ⟨⟨p0, p1, p2, p3, p4, p5⟩, f0, f1, f2, f3, f4, f5⟩ := HC.out _ hb1a; have b1 := chain7 HB.out hb1a))
    refine bodyPost_ret (v := .agg #[.int .i64 0, .int .i64 0, .int .i64 0, .int .i64 0, .int .i64 0, .int .i64 0]) (by simp [results, Try.results52, go_sem, p0, p1, p2, p3, p4, p5]) rfl ⟨by rw [HV2.out]; rfl, below_six b1 (Nat.le_refl _) _ _ _ _ _ _⟩
  have q0 : (f != 0) = false := by simpa using h0
  have q1 : (f == 0) = true := by simpa using h0
  by_cases h1 : t.blocks = n
  rotate_left
  · have HV2 : Hid (cntU n k b = .zero) := by show _ = _; rw [HV.out, if_neg (fun hh => h1 hh.2.1)]
    have q2 : (t.blocks != n) = true := by simpa using h1
    have q3 : (t.blocks == n) = false := by simpa using h1
    clear HV HSl hgn h0 h1
    go_enter Try.func52, Try.ntmps52
    go_wp2_with (first
      | (go_at_call 9; (with_reducible refine (HGt.out _ HB.out).mono ?_); rintro e w1 ⟨rfl, hb1⟩; have hb1a := hb1.alloc hb1.size (.cells #[.int .i64 t.gen, .int .i64 t.blocks, .int .i64 t.log, .int .i64 t.first, .int .i64 t.size, .int .i64 t.owner] 25); obtain ⟨⟨p0, p1, p2, p3, p4, p5⟩, f0, f1, f2, f3, f4, f5⟩ := HC.out _ hb1a; have b1 := chain7 HB.out hb1a; obtain ⟨y0, y1, y2, y3, y4, y5⟩ := HT.out w1 _ (Below.refl _ _)))
    refine bodyPost_ret (v := .agg #[.int .i64 0, .int .i64 0, .int .i64 0, .int .i64 0, .int .i64 0, .int .i64 0]) (by simp [results, Try.results52, go_sem, p0, p1, p2, p3, p4, p5]) rfl ⟨by rw [HV2.out]; rfl, below_six b1 (Nat.le_refl _) _ _ _ _ _ _⟩
  have q2 : (t.blocks != n) = false := by simpa using h1
  have q3 : (t.blocks == n) = true := by simpa using h1
  obtain ⟨r, hrr⟩ : ∃ r, t.gen % 2 = r := ⟨_, rfl⟩
  have HSr := Lib.hid (HSl.out r (by have := hgn h0; omega) hrr)
  rw [hrr] at HV
  by_cases h2 : r = k
  rotate_left
  · have HV2 : Hid (cntU n k b = .zero) := by show _ = _; rw [HV.out, if_neg (fun hh => h2 hh.2.2)]
    have q4 : (r != k) = true := by simpa using h2
    have q5 : (r == k) = false := by simpa using h2
    clear HV HSl hgn h0 h1 h2 hrr
    go_enter Try.func52, Try.ntmps52
    go_wp2_with (first
      | (go_at_call 56; (with_reducible refine (HSr.out _).mono ?_); rintro e w2 ⟨rfl, hb2⟩; have hb2a := hb1a.trans (hb2.mono hb1a.size); obtain ⟨⟨p0, p1, p2, p3, p4, p5⟩, f0, f1, f2, f3, f4, f5⟩ := HC.out _ hb2a; have b2 := chain7 HB.out hb2a)
      | (go_at_call 9; (with_reducible refine (HGt.out _ HB.out).mono ?_); rintro e w1 ⟨rfl, hb1⟩; have hb1a := hb1.alloc hb1.size (.cells #[.int .i64 t.gen, .int .i64 t.blocks, .int .i64 t.log, .int .i64 t.first, .int .i64 t.size, .int .i64 t.owner] 25); obtain ⟨y0, y1, y2, y3, y4, y5⟩ := HT.out w1 _ (Below.refl _ _)))
    refine bodyPost_ret (v := .agg #[.int .i64 0, .int .i64 0, .int .i64 0, .int .i64 0, .int .i64 0, .int .i64 0]) (by simp [results, Try.results52, go_sem, p0, p1, p2, p3, p4, p5]) rfl ⟨by rw [HV2.out]; rfl, below_six b2 (Nat.le_refl _) _ _ _ _ _ _⟩
  have q4 : (r != k) = false := by simpa using h2
  have q5 : (r == k) = true := by simpa using h2
  have HV2 : Hid (cntU n k b = t) := by show _ = _; rw [HV.out, if_pos ⟨h0, h1, h2⟩]
  clear HV HSl hgn h0 h1 h2 hrr
  go_enter Try.func52, Try.ntmps52
  go_wp2_with (first
    | (go_at_call 56; (with_reducible refine (HSr.out _).mono ?_); rintro e w2 ⟨rfl, hb2⟩; have hb2a := hb1a.trans (hb2.mono hb1a.size); obtain ⟨⟨p0, p1, p2, p3, p4, p5⟩, f0, f1, f2, f3, f4, f5⟩ := HC.out _ hb2a; have b2 := chain7 HB.out hb2a; obtain ⟨y0, y1, y2, y3, y4, y5⟩ := HT.out w1 _ hb2)
    | (go_at_call 9; (with_reducible refine (HGt.out _ HB.out).mono ?_); rintro e w1 ⟨rfl, hb1⟩; have hb1a := hb1.alloc hb1.size (.cells #[.int .i64 t.gen, .int .i64 t.blocks, .int .i64 t.log, .int .i64 t.first, .int .i64 t.size, .int .i64 t.owner] 25); obtain ⟨y0, y1, y2, y3, y4, y5⟩ := HT.out w1 _ (Below.refl _ _)))
  refine bodyPost_ret (v := .agg #[.int .i64 t.gen, .int .i64 t.blocks, .int .i64 t.log, .int .i64 t.first, .int .i64 t.size, .int .i64 t.owner]) (by simp [results, Try.results52, go_sem, p0, p1, p2, p3, p4, p5]) rfl ⟨by rw [HV2.out]; rfl, below_six b2 (Nat.le_refl _) _ _ _ _ _ _⟩
end Go.Proofs.Ytkockhggnbfahaa
end
section
set_option linter.unusedVariables false
namespace Go.Proofs.Ytkockhggnbfahaa
open Go.RowKit
set_option maxRecDepth 100000 in
set_option maxHeartbeats 1000000 in
theorem write_all {w : World} {g : Nat} {F : Nat → Prop} {d : Dk} (h : PDisk w g F d) (i : Int) (hl : d.load ≤ 100000)
    (L : List UInt8) (A : Option Addr) (m c : Nat) (hm : m = L.length) (hr : RB w w.heap.size A L) (hA : 0 < L.length → ∀ ad, A = some ad → ¬ F ad.block) (hc : m ≤ c) (hcm : c ≤ 9223372036854775807) :
    Calls Try.prog 38 #[.pointer (some ⟨g, 0, none⟩), .int .i64 i, .slice A m c] w (WritePost d i L g F w) := by
  by_cases h0 : 0 < L.length
  · exact write_any h i hl L A m c hm hr (hA h0) hc hcm
  · have HR := Lib.hid (reach_any h i)
    have h00 : m = 0 := by omega
    have hL : L.length ≠ 256 := by omega
    subst h00
    cases ho : d.off with
    | true =>
      have HV : Hid (d.write i L = (d, 9)) := by show _ = _; unfold Dk.write; rw [if_pos ho]
      have e1 : d.reach i = 9 := by unfold Dk.reach; rw [if_pos ho]
      rw [e1] at HR
      clear ho e1 hm hr hA hl
      go_enter Try.func38, Try.ntmps38
      go_wp2_with (go_at_call 76; (with_reducible refine HR.out.mono ?_); rintro e w1 ⟨rfl, rfl⟩)
      go_ret
      unfold WritePost
      rw [HV.out]
      exact ⟨F, rfl, h, Turns.refl _ _⟩
    | false =>
      cases ht : d.there i with
      | false =>
        have HV : Hid (d.write i L = (d, 10)) := by show _ = _; unfold Dk.write; rw [ho, ht]; rfl
        have e1 : d.reach i = 10 := by unfold Dk.reach; rw [ho, ht]; rfl
        rw [e1] at HR
        clear ho ht e1 hm hr hA hl
        go_enter Try.func38, Try.ntmps38
        go_wp2_with (go_at_call 76; (with_reducible refine HR.out.mono ?_); rintro e w1 ⟨rfl, rfl⟩)
        go_ret
        unfold WritePost
        rw [HV.out]
        exact ⟨F, rfl, h, Turns.refl _ _⟩
      | true =>
        have HV : Hid (d.write i L = (d, 11)) := by
          show _ = _; unfold Dk.write; rw [ho, ht]
          simp only [Bool.false_eq_true, Bool.not_true, if_false]
          rw [if_pos hL]
        have e1 : d.reach i = 0 := by unfold Dk.reach; rw [ho, ht]; rfl
        rw [e1] at HR
        clear ho ht e1 hm hr hA hl h0 hL
        go_enter Try.func38, Try.ntmps38
        go_wp2_with (go_at_call 76; (with_reducible refine HR.out.mono ?_); rintro e w1 ⟨rfl, rfl⟩)
        go_ret
        unfold WritePost
        rw [HV.out]
        exact ⟨F, rfl, h, Turns.refl _ _⟩
abbrev Kps := List (Option Addr × List UInt8)
structure Two (K : Kps) (w0 w : World) (g : Nat) (F : Nat → Prop) (d : Dk) (q : Nat) (G B : Nat → Prop) (e : Dk) : Prop where
  p : Has w0 w g F d
  r : RDisk w q G B e
  go : ∀ k, G k → w0.heap.size ≤ k
  fg : ∀ k, F k → ¬ G k
  fb : ∀ k, F k → ¬ B k
  kp : ∀ x ∈ K, Kept w F x.1 x.2 ∧ Kept w G x.1 x.2
theorem Kept.past {w w' : World} {E E' G : Nat → Prop} {A : Option Addr} {L : List UInt8} (h : Kept w G A L) (ht : Turns w w' E E') (hE : ∀ ad, A = some ad → ¬ E ad.block) : Kept w' G A L :=
  ⟨(Reads.turns h.1 (Nat.le_refl _) ht hE).more ht.size, fun ad e => ⟨(h.2 ad e).1, Nat.lt_of_lt_of_le (h.2 ad e).2 ht.size⟩⟩
section
variable {K : Kps} {w0 w w' : World} {g q : Nat} {F F' G B : Nat → Prop} {d d' e e' : Dk}
theorem Two.more (h : Two K w0 w g F d q G B e) (hb : Below w.heap.size w w') : Two K w0 w' g F d q G B e := ⟨h.p.more hb, h.r.below hb, h.go, h.fg, h.fb, fun x hx => ⟨(h.kp x hx).1.below hb, (h.kp x hx).2.below hb⟩⟩
theorem Two.prog (h : Two K w0 w g F d q G B e) (hp : PDisk w' g F' d') (ht : Turns w w' F F') : Two K w0 w' g F' d' q G B e := by
  refine ⟨h.p.turned hp ht, h.r.turns ht (fun k hk hf => h.fg k hf hk) (fun k hk hf => h.fb k hf hk), h.go, fun k hk hg => ?_, fun k hk hb => ?_, fun x hx => ⟨(h.kp x hx).1.turns ht, (h.kp x hx).2.past ht (h.kp x hx).1.no⟩⟩
  · rcases ht.foot k hk with h1 | h1
    · exact h.fg k h1 hg
    · have := h.r.glt k hg; omega
  · rcases ht.foot k hk with h1 | h1
    · exact h.fb k h1 hb
    · have := h.r.blt k hb; omega
theorem Two.deeds (h : Two K w0 w g F d q G B e) (hd : Deeds d' F w w' g) : Two K w0 w' g F d' q G B e := h.prog hd.1 hd.2
theorem Two.ref (h : Two K w0 w g F d q G B e) (hd : RDeeds e' G B w w' q) : ∃ G' B', Two K w0 w' g F d q G' B' e' := by
  obtain ⟨G', B', hr, ht, hb⟩ := hd
  have hs := h.p.below.size
  refine ⟨G', B', ⟨h.p.disk.turns ht (fun k hk hg => h.fg k hk hg), h.p.below.trans (ht.below h.go hs), h.p.own⟩, hr, fun k hk => ?_, fun k hk hg => ?_, fun k hk hg => ?_, fun x hx => ⟨(h.kp x hx).1.past ht (h.kp x hx).2.no, (h.kp x hx).2.turns ht⟩⟩
  · rcases ht.foot k hk with h1 | h1
    · exact h.go k h1
    · omega
  · rcases ht.foot k hg with h1 | h1
    · exact h.fg k hk h1
    · have := h.p.flt k hk; omega
  · rcases hb k hg with h1 | h1
    · exact h.fb k hk h1
    · have := h.p.flt k hk; omega
theorem Two.kept (h : Two K w0 w g F d q G B e) (hd : RDeeds e' G B w w' q) {A : Option Addr} {L : List UInt8} (hk : Kept w G A L) : RB w' w'.heap.size A L := by
  obtain ⟨G', B', hr, ht, hb⟩ := hd
  exact (hk.turns ht).1
end
structure Dd where
  kind : Int
  n : Int
  data : List UInt8
  odd : Bool
  masks : List Int
structure DV (w : World) (x : Dd) (dA : Option Addr) (dc : Nat) (mA : Option Addr) (mc : Nat) : Prop where
  rb : RB w w.heap.size dA x.data
  ri : RI w w.heap.size mA x.masks
  dlen : x.data.length ≤ dc ∧ dc ≤ 9223372036854775807
  kin : InI x.kind
  nin : InI x.n
def deedV (x : Dd) (dA : Option Addr) (dc : Nat) (mA : Option Addr) (mc : Nat) : Value := .agg #[.int .i64 x.kind, .int .i64 x.n, .slice dA x.data.length dc, .bool x.odd, .slice mA x.masks.length mc]
def dataL (x : Dd) : List UInt8 := if x.odd = true then x.data else blockL x.data
set_option maxRecDepth 100000 in
set_option maxHeartbeats 1000000 in
theorem data_any {w0 w : World} (hb0 : Below w0.heap.size w0 w) (x : Dd) (dA : Option Addr) (dc : Nat) (mA : Option Addr) (mc : Nat) (hv : DV w0 x dA dc mA mc) (hl : x.data.length ≤ 100000) :
    Calls Try.prog 46 #[deedV x dA dc mA mc] w fun e w' => (∃ A m c, e = .returned (.slice A m c) ∧ m = (dataL x).length ∧ m ≤ c ∧ c ≤ 9223372036854775807 ∧ RB w' w'.heap.size A (dataL x) ∧ (0 < (dataL x).length → ∀ ad, A = some ad → ad.block < w0.heap.size ∨ w.heap.size ≤ ad.block)) ∧ Below w.heap.size w w' := by
  have HV := Lib.hid hv
  unfold deedV
  obtain ⟨m, hm⟩ : ∃ m, m = x.data.length := ⟨_, rfl⟩
  have HM := Lib.hid hm
  rw [← hm]
  obtain ⟨kd, hk⟩ : ∃ kd, kd = x.kind := ⟨_, rfl⟩
  obtain ⟨nn, hn⟩ : ∃ nn, nn = x.n := ⟨_, rfl⟩
  obtain ⟨mm, hmm⟩ : ∃ mm, mm = x.masks.length := ⟨_, rfl⟩
  rw [← hk, ← hn, ← hmm]
  clear hk hn hmm
  cases ho : x.odd with
  | true =>
    have HD : Hid (dataL x = x.data) := by show _ = _; unfold dataL; rw [if_pos ho]
    have HR : Hid (∀ W, Below w.heap.size w W → RB W W.heap.size dA x.data) := fun W hb => by
      have h1 := (hv.rb.below hb0).below (hb.mono hb0.size)
      exact h1.more (Nat.le_trans hb0.size hb.size)
    clear hm hl hv ho
    go_enter Try.func46, Try.ntmps46
    go_wp2
    go_ret
    have hbb : Below w.heap.size w (w.alloc (.cells #[.int .i64 kd, .int .i64 nn, .slice dA m dc, .bool true, .slice mA mm mc] 53)) := (Below.refl _ _).alloc (Nat.le_refl _) _
    refine ⟨⟨dA, m, dc, rfl, by rw [HD.out, HM.out], by rw [HM.out]; exact HV.out.dlen.1, HV.out.dlen.2, by rw [HD.out]; exact HR.out _ hbb, fun h0 ad e => .inl ?_⟩, hbb⟩
    rw [HD.out] at h0
    obtain ⟨ad', e', hlt, _⟩ := HV.out.rb.2 h0
    rw [e] at e'
    injection e' with e'
    subst e'
    exact hlt
  | false =>
    have HD : Hid (dataL x = blockL x.data) := by show _ = _; unfold dataL; rw [ho]; rfl
    have HBk : Hid (∀ W, Below w.heap.size w W → Calls Try.prog 39 #[.slice dA m dc] W fun e w' => ∃ g, e = .returned (.slice (some ⟨g, 0, none⟩) 256 256) ∧ W.heap.size ≤ g ∧ Blk w' g 5 (cells (blockL x.data)).toArray ∧ Below W.heap.size W w') := fun W hb => by
      have h1 := (hv.rb.below hb0).below (hb.mono hb0.size)
      exact block_any x.data dA m dc W (h1.more (Nat.le_trans hb0.size hb.size)) hm hl
    have hbb : Below w.heap.size w (w.alloc (.cells #[.int .i64 kd, .int .i64 nn, .slice dA m dc, .bool false, .slice mA mm mc] 53)) := (Below.refl _ _).alloc (Nat.le_refl _) _
    clear hm hl hv ho
    go_enter Try.func46, Try.ntmps46
    go_wp2_with (go_at_call 39; (with_reducible refine (HBk.out _ hbb).mono ?_); rintro e w5 ⟨g5, rfl, hg5, hB5, hb5⟩)
    go_ret
    refine ⟨⟨some ⟨g5, 0, none⟩, 256, 256, rfl, by rw [HD.out, blockL_length], Nat.le_refl _, by omega, by rw [HD.out]; exact rb_blk6 hB5, fun h0 ad e => .inr ?_⟩, hbb.trans (hb5.mono hbb.size)⟩
    injection e with e
    subst e
    have := hbb.size
    show w.heap.size ≤ g5
    omega
end Go.Proofs.Ytkockhggnbfahaa
end
