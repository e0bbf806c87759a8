/- Lemmas under the proofs of this place: WalPAppend. No statement is proved here. -/
import Derived.Test.YtghenhacndaelaaBu30
import Derived.Test.YtghenhacndaelaaBu32
set_option linter.unusedSimpArgs false
set_option linter.unusedVariables false
set_option maxRecDepth 100000
set_option maxHeartbeats 16000000
namespace Go.Proofs.Ytghenhacndaelaa
open Go.RowKit
open Wal
theorem div_four (n : Nat) : n / 64 / 4 = n / 256 := by rw [Nat.div_div_eq_div_mul]
theorem recBytes_length13 (a : Nat) (e : Int) (t : List UInt8) : (recBytes a e t).length = 64 * needN t.length := by rw [← recK_all, recK_length]
theorem append_wrote {d : Dk} {l : Lg} {t : List UInt8} (hg : l.gone = false) (h0 : needN t.length ≠ 0) (hf : ¬ l.n - used l < needN t.length) {W : Dk} {z : Int} (hw : wroteW l.frm (allW l.b (recBytes (used l) l.epoch t)) (chunkN (endL l.b ++ recBytes (used l) l.epoch t).length) (used l / 4) d = (W, z)) :
    appendW d l t = (W, if z = 0 then { l with b := l.b ++ recBytes (used l) l.epoch t } else { l with gone := true }, z) := by
  have hc := chunk_count l.b (recBytes (used l) l.epoch t)
  have hc' : (allW l.b (recBytes (used l) l.epoch t)).length / 256 - used l / 4 = chunkN (endL l.b ++ recBytes (used l) l.epoch t).length := by unfold used; rw [div_four]; exact hc
  unfold appendW
  rw [if_neg (by rw [hg]; simp), if_neg h0, if_neg hf]
  simp only []
  rw [hc']
  unfold wroteW at hw
  by_cases h1 : (writesW l.frm (allW l.b (recBytes (used l) l.epoch t)) (chunkN (endL l.b ++ recBytes (used l) l.epoch t).length) (used l / 4) d).2 ≠ 0
  · rw [if_pos h1] at hw ⊢
    rw [hw] at h1 ⊢
    rw [if_neg h1]
  · rw [if_neg h1] at hw ⊢
    rw [hw]
    by_cases h2 : z = 0
    · subst h2
      simp
    · simp only
      rw [if_pos h2, if_neg h2]
theorem deedsL_same {w w' : World} {g lg : Nat} {F E : Nat → Prop} {d : Dk} {l : Lg} {A : Option Addr} {c : Nat} (h : PDisk w g F d) (hL : PLogA w lg g E l A c) (hd : ∀ k, E k → ¬ F k) (hb : Below w.heap.size w w') : PDeedsL d l F E w w' g lg :=
  ⟨F, E, h.below hb, ⟨A, c, hL.below hb⟩, hd, Turns.of_below hb _⟩
theorem wappend_gone {w : World} {g lg : Nat} {F E : Nat → Prop} {d : Dk} {l : Lg} {A : Option Addr} {c : Nat} (h : PDisk w g F d) (hL : PLogA w lg g E l A c) (hd : ∀ k, E k → ¬ F k) (t : List UInt8) (n : Nat) (T : Option Addr) (cT : Nat) (hl : n ≤ 50000) (hg : l.gone = true) :
    Calls Try.prog 12 #[.pointer (some ⟨lg, 0, none⟩), .slice T n cT] w fun e w' => e = .returned (.int .i64 (appendW d l t).2.2) ∧ PDeedsL (appendW d l t).1 (appendW d l t).2.1 F E w w' g lg := by
  have HV : Hid (appendW d l t = (d, l, 8)) := by show _ = _; unfold appendW; rw [if_pos hg]
  have HP : Hid (PDeedsL d l F E w w g lg) := deedsL_same h hL hd (Below.refl _ _)
  have HN := Lib.hid (fun W => sneed_any n (by omega) W)
  have HD : Hid (Calls Try.prog 18 #[.pointer (some ⟨lg, 0, none⟩)] w fun e w' => e = .returned (.bool true) ∧ w = w') := by
    have := wdead_any ⟨A, c, hL⟩
    rwa [hg] at this
  generalize needN n = N at HN
  clear h hL hd hg
  go_enter Try.func12, Try.ntmps12
  go_wp2_with (first
    | (go_at_call 27; (with_reducible refine (HN.out _).mono ?_); rintro e w1 ⟨rfl, rfl⟩)
    | (go_at_call 18; (with_reducible refine HD.out.mono ?_); rintro e w1 ⟨rfl, rfl⟩))
  go_ret
  rw [HV.out]
  exact ⟨rfl, HP.out⟩
theorem sneed_wide (n : Nat) (hn : n ≤ 9223372036854775807) (w : World) : Calls Try.prog 27 #[.int .i64 (n : Int)] w fun e w' => e = .returned (.int .i64 (needN n : Int)) ∧ w = w' := by
  by_cases h : n = 0
  · subst h
    have d0 : decide (((0 : Nat) : Int) ≤ 0) = true := by decide
    go_enter Try.func27, Try.ntmps27
    go_wp2
    go_ret
    exact ⟨rfl, rfl⟩
  · have d0 : decide ((n : Int) ≤ 0) = false := decide_eq_false (by omega)
    have d1 : decide (n = 0) = false := decide_eq_false h
    have d2 : decide (n ≤ 0) = false := decide_eq_false (by omega)
    have u0 : (0 : Int) ≤ (n : Int) - 1 := by omega
    have e1 : IntKind.i64.wrap ((n : Int) - 1) = (n : Int) - 1 := IntWalk.i64_in _ (by omega)
    have e2 : ((n : Int) - 1).tdiv 48 = ((n : Int) - 1) / 48 := Int.tdiv_eq_ediv_of_nonneg u0
    have e4 : ((n : Int) - 1) / 48 + 1 = (needN n : Int) := by unfold needN; omega
    have e3 : IntKind.i64.wrap (((n : Int) - 1) / 48 + 1) = (needN n : Int) := by rw [IntWalk.i64_in _ (by omega), e4]
    have HE := Lib.hid e4
    clear e4
    go_enter Try.func27, Try.ntmps27
    go_wp2
    go_ret
    exact ⟨by first | rfl | rw [← HE.out], rfl⟩
theorem wappend_none (w : World) (T : Option Addr) (n c : Nat) (hl : n ≤ 9223372036854775807) : Calls Try.prog 12 #[.pointer none, .slice T n c] w fun e w' => e = .returned (.int .i64 8) ∧ Below w.heap.size w w' := by
  have HN := Lib.hid (fun W => sneed_wide n hl W)
  have HD := Lib.hid (wdead_none0 w)
  generalize needN n = N at HN
  go_enter Try.func12, Try.ntmps12
  go_wp2_with (first
    | (go_at_call 27; (with_reducible refine (HN.out _).mono ?_); rintro e w1 ⟨rfl, rfl⟩)
    | (go_at_call 18; (with_reducible refine HD.out.mono ?_); rintro e w1 ⟨rfl, rfl⟩))
  go_ret
  exact ⟨rfl, Below.refl _ _⟩
theorem wappend_zero {w : World} {g lg : Nat} {F E : Nat → Prop} {d : Dk} {l : Lg} {A : Option Addr} {c : Nat} (h : PDisk w g F d) (hL : PLogA w lg g E l A c) (hd : ∀ k, E k → ¬ F k) (t : List UInt8) (n : Nat) (T : Option Addr) (cT : Nat) (hn : n = t.length) (h0 : n = 0) (hg : l.gone = false) :
    Calls Try.prog 12 #[.pointer (some ⟨lg, 0, none⟩), .slice T n cT] w fun e w' => e = .returned (.int .i64 (appendW d l t).2.2) ∧ PDeedsL (appendW d l t).1 (appendW d l t).2.1 F E w w' g lg := by
  have HV : Hid (appendW d l t = (d, l, 1)) := by show _ = _; unfold appendW; rw [if_neg (by rw [hg]; simp), if_pos (by rw [← hn, h0]; rfl)]
  have HP : Hid (PDeedsL d l F E w w g lg) := deedsL_same h hL hd (Below.refl _ _)
  subst h0
  have HN : Hid (∀ W, Calls Try.prog 27 #[.int .i64 0] W fun e w' => e = .returned (.int .i64 0) ∧ W = w') := fun W => sneed_any 0 (by omega) W
  have HD : Hid (Calls Try.prog 18 #[.pointer (some ⟨lg, 0, none⟩)] w fun e w' => e = .returned (.bool false) ∧ w = w') := by
    have := wdead_any ⟨A, c, hL⟩
    rwa [hg] at this
  clear h hL hd hg hn
  go_enter Try.func12, Try.ntmps12
  go_wp2_with (first
    | (go_at_call 27; (with_reducible refine (HN.out _).mono ?_); rintro e w1 ⟨rfl, rfl⟩)
    | (go_at_call 18; (with_reducible refine HD.out.mono ?_); rintro e w1 ⟨rfl, rfl⟩))
  go_ret
  rw [HV.out]
  exact ⟨rfl, HP.out⟩
theorem wappend_full {w : World} {g lg : Nat} {F E : Nat → Prop} {d : Dk} {l : Lg} {A : Option Addr} {c : Nat} (h : PDisk w g F d) (hL : PLogA w lg g E l A c) (hd : ∀ k, E k → ¬ F k) (t : List UInt8) (n : Nat) (T : Option Addr) (cT : Nat) (hn : n = t.length) (hl : n ≤ 50000) (h0 : n ≠ 0) (hg : l.gone = false) {len : Nat} (hf : l.fit len) (hfull : l.n - used l < needN t.length) :
    Calls Try.prog 12 #[.pointer (some ⟨lg, 0, none⟩), .slice T n cT] w fun e w' => e = .returned (.int .i64 (appendW d l t).2.2) ∧ PDeedsL (appendW d l t).1 (appendW d l t).2.1 F E w w' g lg := by
  have hN : needN n = (n + 47) / 48 := rfl
  have HV : Hid (appendW d l t = (d, l, 2)) := by show _ = _; unfold appendW; rw [if_neg (by rw [hg]; simp), if_neg (by rw [← hn]; omega), if_pos hfull]
  have HP : Hid (∀ k, PDeedsL d l F E w (w.drewN k) g lg) := fun k => deedsL_same h hL hd (drewN_room w k)
  obtain ⟨N, hNe⟩ : ∃ N, N = needN n := ⟨_, rfl⟩
  have HN : Hid (∀ W, Calls Try.prog 27 #[.int .i64 (n : Int)] W fun e w' => e = .returned (.int .i64 (N : Int)) ∧ W = w') := fun W => by rw [hNe]; exact sneed_any n (by omega) W
  have HD : Hid (Calls Try.prog 18 #[.pointer (some ⟨lg, 0, none⟩)] w fun e w' => e = .returned (.bool false) ∧ w = w') := by
    have := wdead_any ⟨A, c, hL⟩
    rwa [hg] at this
  have hus : used l ≤ l.n := by have := hf.used; unfold used; omega
  obtain ⟨x, hx⟩ : ∃ x, x = l.n - used l := ⟨_, rfl⟩
  have HR : Hid (Calls Try.prog 16 #[.pointer (some ⟨lg, 0, none⟩)] w fun e w' => e = .returned (.int .i64 (x : Int)) ∧ ∃ k, w' = w.drewN k) := by
    have := wroom_any ⟨A, c, hL⟩ hf
    rwa [show ((l.n : Nat) : Int) - ((used l : Nat) : Int) = (x : Int) by omega] at this
  rw [← hn, ← hx, ← hNe] at hfull
  have d0 : ((N : Int) == 0) = false := by rw [beq_eq_false_iff_ne]; omega
  have d1 : decide ((N : Int) = 0) = false := decide_eq_false (by omega)
  have d2 : decide (N = 0) = false := decide_eq_false (by omega)
  have d3 : decide ((N : Int) > (x : Int)) = true := decide_eq_true (by omega)
  have d4 : decide ((x : Int) < (N : Int)) = true := decide_eq_true (by omega)
  have d5 : decide (x < N) = true := decide_eq_true (by omega)
  clear h hL hd hg hn hN hNe hf hus hx hfull
  go_enter Try.func12, Try.ntmps12
  go_wp2_with (first
    | (go_at_call 27; (with_reducible refine (HN.out _).mono ?_); rintro e w1 ⟨rfl, rfl⟩)
    | (go_at_call 18; (with_reducible refine HD.out.mono ?_); rintro e w1 ⟨rfl, rfl⟩)
    | (go_at_call 16; (with_reducible refine HR.out.mono ?_); rintro e w1 ⟨rfl, k1, rfl⟩))
  go_ret
  rw [HV.out]
  exact ⟨rfl, HP.out _⟩
theorem own_blk9 {w : World} {base n c : Nat} {A : Option Addr} {xs : List Value} (h : w.ownsRow base 5 1 (.slice A n c) n xs) : ∀ ad, A = some ad → base ≤ ad.block ∧ ad.block < w.heap.size := fun ad e => by
  rcases h.2 with ⟨h1, _⟩ | ⟨g, cap, cur, h1, hb, hg, _⟩
  · simp only [Value.slice.injEq] at h1
    rw [h1.1] at e; cases e
  · simp only [Value.slice.injEq] at h1
    rw [h1.1] at e
    injection e with e
    subst e
    exact ⟨hb, Blk.lt (t := 5) hg⟩
theorem own_cap9 {w : World} {base n c size : Nat} {A : Option Addr} {e : TypeId} {xs : List Value} (h : w.ownsRow base e size (.slice A n c) n xs) : n ≤ c ∧ c ≤ 9223372036854775807 := by
  rcases h.2 with ⟨h1, h2⟩ | ⟨g, cap, cur, h1, _, _, h3, h4, _⟩
  · simp only [Value.slice.injEq] at h1
    exact ⟨by omega, by omega⟩
  · simp only [Value.slice.injEq] at h1
    unfold maxLen at h4
    exact ⟨by omega, by omega⟩
theorem log_past {w6 w7 : World} {g lg : Nat} {F E : Nat → Prop} {l : Lg} {A : Option Addr} {c : Nat} {W : Dk} (h : PLogA w6 lg g E l A c) (hd : ∀ k, E k → ¬ F k) (hp : ∃ F', PDisk w7 g F' W ∧ Turns w6 w7 F F') : PLogA w7 lg g E l A c := by
  obtain ⟨F', _, ht⟩ := hp
  exact h.turns ht hd
theorem concat13 {w1 w3 : World} {A A3 : Option Addr} {m c q3 c3 N : Nat} {X R : List UInt8} (ho : w3.ownsRow w1.heap.size 5 1 (.slice A3 q3 c3) q3 (cells R)) (hX : RB w3 w3.heap.size A X) (hm : m = X.length) (hRl : R.length = 64 * N) (hq : q3 = 64 * N) (hN : N ≤ 1000) (hm2 : m < 256) (hb : Below w1.heap.size w1 w3) :
    Hid (Calls Try.prog 33 #[.slice (some ⟨w3.heap.size, 0, none⟩) 2 2] (w3.alloc (.cells #[.slice A m c, .slice A3 q3 c3] 38)) fun e w' => ∃ A6 q6 c6, e = .returned (.slice A6 q6 c6) ∧ Hid (q6 = (X ++ R).length ∧ w'.ownsRow w3.heap.size 5 1 (.slice A6 q6 c6) q6 (cells (X ++ R))) ∧ Hid (Below w3.heap.size w3 w')) := by
  have hal : Below w3.heap.size w3 (w3.alloc (.cells #[.slice A m c, .slice A3 q3 c3] 38)) := (Below.refl _ _).alloc (Nat.le_refl _) _
  have hk : Blk (w3.alloc (.cells #[.slice A m c, .slice A3 q3 c3] 38)) w3.heap.size 38 #[.slice A m c, .slice A3 q3 c3] := Blk.new w3 _ _
  have hR3 : RB w3 w3.heap.size A3 R := by
    have h7 := Reads.of_own ho
    unfold RB
    rw [hRl, ← hq]
    exact h7
  have h3 := bconcat_any X R m q3 A A3 c c3 w3.heap.size 2 (w3.alloc (.cells #[.slice A m c, .slice A3 q3 c3] 38)) hm (by omega) (by omega) (by omega) (by simp) (by rw [hk.cell]; rfl) (by rw [hk.cell]; rfl) ((hX.below hal).more hal.size) ((hR3.below hal).more hal.size)
  show Calls _ _ _ _ _
  refine h3.mono ?_
  rintro e w' ⟨A6, c6, q6, rfl, hq6, ho6, hb6⟩
  exact ⟨A6, q6, c6, rfl, ⟨by rw [hq6, List.length_append]; omega, own_lessP13 ho6 hal.size⟩, hal.trans (hb6.mono hal.size)⟩
theorem wappend_in {w : World} {g lg : Nat} {F E : Nat → Prop} {d : Dk} {l : Lg} {A : Option Addr} {c : Nat} (h : PDisk w g F d) (hL : PLogA w lg g E l A c) (hd : ∀ k, E k → ¬ F k) (t : List UInt8) (n : Nat) (T : Option Addr) (cT : Nat) (hn : n = t.length) (hl : n ≤ 50000) (hr : RB w w.heap.size T t) (hc : n ≤ cT) (hcm : cT ≤ 9223372036854775807) (hld : d.load ≤ 80000) (h0 : n ≠ 0) (hg : l.gone = false) {len : Nat} (hf : l.fit len) (hlen : len ≤ 1000) (hroom : ¬ l.n - used l < needN t.length) :
    Calls Try.prog 12 #[.pointer (some ⟨lg, 0, none⟩), .slice T n cT] w fun e w' => e = .returned (.int .i64 (appendW d l t).2.2) ∧ PDeedsL (appendW d l t).1 (appendW d l t).2.1 F E w w' g lg := by
  have hN : needN n = (n + 47) / 48 := rfl
  obtain ⟨N, hNe⟩ : ∃ N, N = needN n := ⟨_, rfl⟩
  have hN0 : N ≠ 0 := by omega
  have hus : used l ≤ l.n := by have := hf.used; unfold used; omega
  have hfew := hf.few
  obtain ⟨u, hu⟩ : ∃ u, u = used l := ⟨_, rfl⟩
  obtain ⟨x, hx⟩ : ∃ x, x = l.n - u := ⟨_, rfl⟩
  obtain ⟨R, hR⟩ : ∃ R, R = recBytes (used l) l.epoch t := ⟨_, rfl⟩
  have hRl : R.length = 64 * N := by rw [hR, recBytes_length13, ← hn, ← hNe]
  obtain ⟨W, z, hW⟩ : ∃ W z, wroteW l.frm (allW l.b R) (chunkN (endL l.b ++ R).length) (used l / 4) d = (W, z) := ⟨_, _, rfl⟩
  have HV : Hid (appendW d l t = (W, if z = 0 then { l with b := l.b ++ R } else { l with gone := true }, z)) := by
    show _ = _
    rw [hR] at hW ⊢
    exact append_wrote hg (by rw [← hn]; omega) hroom hW
  have HN : Hid (∀ W, Calls Try.prog 27 #[.int .i64 (n : Int)] W fun e w' => e = .returned (.int .i64 (N : Int)) ∧ W = w') := fun W => by rw [hNe]; exact sneed_any n (by omega) W
  have HD : Hid (Calls Try.prog 18 #[.pointer (some ⟨lg, 0, none⟩)] w fun e w' => e = .returned (.bool false) ∧ w = w') := by
    have := wdead_any ⟨A, c, hL⟩
    rwa [hg] at this
  have HRm : Hid (Calls Try.prog 16 #[.pointer (some ⟨lg, 0, none⟩)] w fun e w' => e = .returned (.int .i64 (x : Int)) ∧ ∃ k, w' = w.drewN k) := by
    have := wroom_any ⟨A, c, hL⟩ hf
    rwa [show ((l.n : Nat) : Int) - ((used l : Nat) : Int) = (x : Int) by omega] at this
  rw [← hn, ← hNe, ← hu, ← hx] at hroom
  have d0 : ((N : Int) == 0) = false := by rw [beq_eq_false_iff_ne]; omega
  have d1 : decide ((N : Int) = 0) = false := decide_eq_false (by omega)
  have d2 : decide (N = 0) = false := decide_eq_false (by omega)
  have d3 : decide ((N : Int) > (x : Int)) = false := decide_eq_false (by omega)
  have d4 : decide ((x : Int) < (N : Int)) = false := decide_eq_false (by omega)
  have d5 : decide (x < N) = false := decide_eq_false (by omega)
  obtain ⟨m, hm⟩ : ∃ m, m = l.b.length % 256 := ⟨_, rfl⟩
  have hm256 : m < 256 := by rw [hm]; exact Nat.mod_lt _ (by omega)
  have HSec : Hid (∀ X, Below w.heap.size w X → Calls Try.prog 34 #[.pointer (some ⟨lg, 0, none⟩), .slice T n cT] X fun e w' => ∃ A' q c', e = .returned (.slice A' q c') ∧ Hid (q = 64 * N ∧ w'.ownsRow X.heap.size 5 1 (.slice A' q c') q (cells R)) ∧ Hid (Below X.heap.size X w')) := fun X hX => by
    have h3 := wsectors_any (hL.below hX) t n T cT hn hl ((hr.below hX).more hX.size) hc hcm (by rw [← hn]; omega) (by rw [← hn]; omega) ⟨by have := hf.epoch; omega, hf.epoch.2⟩
    refine h3.mono ?_
    rintro e w' ⟨A', q, c', he, hq, ho, hb⟩
    rw [← hn, ← hNe] at hq
    rw [← hR] at ho
    exact ⟨A', q, c', he, ⟨hq, ho⟩, hb⟩
  have HC : Hid (∀ X, Below w.heap.size w X → X.cell? ⟨lg, 4, none⟩ = some (.slice A m c)) := fun X hX => by rw [hm]; exact (hL.below hX).r4
  have HTl : Hid (∀ X, Below w.heap.size w X → RB X X.heap.size A (endL l.b)) := fun X hX => (hL.below hX).tail
  have Hm : Hid (m = (endL l.b).length) := by show m = _; rw [endL_length]; exact hm
  have HLg := Lib.hid hL
  have HDk := Lib.hid (And.intro h hd)
  have HW := Lib.hid hW
  have HRl := Lib.hid hRl
  have Hu := Lib.hid hu
  have Hf := Lib.hid (And.intro hf (And.intro hlen hld))
  have HN1 : Hid (N ≤ 1000 ∧ N ≠ 0 ∧ u ≤ 1000 ∧ u + N ≤ 1000) := ⟨by omega, hN0, by omega, by omega⟩
  clear h hL hd hg hn hN hNe hf hus hx hroom hfew hr hc hcm hld hlen hW hRl hR hm hN0 hl hu
  go_enter Try.func12, Try.ntmps12
  go_wp2_with (first
    | (go_at_call 27; (with_reducible refine (HN.out _).mono ?_); rintro e w1 ⟨rfl, rfl⟩)
    | (go_at_call 18; (with_reducible refine HD.out.mono ?_); rintro e w1 ⟨rfl, rfl⟩)
    | (go_at_call 16; (with_reducible refine HRm.out.mono ?_); rintro e w1 ⟨rfl, k1, rfl⟩))
  have hb1 := drewN_room w k1
  generalize w.drewN k1 = w1 at hb1 ⊢
  have HB1 := Lib.hid hb1
  have s0 := HC.out w1.drew (hb1.trans (((Below.refl _ _).drew).mono hb1.size))
  have hbd : Below w.heap.size w w1.drew := hb1.drew
  clear hb1
  go_region_held3 (fun X => X.cell? ⟨lg, 4, none⟩ = some (.slice A m c))
    (first | exact s0 | exact s3 | exact s4 | exact s5)
    (first
      | (go_at_call 34; ((with_reducible refine (HSec.out _ hbd).mono ?_); rintro e w3 ⟨A3, q3, c3, rfl, ho3, b3⟩; have hb3 := hbd.trans (b3.out.mono hbd.size); have s3 := HC.out w3 hb3; have s4 := HC.out _ (hb3.alloc hb3.size (.cells #[.slice A m c, .slice A3 q3 c3] 38)); have HCc := concat13 (c := c) ho3.out.2 (HTl.out w3 hb3) Hm.out HRl.out ho3.out.1 HN1.out.1 hm256 b3.out))
      | (go_at_call 33; (with_reducible refine HCc.out.mono ?_); rintro e w6 ⟨A6, q6, c6, rfl, h6, b6⟩; have s5 := HC.out w6 (hb3.trans (b6.out.mono hb3.size))))
  have hb6 : Below w.heap.size w w6 := hb3.trans (b6.out.mono hb3.size)
  have hL6 := HLg.out.below hb6
  have hD6 := HDk.out.1.below hb6
  have hFlt : ∀ k, F k → k < w.heap.size := HDk.out.1.flt
  have hElt := HLg.out.lt
  have hw3 : w.heap.size ≤ w3.heap.size := hb3.size
  obtain ⟨b, hbb⟩ : ∃ b, b = endL l.b ++ R := ⟨_, rfl⟩
  rw [← hbb] at h6
  have ho6 : Own w6 w3.heap.size A6 b c6 := by
    unfold Own
    rw [← h6.out.1]
    exact h6.out.2
  have hcap := own_cap7 ho6
  have hA6 := own_blk13 ho6
  have hbl : b.length = m + 64 * N := by rw [hbb, List.length_append, ← Hm.out, HRl.out]
  have hq6 := h6.out.1
  have hn1 := HN1.out
  have HWr : Hid (Calls Try.prog 35 #[.pointer (some ⟨lg, 0, none⟩), .slice A6 q6 c6] w6 fun e w' => e = .returned (.int .i64 z) ∧ Hid (∃ F', PDisk w' g F' W ∧ Turns w6 w' F F')) := by
    have h9 := wwrite_any hD6 hL6 HDk.out.2 b q6 A6 c6 hq6 (by omega) (by omega) (own_rb ho6) (fun ad e hf => by have := (hA6 ad e).1; have := hFlt _ hf; omega) (by have := hcap.2.1; omega) hcap.2.2 (allW l.b R) (used l / 4) rfl (fun i hi => by
      have h8 := chunk_blk l.b R i (by rw [← hbb, ← hq6]; exact hi)
      rw [← hbb] at h8
      unfold used
      rw [div_four]
      exact h8) (by have := Hf.out.1.area; have := Hf.out.2.1; omega) (by rw [← Hu.out]; omega) Hf.out.2.2
    have hw := HW.out
    rw [← hbb, ← hq6] at hw
    rw [hw] at h9
    exact h9
  have HO6 := Lib.hid (And.intro ho6 (And.intro hA6 (And.intro hcap (And.intro hbl hq6))))
  have HB6 := Lib.hid (And.intro hb6 (And.intro hL6 (And.intro hFlt (And.intro hElt hw3))))
  have Hbb := Lib.hid hbb
  clear hb6 hL6 hD6 hFlt hElt hw3 hbb ho6 hcap hA6 hbl hq6 hn1 s0 s3 s4 s5 hb3 hbd HCc
  by_cases hz : z = 0
  rotate_left
  · have p00 : (z == 0) = false := by rw [beq_eq_false_iff_ne]; exact hz
    have p01 : (z != 0) = true := by rw [bne_iff_ne]; exact hz
    have p02 : decide (z = 0) = false := decide_eq_false hz
    rw [if_neg hz] at HV
    clear hz
    go_wp2_with (first
      | (go_at_call 35; (with_reducible refine HWr.out.mono ?_); rintro e w7 ⟨rfl, hp7⟩; have HP7 := Lib.hid hp7.out; have hL7 := log_past HB6.out.2.1 HDk.out.2 hp7.out; have r6 := hL7.r6; have z6 := hL7.fz 6; have HL7 := Lib.hid hL7; clear hp7 hL7))
    go_ret
    rw [HV.out]
    refine ⟨rfl, ?_⟩
    obtain ⟨F', hp7, ht7⟩ := HP7.out
    obtain ⟨hb6, hL6, hFlt, hElt, hw3⟩ := HB6.out
    have hsz6 := hb6.size
    have hFE : ∀ k, E k → ¬ F' k := fun k hk hf => by
      rcases ht7.foot k hf with h9 | h9
      · exact HDk.out.2 k hk h9
      · have := hElt k hk; omega
    have hel := HLg.out.el
    refine ⟨F', E, hp7.turns (Turns.set_ (F := fun k => k = lg) rfl 6 _) (fun k hk e => hFE lg hel (e ▸ hk)), ⟨A, c, HL7.out.dead⟩, hFE, ?_⟩
    have h8 : Turns w w7 (fun k => F k ∨ E k) (fun k => F' k ∨ E k) := ((Turns.of_below hb6 F).trans ht7).wide (fun k hk => .inl hk) (fun k hk => by
      rcases hk with h9 | h9
      · exact .inr (.inl h9)
      · exact .inl (.inr h9))
    exact h8.trans (Turns.set_ (F := fun k => F' k ∨ E k) (.inr hel) 6 _)
  · subst hz
    rw [if_pos rfl] at HV
    obtain ⟨un, hun⟩ : ∃ un, un = u + N := ⟨_, rfl⟩
    have y5 : (u : Int) + (N : Int) = (un : Int) := by omega
    have y6 : IntKind.i64.wrap (un : Int) = (un : Int) := IntWalk.i64_in _ (by have := HN1.out; omega)
    have Hun := Lib.hid hun
    clear hun
    have HTail : Hid (∀ X, Hid (RB X X.heap.size A6 b) → Calls Try.prog 28 #[.slice A6 q6 c6] X fun e w' => ∃ A' m' c', e = .returned (.slice A' m' c') ∧ Hid (m' = b.length % 256 ∧ w'.ownsRow X.heap.size 5 1 (.slice A' m' c') m' (cells (endL b))) ∧ Hid (Below X.heap.size X w')) := fun X hX => by
      have h9 := wtail_any b A6 q6 c6 X HO6.out.2.2.2.2 hX.out (by rw [HO6.out.2.2.2.2]; exact HO6.out.2.2.1.2.1) HO6.out.2.2.1.2.2 (by have := HO6.out.2.2.2; have := HN1.out; omega)
      refine h9.mono ?_
      rintro e w' ⟨A', m', c', rfl, h1, h2, h3⟩
      exact ⟨A', m', c', rfl, ⟨h1, h2⟩, h3⟩
    have HRB : Hid (∀ w7, (∃ F', PDisk w7 g F' W ∧ Turns w6 w7 F F') → Hid (RB (w7.setCell ⟨lg, 3, none⟩ (.int .i64 (un : Int))) (w7.setCell ⟨lg, 3, none⟩ (.int .i64 (un : Int))).heap.size A6 b))   := fun w7 hpt => by
      obtain ⟨F', hp, ht⟩ := hpt
      have h8 : RB w7 w7.heap.size A6 b := (Reads.turns (own_rb HO6.out.1) (Nat.le_refl _) ht (fun ad e hf => by have := (HO6.out.2.1 ad e).1; have := HB6.out.2.2.1 _ hf; have := HB6.out.2.2.2.2; omega)).more ht.size
      have h9 := Turns.set_ (w := w7) (F := fun k => k = lg) (g := lg) rfl 3 (.int .i64 (un : Int))
      exact (Reads.turns h8 (Nat.le_refl _) h9 (fun ad e hf => by have := (HO6.out.2.1 ad e).1; have := HB6.out.2.2.2.1 lg HLg.out.el; have := HB6.out.2.2.2.2; have hf : ad.block = lg := hf; omega)).more h9.size
    go_wp2_with (first
      | (go_at_call 35; (with_reducible refine HWr.out.mono ?_); rintro e w7 ⟨rfl, hp7⟩; have HP7 := Lib.hid hp7.out; have hL7 := log_past HB6.out.2.1 HDk.out.2 hp7.out; have r3 := hL7.r3; rw [← Hu.out] at r3; have z3 := hL7.fz 3; have HL7 := Lib.hid hL7; have hrb7 := HRB.out w7 hp7.out; have bk8 := hL7.blk.set_ 3 (.int .i64 (un : Int)); have HBK8 := Lib.hid bk8; clear hp7 hL7 bk8)
      | (go_at_call 28; (with_reducible refine (HTail.out _ hrb7).mono ?_); rintro e w9 ⟨A9, m9, c9, rfl, o9, b9⟩; have bk9 := Blk.below HBK8.out b9.out HBK8.out.lt; have r49 := bk9.cell 4; have z49 := bk9.frozen 4))
    go_ret
    rw [HV.out]
    refine ⟨rfl, ?_⟩
    obtain ⟨F', hp7, ht7⟩ := HP7.out
    obtain ⟨hb6, hL6, hFlt, hElt, hw3⟩ := HB6.out
    have hsz6 := hb6.size
    have hel := HLg.out.el
    have hlgw := hElt lg hel
    have hsz7 := ht7.size
    have hFE : ∀ k, E k → ¬ F' k := fun k hk hf => by
      rcases ht7.foot k hf with h9 | h9
      · exact HDk.out.2 k hk h9
      · have := hElt k hk; omega
    have hA9 := own_blk9 o9.out.2
    have hs8 : (w7.setCell ⟨lg, 3, none⟩ (.int .i64 (un : Int))).heap.size = w7.heap.size := by simp [World.setCell]
    have hs9 := b9.out.size
    rw [hs8] at hA9 hs9
    have hlen : (l.b ++ R).length = l.b.length + 64 * N := by rw [List.length_append, HRl.out]
    have hwhole := Hf.out.1.whole
    have hbe : endL b = endL (l.b ++ R) := by rw [Hbb.out, ← endL_more]
    have hbm : b.length % 256 = (l.b ++ R).length % 256 := by rw [← endL_length, ← endL_length, hbe]
    have hcap9 := own_cap9 o9.out.2
    have hu' : un = (l.b ++ R).length / 64 := by
      have h1 := Hu.out
      unfold used at h1
      rw [Hun.out, hlen, h1]
      omega
    have hgr := PLogA.grown_ (w1 := w7) (w2 := w9) (L := R) (A' := A9) (c' := c9) (u := un) HL7.out (Below.refl _ _) hu' (by have h9 := b9.out; rw [hs8] at h9; exact h9) (by
      have h7 := Reads.of_own o9.out.2
      unfold RB
      rw [← hbe, endL_length, ← o9.out.1]
      exact h7) (fun ad e => hA9 ad e) (n := m9) (by rw [o9.out.1, hbm]) hcap9
    have ht8 : Turns w w7 (fun k => F k ∨ E k) (fun k => F' k ∨ E k) := ((Turns.of_below hb6 F).trans ht7).wide (fun k hk => .inl hk) (fun k hk => by
      rcases hk with h9 | h9
      · exact .inr (.inl h9)
      · exact .inl (.inr h9))
    have ht9 : Turns w7 (w9.setCell ⟨lg, 4, none⟩ (.slice A9 m9 c9)) (fun k => k = lg) (fun k => k = lg) := ((Turns.set_ (F := fun k => k = lg) rfl 3 _).trans (Turns.of_below b9.out _)).trans (Turns.set_ (F := fun k => k = lg) rfl 4 _)
    refine ⟨F', _, hp7.turns ht9 (fun k hk e => hFE lg hel (e ▸ hk)), ⟨A9, c9, hgr⟩, fun k hk hf => ?_, ?_⟩
    · rcases hk with rfl | ⟨ad, e, rfl⟩
      · exact hFE _ hel hf
      · have h9 := (hA9 ad e).1
        have h10 := hp7.flt _ hf
        omega
    · refine (ht8.trans (ht9.wide (E := fun k => F' k ∨ E k) (E' := fun k => F' k ∨ E k) (fun k hk => .inr (by rw [hk]; exact hel)) (fun k hk => .inl hk))).foot_ (fun k hk => ?_)
      rcases hk with h9 | rfl | ⟨ad, e, rfl⟩
      · exact .inl (.inl h9)
      · exact .inl (.inr hel)
      · exact .inr (by have := (hA9 ad e).1; omega)
theorem wappend_any {w : World} {g lg : Nat} {F E : Nat → Prop} {d : Dk} {l : Lg} (h : PDisk w g F d) (hL : PLog w lg g E l) (hd : ∀ k, E k → ¬ F k) (t : List UInt8) (n : Nat) (T : Option Addr) (cT : Nat) (hn : n = t.length) (hl : n ≤ 50000) (hr : RB w w.heap.size T t) (hT : 0 < n → ∀ ad, T = some ad → ¬ F ad.block ∧ ¬ E ad.block) (hc : n ≤ cT) (hcm : cT ≤ 9223372036854775807) (hld : d.load ≤ 80000) {len : Nat} (hf : l.fit len) (hlen : len ≤ 1000) (hsl : d.safe.length = len) :
    Calls Try.prog 12 #[.pointer (some ⟨lg, 0, none⟩), .slice T n cT] w fun e w' => e = .returned (.int .i64 (appendW d l t).2.2) ∧ PDeedsL (appendW d l t).1 (appendW d l t).2.1 F E w w' g lg := by
  obtain ⟨A, c, hL⟩ := hL
  cases hg : l.gone with
  | true => exact wappend_gone h hL hd t n T cT hl hg
  | false =>
    by_cases h0 : n = 0
    · exact wappend_zero h hL hd t n T cT hn h0 hg
    · by_cases hfull : l.n - used l < needN t.length
      · exact wappend_full h hL hd t n T cT hn hl h0 hg hf hfull
      · exact wappend_in h hL hd t n T cT hn hl hr hc hcm hld h0 hg hf hlen hfull
end Go.Proofs.Ytghenhacndaelaa
