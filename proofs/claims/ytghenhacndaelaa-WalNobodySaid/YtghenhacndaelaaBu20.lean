/- Lemmas under the proofs of this place: SectPTake, SectPHead, SectPPut. No statement is proved here. -/
import Derived.Test.YtghenhacndaelaaBu18
import Derived.Test.YtghenhacndaelaaBu05
import Derived.Test.YtghenhacndaelaaBu11
import Derived.Test.YtghenhacndaelaaBu08
import Derived.Test.YtghenhacndaelaaBu09
import Derived.Test.YtghenhacndaelaaBu15
import Derived.Test.YtghenhacndaelaaBu03
import Derived.Test.YtghenhacndaelaaBu16
set_option linter.unusedSimpArgs false
set_option linter.unusedVariables false
set_option maxRecDepth 100000
set_option maxHeartbeats 16000000
namespace Go.Proofs.Ytghenhacndaelaa
section
open Go.RowKit
theorem no8_sec (a b c d : Int) (A : Option Addr) (n k : Nat) : No8 #[.int .i64 a, .int .i64 b, .int .i64 c, .int .i64 d, .slice A n k] := by
  intro j z
  match j with
  | 0 => simp
  | 1 => simp
  | 2 => simp
  | 3 => simp
  | 4 => simp
  | j + 5 => simp
theorem field_any (g : Nat) (n : Int) (st : St) (w : World) (h : Cur w g st) :
    Calls Try.prog 71 #[.func (.func 56) #[.pointer (some ⟨g, 0, none⟩)] #[], .int .i64 n] w fun e w' => e = .returned (.int .i64 (fieldZ (stepTake n st).2)) ∧ Cur w' g (stepTake n st).1 ∧ Only w w' g := by
  have ht := take_any g n st w h
  have hle : (stepTake n st).2.length ≤ 1048576 := by
    rcases st with _ | L
    · simp [stepTake]
    · obtain ⟨_, _, _, _, _, hl⟩ := h
      simp only [stepTake]
      split
      · simp
      · simp only [List.length_take]; omega
  obtain ⟨r, hr⟩ : ∃ r, r = stepTake n st := ⟨_, rfl⟩
  rw [← hr] at ht hle ⊢
  clear hr h
  obtain ⟨st', L⟩ := r
  simp only at hle ⊢
  obtain ⟨q, hq⟩ : ∃ q, q = L.length := ⟨_, rfl⟩
  obtain ⟨u1, hu1⟩ : ∃ q, q = (unfixR L).1 := ⟨_, rfl⟩
  obtain ⟨u2, hu2⟩ : ∃ q, q = (unfixR L).2 := ⟨_, rfl⟩
  have HT : Hid (Calls Try.prog 56 #[.pointer (some ⟨g, 0, none⟩), .int .i64 n] w fun e w' => ∃ A c, e = .returned (.slice A q c) ∧ Hid (RB w' w'.heap.size A L ∧ Cur w' g st' ∧ Only w w' g)) := by
    refine ht.mono fun e w' hh => ?_
    obtain ⟨A, c, he, h2, h3, h4⟩ := hh
    rw [← hq] at he
    exact ⟨A, c, he, h2, h3, h4⟩
  have HU : Hid (∀ W (A : Option Addr) (c : Nat), RB W W.heap.size A L → Calls Try.prog 78 #[.slice A q c] W fun e w' => e = .returned (.tuple #[.int .i64 (u1 : Int), .int .i64 (u2 : Int)]) ∧ W = w') := fun W A c h => by
    rw [hq, hu1, hu2]
    exact unfix_any L A c _ W h hle
  have HV : Hid (fieldZ L = if u2 = 0 then (u1 : Int) else -1) := by show _ = _; unfold fieldZ; rw [hu1, hu2]
  clear ht hq hu1 hu2 hle
  by_cases h2 : u2 = 0
  · rw [if_pos h2] at HV
    rw [HV.out]
    subst h2
    go_enter Try.func71, Try.ntmps71
    go_wp2_with (first
      | (go_at_call 56; (with_reducible refine HT.out.mono ?_); rintro e w1 ⟨A, c, rfl, hh⟩; have hrb := hh.out.1)
      | (go_at_call 78; (with_reducible refine (HU.out _ _ _ hrb).mono ?_); rintro e w2 ⟨rfl, rfl⟩))
    go_ret
    exact ⟨rfl, hh.out.2.1, hh.out.2.2⟩
  · rw [if_neg h2] at HV
    rw [HV.out]
    have e0 : ((u2 : Int) != 0) = true := by simp; omega
    have e1 : ((u2 : Int) == 0) = false := by simp; omega
    go_enter Try.func71, Try.ntmps71
    go_wp2_with (first
      | (go_at_call 56; (with_reducible refine HT.out.mono ?_); rintro e w1 ⟨A, c, rfl, hh⟩; have hrb := hh.out.1)
      | (go_at_call 78; (with_reducible refine (HU.out _ _ _ hrb).mono ?_); rintro e w2 ⟨rfl, rfl⟩))
    go_ret
    exact ⟨rfl, hh.out.2.1, hh.out.2.2⟩
end
section
open Go.RowKit
theorem sneed_any (n : Nat) (hn : n ≤ 1000000000) (w : World) : Calls Try.prog 27 #[.int .i64 (n : Int)] w fun e w' => e = .returned (.int .i64 (needN n : Int)) ∧ w = w' := by
  by_cases h : n = 0
  · subst h
    have d0 : decide (((0 : Nat) : Int) ≤ 0) = true := by decide
    go_enter Try.func27, Try.ntmps27
    go_wp2
    go_ret
    exact ⟨rfl, rfl⟩
  · have d0 : decide ((n : Int) ≤ 0) = false := decide_eq_false (by omega)
    have d1 : decide (n = 0) = false := decide_eq_false h
    have d2 : decide (n ≤ 0) = false := decide_eq_false (by omega)
    have u0 : (0 : Int) ≤ (n : Int) - 1 := by omega
    have e1 : IntKind.i64.wrap ((n : Int) - 1) = (n : Int) - 1 := IntWalk.i64_in _ (by omega)
    have e2 : ((n : Int) - 1).tdiv 48 = ((n : Int) - 1) / 48 := Int.tdiv_eq_ediv_of_nonneg u0
    have e4 : ((n : Int) - 1) / 48 + 1 = (needN n : Int) := by unfold needN; omega
    have e3 : IntKind.i64.wrap (((n : Int) - 1) / 48 + 1) = (needN n : Int) := by rw [IntWalk.i64_in _ (by omega), e4]
    have HE := Lib.hid e4
    clear e4
    go_enter Try.func27, Try.ntmps27
    go_wp2
    go_ret
    exact ⟨by first | rfl | rw [← HE.out], rfl⟩
def Sd.headAt (s : Sd) (n i : Nat) : Sd := ⟨if i = 0 then s.kind else s.kind + 1, s.epoch, s.number + (i : Int), ((n - 1 - i : Nat) : Int), []⟩
theorem Try.secBuild4 (k e n l : Int) (w : World) : Sem.run Try.prog (Instr.build 79 #[(0, .int .i64 k), (1, .int .i64 e), (2, .int .i64 n), (3, .int .i64 l)]) w = .ok (.agg #[.int .i64 k, .int .i64 e, .int .i64 n, .int .i64 l, .slice none 0 0]) w := by kernel_rfl
theorem at_any (s : Sd) (A : Option Addr) (c : Nat) (n i : Nat) (w : World) (hi : i < n) (hn : n ≤ 1000000) (hnu : IntKind.i64.wrap (s.number + (i : Int)) = s.number + (i : Int)) (hk : i ≠ 0 → IntKind.i64.wrap (s.kind + 1) = s.kind + 1) :
    Calls Try.prog 55 #[secV s A c, .int .i64 (i : Int), .int .i64 (n : Int)] w fun e w' => e = .returned (secV (s.headAt n i) none 0) ∧ Below w.heap.size w w' := by
  obtain ⟨k, ep, nu, l, D⟩ := s
  obtain ⟨m, hm⟩ : ∃ m, m = D.length := ⟨_, rfl⟩
  simp only at hnu hk
  unfold secV Sd.headAt
  simp only
  rw [← hm]
  obtain ⟨nz, hnz⟩ : ∃ z : Int, z = nu + (i : Int) := ⟨_, rfl⟩
  obtain ⟨lz, hlz⟩ : ∃ q, q = n - 1 - i := ⟨_, rfl⟩
  rw [← hnz] at hnu
  rw [← hnz, ← hlz]
  have y0 : IntKind.i64.wrap (nu + (i : Int)) = nz := by rw [← hnz]; exact hnu
  have y1 : IntKind.i64.wrap ((n : Int) - 1) = (n : Int) - 1 := IntWalk.i64_in _ (by omega)
  have y2 : IntKind.i64.wrap ((n : Int) - 1 - (i : Int)) = (lz : Int) := by rw [IntWalk.i64_in _ (by omega)]; omega
  have b4 := fun k w' => Try.secBuild4 k ep nz (lz : Int) w'
  clear hm hnz hlz hnu
  by_cases hz : i = 0
  · have HZ := Lib.hid hz
    have d0 : decide ((0 : Int) < (i : Int)) = false := decide_eq_false (by omega)
    have d1 : decide ((i : Int) > 0) = false := decide_eq_false (by omega)
    have d2 : decide (0 < i) = false := decide_eq_false (by omega)
    clear hk hz
    go_enter Try.func55, Try.ntmps55
    go_wp2
    refine bodyPost_ret (v := .agg #[.int .i64 k, .int .i64 ep, .int .i64 nz, .int .i64 (lz : Int), .slice none 0 0]) (by simp [results, Try.results55, go_sem]) rfl ⟨rfl, ?_⟩
    exact (((Below.refl _ _).alloc (Nat.le_refl _) _).alloc (by simp) _).alloc (by simp; omega) _
  · have HZ := Lib.hid hz
    have y3 : IntKind.i64.wrap (k + 1) = k + 1 := hk hz
    have d0 : decide ((0 : Int) < (i : Int)) = true := decide_eq_true (by omega)
    have d1 : decide ((i : Int) > 0) = true := decide_eq_true (by omega)
    have d2 : decide (0 < i) = true := decide_eq_true (by omega)
    clear hk hz
    go_enter Try.func55, Try.ntmps55
    go_wp2
    refine bodyPost_ret (v := .agg #[.int .i64 (k + 1), .int .i64 ep, .int .i64 nz, .int .i64 (lz : Int), .slice none 0 0]) (by simp [results, Try.results55, go_sem]) rfl ⟨rfl, ?_⟩
    exact (((Below.refl _ _).alloc (Nat.le_refl _) _).alloc (by simp) _).alloc (by simp; omega) _
def Sd.same (a b : Sd) : Bool := decide (a.kind = b.kind) && (decide (a.epoch = b.epoch) && (decide (a.number = b.number) && decide (a.left = b.left)))
theorem same_any (a b : Sd) (A A' : Option Addr) (c c' : Nat) (w : World) : Calls Try.prog 65 #[secV a A c, secV b A' c'] w fun e w' => e = .returned (.bool (a.same b)) ∧ Below w.heap.size w w' := by
  obtain ⟨k, ep, n, l, D⟩ := a
  obtain ⟨k', ep', n', l', D'⟩ := b
  obtain ⟨m, hm⟩ : ∃ m, m = D.length := ⟨_, rfl⟩
  obtain ⟨m', hm'⟩ : ∃ m, m = D'.length := ⟨_, rfl⟩
  unfold secV Sd.same
  simp only
  rw [← hm, ← hm']
  have HB : Hid (Below w.heap.size w ((w.alloc (.cells #[.int .i64 k, .int .i64 ep, .int .i64 n, .int .i64 l, .slice A m c] 79)).alloc (.cells #[.int .i64 k', .int .i64 ep', .int .i64 n', .int .i64 l', .slice A' m' c'] 79))) := ((Below.refl _ _).alloc (Nat.le_refl _) _).alloc (by simp) _
  clear hm hm'
  by_cases h0 : k = k'
  rotate_left
  · have HM : Hid ((decide (k = k') && (decide (ep = ep') && (decide (n = n') && decide (l = l')))) = false) := by show _ = _; simp; omega
    have d0 : decide (k = k') = false := decide_eq_false h0
    have e0 : (k == k') = false := by simp; exact h0
    rw [HM.out]
    clear h0
    go_enter Try.func65, Try.ntmps65
    go_wp2
    go_ret
    exact ⟨rfl, HB.out⟩
  subst h0
  by_cases h1 : ep = ep'
  rotate_left
  · have HM : Hid ((decide (k = k) && (decide (ep = ep') && (decide (n = n') && decide (l = l')))) = false) := by show _ = _; simp; omega
    have d1 : decide (ep = ep') = false := decide_eq_false h1
    have e1 : (ep == ep') = false := by simp; exact h1
    rw [HM.out]
    clear h1
    go_enter Try.func65, Try.ntmps65
    go_wp2
    go_ret
    exact ⟨rfl, HB.out⟩
  subst h1
  by_cases h2 : n = n'
  rotate_left
  · have HM : Hid ((decide (k = k) && (decide (ep = ep) && (decide (n = n') && decide (l = l')))) = false) := by show _ = _; simp; omega
    have d2 : decide (n = n') = false := decide_eq_false h2
    have e2 : (n == n') = false := by simp; exact h2
    rw [HM.out]
    clear h2
    go_enter Try.func65, Try.ntmps65
    go_wp2
    go_ret
    exact ⟨rfl, HB.out⟩
  subst h2
  by_cases h3 : l = l'
  rotate_left
  · have HM : Hid ((decide (k = k) && (decide (ep = ep) && (decide (n = n) && decide (l = l')))) = false) := by show _ = _; simp; omega
    have d3 : decide (l = l') = false := decide_eq_false h3
    have e3 : (l == l') = false := by simp; exact h3
    rw [HM.out]
    clear h3
    go_enter Try.func65, Try.ntmps65
    go_wp2
    go_ret
    exact ⟨rfl, HB.out⟩
  subst h3
  have HM : Hid ((decide (k = k) && (decide (ep = ep) && (decide (n = n) && decide (l = l)))) = true) := by show _ = _; simp
  rw [HM.out]
  go_enter Try.func65, Try.ntmps65
  go_wp2
  go_ret
  exact ⟨rfl, HB.out⟩
def Sd.fills (s : Sd) : Bool := if 0 < s.left then decide (s.data.length = 48) else decide (0 < s.data.length)
theorem fills_any (s : Sd) (A : Option Addr) (c : Nat) (w : World) : Calls Try.prog 66 #[secV s A c] w fun e w' => e = .returned (.bool s.fills) ∧ Below w.heap.size w w' := by
  obtain ⟨k, ep, n, l, D⟩ := s
  obtain ⟨m, hm⟩ : ∃ m, m = D.length := ⟨_, rfl⟩
  unfold secV Sd.fills
  simp only
  rw [← hm]
  have HB : Hid (Below w.heap.size w (w.alloc (.cells #[.int .i64 k, .int .i64 ep, .int .i64 n, .int .i64 l, .slice A m c] 79))) := (Below.refl _ _).alloc (Nat.le_refl _) _
  clear hm
  by_cases h0 : 0 < l
  · rw [if_pos h0]
    have d0 : decide (0 < l) = true := decide_eq_true h0
    have d1 : decide (l > 0) = true := decide_eq_true h0
    by_cases h1 : m = 48
    · have HM : Hid (decide (m = 48) = true) := decide_eq_true h1
      have e1 : ((m : Int) == 48) = true := by simp; omega
      rw [HM.out]
      clear h1
      go_enter Try.func66, Try.ntmps66
      go_wp2
      go_ret
      exact ⟨rfl, HB.out⟩
    · have HM : Hid (decide (m = 48) = false) := decide_eq_false h1
      have e1 : ((m : Int) == 48) = false := by simp; omega
      rw [HM.out]
      clear h1
      go_enter Try.func66, Try.ntmps66
      go_wp2
      go_ret
      exact ⟨rfl, HB.out⟩
  · rw [if_neg h0]
    have d0 : decide (0 < l) = false := decide_eq_false h0
    have d1 : decide (l > 0) = false := decide_eq_false h0
    by_cases h1 : 0 < m
    · have HM : Hid (decide (0 < m) = true) := decide_eq_true h1
      have e1 : decide ((0 : Int) < (m : Int)) = true := decide_eq_true (by omega)
      have e2 : decide ((m : Int) > 0) = true := decide_eq_true (by omega)
      rw [HM.out]
      go_enter Try.func66, Try.ntmps66
      go_wp2
      go_ret
      exact ⟨rfl, HB.out⟩
    · have HM : Hid (decide (0 < m) = false) := decide_eq_false h1
      have e1 : decide ((0 : Int) < (m : Int)) = false := decide_eq_false (by omega)
      have e2 : decide ((m : Int) > 0) = false := decide_eq_false (by omega)
      rw [HM.out]
      go_enter Try.func66, Try.ntmps66
      go_wp2
      go_ret
      exact ⟨rfl, HB.out⟩
end
section
open Go.RowKit
theorem put1_any (gb : Nat) (L : List UInt8) (z : Int) (n k : Nat) (w : World) (hz : z = (n : Int)) (hn : n ≤ 2147483647) (hk1 : 1 ≤ k) (hk4 : k ≤ 4) (hnk : n < 256 ^ k) (hL : L.length ≤ 1000) (h : PutAt w gb L) :
    Calls Try.prog 59 #[.int .i64 z, .int .i64 (k : Int), .pointer (some ⟨gb, 0, none⟩)] w fun e w' => e = .returned (.tuple #[]) ∧ PutAt w' gb (L ++ fixL k n) ∧ Below gb w w' := by
  subst hz
  obtain ⟨i0, hi0, hz0, hz1, hz2⟩ := info_parts Try.info5
  obtain ⟨A, c, hb, ho⟩ := h
  have HF : Hid (∀ W, Calls Try.prog 60 #[.int .i64 (n : Int), .int .i64 (k : Int)] W fun e w' => ∃ A' c', e = .returned (.tuple #[.slice A' k c', .int .i64 0]) ∧ Hid (RB w' w'.heap.size A' (fixL k n)) ∧ Below W.heap.size W w') := fun W => by
    refine (fix_yes n k W hn hk1 hk4 hnk).mono fun e w' hh => ?_
    obtain ⟨A', c', he, hown, hb'⟩ := hh
    rw [fixL_length] at he
    exact ⟨A', c', he, own_rb hown, hb'⟩
  have hlt : gb < w.heap.size := hb.lt
  have HB := Lib.hid hb
  have HO := Lib.hid ho
  obtain ⟨q, hq⟩ : ∃ q, q = L.length := ⟨_, rfl⟩
  have HQ := Lib.hid hq
  rw [← hq] at HB HO hL
  have c0 : w.cell? ⟨gb, 0, none⟩ = some (.slice A q c) := HB.out.cell 0
  have f0 : w.frozen? ⟨gb, 0, none⟩ = false := HB.out.frozen 0
  clear hb ho hnk hq
  go_enter Try.func59, Try.ntmps59
  go_wp2_with (first
    | (go_at_call 60; (with_reducible refine (HF.out _).mono ?_); rintro e w1 ⟨A1, c1, rfl, hr1, hb1⟩; have k0 := (hb1.cell (p := ⟨gb, 0, none⟩) hlt).trans c0; have k1 := (hb1.frozen (p := ⟨gb, 0, none⟩) hlt).trans f0)
    | (at_builtin; refine wpList_append_any _ rfl (.tmp 13) (.tmp 14) 38 rfl gb 5 i0 _ 1 1 Try.underlying38 hi0 hz0 hz1 hz2 rfl (by omega) (.slice A q c) q (cells L) rfl (own_kept HO.out hb1) w1.heap.size A1 k c1 (cells (fixL k n)) rfl (by have := hr1.out; unfold RB at this; rwa [fixL_length] at this) (cells_one _) (by simp only [maxLen]; omega) (by omega) (by have := hb1.size; omega) ?_; intro v2 w2 ho2 hg2 hat2; have hbk := (HB.out.below hb1 hlt).grown hg2 (ne_row (HB.out.below hb1 hlt) (own_kept HO.out hb1)); have k2 := hbk.cell 0; have k3 := hbk.frozen 0; obtain ⟨A2, c2, rfl⟩ := own_form ho2))
  go_end0
  have hl : (L ++ fixL k n).length = q + k := by rw [List.length_append, fixL_length, HQ.out]
  have hbb : Below gb w w2 := (hb1.mono (Nat.le_of_lt hlt)).grown hg2 (by have := hb1.size; omega) (fun j hj => ((own_kept HO.out hb1).lt j hj).1)
  refine ⟨rfl, ⟨A2, c2, ?_, ?_⟩, hbb.setCell (Nat.le_refl _) _⟩
  · rw [hl]
    exact hbk.set_ 0 _
  · rw [hl, cells_append]
    refine own_turns ho2 (Turns.set_ (F := fun j => j = gb) rfl 0 _) (fun j hj e => ?_)
    exact ne_row hbk ho2 (by rw [hj, e])
theorem seal_put {P D : List UInt8} {m r base : Nat} {s : Sd} (A : Option Addr) (c : Nat) (W w : World) (hr : r = 48 - m) (hB : s.body = P ++ D ++ List.replicate (48 - m) 0) (ho : W.ownsRow base 5 1 (.slice A 60 c) 60 (cells P ++ cells D ++ cells (List.replicate r 0))) (hb : Below w.heap.size w W) :
    Hid (Calls Try.prog 61 #[.slice A 60 c] W fun e w' => ∃ A c, e = .returned (.slice A 64 c) ∧ Hid (GivesBytes s.bytes w (.returned (.tuple #[.slice A 64 c, .int .i64 0])) w')) := by
  subst hr
  rw [← cells_append, ← cells_append, ← hB] at ho
  have hL : s.body.length = 60 := by have := ho.1; rw [cells_length] at this; omega
  have hrb : RB W W.heap.size A s.body := by
    refine Reads.of_own (base := base) (e := 5) (c := c) ?_
    rw [hL]; exact ho
  have h1 := seal_any s.body A c W.heap.size W hrb (by omega)
  rw [hL] at h1
  refine h1.mono fun e w' hh => ?_
  obtain ⟨A, c, he, ho, hb'⟩ := hh
  have e2 : (sealL s.body).length = 64 := by rw [sealL_length, hL]
  rw [e2] at he
  refine ⟨A, c, he, A, c, ?_, ?_, chain7 hb hb'⟩
  · show _ = Ending.returned (.tuple #[.slice A (sealL s.body).length c, _])
    rw [e2]
  · exact Joins.ownsRow_le ho hb.size
theorem sec_at (w : World) (k ep n l : Int) (A : Option Addr) (m c : Nat) (W : World) (hb : Below (w.alloc (.cells #[.int .i64 k, .int .i64 ep, .int .i64 n, .int .i64 l, .slice A m c] 79)).heap.size (w.alloc (.cells #[.int .i64 k, .int .i64 ep, .int .i64 n, .int .i64 l, .slice A m c] 79)) W) :
    W.cell? ⟨w.heap.size, 0, none⟩ = some (.int .i64 k) ∧ W.cell? ⟨w.heap.size, 1, none⟩ = some (.int .i64 ep) ∧ W.cell? ⟨w.heap.size, 2, none⟩ = some (.int .i64 n) ∧ W.cell? ⟨w.heap.size, 3, none⟩ = some (.int .i64 l) ∧ W.cell? ⟨w.heap.size, 4, none⟩ = some (.slice A m c) := by
  have h0 : Blk W w.heap.size 79 #[.int .i64 k, .int .i64 ep, .int .i64 n, .int .i64 l, .slice A m c] := Blk.below (Blk.new w _ _) hb (by simp)
  exact ⟨by rw [h0.cell]; rfl, by rw [h0.cell]; rfl, by rw [h0.cell]; rfl, by rw [h0.cell]; rfl, by rw [h0.cell]; rfl⟩
theorem sput_no (s : Sd) (A : Option Addr) (c : Nat) (w : World) (h : s.may = false) :
    Calls Try.prog 44 #[secV s A c] w fun e w' => e = .returned (.tuple #[.slice none 0 0, .int .i64 1]) ∧ Below w.heap.size w w' := by
  have HM : Hid (∀ W, Calls Try.prog 58 #[secV s A c] W fun e w' => e = .returned (.bool false) ∧ Below W.heap.size W w') := fun W => by rw [← h]; exact maybe_any s A c W
  have HB : Hid (Below w.heap.size w (w.alloc (.cells #[.int .i64 s.kind, .int .i64 s.epoch, .int .i64 s.number, .int .i64 s.left, .slice A s.data.length c] 79))) := (Below.refl _ _).alloc (Nat.le_refl _) _
  have a24 := fun w' => Try.aggSec w'
  have s24 := fun w' => Try.sizeSec w'
  unfold secV at HM ⊢
  clear h
  go_enter Try.func44, Try.ntmps44
  go_wp2_with (first
    | (go_at_call 58; (with_reducible refine (HM.out _).mono ?_); rintro e w1 ⟨rfl, hb1⟩))
  go_ret2
  exact ⟨rfl, chain7 HB.out hb1⟩
theorem sput_yes (s : Sd) (A : Option Addr) (c : Nat) (w : World) (h : s.may = true) (hr : RB w w.heap.size A s.data) :
    Calls Try.prog 44 #[secV s A c] w (GivesBytes s.bytes w) := by
  have HM : Hid (∀ W, Calls Try.prog 58 #[secV s A c] W fun e w' => e = .returned (.bool true) ∧ Below W.heap.size W w') := fun W => by rw [← h]; exact maybe_any s A c W
  obtain ⟨i0, hi0, hz0, hz1, hz2⟩ := info_parts Try.info5
  obtain ⟨h1, h2, h3, h4, h5, h6, h7, h8, h9⟩ := s.may_iff.1 h
  clear h
  obtain ⟨kz, ez, nz, lz, D⟩ := s
  simp only at h1 h2 h3 h4 h5 h6 h7 h8 h9 hr
  obtain ⟨k, rfl⟩ : ∃ k : Nat, kz = (k : Int) := ⟨kz.toNat, by omega⟩
  obtain ⟨ep, rfl⟩ : ∃ k : Nat, ez = (k : Int) := ⟨ez.toNat, by omega⟩
  obtain ⟨n, rfl⟩ : ∃ k : Nat, nz = (k : Int) := ⟨nz.toNat, by omega⟩
  obtain ⟨l, rfl⟩ : ∃ k : Nat, lz = (k : Int) := ⟨lz.toNat, by omega⟩
  obtain ⟨m, hm⟩ : ∃ m, m = D.length := ⟨_, rfl⟩
  obtain ⟨P1, hP1⟩ : ∃ X, X = fixL 1 k := ⟨_, rfl⟩
  obtain ⟨P2, hP2⟩ : ∃ X, X = P1 ++ fixL 1 m := ⟨_, rfl⟩
  obtain ⟨P3, hP3⟩ : ∃ X, X = P2 ++ fixL 2 l := ⟨_, rfl⟩
  obtain ⟨P4, hP4⟩ : ∃ X, X = P3 ++ fixL 4 ep := ⟨_, rfl⟩
  obtain ⟨P5, hP5⟩ : ∃ X, X = P4 ++ fixL 4 n := ⟨_, rfl⟩
  have l1 : P1.length = 1 := by rw [hP1, fixL_length]
  have l2 : P2.length = 2 := by rw [hP2, List.length_append, fixL_length, l1]
  have l3 : P3.length = 4 := by rw [hP3, List.length_append, fixL_length, l2]
  have l4 : P4.length = 8 := by rw [hP4, List.length_append, fixL_length, l3]
  have l5 : P5.length = 12 := by rw [hP5, List.length_append, fixL_length, l4]
  have HL5 := Lib.hid l5
  have hm48 : m ≤ 48 := by omega
  have HBd : Hid (Sd.body ⟨(k : Int), (ep : Int), (n : Int), (l : Int), D⟩ = P5 ++ D ++ List.replicate (48 - m) 0) := by
    show _ = _
    have e1 : fixL 1 k = [UInt8.ofNat k] := by
      show [UInt8.ofNat (k % 256)] = _
      rw [Nat.mod_eq_of_lt (by omega)]
    have e2 : fixL 1 m = [UInt8.ofNat m] := by
      show [UInt8.ofNat (m % 256)] = _
      rw [Nat.mod_eq_of_lt (by omega)]
    unfold Sd.body Sd.head
    simp only [Int.toNat_natCast, hP5, hP4, hP3, hP2, hP1, e1, e2, ← hm]
    simp
  have HC1 : Hid (∀ gb W, Hid (PutAt W gb []) → Calls Try.prog 59 #[.int .i64 (k : Int), .int .i64 1, .pointer (some ⟨gb, 0, none⟩)] W fun e w' => e = .returned (.tuple #[]) ∧ Hid (PutAt w' gb P1) ∧ Below gb W w') := fun gb W h => by
    have := put1_any gb [] (k : Int) k 1 W rfl (by omega) (by omega) (by omega) (by omega) (by simp) h.out
    rw [List.nil_append, ← hP1] at this
    exact this
  have HC2 : Hid (∀ gb W, Hid (PutAt W gb P1) → Calls Try.prog 59 #[.int .i64 (m : Int), .int .i64 1, .pointer (some ⟨gb, 0, none⟩)] W fun e w' => e = .returned (.tuple #[]) ∧ Hid (PutAt w' gb P2) ∧ Below gb W w') := fun gb W h => by
    have := put1_any gb P1 (m : Int) m 1 W rfl (by omega) (by omega) (by omega) (by omega) (by omega) h.out
    rw [← hP2] at this
    exact this
  have HC3 : Hid (∀ gb W, Hid (PutAt W gb P2) → Calls Try.prog 59 #[.int .i64 (l : Int), .int .i64 2, .pointer (some ⟨gb, 0, none⟩)] W fun e w' => e = .returned (.tuple #[]) ∧ Hid (PutAt w' gb P3) ∧ Below gb W w') := fun gb W h => by
    have := put1_any gb P2 (l : Int) l 2 W rfl (by omega) (by omega) (by omega) (by omega) (by omega) h.out
    rw [← hP3] at this
    exact this
  have HC4 : Hid (∀ gb W, Hid (PutAt W gb P3) → Calls Try.prog 59 #[.int .i64 (ep : Int), .int .i64 4, .pointer (some ⟨gb, 0, none⟩)] W fun e w' => e = .returned (.tuple #[]) ∧ Hid (PutAt w' gb P4) ∧ Below gb W w') := fun gb W h => by
    have := put1_any gb P3 (ep : Int) ep 4 W rfl (by omega) (by omega) (by omega) (by omega) (by omega) h.out
    rw [← hP4] at this
    exact this
  have HC5 : Hid (∀ gb W, Hid (PutAt W gb P4) → Calls Try.prog 59 #[.int .i64 (n : Int), .int .i64 4, .pointer (some ⟨gb, 0, none⟩)] W fun e w' => e = .returned (.tuple #[]) ∧ Hid (PutAt w' gb P5) ∧ Below gb W w') := fun gb W h => by
    have := put1_any gb P4 (n : Int) n 4 W rfl (by omega) (by omega) (by omega) (by omega) (by omega) h.out
    rw [← hP5] at this
    exact this
  have HR : Hid (∀ W, Below (w.alloc (.cells #[.int .i64 (k : Int), .int .i64 (ep : Int), .int .i64 (n : Int), .int .i64 (l : Int), .slice A m c] 79)).heap.size (w.alloc (.cells #[.int .i64 (k : Int), .int .i64 (ep : Int), .int .i64 (n : Int), .int .i64 (l : Int), .slice A m c] 79)) W → Hid (Reads W W.heap.size 1 A m (cells D))) := fun W hb => by
    have h2 := rb_up7 (rb_up7 hr ((Below.refl _ _).alloc (Nat.le_refl _) _)) hb
    unfold RB at h2
    rw [← hm] at h2
    exact h2
  have HS : Hid (∀ W, Below (w.alloc (.cells #[.int .i64 (k : Int), .int .i64 (ep : Int), .int .i64 (n : Int), .int .i64 (l : Int), .slice A m c] 79)).heap.size (w.alloc (.cells #[.int .i64 (k : Int), .int .i64 (ep : Int), .int .i64 (n : Int), .int .i64 (l : Int), .slice A m c] 79)) W → W.cell? ⟨w.heap.size, 0, none⟩ = some (.int .i64 (k : Int)) ∧ W.cell? ⟨w.heap.size, 1, none⟩ = some (.int .i64 (ep : Int)) ∧ W.cell? ⟨w.heap.size, 2, none⟩ = some (.int .i64 (n : Int)) ∧ W.cell? ⟨w.heap.size, 3, none⟩ = some (.int .i64 (l : Int)) ∧ W.cell? ⟨w.heap.size, 4, none⟩ = some (.slice A m c)) := fun W hb => sec_at w _ _ _ _ A m c W hb
  have HB : Hid (Below w.heap.size w (w.alloc (.cells #[.int .i64 (k : Int), .int .i64 (ep : Int), .int .i64 (n : Int), .int .i64 (l : Int), .slice A m c] 79))) := (Below.refl _ _).alloc (Nat.le_refl _) _
  obtain ⟨t7, ht7⟩ : ∃ t, t = 12 + m := ⟨_, rfl⟩
  obtain ⟨r, hrr⟩ : ∃ t, t = 48 - m := ⟨_, rfl⟩
  have y0 : IntKind.i64.wrap (48 - (m : Int)) = (r : Int) := by rw [IntWalk.i64_in _ (by omega)]; omega
  have HT : Hid (12 + m = t7 ∧ t7 + r = 60 ∧ r = 48 - m) := ⟨by omega, by omega, by omega⟩
  have a24 := fun w' => Try.aggSec w'
  have s24 := fun w' => Try.sizeSec w'
  have hmf : ∀ (fn : Fn) (first cap : Array Value) (w : World), (Instr.makeFunc fn first cap).run Try.prog w = .ok (.func fn first cap) w := fun _ _ _ _ => rfl
  unfold secV at HM ⊢
  simp only at HM ⊢
  rw [← hm] at HM ⊢
  clear hP1 hP2 hP3 hP4 hP5 l1 l2 l3 l4 l5 hr ht7 hrr hm h1 h2 h3 h4 h5 h6 h7 h8 h9
  go_enter Try.func44, Try.ntmps44
  go_wp2_with (first
    | (go_at_call 58; (with_reducible refine (HM.out _).mono ?_); rintro e w1 ⟨rfl, b1⟩; have b1a := b1.alloc b1.size (.cells #[.slice none 0 0] 38); have p0 := Lib.hid (put_new w1); obtain ⟨q0, q1, q2, q3, q4⟩ := HS.out _ b1a)
    | (go_at_call 59; (with_reducible refine (HC1.out _ _ p0).mono ?_); rintro e w2 ⟨rfl, p1, hb2⟩; have b2 := b1a.trans (hb2.mono b1.size); obtain ⟨q0, q1, q2, q3, q4⟩ := HS.out _ b2)
    | (go_at_call 59; (with_reducible refine (HC2.out _ _ p1).mono ?_); rintro e w3 ⟨rfl, p2, hb3⟩; have b3 := b2.trans (hb3.mono b1.size); obtain ⟨q0, q1, q2, q3, q4⟩ := HS.out _ b3)
    | (go_at_call 59; (with_reducible refine (HC3.out _ _ p2).mono ?_); rintro e w4 ⟨rfl, p3, hb4⟩; have b4 := b3.trans (hb4.mono b1.size); obtain ⟨q0, q1, q2, q3, q4⟩ := HS.out _ b4)
    | (go_at_call 59; (with_reducible refine (HC4.out _ _ p3).mono ?_); rintro e w5 ⟨rfl, p4, hb5⟩; have b5 := b4.trans (hb5.mono b1.size); obtain ⟨q0, q1, q2, q3, q4⟩ := HS.out _ b5)
    | (go_at_call 59; (with_reducible refine (HC5.out _ _ p4).mono ?_); rintro e w6 ⟨rfl, p5, hb6⟩; have b6 := b5.trans (hb6.mono b1.size); obtain ⟨q0, q1, q2, q3, q4⟩ := HS.out _ b6; obtain ⟨A6, c6, hblk, hown⟩ := p5.out; rw [HL5.out] at hblk hown; have k0 := hblk.cell 0; have k1 := hblk.frozen 0; have r6 := HR.out _ b6; have z6 := Nat.le_of_lt (Blk.lt hblk))
    | (at_builtin; refine wpList_append_any _ rfl (.tmp 31) (.tmp 33) 38 rfl w1.heap.size 5 i0 _ 1 1 Try.underlying38 hi0 hz0 hz1 hz2 rfl (by omega) (.slice A6 12 c6) 12 (cells P5) rfl hown w6.heap.size A m c (cells D) rfl r6.out (cells_one _) (by simp only [maxLen]; omega) (by omega) z6 ?_; intro v7 w7 ho7 hg7 hat7; rw [HT.out.1] at ho7; obtain ⟨A7, c7, rfl⟩ := own_form ho7; have hbk7 := hblk.grown hg7 (ne_row hblk hown); have k2 := hbk7.cell 0; have k3 := hbk7.frozen 0; have b7 := b6.grown hg7 (by have := b6.size; omega) (fun j hj => Nat.le_trans b1.size (hown.lt j hj).1); have b7s := b7.setCell (p := ⟨w1.heap.size, 0, none⟩) b1.size (.slice A7 t7 c7); obtain ⟨q0, q1, q2, q3, q4⟩ := HS.out _ b7s; have hbk7s := hbk7.set_ 0 (.slice A7 t7 c7); have k4 := hbk7s.cell 0; have k5 := hbk7s.frozen 0; have ho7s := own_turns ho7 (Turns.set_ (F := fun j => j = w1.heap.size) rfl 0 (.slice A7 t7 c7)) (fun j hj e => ne_row hbk7 ho7 (by rw [hj, e])); have z7 := Nat.le_of_lt (Blk.lt hbk7s))
    | (at_builtin; refine wpList_append_make _ rfl (.tmp 35) (.tmp 39) 38 3 rfl w1.heap.size 5 i0 _ 1 1 .i64 Try.underlying38 Try.underlying3 hi0 hz0 hz1 hz2 rfl (by omega) (.slice A7 t7 c7) t7 (cells P5 ++ cells D) rfl ho7s r rfl (cells (List.replicate r 0)) (zero_bytes r) (cells_one _) (by have := HT.out; simp only [maxLen]; omega) (by have := HT.out; omega) z7 ?_; intro v8 w8 ho8 hg8 hat8; rw [HT.out.2.1] at ho8; obtain ⟨A8, c8, rfl⟩ := own_form ho8; have hbk8 := hbk7s.grown hg8 (ne_row hbk7s ho7s); have k6 := hbk8.cell 0; have k7 := hbk8.frozen 0; have b8 := b7s.grown hg8 (by have := b7s.size; omega) (fun j hj => Nat.le_trans b1.size (ho7s.lt j hj).1); have b8s := b8.setCell (p := ⟨w1.heap.size, 0, none⟩) b1.size (.slice A8 60 c8); have ho8s := own_turns ho8 (Turns.set_ (F := fun j => j = w1.heap.size) rfl 0 (.slice A8 60 c8)) (fun j hj e => ne_row hbk8 ho8 (by rw [hj, e])); have HSe := seal_put A8 c8 _ w HT.out.2.2 HBd.out ho8s (HB.out.trans (b8s.mono HB.out.size)))
    | (go_at_call 61; (with_reducible refine HSe.out.mono ?_); rintro e w9 ⟨A0, c0, rfl, hG⟩))
  go_ret2
  exact hG.out
theorem sput_any (s : Sd) (A : Option Addr) (c : Nat) (w : World) (hr : RB w w.heap.size A s.data) (hl : s.data.length ≤ 1000000) :
    Calls Try.prog 44 #[secV s A c] w fun e w' => (s.may = true → GivesBytes s.bytes w e w') ∧ (s.may = false → e = .returned (.tuple #[.slice none 0 0, .int .i64 1]) ∧ Below w.heap.size w w') := by
  cases hv : s.may with
  | true => exact (sput_yes s A c w hv hr).mono fun e w' h => ⟨fun _ => h, fun h' => absurd h' (by decide)⟩
  | false => exact (sput_no s A c w hv).mono fun e w' h => ⟨fun h' => absurd h' (by decide), fun _ => h⟩
end
end Go.Proofs.Ytghenhacndaelaa
