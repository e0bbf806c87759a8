/- Lemmas under the proofs of this place: DagPRising. No statement is proved here. -/
import Derived.Test.YtbeihiokjhfepaaBu19
import Derived.Test.YtbeihiokjhfepaaBu08
set_option linter.unusedSimpArgs false
set_option linter.unusedVariables false
set_option maxRecDepth 100000
set_option maxHeartbeats 16000000
namespace Go.Proofs.Ytbeihiokjhfepaa
open Go.RowKit
theorem GivesOwnS.strs {l : List Bs} {w w' : World} {e : Ending} (h : GivesOwnS l w e w') : GivesStrs l w e w' := by
  obtain ⟨A, c, rfl, h1, h2⟩ := h
  exact GivesStrs.own h1.out h2.out
theorem rising_any {w : World} {p n c : Nat} {g : Gr} {A : Option Addr} {mv : Value} (h : PV w p g A n c mv) (l : List Nat) (X : Option Addr) (m d : Nat) (hm : m = l.length) (hs : NS w w.heap.size X l) (hj : ∀ j ∈ l, j < g.length) (hl : m ≤ 5000) :
    Calls Try.prog 44 #[.pointer (some ⟨p, 0, none⟩), .slice X m d] w (GivesOwnS (sortB (toldL g l)) w) := by
  have HTo := Lib.hid (told_any h l X m d hm hs hj hl)
  have hk : (toldL g l).length = m := by rw [toldL_length]; exact hm.symm
  have hsl : (sortB (toldL g l)).length = m := by rw [sortB_length]; exact hk
  have HT : Hid (Calls Try.prog 58 #[.pointer (some ⟨p, 0, none⟩), .slice X m d] w fun e w' => ∃ A c, e = .returned (.slice A m c) ∧ Hid (w'.ownsRow w.heap.size 9 1 (.slice A m c) m (scells (toldL g l))) ∧ Hid (Below w.heap.size w w')) := HTo.out.mono fun e w' hh => by
    obtain ⟨A, c, q1, q2, q3⟩ := hh
    rw [hk] at q1 q2
    exact ⟨A, c, q1, q2, q3⟩
  unfold GivesOwnS
  rw [hsl]
  have HM : Hid (m ≤ 1000000) := by show m ≤ 1000000; omega
  clear hs hj hm hk hsl h HTo hl
  go_enter Try.func44, Try.ntmps44
  go_wp2_with (first
    | (go_at_call 58; (with_reducible refine HT.out.mono ?_); rintro e w1 ⟨X1, c1, rfl, ho, b1⟩)
    | (go_at_call 63; (with_reducible refine (sort_own ho.out HM.out).mono ?_); rintro e w2 ⟨rfl, ho2, hb2⟩))
  go_ret
  exact ⟨X1, c1, rfl, ho2, hb2 _ b1.out.size b1.out⟩
theorem ppreds_any {w : World} {p n c : Nat} {g : Gr} {A : Option Addr} {mv : Value} (ok : GrOk g) (h : PV w p g A n c mv) (hl : ∀ i, i < g.length → (g.getD i nd0).preds.length ≤ 5000) (x : Bs) :
    Calls Try.prog 22 #[.pointer (some ⟨p, 0, none⟩), .string (text x)] w (GivesStrs (predsG g x) w) := by
  have HP := Lib.hid (place_any h x)
  obtain ⟨t, ht⟩ : ∃ t, t = text x := ⟨_, rfl⟩
  rw [← ht] at HP ⊢
  by_cases hm : x ∈ idsG g
  · have hi := idx_lt.2 hm
    rw [plN_in hm, hasG_iff.2 hm] at HP
    have hG : predsG g x = sortB (toldL g (predI g (idxG g x))) := (sort_preds ok hi).symm
    rw [hG]
    have HL : Hid (idxG g x < n) := by show _ < _; rw [h.len]; exact hi
    obtain ⟨k, hk⟩ : ∃ k, k = idxG g x := ⟨_, rfl⟩
    rw [← hk] at HP HL hi ⊢
    have hpl := hl k hi
    rw [← predI_length] at hpl
    have HR : Hid (∀ W, Below w.heap.size w W → ∃ b off pA pc, A = some ⟨b, off, none⟩ ∧ W.cell? ⟨p, 0, none⟩ = some (.slice (some ⟨b, off, none⟩) n c) ∧ W.cell? ⟨b, off + k * 4 + 1, none⟩ = some (.slice pA (predI g k).length pc) ∧
        Calls Try.prog 44 #[.pointer (some ⟨p, 0, none⟩), .slice pA (predI g k).length pc] W (GivesOwnS (sortB (toldL g (predI g k))) W)) := fun W hW => by
      obtain ⟨b, off, e, c0, ⟨-, ⟨pA, pc, c1, hs⟩, -, -⟩, -⟩ := node_at h hi W hW
      exact ⟨b, off, pA, pc, e, c0, c1, rising_any (h.up hW) _ _ _ _ rfl hs (fun j hj => Nat.lt_trans (predI_lt ok hi j hj) hi) hpl⟩
    obtain ⟨l, hll⟩ : ∃ l, l = sortB (toldL g (predI g k)) := ⟨_, rfl⟩
    rw [← hll] at HR ⊢
    obtain ⟨m, hmm⟩ : ∃ m, m = (predI g k).length := ⟨_, rfl⟩
    rw [← hmm] at HR
    have u0 : (0 : Int) ≤ (k : Int) := by omega
    have u1 : (k : Int) < (n : Int) := by have := HL.out; omega
    clear hmm hll hpl hk hG hi hm ht h hl
    go_enter Try.func22, Try.ntmps22
    go_wp2_with (first
      | (go_at_call 49; (with_reducible refine HP.out.mono ?_); rintro e w1 ⟨rfl, b1⟩; obtain ⟨b, off, pA, pc, rfl, c0, c1, HRi⟩ := HR.out _ b1; have HRi := Lib.hid HRi; have B1 := Lib.hid b1)
      | (go_at_call 44; (with_reducible refine HRi.out.mono ?_); intro e w2 hg; obtain ⟨A2, c2, rfl, h1, h2, h3, b2⟩ := hg.strs))
    go_ret
    exact ⟨A2, c2, rfl, h1, h2, h3, below16 B1.out b2⟩
  · have hf : hasG g x = false := by rw [hasG_dec]; exact decide_eq_false hm
    rw [hf] at HP
    rw [preds_no hm]
    clear hm hf h ht hl
    go_enter Try.func22, Try.ntmps22
    go_wp2_with (go_at_call 49; (with_reducible refine HP.out.mono ?_); rintro e w1 ⟨rfl, b1⟩)
    go_ret
    exact ⟨none, 0, rfl, SS.nil _ _ _, Nat.le_refl _, by omega, b1⟩
theorem ppreds_none (x : ByteArray) (w : World) : Calls Try.prog 22 #[.pointer none, .string x] w (GivesStrs [] w) := by
  have HP := Lib.hid (place_none x w)
  go_enter Try.func22, Try.ntmps22
  go_wp2_with (go_at_call 49; (with_reducible refine HP.out.mono ?_); rintro e w1 ⟨rfl, b1⟩)
  go_ret
  exact ⟨none, 0, rfl, SS.nil _ _ _, Nat.le_refl _, by omega, b1⟩
theorem kids_no {g : Gr} (ok : GrOk g) {x : Bs} (h : x ∉ idsG g) : kidsG g x = [] := by
  unfold kidsG
  have e : (g.filter fun n => hasL n.preds x) = [] := List.filter_eq_nil_iff.2 fun n hn hh => by
    obtain ⟨j, hj, rfl⟩ := gmem.1 hn
    exact h (pred_in ok hj ((hasL_iff _ _).1 hh))
  rw [e]
  rfl
theorem pkids_any {w : World} {p n c : Nat} {g : Gr} {A : Option Addr} {mv : Value} (ok : GrOk g) (h : PV w p g A n c mv) (hl : g.length ≤ 5000) (x : Bs) :
    Calls Try.prog 24 #[.pointer (some ⟨p, 0, none⟩), .string (text x)] w (GivesStrs (kidsG g x) w) := by
  have HP := Lib.hid (place_any h x)
  obtain ⟨t, ht⟩ : ∃ t, t = text x := ⟨_, rfl⟩
  rw [← ht] at HP ⊢
  by_cases hm : x ∈ idsG g
  · have hi := idx_lt.2 hm
    rw [plN_in hm, hasG_iff.2 hm] at HP
    have hG : kidsG g x = sortB (toldL g (kidI g (idxG g x))) := by
      rw [sort_kids ok, idAt, idx_id hi]
    rw [hG]
    have HL : Hid (idxG g x < n) := by show _ < _; rw [h.len]; exact hi
    obtain ⟨k, hk⟩ : ∃ k, k = idxG g x := ⟨_, rfl⟩
    rw [← hk] at HP HL hi ⊢
    have hkl := kidI_le g k
    have HR : Hid (∀ W, Below w.heap.size w W → ∃ b off pA pc, A = some ⟨b, off, none⟩ ∧ W.cell? ⟨p, 0, none⟩ = some (.slice (some ⟨b, off, none⟩) n c) ∧ W.cell? ⟨b, off + k * 4 + 2, none⟩ = some (.slice pA (kidI g k).length pc) ∧
        Calls Try.prog 44 #[.pointer (some ⟨p, 0, none⟩), .slice pA (kidI g k).length pc] W (GivesOwnS (sortB (toldL g (kidI g k))) W)) := fun W hW => by
      obtain ⟨b, off, e, c0, ⟨-, -, ⟨pA, pc, c1, hs⟩, -⟩, -⟩ := node_at h hi W hW
      exact ⟨b, off, pA, pc, e, c0, c1, rising_any (h.up hW) _ _ _ _ rfl hs (fun j hj => filter_lt _ _ j hj) (by omega)⟩
    obtain ⟨l, hll⟩ : ∃ l, l = sortB (toldL g (kidI g k)) := ⟨_, rfl⟩
    rw [← hll] at HR ⊢
    obtain ⟨m, hmm⟩ : ∃ m, m = (kidI g k).length := ⟨_, rfl⟩
    rw [← hmm] at HR
    have u0 : (0 : Int) ≤ (k : Int) := by omega
    have u1 : (k : Int) < (n : Int) := by have := HL.out; omega
    clear hmm hll hkl hk hG hi hm ht h hl
    go_enter Try.func24, Try.ntmps24
    go_wp2_with (first
      | (go_at_call 49; (with_reducible refine HP.out.mono ?_); rintro e w1 ⟨rfl, b1⟩; obtain ⟨b, off, pA, pc, rfl, c0, c1, HRi⟩ := HR.out _ b1; have HRi := Lib.hid HRi; have B1 := Lib.hid b1)
      | (go_at_call 44; (with_reducible refine HRi.out.mono ?_); intro e w2 hg; obtain ⟨A2, c2, rfl, h1, h2, h3, b2⟩ := hg.strs))
    go_ret
    exact ⟨A2, c2, rfl, h1, h2, h3, below16 B1.out b2⟩
  · have hf : hasG g x = false := by rw [hasG_dec]; exact decide_eq_false hm
    rw [hf] at HP
    rw [kids_no ok hm]
    clear hm hf h ht hl
    go_enter Try.func24, Try.ntmps24
    go_wp2_with (go_at_call 49; (with_reducible refine HP.out.mono ?_); rintro e w1 ⟨rfl, b1⟩)
    go_ret
    exact ⟨none, 0, rfl, SS.nil _ _ _, Nat.le_refl _, by omega, b1⟩
theorem pkids_none (x : ByteArray) (w : World) : Calls Try.prog 24 #[.pointer none, .string x] w (GivesStrs [] w) := by
  have HP := Lib.hid (place_none x w)
  go_enter Try.func24, Try.ntmps24
  go_wp2_with (go_at_call 49; (with_reducible refine HP.out.mono ?_); rintro e w1 ⟨rfl, b1⟩)
  go_ret
  exact ⟨none, 0, rfl, SS.nil _ _ _, Nat.le_refl _, by omega, b1⟩
end Go.Proofs.Ytbeihiokjhfepaa
