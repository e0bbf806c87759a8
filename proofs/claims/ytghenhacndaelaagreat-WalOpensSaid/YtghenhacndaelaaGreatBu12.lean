/- Lemmas under the proofs of this place: WalOpen, DiskPOf, SectPMay, SectMem, CrcOpen, WalBytes. No statement is proved here. -/
import Derived.Test.YtghenhacndaelaaGreatBu10
import Derived.Test.YtghenhacndaelaaGreatBu03
import Derived.Test.YtghenhacndaelaaGreatBu01
import Derived.Test.YtghenhacndaelaaGreatBu07
import Derived.Test.YtghenhacndaelaaGreatBu05
import Derived.Test.YtghenhacndaelaaGreatBu11
import Derived.Deep.RegionWith
import Derived.Deep.QuietTactic
import Derived.BigQuiet
import Derived.Lib.SmallJoins
import Derived.Deep.RegionHeldLaw
set_option linter.unusedSimpArgs false
set_option linter.unusedVariables false
set_option maxRecDepth 100000
set_option maxHeartbeats 16000000
namespace Go.Proofs.YtghenhacndaelaaGreat
section
namespace Wal
def areaW (d : Dk) (frm blocks : Nat) : List UInt8 := (List.range blocks).flatMap fun i => d.now (frm + i)
def secA (area : List UInt8) : Sec := fun j => getS (secL area j)
def recordsA (area : List UInt8) (least most : Int) : List (List UInt8) × Nat := recordsW (secA area) (area.length / 64) least most (area.length / 64 + 1) 0
def openOk (d : Dk) (frm blocks least most : Int) : Bool := decide (0 ≤ frm) && (decide (frm ≤ (d.safe.length : Int)) && (decide (1 ≤ blocks) && (decide (blocks ≤ (d.safe.length : Int) - frm) && (decide (1 ≤ least) && (decide (least ≤ most) && decide (most ≤ 2147483647))))))
def openW (d : Dk) (frm blocks least most : Int) : Dk × Option Lg × List (List UInt8) × Int :=
  if openOk d frm blocks least most = false then (d, none, [], 1) else if d.off = true then (d, none, [], 9) else
  let area := areaW d frm.toNat blocks.toNat
  let r := recordsA area least most
  ({ d with reads := d.reads + blocks.toNat }, some ⟨frm.toNat, 4 * blocks.toNat, most, area.take (64 * r.2), false⟩, r.1, 0)
theorem flat_block (f : Nat → List UInt8) : ∀ n, (∀ i, i < n → (f i).length = 256) → ((List.range n).flatMap f).length = 256 * n ∧ ∀ j, j < 4 * n → secL ((List.range n).flatMap f) j = Dk.sector (f (j / 4)) (j % 4)
  | 0, _ => ⟨rfl, fun j hj => by omega⟩
  | n + 1, h => by
    obtain ⟨h1, h2⟩ := flat_block f n fun i hi => h i (by omega)
    rw [List.range_succ, List.flatMap_append]
    simp only [List.flatMap_cons, List.flatMap_nil, List.append_nil]
    have hn := h n (by omega)
    refine ⟨by rw [List.length_append, h1, hn]; omega, fun j hj => ?_⟩
    by_cases hjn : j < 4 * n
    · rw [← h2 j hjn]
      unfold secL
      rw [List.drop_append_of_le_length (by omega), List.take_append_of_le_length (by rw [List.length_drop]; omega)]
    · unfold secL Dk.sector
      rw [show 64 * j = ((List.range n).flatMap f).length + 64 * (j - 4 * n) by omega, ← List.drop_drop, List.drop_left, show j / 4 = n by omega, show j % 4 = j - 4 * n by omega]
def turnW (l : Lg) (e : Int) : Lg × Int := if l.gone = true then (l, 8) else if e < l.epoch ∨ 2147483647 < e then (l, 1) else ({ l with epoch := e }, 0)
def resetW (l : Lg) (e : Int) : Lg × Int := if (turnW l e).2 = 0 then ({ (turnW l e).1 with b := [] }, 0) else (turnW l e).1 |> fun x => (x, (turnW l e).2)
end Wal
end
section
open Go.RowKit
def GivesDisk (D : Dk) (w w' : World) (g : Nat) (F : Nat → Prop) : Prop := PDisk w' g F D ∧ Below w.heap.size w w' ∧ ∀ k, F k → w.heap.size ≤ k
theorem newDisk {w0 w1 w2 w3 : World} {L : List UInt8} {a b ca cb m g : Nat} (hm : L.length = 256 * m) (hf : 16 ≤ m) (hm2 : m ≤ 1024) (h1 : Arr w1 a L) (ha : w0.heap.size ≤ a) (hb1 : Below w0.heap.size w0 w1) (hca : L.length ≤ ca ∧ ca ≤ 9223372036854775807)
    (h2 : Arr w2 b L) (hb : w1.heap.size ≤ b) (hb2 : Below w1.heap.size w1 w2) (hcb : L.length ≤ cb ∧ cb ≤ 9223372036854775807)
    (hw : Hid (w3 = w2.alloc (.cells #[.slice (some ⟨a, 0, none⟩) L.length ca, .slice (some ⟨b, 0, none⟩) L.length cb, .slice none 0 0, .bool false, .bool false, .int .i64 0, .int .i64 0, .int .i64 0, .int .i64 0] 94))) (hg : Hid (g = w2.heap.size)) :
    GivesDisk (Dk.ofImage L) w0 w3 g (fun k => k = g ∨ k = a ∨ k = b) := by
  have e1 : L.length / 256 = m := by omega
  have hl : (Dk.ofImage L).safe = Dk.chunks m L := by unfold Dk.ofImage; rw [e1]
  have hfl : (Dk.ofImage L).safe.flatten = L := by rw [hl]; exact Dk.chunks_flatten m L hm
  have hlt1 := h1.lt
  have hlt2 := h2.lt
  have hs1 := hb1.size
  have hs2 := hb2.size
  have hs3 := letter_size hw
  have hg' := hg.out
  have hb3 : Below w2.heap.size w2 w3 := letter_below hw (Below.refl _ _) (Nat.le_refl _)
  refine ⟨⟨a, ca, b, cb, L.length, .slice none 0 0, false, 0, ?_⟩, (hb1.trans (hb2.mono hs1)).trans (hb3.mono (by omega)), fun k hk => by rcases hk with rfl | rfl | rfl <;> omega⟩
  refine ⟨letter_blk hw hg, ?_, hca, hcb, ?_, ?_, World.ownsRow_nil _ _ _ _, by omega, .inl rfl, .inr (.inl rfl), .inr (.inr rfl), fun k hk => by simp [Value.ownBlock] at hk, fun k hk => by rcases hk with rfl | rfl | rfl <;> omega, ?_, fun _ => rfl, fun _ h => absurd h (by show ¬ (0 : Int) ≤ -1; omega)⟩
  · rw [hl, Dk.chunks_length]; exact hm
  · rw [hfl]
    exact (h1.turns (Turns.of_below hb2 (fun _ => False)) (fun h => h)).turns (Turns.of_below hb3 (fun _ => False)) (fun h => h)
  · rw [Dk.image_calm _ rfl, hfl]
    exact h2.turns (Turns.of_below hb3 (fun _ => False)) (fun h => h)
  · refine ⟨⟨?_, fun x hx => by cases hx⟩, by rw [hl, Dk.chunks_length]; exact hf, by rw [hl, Dk.chunks_length]; exact hm2, ⟨Int.le_refl _, by show (-1 : Int) ≤ _; omega⟩⟩
    rw [hl]; exact Dk.chunks_fit m L hm
theorem of_any (L : List UInt8) (m : Nat) (A : Option Addr) (n c : Nat) (w : World) (hr : RB w w.heap.size A L) (hn : n = L.length) (hm : L.length = 256 * m) (hf : 16 ≤ m) (hm2 : m ≤ 1024) :
    Calls Tryz.prog 25 #[.slice A n c] w fun e w' => ∃ g F, e = .returned (.pointer (some ⟨g, 0, none⟩)) ∧ GivesDisk (Dk.ofImage L) w w' g F := by
  subst hn
  have HM : Hid (L.length = 256 * m ∧ 16 ≤ m ∧ m ≤ 1024) := ⟨hm, hf, hm2⟩
  have HC := Lib.hid (sclone_any L A c _ w hr (by omega))
  have HC2 : Hid (∀ w1, Below w.heap.size w w1 → Calls Tryz.prog 51 #[.slice A L.length c] w1 (GivesOne L w1)) := fun w1 hb => sclone_any L A c _ w1 (hr.below hb) (by omega)
  have u0 : 0 < L.length := by omega
  clear hr hm hf hm2
  go_enter Tryz.func25, Tryz.ntmps25
  go_wp2_with (first
    | (go_at_call 51; (with_reducible refine HC.out.mono ?_); rintro e w1 ⟨A1, c1, rfl, ho1, hb1⟩; obtain ⟨a, rfl, hA1, hl1, hm1, hg1⟩ := own_arr ho1 u0; clear HC)
    | (go_at_call 51; (with_reducible refine (HC2.out w1 hb1).mono ?_); rintro e w2 ⟨A2, c2, rfl, ho2, hb2⟩; obtain ⟨b, rfl, hA2, hl2, hm2, hg2⟩ := own_arr ho2 u0)
    | (refine wpList_buildTo rfl 94 _ rfl (some 7) rfl _ (Tryz.builtDisk _ _ a b L.length c1 c2 rfl rfl) ?_)
    | (refine wpList_box_letter rfl 94 _ rfl (some 8) rfl _ rfl ?_; intro g3 w3 hw3 hg3))
  go_ret
  exact ⟨g3, _, rfl, newDisk HM.out.1 HM.out.2.1 HM.out.2.2 hA1 hg1 hb1 ⟨hl1, hm1⟩ hA2 hg2 hb2 ⟨hl2, hm2⟩ hw3 hg3⟩
theorem blank_any (m : Nat) (w : World) (h1 : 16 ≤ m) (h2 : m ≤ 1024) :
    Calls Tryz.prog 7 #[.int .i64 (m : Int)] w fun e w' => ∃ g F, e = .returned (.tuple #[.pointer (some ⟨g, 0, none⟩), .int .i64 0]) ∧ GivesDisk (Dk.blank m) w w' g F := by
  obtain ⟨i0, hi0, hz0, hz1, hz2⟩ := info_parts Tryz.info5
  have hby : i0.bytes = 1 := hz2
  have HF : Hid (∀ W, Calls Tryz.prog 24 #[.int .i64 (m : Int)] W fun e w' => e = .returned (.bool true) ∧ W = w') := fun W => by
    have := fits_any (m : Int) W
    rwa [decide_eq_true (by omega)] at this
  obtain ⟨n, hn⟩ : ∃ n, n = 256 * m := ⟨_, rfl⟩
  have HN := Lib.hid hn
  have n0 := fun w' => Tryz.notTrue w'
  have e1 : (m : Int) * 256 = (n : Int) := by omega
  have u0 : (0 : Int) ≤ (n : Int) := by omega
  have u1 : n ≤ 1000000 := by omega
  have u4 : IntKind.i64.wrap (n : Int) = (n : Int) := IntWalk.i64_in _ (by omega)
  have HO : Hid (∀ W A, RB W W.heap.size A (List.replicate n 0) → Calls Tryz.prog 25 #[.slice A n n] W fun e w' => ∃ g F, e = .returned (.pointer (some ⟨g, 0, none⟩)) ∧ GivesDisk (Dk.blank m) W w' g F) := fun W A hr => by
    have h := of_any (List.replicate n 0) m A n n W hr (by simp) (by simp [hn]) h1 h2
    rw [hn] at h ⊢
    rwa [Dk.ofImage_zero] at h
  clear hn h1 h2
  go_enter Tryz.func7, Tryz.ntmps7
  go_wp2_with (first
    | (go_at_call 24; (with_reducible refine (HF.out _).mono ?_); rintro e w1 ⟨rfl, rfl⟩)
    | (at_make; refine wpList_make_full _ rfl _ _ 39 rfl w.heap.size 5 i0 _ 1 Tryz.underlying39 hi0 hz0 hz1 .i64 .i64 _ _ n rfl rfl rfl rfl (by rw [hby]; omega) (by unfold maxLen; omega) (Nat.le_refl _) ?_; intro w2 ho2 hg2)
    | (go_at_call 25; (with_reducible refine (HO.out _ _ (made_rb ho2)).mono ?_); rintro e w3 ⟨g, F, rfl, hG⟩))
  go_ret2
  have b2 : Below w.heap.size w w2 := (Below.refl _ _).grown hg2 (Nat.le_refl _) (by simp)
  exact ⟨g, F, rfl, hG.1, b2.trans (hG.2.1.mono b2.size), fun k hk => Nat.le_trans b2.size (hG.2.2 k hk)⟩
end
section
open Go.RowKit
theorem within_gives (n a b : Int) (v : Bool) (hv : (decide (a ≤ n) && decide (n ≤ b)) = v) (w : World) : Calls Tryz.prog 109 #[.int .i64 n, .int .i64 a, .int .i64 b] w fun e w' => e = .returned (.bool v) ∧ w = w' := by
  by_cases h : a ≤ n
  · have d : decide (a ≤ n) = true := decide_eq_true h
    rw [d, Bool.true_and] at hv
    subst hv
    go_enter Tryz.func109, Tryz.ntmps109
    go_wp2
    go_ret
    exact ⟨rfl, rfl⟩
  · have d : decide (a ≤ n) = false := decide_eq_false h
    rw [d, Bool.false_and] at hv
    subst hv
    go_enter Tryz.func109, Tryz.ntmps109
    go_wp2
    go_ret
    exact ⟨rfl, rfl⟩
theorem within_yes {n a b : Int} (h : a ≤ n ∧ n ≤ b) (w : World) : Calls Tryz.prog 109 #[.int .i64 n, .int .i64 a, .int .i64 b] w fun e w' => e = .returned (.bool true) ∧ w = w' :=
  within_gives n a b true (by rw [decide_eq_true h.1, decide_eq_true h.2]; rfl) w
theorem within_no {n a b : Int} (h : ¬ (a ≤ n ∧ n ≤ b)) (w : World) : Calls Tryz.prog 109 #[.int .i64 n, .int .i64 a, .int .i64 b] w fun e w' => e = .returned (.bool false) ∧ w = w' :=
  within_gives n a b false (by
    by_cases h1 : a ≤ n
    · rw [decide_eq_true h1, decide_eq_false (fun h2 => h ⟨h1, h2⟩)]; rfl
    · rw [decide_eq_false h1]; rfl) w
theorem maybe_any (s : Sd) (A : Option Addr) (c : Nat) (w : World) : Calls Tryz.prog 90 #[secV s A c] w fun e w' => e = .returned (.bool s.may) ∧ Below w.heap.size w w' := by
  obtain ⟨k, ep, n, l, D⟩ := s
  unfold secV
  obtain ⟨m, hm⟩ : ∃ m, m = D.length := ⟨_, rfl⟩
  have HS : Hid (Sd.may ⟨k, ep, n, l, D⟩ = (decide (1 ≤ k) && (decide (k ≤ 255) && (decide (0 ≤ ep) && (decide (ep ≤ 2147483647) && (decide (0 ≤ n) && (decide (n ≤ 2147483647) && (decide (0 ≤ l) && (decide (l ≤ 65535) && decide (m ≤ 48)))))))))) := by show _ = _; rw [hm]; rfl
  simp only
  rw [← hm]
  have HB : Hid (Below w.heap.size w (w.alloc (.cells #[.int .i64 k, .int .i64 ep, .int .i64 n, .int .i64 l, .slice A m c] 49))) := (Below.refl _ _).alloc (Nat.le_refl _) _
  clear hm
  by_cases h0 : 1 ≤ k ∧ k ≤ 255
  rotate_left
  · have HM : Hid (Sd.may ⟨k, ep, n, l, D⟩ = false) := by show _ = _; rw [HS.out]; simp; omega
    have H0 : Hid (∀ W, Calls Tryz.prog 109 #[.int .i64 k, .int .i64 1, .int .i64 255] W fun e w' => e = .returned (.bool false) ∧ W = w') := fun W => within_no h0 W
    clear HS h0
    go_enter Tryz.func90, Tryz.ntmps90
    go_wp2_with (first | (go_at_call 109; (with_reducible refine (H0.out _).mono ?_); rintro e w1 ⟨rfl, rfl⟩))
    go_ret
    rw [HM.out]
    exact ⟨rfl, HB.out⟩
  have H0 : Hid (∀ W, Calls Tryz.prog 109 #[.int .i64 k, .int .i64 1, .int .i64 255] W fun e w' => e = .returned (.bool true) ∧ W = w') := fun W => within_yes h0 W
  by_cases h1 : 0 ≤ ep ∧ ep ≤ 2147483647
  rotate_left
  · have HM : Hid (Sd.may ⟨k, ep, n, l, D⟩ = false) := by show _ = _; rw [HS.out]; simp; omega
    have H1 : Hid (∀ W, Calls Tryz.prog 109 #[.int .i64 ep, .int .i64 0, .int .i64 2147483647] W fun e w' => e = .returned (.bool false) ∧ W = w') := fun W => within_no h1 W
    clear HS h0 h1
    go_enter Tryz.func90, Tryz.ntmps90
    go_wp2_with (first
      | (go_at_call 109; (with_reducible refine (H0.out _).mono ?_); rintro e w1 ⟨rfl, rfl⟩)
      | (go_at_call 109; (with_reducible refine (H1.out _).mono ?_); rintro e w1 ⟨rfl, rfl⟩))
    go_ret
    rw [HM.out]
    exact ⟨rfl, HB.out⟩
  have H1 : Hid (∀ W, Calls Tryz.prog 109 #[.int .i64 ep, .int .i64 0, .int .i64 2147483647] W fun e w' => e = .returned (.bool true) ∧ W = w') := fun W => within_yes h1 W
  by_cases h2 : 0 ≤ n ∧ n ≤ 2147483647
  rotate_left
  · have HM : Hid (Sd.may ⟨k, ep, n, l, D⟩ = false) := by show _ = _; rw [HS.out]; simp; omega
    have H2 : Hid (∀ W, Calls Tryz.prog 109 #[.int .i64 n, .int .i64 0, .int .i64 2147483647] W fun e w' => e = .returned (.bool false) ∧ W = w') := fun W => within_no h2 W
    clear HS h0 h1 h2
    go_enter Tryz.func90, Tryz.ntmps90
    go_wp2_with (first
      | (go_at_call 109; (with_reducible refine (H0.out _).mono ?_); rintro e w1 ⟨rfl, rfl⟩)
      | (go_at_call 109; (with_reducible refine (H1.out _).mono ?_); rintro e w1 ⟨rfl, rfl⟩)
      | (go_at_call 109; (with_reducible refine (H2.out _).mono ?_); rintro e w1 ⟨rfl, rfl⟩))
    go_ret
    rw [HM.out]
    exact ⟨rfl, HB.out⟩
  have H2 : Hid (∀ W, Calls Tryz.prog 109 #[.int .i64 n, .int .i64 0, .int .i64 2147483647] W fun e w' => e = .returned (.bool true) ∧ W = w') := fun W => within_yes h2 W
  by_cases h3 : 0 ≤ l ∧ l ≤ 65535
  rotate_left
  · have HM : Hid (Sd.may ⟨k, ep, n, l, D⟩ = false) := by show _ = _; rw [HS.out]; simp; omega
    have H3 : Hid (∀ W, Calls Tryz.prog 109 #[.int .i64 l, .int .i64 0, .int .i64 65535] W fun e w' => e = .returned (.bool false) ∧ W = w') := fun W => within_no h3 W
    clear HS h0 h1 h2 h3
    go_enter Tryz.func90, Tryz.ntmps90
    go_wp2_with (first
      | (go_at_call 109; (with_reducible refine (H0.out _).mono ?_); rintro e w1 ⟨rfl, rfl⟩)
      | (go_at_call 109; (with_reducible refine (H1.out _).mono ?_); rintro e w1 ⟨rfl, rfl⟩)
      | (go_at_call 109; (with_reducible refine (H2.out _).mono ?_); rintro e w1 ⟨rfl, rfl⟩)
      | (go_at_call 109; (with_reducible refine (H3.out _).mono ?_); rintro e w1 ⟨rfl, rfl⟩))
    go_ret
    rw [HM.out]
    exact ⟨rfl, HB.out⟩
  have H3 : Hid (∀ W, Calls Tryz.prog 109 #[.int .i64 l, .int .i64 0, .int .i64 65535] W fun e w' => e = .returned (.bool true) ∧ W = w') := fun W => within_yes h3 W
  have HM : Hid (Sd.may ⟨k, ep, n, l, D⟩ = decide (m ≤ 48)) := by
    show _ = _
    rw [HS.out, decide_eq_true h0.1, decide_eq_true h0.2, decide_eq_true h1.1, decide_eq_true h1.2, decide_eq_true h2.1, decide_eq_true h2.2, decide_eq_true h3.1, decide_eq_true h3.2]
    rfl
  clear HS h0 h1 h2 h3
  by_cases h4 : m ≤ 48
  · have d4 : decide (m ≤ 48) = true := decide_eq_true h4
    have d5 : decide ((m : Int) ≤ 48) = true := decide_eq_true (by omega)
    go_enter Tryz.func90, Tryz.ntmps90
    go_wp2_with (first
      | (go_at_call 109; (with_reducible refine (H0.out _).mono ?_); rintro e w1 ⟨rfl, rfl⟩)
      | (go_at_call 109; (with_reducible refine (H1.out _).mono ?_); rintro e w1 ⟨rfl, rfl⟩)
      | (go_at_call 109; (with_reducible refine (H2.out _).mono ?_); rintro e w1 ⟨rfl, rfl⟩)
      | (go_at_call 109; (with_reducible refine (H3.out _).mono ?_); rintro e w1 ⟨rfl, rfl⟩))
    go_ret
    rw [HM.out, d4]
    exact ⟨rfl, HB.out⟩
  · have d4 : decide (m ≤ 48) = false := decide_eq_false h4
    have d5 : decide ((m : Int) ≤ 48) = false := decide_eq_false (by omega)
    go_enter Tryz.func90, Tryz.ntmps90
    go_wp2_with (first
      | (go_at_call 109; (with_reducible refine (H0.out _).mono ?_); rintro e w1 ⟨rfl, rfl⟩)
      | (go_at_call 109; (with_reducible refine (H1.out _).mono ?_); rintro e w1 ⟨rfl, rfl⟩)
      | (go_at_call 109; (with_reducible refine (H2.out _).mono ?_); rintro e w1 ⟨rfl, rfl⟩)
      | (go_at_call 109; (with_reducible refine (H3.out _).mono ?_); rintro e w1 ⟨rfl, rfl⟩))
    go_ret
    rw [HM.out, d4]
    exact ⟨rfl, HB.out⟩
end
section
open Go.RowKit
def SL (w : World) (B : Nat) (A : Option Addr) (l : List Sd) : Prop :=
  0 < l.length → ∃ b off, A = some ⟨b, off, none⟩ ∧ b < B ∧ ∀ i (hi : i < l.length), ∃ dA dc, RB w B dA l[i].data ∧
    w.cell? ⟨b, off + i * 5, none⟩ = some (.int .i64 l[i].kind) ∧ w.cell? ⟨b, off + i * 5 + 1, none⟩ = some (.int .i64 l[i].epoch) ∧ w.cell? ⟨b, off + i * 5 + 2, none⟩ = some (.int .i64 l[i].number) ∧
    w.cell? ⟨b, off + i * 5 + 3, none⟩ = some (.int .i64 l[i].left) ∧ w.cell? ⟨b, off + i * 5 + 4, none⟩ = some (.slice dA l[i].data.length dc)
section
variable {w w' : World} {B : Nat} {A : Option Addr} {l : List Sd}
theorem SL.below (h : SL w B A l) (hb : Below B w w') : SL w' B A l := fun h0 => by
  obtain ⟨b, off, e, hlt, hc⟩ := h h0
  refine ⟨b, off, e, hlt, fun i hi => ?_⟩
  obtain ⟨dA, dc, h1, h2, h3, h4, h5, h6⟩ := hc i hi
  have k : ∀ j, w'.cell? ⟨b, j, none⟩ = w.cell? ⟨b, j, none⟩ := fun j => hb.cell (p := ⟨b, j, none⟩) hlt
  exact ⟨dA, dc, h1.below hb, by rw [k]; exact h2, by rw [k]; exact h3, by rw [k]; exact h4, by rw [k]; exact h5, by rw [k]; exact h6⟩
theorem SL.more {B' : Nat} (h : SL w B A l) (hb : B ≤ B') : SL w B' A l := fun h0 => by
  obtain ⟨b, off, e, hlt, hc⟩ := h h0
  refine ⟨b, off, e, Nat.lt_of_lt_of_le hlt hb, fun i hi => ?_⟩
  obtain ⟨dA, dc, h1, h2⟩ := hc i hi
  exact ⟨dA, dc, h1.more hb, h2⟩
theorem SL.up (h : SL w w.heap.size A l) (hb : Below w.heap.size w w') : SL w' w'.heap.size A l := (h.below hb).more hb.size
theorem SL.nil : SL w B A [] := fun h => absurd h (by simp)
end
def secC (x : Sd × Option Addr × Nat) : List Value := [.int .i64 x.1.kind, .int .i64 x.1.epoch, .int .i64 x.1.number, .int .i64 x.1.left, .slice x.2.1 x.1.data.length x.2.2]
def rowC (r : List (Sd × Option Addr × Nat)) : List Value := r.flatMap secC
theorem rowC_get (r : List (Sd × Option Addr × Nat)) (i : Nat) (hi : i < r.length) : (rowC r)[i * 5]? = some (.int .i64 (r[i]).1.kind) ∧ (rowC r)[i * 5 + 1]? = some (.int .i64 (r[i]).1.epoch) ∧ (rowC r)[i * 5 + 2]? = some (.int .i64 (r[i]).1.number) ∧ (rowC r)[i * 5 + 3]? = some (.int .i64 (r[i]).1.left) ∧ (rowC r)[i * 5 + 4]? = some (.slice (r[i]).2.1 (r[i]).1.data.length (r[i]).2.2) := by
  induction r generalizing i with
  | nil => simp at hi
  | cons x r ih =>
    have e : rowC (x :: r) = .int .i64 x.1.kind :: .int .i64 x.1.epoch :: .int .i64 x.1.number :: .int .i64 x.1.left :: .slice x.2.1 x.1.data.length x.2.2 :: rowC r := rfl
    rw [e]
    match i with
    | 0 => simp
    | i + 1 =>
      have := ih i (by simpa using hi)
      rw [show (i + 1) * 5 = i * 5 + 5 by omega, show i * 5 + 5 + 1 = i * 5 + 1 + 5 by omega, show i * 5 + 5 + 2 = i * 5 + 2 + 5 by omega, show i * 5 + 5 + 3 = i * 5 + 3 + 5 by omega, show i * 5 + 5 + 4 = i * 5 + 4 + 5 by omega]
      simpa using this
theorem rowC_snoc (r : List (Sd × Option Addr × Nat)) (x : Sd × Option Addr × Nat) : rowC (r ++ [x]) = rowC r ++ secC x := by simp [rowC]
theorem SL.of_own {w : World} {base n c : Nat} {A : Option Addr} {r : List (Sd × Option Addr × Nat)} (h : w.ownsRow base 49 5 (.slice A n c) n (rowC r)) (hn : n = r.length) (hr : ∀ x ∈ r, RB w w.heap.size x.2.1 x.1.data) : SL w w.heap.size A (r.map (·.1)) := fun h0 => by
  subst hn
  rw [List.length_map] at h0
  rcases h.2 with ⟨_, h1⟩ | ⟨k, cap, cur, he, h2, h3, _⟩
  · omega
  · simp only [Value.slice.injEq] at he
    obtain ⟨rfl, -, rfl⟩ := he
    have hc := World.ownsRow.cells h (g := k) rfl
    have ea : ∀ j, (⟨k, 0, none⟩ : Addr).add j = ⟨k, j, none⟩ := fun j => by unfold Addr.add; split <;> simp_all
    refine ⟨k, 0, rfl, Blk.lt (t := 49) h3, fun i hi => ?_⟩
    rw [List.length_map] at hi
    obtain ⟨g0, g1, g2, g3, g4⟩ := rowC_get r i hi
    have c0 := hc _ _ g0
    have c1 := hc _ _ g1
    have c2 := hc _ _ g2
    have c3 := hc _ _ g3
    have c4 := hc _ _ g4
    rw [ea] at c0 c1 c2 c3 c4
    simp only [Nat.zero_add, List.getElem_map]
    exact ⟨r[i].2.1, r[i].2.2, hr _ (List.getElem_mem hi), c0, c1, c2, c3, c4⟩
def GivesSL (r : List Sd × Int) (w : World) (e : Ending) (w' : World) : Prop :=
  ∃ A c, e = .returned (.tuple #[.slice A r.1.length c, .int .i64 r.2]) ∧ SL w' w'.heap.size A r.1 ∧ Below w.heap.size w w'
def GivesSv (A0 : Option Addr) (r : Sd × Int) (w : World) (e : Ending) (w' : World) : Prop :=
  ∃ A c, e = .returned (.tuple #[secV r.1 A c, .int .i64 r.2]) ∧ RBc w A r.1.data c ∧ (r.2 = 0 → A = A0.map fun x => x.add 12) ∧ Below w.heap.size w w'
theorem rb_down {w : World} {B B' : Nat} {ad : Addr} {L : List UInt8} (h : RB w B (some ad) L) (hb : ad.block < B') : RB w B' (some ad) L := by
  refine ⟨h.1, fun h0 => ?_⟩
  obtain ⟨ad', e, _, hc⟩ := h.2 h0
  injection e with e
  subst e
  exact ⟨ad, rfl, hb, hc⟩
end
section
open Go.RowKit
def GivesOpen : Option (List UInt8) → World → Ending → World → Prop
  | some M, w, e, w' => GivesBytes M w e w'
  | none, w, e, w' => e = .returned (.tuple #[.slice none 0 0, .int .i64 12]) ∧ Below w.heap.size w w'
theorem open_short (N : Nat) (A : Option Addr) (c : Nat) (w : World) (hl : N < 4) :
    Calls Tryz.prog 84 #[.slice A N c] w (GivesOpen none w) := by
  have hd2 : decide ((N : Int) - 4 < 0) = true := by simp; omega
  go_enter Tryz.func84, Tryz.ntmps84
  go_wp2
  go_quiet (fail)
  go_wp2
  go_ret2
  exact ⟨rfl, ⟨rfl, rfl, rfl, Nat.le_refl _, fun _ _ => rfl⟩⟩
theorem open_core (n : Nat) (A : Option Addr) (c : Nat) (P Q : List UInt8) (w : World) (hc : n + 4 ≤ c) (hcap : c ≤ 9223372036854775807) (b : Bool) (R : World → Ending → World → Prop)
    (HS : Hid (∀ W, Below w.heap.size w W → Calls Tryz.prog 103 #[.slice A n c] W fun e w' => e = .returned (.int .u32 (sumL P : Int)) ∧ W = w'))
    (HB : Hid (∀ W, Calls Tryz.prog 102 #[.int .u32 (sumL P : Int)] W (GivesOne Q W)))
    (HE : Hid (∀ W C d, Below w.heap.size w W → RB W W.heap.size C Q → Calls Tryz.prog 101 #[.slice (Option.map (fun x => x.add n) A) 4 (c - n), .slice C Q.length d] W fun e w' => e = .returned (.bool b) ∧ W = w'))
    (HC : Hid (∀ W, Below w.heap.size w W → Calls Tryz.prog 104 #[.slice A n c] W (GivesOne P W)))
    (HR : Hid (b = true → ∀ e w', GivesBytes P w e w' → R w e w')) (HR2 : Hid (b = false → ∀ w', Below w.heap.size w w' → R w (.returned (.tuple #[.slice none 0 0, .int .i64 12])) w')) :
    Calls Tryz.prog 84 #[.slice A (n + 4) c] w (R w) := by
  have hd2 : decide ((n : Int) < 0) = false := by simp
  have hn4 : (n : Int) ≤ (n : Int) + 4 := by omega
  have hnc : (n : Int) ≤ (c : Int) := by omega
  have hcn : ¬ c = n := by omega
  rcases b with _ | _
  all_goals
    go_enter Tryz.func84, Tryz.ntmps84
    go_wp2
    refine wp_region_any (by kernel_rfl) ?_
    change wpAny _ _ _ _ _ _ _ (World.drew _)
    refine wpAny_take (i := 0) (v := ?_) rfl (by kernel_rfl) (by kernel_rfl) (by kernel_rfl) (fun _ _ _ h => h) (Or.inl ⟨by kernel_rfl, ?_⟩) ?_
    rotate_left
    · intro w; go_simp; with_reducible rfl
    rotate_left
    refine wpAny_take (i := 1) (v := ?_) rfl (by kernel_rfl) (by kernel_rfl) (by kernel_rfl) (fun _ _ _ h => h) (Or.inl ⟨by kernel_rfl, ?_⟩) ?_
    rotate_left
    · intro w; go_simp; with_reducible rfl
    rotate_left
    refine wpAny_take (i := 2) (v := ?_) rfl (by kernel_rfl) (by kernel_rfl) (by kernel_rfl) (fun _ _ _ h => h) (Or.inl ⟨by kernel_rfl, ?_⟩) ?_
    rotate_left
    · intro w; go_simp; with_reducible rfl
    rotate_left
    refine wpAny_take (i := 3) (v := ?_) rfl (by kernel_rfl) (by kernel_rfl) (by kernel_rfl) (fun _ _ _ h => h) (Or.inl ⟨by kernel_rfl, ?_⟩) ?_
    rotate_left
    · intro w; go_simp; with_reducible rfl
    rotate_left
    refine wpAny_take (i := 4) (v := ?_) rfl (by kernel_rfl) (by kernel_rfl) (by kernel_rfl) (fun _ _ _ h => h) (Or.inl ⟨by kernel_rfl, ?_⟩) ?_
    rotate_left
    · intro w; go_simp; with_reducible rfl
    rotate_left
    refine wpAny_take (i := 5) (v := ?_) rfl (by kernel_rfl) (by kernel_rfl) (by kernel_rfl) (fun _ _ _ h => h) (Or.inl ⟨by kernel_rfl, ?_⟩) ?_
    rotate_left
    · intro w; go_simp; with_reducible rfl
    rotate_left
    refine wpAny_take (i := 6) (v := ?_) rfl (by kernel_rfl) (by kernel_rfl) (by kernel_rfl) (fun _ _ _ h => h) (Or.inl ⟨by kernel_rfl, ?_⟩) ?_
    rotate_left
    · intro w; go_simp; with_reducible rfl
    rotate_left
    refine wpAny_take (i := 7) (v := ?_) rfl (by kernel_rfl) (by kernel_rfl) (by kernel_rfl) (fun _ _ _ h => h) (Or.inl ⟨by kernel_rfl, ?_⟩) ?_
    rotate_left
    · intro w; go_simp; with_reducible rfl
    rotate_left
    refine wpAny_take (i := 8) (v := ?_) rfl (by kernel_rfl) (by kernel_rfl) (by kernel_rfl) (fun _ _ _ h => h) (Or.inl ⟨by kernel_rfl, ?_⟩) ?_
    rotate_left
    · intro w; go_simp; with_reducible rfl
    rotate_left
    refine wpAny_tail 9 (by kernel_rfl) (by kernel_rfl) ?_
    simp only [List.drop_succ_cons, List.drop_zero]
    go_wp2_with (first
      | (go_at_call 103; (with_reducible refine (HS.out _ (Below.refl _ _).drew).mono ?_); rintro e w' ⟨rfl, rfl⟩)
      | (go_at_call 102; (with_reducible refine (HB.out _).mono ?_); rintro e w1 ⟨A1, c1, rfl, ho1, hb1⟩; have hb2 : Below w.heap.size w w1 := below_drew hb1)
      | (go_at_call 101; (with_reducible refine (HE.out _ _ _ hb2 (own_rb ho1)).mono ?_); rintro e w' ⟨rfl, rfl⟩)
      | (go_at_call 104; (with_reducible refine (HC.out _ hb2).mono ?_); rintro e w2 ⟨A2, c2, rfl, ho2, hb3⟩))
  · exact HR2.out (by trivial) _ hb2
  · have ho3 : Own w2 w.heap.size A2 P c2 := Joins.ownsRow_le ho2 hb2.size
    have hb4 := hb2.trans (hb3.mono hb2.size)
    exact HR.out (by trivial) _ _ ⟨A2, c2, rfl, ho3, hb4⟩
theorem open_any (L : List UInt8) (A : Option Addr) (c B : Nat) (w : World) (hr : RB w B A L) (hlc : L.length ≤ c) (hc : c ≤ 9223372036854775807) (hl : L.length ≤ 1048576) :
    Calls Tryz.prog 84 #[.slice A L.length c] w (GivesOpen (openL L) w) := by
  have hr := rb_lt hr
  by_cases h4 : L.length < 4
  · have e : openL L = none := by unfold openL; rw [if_neg (by omega)]
    rw [e]
    exact open_short _ A c w h4
  · obtain ⟨n, hn⟩ : ∃ n, n = L.length - 4 := ⟨_, rfl⟩
    have hn4 : L.length = n + 4 := by omega
    have hp : (L.take n).length = n := by rw [List.length_take]; omega
    have hd : (L.drop n).length = 4 := by rw [List.length_drop]; omega
    have hrp : RB w w.heap.size A (L.take n) := rb_take hr n (by omega)
    have hrd : RB w w.heap.size (A.map (fun x => x.add n)) (L.drop n) := rb_cut1 hr (by omega) hlc (by omega)
    have hop : openL L = if L.drop n = le4 (sumL (L.take n)) then some (L.take n) else none := by
      unfold openL sealL
      rw [← hn]
      have hx : (L.take n ++ le4 (sumL (L.take n)) = L) ↔ (L.drop n = le4 (sumL (L.take n))) := by
        conv => lhs; rhs; rw [← List.take_append_drop n L]
        rw [List.append_cancel_left_eq]
        exact ⟨Eq.symm, Eq.symm⟩
      by_cases hy : L.drop n = le4 (sumL (L.take n))
      · rw [if_pos ⟨by omega, hx.2 hy⟩, if_pos hy]
      · rw [if_neg (fun h => hy (hx.1 h.2)), if_neg hy]
    rw [hn4]
    refine open_core n A c (L.take n) (le4 (sumL (L.take n))) w (by omega) hc (decide (L.drop n = le4 (sumL (L.take n)))) (GivesOpen (openL L)) (fun W hb => ?_) (fun W => ?_) (fun W C d hb hC => ?_) (fun W hb => ?_) (fun hb e w' h => ?_) (fun hb w' h => ?_)
    · have := sum_any (L.take n) A c _ W (hrp.below hb) (by omega)
      rwa [hp] at this
    · exact sumBytes_any _ W (sumL_lt _)
    · have := equal_any (L.drop n) (le4 (sumL (L.take n))) (A.map (fun x => x.add n)) C (c - n) d _ _ W (hrd.below hb) hC
      rwa [hd] at this
    · have := clone_any (L.take n) A c _ W (hrp.below hb) (by omega)
      rwa [hp] at this
    · rw [hop, if_pos (by simpa using hb)]
      exact h
    · rw [hop, if_neg (by simpa using hb)]
      exact ⟨rfl, h⟩
end
section
open Go.RowKit
theorem rbytes_yes (l : List (List UInt8)) (n : Nat) (A A' : Option Addr) (c c' : Nat) (w : World) (P P' : Nat → Prop) (hn : n = l.length) (hn1 : n ≤ 1000000) (h : BL w P A l) (h' : BL w P' A' l) : Calls Tryz.prog 28 #[.slice A n c, .slice A' n c'] w fun e w' => e = .returned (.bool true) ∧ Below w.heap.size w w' := by
  have H1 := Lib.hid h
  have H2 := Lib.hid h'
  have Hn := Lib.hid hn
  clear h h' hn
  go_enter Tryz.func28, Tryz.ntmps28
  go_wp2
  go_loopw [5] (fun x wr => ∃ i : Nat, i ≤ n ∧ x = .int .i64 (i : Int) ∧ Hid (Below w.heap.size w wr)) (fun x _ => n - (intOf x).toNat)
  case atStart => exact ⟨0, by omega, rfl, Below.refl _ _⟩
  case round =>
    obtain ⟨i, hi, rfl, HB⟩ := hrel
    by_cases hlt : i < n
    · have hi2 : i < l.length := by have := Hn.out; omega
      obtain ⟨b1, o1, rfl, -, -, hc1⟩ := (H1.out.up HB.out) (by omega)
      obtain ⟨b2, o2, rfl, -, -, hc2⟩ := (H2.out.up HB.out) (by omega)
      obtain ⟨dA, dc, r1, -, k1⟩ := hc1 i hi2
      obtain ⟨dB, dd, r2, -, k2⟩ := hc2 i hi2
      obtain ⟨L, hL⟩ : ∃ L, L = l[i] := ⟨_, rfl⟩
      obtain ⟨m, hm⟩ : ∃ m, m = l[i].length := ⟨_, rfl⟩
      rw [← hm] at k1 k2
      rw [← hL] at r1 r2
      have hm2 : m = L.length := by rw [hm, hL]
      have s1 : ∀ j, (convert 39 9 (.slice dA m dc)).run Tryz.prog (wr.drewN j) = .ok (.string ⟨L.toArray⟩) (wr.drewN j) := fun j => aw_str (r1.drewN j) m dc hm2
      have s2 : ∀ j, (convert 39 9 (.slice dB m dd)).run Tryz.prog (wr.drewN j) = .ok (.string ⟨L.toArray⟩) (wr.drewN j) := fun j => aw_str (r2.drewN j) m dd hm2
      have t1 : (convert 39 9 (.slice dA m dc)).run Tryz.prog wr = .ok (.string ⟨L.toArray⟩) wr := aw_str r1 m dc hm2
      have t2 : (convert 39 9 (.slice dB m dd)).run Tryz.prog wr = .ok (.string ⟨L.toArray⟩) wr := aw_str r2 m dd hm2
      have d0 : decide ((i : Int) < (n : Int)) = true := decide_eq_true (by omega)
      have d1 : decide (i < n) = true := decide_eq_true hlt
      have y7 : IntKind.i64.wrap ((i : Int) + 1) = (i : Int) + 1 := IntWalk.i64_in _ (by omega)
      clear hc1 hc2 r1 r2 hL hm hm2
      go_wp2
      have u1 : (convert 39 9 (.slice dA m dc)).run Tryz.prog wr.drew = .ok (.string ⟨L.toArray⟩) wr.drew := s1 1
      have u2 : (convert 39 9 (.slice dB m dd)).run Tryz.prog wr.drew = .ok (.string ⟨L.toArray⟩) wr.drew := s2 1
      clear s1 s2 t1 t2
      go_region_held_law (fun w' => (convert 39 9 (.slice dA m dc)).run Tryz.prog w' = .ok (.string ⟨L.toArray⟩) w' ∧ (convert 39 9 (.slice dB m dd)).run Tryz.prog w' = .ok (.string ⟨L.toArray⟩) w' ∧ w'.cell? ⟨b1, o1 + i, none⟩ = some (.slice dA m dc) ∧ w'.cell? ⟨b2, o2 + i, none⟩ = some (.slice dB m dd)) (exact ⟨u1, u2, k1, k2⟩) (fail)
      go_wp2
      go_roundw
      case rel => exact ⟨i + 1, by omega, by go_num, HB.out.drew⟩
      case measure => simp [intOf]; omega
    · have d0 : decide ((i : Int) < (n : Int)) = false := decide_eq_false (by omega)
      have d1 : decide (i < n) = false := decide_eq_false hlt
      go_wp2
      go_ret
      exact ⟨rfl, HB.out⟩
end
end Go.Proofs.YtghenhacndaelaaGreat
