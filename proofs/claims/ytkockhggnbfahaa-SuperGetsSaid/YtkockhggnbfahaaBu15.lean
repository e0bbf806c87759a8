/- Lemmas under the proofs of this place: SectPTake, RFix, CrcSeal. No statement is proved here. -/
import Derived.Test.YtkockhggnbfahaaBu11
import Derived.Test.YtkockhggnbfahaaBu04
import Derived.Test.YtkockhggnbfahaaBu07
import Derived.Test.YtkockhggnbfahaaBu12
section
set_option linter.unusedVariables false
set_option linter.unusedSimpArgs false
namespace Go.Proofs.Ytkockhggnbfahaa
open Go.RowKit
def No8 (cs : Array Value) : Prop := ∀ (j : Nat) (z : Int), cs[j]? ≠ some (.int .u8 z)
theorem no8_sec (a b c d : Int) (A : Option Addr) (n k : Nat) : No8 #[.int .i64 a, .int .i64 b, .int .i64 c, .int .i64 d, .slice A n k] := by
  intro j z
  match j with
  | 0 => simp
  | 1 => simp
  | 2 => simp
  | 3 => simp
  | 4 => simp
  | j + 5 => simp
theorem no8_cur (A : Option Addr) (n c : Nat) (b : Bool) : No8 #[.slice A n c, .bool b] := fun j z => cur_cells A n c b j _ z
theorem rb_ne8 {w : World} {B g : Nat} {t : TypeId} {A : Option Addr} {L : List UInt8} {cs : Array Value} (h : RB w B A L) (hg : Blk w g t cs) (hcs : No8 cs) (hn : 0 < L.length) : ∀ ad, A = some ad → ad.block ≠ g := fun ad e => by
  obtain ⟨b, off, rfl, hb, hc⟩ := RB.at_ h hn
  injection e with e
  subst e
  rintro rfl
  have h0 := hc 0 hn
  rw [Nat.add_zero, (blk_cell hg off).1] at h0
  exact hcs _ _ h0
theorem rb_only8 {w w' : World} {g : Nat} {t : TypeId} {A : Option Addr} {L : List UInt8} {cs : Array Value} (h : RB w w.heap.size A L) (hg : Blk w g t cs) (hcs : No8 cs) (ho : Only w w' g) : RB w' w'.heap.size A L := by
  refine ⟨h.1, fun hn => ?_⟩
  obtain ⟨ad, e, hb, hc⟩ := h.2 hn
  have hne := rb_ne8 h hg hcs hn ad e
  refine ⟨ad, e, Nat.lt_of_lt_of_le hb ho.size, fun j u hu => ?_⟩
  rw [World.cell?_of_block (ho.block (ad.add j).block (by rw [block_of_add]; exact hb) (by rw [block_of_add]; simp; exact hne))]
  exact hc j u hu
theorem rb_set8 {w : World} {g i : Nat} {t : TypeId} {A : Option Addr} {L : List UInt8} {cs : Array Value} (h : RB w w.heap.size A L) (hg : Blk w g t cs) (hcs : No8 cs) (u : Value) : RB (w.setCell ⟨g, i, none⟩ u) (w.setCell ⟨g, i, none⟩ u).heap.size A L := rb_only8 h hg hcs (only_set _ _ _ _)
theorem cur_blk {w : World} {g : Nat} {st : Option (List UInt8)} (h : Cur w g st) : ∃ A n c b, Blk w g 116 #[.slice A n c, .bool b] := by
  rcases st with _ | L
  · exact ⟨_, _, _, _, h⟩
  · obtain ⟨A, c, h, _⟩ := h
    exact ⟨_, _, _, _, h⟩
theorem cur_only8 {w w' : World} {g k : Nat} {t : TypeId} {cs : Array Value} {st : Option (List UInt8)} (h : Cur w g st) (hk : Blk w k t cs) (hcs : No8 cs) (hne : g ≠ k) (ho : Only w w' k) : Cur w' g st := by
  rcases st with _ | L
  · exact Blk.only (t := 116) h ho hne
  · obtain ⟨A, c, hb, hr, hc, hl⟩ := h
    exact ⟨A, c, Blk.only (t := 116) hb ho hne, rb_only8 hr hk hcs ho, hc, hl⟩
theorem cur_set8 {w : World} {g k i : Nat} {t : TypeId} {cs : Array Value} {st : Option (List UInt8)} (h : Cur w g st) (hk : Blk w k t cs) (hcs : No8 cs) (hne : g ≠ k) (u : Value) : Cur (w.setCell ⟨k, i, none⟩ u) g st := cur_only8 h hk hcs hne (only_set _ _ _ _)
theorem cur_below {w w' : World} {g : Nat} {st : Option (List UInt8)} (h : Cur w g st) (hb : Below w.heap.size w w') : Cur w' g st := by
  rcases st with _ | L
  · exact Blk.below (t := 116) h hb (Blk.lt (t := 116) h)
  · obtain ⟨A, c, hk, hr, hc, hl⟩ := h
    exact ⟨A, c, Blk.below (t := 116) hk hb (Blk.lt (t := 116) hk), (hr.below hb).more hb.size, hc, hl⟩
theorem cur_alloc {w : World} {g : Nat} {st : Option (List UInt8)} (h : Cur w g st) (o : Obj) : Cur (w.alloc o) g st := cur_below h ((Below.refl _ _).alloc (Nat.le_refl _) o)
def fieldZ (L : List UInt8) : Int := if (unfixR L).2 = 0 then ((unfixR L).1 : Int) else -1
set_option maxRecDepth 100000 in
set_option maxHeartbeats 2000000 in
theorem field_any (g : Nat) (n : Int) (st : St) (w : World) (h : Cur w g st) :
    Calls Try.prog 92 #[.func (.func 74) #[.pointer (some ⟨g, 0, none⟩)] #[], .int .i64 n] w fun e w' => e = .returned (.int .i64 (fieldZ (stepTake n st).2)) ∧ Cur w' g (stepTake n st).1 ∧ Only w w' g := by
  have ht := take_any g n st w h
  have hle : (stepTake n st).2.length ≤ 1048576 := by
    rcases st with _ | L
    · simp [stepTake]
    · obtain ⟨_, _, _, _, _, hl⟩ := h
      simp only [stepTake]
      split
      · simp
      · simp only [List.length_take]; omega
  obtain ⟨r, hr⟩ : ∃ r, r = stepTake n st := ⟨_, rfl⟩
  rw [← hr] at ht hle ⊢
  clear hr h
  obtain ⟨st', L⟩ := r
  simp only at hle ⊢
  obtain ⟨q, hq⟩ : ∃ q, q = L.length := ⟨_, rfl⟩
  obtain ⟨u1, hu1⟩ : ∃ q, q = (unfixR L).1 := ⟨_, rfl⟩
  obtain ⟨u2, hu2⟩ : ∃ q, q = (unfixR L).2 := ⟨_, rfl⟩
  have HT : Hid (Calls Try.prog 74 #[.pointer (some ⟨g, 0, none⟩), .int .i64 n] w fun e w' => ∃ A c, e = .returned (.slice A q c) ∧ Hid (RB w' w'.heap.size A L ∧ Cur w' g st' ∧ Only w w' g)) := by
    refine ht.mono fun e w' hh => ?_
    obtain ⟨A, c, he, h2, h3, h4⟩ := hh
    rw [← hq] at he
    exact ⟨A, c, he, h2, h3, h4⟩
  have HU : Hid (∀ W (A : Option Addr) (c : Nat), RB W W.heap.size A L → Calls Try.prog 73 #[.slice A q c] W fun e w' => e = .returned (.tuple #[.int .i64 (u1 : Int), .int .i64 (u2 : Int)]) ∧ W = w') := fun W A c h => by
    rw [hq, hu1, hu2]
    exact unfix_any L A c _ W h hle
  have HV : Hid (fieldZ L = if u2 = 0 then (u1 : Int) else -1) := by show _ = _; unfold fieldZ; rw [hu1, hu2]
  clear ht hq hu1 hu2 hle
  by_cases h2 : u2 = 0
  · rw [if_pos h2] at HV
    rw [HV.out]
    subst h2
    go_enter Try.func92, Try.ntmps92
    go_wp2_with (first
      | (go_at_call 74; (with_reducible refine HT.out.mono ?_); rintro e w1 ⟨A, c, rfl, hh⟩; have hrb := hh.out.1)
      | (go_at_call 73; (with_reducible refine (HU.out _ _ _ hrb).mono ?_); rintro e w2 ⟨rfl, rfl⟩))
    go_ret
    exact ⟨rfl, hh.out.2.1, hh.out.2.2⟩
  · rw [if_neg h2] at HV
    rw [HV.out]
    have e0 : ((u2 : Int) != 0) = true := by simp; omega
    have e1 : ((u2 : Int) == 0) = false := by simp; omega
    go_enter Try.func92, Try.ntmps92
    go_wp2_with (first
      | (go_at_call 74; (with_reducible refine HT.out.mono ?_); rintro e w1 ⟨A, c, rfl, hh⟩; have hrb := hh.out.1)
      | (go_at_call 73; (with_reducible refine (HU.out _ _ _ hrb).mono ?_); rintro e w2 ⟨rfl, rfl⟩))
    go_ret
    exact ⟨rfl, hh.out.2.1, hh.out.2.2⟩
end Go.Proofs.Ytkockhggnbfahaa
end
section
set_option linter.unusedVariables false
set_option linter.unusedSimpArgs false
namespace Go.Proofs.Ytkockhggnbfahaa
open Go.RowKit
theorem fixL_snoc : ∀ (k n : Nat), fixL (k + 1) n = fixL k n ++ [UInt8.ofNat (n / 256 ^ k % 256)] := by
  intro k
  induction k with
  | zero => intro n; simp [fixL]
  | succ k ih =>
    intro n
    rw [fixL, ih (n / 256), fixL, List.cons_append, Nat.div_div_eq_div_mul, Nat.pow_succ, Nat.mul_comm 256]
set_option maxRecDepth 100000 in
set_option maxHeartbeats 2000000 in
theorem refFix_any (n k : Nat) (w : World) (h : n ≤ 2147483647) (hk1 : 1 ≤ k) (hk4 : k ≤ 4) :
    Calls Try.prog 29 #[.int .i64 (n : Int), .int .i64 (k : Int)] w fun e w' => (n < 256 ^ k → GivesBytes (fixL k n) w e w') ∧ (¬ n < 256 ^ k → e = .returned (.tuple #[.slice none 0 0, .int .i64 1]) ∧ Below w.heap.size w w') := by
  have hl : (fixL k n).length = k := fixL_length k n
  have hc1 : decide ((k : Int) < 1) = false := by simp; omega
  have hc4 : decide (4 < (k : Int)) = false := by simp; omega
  have hn1 : decide ((n : Int) < 0) = false := by simp
  have hn2 : decide (2147483647 < (n : Int)) = false := by simp; omega
  have HL := Lib.hid hl
  clear hl
  go_enter Try.func29, Try.ntmps29
  go_wp2
  go_loopw [0, 6, 7] (fun x v i wr => ∃ (j m : Nat), j ≤ k ∧ i = .int .i64 (j : Int) ∧ x = .int .i64 (m : Int) ∧ m ≤ 2147483647 ∧ m = n / 256 ^ j ∧ wr.ownsRow w.heap.size 5 1 v (fixL j n).length (cells (fixL j n)) ∧ Below w.heap.size w wr) (fun _ _ i _ => k - (intOf i).toNat)
  case atStart => exact ⟨0, n, by omega, rfl, rfl, h, by simp, World.ownsRow_nil _ _ _ _, Below.refl _ _⟩
  case round =>
    obtain ⟨j, m, hj, rfl, rfl, hm, hmn, hown, hbw⟩ := hrel
    have HM : Hid (m = n / 256 ^ j) := hmn
    clear hmn
    by_cases hlt : j < k
    · obtain ⟨b, hb⟩ : ∃ b : UInt8, b = UInt8.ofNat (m % 256) := ⟨_, rfl⟩
      have HB : Hid ((m : Int) % 256 = (b.toNat : Int)) := by rw [hb, ofNat_toNat _ (by omega)]; show (m : Int) % 256 = _; omega
      have HQ : Hid (fixL j n ++ [b] = fixL (j + 1) n) := by show _ = _; rw [fixL_snoc, hb, HM.out]
      have HM2 : Hid (m / 256 = n / 256 ^ (j + 1)) := by show _ = _; rw [HM.out, Nat.div_div_eq_div_mul, Nat.pow_succ]
      have hlen1 : (fixL j n).length + 1 ≤ 1048576 := by rw [fixL_length]; omega
      clear hb
      go_wp2_with (at_builtin; refine append_byte rfl _ _ rfl b rfl hown hbw (Nat.le_refl _) HB.out rfl hlen1 ?_; intro v' w1 hown' hbw')
      go_roundw
      case rel => exact ⟨j + 1, m / 256, by omega, by go_num, by go_num, by omega, HM2.out, by rw [← HQ.out]; exact hown', hbw'⟩
      case measure => simp [intOf]; omega
    · obtain rfl : k = j := by omega
      have hp : 0 < 256 ^ k := Nat.pow_pos (by omega)
      have HP : Hid (0 < m ↔ ¬ n < 256 ^ k) := by
        show _ ↔ _
        rw [HM.out]
        constructor
        · intro h0 h1; rw [Nat.div_eq_of_lt h1] at h0; omega
        · intro h0; exact Nat.div_pos (by omega) hp
      have hfm := own_form hown
      clear hp
      by_cases hm0 : 0 < m
      · go_wp2
        go_ret2
        exact ⟨fun hx => absurd hx (HP.out.1 hm0), fun _ => ⟨rfl, hbw⟩⟩
      · obtain ⟨A, c, hv⟩ := hfm
        have HV := Lib.hid hv
        clear hv
        go_wp2
        go_ret2
        refine ⟨fun _ => ⟨A, c, ?_, ?_, hbw⟩, fun hx => absurd (HP.out.2 hx) hm0⟩
        · rw [← HV.out]; exact rfl
        · unfold Own; rw [← HV.out]; exact hown
end Go.Proofs.Ytkockhggnbfahaa
end
section
set_option linter.unusedVariables false
namespace Go.Proofs.Ytkockhggnbfahaa
open Go.RowKit
theorem le4_fix (n : Nat) (h : n < 4294967296) : fixL 2 (n % 65536) ++ fixL 2 (n / 65536) = le4 n := by
  have e1 : n % 65536 % 256 = n % 256 := by omega
  have e2 : n % 65536 / 256 % 256 = n / 256 % 256 := by omega
  have e3 : n / 65536 / 256 % 256 = n / 16777216 := by omega
  simp only [fixL, le4, e1, e2, e3]
  rfl
theorem fix_two (n : Nat) (v : Int) (w : World) (hv : v = (n : Int)) (h : n < 65536) : Calls Try.prog 27 #[.int .i64 v, .int .i64 2] w (GivesBytes (fixL 2 n) w) := by
  subst hv
  exact fix_yes n 2 w (by omega) (by omega) (by omega) (by simpa using h)
set_option maxRecDepth 100000 in
set_option maxHeartbeats 1000000 in
theorem sumBytes_any (s : Nat) (w : World) (hs : s < 4294967296) : Calls Try.prog 88 #[.int .u32 (s : Int)] w (GivesOne (le4 s) w) := by
  obtain ⟨i0, hi0, hz0, hz1, hz2⟩ := info_parts Try.info5
  have HL := Lib.hid (le4_fix s hs)
  have l1 : (fixL 2 (s % 65536)).length = 2 := fixL_length _ _
  have l2 : (fixL 2 (s / 65536)).length = 2 := fixL_length _ _
  have HA : ∀ W, Calls Try.prog 27 #[.int .i64 ((s : Int) % 65536), .int .i64 2] W (GivesBytes (fixL 2 (s % 65536)) W) := fun W => fix_two _ _ W (by omega) (by omega)
  have HB : ∀ W, Calls Try.prog 27 #[.int .i64 ((s : Int) / 65536), .int .i64 2] W (GivesBytes (fixL 2 (s / 65536)) W) := fun W => fix_two _ _ W (by omega) (by omega)
  obtain ⟨X, hX⟩ : ∃ X, X = fixL 2 (s % 65536) := ⟨_, rfl⟩
  obtain ⟨Y, hY⟩ : ∃ Y, Y = fixL 2 (s / 65536) := ⟨_, rfl⟩
  rw [← hX, ← hY] at HL
  rw [← hX] at l1 HA
  rw [← hY] at l2 HB
  have HA2 := Lib.hid HA
  have HB2 := Lib.hid HB
  have hx2 : X.length ≤ 2 := by omega
  have hy2 : Y.length ≤ 2 := by omega
  clear hX hY l1 l2 HA HB
  go_enter Try.func88, Try.ntmps88
  go_wp2_with (first
    | (go_at_call 27; (with_reducible refine (HA2.out _).mono ?_); rintro e w1 ⟨A1, c1, rfl, hown1, hb1⟩; clear HA2)
    | (go_at_call 27; (with_reducible refine (HB2.out _).mono ?_); rintro e w2 ⟨A2, c2, rfl, hown2, hb2⟩; clear HB2; have z2 := hb2.size; have z1 := hb1.size; have hown3 := own_kept hown1 hb2; have hr2 := own_rb hown2)
    | (at_builtin; refine wpList_append_any _ rfl (.tmp 21) (.tmp 22) _ rfl w.heap.size 5 i0 _ 1 1 Try.underlying26 hi0 hz0 hz1 hz2 rfl (by omega) _ X.length (cells X) rfl hown3 w2.heap.size A2 Y.length c2 (cells Y) rfl hr2 (cells_one _) (by simp only [maxLen]; omega) (by omega) (by omega) ?_; intro v3 w3 hown4 hg3 hat3))
  have hb3 : Below w.heap.size w w3 := (hb1.trans (hb2.mono z1)).grown hg3 (by omega) (fun k hk => (World.ownsRow.lt hown3 k hk).1)
  rw [← cells_append, ← List.length_append, HL.out] at hown4
  obtain ⟨A3, c3, hv⟩ := own_form hown4
  go_ret
  exact ⟨A3, c3, by rw [hv]; rfl, by rw [hv] at hown4; exact hown4, hb3⟩
set_option maxRecDepth 100000 in
set_option maxHeartbeats 1000000 in
theorem seal_any (L : List UInt8) (A : Option Addr) (c B : Nat) (w : World) (hr : RB w B A L) (hl : L.length ≤ 1048576) :
    Calls Try.prog 67 #[.slice A L.length c] w (GivesOne (sealL L) w) := by
  obtain ⟨i0, hi0, hz0, hz1, hz2⟩ := info_parts Try.info5
  have hr := rb_lt hr
  have hs := sumL_lt L
  have HS : ∀ W E, RB W E A L → Calls Try.prog 89 #[.slice A L.length c] W fun e w' => e = .returned (.int .u32 (sumL L : Int)) ∧ W = w' := fun W E h => sum_any L A c E W h (by omega)
  have HB : ∀ W, Calls Try.prog 88 #[.int .u32 (sumL L : Int)] W (GivesOne (le4 (sumL L)) W) := fun W => sumBytes_any _ W hs
  obtain ⟨M, hM⟩ : ∃ M, M = le4 (sumL L) := ⟨_, rfl⟩
  have HM : Hid (L ++ M = sealL L) := by show _ = _; rw [hM]; rfl
  have hm : M.length ≤ 4 := by rw [hM]; exact Nat.le_refl _
  rw [← hM] at HB
  have HS2 := Lib.hid HS
  have HB2 := Lib.hid HB
  have hby : i0.bytes = 1 := hz2
  clear hM HS HB
  go_enter Try.func67, Try.ntmps67
  go_wp2_with (first
    | (at_make; refine wpList_make_own _ rfl _ _ 26 rfl w.heap.size 5 i0 _ 1 Try.underlying26 hi0 hz0 hz1 .i64 .i64 _ (L.length + 4) rfl rfl (by omega) (by rw [hby]; omega) (by unfold maxLen; omega) (Nat.le_refl _) ?_; intro w1 ho1 hg1; have hb1 : Below w.heap.size w w1 := (Below.refl _ _).grown hg1 (Nat.le_refl _) (by simp))
    | (at_builtin; refine wpList_append_any _ rfl (.tmp 8) (.tmp 9) _ rfl w.heap.size 5 i0 _ 1 1 Try.underlying26 hi0 hz0 hz1 hz2 rfl (by omega) (.slice (some ⟨w.heap.size, 0, none⟩) 0 (L.length + 4)) 0 [] rfl ho1 w.heap.size A L.length c (cells L) rfl (hr.below hb1) (cells_one _) (by simp only [maxLen]; omega) (by omega) hb1.size ?_; intro v2 w2 ho2 hg2 hat2; simp only [Nat.zero_add, List.nil_append] at ho2; have hb2 : Below w.heap.size w w2 := hb1.grown hg2 hb1.size (fun k hk => (ho1.lt k hk).1); have hr2 := hr.below hb2)
    | (go_at_call 89; (with_reducible refine (HS2.out _ _ hr2).mono ?_); rintro e w' ⟨rfl, rfl⟩)
    | (go_at_call 88; (with_reducible refine (HB2.out _).mono ?_); rintro e w3 ⟨A3, c3, rfl, ho3, hb3⟩; have hr3 := own_rb ho3; have ho4 := own_kept ho2 hb3; have z2 := hb2.size; have z3 := hb3.size)
    | (at_builtin; refine wpList_append_any _ rfl (.tmp 11) (.tmp 14) _ rfl w.heap.size 5 i0 _ 1 1 Try.underlying26 hi0 hz0 hz1 hz2 rfl (by omega) _ L.length (cells L) rfl ho4 w3.heap.size A3 M.length c3 (cells M) rfl hr3 (cells_one _) (by simp only [maxLen]; omega) (by omega) (by omega) ?_; intro v5 w5 ho5 hg5 hat5; have hb5 : Below w.heap.size w w5 := (hb2.trans (hb3.mono z2)).grown hg5 (by omega) (fun k hk => (ho4.lt k hk).1)))
  rw [← cells_append, ← List.length_append, HM.out] at ho5
  obtain ⟨A6, c6, hv⟩ := own_form ho5
  go_ret
  exact ⟨A6, c6, by rw [hv]; rfl, by rw [hv] at ho5; exact ho5, hb5⟩
end Go.Proofs.Ytkockhggnbfahaa
end
