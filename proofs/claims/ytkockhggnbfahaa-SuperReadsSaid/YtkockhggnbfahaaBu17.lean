/- Lemmas under the proofs of this place: CrcRSeal, CrcOpen, DiskPOf. No statement is proved here. -/
import Derived.Test.YtkockhggnbfahaaBu15
import Derived.Test.YtkockhggnbfahaaBu01
import Derived.Test.YtkockhggnbfahaaBu16
import Derived.Test.YtkockhggnbfahaaBu05
import Derived.Test.YtkockhggnbfahaaBu02
import Derived.Deep.RegionWith
import Derived.Deep.QuietTactic
import Derived.BigQuiet
import Derived.Lib.SmallJoins
section
set_option linter.unusedVariables false
namespace Go.Proofs.Ytkockhggnbfahaa
open Go.RowKit
theorem le4_cells (n : Nat) (h : n < 4294967296) : (#[.int .u8 ((n : Int) % 256), .int .u8 ((n : Int) / 256 % 256), .int .u8 ((n : Int) / 65536 % 256), .int .u8 ((n : Int) / 16777216)] : Array Value) = (cells (le4 n)).toArray := by
  have e1 : ((n : Int) % 256) = ((UInt8.ofNat (n % 256)).toNat : Int) := by rw [ofNat_toNat _ (by omega)]; omega
  have e2 : ((n : Int) / 256 % 256) = ((UInt8.ofNat (n / 256 % 256)).toNat : Int) := by rw [ofNat_toNat _ (by omega)]; omega
  have e3 : ((n : Int) / 65536 % 256) = ((UInt8.ofNat (n / 65536 % 256)).toNat : Int) := by rw [ofNat_toNat _ (by omega)]; omega
  have e4 : ((n : Int) / 16777216) = ((UInt8.ofNat (n / 16777216)).toNat : Int) := by rw [ofNat_toNat _ (by omega)]; omega
  rw [e1, e2, e3, e4]
  rfl
theorem le4_new (n : Nat) (w : World) (h : n < 4294967296) : RB (w.alloc (.cells #[.int .u8 ((n : Int) % 256), .int .u8 ((n : Int) / 256 % 256), .int .u8 ((n : Int) / 65536 % 256), .int .u8 ((n : Int) / 16777216)] 5)) (w.heap.size + 1) (some ⟨w.heap.size, 0, none⟩) (le4 n) := by
  rw [le4_cells n h]
  exact rb_new w (le4 n)
set_option maxRecDepth 100000 in
set_option maxHeartbeats 1000000 in
theorem refSeal_any (L : List UInt8) (A : Option Addr) (c B : Nat) (w : World) (hr : RB w B A L) (hl : L.length ≤ 140737488351232) :
    Calls Try.prog 69 #[.slice A L.length c] w (GivesOne (sealL L) w) := by
  obtain ⟨i0, hi0, hz0, hz1, hz2⟩ := info_parts Try.info5
  have hr := rb_lt hr
  have hs := sumL_lt L
  have HS : ∀ W E, RB W E A L → Calls Try.prog 90 #[.slice A L.length c] W fun e w' => e = .returned (.int .u32 (sumL L : Int)) ∧ W = w' := fun W E h => refSum_any L A c E W h (by omega)
  obtain ⟨n, hn⟩ : ∃ n, n = sumL L := ⟨_, rfl⟩
  rw [← hn] at HS hs
  have HN : Hid (n = sumL L) := hn
  have HS2 := Lib.hid HS
  obtain ⟨M, hM⟩ : ∃ M, M = le4 n := ⟨_, rfl⟩
  have HM : Hid (L ++ M = sealL L) := by show _ = _; rw [hM, hn]; rfl
  have HF : Hid (∀ W : World, RB (W.alloc (.cells #[.int .u8 ((n : Int) % 256), .int .u8 ((n : Int) / 256 % 256), .int .u8 ((n : Int) / 65536 % 256), .int .u8 ((n : Int) / 16777216)] 5)) (W.heap.size + 1) (some ⟨W.heap.size, 0, none⟩) M) := by
    rw [hM]; exact fun W => le4_new n W hs
  have HM4 : Hid (∀ x : Option Addr, Value.slice x 4 4 = .slice x M.length 4) := by show ∀ x, _; intro x; rw [hM]; rfl
  have hm4 : M.length ≤ 4 := by rw [hM]; exact Nat.le_refl _
  clear hM
  clear hn HS
  go_enter Try.func69, Try.ntmps69
  go_wp2_with (first
    | (go_at_call 90; (with_reducible refine (HS2.out _ _ hr).mono ?_); rintro e w' ⟨rfl, rfl⟩)
    | (at_builtin; refine wpList_append_any _ rfl (.tmp 6) (.tmp 7) _ rfl w.heap.size 5 i0 _ 1 1 Try.underlying26 hi0 hz0 hz1 hz2 rfl (by omega) (.slice (some ⟨w.heap.size, 0, none⟩) 0 0) 0 [] rfl (World.ownsRow_made w #[] 0 (Nat.le_refl _) (by decide) rfl) w.heap.size A L.length c (cells L) rfl (hr.alloc (Nat.le_refl _) _) (cells_one _) (by simp only [maxLen]; omega) (by omega) (by simp) ?_; intro v5 w5 ho5 hg5 hat5; simp only [Nat.zero_add, List.nil_append] at ho5; have hb5 : Below w.heap.size w w5 := ((Below.refl _ _).alloc (Nat.le_refl _) _).grown hg5 (by simp) (by simp [Value.ownBlock]))
    | (at_builtin; refine wpList_append_any _ rfl (.tmp 8) (.tmp 23) _ rfl w.heap.size 5 i0 _ 1 1 Try.underlying26 hi0 hz0 hz1 hz2 rfl (by omega) _ L.length (cells L) rfl (ho5.alloc _) (w5.heap.size + 1) (some ⟨w5.heap.size, 0, none⟩) M.length 4 (cells M) (HM4.out _) (HF.out w5) (cells_one _) (by simp only [maxLen]; omega) (by omega) (by have := hb5.size; simp; omega) ?_; intro v6 w6 ho6 hg6 hat6; have hb6 : Below w.heap.size w w6 := (hb5.alloc hb5.size _).grown hg6 (by have := hb5.size; simp; omega) (fun k hk => (ho5.lt k hk).1)))
  rw [← cells_append, ← List.length_append, HM.out] at ho6
  obtain ⟨A6, c6, hv⟩ := own_form ho6
  go_ret
  exact ⟨A6, c6, by rw [hv]; rfl, by rw [hv] at ho6; exact ho6, hb6⟩
end Go.Proofs.Ytkockhggnbfahaa
end
section
set_option linter.unusedVariables false
namespace Go.Proofs.Ytkockhggnbfahaa
open Go.RowKit
def GivesOpen : Option (List UInt8) → World → Ending → World → Prop
  | some M, w, e, w' => GivesBytes M w e w'
  | none, w, e, w' => e = .returned (.tuple #[.slice none 0 0, .int .i64 12]) ∧ Below w.heap.size w w'
set_option maxRecDepth 100000 in
set_option maxHeartbeats 1000000 in
theorem open_short (N : Nat) (A : Option Addr) (c : Nat) (w : World) (hl : N < 4) :
    Calls Try.prog 70 #[.slice A N c] w (GivesOpen none w) := by
  have hd2 : decide ((N : Int) - 4 < 0) = true := by simp; omega
  go_enter Try.func70, Try.ntmps70
  go_wp2
  go_quiet (fail)
  go_wp2
  go_ret2
  exact ⟨rfl, ⟨rfl, rfl, rfl, Nat.le_refl _, fun _ _ => rfl⟩⟩
set_option maxRecDepth 100000 in
set_option maxHeartbeats 1000000 in
theorem open_core (n : Nat) (A : Option Addr) (c : Nat) (P Q : List UInt8) (w : World) (hc : n + 4 ≤ c) (hcap : c ≤ 9223372036854775807) (b : Bool) (R : World → Ending → World → Prop)
    (HS : Hid (∀ W, Below w.heap.size w W → Calls Try.prog 89 #[.slice A n c] W fun e w' => e = .returned (.int .u32 (sumL P : Int)) ∧ W = w'))
    (HB : Hid (∀ W, Calls Try.prog 88 #[.int .u32 (sumL P : Int)] W (GivesOne Q W)))
    (HE : Hid (∀ W C d, Below w.heap.size w W → RB W W.heap.size C Q → Calls Try.prog 86 #[.slice (Option.map (fun x => x.add n) A) 4 (c - n), .slice C Q.length d] W fun e w' => e = .returned (.bool b) ∧ W = w'))
    (HC : Hid (∀ W, Below w.heap.size w W → Calls Try.prog 91 #[.slice A n c] W (GivesOne P W)))
    (HR : Hid (b = true → ∀ e w', GivesBytes P w e w' → R w e w')) (HR2 : Hid (b = false → ∀ w', Below w.heap.size w w' → R w (.returned (.tuple #[.slice none 0 0, .int .i64 12])) w')) :
    Calls Try.prog 70 #[.slice A (n + 4) c] w (R w) := by
  have hd2 : decide ((n : Int) < 0) = false := by simp
  have hn4 : (n : Int) ≤ (n : Int) + 4 := by omega
  have hnc : (n : Int) ≤ (c : Int) := by omega
  have hcn : ¬ c = n := by omega
  rcases b with _ | _
  all_goals
    go_enter Try.func70, Try.ntmps70
    go_wp2
    refine wp_region_any (by kernel_rfl) ?_
    change wpAny _ _ _ _ _ _ _ (World.drew _)
    refine wpAny_take (i := 0) (v := ?_) rfl (by kernel_rfl) (by kernel_rfl) (by kernel_rfl) (fun _ _ _ h => h) (Or.inl ⟨by kernel_rfl, ?_⟩) ?_
    rotate_left
    · intro w; go_simp; with_reducible rfl
    rotate_left
    refine wpAny_take (i := 1) (v := ?_) rfl (by kernel_rfl) (by kernel_rfl) (by kernel_rfl) (fun _ _ _ h => h) (Or.inl ⟨by kernel_rfl, ?_⟩) ?_
    rotate_left
    · intro w; go_simp; with_reducible rfl
    rotate_left
    refine wpAny_take (i := 2) (v := ?_) rfl (by kernel_rfl) (by kernel_rfl) (by kernel_rfl) (fun _ _ _ h => h) (Or.inl ⟨by kernel_rfl, ?_⟩) ?_
    rotate_left
    · intro w; go_simp; with_reducible rfl
    rotate_left
    refine wpAny_take (i := 3) (v := ?_) rfl (by kernel_rfl) (by kernel_rfl) (by kernel_rfl) (fun _ _ _ h => h) (Or.inl ⟨by kernel_rfl, ?_⟩) ?_
    rotate_left
    · intro w; go_simp; with_reducible rfl
    rotate_left
    refine wpAny_take (i := 4) (v := ?_) rfl (by kernel_rfl) (by kernel_rfl) (by kernel_rfl) (fun _ _ _ h => h) (Or.inl ⟨by kernel_rfl, ?_⟩) ?_
    rotate_left
    · intro w; go_simp; with_reducible rfl
    rotate_left
    refine wpAny_take (i := 5) (v := ?_) rfl (by kernel_rfl) (by kernel_rfl) (by kernel_rfl) (fun _ _ _ h => h) (Or.inl ⟨by kernel_rfl, ?_⟩) ?_
    rotate_left
    · intro w; go_simp; with_reducible rfl
    rotate_left
    refine wpAny_take (i := 6) (v := ?_) rfl (by kernel_rfl) (by kernel_rfl) (by kernel_rfl) (fun _ _ _ h => h) (Or.inl ⟨by kernel_rfl, ?_⟩) ?_
    rotate_left
    · intro w; go_simp; with_reducible rfl
    rotate_left
    refine wpAny_take (i := 7) (v := ?_) rfl (by kernel_rfl) (by kernel_rfl) (by kernel_rfl) (fun _ _ _ h => h) (Or.inl ⟨by kernel_rfl, ?_⟩) ?_
    rotate_left
    · intro w; go_simp; with_reducible rfl
    rotate_left
    refine wpAny_take (i := 8) (v := ?_) rfl (by kernel_rfl) (by kernel_rfl) (by kernel_rfl) (fun _ _ _ h => h) (Or.inl ⟨by kernel_rfl, ?_⟩) ?_
    rotate_left
    · intro w; go_simp; with_reducible rfl
    rotate_left
    refine wpAny_tail 9 (by kernel_rfl) (by kernel_rfl) ?_
    simp only [List.drop_succ_cons, List.drop_zero]
    go_wp2_with (first
      | (go_at_call 89; (with_reducible refine (HS.out _ (Below.refl _ _).drew).mono ?_); rintro e w' ⟨rfl, rfl⟩)
      | (go_at_call 88; (with_reducible refine (HB.out _).mono ?_); rintro e w1 ⟨A1, c1, rfl, ho1, hb1⟩; have hb2 : Below w.heap.size w w1 := below_drew hb1)
      | (go_at_call 86; (with_reducible refine (HE.out _ _ _ hb2 (own_rb ho1)).mono ?_); rintro e w' ⟨rfl, rfl⟩)
      | (go_at_call 91; (with_reducible refine (HC.out _ hb2).mono ?_); rintro e w2 ⟨A2, c2, rfl, ho2, hb3⟩))
  · exact HR2.out (by trivial) _ hb2
  · have ho3 : Own w2 w.heap.size A2 P c2 := Joins.ownsRow_le ho2 hb2.size
    have hb4 := hb2.trans (hb3.mono hb2.size)
    exact HR.out (by trivial) _ _ ⟨A2, c2, rfl, ho3, hb4⟩
theorem open_any (L : List UInt8) (A : Option Addr) (c B : Nat) (w : World) (hr : RB w B A L) (hlc : L.length ≤ c) (hc : c ≤ 9223372036854775807) (hl : L.length ≤ 1048576) :
    Calls Try.prog 70 #[.slice A L.length c] w (GivesOpen (openL L) w) := by
  have hr := rb_lt hr
  by_cases h4 : L.length < 4
  · have e : openL L = none := by unfold openL; rw [if_neg (by omega)]
    rw [e]
    exact open_short _ A c w h4
  · obtain ⟨n, hn⟩ : ∃ n, n = L.length - 4 := ⟨_, rfl⟩
    have hn4 : L.length = n + 4 := by omega
    have hp : (L.take n).length = n := by rw [List.length_take]; omega
    have hd : (L.drop n).length = 4 := by rw [List.length_drop]; omega
    have hrp : RB w w.heap.size A (L.take n) := rb_take hr n (by omega)
    have hrd : RB w w.heap.size (A.map (fun x => x.add n)) (L.drop n) := rb_cut1 hr (by omega) hlc (by omega)
    have hop : openL L = if L.drop n = le4 (sumL (L.take n)) then some (L.take n) else none := by
      unfold openL sealL
      rw [← hn]
      have hx : (L.take n ++ le4 (sumL (L.take n)) = L) ↔ (L.drop n = le4 (sumL (L.take n))) := by
        conv => lhs; rhs; rw [← List.take_append_drop n L]
        rw [List.append_cancel_left_eq]
        exact ⟨Eq.symm, Eq.symm⟩
      by_cases hy : L.drop n = le4 (sumL (L.take n))
      · rw [if_pos ⟨by omega, hx.2 hy⟩, if_pos hy]
      · rw [if_neg (fun h => hy (hx.1 h.2)), if_neg hy]
    rw [hn4]
    refine open_core n A c (L.take n) (le4 (sumL (L.take n))) w (by omega) hc (decide (L.drop n = le4 (sumL (L.take n)))) (GivesOpen (openL L)) (fun W hb => ?_) (fun W => ?_) (fun W C d hb hC => ?_) (fun W hb => ?_) (fun hb e w' h => ?_) (fun hb w' h => ?_)
    · have := sum_any (L.take n) A c _ W (hrp.below hb) (by omega)
      rwa [hp] at this
    · exact sumBytes_any _ W (sumL_lt _)
    · have := equal_any (L.drop n) (le4 (sumL (L.take n))) (A.map (fun x => x.add n)) C (c - n) d _ _ W (hrd.below hb) hC
      rwa [hd] at this
    · have := clone_any (L.take n) A c _ W (hrp.below hb) (by omega)
      rwa [hp] at this
    · rw [hop, if_pos (by simpa using hb)]
      exact h
    · rw [hop, if_neg (by simpa using hb)]
      exact ⟨rfl, h⟩
end Go.Proofs.Ytkockhggnbfahaa
end
section
set_option linter.unusedVariables false
namespace Go.Proofs.Ytkockhggnbfahaa
open Go.RowKit
def GivesDisk (D : Dk) (w w' : World) (g : Nat) (F : Nat → Prop) : Prop := PDisk w' g F D ∧ Below w.heap.size w w' ∧ ∀ k, F k → w.heap.size ≤ k
theorem Try.builtDisk (v u : Value) (a b n ca cb : Nat) (hv : v = .slice (some ⟨a, 0, none⟩) n ca) (hu : u = .slice (some ⟨b, 0, none⟩) n cb) : Try.prog.built 103 [(0, v), (1, u)] = some #[.slice (some ⟨a, 0, none⟩) n ca, .slice (some ⟨b, 0, none⟩) n cb, .slice none 0 0, .bool false, .bool false, .int .i64 0, .int .i64 0, .int .i64 0, .int .i64 0] := by
  subst hv hu
  kernel_rfl
theorem newDisk {w0 w1 w2 w3 : World} {L : List UInt8} {a b ca cb m g : Nat} (hm : L.length = 256 * m) (hf : 16 ≤ m) (hm2 : m ≤ 1024) (h1 : Arr w1 a L) (ha : w0.heap.size ≤ a) (hb1 : Below w0.heap.size w0 w1) (hca : L.length ≤ ca ∧ ca ≤ 9223372036854775807)
    (h2 : Arr w2 b L) (hb : w1.heap.size ≤ b) (hb2 : Below w1.heap.size w1 w2) (hcb : L.length ≤ cb ∧ cb ≤ 9223372036854775807)
    (hw : Hid (w3 = w2.alloc (.cells #[.slice (some ⟨a, 0, none⟩) L.length ca, .slice (some ⟨b, 0, none⟩) L.length cb, .slice none 0 0, .bool false, .bool false, .int .i64 0, .int .i64 0, .int .i64 0, .int .i64 0] 103))) (hg : Hid (g = w2.heap.size)) :
    GivesDisk (Dk.ofImage L) w0 w3 g (fun k => k = g ∨ k = a ∨ k = b) := by
  have e1 : L.length / 256 = m := by omega
  have hl : (Dk.ofImage L).safe = Dk.chunks m L := by unfold Dk.ofImage; rw [e1]
  have hfl : (Dk.ofImage L).safe.flatten = L := by rw [hl]; exact Dk.chunks_flatten m L hm
  have hlt1 := h1.lt
  have hlt2 := h2.lt
  have hs1 := hb1.size
  have hs2 := hb2.size
  have hs3 := letter_size hw
  have hg' := hg.out
  have hb3 : Below w2.heap.size w2 w3 := letter_below hw (Below.refl _ _) (Nat.le_refl _)
  refine ⟨⟨a, ca, b, cb, L.length, .slice none 0 0, false, 0, ?_⟩, (hb1.trans (hb2.mono hs1)).trans (hb3.mono (by omega)), fun k hk => by rcases hk with rfl | rfl | rfl <;> omega⟩
  refine ⟨letter_blk hw hg, ?_, hca, hcb, ?_, ?_, World.ownsRow_nil _ _ _ _, by omega, .inl rfl, .inr (.inl rfl), .inr (.inr rfl), fun k hk => by simp [Value.ownBlock] at hk, fun k hk => by rcases hk with rfl | rfl | rfl <;> omega, ?_, fun _ => rfl, fun _ h => absurd h (by show ¬ (0 : Int) ≤ -1; omega)⟩
  · rw [hl, Dk.chunks_length]; exact hm
  · rw [hfl]
    exact (h1.turns (Turns.of_below hb2 (fun _ => False)) (fun h => h)).turns (Turns.of_below hb3 (fun _ => False)) (fun h => h)
  · rw [Dk.image_calm _ rfl, hfl]
    exact h2.turns (Turns.of_below hb3 (fun _ => False)) (fun h => h)
  · refine ⟨⟨?_, fun x hx => by cases hx⟩, by rw [hl, Dk.chunks_length]; exact hf, by rw [hl, Dk.chunks_length]; exact hm2, ⟨Int.le_refl _, by show (-1 : Int) ≤ _; omega⟩⟩
    rw [hl]; exact Dk.chunks_fit m L hm
set_option maxRecDepth 100000 in
set_option maxHeartbeats 1000000 in
theorem of_any (L : List UInt8) (m : Nat) (A : Option Addr) (n c : Nat) (w : World) (hr : RB w w.heap.size A L) (hn : n = L.length) (hm : L.length = 256 * m) (hf : 16 ≤ m) (hm2 : m ≤ 1024) :
    Calls Try.prog 43 #[.slice A n c] w fun e w' => ∃ g F, e = .returned (.pointer (some ⟨g, 0, none⟩)) ∧ GivesDisk (Dk.ofImage L) w w' g F := by
  subst hn
  have HM : Hid (L.length = 256 * m ∧ 16 ≤ m ∧ m ≤ 1024) := ⟨hm, hf, hm2⟩
  have HC := Lib.hid (sclone_any L A c _ w hr (by omega))
  have HC2 : Hid (∀ w1, Below w.heap.size w w1 → Calls Try.prog 78 #[.slice A L.length c] w1 (GivesOne L w1)) := fun w1 hb => sclone_any L A c _ w1 (hr.below hb) (by omega)
  have u0 : 0 < L.length := by omega
  clear hr hm hf hm2
  go_enter Try.func43, Try.ntmps43
  go_wp2_with (first
    | (go_at_call 78; (with_reducible refine HC.out.mono ?_); rintro e w1 ⟨A1, c1, rfl, ho1, hb1⟩; obtain ⟨a, rfl, hA1, hl1, hm1, hg1⟩ := own_arr ho1 u0; clear HC)
    | (go_at_call 78; (with_reducible refine (HC2.out w1 hb1).mono ?_); rintro e w2 ⟨A2, c2, rfl, ho2, hb2⟩; obtain ⟨b, rfl, hA2, hl2, hm2, hg2⟩ := own_arr ho2 u0)
    | (refine wpList_buildTo rfl 103 _ rfl (some 7) rfl _ (Try.builtDisk _ _ a b L.length c1 c2 rfl rfl) ?_)
    | (refine wpList_box_letter rfl 103 _ rfl (some 8) rfl _ rfl ?_; intro g3 w3 hw3 hg3))
  go_ret
  exact ⟨g3, _, rfl, newDisk HM.out.1 HM.out.2.1 HM.out.2.2 hA1 hg1 hb1 ⟨hl1, hm1⟩ hA2 hg2 hb2 ⟨hl2, hm2⟩ hw3 hg3⟩
set_option maxRecDepth 100000 in
set_option maxHeartbeats 1000000 in
theorem load_any (L : List UInt8) (A : Option Addr) (c : Nat) (w : World) (hr : RB w w.heap.size A L) (hm : Dk.mayL L) :
    Calls Try.prog 15 #[.slice A L.length c] w fun e w' => ∃ g F, e = .returned (.tuple #[.pointer (some ⟨g, 0, none⟩), .int .i64 0]) ∧ GivesDisk (Dk.ofImage L) w w' g F := by
  obtain ⟨h1, h2, h3⟩ := hm
  obtain ⟨n, hn⟩ : ∃ n, n = L.length := ⟨_, rfl⟩
  rw [← hn] at h1 h2 h3 ⊢
  obtain ⟨m, hm⟩ : ∃ m, m = n / 256 := ⟨_, rfl⟩
  have HO := Lib.hid (of_any L m A n c w hr hn (by omega) (by omega) (by omega))
  have HF : Hid (∀ W, Calls Try.prog 42 #[.int .i64 (m : Int)] W fun e w' => e = .returned (.bool true) ∧ W = w') := fun W => by
    have := fits_any (m : Int) W
    rwa [decide_eq_true (by omega)] at this
  have n0 := fun w' => Try.notTrue w'
  have n1 := fun w' => Try.notFalse w'
  have u0 : (0 : Int) ≤ (n : Int) := by omega
  have u1 : (n : Int) ≤ 1000000 := by omega
  have e1 : (n : Int) % 256 = 0 := by omega
  have e2 : (n : Int).tmod 256 = 0 := by rw [Int.tmod_eq_emod_of_nonneg u0]; exact e1
  have e3 : (n : Int) / 256 = (m : Int) := by omega
  have e4 : (n : Int).tdiv 256 = (m : Int) := by rw [Int.tdiv_eq_ediv_of_nonneg u0]; exact e3
  clear hn hm hr h1 h2 h3
  go_enter Try.func15, Try.ntmps15
  go_wp2_with (first
    | (go_at_call 42; (with_reducible refine (HF.out _).mono ?_); rintro e w1 ⟨rfl, rfl⟩)
    | (go_at_call 43; (with_reducible refine HO.out.mono ?_); rintro e w1 ⟨g, F, rfl, hG⟩))
  go_ret2
  exact ⟨g, F, rfl, hG⟩
set_option maxRecDepth 100000 in
set_option maxHeartbeats 1000000 in
theorem blank_any (m : Nat) (w : World) (h1 : 16 ≤ m) (h2 : m ≤ 1024) :
    Calls Try.prog 24 #[.int .i64 (m : Int)] w fun e w' => ∃ g F, e = .returned (.tuple #[.pointer (some ⟨g, 0, none⟩), .int .i64 0]) ∧ GivesDisk (Dk.blank m) w w' g F := by
  obtain ⟨i0, hi0, hz0, hz1, hz2⟩ := info_parts Try.info5
  have hby : i0.bytes = 1 := hz2
  have HF : Hid (∀ W, Calls Try.prog 42 #[.int .i64 (m : Int)] W fun e w' => e = .returned (.bool true) ∧ W = w') := fun W => by
    have := fits_any (m : Int) W
    rwa [decide_eq_true (by omega)] at this
  obtain ⟨n, hn⟩ : ∃ n, n = 256 * m := ⟨_, rfl⟩
  have HN := Lib.hid hn
  have n0 := fun w' => Try.notTrue w'
  have e1 : (m : Int) * 256 = (n : Int) := by omega
  have u0 : (0 : Int) ≤ (n : Int) := by omega
  have u1 : n ≤ 1000000 := by omega
  have u4 : IntKind.i64.wrap (n : Int) = (n : Int) := IntWalk.i64_in _ (by omega)
  have HO : Hid (∀ W A, RB W W.heap.size A (List.replicate n 0) → Calls Try.prog 43 #[.slice A n n] W fun e w' => ∃ g F, e = .returned (.pointer (some ⟨g, 0, none⟩)) ∧ GivesDisk (Dk.blank m) W w' g F) := fun W A hr => by
    have h := of_any (List.replicate n 0) m A n n W hr (by simp) (by simp [hn]) h1 h2
    rw [hn] at h ⊢
    rwa [Dk.ofImage_zero] at h
  clear hn h1 h2
  go_enter Try.func24, Try.ntmps24
  go_wp2_with (first
    | (go_at_call 42; (with_reducible refine (HF.out _).mono ?_); rintro e w1 ⟨rfl, rfl⟩)
    | (at_make; refine wpList_make_full _ rfl _ _ 26 rfl w.heap.size 5 i0 _ 1 Try.underlying26 hi0 hz0 hz1 .i64 .i64 _ _ n rfl rfl rfl rfl (by rw [hby]; omega) (by unfold maxLen; omega) (Nat.le_refl _) ?_; intro w2 ho2 hg2)
    | (go_at_call 43; (with_reducible refine (HO.out _ _ (made_rb ho2)).mono ?_); rintro e w3 ⟨g, F, rfl, hG⟩))
  go_ret2
  have b2 : Below w.heap.size w w2 := (Below.refl _ _).grown hg2 (Nat.le_refl _) (by simp)
  exact ⟨g, F, rfl, hG.1, b2.trans (hG.2.1.mono b2.size), fun k hk => Nat.le_trans b2.size (hG.2.2 k hk)⟩
end Go.Proofs.Ytkockhggnbfahaa
end
