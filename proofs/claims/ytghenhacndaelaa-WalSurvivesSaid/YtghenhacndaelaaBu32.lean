/- Lemmas under the proofs of this place: WalPConcat, WalPTail. No statement is proved here. -/
import Derived.Test.YtghenhacndaelaaBu31
import Derived.Test.YtghenhacndaelaaBu03
import Derived.Test.YtghenhacndaelaaBu04
import Derived.Test.YtghenhacndaelaaBu01
import Derived.Test.YtghenhacndaelaaBu20
import Derived.Test.YtghenhacndaelaaBu24
import Derived.Test.YtghenhacndaelaaBu15
import Derived.Deep.RegionHeld3
set_option linter.unusedSimpArgs false
set_option linter.unusedVariables false
set_option maxRecDepth 100000
set_option maxHeartbeats 16000000
namespace Go.Proofs.Ytghenhacndaelaa
section
open Go.RowKit
theorem addr_zero13 (A : Option Addr) (c : Nat) : (if c = 0 then A else A.map (·.add (0 * 1))) = A := by
  split
  · rfl
  · cases A with
    | none => rfl
    | some a => simp [Addr.add]
theorem bsl_to (A : Option Addr) (n c h : Nat) (j : Int) (hj : j = (h : Int)) (h1 : h ≤ c) (W : World) :
    (Instr.sliceAt 38 (.slice A n c) none (some (.int .i64 j)) none).run Try.prog W = .ok (.slice A h c) W := by
  subst hj
  have hu : Try.prog.underlying 38 = some (.slice (Try.prog.elem 38)) := by kernel_rfl
  have he : Try.prog.elem 38 = 5 := by kernel_rfl
  have hsz : (sizeOf 5).run Try.prog W = .ok 1 W := by kernel_rfl
  have e : (h : Int).toNat = h := by omega
  rw [run_sliceAt_slice _ _ _ _ _ _ hu, run_slice_h _ _ _ _ _ hu .i64 (h : Int) (by omega) (by omega), he, hsz]
  simp only [Result.andThen_ok, e, sliced, Nat.sub_zero, addr_zero13]
theorem bown_empty {w : World} {base n c : Nat} {A : Option Addr} {xs : List Value} (h : w.ownsRow base 5 1 (.slice A n c) n xs) : w.ownsRow base 5 1 (.slice A 0 c) 0 [] := by
  refine ⟨rfl, ?_⟩
  rcases h.2 with ⟨h1, h0⟩ | ⟨g, cap, cur, he, h2, h3, h4, h5, h6, h7⟩
  · simp only [Value.slice.injEq] at h1
    obtain ⟨rfl, rfl, rfl⟩ := h1
    exact .inl ⟨rfl, rfl⟩
  · simp only [Value.slice.injEq] at he
    obtain ⟨rfl, -, rfl⟩ := he
    exact .inr ⟨g, c, cur, rfl, h2, h3, Nat.zero_le _, h5, h6, by simp⟩
theorem bzero_bytes (k : Nat) : Builtin.zeroCells (Value.int IntKind.u8 0).cells k = (cells (List.replicate k 0)).toArray := by
  apply Array.toList_inj.1
  apply List.ext_getElem
  · simp [Builtin.zeroCells, cells, Value.cells]
  · intro j h1 h2
    simp [Builtin.zeroCells, cells, Value.cells]
    have : j % 1 = 0 := by omega
    simp [this]
theorem bgrow_any (n : Nat) (w : World) (hn : n ≤ 3000000) :
    Calls Try.prog 42 #[.slice none 0 0, .int .i64 (n : Int)] w fun e w' => ∃ A c, e = .returned (.slice A 0 c) ∧ w'.ownsRow w.heap.size 5 1 (.slice A 0 c) 0 [] ∧ Below w.heap.size w w' := by
  obtain ⟨i0, hi0, hz0, hz1, hz2⟩ := info_parts Try.info5
  by_cases h : n = 0
  · subst h
    go_enter Try.func42, Try.ntmps42
    go_wp2
    go_ret
    exact ⟨none, 0, rfl, World.ownsRow_nil _ _ _ _, Below.refl _ _⟩
  · have d0 : decide (0 < (n : Int)) = true := decide_eq_true (by omega)
    have d1 : decide ((n : Int) > 0) = true := decide_eq_true (by omega)
    have d2 : decide (0 < n) = true := decide_eq_true (by omega)
    have d3 : decide ((n : Int) < 0) = false := decide_eq_false (by omega)
    have s0 : ∀ W, (Instr.sliceAt 38 (.slice none 0 0) none (some (.int .i64 0)) none).run Try.prog W = .ok (.slice none 0 0) W := fun W => by
      have := bsl_to none 0 0 0 0 rfl (Nat.le_refl _) W
      simpa using this
    have HN : Hid (n ≠ 0) := h
    clear h
    go_enter Try.func42, Try.ntmps42
    go_wp2_with (at_builtin; refine wpList_append_make _ rfl (.tmp 20) (.tmp 21) 38 3 rfl w.heap.size 5 i0 _ 1 1 .i64 Try.underlying38 Try.underlying3 hi0 hz0 hz1 hz2 rfl (by omega) (.slice none 0 0) 0 [] rfl (World.ownsRow_nil _ _ _ _) n rfl (cells (List.replicate n 0)) (bzero_bytes n) (cells_one _) (by simp only [maxLen]; omega) (by omega) (Nat.le_refl _) ?_; intro v2 w2 ho2 hg2 hat2; obtain ⟨A2, c2, rfl⟩ := own_slice7 ho2; have s1 := bsl_to A2 (0 + n) c2 0 0 rfl (Nat.zero_le _); have ho3 := bown_empty ho2)
    go_ret
    exact ⟨_, _, rfl, ho3, (Below.refl _ _).grown hg2 (Nat.le_refl _) (by simp [Value.ownBlock])⟩
def twoN13 (a b k : Nat) : Nat := if k = 0 then 0 else if k = 1 then a else a + b
def twoB13 (X Y : List UInt8) (k : Nat) : List UInt8 := if k = 0 then [] else if k = 1 then X else X ++ Y
theorem bconcat_any (X Y : List UInt8) (a b : Nat) (A B : Option Addr) (cA cB g c : Nat) (w : World) (ha : a = X.length) (hb : b = Y.length) (hla : a ≤ 1000000) (hlb : b ≤ 1000000) (hg : g < w.heap.size)
    (h0 : w.cell? ⟨g, 0, none⟩ = some (.slice A a cA)) (h1 : w.cell? ⟨g, 1, none⟩ = some (.slice B b cB)) (hA : RB w w.heap.size A X) (hB : RB w w.heap.size B Y) :
    Calls Try.prog 33 #[.slice (some ⟨g, 0, none⟩) 2 2] w fun e w' => ∃ A c n, e = .returned (.slice A n c) ∧ n = a + b ∧ w'.ownsRow w.heap.size 5 1 (.slice A n c) n (cells (X ++ Y)) ∧ Below w.heap.size w w' := by
  obtain ⟨i0, hi0, hz0, hz1, hz2⟩ := info_parts Try.info5
  have HL := Lib.hid (And.intro ha hb)
  have HX := Lib.hid hA
  have HY := Lib.hid hB
  have H0 := Lib.hid h0
  have H1 := Lib.hid h1
  have HG := Lib.hid hg
  have z0 := h0
  have z1 := h1
  clear ha hb hA hB h0 h1 hg
  go_enter Try.func33, Try.ntmps33
  go_wp2
  go_loop [3, 11] (fun s i => ∃ k : Nat, k ≤ 2 ∧ i = .int .i64 (k : Int) ∧ s = .int .i64 (twoN13 a b k : Int)) (fun _ i => 2 - (intOf i).toNat)
  case atStart => exact ⟨0, by omega, rfl, rfl⟩
  case round =>
    obtain ⟨k, hk, rfl, rfl⟩ := hrel
    by_cases hlt : k < 2
    · by_cases hk0 : k = 0
      · subst hk0
        have e0 : twoN13 a b 0 = 0 := rfl
        rw [e0]
        clear e0
        go_wp2
        go_round
        case rel => exact ⟨1, by omega, rfl, by simp [twoN13]⟩
        case measure => simp [intOf]
      · obtain rfl : k = 1 := by omega
        have e0 : twoN13 a b 1 = a := rfl
        rw [e0]
        clear e0
        go_wp2
        go_round
        case rel => exact ⟨2, by omega, rfl, by simp [twoN13]⟩
        case measure => simp [intOf]
    · obtain rfl : k = 2 := by omega
      have e0 : twoN13 a b 2 = a + b := rfl
      obtain ⟨t, ht⟩ : ∃ t, t = a + b := ⟨_, rfl⟩
      rw [e0, ← ht]
      have HGr : Hid (Calls Try.prog 42 #[.slice none 0 0, .int .i64 (t : Int)] w fun e w' => ∃ A c, e = .returned (.slice A 0 c) ∧ w'.ownsRow w.heap.size 5 1 (.slice A 0 c) 0 [] ∧ Below w.heap.size w w') := bgrow_any t w (by omega)
      have HT := Lib.hid ht
      clear e0 ht
      go_wp2_with (go_at_call 42; (with_reducible refine HGr.out.mono ?_); rintro e w1 ⟨A1, c1, rfl, ho1, hb1⟩)
      have HO1 := Lib.hid ho1
      have HB1 := Lib.hid hb1
      clear ho1 hb1
      go_loopw [6, 27] (fun v i wr => ∃ k : Nat, k ≤ 2 ∧ i = .int .i64 (k : Int) ∧ ∃ (A : Option Addr) (q cc : Nat), v = .slice A q cc ∧ q ≤ 2000000 ∧ Hid (q = twoN13 a b k ∧ wr.ownsRow w.heap.size 5 1 (.slice A q cc) q (cells (twoB13 X Y k))) ∧ Hid (Below w.heap.size w wr)) (fun _ i _ => 2 - (intOf i).toNat)
      case atStart => exact ⟨0, by omega, rfl, A1, 0, c1, rfl, by omega, ⟨rfl, HO1.out⟩, HB1.out⟩
      case round =>
        obtain ⟨k, hk, rfl, A2, q, c2, rfl, hq, HO, HB⟩ := hrel
        by_cases hlt : k < 2
        · by_cases hk0 : k = 0
          · subst hk0
            obtain ⟨hq0, ho⟩ := HO.out
            obtain rfl : q = 0 := hq0
            have k0 := (HB.out.cell (p := ⟨g, 0, none⟩) HG.out).trans H0.out
            have hrd : Reads wr w.heap.size 1 A a (cells X) := by
              have h2 := HX.out.below HB.out
              unfold RB at h2
              rwa [← HL.out.1] at h2
            clear z0 z1
            go_wp2_with (at_builtin; refine wpList_append_any _ rfl (.tmp 31) (.tmp 32) 38 rfl w.heap.size 5 i0 _ 1 1 Try.underlying38 hi0 hz0 hz1 hz2 rfl (by omega) (.slice A2 0 c2) 0 _ rfl ho w.heap.size A a cA (cells X) rfl hrd (cells_one _) (by simp only [maxLen]; omega) (by omega) HB.out.size ?_; intro v3 w3 ho3 hg3 hat3; obtain ⟨A3, c3, rfl⟩ := own_slice7 ho3)
            have hb3 : Below w.heap.size w w3 := HB.out.grown hg3 HB.out.size (fun j hj => (ho.lt j hj).1)
            go_roundw
            case rel =>
              refine ⟨1, by omega, rfl, A3, a, c3, rfl, by omega, ⟨by simp [twoN13], ?_⟩, hb3⟩
              simpa [twoB13, cells] using ho3
            case measure => simp [intOf]
          · obtain rfl : k = 1 := by omega
            obtain ⟨hq0, ho⟩ := HO.out
            have hq1 : q = a := hq0
            have k0 := (HB.out.cell (p := ⟨g, 1, none⟩) HG.out).trans H1.out
            have hrd : Reads wr w.heap.size 1 B b (cells Y) := by
              have h2 := HY.out.below HB.out
              unfold RB at h2
              rwa [← HL.out.2] at h2
            have HQ := Lib.hid hq1
            clear z0 z1 hq0 hq1
            go_wp2_with (at_builtin; refine wpList_append_any _ rfl (.tmp 31) (.tmp 32) 38 rfl w.heap.size 5 i0 _ 1 1 Try.underlying38 hi0 hz0 hz1 hz2 rfl (by omega) (.slice A2 q c2) q _ rfl ho w.heap.size B b cB (cells Y) rfl hrd (cells_one _) (by simp only [maxLen]; omega) (by omega) HB.out.size ?_; intro v3 w3 ho3 hg3 hat3; obtain ⟨A3, c3, rfl⟩ := own_slice7 ho3)
            have hb3 : Below w.heap.size w w3 := HB.out.grown hg3 HB.out.size (fun j hj => (ho.lt j hj).1)
            go_roundw
            case rel =>
              refine ⟨2, by omega, rfl, A3, q + b, c3, rfl, by have := HQ.out; omega, ⟨by rw [HQ.out]; rfl, ?_⟩, hb3⟩
              have e1 : twoB13 X Y 2 = X ++ Y := rfl
              have e2 : twoB13 X Y 1 = X := rfl
              rw [e2] at ho3
              rw [e1, cells_append]
              exact ho3
            case measure => simp [intOf]
        · obtain rfl : k = 2 := by omega
          clear z0 z1
          go_wp2
          go_ret
          exact ⟨A2, c2, q, rfl, HO.out.1, HO.out.2, HB.out⟩
end
section
open Go.RowKit
open Wal
theorem wtail_any (L : List UInt8) (A : Option Addr) (n c : Nat) (w : World) (hn : n = L.length) (hr : RB w w.heap.size A L) (hc : n ≤ c) (hcm : c ≤ 9223372036854775807) (hl : n ≤ 1000000) :
    Calls Try.prog 28 #[.slice A n c] w fun e w' => ∃ A' m c', e = .returned (.slice A' m c') ∧ m = L.length % 256 ∧ w'.ownsRow w.heap.size 5 1 (.slice A' m c') m (cells (endL L)) ∧ Below w.heap.size w w' := by
  obtain ⟨r, hr'⟩ : ∃ r, r = n % 256 := ⟨_, rfl⟩
  obtain ⟨s, hs⟩ : ∃ s, s = n - r := ⟨_, rfl⟩
  have hrn : r ≤ n := by rw [hr']; exact Nat.mod_le _ _
  have y0 : (n : Int).tmod 256 = (r : Int) := by rw [Int.tmod_eq_emod_of_nonneg (by omega)]; omega
  have y1 : (n : Int) % 256 = (r : Int) := by omega
  have y2 : (n : Int) - (r : Int) = (s : Int) := by omega
  have y3 : IntKind.i64.wrap (s : Int) = (s : Int) := IntWalk.i64_in _ (by omega)
  have y4 : IntKind.i64.wrap (r : Int) = (r : Int) := IntWalk.i64_in _ (by omega)
  obtain ⟨A2, hA2⟩ : ∃ A2, A2 = (if c = s then A else A.map (fun a => a.add (s * 1))) := ⟨_, rfl⟩
  obtain ⟨c2, hc2⟩ : ∃ c2, c2 = c - s := ⟨_, rfl⟩
  have kf : ∀ W, (Instr.sliceAt 38 (.slice A n c) (some (.int .i64 (s : Int))) none none).run Try.prog W = .ok (.slice A2 r c2) W := fun W => by
    have h := bsl_from A n c s s rfl (by omega) hc W
    rw [h, hA2, hc2, show n - s = r by omega]
  have hd : endL L = L.drop s := by unfold endL; rw [hs, hr', hn]
  have hdl : (endL L).length = r := by rw [endL_length, ← hn, hr']
  have hcut := rb_cut13 hr (s := s) (c := c) (by omega) (by omega)
  rw [← hA2, ← hd] at hcut
  have HC := Lib.hid (sclone_any (endL L) A2 c2 _ w hcut (by omega))
  rw [hdl] at HC
  have HR : Hid (r = L.length % 256) := by show r = _; rw [hr', hn]
  have HD := Lib.hid hdl
  clear hn hr hc hcm hl hr' hs hA2 hc2 hd hdl hcut hrn
  go_enter Try.func28, Try.ntmps28
  go_wp2_with (first
    | (go_at_call 29; (with_reducible refine HC.out.mono ?_); rintro e w1 ⟨A1, c1, rfl, o1, b1⟩))
  go_ret
  exact ⟨A1, r, c1, by rw [HD.out]; rfl, HR.out, by have := o1; unfold Own at this; rw [HD.out] at this; exact this, b1⟩
theorem Try.secBuild3P (k e n : Int) (w : World) : Sem.run Try.prog (Instr.build 79 #[(0, .int .i64 k), (1, .int .i64 e), (2, .int .i64 n)]) w = .ok (.agg #[.int .i64 k, .int .i64 e, .int .i64 n, .int .i64 0, .slice none 0 0]) w := by kernel_rfl
theorem app_secP {w3 : World} {As : Option Addr} {u N : Nat} {ep : Int} {t : List UInt8} (hS : SL w3 w3.heap.size As ((List.range N).map (partW u ep t))) (hm : ∀ i, i < N → (partW u ep t i).may = true) (i : Nat) (hi : i < N) :
    ∃ b off, As = some ⟨b, off, none⟩ ∧ ∃ (k1 k2 k3 k4 : Int) (dA : Option Addr) (n dc : Nat), (∀ W, Below w3.heap.size w3 W → W.cell? ⟨b, off + i * 5, none⟩ = some (.int .i64 k1) ∧ W.cell? ⟨b, off + i * 5 + 1, none⟩ = some (.int .i64 k2) ∧ W.cell? ⟨b, off + i * 5 + 2, none⟩ = some (.int .i64 k3) ∧ W.cell? ⟨b, off + i * 5 + 3, none⟩ = some (.int .i64 k4) ∧ W.cell? ⟨b, off + i * 5 + 4, none⟩ = some (.slice dA n dc)) ∧
      Hid (∀ W, Below w3.heap.size w3 W → Calls Try.prog 44 #[.agg #[.int .i64 k1, .int .i64 k2, .int .i64 k3, .int .i64 k4, .slice dA n dc]] W fun e w' => ∃ A c, e = .returned (.tuple #[.slice A 64 c, .int .i64 0]) ∧ Hid (RB w' w'.heap.size A (partW u ep t i).bytes) ∧ Below W.heap.size W w') := by
  obtain ⟨b, off, e, hlt, hc⟩ := hS (by simp; omega)
  have hi' : i < ((List.range N).map (partW u ep t)).length := by simpa using hi
  have ei : ((List.range N).map (partW u ep t))[i] = partW u ep t i := by simp
  obtain ⟨dA, dc, h1, h2, h3, h4, h5, h6⟩ := hc i hi'
  rw [ei] at h1 h2 h3 h4 h5 h6
  refine ⟨b, off, e, (partW u ep t i).kind, (partW u ep t i).epoch, (partW u ep t i).number, (partW u ep t i).left, dA, (partW u ep t i).data.length, dc, fun W hb => ?_, fun W hb => ?_⟩
  · have k : ∀ j, W.cell? ⟨b, j, none⟩ = w3.cell? ⟨b, j, none⟩ := fun j => hb.cell (p := ⟨b, j, none⟩) hlt
    exact ⟨by rw [k]; exact h2, by rw [k]; exact h3, by rw [k]; exact h4, by rw [k]; exact h5, by rw [k]; exact h6⟩
  · have hp := sput_any (partW u ep t i) dA dc W ((h1.below hb).more hb.size) (by
      show ((t.drop (48 * i)).take 48).length ≤ 1000000
      rw [List.length_take]; omega)
    refine hp.mono fun e w' hh => ?_
    obtain ⟨A, c, he, ho, hb'⟩ := hh.1 (hm i hi)
    rw [part_bytes] at he
    exact ⟨A, c, he, own_rb ho, hb'⟩
theorem own_lessP13 {w : World} {base base' n size : Nat} {e : TypeId} {v : Value} {xs : List Value} (h : w.ownsRow base e size v n xs) (hb : base' ≤ base) : w.ownsRow base' e size v n xs :=
  ⟨h.1, h.2.imp id fun ⟨g, cap, cur, h1, h2, h3⟩ => ⟨g, cap, cur, h1, Nat.le_trans hb h2, h3⟩⟩
theorem wsectors_any {w : World} {lg g : Nat} {E : Nat → Prop} {l : Lg} {A : Option Addr} {c : Nat} (h : PLogA w lg g E l A c) (t : List UInt8) (n : Nat) (T : Option Addr) (cT : Nat) (hn : n = t.length) (hl : n ≤ 50000) (hr : RB w w.heap.size T t) (hc : n ≤ cT) (hcm : cT ≤ 9223372036854775807) (h0 : needN t.length ≠ 0) (hf : used l + needN t.length ≤ 1000) (he : 0 ≤ l.epoch ∧ l.epoch ≤ 2147483647) :
    Calls Try.prog 34 #[.pointer (some ⟨lg, 0, none⟩), .slice T n cT] w fun e w' => ∃ A' q c', e = .returned (.slice A' q c') ∧ q = 64 * needN t.length ∧ w'.ownsRow w.heap.size 5 1 (.slice A' q c') q (cells (recBytes (used l) l.epoch t)) ∧ Below w.heap.size w w' := by
  obtain ⟨u, hue⟩ : ∃ u, u = used l := ⟨_, rfl⟩
  obtain ⟨N, hNe⟩ : ∃ N, N = needN t.length := ⟨_, rfl⟩
  have r3 := h.r3
  have r5 := h.r5
  obtain ⟨ep, hep⟩ : ∃ ep, ep = l.epoch := ⟨_, rfl⟩
  rw [← hue, ← hNe] at hf
  rw [← hNe] at h0
  have HLt : Hid (lg < w.heap.size) := h.blk.lt
  rw [← hue] at r3 ⊢
  rw [← hep] at r5 he ⊢
  have HSp : Hid (∀ W, Below w.heap.size w W → Calls Try.prog 43 #[.agg #[.int .i64 2, .int .i64 ep, .int .i64 (u : Int), .int .i64 0, .slice none 0 0], .slice T n cT] W fun e w' => ∃ A c, e = .returned (.tuple #[.slice A N c, .int .i64 0]) ∧ Hid (SL w' w'.heap.size A ((List.range N).map (partW u ep t))) ∧ Below W.heap.size W w') := fun W hW => by
    have h3 := ssplit_any (base u ep) none 0 t T cT W (by omega) ((hr.below hW).more hW.size) (by omega) hcm (show -9223372036854775808 ≤ (u : Int) ∧ (u : Int) ≤ 9223372036854775807 by omega)
    rw [split_base he (by rw [← hNe]; omega) (by rw [← hNe]; exact h0), ← hNe, ← hn] at h3
    refine h3.mono ?_
    rintro e w' ⟨A, c, he, hs, hb⟩
    rw [List.length_map, List.length_range] at he
    exact ⟨A, c, he, hs, hb⟩
  have HMay : Hid (∀ i, i < N → (partW u ep t i).may = true) := fun i hi => part_mayK he (by rw [← hNe]; omega) (by rw [← hNe]; exact hi)
  have HFin : Hid (recBytes u ep t = recK u ep t N) := by show _ = _; rw [hNe]; rfl
  have HNe := Lib.hid hNe
  have HCell : Hid (∀ (w1 : World) (kd ep nu lf : Int) B (m d : Nat), (w1.alloc (.cells #[.int .i64 kd, .int .i64 ep, .int .i64 nu, .int .i64 lf, .slice B m d] 79)).cell? ⟨w1.heap.size, 0, none⟩ = some (.int .i64 kd) ∧ (w1.alloc (.cells #[.int .i64 kd, .int .i64 ep, .int .i64 nu, .int .i64 lf, .slice B m d] 79)).cell? ⟨w1.heap.size, 1, none⟩ = some (.int .i64 ep) ∧ (w1.alloc (.cells #[.int .i64 kd, .int .i64 ep, .int .i64 nu, .int .i64 lf, .slice B m d] 79)).cell? ⟨w1.heap.size, 2, none⟩ = some (.int .i64 nu) ∧ (w1.alloc (.cells #[.int .i64 kd, .int .i64 ep, .int .i64 nu, .int .i64 lf, .slice B m d] 79)).cell? ⟨w1.heap.size, 3, none⟩ = some (.int .i64 lf) ∧ (w1.alloc (.cells #[.int .i64 kd, .int .i64 ep, .int .i64 nu, .int .i64 lf, .slice B m d] 79)).cell? ⟨w1.heap.size, 4, none⟩ = some (.slice B m d)) := fun w1 kd ep nu lf B m d => by
    have h0 : Blk (w1.alloc (.cells #[.int .i64 kd, .int .i64 ep, .int .i64 nu, .int .i64 lf, .slice B m d] 79)) w1.heap.size 79 #[.int .i64 kd, .int .i64 ep, .int .i64 nu, .int .i64 lf, .slice B m d] := Blk.new w1 _ _
    exact ⟨by rw [h0.cell]; rfl, by rw [h0.cell]; rfl, by rw [h0.cell]; rfl, by rw [h0.cell]; rfl, by rw [h0.cell]; rfl⟩
  have a24 := fun w' => Try.aggSec w'
  have s24 := fun w' => Try.sizeSec w'
  have n3 := fun k e n w' => Try.secBuild3P k e n w'
  have hN1 : N ≤ 1000 := by omega
  rw [← hNe]
  clear h hn hr hc hcm hl hf hue hNe hep he h0
  go_enter Try.func34, Try.ntmps34
  go_wp2
  have s0 : w.drew.cell? ⟨lg, 3, none⟩ = some (.int .i64 (u : Int)) ∧ w.drew.cell? ⟨lg, 5, none⟩ = some (.int .i64 ep) := ⟨r3, r5⟩
  have bd : Below w.heap.size w w.drew := (Below.refl _ _).drew
  go_region_held3 (fun W => W.cell? ⟨lg, 3, none⟩ = some (.int .i64 (u : Int)) ∧ W.cell? ⟨lg, 5, none⟩ = some (.int .i64 ep))
    (first | exact s0 | exact s3)
    (first
      | (go_at_call 43; (with_reducible refine (HSp.out _ bd).mono ?_); rintro e w3 ⟨As, cs, rfl, hS, b3⟩; have b3w : Below w.heap.size w w3 := chain7 bd b3; have s3 : w3.cell? ⟨lg, 3, none⟩ = some (.int .i64 (u : Int)) ∧ w3.cell? ⟨lg, 5, none⟩ = some (.int .i64 ep) := ⟨(b3.cell (p := ⟨lg, 3, none⟩) HLt.out).trans s0.1, (b3.cell (p := ⟨lg, 5, none⟩) HLt.out).trans s0.2⟩))
  have HB3 := Lib.hid b3w
  clear s0 s3 b3 b3w bd
  go_wp2
  go_loopw [7, 28] (fun v x wr => ∃ (i q1 c1 : Nat) (A1 : Option Addr), i ≤ N ∧ q1 ≤ 64000 ∧ v = .slice A1 q1 c1 ∧ x = .int .i64 (i : Int) ∧ Hid (q1 = 64 * i) ∧ Hid (wr.ownsRow w3.heap.size 5 1 (.slice A1 q1 c1) q1 (cells (recK u ep t i)) ∧ Below w3.heap.size w3 wr)) (fun _ x _ => N - (intOf x).toNat)
  case atStart => exact ⟨0, 0, 0, none, by omega, by omega, rfl, rfl, rfl, World.ownsRow_nil _ _ _ _, Below.refl _ _⟩
  case round =>
    obtain ⟨i, q1, c1, A1, hi, hq1, rfl, rfl, HQ, HI⟩ := hrel
    by_cases hlt : i < N
    · obtain ⟨b, off, hAs, k1, k2, k3, k4, dA, nd, dc, hcs, HPu⟩ := app_secP hS.out HMay.out i hlt
      obtain ⟨v0, v1, v2, v3, v4⟩ := hcs wr HI.out.2
      obtain ⟨t0, t1, t2, t3, t4⟩ := HCell.out wr k1 k2 k3 k4 dA nd dc
      have HT := Lib.hid (recK_succ (at_ := u) (e := ep) (t := t) i)
      have HP64 := Lib.hid (part_bytes (at_ := u) (e := ep) (t := t) i)
      obtain ⟨PB, hPB⟩ : ∃ x, x = (partW u ep t i).bytes := ⟨_, rfl⟩
      rw [← hPB] at HPu HT HP64
      have d6 : decide ((i : Int) < (N : Int)) = true := decide_eq_true (by omega)
      have d7 : decide (i < N) = true := decide_eq_true hlt
      subst hAs
      have hbA := HI.out.2.alloc HI.out.2.size (.cells #[.int .i64 k1, .int .i64 k2, .int .i64 k3, .int .i64 k4, .slice dA nd dc] 79)
      have HPw := Lib.hid (HPu.out _ hbA)
      have HoA := Lib.hid (HI.out.1.alloc (.cells #[.int .i64 k1, .int .i64 k2, .int .i64 k3, .int .i64 k4, .slice dA nd dc] 79))
      have HbA := Lib.hid hbA
      clear hcs hPB HPu hbA
      have hq64 : q1 + 64 ≤ 64000 := by have := HQ.out; omega
      go_wp2_with (first
        | (go_at_call 44; (with_reducible refine HPw.out.mono ?_); rintro e w4 ⟨A4, c4, rfl, h4, b4⟩; have o4 := own_kept HoA.out b4; have bb4 := HbA.out.trans (b4.mono HbA.out.size))
        | (at_builtin; refine append_rb (B := w3.heap.size) (w0 := w3) (k := q1 + 64) rfl (.tmp 37) (.tmp 38) rfl rfl o4 bb4 (Nat.le_refl _) rfl h4.out HP64.out.symm (by omega) rfl ?_; intro A5 c5 w5 ho5 hb5))
      go_roundw
      case rel =>
        refine ⟨i + 1, q1 + 64, c5, A5, by omega, by omega, rfl, by go_num, by show _ = _; have := HQ.out; omega, ?_, hb5⟩
        rw [HT.out]
        exact ho5
      case measure => simp [intOf]; omega
    · obtain rfl : i = N := by omega
      have d6 : decide ((i : Int) < (i : Int)) = false := decide_eq_false (by omega)
      have d7 : decide (i < i) = false := decide_eq_false hlt
      go_wp2
      go_ret
      exact ⟨A1, q1, c1, rfl, HQ.out, by rw [HFin.out]; exact own_lessP13 HI.out.1 HB3.out.size, chain7 HB3.out HI.out.2⟩
end
end Go.Proofs.Ytghenhacndaelaa
