/- The walk of the program's field of a sector (layer 7): a number in the next bytes that a method value takes. -/
import Derived.Test.YtepeoggacmaenaaSectPMay
import Derived.Test.YtepeoggacmaenaaFoot
import Derived.Test.YtepeoggacmaenaaCurT
import Derived.Test.YtepeoggacmaenaaUnfix
import Derived.Test.YtepeoggacmaenaaBytesFns
set_option linter.unusedVariables false
set_option linter.unusedSimpArgs false
namespace Go.Proofs.Ytepeoggacmaenaa
open Go.RowKit

/-- Cells of which none is a byte. -/
def No8 (cs : Array Value) : Prop := ∀ (j : Nat) (z : Int), cs[j]? ≠ some (.int .u8 z)
theorem no8_sec (a b c d : Int) (A : Option Addr) (n k : Nat) : No8 #[.int .i64 a, .int .i64 b, .int .i64 c, .int .i64 d, .slice A n k] := by
  intro j z
  match j with
  | 0 => simp
  | 1 => simp
  | 2 => simp
  | 3 => simp
  | 4 => simp
  | j + 5 => simp
theorem no8_cur (A : Option Addr) (n c : Nat) (b : Bool) : No8 #[.slice A n c, .bool b] := fun j z => cur_cells A n c b j _ z
theorem rb_ne8 {w : World} {B g : Nat} {t : TypeId} {A : Option Addr} {L : List UInt8} {cs : Array Value} (h : RB w B A L) (hg : Blk w g t cs) (hcs : No8 cs) (hn : 0 < L.length) : ∀ ad, A = some ad → ad.block ≠ g := fun ad e => by
  obtain ⟨b, off, rfl, hb, hc⟩ := RB.at_ h hn
  injection e with e
  subst e
  rintro rfl
  have h0 := hc 0 hn
  rw [Nat.add_zero, (blk_cell hg off).1] at h0
  exact hcs _ _ h0
theorem rb_only8 {w w' : World} {g : Nat} {t : TypeId} {A : Option Addr} {L : List UInt8} {cs : Array Value} (h : RB w w.heap.size A L) (hg : Blk w g t cs) (hcs : No8 cs) (ho : Only w w' g) : RB w' w'.heap.size A L := by
  refine ⟨h.1, fun hn => ?_⟩
  obtain ⟨ad, e, hb, hc⟩ := h.2 hn
  have hne := rb_ne8 h hg hcs hn ad e
  refine ⟨ad, e, Nat.lt_of_lt_of_le hb ho.size, fun j u hu => ?_⟩
  rw [World.cell?_of_block (ho.block (ad.add j).block (by rw [block_of_add]; exact hb) (by rw [block_of_add]; simp; exact hne))]
  exact hc j u hu
theorem rb_set8 {w : World} {g i : Nat} {t : TypeId} {A : Option Addr} {L : List UInt8} {cs : Array Value} (h : RB w w.heap.size A L) (hg : Blk w g t cs) (hcs : No8 cs) (u : Value) : RB (w.setCell ⟨g, i, none⟩ u) (w.setCell ⟨g, i, none⟩ u).heap.size A L := rb_only8 h hg hcs (only_set _ _ _ _)
theorem cur_blk {w : World} {g : Nat} {st : Option (List UInt8)} (h : Cur w g st) : ∃ A n c b, Blk w g 66 #[.slice A n c, .bool b] := by
  rcases st with _ | L
  · exact ⟨_, _, _, _, h⟩
  · obtain ⟨A, c, h, _⟩ := h
    exact ⟨_, _, _, _, h⟩
theorem cur_only8 {w w' : World} {g k : Nat} {t : TypeId} {cs : Array Value} {st : Option (List UInt8)} (h : Cur w g st) (hk : Blk w k t cs) (hcs : No8 cs) (hne : g ≠ k) (ho : Only w w' k) : Cur w' g st := by
  rcases st with _ | L
  · exact Blk.only (t := 66) h ho hne
  · obtain ⟨A, c, hb, hr, hc, hl⟩ := h
    exact ⟨A, c, Blk.only (t := 66) hb ho hne, rb_only8 hr hk hcs ho, hc, hl⟩
theorem cur_set8 {w : World} {g k i : Nat} {t : TypeId} {cs : Array Value} {st : Option (List UInt8)} (h : Cur w g st) (hk : Blk w k t cs) (hcs : No8 cs) (hne : g ≠ k) (u : Value) : Cur (w.setCell ⟨k, i, none⟩ u) g st := cur_only8 h hk hcs hne (only_set _ _ _ _)
theorem cur_below {w w' : World} {g : Nat} {st : Option (List UInt8)} (h : Cur w g st) (hb : Below w.heap.size w w') : Cur w' g st := by
  rcases st with _ | L
  · exact Blk.below (t := 66) h hb (Blk.lt (t := 66) h)
  · obtain ⟨A, c, hk, hr, hc, hl⟩ := h
    exact ⟨A, c, Blk.below (t := 66) hk hb (Blk.lt (t := 66) hk), (hr.below hb).more hb.size, hc, hl⟩
theorem cur_alloc {w : World} {g : Nat} {st : Option (List UInt8)} (h : Cur w g st) (o : Obj) : Cur (w.alloc o) g st := cur_below h ((Below.refl _ _).alloc (Nat.le_refl _) o)
/-- The number that bytes say, or that they say none. -/
def fieldZ (L : List UInt8) : Int := if (unfixR L).2 = 0 then ((unfixR L).1 : Int) else -1
set_option maxRecDepth 100000 in
set_option maxHeartbeats 2000000 in
theorem field_any (g : Nat) (n : Int) (st : St) (w : World) (h : Cur w g st) :
    Calls Try.prog 43 #[.func (.func 32) #[.pointer (some ⟨g, 0, none⟩)] #[], .int .i64 n] w fun e w' => e = .returned (.int .i64 (fieldZ (stepTake n st).2)) ∧ Cur w' g (stepTake n st).1 ∧ Only w w' g := by
  have ht := take_any g n st w h
  have hle : (stepTake n st).2.length ≤ 1048576 := by
    rcases st with _ | L
    · simp [stepTake]
    · obtain ⟨_, _, _, _, _, hl⟩ := h
      simp only [stepTake]
      split
      · simp
      · simp only [List.length_take]; omega
  obtain ⟨r, hr⟩ : ∃ r, r = stepTake n st := ⟨_, rfl⟩
  rw [← hr] at ht hle ⊢
  clear hr h
  obtain ⟨st', L⟩ := r
  simp only at hle ⊢
  obtain ⟨q, hq⟩ : ∃ q, q = L.length := ⟨_, rfl⟩
  obtain ⟨u1, hu1⟩ : ∃ q, q = (unfixR L).1 := ⟨_, rfl⟩
  obtain ⟨u2, hu2⟩ : ∃ q, q = (unfixR L).2 := ⟨_, rfl⟩
  have HT : Hid (Calls Try.prog 32 #[.pointer (some ⟨g, 0, none⟩), .int .i64 n] w fun e w' => ∃ A c, e = .returned (.slice A q c) ∧ Hid (RB w' w'.heap.size A L ∧ Cur w' g st' ∧ Only w w' g)) := by
    refine ht.mono fun e w' hh => ?_
    obtain ⟨A, c, he, h2, h3, h4⟩ := hh
    rw [← hq] at he
    exact ⟨A, c, he, h2, h3, h4⟩
  have HU : Hid (∀ W (A : Option Addr) (c : Nat), RB W W.heap.size A L → Calls Try.prog 49 #[.slice A q c] W fun e w' => e = .returned (.tuple #[.int .i64 (u1 : Int), .int .i64 (u2 : Int)]) ∧ W = w') := fun W A c h => by
    rw [hq, hu1, hu2]
    exact unfix_any L A c _ W h hle
  have HV : Hid (fieldZ L = if u2 = 0 then (u1 : Int) else -1) := by show _ = _; unfold fieldZ; rw [hu1, hu2]
  clear ht hq hu1 hu2 hle
  by_cases h2 : u2 = 0
  · rw [if_pos h2] at HV
    rw [HV.out]
    subst h2
    go_enter Try.func43, Try.ntmps43
    go_wp2_with (first
      | (go_at_call 32; (with_reducible refine HT.out.mono ?_); rintro e w1 ⟨A, c, rfl, hh⟩; have hrb := hh.out.1)
      | (go_at_call 49; (with_reducible refine (HU.out _ _ _ hrb).mono ?_); rintro e w2 ⟨rfl, rfl⟩))
    go_ret
    exact ⟨rfl, hh.out.2.1, hh.out.2.2⟩
  · rw [if_neg h2] at HV
    rw [HV.out]
    have e0 : ((u2 : Int) != 0) = true := by simp; omega
    have e1 : ((u2 : Int) == 0) = false := by simp; omega
    go_enter Try.func43, Try.ntmps43
    go_wp2_with (first
      | (go_at_call 32; (with_reducible refine HT.out.mono ?_); rintro e w1 ⟨A, c, rfl, hh⟩; have hrb := hh.out.1)
      | (go_at_call 49; (with_reducible refine (HU.out _ _ _ hrb).mono ?_); rintro e w2 ⟨rfl, rfl⟩))
    go_ret
    exact ⟨rfl, hh.out.2.1, hh.out.2.2⟩
end Go.Proofs.Ytepeoggacmaenaa
