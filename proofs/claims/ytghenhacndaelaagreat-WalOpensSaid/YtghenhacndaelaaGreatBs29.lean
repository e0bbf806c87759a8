/- Lemmas under the proofs of this place: WalHas. No statement is proved here. -/
import Derived.Test.YtghenhacndaelaaGreatBs28
import Derived.Test.YtghenhacndaelaaGreatBs23
import Derived.Test.YtghenhacndaelaaGreatBs26
set_option linter.unusedVariables false
namespace Go.Proofs.YtghenhacndaelaaGreat
open Go.RowKit
open Wal
section
variable {w0 w w' : World} {g lg : Nat} {F F' E E' : Nat → Prop} {d d' : Dk} {l l' : Lg} {A : Option Addr} {S : List (List UInt8)}
theorem turns_left (h : Turns w w' F F') (hE : ∀ k, E k → k < w.heap.size) : Turns w w' (fun k => F k ∨ E k) (fun k => F' k ∨ E k) := h.wide (fun k hk => .inl hk) (fun k hk => by
 rcases hk with h2 | h2
 ·exact .inr (.inl h2)
 ·exact .inl (.inr h2))
theorem turns_right (h : Turns w w' E E') (hF : ∀ k, F k → k < w.heap.size) : Turns w w' (fun k => F k ∨ E k) (fun k => F k ∨ E' k) := h.wide (fun k hk => .inr hk) (fun k hk => by
 rcases hk with h2 | h2
 ·exact .inl (.inl h2)
 ·exact .inr (.inl h2))
theorem BL.keep {X X' : Nat → Prop} (h : BL w (fun k => ¬ X k) A S) (ht : Turns w w' X X') : BL w' (fun k => ¬ X' k) A S := fun h0 => by
 have hn : ∀ k, k < w.heap.size → ¬ X k → ¬ X' k := fun k hk hx hx' => by
  rcases ht.foot k hx' with h1 | h1
  ·exact hx h1
  ·omega
 obtain ⟨b, off, e, hlt, hp, hc⟩ := h h0
 refine ⟨b, off, e, Nat.lt_of_lt_of_le hlt ht.size, hn b hlt hp, fun i hi => ?_⟩
 obtain ⟨dA, dc, h1, h2, h3⟩ := hc i hi
 exact ⟨dA, dc, (Reads.turns h1 (Nat.le_refl _) ht fun ad e => (h2 ad e).1).more ht.size, fun ad e => ⟨hn _ (h2 ad e).2 (h2 ad e).1, Nat.lt_of_lt_of_le (h2 ad e).2 ht.size⟩, (ht.cell (p := ⟨b, off + i, none⟩) hlt hp).trans h3⟩
structure Aw (w0 w : World) (g lg : Nat) (F E : Nat → Prop) (d : Dk) (l : Lg) : Prop where
 has : Has w0 w g F d
 log : PLog w lg g E l
 ef : ∀ k, E k → ¬ F k ∧ w0.heap.size ≤ k
theorem Aw.all (h : Aw w0 w g lg F E d l) : ∀ k, F k ∨ E k → w0.heap.size ≤ k := fun k hk => by
 rcases hk with h1 | h1
 ·exact h.has.own k h1
 ·exact (h.ef k h1).2
theorem Aw.lt (h : Aw w0 w g lg F E d l) : ∀ k, F k ∨ E k → k < w.heap.size := fun k hk => by
 rcases hk with h1 | h1
 ·exact h.has.flt k h1
 ·exact h.log.elt k h1
theorem Aw.next (h : Aw w0 w g lg F E d l) (hd : PDeedsL d' l' F E w w' g lg) : ∃ F' E', Aw w0 w' g lg F' E' d' l' ∧ Turns w w' (fun k => F k ∨ E k) (fun k => F' k ∨ E' k) := by
 obtain ⟨F', E', hp, hL, hn, ht⟩ := hd
 have ho : ∀ k, F' k ∨ E' k → w0.heap.size ≤ k := fun k hk => by
  rcases ht.foot k hk with h1 | h1
  ·exact h.all k h1
  ·exact Nat.le_trans h.has.below.size h1
 exact ⟨F', E', ⟨⟨hp, h.has.below.trans (ht.below h.all h.has.below.size), fun k hk => ho k (.inl hk)⟩, hL, fun k hk => ⟨hn k hk, ho k (.inr hk)⟩⟩, ht⟩
theorem Aw.disk (h : Aw w0 w g lg F E d l) (hd : Deeds d' F w w' g) : Aw w0 w' g lg F E d' l ∧ Turns w w' (fun k => F k ∨ E k) (fun k => F k ∨ E k) :=
 ⟨⟨h.has.deeds hd, h.log.turns hd.2 (fun k hk => (h.ef k hk).1), h.ef⟩, turns_left hd.2 h.log.elt⟩
theorem Aw.logs (h : Aw w0 w g lg F E d l) (hL : PLog w' lg g E' l') (ht : Turns w w' E E') : Aw w0 w' g lg F E' d l' ∧ Turns w w' (fun k => F k ∨ E k) (fun k => F k ∨ E' k) := by
 refine ⟨⟨⟨h.has.disk.turns ht (fun k hk he => (h.ef k he).1 hk), h.has.below.trans (ht.below (fun k hk => (h.ef k hk).2) h.has.below.size), h.has.own⟩, hL, fun k hk => ?_⟩, turns_right ht h.has.flt⟩
 rcases ht.foot k hk with h1 | h1
 ·exact h.ef k h1
 ·exact ⟨fun hf => by have := h.has.flt k hf; omega, Nat.le_trans h.has.below.size h1⟩
theorem Aw.up (h : Aw w0 w g lg F E d l) (hb : Below w.heap.size w w') : Aw w0 w' g lg F E d l := ⟨h.has.more hb, h.log.turns (Turns.of_below hb (fun _ => False)) (fun _ _ h => h), h.ef⟩
def AwS (w0 w : World) (g lg : Nat) (d : Dk) (l : Lg) (A : Option Addr) (S : List (List UInt8)) : Prop := ∃ F E, Aw w0 w g lg F E d l ∧ BL w (fun k => ¬ (F k ∨ E k)) A S
theorem AwS.up (h : AwS w0 w g lg d l A S) (hb : Below w.heap.size w w') : AwS w0 w' g lg d l A S := by
 obtain ⟨F, E, h1, h2⟩ := h
 exact ⟨F, E, h1.up hb, h2.up hb⟩
theorem AwS.below (h : AwS w0 w g lg d l A S) : Below w0.heap.size w0 w := by
 obtain ⟨F, E, h1, h2⟩ := h
 exact h1.has.below
theorem aw_opened {r : Dk × Option Lg × List (List UInt8) × Int} {e : Ending} (h : Has w0 w g F d) (hp : POpenPost r g F w e w') (ho : r = (d', some l, S, 0)) :
  ∃ (lg : Nat) (A : Option Addr) (c : Nat), e = .returned (.tuple #[.pointer (some ⟨lg, 0, none⟩), .slice A S.length c, .int .i64 0]) ∧ Hid (AwS w0 w' g lg d' l A S) ∧ Hid (CapN A S.length c) := by
 subst ho
 obtain ⟨hd, lg, E, A, c, h1, h2, h3, h5, h4⟩ := hp
 refine ⟨lg, A, c, h4, ⟨F, E, ⟨h.deeds hd, h1, fun k hk => ⟨fun hf => by have := h.flt k hf; have := h2 k hk; omega, Nat.le_trans h.below.size (h2 k hk)⟩⟩, h3.wide fun k hk hx => ?_⟩, h5⟩
 rcases hx with hx | hx
 ·have := h.flt k hx; omega
 ·exact hk.2 hx
theorem aw_append {W : World} (h : AwS w0 w g lg d l A S) (hb : Below w.heap.size w W) (t : List UInt8) (n : Nat) (T : Option Addr) (cT : Nat) (hn : n = t.length) (hl : n ≤ 50000) (hr : RB W W.heap.size T t) (hT : ∀ ad, T = some ad → w.heap.size ≤ ad.block) (hc : n ≤ cT) (hcm : cT ≤ 9223372036854775807) (hld : d.load ≤ 80000) (hf : l.fit 16) (hs : d.safe.length = 16) {code : Int} (he : appendW d l t = (d', l', code)) :
  Calls Tryz.prog 16 #[.pointer (some ⟨lg, 0, none⟩), .slice T n cT] W fun e w' => e = .returned (.int .i64 code) ∧ Hid (AwS w0 w' g lg d' l' A S) := by
 obtain ⟨F, E, h1, h2⟩ := h
 have k1 := h1.up hb
 have k2 := h2.up hb
 have hlt := h1.lt
 refine (wappend_any k1.has.disk k1.log (fun k hk => (k1.ef k hk).1) t n T cT hn hl hr (fun _ ad e => ⟨fun hx => by have := hlt _ (.inl hx); have := hT ad e; omega, fun hx => by have := hlt _ (.inr hx); have := hT ad e; omega⟩) hc hcm hld hf (by omega) hs).mono fun e w' hh => ?_
 rw [he] at hh
 obtain ⟨F', E', h3, h4⟩ := k1.next hh.2
 exact ⟨hh.1, F', E', h3, k2.keep h4⟩
end
end Go.Proofs.YtghenhacndaelaaGreat
