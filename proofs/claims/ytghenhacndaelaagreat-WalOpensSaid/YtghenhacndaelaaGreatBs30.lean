/- Lemmas under the proofs of this place: WalBo. No statement is proved here. -/
import Derived.Test.YtghenhacndaelaaGreatBs29
import Derived.Test.YtghenhacndaelaaGreatBu20
set_option linter.unusedVariables false
namespace Go.Proofs.YtghenhacndaelaaGreat
open Go.RowKit
open Wal
def ptr (g : Nat) : Value := .pointer (some ⟨g, 0, none⟩)
abbrev PL := Option (Lg × Nat)
abbrev RL := Option (Lg × Nat × Option Addr × Nat)
def plV : PL → Value
 | none => .pointer none
 | some x => ptr x.2
def rlV : RL → Value
 | none => .pointer none
 | some x => ptr x.2.1
structure Bo (w0 w : World) (gw g q : Nat) (F E G B : Nat → Prop) (d e : Dk) (lo : PL) (ro : RL) : Prop where
 two : Two [] w0 w g F d q G B e
 gw0 : w0.heap.size ≤ gw ∧ gw < w.heap.size
 gwo : ¬ F gw ∧ ¬ E gw ∧ ¬ G gw ∧ ¬ B gw
 ef : ∀ k, E k → ¬ F k ∧ ¬ G k ∧ ¬ B k ∧ w0.heap.size ≤ k ∧ k < w.heap.size
 pl : ∀ x, lo = some x → PLog w x.2 g E x.1
 rl : ∀ x, ro = some x → RLogA w x.2.1 q G B x.1 x.2.2.1 x.2.2.2 ∧ (¬ F x.2.1 ∧ ¬ E x.2.1 ∧ x.2.1 ≠ gw ∧ w0.heap.size ≤ x.2.1) ∧ ∀ ad, x.2.2.1 = some ad → ¬ F ad.block ∧ ¬ E ad.block ∧ ad.block ≠ gw
def worldC (g q : Nat) (lo : PL) (ro : RL) : Array Value := #[ptr g, plV lo, ptr q, rlV ro]
section
variable {w0 w w' : World} {gw g q : Nat} {F F' E E' G G' B B' : Nat → Prop} {d d' e e' : Dk} {lo : PL} {ro : RL} {l l' : Lg} {lg lr : Nat} {A : Option Addr} {c : Nat}
theorem Bo.more (h : Bo w0 w gw g q F E G B d e lo ro) (hb : Below w.heap.size w w') : Bo w0 w' gw g q F E G B d e lo ro :=
  ⟨h.two.more hb, ⟨h.gw0.1, Nat.lt_of_lt_of_le h.gw0.2 hb.size⟩, h.gwo, fun k hk => ⟨(h.ef k hk).1, (h.ef k hk).2.1, (h.ef k hk).2.2.1, (h.ef k hk).2.2.2.1, Nat.lt_of_lt_of_le (h.ef k hk).2.2.2.2 hb.size⟩,
   fun x hx => (h.pl x hx).turns (Turns.of_below hb (fun _ => False)) (fun _ _ h => h), fun x hx => ⟨(h.rl x hx).1.turns (Turns.of_below hb G) (fun _ h => .inl h), (h.rl x hx).2⟩⟩
theorem Bo.prog (h : Bo w0 w gw g q F E G B d e (some (l, lg)) ro) (hp : PDisk w' g F' d') (hL : PLog w' lg g E' l') (hd : ∀ k, E' k → ¬ F' k) (ht : Turns w w' (fun k => F k ∨ E k) (fun k => F' k ∨ E' k)) : Bo w0 w' gw g q F' E' G B d' e (some (l', lg)) ro := by
 have hz := ht.size
 have hb0 := h.two.p.below.size
 have o1 : ∀ k, F' k ∨ E' k → (F k ∨ E k) ∨ w.heap.size ≤ k := ht.foot
 have hown : ∀ k, F' k ∨ E' k → w0.heap.size ≤ k := fun k hk => by
  rcases o1 k hk with (h1 | h1) | h1
  ·exact h.two.p.own k h1
  ·exact (h.ef k h1).2.2.2.1
  ·exact Nat.le_trans hb0 h1
 have hng : ∀ k, F' k ∨ E' k → ¬ G k := fun k hk hg => by
  rcases o1 k hk with (h1 | h1) | h1
  ·exact h.two.fg k h1 hg
  ·exact (h.ef k h1).2.1 hg
  ·have := h.two.r.glt k hg; omega
 have hnb : ∀ k, F' k ∨ E' k → ¬ B k := fun k hk hb => by
  rcases o1 k hk with (h1 | h1) | h1
  ·exact h.two.fb k h1 hb
  ·exact (h.ef k h1).2.2.1 hb
  ·have := h.two.r.blt k hb; omega
 have hno : ∀ b, b < w.heap.size → ¬ F b → ¬ E b → ¬ F' b ∧ ¬ E' b := fun b hb h1 h2 => ⟨fun h3 => by
  rcases o1 b (.inl h3) with (h4 | h4) | h4
  ·exact h1 h4
  ·exact h2 h4
  ·omega, fun h3 => by
  rcases o1 b (.inr h3) with (h4 | h4) | h4
  ·exact h1 h4
  ·exact h2 h4
  ·omega⟩
 have hbelow : Below w0.heap.size w0 w' := h.two.p.below.trans (ht.below (fun k hk => by
  rcases hk with h1 | h1
  ·exact h.two.p.own k h1
  ·exact (h.ef k h1).2.2.2.1) hb0)
 refine ⟨⟨⟨hp, hbelow, fun k hk => hown k (.inl hk)⟩, h.two.r.turns ht (fun k hk hf => ?_) (fun k hk hf => ?_), h.two.go, fun k hk => hng k (.inl hk), fun k hk => hnb k (.inl hk), fun x hx => nomatch hx⟩, ⟨h.gw0.1, Nat.lt_of_lt_of_le h.gw0.2 hz⟩, ?_, fun k hk => ⟨hd k hk, hng k (.inr hk), hnb k (.inr hk), hown k (.inr hk), hL.elt k hk⟩, fun x hx => ?_, fun x hx => ?_⟩
 ·rcases hf with h1 | h1
  ·exact h.two.fg k h1 hk
  ·exact (h.ef k h1).2.1 hk
 ·rcases hf with h1 | h1
  ·exact h.two.fb k h1 hk
  ·exact (h.ef k h1).2.2.1 hk
 ·have := hno gw h.gw0.2 h.gwo.1 h.gwo.2.1
  exact ⟨this.1, this.2, h.gwo.2.2.1, h.gwo.2.2.2⟩
 ·obtain rfl := Option.some.inj hx
  exact hL
 ·obtain ⟨h1, ⟨h2, h3, h4, h5⟩, h6⟩ := h.rl x hx
  have h7 := hno _ h1.blk.lt h2 h3
  have hnot : ∀ b, ¬ F b → ¬ E b → ¬ (F b ∨ E b) := fun b ha hb hc => by
   rcases hc with hc | hc
   ·exact ha hc
   ·exact hb hc
  refine ⟨h1.past ht (hnot _ h2 h3) (fun ad e => hnot _ (h6 ad e).1 (h6 ad e).2.1), ⟨h7.1, h7.2, h4, h5⟩, fun ad e => ?_⟩
  have h8 := hno ad.block (h1.kept.2 ad e).2 (h6 ad e).1 (h6 ad e).2.1
  exact ⟨h8.1, h8.2, (h6 ad e).2.2⟩
theorem Bo.progD (h : Bo w0 w gw g q F E G B d e lo ro) (hp : Deeds d' F w w' g) : Bo w0 w' gw g q F E G B d' e lo ro := by
 obtain ⟨hp, ht⟩ := hp
 have hz := ht.size
 refine ⟨h.two.deeds ⟨hp, ht⟩, ⟨h.gw0.1, Nat.lt_of_lt_of_le h.gw0.2 hz⟩, h.gwo, fun k hk => ⟨(h.ef k hk).1, (h.ef k hk).2.1, (h.ef k hk).2.2.1, (h.ef k hk).2.2.2.1, Nat.lt_of_lt_of_le (h.ef k hk).2.2.2.2 hz⟩, fun x hx => (h.pl x hx).turns ht (fun k hk => (h.ef k hk).1), fun x hx => ?_⟩
 obtain ⟨h1, ⟨h2, h3, h4, h5⟩, h6⟩ := h.rl x hx
 exact ⟨h1.past ht h2 (fun ad e => (h6 ad e).1), ⟨h2, h3, h4, h5⟩, h6⟩
theorem Bo.refL' {A' : Option Addr} {c' : Nat} (h : Bo w0 w gw g q F E G B d e lo (some (l, lr, A, c))) (hr : RDisk w' q G' B' e') (hl : RLogA w' lr q G' B' l' A' c') (hA : ∀ ad, A' = some ad → A = some ad ∨ w.heap.size ≤ ad.block) (ht : Turns w w' (fun k => G k ∨ k = lr) (fun k => G' k ∨ k = lr)) (hb : ∀ k, B' k → B k ∨ w.heap.size ≤ k) : Bo w0 w' gw g q F E G' B' d e' lo (some (l', lr, A', c')) := by
 obtain ⟨h1, ⟨h2, h3, h4, h5⟩, h6⟩ := h.rl _ rfl
 have hz := ht.size
 have hb0 := h.two.p.below.size
 have hnG : ∀ b, b < w.heap.size → ¬ G b → b ≠ lr → ¬ G' b := fun b hb' hg hne hg' => by
  rcases ht.foot b (.inl hg') with (h7 | h7) | h7
  ·exact hg h7
  ·exact hne h7
  ·omega
 have hnB : ∀ b, b < w.heap.size → ¬ B b → ¬ B' b := fun b hb' hg hg' => by
  rcases hb b hg' with h7 | h7
  ·exact hg h7
  ·omega
 have hFl : ∀ k, F k → k < w.heap.size := h.two.p.flt
 have hFn : ∀ k, F k → ¬ (G k ∨ k = lr) := fun k hk hg => by
  rcases hg with h7 | h7
  ·exact h.two.fg k hk h7
  ·exact h2 (h7 ▸ hk)
 have hEn : ∀ k, E k → ¬ (G k ∨ k = lr) := fun k hk hg => by
  rcases hg with h7 | h7
  ·exact (h.ef k hk).2.1 h7
  ·exact h3 (h7 ▸ hk)
 refine ⟨⟨⟨h.two.p.disk.turns ht hFn, h.two.p.below.trans (ht.below (fun k hk => ?_) hb0), h.two.p.own⟩, hr, fun k hk => ?_, fun k hk => hnG k (hFl k hk) (h.two.fg k hk) (fun e => h2 (e ▸ hk)), fun k hk => hnB k (hFl k hk) (h.two.fb k hk), fun x hx => nomatch hx⟩, ⟨h.gw0.1, Nat.lt_of_lt_of_le h.gw0.2 hz⟩,
  ⟨h.gwo.1, h.gwo.2.1, hnG gw h.gw0.2 h.gwo.2.2.1 (fun e => h4 e.symm), hnB gw h.gw0.2 h.gwo.2.2.2⟩, fun k hk => ⟨(h.ef k hk).1, hnG k (h.ef k hk).2.2.2.2 (h.ef k hk).2.1 (fun e => h3 (e ▸ hk)), hnB k (h.ef k hk).2.2.2.2 (h.ef k hk).2.2.1, (h.ef k hk).2.2.2.1, Nat.lt_of_lt_of_le (h.ef k hk).2.2.2.2 hz⟩,
  fun x hx => (h.pl x hx).turns ht hEn, fun x hx => ?_⟩
 ·rcases hk with h7 | h7
  ·exact h.two.go k h7
  ·rw [h7]; exact h5
 ·rcases ht.foot k (.inl hk) with (h7 | h7) | h7
  ·exact h.two.go k h7
  ·rw [h7]; exact h5
  ·omega
 ·injection hx with hx
  rw [← hx]
  refine ⟨hl, ⟨h2, h3, h4, h5⟩, fun ad e => ?_⟩
  rcases hA ad e with h7 | h7
  ·exact h6 ad h7
  ·exact ⟨fun hf => by have := hFl _ hf; omega, fun hf => by have := (h.ef _ hf).2.2.2.2; omega, fun hg => by have := h.gw0.2; omega⟩
theorem Bo.refD' (h : Bo w0 w gw g q F E G B d e lo ro) (hr : RDisk w' q G' B' e') (ht : Turns w w' G G') (hb : ∀ k, B' k → B k ∨ w.heap.size ≤ k) : Bo w0 w' gw g q F E G' B' d e' lo ro := by
 have hz := ht.size
 have hb0 := h.two.p.below.size
 have hnG : ∀ b, b < w.heap.size → ¬ G b → ¬ G' b := fun b hb' hg hg' => by
  rcases ht.foot b hg' with h7 | h7
  ·exact hg h7
  ·omega
 have hnB : ∀ b, b < w.heap.size → ¬ B b → ¬ B' b := fun b hb' hg hg' => by
  rcases hb b hg' with h7 | h7
  ·exact hg h7
  ·omega
 have hFl : ∀ k, F k → k < w.heap.size := h.two.p.flt
 refine ⟨⟨⟨h.two.p.disk.turns ht h.two.fg, h.two.p.below.trans (ht.below h.two.go hb0), h.two.p.own⟩, hr, fun k hk => ?_, fun k hk => hnG k (hFl k hk) (h.two.fg k hk), fun k hk => hnB k (hFl k hk) (h.two.fb k hk), fun x hx => nomatch hx⟩, ⟨h.gw0.1, Nat.lt_of_lt_of_le h.gw0.2 hz⟩,
  ⟨h.gwo.1, h.gwo.2.1, hnG gw h.gw0.2 h.gwo.2.2.1, hnB gw h.gw0.2 h.gwo.2.2.2⟩, fun k hk => ⟨(h.ef k hk).1, hnG k (h.ef k hk).2.2.2.2 (h.ef k hk).2.1, hnB k (h.ef k hk).2.2.2.2 (h.ef k hk).2.2.1, (h.ef k hk).2.2.2.1, Nat.lt_of_lt_of_le (h.ef k hk).2.2.2.2 hz⟩,
  fun x hx => (h.pl x hx).turns ht (fun k hk => (h.ef k hk).2.1), fun x hx => ?_⟩
 ·rcases ht.foot k hk with h7 | h7
  ·exact h.two.go k h7
  ·omega
 ·obtain ⟨h1, h2, h3⟩ := h.rl x hx
  exact ⟨h1.turns ht hb, h2, h3⟩
theorem Bo.refD (h : Bo w0 w gw g q F E G B d e lo ro) (hd : RDeeds e' G B w w' q) : ∃ G' B', Bo w0 w' gw g q F E G' B' d e' lo ro := by
 obtain ⟨G', B', hr, ht, hb⟩ := hd
 exact ⟨G', B', h.refD' hr ht hb⟩
theorem Bo.refS (h : Bo w0 w gw g q F E G B d e lo ro) (hr : RDisk w' q G B e') (ht : Turns w w' G G) : Bo w0 w' gw g q F E G B d e' lo ro := by
 have hz := ht.size
 refine ⟨⟨⟨h.two.p.disk.turns ht h.two.fg, h.two.p.below.trans (ht.below h.two.go h.two.p.below.size), h.two.p.own⟩, hr, h.two.go, h.two.fg, h.two.fb, fun x hx => nomatch hx⟩, ⟨h.gw0.1, Nat.lt_of_lt_of_le h.gw0.2 hz⟩, h.gwo, fun k hk => ⟨(h.ef k hk).1, (h.ef k hk).2.1, (h.ef k hk).2.2.1, (h.ef k hk).2.2.2.1, Nat.lt_of_lt_of_le (h.ef k hk).2.2.2.2 hz⟩, fun x hx => (h.pl x hx).turns ht (fun k hk => (h.ef k hk).2.1), fun x hx => ?_⟩
 obtain ⟨h1, h2, h3⟩ := h.rl x hx
 exact ⟨h1.turns ht (fun _ h => .inl h), h2, h3⟩
theorem Bo.set_ (h : Bo w0 w gw g q F E G B d e lo ro) (i : Nat) (u : Value) : Bo w0 (w.setCell ⟨gw, i, none⟩ u) gw g q F E G B d e lo ro := by
 have ht : Turns w (w.setCell ⟨gw, i, none⟩ u) (fun k => k = gw) (fun k => k = gw) := Turns.set_ (F := fun k => k = gw) rfl i u
 have hz : w.heap.size ≤ (w.setCell ⟨gw, i, none⟩ u).heap.size := ht.size
 have n : ∀ {P : Nat → Prop}, ¬ P gw → ∀ k, P k → ¬ k = gw := fun hn k hk e => hn (e ▸ hk)
 refine ⟨⟨⟨h.two.p.disk.turns ht (n h.gwo.1), h.two.p.below.trans (ht.below (fun k hk => by rw [show k = gw from hk]; exact h.gw0.1) h.two.p.below.size), h.two.p.own⟩, h.two.r.turns ht (n h.gwo.2.2.1) (n h.gwo.2.2.2), h.two.go, h.two.fg, h.two.fb, fun x hx => nomatch hx⟩, ⟨h.gw0.1, Nat.lt_of_lt_of_le h.gw0.2 hz⟩, h.gwo, fun k hk => ⟨(h.ef k hk).1, (h.ef k hk).2.1, (h.ef k hk).2.2.1, (h.ef k hk).2.2.2.1, Nat.lt_of_lt_of_le (h.ef k hk).2.2.2.2 hz⟩, fun x hx => (h.pl x hx).turns ht (n h.gwo.2.1), fun x hx => ?_⟩
 obtain ⟨h1, ⟨h2, h3, h4, h5⟩, h6⟩ := h.rl x hx
 exact ⟨h1.past ht h4 (fun ad e => (h6 ad e).2.2), ⟨h2, h3, h4, h5⟩, h6⟩
theorem Bo.fresh {z z1 : Nat} {l : Lg} (h : Bo w0 w gw g q F E G B d e lo ro) (hz : ∀ k, (F k ∨ G k ∨ B k ∨ k = gw) → k < z) (h0 : w0.heap.size ≤ z) (hE : ∀ k, E' k → z ≤ k ∧ k < z1) (hzz : z ≤ z1) (hz1 : z1 ≤ w.heap.size) (hP : PLog w lg g E' l) (hR : RLogA w lr q G B l A c) (hlr : z1 ≤ lr) (hA : ∀ ad, A = some ad → z1 ≤ ad.block) : Bo w0 w gw g q F E' G B d e (some (l, lg)) (some (l, lr, A, c)) := by
 have hn : ∀ {P : Nat → Prop}, (∀ k, P k → k < z) → ∀ b, z ≤ b → ¬ P b := fun hp b hb hk => by have := hp b hk; omega
 have hF := hn (P := F) fun k hk => hz k (.inl hk)
 have hG := hn (P := G) fun k hk => hz k (.inr (.inl hk))
 have hB := hn (P := B) fun k hk => hz k (.inr (.inr (.inl hk)))
 have hg := hz gw (.inr (.inr (.inr rfl)))
 refine ⟨h.two, h.gw0, ⟨h.gwo.1, fun hk => by have := (hE _ hk).1; omega, h.gwo.2.2.1, h.gwo.2.2.2⟩, fun k hk => ⟨hF k (hE k hk).1, hG k (hE k hk).1, hB k (hE k hk).1, by have := (hE k hk).1; omega, by have := (hE k hk).2; omega⟩, fun x hx => ?_, fun x hx => ?_⟩
 ·obtain rfl := Option.some.inj hx
  exact hP
 ·obtain rfl := Option.some.inj hx
  refine ⟨hR, ⟨hF _ (by show z ≤ lr; omega), fun hk => by have h9 : lr < z1 := (hE _ hk).2; omega, by show lr ≠ gw; omega, by show _ ≤ lr; omega⟩, fun ad e => ?_⟩
  have := hA ad e
  exact ⟨hF _ (by omega), fun hk => by have := (hE _ hk).2; omega, by omega⟩
theorem Bo.nothing (h : Bo w0 w gw g q F E G B d e lo ro) : Bo w0 w gw g q F (fun _ => False) G B d e none none :=
 ⟨h.two, h.gw0, ⟨h.gwo.1, fun h => h, h.gwo.2.2.1, h.gwo.2.2.2⟩, fun k hk => hk.elim, (fun x hx => nomatch hx), (fun x hx => nomatch hx)⟩
end
def LW (w0 w : World) (gw g q : Nat) (d : Dk) (l : Option Lg) : Prop := ∃ F E G B lo ro, Bo w0 w gw g q F E G B d d lo ro ∧ Blk w gw 36 (worldC g q lo ro) ∧ lo.map (·.1) = l ∧ ro.map (·.1) = l ∧ ∀ x, l = some x → x.fit d.safe.length
end Go.Proofs.YtghenhacndaelaaGreat
