/- Lemmas under the proofs of this place: WalPMem, WalRMem, DiskTwoM, SectRSplit, DiskRWrite. No statement is proved here. -/
import Derived.Test.YtghenhacndaelaaGreatBu10
import Derived.Test.YtghenhacndaelaaGreatBu16
import Derived.Test.YtghenhacndaelaaGreatBu19
import Derived.Test.YtghenhacndaelaaGreatBu12
import Derived.Test.YtghenhacndaelaaGreatBu11
import Derived.Test.YtghenhacndaelaaGreatBu07
import Derived.Test.YtghenhacndaelaaGreatBu15
import Derived.Test.YtghenhacndaelaaGreatBu03
import Derived.BigFrame
set_option linter.unusedVariables false
set_option maxRecDepth 100000
set_option maxHeartbeats 16000000
namespace Go.Proofs.YtghenhacndaelaaGreat
section
open Go.RowKit
open Wal
def endL (b : List UInt8) : List UInt8 := b.drop (b.length - b.length % 256)
theorem endL_length (b : List UInt8) : (endL b).length = b.length % 256 := by
  unfold endL
  rw [List.length_drop]
  have := Nat.mod_le b.length 256
  omega
theorem endL_more (b r : List UInt8) : endL (b ++ r) = endL (endL b ++ r) := by
  have h1 := endL_length b
  have hm := Nat.mod_le b.length 256
  have h2 : (endL b ++ r).length = b.length % 256 + r.length := by rw [List.length_append, h1]
  have h3 : (b ++ r).length % 256 = (endL b ++ r).length % 256 := by rw [h2, List.length_append]; omega
  have h4 : b ++ r = b.take (b.length - b.length % 256) ++ (endL b ++ r) := by
    unfold endL
    rw [← List.append_assoc, List.take_append_drop]
  have h5 : (b.take (b.length - b.length % 256)).length = b.length - b.length % 256 := by rw [List.length_take]; omega
  have h6 := Nat.mod_le (b.length % 256 + r.length) 256
  show (b ++ r).drop ((b ++ r).length - (b ++ r).length % 256) = (endL b ++ r).drop ((endL b ++ r).length - (endL b ++ r).length % 256)
  rw [h3, h2]
  have h7 : (b ++ r).length - (b.length % 256 + r.length) % 256 = (b.take (b.length - b.length % 256)).length + ((b.length % 256 + r.length) - (b.length % 256 + r.length) % 256) := by
    rw [h5, List.length_append]; omega
  rw [h7]
  conv => lhs; rw [h4]
  rw [← List.drop_drop, List.drop_left]
def plogC (g : Nat) (A : Option Addr) (c : Nat) (l : Lg) : Array Value := #[.pointer (some ⟨g, 0, none⟩), .int .i64 (l.frm : Int), .int .i64 (l.n : Int), .int .i64 ((used l : Nat) : Int), .slice A (l.b.length % 256) c, .int .i64 l.epoch, .bool l.gone]
structure PLogA (w : World) (lg g : Nat) (E : Nat → Prop) (l : Lg) (A : Option Addr) (c : Nat) : Prop where
  blk : Blk w lg 84 (plogC g A c l)
  el : E lg
  ea : ∀ ad, A = some ad → E ad.block
  lt : ∀ k, E k → k < w.heap.size
  tail : RB w w.heap.size A (endL l.b)
  ne : ∀ ad, A = some ad → ad.block ≠ lg
  cap : l.b.length % 256 ≤ c ∧ c ≤ 9223372036854775807
def PLog (w : World) (lg g : Nat) (E : Nat → Prop) (l : Lg) : Prop := ∃ A c, PLogA w lg g E l A c
section
variable {w w' : World} {lg g : Nat} {E E' X X' : Nat → Prop} {l : Lg} {A : Option Addr} {c : Nat}
theorem PLogA.turns (h : PLogA w lg g E l A c) (ht : Turns w w' X X') (hn : ∀ k, E k → ¬ X k) : PLogA w' lg g E l A c :=
  ⟨h.blk.turns ht (hn lg h.el), h.el, h.ea, fun k hk => Nat.lt_of_lt_of_le (h.lt k hk) ht.size, (Reads.turns h.tail (Nat.le_refl _) ht fun ad e => hn _ (h.ea ad e)).more ht.size, h.ne, h.cap⟩
theorem PLog.turns (h : PLog w lg g E l) (ht : Turns w w' X X') (hn : ∀ k, E k → ¬ X k) : PLog w' lg g E l := by
  obtain ⟨A, c, h⟩ := h; exact ⟨A, c, h.turns ht hn⟩
theorem PLogA.below (h : PLogA w lg g E l A c) (hb : Below w.heap.size w w') : PLogA w' lg g E l A c := h.turns (Turns.of_below hb (fun _ => False)) (fun _ _ h => h)
theorem PLog.elt (h : PLog w lg g E l) : ∀ k, E k → k < w.heap.size := by
  obtain ⟨A, c, h⟩ := h; exact h.lt
theorem PLogA.r0 (h : PLogA w lg g E l A c) : w.cell? ⟨lg, 0, none⟩ = some (.pointer (some ⟨g, 0, none⟩)) := by rw [h.blk.cell]; rfl
theorem PLogA.r1 (h : PLogA w lg g E l A c) : w.cell? ⟨lg, 1, none⟩ = some (.int .i64 (l.frm : Int)) := by rw [h.blk.cell]; rfl
theorem PLogA.r2 (h : PLogA w lg g E l A c) : w.cell? ⟨lg, 2, none⟩ = some (.int .i64 (l.n : Int)) := by rw [h.blk.cell]; rfl
theorem PLogA.r3 (h : PLogA w lg g E l A c) : w.cell? ⟨lg, 3, none⟩ = some (.int .i64 ((used l : Nat) : Int)) := by rw [h.blk.cell]; rfl
theorem PLogA.r4 (h : PLogA w lg g E l A c) : w.cell? ⟨lg, 4, none⟩ = some (.slice A (l.b.length % 256) c) := by rw [h.blk.cell]; rfl
theorem PLogA.r5 (h : PLogA w lg g E l A c) : w.cell? ⟨lg, 5, none⟩ = some (.int .i64 l.epoch) := by rw [h.blk.cell]; rfl
theorem PLogA.r6 (h : PLogA w lg g E l A c) : w.cell? ⟨lg, 6, none⟩ = some (.bool l.gone) := by rw [h.blk.cell]; rfl
theorem PLogA.fz (h : PLogA w lg g E l A c) (k : Nat) : w.frozen? ⟨lg, k, none⟩ = false := h.blk.frozen k
theorem PLogA.set_ (h : PLogA w lg g E l A c) (i : Nat) (u : Value) {l' : Lg} {cs : Array Value} (hc : (plogC g A c l).setIfInBounds i u = cs) (h' : cs = plogC g A c l') (hb : l'.b = l.b) : PLogA (w.setCell ⟨lg, i, none⟩ u) lg g E l' A c := by
  refine ⟨?_, h.el, h.ea, fun k hk => by simpa [World.setCell] using h.lt k hk, ?_, h.ne, by rw [hb]; exact h.cap⟩
  · have h1 := h.blk.set_ i u
    rw [hc, h'] at h1
    exact h1
  · rw [hb]
    exact (Reads.turns h.tail (Nat.le_refl _) (Turns.set_ (F := fun k => k = lg) rfl i u) h.ne).more (Turns.set_ (w := w) (F := fun k => k = lg) rfl i u).size
theorem PLogA.turned (h : PLogA w lg g E l A c) (e : Int) : PLogA (w.setCell ⟨lg, 5, none⟩ (.int .i64 e)) lg g E { l with epoch := e } A c := h.set_ 5 _ rfl rfl rfl
theorem PLogA.dead (h : PLogA w lg g E l A c) : PLogA (w.setCell ⟨lg, 6, none⟩ (.bool true)) lg g E { l with gone := true } A c := h.set_ 6 _ rfl rfl rfl
theorem PLogA.reset (h : PLogA w lg g E l A c) : PLogA ((w.setCell ⟨lg, 3, none⟩ (.int .i64 0)).setCell ⟨lg, 4, none⟩ (.slice none 0 0)) lg g E { l with b := [] } none 0 := by
  refine ⟨?_, h.el, fun ad e => (by cases e), fun k hk => by simpa [World.setCell] using h.lt k hk, RB.none_ _ _, fun ad e => (by cases e), by simp⟩
  have e : plogC g none 0 { l with b := [] } = (((plogC g A c l).setIfInBounds 3 (.int .i64 0)).setIfInBounds 4 (.slice none 0 0)) := by
    unfold plogC used
    simp
  rw [e]
  exact (h.blk.set_ 3 (.int .i64 0)).set_ 4 (.slice none 0 0)
theorem PLogA.grown_ {w1 w2 : World} {L : List UInt8} {A' : Option Addr} {c' u : Nat} (h : PLogA w lg g E l A c) (hb1 : Below w.heap.size w w1) (hu : u = (l.b ++ L).length / 64) (hb : Below w1.heap.size (w1.setCell ⟨lg, 3, none⟩ (.int .i64 (u : Int))) w2) (hr : RB w2 w2.heap.size A' (endL (l.b ++ L))) (hA : ∀ ad, A' = some ad → w1.heap.size ≤ ad.block ∧ ad.block < w2.heap.size) {n : Nat} (hn : n = (l.b ++ L).length % 256) (hc : n ≤ c' ∧ c' ≤ 9223372036854775807) :
    PLogA (w2.setCell ⟨lg, 4, none⟩ (.slice A' n c')) lg g (fun k => k = lg ∨ ∃ ad, A' = some ad ∧ ad.block = k) { l with b := l.b ++ L } A' c' := by
  subst hn hu
  have hlt : lg < w1.heap.size := Nat.lt_of_lt_of_le h.blk.lt hb1.size
  have hs1 : (w1.setCell ⟨lg, 3, none⟩ (.int .i64 (((l.b ++ L).length / 64 : Nat) : Int))).heap.size = w1.heap.size := by simp [World.setCell]
  have hne : ∀ ad, A' = some ad → ad.block ≠ lg := fun ad e => by have := (hA ad e).1; omega
  refine ⟨?_, .inl rfl, fun ad e => .inr ⟨ad, e, rfl⟩, fun k hk => ?_, ?_, hne, hc⟩
  · have h1 : Blk w1 lg 84 (plogC g A c l) := Blk.below h.blk hb1 h.blk.lt
    have h2 := h1.set_ 3 (.int .i64 (((l.b ++ L).length / 64 : Nat) : Int))
    have h3 := (Blk.below h2 hb hlt).set_ 4 (.slice A' ((l.b ++ L).length % 256) c')
    exact h3
  · have hb2 := hb.size
    rw [hs1] at hb2
    show k < (w2.setCell _ _).heap.size
    simp only [World.setCell, Array.size_modify]
    rcases hk with rfl | ⟨ad, e, rfl⟩
    · omega
    · exact (hA ad e).2
  · exact (Reads.turns hr (Nat.le_refl _) (Turns.set_ (F := fun k => k = lg) rfl 4 _) hne).more (Turns.set_ (w := w2) (F := fun k => k = lg) rfl 4 _).size
end
def PDeedsL (D : Dk) (l : Lg) (F E : Nat → Prop) (w w' : World) (g lg : Nat) : Prop := ∃ F' E', PDisk w' g F' D ∧ PLog w' lg g E' l ∧ (∀ k, E' k → ¬ F' k) ∧ Turns w w' (fun k => F k ∨ E k) (fun k => F' k ∨ E' k)
def CapN (A : Option Addr) (n c : Nat) : Prop := n ≤ c ∧ c ≤ 9223372036854775807
def POpenPost (r : Dk × Option Lg × List (List UInt8) × Int) (g : Nat) (F : Nat → Prop) (w : World) (e : Ending) (w' : World) : Prop :=
  Deeds r.1 F w w' g ∧ match r.2.1 with
    | none => e = .returned (.tuple #[.pointer none, .slice none 0 0, .int .i64 r.2.2.2])
    | some l => ∃ lg E A c, PLog w' lg g E l ∧ (∀ k, E k → w.heap.size ≤ k) ∧ BL w' (fun k => w.heap.size ≤ k ∧ ¬ E k) A r.2.2.1 ∧ CapN A r.2.2.1.length c ∧ e = .returned (.tuple #[.pointer (some ⟨lg, 0, none⟩), .slice A r.2.2.1.length c, .int .i64 0])
end
section
open Go.RowKit
open Wal
def logC (q : Nat) (A : Option Addr) (c : Nat) (l : Lg) : Array Value := #[.pointer (some ⟨q, 0, none⟩), .int .i64 (l.frm : Int), .int .i64 (l.n : Int), .int .i64 l.epoch, .slice A l.b.length c, .bool l.gone]
structure RLogA (w : World) (lg q : Nat) (G B : Nat → Prop) (l : Lg) (A : Option Addr) (c : Nat) : Prop where
  blk : Blk w lg 67 (logC q A c l)
  out : ¬ G lg
  outB : ¬ B lg
  kept : Kept w G A l.b
  apart : ∀ ad, A = some ad → ad.block ≠ lg
section
variable {w w' : World} {lg q : Nat} {G G' B B' : Nat → Prop} {l : Lg} {A : Option Addr} {c : Nat}
theorem RLogA.turns (h : RLogA w lg q G B l A c) (ht : Turns w w' G G') (hB : ∀ k, B' k → B k ∨ w.heap.size ≤ k) : RLogA w' lg q G' B' l A c :=
  ⟨h.blk.turns ht h.out, fun hf => by
    rcases ht.foot _ hf with h1 | h1
    · exact h.out h1
    · have := h.blk.lt; omega, fun hf => by
    rcases hB _ hf with h1 | h1
    · exact h.outB h1
    · have := h.blk.lt; omega, h.kept.turns ht, h.apart⟩
theorem RLogA.past {E E' : Nat → Prop} (h : RLogA w lg q G B l A c) (ht : Turns w w' E E') (h1 : ¬ E lg) (h2 : ∀ ad, A = some ad → ¬ E ad.block) : RLogA w' lg q G B l A c :=
  ⟨h.blk.turns ht h1, h.out, h.outB, ⟨(Reads.turns h.kept.1 (Nat.le_refl _) ht h2).more ht.size, fun ad e => ⟨(h.kept.2 ad e).1, Nat.lt_of_lt_of_le (h.kept.2 ad e).2 ht.size⟩⟩, h.apart⟩
theorem RLogA.r0 (h : RLogA w lg q G B l A c) : w.cell? ⟨lg, 0, none⟩ = some (.pointer (some ⟨q, 0, none⟩)) := by rw [h.blk.cell]; rfl
theorem RLogA.r1 (h : RLogA w lg q G B l A c) : w.cell? ⟨lg, 1, none⟩ = some (.int .i64 (l.frm : Int)) := by rw [h.blk.cell]; rfl
theorem RLogA.r2 (h : RLogA w lg q G B l A c) : w.cell? ⟨lg, 2, none⟩ = some (.int .i64 (l.n : Int)) := by rw [h.blk.cell]; rfl
theorem RLogA.r3 (h : RLogA w lg q G B l A c) : w.cell? ⟨lg, 3, none⟩ = some (.int .i64 l.epoch) := by rw [h.blk.cell]; rfl
theorem RLogA.r4 (h : RLogA w lg q G B l A c) : w.cell? ⟨lg, 4, none⟩ = some (.slice A l.b.length c) := by rw [h.blk.cell]; rfl
theorem RLogA.r5 (h : RLogA w lg q G B l A c) : w.cell? ⟨lg, 5, none⟩ = some (.bool l.gone) := by rw [h.blk.cell]; rfl
theorem RLogA.fz (h : RLogA w lg q G B l A c) (k : Nat) : w.frozen? ⟨lg, k, none⟩ = false := h.blk.frozen k
end
def LDeeds (D : Dk) (l : Lg) (G B : Nat → Prop) (w w' : World) (q lg : Nat) (A : Option Addr) : Prop := ∃ G' B' A' c', RDisk w' q G' B' D ∧ RLogA w' lg q G' B' l A' c' ∧ (∀ ad, A' = some ad → A = some ad ∨ w.heap.size ≤ ad.block) ∧ Turns w w' (fun k => G k ∨ k = lg) (fun k => G' k ∨ k = lg) ∧ ∀ k, B' k → B k ∨ w.heap.size ≤ k
section
variable {w w1 w' : World} {lg q : Nat} {G G' B B' : Nat → Prop} {l l' : Lg} {A A' : Option Addr} {c c' : Nat} {D : Dk}
theorem turns_cell (w : World) (g i : Nat) (u : Value) : Turns w (w.setCell ⟨g, i, none⟩ u) (fun k => k = g) (fun k => k = g) := Turns.set_ (F := fun k => k = g) rfl i u
theorem RLogA.kept_set (h : RLogA w lg q G B l A c) {A' : Option Addr} {L : List UInt8} (hk : Kept w G A' L) (ha : ∀ ad, A' = some ad → ad.block ≠ lg) (i : Nat) (u : Value) : Kept (w.setCell ⟨lg, i, none⟩ u) G A' L :=
  ⟨(Reads.turns hk.1 (Nat.le_refl _) (turns_cell w lg i u) ha).more (turns_cell w lg i u).size, fun ad e => ⟨(hk.2 ad e).1, Nat.lt_of_lt_of_le (hk.2 ad e).2 (turns_cell w lg i u).size⟩⟩
theorem RLogA.dead (h : RLogA w lg q G B l A c) : RLogA (w.setCell ⟨lg, 5, none⟩ (.bool true)) lg q G B { l with gone := true } A c :=
  ⟨h.blk.set_ 5 (.bool true), h.out, h.outB, h.kept_set h.kept h.apart 5 _, h.apart⟩
theorem RLogA.bytes (h : RLogA w lg q G B l A c) {L : List UInt8} {n : Nat} (hn : n = L.length) (hk : Kept w G A' L) (ha : ∀ ad, A' = some ad → ad.block ≠ lg) : RLogA (w.setCell ⟨lg, 4, none⟩ (.slice A' n c')) lg q G B { l with b := L } A' c' := by
  subst hn
  exact ⟨h.blk.set_ 4 (.slice A' L.length c'), h.out, h.outB, h.kept_set hk ha 4 _, ha⟩
theorem RLogA.turned (h : RLogA w lg q G B l A c) (e : Int) : RLogA (w.setCell ⟨lg, 3, none⟩ (.int .i64 e)) lg q G B { l with epoch := e } A c :=
  ⟨h.blk.set_ 3 (.int .i64 e), h.out, h.outB, h.kept_set h.kept h.apart 3 _, h.apart⟩
theorem ldeeds_set (hD : RDisk w1 q G' B' D) (hA : RLogA w1 lg q G' B' l A c) (ht : Turns w w1 G G') (hB : ∀ k, B' k → B k ∨ w.heap.size ≤ k) (i : Nat) (u : Value) (hl : RLogA (w1.setCell ⟨lg, i, none⟩ u) lg q G' B' l' A' c') (hA' : ∀ ad, A' = some ad → A = some ad ∨ w.heap.size ≤ ad.block) : LDeeds D l' G B w (w1.setCell ⟨lg, i, none⟩ u) q lg A := by
  refine ⟨G', B', A', c', hD.turns (turns_cell w1 lg i u) (fun k hk e => hA.out (e ▸ hk)) (fun k hk e => hA.outB (e ▸ hk)), hl, hA', ?_, hB⟩
  have h1 : Turns w w1 (fun k => G k ∨ k = lg) (fun k => G' k ∨ k = lg) := ht.wide (fun k hk => .inl hk) (fun k hk => by
    rcases hk with h2 | h2
    · exact .inr (.inl h2)
    · exact .inl (.inr h2))
  exact h1.trans (Turns.set_ (F := fun k => G' k ∨ k = lg) (.inr rfl) i u)
theorem ldeeds_same (hD : RDisk w1 q G' B' D) (hl : RLogA w1 lg q G' B' l A c) (ht : Turns w w1 G G') (hB : ∀ k, B' k → B k ∨ w.heap.size ≤ k) : LDeeds D l G B w w1 q lg A :=
  ⟨G', B', A, c, hD, hl, fun _ e => .inl e, ht.wide (fun k hk => .inl hk) (fun k hk => by
    rcases hk with h2 | h2
    · exact .inr (.inl h2)
    · exact .inl (.inr h2)), hB⟩
end
theorem turns_above {B : Nat} {w w' : World} {E' : Nat → Prop} (h : Below B w w') (hB : B ≤ w.heap.size) (hE : ∀ k, E' k → B ≤ k ∨ w.heap.size ≤ k) : Turns w w' (fun k => B ≤ k) E' := ⟨h.os, h.tape, h.output, h.size, fun k _ hn => h.block k (by omega), hE⟩
def OpenPost (r : Dk × Option Lg × List (List UInt8) × Int) (q : Nat) (G B : Nat → Prop) (w : World) (e : Ending) (w' : World) : Prop :=
  RSame r.1 G B w w' q ∧ match r.2.1 with
    | none => e = .returned (.tuple #[.pointer none, .slice none 0 0, .int .i64 r.2.2.2])
    | some l => ∃ lg A c AB cB, w.heap.size ≤ lg ∧ RLogA w' lg q G B l AB cB ∧ (∀ ad, AB = some ad → w.heap.size ≤ ad.block) ∧ BL w' (fun k => w.heap.size ≤ k) A r.2.2.1 ∧ e = .returned (.tuple #[.pointer (some ⟨lg, 0, none⟩), .slice A r.2.2.1.length c, .int .i64 0])
end
section
open Go.RowKit
abbrev Kps := List (Option Addr × List UInt8)
structure Two (K : Kps) (w0 w : World) (g : Nat) (F : Nat → Prop) (d : Dk) (q : Nat) (G B : Nat → Prop) (e : Dk) : Prop where
  p : Has w0 w g F d
  r : RDisk w q G B e
  go : ∀ k, G k → w0.heap.size ≤ k
  fg : ∀ k, F k → ¬ G k
  fb : ∀ k, F k → ¬ B k
  kp : ∀ x ∈ K, Kept w F x.1 x.2 ∧ Kept w G x.1 x.2
theorem Kept.past {w w' : World} {E E' G : Nat → Prop} {A : Option Addr} {L : List UInt8} (h : Kept w G A L) (ht : Turns w w' E E') (hE : ∀ ad, A = some ad → ¬ E ad.block) : Kept w' G A L :=
  ⟨(Reads.turns h.1 (Nat.le_refl _) ht hE).more ht.size, fun ad e => ⟨(h.2 ad e).1, Nat.lt_of_lt_of_le (h.2 ad e).2 ht.size⟩⟩
section
variable {K : Kps} {w0 w w' : World} {g q : Nat} {F F' G B : Nat → Prop} {d d' e e' : Dk}
theorem Two.more (h : Two K w0 w g F d q G B e) (hb : Below w.heap.size w w') : Two K w0 w' g F d q G B e := ⟨h.p.more hb, h.r.below hb, h.go, h.fg, h.fb, fun x hx => ⟨(h.kp x hx).1.below hb, (h.kp x hx).2.below hb⟩⟩
theorem Two.prog (h : Two K w0 w g F d q G B e) (hp : PDisk w' g F' d') (ht : Turns w w' F F') : Two K w0 w' g F' d' q G B e := by
  refine ⟨h.p.turned hp ht, h.r.turns ht (fun k hk hf => h.fg k hf hk) (fun k hk hf => h.fb k hf hk), h.go, fun k hk hg => ?_, fun k hk hb => ?_, fun x hx => ⟨(h.kp x hx).1.turns ht, (h.kp x hx).2.past ht (h.kp x hx).1.no⟩⟩
  · rcases ht.foot k hk with h1 | h1
    · exact h.fg k h1 hg
    · have := h.r.glt k hg; omega
  · rcases ht.foot k hk with h1 | h1
    · exact h.fb k h1 hb
    · have := h.r.blt k hb; omega
theorem Two.deeds (h : Two K w0 w g F d q G B e) (hd : Deeds d' F w w' g) : Two K w0 w' g F d' q G B e := h.prog hd.1 hd.2
theorem Two.masks {Z : List Int} {A : Option Addr} (h : Two K w0 w g F d q G B e) (hM : RI w0 w0.heap.size A Z) : RI w w.heap.size A Z ∧ (0 < Z.length → ∀ ad, A = some ad → ¬ F ad.block) ∧ (0 < Z.length → ∀ ad, A = some ad → ¬ G ad.block) := by
  refine ⟨fun h0 => ?_, fun h0 ad e' hf => ?_, fun h0 ad e' hf => ?_⟩
  · obtain ⟨b, off, e', hlt, hc⟩ := hM h0
    exact ⟨b, off, e', Nat.lt_of_lt_of_le hlt h.p.below.size, fun k hk => (h.p.below.cell (p := ⟨b, off + k, none⟩) hlt).trans (hc k hk)⟩
  · obtain ⟨b, off, e2, hlt, _⟩ := hM h0
    rw [e'] at e2
    injection e2 with e2
    subst e2
    have := h.p.own _ hf
    simp at this
    omega
  · obtain ⟨b, off, e2, hlt, _⟩ := hM h0
    rw [e'] at e2
    injection e2 with e2
    subst e2
    have := h.go _ hf
    simp at this
    omega
end
end
section
open Go.RowKit
theorem rsplit_zero (s : Sd) (A : Option Addr) (c : Nat) (t : List UInt8) (n : Nat) (B : Option Addr) (cB : Nat) (w : World) (hn : n = t.length) (h : n = 0) :
    Calls Tryz.prog 61 #[secV s A c, .slice B n cB] w (GivesSL (splitS s t) w) := by
  subst h
  have HV : Hid (splitS s t = ([], 1)) := split_none (by rw [← hn]; rfl)
  have HN : Hid (∀ W, Calls Tryz.prog 60 #[.int .i64 0] W fun e w' => e = .returned (.int .i64 0) ∧ W = w') := fun W => rneed_any 0 (by omega) W
  have HB : Hid (∀ (v : Value), Below w.heap.size w (w.alloc (.cells #[.int .i64 s.kind, .int .i64 s.epoch, .int .i64 s.number, .int .i64 s.left, v] 49))) := fun v => (Below.refl _ _).alloc (Nat.le_refl _) _
  unfold secV
  clear hn
  go_enter Tryz.func61, Tryz.ntmps61
  go_wp2_with (go_at_call 60; (with_reducible refine (HN.out _).mono ?_); rintro e w1 ⟨rfl, rfl⟩)
  go_ret2
  exact ⟨none, 0, by rw [HV.out]; rfl, by rw [HV.out]; exact SL.nil, HB.out _⟩
theorem rsplit_num (s : Sd) (A : Option Addr) (c : Nat) (t : List UInt8) (n : Nat) (B : Option Addr) (cB : Nat) (w : World) (hn : n = t.length) (h : n ≠ 0) (hl : n ≤ 1000000) (hb : s.number < 0 ∨ 2147483647 < s.number) :
    Calls Tryz.prog 61 #[secV s A c, .slice B n cB] w (GivesSL (splitS s t) w) := by
  have e : needN t.length = (t.length + 47) / 48 := rfl
  have HV : Hid (splitS s t = ([], 1)) := split_bad (i := 0) (by omega) (by omega) (by
    rw [Bool.eq_false_iff]
    intro hh
    obtain ⟨_, _, _, _, h5, h6, _⟩ := (Sd.may_iff _).1 hh
    have h5 : 0 ≤ s.number + ((0 : Nat) : Int) := h5
    have h6 : s.number + ((0 : Nat) : Int) ≤ 2147483647 := h6
    omega)
  obtain ⟨N, hN⟩ : ∃ N, N = needN n := ⟨_, rfl⟩
  have hN2 : N = (n + 47) / 48 := hN
  have HN : Hid (∀ W, Calls Tryz.prog 60 #[.int .i64 (n : Int)] W fun e w' => e = .returned (.int .i64 (N : Int)) ∧ W = w') := fun W => by rw [hN]; exact rneed_any n (by omega) W
  have d0 : ((N : Int) == 0) = false := by simp; omega
  have d1 : decide ((65536 : Int) < (N : Int)) = false := decide_eq_false (by omega)
  have d2 : decide ((N : Int) > 65536) = false := decide_eq_false (by omega)
  have d3 : decide (65536 < N) = false := decide_eq_false (by omega)
  obtain ⟨nu, hnu⟩ : ∃ x, x = s.number := ⟨_, rfl⟩
  have HB : Hid (∀ (v : Value), Below w.heap.size w (w.alloc (.cells #[.int .i64 s.kind, .int .i64 s.epoch, .int .i64 nu, .int .i64 s.left, v] 49))) := fun v => (Below.refl _ _).alloc (Nat.le_refl _) _
  unfold secV
  rw [← hnu] at hb ⊢
  clear hn hN hN2 hnu e
  rcases hb with hb | hb
  · have d4 : decide (nu < 0) = true := decide_eq_true hb
    go_enter Tryz.func61, Tryz.ntmps61
    go_wp2_with (go_at_call 60; (with_reducible refine (HN.out _).mono ?_); rintro e w1 ⟨rfl, rfl⟩)
    go_ret2
    exact ⟨none, 0, by rw [HV.out]; rfl, by rw [HV.out]; exact SL.nil, HB.out _⟩
  · have d4 : decide (nu < 0) = false := decide_eq_false (by omega)
    have d5 : decide ((2147483647 : Int) < nu) = true := decide_eq_true hb
    have d6 : decide (nu > 2147483647) = true := decide_eq_true hb
    go_enter Tryz.func61, Tryz.ntmps61
    go_wp2_with (go_at_call 60; (with_reducible refine (HN.out _).mono ?_); rintro e w1 ⟨rfl, rfl⟩)
    go_ret2
    exact ⟨none, 0, by rw [HV.out]; rfl, by rw [HV.out]; exact SL.nil, HB.out _⟩
theorem rsplit_in (s : Sd) (A : Option Addr) (c : Nat) (t : List UInt8) (n : Nat) (B : Option Addr) (cB : Nat) (w : World) (hn : n = t.length) (h : n ≠ 0) (hl : n ≤ 1000000) (hb1 : 0 ≤ s.number) (hb2 : s.number ≤ 2147483647) (hr : RB w w.heap.size B t) (hc : n ≤ cB) (hcm : cB ≤ 9223372036854775807) :
    Calls Tryz.prog 61 #[secV s A c, .slice B n cB] w (GivesSL (splitS s t) w) := by
  obtain ⟨N, hN⟩ : ∃ N, N = needN n := ⟨_, rfl⟩
  have hN2 : N = (n + 47) / 48 := hN
  have HN : Hid (∀ W, Calls Tryz.prog 60 #[.int .i64 (n : Int)] W fun e w' => e = .returned (.int .i64 (N : Int)) ∧ W = w') := fun W => by rw [hN]; exact rneed_any n (by omega) W
  have HNn : Hid (needN t.length = N ∧ t.length = n ∧ N = (n + 47) / 48) := ⟨by rw [hN, hn], hn.symm, hN2⟩
  obtain ⟨i0, hi0, hz0, hz1, hz2⟩ := info_parts Tryz.secInfo
  obtain ⟨b0, o, rfl, _, _⟩ := hr.at_ (by omega)
  have d0 : ((N : Int) == 0) = false := by simp; omega
  have d1 : decide ((65536 : Int) < (N : Int)) = false := decide_eq_false (by omega)
  have d2 : decide ((N : Int) > 65536) = false := decide_eq_false (by omega)
  have d3 : decide (65536 < N) = false := decide_eq_false (by omega)
  have hN3 : N ≤ 20834 := by omega
  have HS := Lib.hid (show s = s from rfl)
  obtain ⟨kd, hkd⟩ : ∃ x, x = s.kind := ⟨_, rfl⟩
  obtain ⟨ep, hep⟩ : ∃ x, x = s.epoch := ⟨_, rfl⟩
  obtain ⟨nu, hnu⟩ : ∃ x, x = s.number := ⟨_, rfl⟩
  obtain ⟨lf, hlf⟩ : ∃ x, x = s.left := ⟨_, rfl⟩
  obtain ⟨m, hm⟩ : ∃ x, x = s.data.length := ⟨_, rfl⟩
  rw [← hnu] at hb1 hb2
  have d4 : decide (nu < 0) = false := decide_eq_false (by omega)
  have d5 : decide ((2147483647 : Int) < nu) = false := decide_eq_false (by omega)
  have d6 : decide (nu > 2147483647) = false := decide_eq_false (by omega)
  have HK : Hid (kd = s.kind ∧ ep = s.epoch ∧ nu = s.number) := ⟨hkd, hep, hnu⟩
  have HRt := Lib.hid hr
  have HC := Lib.hid (show n ≤ cB ∧ cB ≤ 9223372036854775807 from ⟨hc, hcm⟩)
  unfold secV
  rw [← hkd, ← hep, ← hnu, ← hlf, ← hm]
  clear hn hN hN2 hnu hkd hep hlf hm hr hc
  have HW0 : Hid (∃ WA, WA = w.alloc (.cells #[.int .i64 kd, .int .i64 ep, .int .i64 nu, .int .i64 lf, .slice A m c] 49) ∧ Below w.heap.size w WA ∧ ∀ W, Below WA.heap.size WA W → W.cell? ⟨w.heap.size, 0, none⟩ = some (.int .i64 kd) ∧ W.cell? ⟨w.heap.size, 1, none⟩ = some (.int .i64 ep) ∧ W.cell? ⟨w.heap.size, 2, none⟩ = some (.int .i64 nu)) := by
    refine ⟨_, rfl, (Below.refl _ _).alloc (Nat.le_refl _) _, fun W hb => ?_⟩
    have h0 : Blk W w.heap.size 49 #[.int .i64 kd, .int .i64 ep, .int .i64 nu, .int .i64 lf, .slice A m c] := Blk.below (Blk.new w _ _) hb (by simp)
    exact ⟨by rw [h0.cell]; rfl, by rw [h0.cell]; rfl, by rw [h0.cell]; rfl⟩
  obtain ⟨WA, hWA, hbA, HCb⟩ := HW0.out
  have HWA := Lib.hid hWA
  have HBA := Lib.hid hbA
  have HCb := Lib.hid HCb
  clear hWA hbA HW0
  go_enter Tryz.func61, Tryz.ntmps61
  go_wp2_with (go_at_call 60; (with_reducible refine (HN.out _).mono ?_); rintro e w1 ⟨rfl, rfl⟩)
  rw [← HWA.out]
  go_loopw [7, 8, 9, 10] (fun v x _ _ wr => ∃ i : Nat, i ≤ N ∧ x = .int .i64 (i : Int) ∧ ∃ rows, Hid (Cut w s t i rows) ∧ Hid (wr.ownsRow WA.heap.size 49 5 v i (rowC rows)) ∧ Hid (Below WA.heap.size WA wr)) (fun _ x _ _ _ => N - (intOf x).toNat)
  case atStart => exact ⟨0, by omega, rfl, [], ⟨rfl, rfl, fun j hj => by omega, fun x hx => by cases hx⟩, World.ownsRow_nil _ _ _ _, Below.refl _ _⟩
  case round =>
    obtain ⟨i, hi, rfl, rows, HCt, HO, hbw⟩ := hrel
    by_cases hlt : i < N
    · have dl : decide ((i : Int) < (N : Int)) = true := decide_eq_true (by omega)
      have dl2 : decide (i < N) = true := decide_eq_true hlt
      obtain ⟨q0, hq0⟩ : ∃ q, q = 48 * i := ⟨_, rfl⟩
      obtain ⟨q2, hq2⟩ : ∃ q, q = 48 * (i + 1) := ⟨_, rfl⟩
      obtain ⟨ql, hql⟩ : ∃ q, q = min 48 (n - q0) := ⟨_, rfl⟩
      obtain ⟨lz, hlz⟩ : ∃ q, q = N - 1 - i := ⟨_, rfl⟩
      obtain ⟨nz, hnz⟩ : ∃ z : Int, z = nu + (i : Int) := ⟨_, rfl⟩
      have hq0n : q0 < n := by have := HNn.out.2.2; omega
      have y0 : (48 : Int) * (i : Int) = (q0 : Int) := by omega
      have y1 : (48 : Int) * ((i : Int) + 1) = (q2 : Int) := by omega
      have y2 : IntKind.i64.wrap (q0 : Int) = (q0 : Int) := IntWalk.i64_in _ (by omega)
      have y3 : IntKind.i64.wrap (q2 : Int) = (q2 : Int) := IntWalk.i64_in _ (by omega)
      have y4 : IntKind.i64.wrap (nu + (i : Int)) = nz := by rw [hnz]; exact IntWalk.i64_in _ (by omega)
      have y5 : IntKind.i64.wrap ((N : Int) - 1) = (N : Int) - 1 := IntWalk.i64_in _ (by omega)
      have y6 : IntKind.i64.wrap ((N : Int) - 1 - (i : Int)) = (lz : Int) := by rw [IntWalk.i64_in _ (by omega)]; omega
      have y7 : IntKind.i64.wrap ((i : Int) + 1) = (i : Int) + 1 := IntWalk.i64_in _ (by omega)
      have hdt : (t.drop q0).take 48 = (t.drop (48 * i)).take 48 := by rw [hq0]
      have hdl : ((t.drop q0).take 48).length = ql := by rw [List.length_take, List.length_drop, HNn.out.2.1, hql]
      have hRB : RB w w.heap.size (some ⟨b0, o + q0, none⟩) ((t.drop q0).take 48) := by
        have htn := HNn.out.2.1
        have h2 := rb_cut1 HRt.out (k := q0) (c := t.length + 1) (by rw [HNn.out.2.1]; omega) (by omega) (by omega)
        simp only [Option.map_some, add_at] at h2
        by_cases h48 : 48 ≤ (t.drop q0).length
        · exact rb_take h2 48 h48
        · rw [List.take_of_length_le (by omega)]; exact h2
      have HPt : Hid (∀ kz, kz = (if i = 0 then kd else kd + 1) → s.part t (needN t.length) i = ⟨kz, ep, nz, (lz : Int), (t.drop q0).take 48⟩) := fun kz hz => by
        obtain ⟨k1, k2, k3⟩ := HK.out
        unfold Sd.part
        rw [hz, hnz, hlz, hdt, k1, k2, k3, HNn.out.1]
      have HRB := Lib.hid hRB
      have HDl := Lib.hid hdl
      have n5 := fun k A m c w' => Tryz.secBuild5 k ep nz (lz : Int) A m c w'
      obtain ⟨c0, c1, c2⟩ := HCb.out _ hbw.out
      have hbz := hbw.out.alloc hbw.out.size (.cells #[.int .i64 0, .int .i64 0, .int .i64 0, .int .i64 0, .slice none 0 0] 49)
      obtain ⟨g0, g1, g2⟩ := HCb.out _ hbz
      clear hdt hdl hRB
      have hcases : (n < q2 ∧ n - q0 = ql) ∨ (¬ n < q2 ∧ q2 - q0 = ql) := by omega
      by_cases hE : n < q2
      · by_cases hz : i = 0
        · have e0 : decide ((n : Int) < (q2 : Int)) = true := decide_eq_true (by omega)
          have e1 : decide ((q2 : Int) > (n : Int)) = true := decide_eq_true (by omega)
          have e2 : decide (n < q2) = true := decide_eq_true (by omega)
          have ks := fun W => sl_both b0 o n cB q0 n (q0 : Int) (n : Int) rfl rfl (by omega) (by have := HC.out; omega) (by have := HC.out; omega) W
          rw [show n - q0 = ql by omega] at ks
          have z0 : decide ((0 : Int) < (i : Int)) = false := decide_eq_false (by omega)
          have z1 : decide ((i : Int) > 0) = false := decide_eq_false (by omega)
          have z2 : decide (0 < i) = false := decide_eq_false (by omega)
          have HZ := Lib.hid hz
          clear hq0 hq2 hql hlz hnz hz
          go_wp2
          go_region
          have hbN := hbw.out.alloc hbw.out.size (.cells #[.int .i64 kd, .int .i64 ep, .int .i64 nz, .int .i64 (lz : Int), .slice (some ⟨b0, o + q0, none⟩) ql (cB - q0)] 49)
          have hbD : Below (wr.alloc (.cells #[.int .i64 kd, .int .i64 ep, .int .i64 nz, .int .i64 (lz : Int), .slice (some ⟨b0, o + q0, none⟩) ql (cB - q0)] 49)).heap.size (wr.alloc (.cells #[.int .i64 kd, .int .i64 ep, .int .i64 nz, .int .i64 (lz : Int), .slice (some ⟨b0, o + q0, none⟩) ql (cB - q0)] 49)) (wr.alloc (.cells #[.int .i64 kd, .int .i64 ep, .int .i64 nz, .int .i64 (lz : Int), .slice (some ⟨b0, o + q0, none⟩) ql (cB - q0)] 49)).drew := (Below.refl _ _).drew
          have HT : Hid (∀ W', Below (wr.alloc (.cells #[.int .i64 kd, .int .i64 ep, .int .i64 nz, .int .i64 (lz : Int), .slice (some ⟨b0, o + q0, none⟩) ql (cB - q0)] 49)).heap.size (wr.alloc (.cells #[.int .i64 kd, .int .i64 ep, .int .i64 nz, .int .i64 (lz : Int), .slice (some ⟨b0, o + q0, none⟩) ql (cB - q0)] 49)) W' → W'.cell? ⟨wr.heap.size, 0, none⟩ = some (.int .i64 kd) ∧ W'.cell? ⟨wr.heap.size, 1, none⟩ = some (.int .i64 ep) ∧ W'.cell? ⟨wr.heap.size, 2, none⟩ = some (.int .i64 nz) ∧ W'.cell? ⟨wr.heap.size, 3, none⟩ = some (.int .i64 (lz : Int)) ∧ W'.cell? ⟨wr.heap.size, 4, none⟩ = some (.slice (some ⟨b0, o + q0, none⟩) ql (cB - q0))) := fun W' hb => by
            have h0 : Blk W' wr.heap.size 49 #[.int .i64 kd, .int .i64 ep, .int .i64 nz, .int .i64 (lz : Int), .slice (some ⟨b0, o + q0, none⟩) ql (cB - q0)] := Blk.below (Blk.new wr _ _) hb (by simp)
            exact ⟨by rw [h0.cell]; rfl, by rw [h0.cell]; rfl, by rw [h0.cell]; rfl, by rw [h0.cell]; rfl, by rw [h0.cell]; rfl⟩
          have hpt := HPt.out kd (by rw [if_pos HZ.out])
          have HPv := Lib.hid hpt
          obtain ⟨bm, hbm⟩ : ∃ x, x = (s.part t (needN t.length) i).may := ⟨_, rfl⟩
          have HMay : Hid (∀ W, Calls Tryz.prog 36 #[.agg #[.int .i64 kd, .int .i64 ep, .int .i64 nz, .int .i64 (lz : Int), .slice (some ⟨b0, o + q0, none⟩) ql (cB - q0)]] W fun e w' => e = .returned (.bool bm) ∧ Below W.heap.size W w') := fun W => by
            have h1 := rmay_any (s.part t (needN t.length) i) (some ⟨b0, o + q0, none⟩) (cB - q0) W
            rw [← hbm, hpt] at h1
            unfold secV at h1
            simp only [HDl.out] at h1
            exact h1
          have HBm := Lib.hid hbm
          have HOw : Hid (∀ W, Below wr.heap.size wr W → W.ownsRow WA.heap.size 49 5 u7 i (rowC rows)) := fun W hb => own_turns HO.out (Turns.of_below hb (fun _ => False)) (fun _ _ h => h)
          have hbr : Below wr.heap.size wr (wr.alloc (.cells #[.int .i64 kd, .int .i64 ep, .int .i64 nz, .int .i64 (lz : Int), .slice (some ⟨b0, o + q0, none⟩) ql (cB - q0)] 49)) := (Below.refl _ _).alloc (Nat.le_refl _) _
          clear hpt hbm c0 c1 c2 g0 g1 g2 hbz ks y4 y5 y6 e0 e1 e2
          rcases bm with _ | _
          · go_wp2_with (first
              | (go_at_call 36; (with_reducible refine (HMay.out _).mono ?_); rintro e w6 ⟨rfl, hb6⟩))
            have HVs := split_bad (s := s) (by rw [HNn.out.2.1]; exact hl) (i := i) (by rw [HNn.out.1]; exact hlt) HBm.out.symm
            go_ret2
            exact ⟨none, 0, by rw [HVs]; rfl, by rw [HVs]; exact SL.nil, HBA.out.trans ((chain7 (chain7 hbN hbD) hb6).mono HBA.out.size)⟩
          · go_wp2_with (first
              | (go_at_call 36; (with_reducible refine (HMay.out _).mono ?_); rintro e w6 ⟨rfl, hb6⟩; obtain ⟨t0, t1, t2, t3, t4⟩ := HT.out _ (chain7 hbD hb6); have ho6 := HOw.out _ ((chain7 (chain7 hbr hbD) hb6)); have hs6 : WA.heap.size ≤ w6.heap.size := (chain7 (chain7 hbN hbD) hb6).size; have hn6 := five_new w6 (.int .i64 kd) (.int .i64 ep) (.int .i64 nz) (.int .i64 (lz : Int)) (.slice (some ⟨b0, o + q0, none⟩) ql (cB - q0)) 49)
              | (at_builtin; refine wpList_append_any _ rfl (.tmp 70) (.tmp 72) _ rfl WA.heap.size 49 i0 _ 5 56 Tryz.underlying43 hi0 hz0 hz1 hz2 rfl (by omega) u7 i (rowC rows) rfl (ho6.alloc _) (w6.heap.size + 1) (some ⟨w6.heap.size, 0, none⟩) 1 1 [.int .i64 kd, .int .i64 ep, .int .i64 nz, .int .i64 (lz : Int), .slice (some ⟨b0, o + q0, none⟩) ql (cB - q0)] rfl hn6 (rowC_five _ _ _ _ _ _ _) (by simp only [maxLen]; omega) (by omega) (by simp; omega) ?_; intro v9 w9 ho9 hg9 hat9))
            have hb9 : Below WA.heap.size WA w9 := ((chain7 (chain7 hbN hbD) hb6).alloc hs6 _).grown hg9 (by simp; omega) (fun j hj => (ho6.lt j hj).1)
            have hsn : rowC rows ++ [.int .i64 kd, .int .i64 ep, .int .i64 nz, .int .i64 (lz : Int), .slice (some ⟨b0, o + q0, none⟩) ql (cB - q0)] = rowC (rows ++ [(s.part t (needN t.length) i, some ⟨b0, o + q0, none⟩, cB - q0)]) := by
              rw [rowC_snoc, HPv.out]
              unfold secC
              simp only [HDl.out]
            rw [hsn] at ho9
            have hct := HCt.out.snoc HBm.out.symm (A := some ⟨b0, o + q0, none⟩) (c := cB - q0) (by rw [HPv.out]; exact HRB.out)
            clear ho6 hg9 hat9 hn6 t0 t1 t2 t3 t4 hb6
            refine ⟨⟨i + 1, by omega, by go_num, _, hct, ho9, hb9⟩, ?_⟩
            simp [intOf]; omega
        · have e0 : decide ((n : Int) < (q2 : Int)) = true := decide_eq_true (by omega)
          have e1 : decide ((q2 : Int) > (n : Int)) = true := decide_eq_true (by omega)
          have e2 : decide (n < q2) = true := decide_eq_true (by omega)
          have ks := fun W => sl_both b0 o n cB q0 n (q0 : Int) (n : Int) rfl rfl (by omega) (by have := HC.out; omega) (by have := HC.out; omega) W
          rw [show n - q0 = ql by omega] at ks
          have z0 : decide ((0 : Int) < (i : Int)) = true := decide_eq_true (by omega)
          have z1 : decide ((i : Int) > 0) = true := decide_eq_true (by omega)
          have z2 : decide (0 < i) = true := decide_eq_true (by omega)
          have HZ := Lib.hid hz
          have y8 : IntKind.i64.wrap (kd + 1) = kd + 1 := by
            have h0 := (Sd.may_iff _).1 (HCt.out.2.2.1 0 (by omega))
            have h1 : 1 ≤ s.kind := h0.1
            have h2 : s.kind ≤ 255 := h0.2.1
            have h3 := HK.out.1
            exact IntWalk.i64_in _ (by omega)
          clear hq0 hq2 hql hlz hnz hz
          go_wp2
          go_region
          have hbN := hbw.out.alloc hbw.out.size (.cells #[.int .i64 (kd + 1), .int .i64 ep, .int .i64 nz, .int .i64 (lz : Int), .slice (some ⟨b0, o + q0, none⟩) ql (cB - q0)] 49)
          have hbD : Below (wr.alloc (.cells #[.int .i64 (kd + 1), .int .i64 ep, .int .i64 nz, .int .i64 (lz : Int), .slice (some ⟨b0, o + q0, none⟩) ql (cB - q0)] 49)).heap.size (wr.alloc (.cells #[.int .i64 (kd + 1), .int .i64 ep, .int .i64 nz, .int .i64 (lz : Int), .slice (some ⟨b0, o + q0, none⟩) ql (cB - q0)] 49)) (wr.alloc (.cells #[.int .i64 (kd + 1), .int .i64 ep, .int .i64 nz, .int .i64 (lz : Int), .slice (some ⟨b0, o + q0, none⟩) ql (cB - q0)] 49)).drew := (Below.refl _ _).drew
          have HT : Hid (∀ W', Below (wr.alloc (.cells #[.int .i64 (kd + 1), .int .i64 ep, .int .i64 nz, .int .i64 (lz : Int), .slice (some ⟨b0, o + q0, none⟩) ql (cB - q0)] 49)).heap.size (wr.alloc (.cells #[.int .i64 (kd + 1), .int .i64 ep, .int .i64 nz, .int .i64 (lz : Int), .slice (some ⟨b0, o + q0, none⟩) ql (cB - q0)] 49)) W' → W'.cell? ⟨wr.heap.size, 0, none⟩ = some (.int .i64 (kd + 1)) ∧ W'.cell? ⟨wr.heap.size, 1, none⟩ = some (.int .i64 ep) ∧ W'.cell? ⟨wr.heap.size, 2, none⟩ = some (.int .i64 nz) ∧ W'.cell? ⟨wr.heap.size, 3, none⟩ = some (.int .i64 (lz : Int)) ∧ W'.cell? ⟨wr.heap.size, 4, none⟩ = some (.slice (some ⟨b0, o + q0, none⟩) ql (cB - q0))) := fun W' hb => by
            have h0 : Blk W' wr.heap.size 49 #[.int .i64 (kd + 1), .int .i64 ep, .int .i64 nz, .int .i64 (lz : Int), .slice (some ⟨b0, o + q0, none⟩) ql (cB - q0)] := Blk.below (Blk.new wr _ _) hb (by simp)
            exact ⟨by rw [h0.cell]; rfl, by rw [h0.cell]; rfl, by rw [h0.cell]; rfl, by rw [h0.cell]; rfl, by rw [h0.cell]; rfl⟩
          have hpt := HPt.out (kd + 1) (by rw [if_neg HZ.out])
          have HPv := Lib.hid hpt
          obtain ⟨bm, hbm⟩ : ∃ x, x = (s.part t (needN t.length) i).may := ⟨_, rfl⟩
          have HMay : Hid (∀ W, Calls Tryz.prog 36 #[.agg #[.int .i64 (kd + 1), .int .i64 ep, .int .i64 nz, .int .i64 (lz : Int), .slice (some ⟨b0, o + q0, none⟩) ql (cB - q0)]] W fun e w' => e = .returned (.bool bm) ∧ Below W.heap.size W w') := fun W => by
            have h1 := rmay_any (s.part t (needN t.length) i) (some ⟨b0, o + q0, none⟩) (cB - q0) W
            rw [← hbm, hpt] at h1
            unfold secV at h1
            simp only [HDl.out] at h1
            exact h1
          have HBm := Lib.hid hbm
          have HOw : Hid (∀ W, Below wr.heap.size wr W → W.ownsRow WA.heap.size 49 5 u7 i (rowC rows)) := fun W hb => own_turns HO.out (Turns.of_below hb (fun _ => False)) (fun _ _ h => h)
          have hbr : Below wr.heap.size wr (wr.alloc (.cells #[.int .i64 (kd + 1), .int .i64 ep, .int .i64 nz, .int .i64 (lz : Int), .slice (some ⟨b0, o + q0, none⟩) ql (cB - q0)] 49)) := (Below.refl _ _).alloc (Nat.le_refl _) _
          clear hpt hbm c0 c1 c2 g0 g1 g2 hbz ks y4 y5 y6 e0 e1 e2
          obtain ⟨g0, -, -⟩ := HCb.out _ (hbw.out.alloc hbw.out.size (.cells #[.int .i64 kd, .int .i64 ep, .int .i64 nz, .int .i64 (lz : Int), .slice (some ⟨b0, o + q0, none⟩) ql (cB - q0)] 49))
          rcases bm with _ | _
          · go_wp2_with (first
              | (go_at_call 36; (with_reducible refine (HMay.out _).mono ?_); rintro e w6 ⟨rfl, hb6⟩))
            have HVs := split_bad (s := s) (by rw [HNn.out.2.1]; exact hl) (i := i) (by rw [HNn.out.1]; exact hlt) HBm.out.symm
            go_ret2
            exact ⟨none, 0, by rw [HVs]; rfl, by rw [HVs]; exact SL.nil, HBA.out.trans ((chain7 (chain7 hbN hbD) hb6).mono HBA.out.size)⟩
          · go_wp2_with (first
              | (go_at_call 36; (with_reducible refine (HMay.out _).mono ?_); rintro e w6 ⟨rfl, hb6⟩; obtain ⟨t0, t1, t2, t3, t4⟩ := HT.out _ (chain7 hbD hb6); have ho6 := HOw.out _ ((chain7 (chain7 hbr hbD) hb6)); have hs6 : WA.heap.size ≤ w6.heap.size := (chain7 (chain7 hbN hbD) hb6).size; have hn6 := five_new w6 (.int .i64 (kd + 1)) (.int .i64 ep) (.int .i64 nz) (.int .i64 (lz : Int)) (.slice (some ⟨b0, o + q0, none⟩) ql (cB - q0)) 49)
              | (at_builtin; refine wpList_append_any _ rfl (.tmp 70) (.tmp 72) _ rfl WA.heap.size 49 i0 _ 5 56 Tryz.underlying43 hi0 hz0 hz1 hz2 rfl (by omega) u7 i (rowC rows) rfl (ho6.alloc _) (w6.heap.size + 1) (some ⟨w6.heap.size, 0, none⟩) 1 1 [.int .i64 (kd + 1), .int .i64 ep, .int .i64 nz, .int .i64 (lz : Int), .slice (some ⟨b0, o + q0, none⟩) ql (cB - q0)] rfl hn6 (rowC_five _ _ _ _ _ _ _) (by simp only [maxLen]; omega) (by omega) (by simp; omega) ?_; intro v9 w9 ho9 hg9 hat9))
            have hb9 : Below WA.heap.size WA w9 := ((chain7 (chain7 hbN hbD) hb6).alloc hs6 _).grown hg9 (by simp; omega) (fun j hj => (ho6.lt j hj).1)
            have hsn : rowC rows ++ [.int .i64 (kd + 1), .int .i64 ep, .int .i64 nz, .int .i64 (lz : Int), .slice (some ⟨b0, o + q0, none⟩) ql (cB - q0)] = rowC (rows ++ [(s.part t (needN t.length) i, some ⟨b0, o + q0, none⟩, cB - q0)]) := by
              rw [rowC_snoc, HPv.out]
              unfold secC
              simp only [HDl.out]
            rw [hsn] at ho9
            have hct := HCt.out.snoc HBm.out.symm (A := some ⟨b0, o + q0, none⟩) (c := cB - q0) (by rw [HPv.out]; exact HRB.out)
            clear ho6 hg9 hat9 hn6 t0 t1 t2 t3 t4 hb6
            refine ⟨⟨i + 1, by omega, by go_num, _, hct, ho9, hb9⟩, ?_⟩
            simp [intOf]; omega
      · by_cases hz : i = 0
        · have e0 : decide ((n : Int) < (q2 : Int)) = false := decide_eq_false (by omega)
          have e1 : decide ((q2 : Int) > (n : Int)) = false := decide_eq_false (by omega)
          have e2 : decide (n < q2) = false := decide_eq_false (by omega)
          have ks := fun W => sl_both b0 o n cB q0 q2 (q0 : Int) (q2 : Int) rfl rfl (by omega) (by have := HC.out; omega) (by have := HC.out; omega) W
          rw [show q2 - q0 = ql by omega] at ks
          have z0 : decide ((0 : Int) < (i : Int)) = false := decide_eq_false (by omega)
          have z1 : decide ((i : Int) > 0) = false := decide_eq_false (by omega)
          have z2 : decide (0 < i) = false := decide_eq_false (by omega)
          have HZ := Lib.hid hz
          clear hq0 hq2 hql hlz hnz hz
          go_wp2
          go_region
          have hbN := hbw.out.alloc hbw.out.size (.cells #[.int .i64 kd, .int .i64 ep, .int .i64 nz, .int .i64 (lz : Int), .slice (some ⟨b0, o + q0, none⟩) ql (cB - q0)] 49)
          have hbD : Below (wr.alloc (.cells #[.int .i64 kd, .int .i64 ep, .int .i64 nz, .int .i64 (lz : Int), .slice (some ⟨b0, o + q0, none⟩) ql (cB - q0)] 49)).heap.size (wr.alloc (.cells #[.int .i64 kd, .int .i64 ep, .int .i64 nz, .int .i64 (lz : Int), .slice (some ⟨b0, o + q0, none⟩) ql (cB - q0)] 49)) (wr.alloc (.cells #[.int .i64 kd, .int .i64 ep, .int .i64 nz, .int .i64 (lz : Int), .slice (some ⟨b0, o + q0, none⟩) ql (cB - q0)] 49)).drew := (Below.refl _ _).drew
          have HT : Hid (∀ W', Below (wr.alloc (.cells #[.int .i64 kd, .int .i64 ep, .int .i64 nz, .int .i64 (lz : Int), .slice (some ⟨b0, o + q0, none⟩) ql (cB - q0)] 49)).heap.size (wr.alloc (.cells #[.int .i64 kd, .int .i64 ep, .int .i64 nz, .int .i64 (lz : Int), .slice (some ⟨b0, o + q0, none⟩) ql (cB - q0)] 49)) W' → W'.cell? ⟨wr.heap.size, 0, none⟩ = some (.int .i64 kd) ∧ W'.cell? ⟨wr.heap.size, 1, none⟩ = some (.int .i64 ep) ∧ W'.cell? ⟨wr.heap.size, 2, none⟩ = some (.int .i64 nz) ∧ W'.cell? ⟨wr.heap.size, 3, none⟩ = some (.int .i64 (lz : Int)) ∧ W'.cell? ⟨wr.heap.size, 4, none⟩ = some (.slice (some ⟨b0, o + q0, none⟩) ql (cB - q0))) := fun W' hb => by
            have h0 : Blk W' wr.heap.size 49 #[.int .i64 kd, .int .i64 ep, .int .i64 nz, .int .i64 (lz : Int), .slice (some ⟨b0, o + q0, none⟩) ql (cB - q0)] := Blk.below (Blk.new wr _ _) hb (by simp)
            exact ⟨by rw [h0.cell]; rfl, by rw [h0.cell]; rfl, by rw [h0.cell]; rfl, by rw [h0.cell]; rfl, by rw [h0.cell]; rfl⟩
          have hpt := HPt.out kd (by rw [if_pos HZ.out])
          have HPv := Lib.hid hpt
          obtain ⟨bm, hbm⟩ : ∃ x, x = (s.part t (needN t.length) i).may := ⟨_, rfl⟩
          have HMay : Hid (∀ W, Calls Tryz.prog 36 #[.agg #[.int .i64 kd, .int .i64 ep, .int .i64 nz, .int .i64 (lz : Int), .slice (some ⟨b0, o + q0, none⟩) ql (cB - q0)]] W fun e w' => e = .returned (.bool bm) ∧ Below W.heap.size W w') := fun W => by
            have h1 := rmay_any (s.part t (needN t.length) i) (some ⟨b0, o + q0, none⟩) (cB - q0) W
            rw [← hbm, hpt] at h1
            unfold secV at h1
            simp only [HDl.out] at h1
            exact h1
          have HBm := Lib.hid hbm
          have HOw : Hid (∀ W, Below wr.heap.size wr W → W.ownsRow WA.heap.size 49 5 u7 i (rowC rows)) := fun W hb => own_turns HO.out (Turns.of_below hb (fun _ => False)) (fun _ _ h => h)
          have hbr : Below wr.heap.size wr (wr.alloc (.cells #[.int .i64 kd, .int .i64 ep, .int .i64 nz, .int .i64 (lz : Int), .slice (some ⟨b0, o + q0, none⟩) ql (cB - q0)] 49)) := (Below.refl _ _).alloc (Nat.le_refl _) _
          clear hpt hbm c0 c1 c2 g0 g1 g2 hbz ks y4 y5 y6 e0 e1 e2
          rcases bm with _ | _
          · go_wp2_with (first
              | (go_at_call 36; (with_reducible refine (HMay.out _).mono ?_); rintro e w6 ⟨rfl, hb6⟩))
            have HVs := split_bad (s := s) (by rw [HNn.out.2.1]; exact hl) (i := i) (by rw [HNn.out.1]; exact hlt) HBm.out.symm
            go_ret2
            exact ⟨none, 0, by rw [HVs]; rfl, by rw [HVs]; exact SL.nil, HBA.out.trans ((chain7 (chain7 hbN hbD) hb6).mono HBA.out.size)⟩
          · go_wp2_with (first
              | (go_at_call 36; (with_reducible refine (HMay.out _).mono ?_); rintro e w6 ⟨rfl, hb6⟩; obtain ⟨t0, t1, t2, t3, t4⟩ := HT.out _ (chain7 hbD hb6); have ho6 := HOw.out _ ((chain7 (chain7 hbr hbD) hb6)); have hs6 : WA.heap.size ≤ w6.heap.size := (chain7 (chain7 hbN hbD) hb6).size; have hn6 := five_new w6 (.int .i64 kd) (.int .i64 ep) (.int .i64 nz) (.int .i64 (lz : Int)) (.slice (some ⟨b0, o + q0, none⟩) ql (cB - q0)) 49)
              | (at_builtin; refine wpList_append_any _ rfl (.tmp 70) (.tmp 72) _ rfl WA.heap.size 49 i0 _ 5 56 Tryz.underlying43 hi0 hz0 hz1 hz2 rfl (by omega) u7 i (rowC rows) rfl (ho6.alloc _) (w6.heap.size + 1) (some ⟨w6.heap.size, 0, none⟩) 1 1 [.int .i64 kd, .int .i64 ep, .int .i64 nz, .int .i64 (lz : Int), .slice (some ⟨b0, o + q0, none⟩) ql (cB - q0)] rfl hn6 (rowC_five _ _ _ _ _ _ _) (by simp only [maxLen]; omega) (by omega) (by simp; omega) ?_; intro v9 w9 ho9 hg9 hat9))
            have hb9 : Below WA.heap.size WA w9 := ((chain7 (chain7 hbN hbD) hb6).alloc hs6 _).grown hg9 (by simp; omega) (fun j hj => (ho6.lt j hj).1)
            have hsn : rowC rows ++ [.int .i64 kd, .int .i64 ep, .int .i64 nz, .int .i64 (lz : Int), .slice (some ⟨b0, o + q0, none⟩) ql (cB - q0)] = rowC (rows ++ [(s.part t (needN t.length) i, some ⟨b0, o + q0, none⟩, cB - q0)]) := by
              rw [rowC_snoc, HPv.out]
              unfold secC
              simp only [HDl.out]
            rw [hsn] at ho9
            have hct := HCt.out.snoc HBm.out.symm (A := some ⟨b0, o + q0, none⟩) (c := cB - q0) (by rw [HPv.out]; exact HRB.out)
            clear ho6 hg9 hat9 hn6 t0 t1 t2 t3 t4 hb6
            refine ⟨⟨i + 1, by omega, by go_num, _, hct, ho9, hb9⟩, ?_⟩
            simp [intOf]; omega
        · have e0 : decide ((n : Int) < (q2 : Int)) = false := decide_eq_false (by omega)
          have e1 : decide ((q2 : Int) > (n : Int)) = false := decide_eq_false (by omega)
          have e2 : decide (n < q2) = false := decide_eq_false (by omega)
          have ks := fun W => sl_both b0 o n cB q0 q2 (q0 : Int) (q2 : Int) rfl rfl (by omega) (by have := HC.out; omega) (by have := HC.out; omega) W
          rw [show q2 - q0 = ql by omega] at ks
          have z0 : decide ((0 : Int) < (i : Int)) = true := decide_eq_true (by omega)
          have z1 : decide ((i : Int) > 0) = true := decide_eq_true (by omega)
          have z2 : decide (0 < i) = true := decide_eq_true (by omega)
          have HZ := Lib.hid hz
          have y8 : IntKind.i64.wrap (kd + 1) = kd + 1 := by
            have h0 := (Sd.may_iff _).1 (HCt.out.2.2.1 0 (by omega))
            have h1 : 1 ≤ s.kind := h0.1
            have h2 : s.kind ≤ 255 := h0.2.1
            have h3 := HK.out.1
            exact IntWalk.i64_in _ (by omega)
          clear hq0 hq2 hql hlz hnz hz
          go_wp2
          go_region
          have hbN := hbw.out.alloc hbw.out.size (.cells #[.int .i64 (kd + 1), .int .i64 ep, .int .i64 nz, .int .i64 (lz : Int), .slice (some ⟨b0, o + q0, none⟩) ql (cB - q0)] 49)
          have hbD : Below (wr.alloc (.cells #[.int .i64 (kd + 1), .int .i64 ep, .int .i64 nz, .int .i64 (lz : Int), .slice (some ⟨b0, o + q0, none⟩) ql (cB - q0)] 49)).heap.size (wr.alloc (.cells #[.int .i64 (kd + 1), .int .i64 ep, .int .i64 nz, .int .i64 (lz : Int), .slice (some ⟨b0, o + q0, none⟩) ql (cB - q0)] 49)) (wr.alloc (.cells #[.int .i64 (kd + 1), .int .i64 ep, .int .i64 nz, .int .i64 (lz : Int), .slice (some ⟨b0, o + q0, none⟩) ql (cB - q0)] 49)).drew := (Below.refl _ _).drew
          have HT : Hid (∀ W', Below (wr.alloc (.cells #[.int .i64 (kd + 1), .int .i64 ep, .int .i64 nz, .int .i64 (lz : Int), .slice (some ⟨b0, o + q0, none⟩) ql (cB - q0)] 49)).heap.size (wr.alloc (.cells #[.int .i64 (kd + 1), .int .i64 ep, .int .i64 nz, .int .i64 (lz : Int), .slice (some ⟨b0, o + q0, none⟩) ql (cB - q0)] 49)) W' → W'.cell? ⟨wr.heap.size, 0, none⟩ = some (.int .i64 (kd + 1)) ∧ W'.cell? ⟨wr.heap.size, 1, none⟩ = some (.int .i64 ep) ∧ W'.cell? ⟨wr.heap.size, 2, none⟩ = some (.int .i64 nz) ∧ W'.cell? ⟨wr.heap.size, 3, none⟩ = some (.int .i64 (lz : Int)) ∧ W'.cell? ⟨wr.heap.size, 4, none⟩ = some (.slice (some ⟨b0, o + q0, none⟩) ql (cB - q0))) := fun W' hb => by
            have h0 : Blk W' wr.heap.size 49 #[.int .i64 (kd + 1), .int .i64 ep, .int .i64 nz, .int .i64 (lz : Int), .slice (some ⟨b0, o + q0, none⟩) ql (cB - q0)] := Blk.below (Blk.new wr _ _) hb (by simp)
            exact ⟨by rw [h0.cell]; rfl, by rw [h0.cell]; rfl, by rw [h0.cell]; rfl, by rw [h0.cell]; rfl, by rw [h0.cell]; rfl⟩
          have hpt := HPt.out (kd + 1) (by rw [if_neg HZ.out])
          have HPv := Lib.hid hpt
          obtain ⟨bm, hbm⟩ : ∃ x, x = (s.part t (needN t.length) i).may := ⟨_, rfl⟩
          have HMay : Hid (∀ W, Calls Tryz.prog 36 #[.agg #[.int .i64 (kd + 1), .int .i64 ep, .int .i64 nz, .int .i64 (lz : Int), .slice (some ⟨b0, o + q0, none⟩) ql (cB - q0)]] W fun e w' => e = .returned (.bool bm) ∧ Below W.heap.size W w') := fun W => by
            have h1 := rmay_any (s.part t (needN t.length) i) (some ⟨b0, o + q0, none⟩) (cB - q0) W
            rw [← hbm, hpt] at h1
            unfold secV at h1
            simp only [HDl.out] at h1
            exact h1
          have HBm := Lib.hid hbm
          have HOw : Hid (∀ W, Below wr.heap.size wr W → W.ownsRow WA.heap.size 49 5 u7 i (rowC rows)) := fun W hb => own_turns HO.out (Turns.of_below hb (fun _ => False)) (fun _ _ h => h)
          have hbr : Below wr.heap.size wr (wr.alloc (.cells #[.int .i64 (kd + 1), .int .i64 ep, .int .i64 nz, .int .i64 (lz : Int), .slice (some ⟨b0, o + q0, none⟩) ql (cB - q0)] 49)) := (Below.refl _ _).alloc (Nat.le_refl _) _
          clear hpt hbm c0 c1 c2 g0 g1 g2 hbz ks y4 y5 y6 e0 e1 e2
          obtain ⟨g0, -, -⟩ := HCb.out _ (hbw.out.alloc hbw.out.size (.cells #[.int .i64 kd, .int .i64 ep, .int .i64 nz, .int .i64 (lz : Int), .slice (some ⟨b0, o + q0, none⟩) ql (cB - q0)] 49))
          rcases bm with _ | _
          · go_wp2_with (first
              | (go_at_call 36; (with_reducible refine (HMay.out _).mono ?_); rintro e w6 ⟨rfl, hb6⟩))
            have HVs := split_bad (s := s) (by rw [HNn.out.2.1]; exact hl) (i := i) (by rw [HNn.out.1]; exact hlt) HBm.out.symm
            go_ret2
            exact ⟨none, 0, by rw [HVs]; rfl, by rw [HVs]; exact SL.nil, HBA.out.trans ((chain7 (chain7 hbN hbD) hb6).mono HBA.out.size)⟩
          · go_wp2_with (first
              | (go_at_call 36; (with_reducible refine (HMay.out _).mono ?_); rintro e w6 ⟨rfl, hb6⟩; obtain ⟨t0, t1, t2, t3, t4⟩ := HT.out _ (chain7 hbD hb6); have ho6 := HOw.out _ ((chain7 (chain7 hbr hbD) hb6)); have hs6 : WA.heap.size ≤ w6.heap.size := (chain7 (chain7 hbN hbD) hb6).size; have hn6 := five_new w6 (.int .i64 (kd + 1)) (.int .i64 ep) (.int .i64 nz) (.int .i64 (lz : Int)) (.slice (some ⟨b0, o + q0, none⟩) ql (cB - q0)) 49)
              | (at_builtin; refine wpList_append_any _ rfl (.tmp 70) (.tmp 72) _ rfl WA.heap.size 49 i0 _ 5 56 Tryz.underlying43 hi0 hz0 hz1 hz2 rfl (by omega) u7 i (rowC rows) rfl (ho6.alloc _) (w6.heap.size + 1) (some ⟨w6.heap.size, 0, none⟩) 1 1 [.int .i64 (kd + 1), .int .i64 ep, .int .i64 nz, .int .i64 (lz : Int), .slice (some ⟨b0, o + q0, none⟩) ql (cB - q0)] rfl hn6 (rowC_five _ _ _ _ _ _ _) (by simp only [maxLen]; omega) (by omega) (by simp; omega) ?_; intro v9 w9 ho9 hg9 hat9))
            have hb9 : Below WA.heap.size WA w9 := ((chain7 (chain7 hbN hbD) hb6).alloc hs6 _).grown hg9 (by simp; omega) (fun j hj => (ho6.lt j hj).1)
            have hsn : rowC rows ++ [.int .i64 (kd + 1), .int .i64 ep, .int .i64 nz, .int .i64 (lz : Int), .slice (some ⟨b0, o + q0, none⟩) ql (cB - q0)] = rowC (rows ++ [(s.part t (needN t.length) i, some ⟨b0, o + q0, none⟩, cB - q0)]) := by
              rw [rowC_snoc, HPv.out]
              unfold secC
              simp only [HDl.out]
            rw [hsn] at ho9
            have hct := HCt.out.snoc HBm.out.symm (A := some ⟨b0, o + q0, none⟩) (c := cB - q0) (by rw [HPv.out]; exact HRB.out)
            clear ho6 hg9 hat9 hn6 t0 t1 t2 t3 t4 hb6
            refine ⟨⟨i + 1, by omega, by go_num, _, hct, ho9, hb9⟩, ?_⟩
            simp [intOf]; omega
    · obtain rfl : i = N := by omega
      have dl : decide ((i : Int) < (i : Int)) = false := decide_eq_false (by omega)
      obtain ⟨A9, c9, rfl⟩ := own_slice7 HO.out
      have hVs : splitS s t = ((List.range i).map (s.part t i), 0) := by
        have := split_ok (s := s) (by rw [HNn.out.2.1]; exact hl) (by rw [HNn.out.1]; have := HNn.out.2.2; omega) (fun j hj => HCt.out.2.2.1 j (by rw [HNn.out.1] at hj; exact hj))
        rw [HNn.out.1] at this
        exact this
      have hrows : rows.map (·.1) = (List.range i).map (s.part t i) := by have := HCt.out.2.1; rw [HNn.out.1] at this; exact this
      have hbf : Below w.heap.size w wr := HBA.out.trans (hbw.out.mono HBA.out.size)
      have HG : Hid (GivesSL (splitS s t) w (.returned (.tuple #[.slice A9 i c9, .int .i64 0])) wr) := by
        refine ⟨A9, c9, ?_, ?_, hbf⟩
        · rw [hVs]; simp
        · rw [hVs, ← hrows]
          exact SL.of_own HO.out HCt.out.1.symm (fun x hx => rb_up7 (HCt.out.2.2.2 x hx) hbf)
      clear hVs hrows hbf HO HCt hbw
      go_wp2
      go_ret2
      exact HG.out
theorem rsplit_any (s : Sd) (A : Option Addr) (c : Nat) (t : List UInt8) (B : Option Addr) (cB : Nat) (w : World) (hl : t.length ≤ 1000000) (hr : RB w w.heap.size B t) (hc : t.length ≤ cB) (hcm : cB ≤ 9223372036854775807) :
    Calls Tryz.prog 61 #[secV s A c, .slice B t.length cB] w (GivesSL (splitS s t) w) := by
  by_cases h0 : t.length = 0
  · exact rsplit_zero s A c t _ B cB w rfl h0
  · by_cases hb : s.number < 0 ∨ 2147483647 < s.number
    · exact rsplit_num s A c t _ B cB w rfl h0 hl hb
    · exact rsplit_in s A c t _ B cB w rfl h0 hl (by omega) (by omega) hr hc hcm
end
section
open Go.RowKit
theorem Tryz.waitInfo : (Tryz.prog.info? 109).map (fun i => (i.zero, i.size, i.bytes)) = some (some (.agg #[.int .i64 0, .slice none 0 0]), 2, 32) := by kernel_rfl
theorem pair_new (W : World) (x y : Value) (t : TypeId) : Reads (W.alloc (.cells #[x, y] t)) (W.heap.size + 1) 2 (some ⟨W.heap.size, 0, none⟩) 1 [x, y] := by
  refine ⟨by simp, fun h0 => ⟨_, rfl, by simp, fun j u hu => ?_⟩⟩
  have h := heap_alloc_new W (.cells #[x, y] t)
  have e : (⟨W.heap.size, 0, none⟩ : Addr).add j = ⟨W.heap.size, j, none⟩ := by unfold Addr.add; split <;> simp_all
  rw [e, (blk_cell h j).1]
  simpa using hu
section
variable {w W : World} {g : Nat} {G B : Nat → Prop} {d : Dk} {s cs : Nat} {V : Value} {hs hv : List Value}
theorem RD.under (h : RD w g G B d s cs V hs hv) (hb : Below w.heap.size w W) : RD W g G B d s cs V hs hv := h.turns (Turns.of_below hb (fun _ => False)) (fun _ _ h => h) (fun _ _ h => h)
theorem rwrite_c1 (h : RD w g G B d s cs V hs hv) (hb : Below w.heap.size w W) (o : Obj) : (W.alloc o).cell? ⟨g, 1, none⟩ = some V := (h.under (hb.alloc hb.size o)).r1
theorem rwrite_own (h : RD w g G B d s cs V hs hv) (hb : Below w.heap.size w W) (o : Obj) : (W.alloc o).ownsRow 0 109 2 V d.waits.length (rwc d.waits hv) := (h.under (hb.alloc hb.size o)).wait
theorem rwrite_new (h : RD w g G B d s cs V hs hv) (hb : Below w.heap.size w W) {L : List UInt8} (h256 : L.length = 256) {o : Obj} {v1 : Value} {w1 : World} (ho : w1.ownsRow W.heap.size 5 1 v1 (0 + 256) ([] ++ cells L)) (hg : (W.alloc o).grownBy w1 (Value.slice (some ⟨W.heap.size, 0, none⟩) 0 0).ownBlock) :
    ∃ q cq, v1 = .slice (some ⟨q, 0, none⟩) 256 cq ∧ Below w.heap.size w w1 ∧ w1.cell? ⟨g, 1, none⟩ = some V ∧ Hdr w1 (fun k => k = q) (.slice (some ⟨q, 0, none⟩) 256 cq) L ∧ w.heap.size ≤ q ∧ q < w1.heap.size := by
  simp only [Nat.zero_add, List.nil_append] at ho
  obtain ⟨A3, c3, rfl⟩ := own_form ho
  have hO : Own w1 W.heap.size A3 L c3 := by unfold Own; rw [h256]; exact ho
  obtain ⟨q, rfl, hA, hl1, hl2, hl3⟩ := own_arr hO (by omega)
  have hb1 : Below w.heap.size w w1 := (hb.alloc hb.size o).grown hg (by have := hb.size; simp; omega) (by have := hb.size; simp [Value.ownBlock]; omega)
  exact ⟨q, c3, rfl, hb1, (h.under hb1).r1, ⟨h256, q, 0, c3, rfl, by omega, hl2, rfl, hA.all⟩, by have := hb.size; omega, hA.lt⟩
theorem rwrite_mid (h : RD w g G B d s cs V hs hv) (hb : Below w.heap.size w W) {q cq : Nat} {L : List UInt8} (hH : Hdr W (fun k => k = q) (.slice (some ⟨q, 0, none⟩) 256 cq) L) (hq1 : w.heap.size ≤ q) (hq2 : q < W.heap.size) (k : Nat) (hk : k < d.safe.length)
    {o : Obj} {V' : Value} {w5 : World} (ho : w5.ownsRow 0 109 2 V' (d.waits.length + 1) (rwc d.waits hv ++ [.int .i64 (k : Int), .slice (some ⟨q, 0, none⟩) 256 cq])) (hg : (W.alloc o).grownBy w5 V.ownBlock) (hat : V'.ownBlock = V.ownBlock ∨ V'.ownBlock = some (W.alloc o).heap.size) :
    w5.cell? ⟨g, 1, none⟩ = some V ∧ w5.frozen? ⟨g, 1, none⟩ = false ∧ Hid (RDeeds { d with waits := d.waits ++ [(k, L)] } G B w (w5.setCell ⟨g, 1, none⟩ V') g) := by
  have hZ := h.under (hb.alloc hb.size o)
  have t1 : Turns w (W.alloc o) G G := (Turns.of_below hb G).trans (Turns.alloc o G)
  have hHZ : Hdr (W.alloc o) (fun k => k = q) (.slice (some ⟨q, 0, none⟩) 256 cq) L := hH.turns (Turns.alloc o (fun _ => False)) (fun _ _ h => h)
  have hqz : q < (W.alloc o).heap.size := by simp; omega
  have hwz : w.heap.size ≤ (W.alloc o).heap.size := t1.size
  generalize W.alloc o = Z at hZ t1 hHZ hg hat hqz hwz
  obtain ⟨n1, n2, n3⟩ := hZ.ne
  have hrow : ∀ k, V.ownBlock = some k → G k := h.gv
  have t5 : Turns w w5 G G := t1.trans (Turns.grown hg (fun k hk => hrow k hk))
  have t6 : Turns w (w5.setCell ⟨g, 1, none⟩ V') G G := t5.trans (Turns.set_ h.gg 1 V')
  have tz : Turns Z (w5.setCell ⟨g, 1, none⟩ V') G G := (Turns.grown hg (fun k hk => hrow k hk)).trans (Turns.set_ h.gg 1 V')
  have b5 : Blk w5 g 75 (refCells (.slice (some ⟨s, 0, none⟩) d.safe.length cs) V d) := hZ.blk.grown hg (fun e => n2 e.symm)
  have hV'g : V'.ownBlock ≠ some g := own_blk_ne ho b5 (by decide)
  have hl : hv.length = d.waits.length := by have := h.hwait.1; rwa [List.length_map] at this
  have hsn : rwc d.waits hv ++ [.int .i64 (k : Int), .slice (some ⟨q, 0, none⟩) 256 cq] = rwc (d.waits ++ [(k, L)]) (hv ++ [.slice (some ⟨q, 0, none⟩) 256 cq]) := (rwc_snoc d.waits hv hl (k, L) (.slice (some ⟨q, 0, none⟩) 256 cq)).symm
  rw [hsn] at ho
  have hBG : ∀ k, B k → ¬ G k := fun k hk hg' => h.gb k hg' hk
  have hnew : ∀ k, V'.ownBlock = some k → (G k ∧ k < w.heap.size) ∨ Z.heap.size ≤ k := fun j hj => by
    rcases hat with e | e
    · exact .inl ⟨h.gv _ (e ▸ hj), h.glt _ (h.gv _ (e ▸ hj))⟩
    · rw [e] at hj; injection hj with hj; exact .inr (by omega)
  have hqG : ¬ G q := fun hg' => by have := h.glt q hg'; omega
  refine ⟨by rw [b5.cell]; rfl, b5.frozen 1, (fun k => G k ∨ V'.ownBlock = some k), (fun k => B k ∨ k = q), ⟨s, cs, V', hs, hv ++ [.slice (some ⟨q, 0, none⟩) 256 cq], ?_⟩, t6.foot_ (fun j hj => ?_), fun j hj => ?_⟩
  · refine ⟨b5.set_ 1 V', ?_, ?_, ?_, ?_, .inl h.gg, .inl h.gs, fun j hj => .inr hj, fun j hj => ?_, fun j hj => ?_, fun j hj hb' => ?_, ⟨⟨h.good.fit.1, fun x hx => ?_⟩, h.good.few, h.good.many, h.good.left⟩⟩
    · have h1 := own_turns hZ.safe (Turns.grown (F := fun k => V.ownBlock = some k) hg (fun k hk => hk)) (fun k hk e => n3 (by simp [Value.ownBlock] at hk; rw [e, ← hk]))
      exact own_turns h1 (turns_own w5 g 1 V') (fun k hk e => n1 (by simp [Value.ownBlock] at hk; omega))
    · exact (hZ.hsafe.turns tz hBG).wide (fun _ h => .inl h)
    · have h1 := own_turns ho (turns_own w5 g 1 V') (fun k hk e => hV'g (by rw [hk, e]))
      simpa using h1
    · rw [show ({ d with waits := d.waits ++ [(k, L)] } : Dk).waits.map (·.2) = d.waits.map (·.2) ++ [L] by simp]
      exact ((hZ.hwait.turns tz hBG).wide (fun _ h => .inl h)).snoc ((hHZ.turns tz (fun k hk hg' => hqG (hk ▸ hg'))).wide (fun _ h => .inr h))
    · rcases hj with h1 | h1
      · exact Nat.lt_of_lt_of_le (h.glt j h1) t6.size
      · exact Nat.lt_of_lt_of_le (own_lt ho h1).1 (by simp [World.setCell])
    · rcases hj with h1 | h1
      · exact Nat.lt_of_lt_of_le (h.blt j h1) t6.size
      · rw [h1]; exact Nat.lt_of_lt_of_le hqz tz.size
    · rcases hj with h1 | h1
      · rcases hb' with h2 | h2
        · exact h.gb j h1 h2
        · exact hqG (h2 ▸ h1)
      · rcases hnew j h1 with h3 | h3
        · rcases hb' with h2 | h2
          · exact h.gb j h3.1 h2
          · exact hqG (h2 ▸ h3.1)
        · rcases hb' with h2 | h2
          · have := h.blt j h2; omega
          · omega
    · rcases List.mem_append.1 hx with h1 | h1
      · exact h.good.fit.2 x h1
      · rw [List.mem_singleton] at h1; subst h1; exact ⟨hk, hH.1⟩
  · rcases hj with h1 | h1
    · exact .inl h1
    · rcases hnew j h1 with h3 | h3
      · exact .inl h3.1
      · exact .inr (by omega)
  · rcases hj with h1 | h1
    · exact .inl h1
    · exact .inr (by omega)
end
theorem rwrite_in {w : World} {g : Nat} {G B : Nat → Prop} {d : Dk} (h0 : RDisk w g G B d) (k : Nat) (hk : k < d.safe.length) (ho : d.off = false) (hl : d.load ≤ 100000)
    (L : List UInt8) (A : Option Addr) (c : Nat) (hr : RB w w.heap.size A L) (h256 : L.length = 256) :
    Calls Tryz.prog 62 #[.pointer (some ⟨g, 0, none⟩), .int .i64 (k : Int), .slice A 256 c] w fun e w' => e = .returned (.int .i64 (d.write (k : Int) L).2) ∧ RDeeds (d.write (k : Int) L).1 G B w w' g := by
  have n0 := fun w' => Tryz.notTrue w'
  have n1 := fun w' => Tryz.notFalse w'
  have ht : d.there (k : Int) = true := by unfold Dk.there; exact decide_eq_true (by omega)
  have HTh : Hid (Calls Tryz.prog 76 #[.pointer (some ⟨g, 0, none⟩), .int .i64 (k : Int)] w fun e w' => e = .returned (.bool true) ∧ w = w') := by
    have := there_any h0 (k : Int)
    rwa [ht] at this
  obtain ⟨e1, q0, hq⟩ : ∃ e1 q, Dk.deed { d with waits := d.waits ++ [(k, L)] } = (e1, q) := ⟨_, _, rfl⟩
  have HW : Hid (d.write (k : Int) L = Dk.wrote (e1, q0)) := by
    show _ = _
    rw [← hq]; exact Dk.write_yes ho ht h256
  have HFa : Hid (∀ (W : World) (G' B' : Nat → Prop), RDisk W g G' B' { d with waits := d.waits ++ [(k, L)] } → Calls Tryz.prog 79 #[.pointer (some ⟨g, 0, none⟩)] W fun e w' => e = .returned (.bool q0) ∧ RSame e1 G' B' W w' g) := fun W G' B' hp => by
    have := deed_any hp
    rwa [hq] at this
  have HWr : Hid (e1.writes < 1000000) := by
    have e : e1.writes = d.writes := by
      have : (Dk.deed { d with waits := d.waits ++ [(k, L)] }).1.writes = d.writes := by
        unfold Dk.deed
        split
        · rfl
        · split <;> rfl
      rwa [hq] at this
    show e1.writes < 1000000
    unfold Dk.load at hl
    omega
  obtain ⟨i0, hi0, hz0, hz1, hz2⟩ := info_parts Tryz.waitInfo
  obtain ⟨i1, hi1, hy0, hy1, hy2⟩ := info_parts Tryz.info5
  obtain ⟨s, cs, V, hs, hv, h⟩ := h0
  have r3 : w.cell? ⟨g, 3, none⟩ = some (.bool false) := by rw [← ho]; exact h.r3
  have H := Lib.hid h
  have HK := Lib.hid hk
  have H256 := Lib.hid h256
  have u1 : d.waits.length ≤ 100000 := by unfold Dk.load at hl; omega
  have HRd : Hid (∀ W, Below w.heap.size w W → Reads (W.alloc (.cells #[] 5)) w.heap.size 1 A 256 (cells L)) := fun W hb => by
    have h1 : RB W w.heap.size A L := hr.below hb
    have h2 := h1.alloc hb.size (.cells #[] 5)
    unfold RB at h2
    rw [h256] at h2
    exact h2
  clear h hk ho ht hq hl hr h256
  rcases q0 with _ | _
  all_goals
    go_enter Tryz.func62, Tryz.ntmps62
    go_wp2_with (first
      | (go_at_call 76; (with_reducible refine HTh.out.mono ?_); rintro e w1 ⟨rfl, rfl⟩))
    have hbW : Below w.heap.size w w.drew := (Below.refl _ _).drew
    have c1 : w.drew.cell? ⟨g, 1, none⟩ = some V := H.out.r1
    refine region_T (fun W => W.cell? ⟨g, 1, none⟩ = some V) (fun j => decide (12 ≤ j)) (by kernel_rfl) ?_
    generalize w.drew = W at hbW c1 ⊢
    have c1a := rwrite_c1 H.out hbW (.cells #[] 5)
    refine any_asT (a' := ⟨#[.pointer (some ⟨g, 0, none⟩), .int .i64 (k : Int), .slice A 256 c, undef, undef, undef, .int .i64 0, .bool false, .pointer (some ⟨g, 0, none⟩), .pointer (some ⟨g, 0, none⟩), .pointer (some ⟨g, 3, none⟩), .bool false, .bool false, .pointer (some ⟨g, 0, none⟩), .int .i64 (k : Int), .bool true, .bool false, .bool false, .slice A 256 c, .int .i64 256, .bool false, undef, undef, undef, undef, undef, undef, undef, undef, undef, undef, undef, undef, undef, undef, undef, undef, undef, undef, undef, undef, undef, undef, undef, undef, undef, undef], []⟩) (by kernel_rfl) (listed' := #[false, false, false, false, false, false, false, false, false, false, false, false, false, false, false]) (by kernel_rfl) ?_
    refine any_take (i := 0) (.pointer (some ⟨g, 0, none⟩)) rfl (by kernel_rfl) (by kernel_rfl) (by kernel_rfl) rfl (by kernel_rfl) (by kernel_rfl) (fun W hW => by kernel_rfl) c1 (listed' := #[true, false, false, false, false, false, false, false, false, false, false, false, false, false, false]) (a' := ⟨#[.pointer (some ⟨g, 0, none⟩), .int .i64 (k : Int), .slice A 256 c, undef, undef, undef, .int .i64 0, .bool false, .pointer (some ⟨g, 0, none⟩), .pointer (some ⟨g, 0, none⟩), .pointer (some ⟨g, 3, none⟩), .bool false, .bool false, .pointer (some ⟨g, 0, none⟩), .int .i64 (k : Int), .bool true, .bool false, .bool false, .slice A 256 c, .int .i64 256, .bool false, .pointer (some ⟨g, 0, none⟩), undef, undef, undef, undef, undef, undef, undef, undef, undef, undef, undef, undef, undef, undef, undef, undef, undef, undef, undef, undef, undef, undef, undef, undef, undef], []⟩) (by kernel_rfl) (by kernel_rfl) (fun _ _ _ h => h) ?_
    refine any_take (i := 1) (.pointer (some ⟨g, 0, none⟩)) rfl (by kernel_rfl) (by kernel_rfl) (by kernel_rfl) rfl (by kernel_rfl) (by kernel_rfl) (fun W hW => by kernel_rfl) c1 (listed' := #[true, true, false, false, false, false, false, false, false, false, false, false, false, false, false]) (a' := ⟨#[.pointer (some ⟨g, 0, none⟩), .int .i64 (k : Int), .slice A 256 c, undef, undef, undef, .int .i64 0, .bool false, .pointer (some ⟨g, 0, none⟩), .pointer (some ⟨g, 0, none⟩), .pointer (some ⟨g, 3, none⟩), .bool false, .bool false, .pointer (some ⟨g, 0, none⟩), .int .i64 (k : Int), .bool true, .bool false, .bool false, .slice A 256 c, .int .i64 256, .bool false, .pointer (some ⟨g, 0, none⟩), .pointer (some ⟨g, 0, none⟩), undef, undef, undef, undef, undef, undef, undef, undef, undef, undef, undef, undef, undef, undef, undef, undef, undef, undef, undef, undef, undef, undef, undef, undef], []⟩) (by kernel_rfl) (by kernel_rfl) (fun _ _ _ h => h) ?_
    refine any_take (i := 2) (.pointer (some ⟨g, 0, none⟩)) rfl (by kernel_rfl) (by kernel_rfl) (by kernel_rfl) rfl (by kernel_rfl) (by kernel_rfl) (fun W hW => by kernel_rfl) c1 (listed' := #[true, true, true, false, false, false, false, false, false, false, false, false, false, false, false]) (a' := ⟨#[.pointer (some ⟨g, 0, none⟩), .int .i64 (k : Int), .slice A 256 c, undef, undef, undef, .int .i64 0, .bool false, .pointer (some ⟨g, 0, none⟩), .pointer (some ⟨g, 0, none⟩), .pointer (some ⟨g, 3, none⟩), .bool false, .bool false, .pointer (some ⟨g, 0, none⟩), .int .i64 (k : Int), .bool true, .bool false, .bool false, .slice A 256 c, .int .i64 256, .bool false, .pointer (some ⟨g, 0, none⟩), .pointer (some ⟨g, 0, none⟩), .pointer (some ⟨g, 0, none⟩), undef, undef, undef, undef, undef, undef, undef, undef, undef, undef, undef, undef, undef, undef, undef, undef, undef, undef, undef, undef, undef, undef, undef], []⟩) (by kernel_rfl) (by kernel_rfl) (fun _ _ _ h => h) ?_
    refine any_take (i := 3) (.pointer (some ⟨g, 1, none⟩)) rfl (by kernel_rfl) (by kernel_rfl) (by kernel_rfl) rfl (by kernel_rfl) (by kernel_rfl) (fun W hW => by kernel_rfl) c1 (listed' := #[true, true, true, true, false, false, false, false, false, false, false, false, false, false, false]) (a' := ⟨#[.pointer (some ⟨g, 0, none⟩), .int .i64 (k : Int), .slice A 256 c, undef, undef, undef, .int .i64 0, .bool false, .pointer (some ⟨g, 0, none⟩), .pointer (some ⟨g, 0, none⟩), .pointer (some ⟨g, 3, none⟩), .bool false, .bool false, .pointer (some ⟨g, 0, none⟩), .int .i64 (k : Int), .bool true, .bool false, .bool false, .slice A 256 c, .int .i64 256, .bool false, .pointer (some ⟨g, 0, none⟩), .pointer (some ⟨g, 0, none⟩), .pointer (some ⟨g, 0, none⟩), .pointer (some ⟨g, 1, none⟩), undef, undef, undef, undef, undef, undef, undef, undef, undef, undef, undef, undef, undef, undef, undef, undef, undef, undef, undef, undef, undef, undef], []⟩) (by kernel_rfl) (by kernel_rfl) (fun _ _ _ h => h) ?_
    refine any_take (i := 4) (V) rfl (by kernel_rfl) (by kernel_rfl) (by kernel_rfl) rfl (by kernel_rfl) (by kernel_rfl) (fun W hW => cell_run 71 (.tmp 24) ⟨g, 1, none⟩ V _ (by kernel_rfl) (by kernel_rfl) hW Tryz.underlying71 rfl (by kernel_rfl)) c1 (listed' := #[true, true, true, true, true, false, false, false, false, false, false, false, false, false, false]) (a' := ⟨#[.pointer (some ⟨g, 0, none⟩), .int .i64 (k : Int), .slice A 256 c, undef, undef, undef, .int .i64 0, .bool false, .pointer (some ⟨g, 0, none⟩), .pointer (some ⟨g, 0, none⟩), .pointer (some ⟨g, 3, none⟩), .bool false, .bool false, .pointer (some ⟨g, 0, none⟩), .int .i64 (k : Int), .bool true, .bool false, .bool false, .slice A 256 c, .int .i64 256, .bool false, .pointer (some ⟨g, 0, none⟩), .pointer (some ⟨g, 0, none⟩), .pointer (some ⟨g, 0, none⟩), .pointer (some ⟨g, 1, none⟩), V, undef, undef, undef, undef, undef, undef, undef, undef, undef, undef, undef, undef, undef, undef, undef, undef, undef, undef, undef, undef, undef], []⟩) (by kernel_rfl) (by kernel_rfl) (fun _ _ _ h => h) ?_
    refine any_take (i := 5) (.int .i64 (k : Int)) rfl (by kernel_rfl) (by kernel_rfl) (by kernel_rfl) rfl (by kernel_rfl) (by kernel_rfl) (fun W hW => by kernel_rfl) c1 (listed' := #[true, true, true, true, true, true, false, false, false, false, false, false, false, false, false]) (a' := ⟨#[.pointer (some ⟨g, 0, none⟩), .int .i64 (k : Int), .slice A 256 c, undef, undef, undef, .int .i64 0, .bool false, .pointer (some ⟨g, 0, none⟩), .pointer (some ⟨g, 0, none⟩), .pointer (some ⟨g, 3, none⟩), .bool false, .bool false, .pointer (some ⟨g, 0, none⟩), .int .i64 (k : Int), .bool true, .bool false, .bool false, .slice A 256 c, .int .i64 256, .bool false, .pointer (some ⟨g, 0, none⟩), .pointer (some ⟨g, 0, none⟩), .pointer (some ⟨g, 0, none⟩), .pointer (some ⟨g, 1, none⟩), V, .int .i64 (k : Int), undef, undef, undef, undef, undef, undef, undef, undef, undef, undef, undef, undef, undef, undef, undef, undef, undef, undef, undef, undef], []⟩) (by kernel_rfl) (by kernel_rfl) (fun _ _ _ h => h) ?_
    refine any_take (i := 7) (.slice A 256 c) rfl (by kernel_rfl) (by kernel_rfl) (by kernel_rfl) rfl (by kernel_rfl) (by kernel_rfl) (fun W hW => by kernel_rfl) c1 (listed' := #[true, true, true, true, true, true, false, true, false, false, false, false, false, false, false]) (a' := ⟨#[.pointer (some ⟨g, 0, none⟩), .int .i64 (k : Int), .slice A 256 c, undef, undef, undef, .int .i64 0, .bool false, .pointer (some ⟨g, 0, none⟩), .pointer (some ⟨g, 0, none⟩), .pointer (some ⟨g, 3, none⟩), .bool false, .bool false, .pointer (some ⟨g, 0, none⟩), .int .i64 (k : Int), .bool true, .bool false, .bool false, .slice A 256 c, .int .i64 256, .bool false, .pointer (some ⟨g, 0, none⟩), .pointer (some ⟨g, 0, none⟩), .pointer (some ⟨g, 0, none⟩), .pointer (some ⟨g, 1, none⟩), V, .int .i64 (k : Int), undef, .slice A 256 c, undef, undef, undef, undef, undef, undef, undef, undef, undef, undef, undef, undef, undef, undef, undef, undef, undef, undef], []⟩) (by kernel_rfl) (by kernel_rfl) (fun _ _ _ h => h) ?_
    refine any_comes (i := 6) (by kernel_rfl) (op_value (a' := ⟨#[.pointer (some ⟨g, 0, none⟩), .int .i64 (k : Int), .slice A 256 c, undef, undef, undef, .int .i64 0, .bool false, .pointer (some ⟨g, 0, none⟩), .pointer (some ⟨g, 0, none⟩), .pointer (some ⟨g, 3, none⟩), .bool false, .bool false, .pointer (some ⟨g, 0, none⟩), .int .i64 (k : Int), .bool true, .bool false, .bool false, .slice A 256 c, .int .i64 256, .bool false, .pointer (some ⟨g, 0, none⟩), .pointer (some ⟨g, 0, none⟩), .pointer (some ⟨g, 0, none⟩), .pointer (some ⟨g, 1, none⟩), V, .int .i64 (k : Int), .slice (some ⟨W.heap.size, 0, none⟩) 0 0, .slice A 256 c, undef, undef, undef, undef, undef, undef, undef, undef, undef, undef, undef, undef, undef, undef, undef, undef, undef, undef], []⟩) (.slice (some ⟨W.heap.size, 0, none⟩) 0 0) rfl (by kernel_rfl) (by kernel_rfl) (by kernel_rfl) ⟨c1a, ?_⟩)
    refine any_comes (i := 8) (by kernel_rfl) (op_append rfl (by kernel_rfl) (.tmp 27) (.tmp 28) 39 rfl W.heap.size 5 i1 _ 1 1 Tryz.underlying39 hi1 hy0 hy1 hy2 rfl (by omega) (.slice (some ⟨W.heap.size, 0, none⟩) 0 0) 0 [] (by kernel_rfl) (World.ownsRow_made W #[] 0 (Nat.le_refl _) (by decide) rfl) w.heap.size A 256 c (cells L) (by kernel_rfl) (HRd.out W hbW) (cells_one _) (by unfold maxLen; omega) (by omega) (by simp) ?_)
    intro v1 w1 ho1 hg1 hat1
    obtain ⟨q, cq, rfl, hb1, c1b, hH1, hq1, hq2⟩ := rwrite_new H.out hbW H256.out ho1 hg1
    refine ⟨c1b, ?_⟩
    refine any_asT (a' := ⟨#[.pointer (some ⟨g, 0, none⟩), .int .i64 (k : Int), .slice A 256 c, undef, undef, undef, .int .i64 0, .bool false, .pointer (some ⟨g, 0, none⟩), .pointer (some ⟨g, 0, none⟩), .pointer (some ⟨g, 3, none⟩), .bool false, .bool false, .pointer (some ⟨g, 0, none⟩), .int .i64 (k : Int), .bool true, .bool false, .bool false, .slice A 256 c, .int .i64 256, .bool false, .pointer (some ⟨g, 0, none⟩), .pointer (some ⟨g, 0, none⟩), .pointer (some ⟨g, 0, none⟩), .pointer (some ⟨g, 1, none⟩), V, .int .i64 (k : Int), .slice (some ⟨W.heap.size, 0, none⟩) 0 0, .slice A 256 c, .slice (some ⟨q, 0, none⟩) 256 cq, undef, undef, undef, undef, undef, undef, undef, undef, undef, undef, undef, undef, undef, undef, undef, undef, undef], []⟩) (by kernel_rfl) (listed' := #[true, true, true, true, true, true, true, true, true, false, false, false, false, false, false]) (by kernel_rfl) ?_
    refine any_take (i := 9) (.agg #[.int .i64 (k : Int), .slice (some ⟨q, 0, none⟩) 256 cq]) rfl (by kernel_rfl) (by kernel_rfl) (by kernel_rfl) rfl (by kernel_rfl) (by kernel_rfl) (fun W hW => by kernel_rfl) c1b (listed' := #[true, true, true, true, true, true, true, true, true, true, false, false, false, false, false]) (a' := ⟨#[.pointer (some ⟨g, 0, none⟩), .int .i64 (k : Int), .slice A 256 c, undef, undef, undef, .int .i64 0, .bool false, .pointer (some ⟨g, 0, none⟩), .pointer (some ⟨g, 0, none⟩), .pointer (some ⟨g, 3, none⟩), .bool false, .bool false, .pointer (some ⟨g, 0, none⟩), .int .i64 (k : Int), .bool true, .bool false, .bool false, .slice A 256 c, .int .i64 256, .bool false, .pointer (some ⟨g, 0, none⟩), .pointer (some ⟨g, 0, none⟩), .pointer (some ⟨g, 0, none⟩), .pointer (some ⟨g, 1, none⟩), V, .int .i64 (k : Int), .slice (some ⟨W.heap.size, 0, none⟩) 0 0, .slice A 256 c, .slice (some ⟨q, 0, none⟩) 256 cq, .agg #[.int .i64 (k : Int), .slice (some ⟨q, 0, none⟩) 256 cq], undef, undef, undef, undef, undef, undef, undef, undef, undef, undef, undef, undef, undef, undef, undef, undef], []⟩) (by kernel_rfl) (by kernel_rfl) (fun _ _ _ h => h) ?_
    refine any_comes (i := 10) (by kernel_rfl) (op_value (a' := ⟨#[.pointer (some ⟨g, 0, none⟩), .int .i64 (k : Int), .slice A 256 c, undef, undef, undef, .int .i64 0, .bool false, .pointer (some ⟨g, 0, none⟩), .pointer (some ⟨g, 0, none⟩), .pointer (some ⟨g, 3, none⟩), .bool false, .bool false, .pointer (some ⟨g, 0, none⟩), .int .i64 (k : Int), .bool true, .bool false, .bool false, .slice A 256 c, .int .i64 256, .bool false, .pointer (some ⟨g, 0, none⟩), .pointer (some ⟨g, 0, none⟩), .pointer (some ⟨g, 0, none⟩), .pointer (some ⟨g, 1, none⟩), V, .int .i64 (k : Int), .slice (some ⟨W.heap.size, 0, none⟩) 0 0, .slice A 256 c, .slice (some ⟨q, 0, none⟩) 256 cq, .agg #[.int .i64 (k : Int), .slice (some ⟨q, 0, none⟩) 256 cq], .slice (some ⟨w1.heap.size, 0, none⟩) 1 1, undef, undef, undef, undef, undef, undef, undef, undef, undef, undef, undef, undef, undef, undef, undef], []⟩) (.slice (some ⟨w1.heap.size, 0, none⟩) 1 1) rfl (by kernel_rfl) (build_run 71 109 (.tmp 30) (by kernel_rfl) #[.int .i64 (k : Int), .slice (some ⟨q, 0, none⟩) 256 cq] (by kernel_rfl) Tryz.underlying71 2 (by kernel_rfl) (by kernel_rfl) (by omega) (by omega) rfl) (by kernel_rfl) ⟨rwrite_c1 H.out hb1 _, ?_⟩)
    refine any_comes (i := 11) (by kernel_rfl) (op_append rfl (by kernel_rfl) (.tmp 25) (.tmp 31) 71 rfl 0 109 i0 _ 2 32 Tryz.underlying71 hi0 hz0 hz1 hz2 rfl (by omega) V d.waits.length (rwc d.waits hv) (by kernel_rfl) (rwrite_own H.out hb1 _) (w1.heap.size + 1) (some ⟨w1.heap.size, 0, none⟩) 1 1 [.int .i64 (k : Int), .slice (some ⟨q, 0, none⟩) 256 cq] (by kernel_rfl) (pair_new w1 _ _ _) (fun u hu => by simp at hu; rcases hu with rfl | rfl <;> rfl) (by unfold maxLen; omega) (by omega) (Nat.zero_le _) ?_)
    intro V' w5 ho5 hg5 hat5
    obtain ⟨gv, cv, hv5, _⟩ := ho5.form (by omega)
    subst hv5
    obtain ⟨c15, f15, hR5⟩ := rwrite_mid H.out hb1 hH1 hq1 hq2 k HK.out ho5 hg5 hat5
    refine ⟨c15, ?_⟩
    refine any_asT (a' := ⟨#[.pointer (some ⟨g, 0, none⟩), .int .i64 (k : Int), .slice A 256 c, undef, undef, undef, .int .i64 0, .bool false, .pointer (some ⟨g, 0, none⟩), .pointer (some ⟨g, 0, none⟩), .pointer (some ⟨g, 3, none⟩), .bool false, .bool false, .pointer (some ⟨g, 0, none⟩), .int .i64 (k : Int), .bool true, .bool false, .bool false, .slice A 256 c, .int .i64 256, .bool false, .pointer (some ⟨g, 0, none⟩), .pointer (some ⟨g, 0, none⟩), .pointer (some ⟨g, 0, none⟩), .pointer (some ⟨g, 1, none⟩), V, .int .i64 (k : Int), .slice (some ⟨W.heap.size, 0, none⟩) 0 0, .slice A 256 c, .slice (some ⟨q, 0, none⟩) 256 cq, .agg #[.int .i64 (k : Int), .slice (some ⟨q, 0, none⟩) 256 cq], .slice (some ⟨w1.heap.size, 0, none⟩) 1 1, .slice (some ⟨gv, 0, none⟩) (d.waits.length + 1) cv, undef, undef, undef, undef, undef, undef, undef, undef, undef, undef, undef, undef, undef, undef], []⟩) (by kernel_rfl) (listed' := #[true, true, true, true, true, true, true, true, true, true, true, true, false, false, false]) (by kernel_rfl) ?_
    refine any_left (by kernel_rfl) ?_
    refine wpAny_tail 12 (by kernel_rfl) (by kernel_rfl) ?_
    simp only [List.drop_succ_cons, List.drop_zero]
    have HRD := hR5
    clear hR5 hbW c1 c1a hb1 c1b hH1 hq1 hq2 ho1 hg1 hat1 ho5 hg5 hat5 hi0 hz0 hz1 hz2 hi1 hy0 hy1 hy2
    go_wp2_with (first
      | (go_at_call 79; obtain ⟨G', B', hp', ht', hb'⟩ := HRD.out; (with_reducible refine (HFa.out _ _ _ hp').mono ?_); rintro e w8 ⟨rfl, hP8, hT8⟩; obtain ⟨s8, cs8, V8, hs8, hv8, hP8⟩ := hP8; obtain ⟨x, hx⟩ : ∃ x : Int, x = (e1.writes : Int) := ⟨_, rfl⟩; obtain ⟨y, hy⟩ : ∃ y : Int, y = ((e1.writes + 1 : Nat) : Int) := ⟨_, rfl⟩; have ey : IntKind.i64.wrap (x + 1) = y := (by have h1 := IntWalk.i64_in ((e1.writes : Int) + 1) (by have := HWr.out; omega); rw [hx, hy, h1]; omega); have q5 : w8.cell? ⟨g, 5, none⟩ = some (.int .i64 x) := (by rw [hx]; exact hP8.r5); have f5 := hP8.fz 5; have HP8 := Lib.hid hP8; have Hy := Lib.hid hy; have HBs := Lib.hid hb'; have HTs := Lib.hid (ht'.trans hT8); clear hP8 hT8 hp' ht' hb' hx hy))
  · go_ret
    rw [HW.out]
    simp only [Dk.wrote]
    exact ⟨rfl, G', B', ⟨_, _, _, _, _, HP8.out⟩, HTs.out, HBs.out⟩
  · go_ret
    rw [HW.out]
    simp only [Dk.wrote]
    refine ⟨rfl, G', B', ⟨s8, cs8, V8, hs8, hv8, HP8.out.retell (turns_own w8 g 5 _) rfl rfl HP8.out.good.left ?_⟩, HTs.out.trans (Turns.set_ HP8.out.gg 5 _), HBs.out⟩
    have := HP8.out.blk.set_ 5 (.int .i64 y)
    rw [Hy.out] at this ⊢
    exact this
theorem rwrite_any {w : World} {g : Nat} {G B : Nat → Prop} {d : Dk} (h : RDisk w g G B d) (i : Int) (hl : d.load ≤ 100000) (L : List UInt8) (A : Option Addr) (m c : Nat) (hm : m = L.length) (hr : RB w w.heap.size A L) :
    Calls Tryz.prog 62 #[.pointer (some ⟨g, 0, none⟩), .int .i64 i, .slice A m c] w fun e w' => e = .returned (.int .i64 (d.write i L).2) ∧ RDeeds (d.write i L).1 G B w w' g := by
  have n0 := fun w' => Tryz.notTrue w'
  have n1 := fun w' => Tryz.notFalse w'
  have HTh := Lib.hid (there_any h i)
  have r3 : w.cell? ⟨g, 3, none⟩ = some (.bool d.off) := by obtain ⟨s, cs, V, hs, hv, h⟩ := h; exact h.r3
  have HS : Hid (RDeeds d G B w w g) := ⟨G, B, h, Turns.refl _ _, fun _ h => .inl h⟩
  cases ho : d.off with
  | true =>
    have HV : Hid (d.write i L = (d, 9)) := by show _ = _; unfold Dk.write; rw [if_pos ho]
    rw [ho] at r3
    clear ho hm hr hl h
    go_enter Tryz.func62, Tryz.ntmps62
    go_wp2
    go_ret
    rw [HV.out]
    exact ⟨rfl, HS.out⟩
  | false =>
    rw [ho] at r3
    cases ht : d.there i with
    | false =>
      have HV : Hid (d.write i L = (d, 10)) := by show _ = _; unfold Dk.write; rw [ho, ht]; rfl
      rw [ht] at HTh
      clear ho ht hm hr hl h
      go_enter Tryz.func62, Tryz.ntmps62
      go_wp2_with (go_at_call 76; (with_reducible refine HTh.out.mono ?_); rintro e w1 ⟨rfl, rfl⟩)
      go_ret
      rw [HV.out]
      exact ⟨rfl, HS.out⟩
    | true =>
      by_cases h256 : m = 256
      · subst h256
        obtain ⟨k, rfl, hk⟩ := there_nat ht
        exact rwrite_in h k hk ho hl L A c hr hm.symm
      · have HV : Hid (d.write i L = (d, 11)) := by
          show _ = _; unfold Dk.write; rw [ho, ht]
          simp only [Bool.false_eq_true, Bool.not_true, if_false]
          rw [if_pos (by omega)]
        rw [ht] at HTh
        have d0 : (((m : Int) != 256)) = true := by simp; omega
        have d1 : ((m : Int) == 256) = false := by simp; omega
        clear ho ht hm hr hl h h256
        go_enter Tryz.func62, Tryz.ntmps62
        go_wp2_with (go_at_call 76; (with_reducible refine HTh.out.mono ?_); rintro e w1 ⟨rfl, rfl⟩)
        go_ret
        rw [HV.out]
        exact ⟨rfl, HS.out⟩
end
end Go.Proofs.YtghenhacndaelaaGreat
