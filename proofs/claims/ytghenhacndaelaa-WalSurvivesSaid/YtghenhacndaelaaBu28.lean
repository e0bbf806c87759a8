/- Lemmas under the proofs of this place: WalPMem. No statement is proved here. -/
import Derived.Test.YtghenhacndaelaaBu14
import Derived.Test.YtghenhacndaelaaBu21
import Derived.Test.YtghenhacndaelaaBu25
set_option linter.unusedVariables false
namespace Go.Proofs.Ytghenhacndaelaa
open Go.RowKit
open Wal
def endL (b : List UInt8) : List UInt8 := b.drop (b.length - b.length % 256)
theorem endL_length (b : List UInt8) : (endL b).length = b.length % 256 := by
  unfold endL
  rw [List.length_drop]
  have := Nat.mod_le b.length 256
  omega
theorem endL_more (b r : List UInt8) : endL (b ++ r) = endL (endL b ++ r) := by
  have h1 := endL_length b
  have hm := Nat.mod_le b.length 256
  have h2 : (endL b ++ r).length = b.length % 256 + r.length := by rw [List.length_append, h1]
  have h3 : (b ++ r).length % 256 = (endL b ++ r).length % 256 := by rw [h2, List.length_append]; omega
  have h4 : b ++ r = b.take (b.length - b.length % 256) ++ (endL b ++ r) := by
    unfold endL
    rw [← List.append_assoc, List.take_append_drop]
  have h5 : (b.take (b.length - b.length % 256)).length = b.length - b.length % 256 := by rw [List.length_take]; omega
  have h6 := Nat.mod_le (b.length % 256 + r.length) 256
  show (b ++ r).drop ((b ++ r).length - (b ++ r).length % 256) = (endL b ++ r).drop ((endL b ++ r).length - (endL b ++ r).length % 256)
  rw [h3, h2]
  have h7 : (b ++ r).length - (b.length % 256 + r.length) % 256 = (b.take (b.length - b.length % 256)).length + ((b.length % 256 + r.length) - (b.length % 256 + r.length) % 256) := by
    rw [h5, List.length_append]; omega
  rw [h7]
  conv => lhs; rw [h4]
  rw [← List.drop_drop, List.drop_left]
def plogC (g : Nat) (A : Option Addr) (c : Nat) (l : Lg) : Array Value := #[.pointer (some ⟨g, 0, none⟩), .int .i64 (l.frm : Int), .int .i64 (l.n : Int), .int .i64 ((used l : Nat) : Int), .slice A (l.b.length % 256) c, .int .i64 l.epoch, .bool l.gone]
structure PLogA (w : World) (lg g : Nat) (E : Nat → Prop) (l : Lg) (A : Option Addr) (c : Nat) : Prop where
  blk : Blk w lg 55 (plogC g A c l)
  el : E lg
  ea : ∀ ad, A = some ad → E ad.block
  lt : ∀ k, E k → k < w.heap.size
  tail : RB w w.heap.size A (endL l.b)
  ne : ∀ ad, A = some ad → ad.block ≠ lg
  cap : l.b.length % 256 ≤ c ∧ c ≤ 9223372036854775807
def PLog (w : World) (lg g : Nat) (E : Nat → Prop) (l : Lg) : Prop := ∃ A c, PLogA w lg g E l A c
section
variable {w w' : World} {lg g : Nat} {E E' X X' : Nat → Prop} {l : Lg} {A : Option Addr} {c : Nat}
theorem PLogA.turns (h : PLogA w lg g E l A c) (ht : Turns w w' X X') (hn : ∀ k, E k → ¬ X k) : PLogA w' lg g E l A c :=
  ⟨h.blk.turns ht (hn lg h.el), h.el, h.ea, fun k hk => Nat.lt_of_lt_of_le (h.lt k hk) ht.size, (Reads.turns h.tail (Nat.le_refl _) ht fun ad e => hn _ (h.ea ad e)).more ht.size, h.ne, h.cap⟩
theorem PLog.turns (h : PLog w lg g E l) (ht : Turns w w' X X') (hn : ∀ k, E k → ¬ X k) : PLog w' lg g E l := by
  obtain ⟨A, c, h⟩ := h; exact ⟨A, c, h.turns ht hn⟩
theorem PLogA.below (h : PLogA w lg g E l A c) (hb : Below w.heap.size w w') : PLogA w' lg g E l A c := h.turns (Turns.of_below hb (fun _ => False)) (fun _ _ h => h)
theorem PLog.elt (h : PLog w lg g E l) : ∀ k, E k → k < w.heap.size := by
  obtain ⟨A, c, h⟩ := h; exact h.lt
theorem PLogA.r0 (h : PLogA w lg g E l A c) : w.cell? ⟨lg, 0, none⟩ = some (.pointer (some ⟨g, 0, none⟩)) := by rw [h.blk.cell]; rfl
theorem PLogA.r1 (h : PLogA w lg g E l A c) : w.cell? ⟨lg, 1, none⟩ = some (.int .i64 (l.frm : Int)) := by rw [h.blk.cell]; rfl
theorem PLogA.r2 (h : PLogA w lg g E l A c) : w.cell? ⟨lg, 2, none⟩ = some (.int .i64 (l.n : Int)) := by rw [h.blk.cell]; rfl
theorem PLogA.r3 (h : PLogA w lg g E l A c) : w.cell? ⟨lg, 3, none⟩ = some (.int .i64 ((used l : Nat) : Int)) := by rw [h.blk.cell]; rfl
theorem PLogA.r4 (h : PLogA w lg g E l A c) : w.cell? ⟨lg, 4, none⟩ = some (.slice A (l.b.length % 256) c) := by rw [h.blk.cell]; rfl
theorem PLogA.r5 (h : PLogA w lg g E l A c) : w.cell? ⟨lg, 5, none⟩ = some (.int .i64 l.epoch) := by rw [h.blk.cell]; rfl
theorem PLogA.r6 (h : PLogA w lg g E l A c) : w.cell? ⟨lg, 6, none⟩ = some (.bool l.gone) := by rw [h.blk.cell]; rfl
theorem PLogA.fz (h : PLogA w lg g E l A c) (k : Nat) : w.frozen? ⟨lg, k, none⟩ = false := h.blk.frozen k
theorem PLogA.set_ (h : PLogA w lg g E l A c) (i : Nat) (u : Value) {l' : Lg} {cs : Array Value} (hc : (plogC g A c l).setIfInBounds i u = cs) (h' : cs = plogC g A c l') (hb : l'.b = l.b) : PLogA (w.setCell ⟨lg, i, none⟩ u) lg g E l' A c := by
  refine ⟨?_, h.el, h.ea, fun k hk => by simpa [World.setCell] using h.lt k hk, ?_, h.ne, by rw [hb]; exact h.cap⟩
  · have h1 := h.blk.set_ i u
    rw [hc, h'] at h1
    exact h1
  · rw [hb]
    exact (Reads.turns h.tail (Nat.le_refl _) (Turns.set_ (F := fun k => k = lg) rfl i u) h.ne).more (Turns.set_ (w := w) (F := fun k => k = lg) rfl i u).size
theorem PLogA.turned (h : PLogA w lg g E l A c) (e : Int) : PLogA (w.setCell ⟨lg, 5, none⟩ (.int .i64 e)) lg g E { l with epoch := e } A c := h.set_ 5 _ rfl rfl rfl
theorem PLogA.dead (h : PLogA w lg g E l A c) : PLogA (w.setCell ⟨lg, 6, none⟩ (.bool true)) lg g E { l with gone := true } A c := h.set_ 6 _ rfl rfl rfl
theorem PLogA.reset (h : PLogA w lg g E l A c) : PLogA ((w.setCell ⟨lg, 3, none⟩ (.int .i64 0)).setCell ⟨lg, 4, none⟩ (.slice none 0 0)) lg g E { l with b := [] } none 0 := by
  refine ⟨?_, h.el, fun ad e => (by cases e), fun k hk => by simpa [World.setCell] using h.lt k hk, RB.none_ _ _, fun ad e => (by cases e), by simp⟩
  have e : plogC g none 0 { l with b := [] } = (((plogC g A c l).setIfInBounds 3 (.int .i64 0)).setIfInBounds 4 (.slice none 0 0)) := by
    unfold plogC used
    simp
  rw [e]
  exact (h.blk.set_ 3 (.int .i64 0)).set_ 4 (.slice none 0 0)
theorem PLogA.grown_ {w1 w2 : World} {L : List UInt8} {A' : Option Addr} {c' u : Nat} (h : PLogA w lg g E l A c) (hb1 : Below w.heap.size w w1) (hu : u = (l.b ++ L).length / 64) (hb : Below w1.heap.size (w1.setCell ⟨lg, 3, none⟩ (.int .i64 (u : Int))) w2) (hr : RB w2 w2.heap.size A' (endL (l.b ++ L))) (hA : ∀ ad, A' = some ad → w1.heap.size ≤ ad.block ∧ ad.block < w2.heap.size) {n : Nat} (hn : n = (l.b ++ L).length % 256) (hc : n ≤ c' ∧ c' ≤ 9223372036854775807) :
    PLogA (w2.setCell ⟨lg, 4, none⟩ (.slice A' n c')) lg g (fun k => k = lg ∨ ∃ ad, A' = some ad ∧ ad.block = k) { l with b := l.b ++ L } A' c' := by
  subst hn hu
  have hlt : lg < w1.heap.size := Nat.lt_of_lt_of_le h.blk.lt hb1.size
  have hs1 : (w1.setCell ⟨lg, 3, none⟩ (.int .i64 (((l.b ++ L).length / 64 : Nat) : Int))).heap.size = w1.heap.size := by simp [World.setCell]
  have hne : ∀ ad, A' = some ad → ad.block ≠ lg := fun ad e => by have := (hA ad e).1; omega
  refine ⟨?_, .inl rfl, fun ad e => .inr ⟨ad, e, rfl⟩, fun k hk => ?_, ?_, hne, hc⟩
  · have h1 : Blk w1 lg 55 (plogC g A c l) := Blk.below h.blk hb1 h.blk.lt
    have h2 := h1.set_ 3 (.int .i64 (((l.b ++ L).length / 64 : Nat) : Int))
    have h3 := (Blk.below h2 hb hlt).set_ 4 (.slice A' ((l.b ++ L).length % 256) c')
    exact h3
  · have hb2 := hb.size
    rw [hs1] at hb2
    show k < (w2.setCell _ _).heap.size
    simp only [World.setCell, Array.size_modify]
    rcases hk with rfl | ⟨ad, e, rfl⟩
    · omega
    · exact (hA ad e).2
  · exact (Reads.turns hr (Nat.le_refl _) (Turns.set_ (F := fun k => k = lg) rfl 4 _) hne).more (Turns.set_ (w := w2) (F := fun k => k = lg) rfl 4 _).size
end
def PDeedsL (D : Dk) (l : Lg) (F E : Nat → Prop) (w w' : World) (g lg : Nat) : Prop := ∃ F' E', PDisk w' g F' D ∧ PLog w' lg g E' l ∧ (∀ k, E' k → ¬ F' k) ∧ Turns w w' (fun k => F k ∨ E k) (fun k => F' k ∨ E' k)
def CapN (A : Option Addr) (n c : Nat) : Prop := n ≤ c ∧ c ≤ 9223372036854775807
def POpenPost (r : Dk × Option Lg × List (List UInt8) × Int) (g : Nat) (F : Nat → Prop) (w : World) (e : Ending) (w' : World) : Prop :=
  Deeds r.1 F w w' g ∧ match r.2.1 with
    | none => e = .returned (.tuple #[.pointer none, .slice none 0 0, .int .i64 r.2.2.2])
    | some l => ∃ lg E A c, PLog w' lg g E l ∧ (∀ k, E k → w.heap.size ≤ k) ∧ BL w' (fun k => w.heap.size ≤ k ∧ ¬ E k) A r.2.2.1 ∧ CapN A r.2.2.1.length c ∧ e = .returned (.tuple #[.pointer (some ⟨lg, 0, none⟩), .slice A r.2.2.1.length c, .int .i64 0])
end Go.Proofs.Ytghenhacndaelaa
