/- The program's disk at a law: its own blocks lie above those that were there (layer 6). Plain lemmas; no statement is proved here. -/
import Derived.Test.YthaljnnkpfeooaaDiskPClone
set_option linter.unusedVariables false
namespace Go.Proofs.Ythaljnnkpfeooaa
open Go.RowKit

/-- In world w a disk in block g; all that is its own was made behind w0, and nothing has turned that was there then. -/
structure Has (w0 w : World) (g : Nat) (F : Nat → Prop) (d : Dk) : Prop where
  disk : PDisk w g F d
  below : Below w0.heap.size w0 w
  own : ∀ k, F k → w0.heap.size ≤ k

section
variable {w0 w w' : World} {g : Nat} {F F' : Nat → Prop} {d d' : Dk}
theorem Has.turned (h : Has w0 w g F d) (hp : PDisk w' g F' d') (ht : Turns w w' F F') : Has w0 w' g F' d' :=
  ⟨hp, h.below.trans (ht.below h.own h.below.size), fun k hk => by
    rcases ht.foot k hk with h1 | h1
    · exact h.own k h1
    · exact Nat.le_trans h.below.size h1⟩
theorem Has.deeds (h : Has w0 w g F d) (hd : Deeds d' F w w' g) : Has w0 w' g F d' := h.turned hd.1 hd.2
theorem Has.more (h : Has w0 w g F d) (hb : Below w.heap.size w w') : Has w0 w' g F d := h.turned (h.disk.below hb) (Turns.of_below hb F)
theorem Has.gives {D : Dk} (hb : Below w0.heap.size w0 w) (h : GivesDisk D w w' g F) : Has w0 w' g F D :=
  ⟨h.1, hb.trans (h.2.1.mono hb.size), fun k hk => Nat.le_trans hb.size (h.2.2 k hk)⟩
theorem Has.flt (h : Has w0 w g F d) : ∀ k, F k → k < w.heap.size := h.disk.flt
theorem chain6 {w0 w w' : World} (h : Below w0.heap.size w0 w) (k : Below w.heap.size w w') : Below w0.heap.size w0 w' := h.trans (k.mono h.size)
/-- What is new is none of the disk's own. -/
theorem Has.new (h : Has w0 w g F d) {b : Nat} (hb : w.heap.size ≤ b) : ∀ ad, (some ⟨b, 0, none⟩ : Option Addr) = some ad → ¬ F ad.block := fun ad e hf => by
  injection e with e
  subst e
  have := h.flt _ hf
  simp at this
  omega
/-- What was there is none of the disk's own. -/
theorem Has.old (h : Has w0 w g F d) {A : Option Addr} {L : List UInt8} (hr : RB w0 w0.heap.size A L) (h0 : 0 < L.length) : ∀ ad, A = some ad → ¬ F ad.block := fun ad e hf => by
  obtain ⟨ad', e', hb, _⟩ := hr.2 h0
  rw [e] at e'
  injection e' with e'
  subst e'
  have := h.own _ hf
  omega
end

/-- Bytes that are none of a disk's own. -/
def Kept (w : World) (F : Nat → Prop) (A : Option Addr) (L : List UInt8) : Prop := RB w w.heap.size A L ∧ ∀ ad, A = some ad → ¬ F ad.block ∧ ad.block < w.heap.size
theorem Kept.turns {w w' : World} {F F' : Nat → Prop} {A : Option Addr} {L : List UInt8} (h : Kept w F A L) (ht : Turns w w' F F') : Kept w' F' A L := by
  refine ⟨(Reads.turns h.1 (Nat.le_refl _) ht (fun ad e => (h.2 ad e).1)).more ht.size, fun ad e => ⟨fun hf => ?_, Nat.lt_of_lt_of_le (h.2 ad e).2 ht.size⟩⟩
  rcases ht.foot _ hf with h1 | h1
  · exact (h.2 ad e).1 h1
  · have := (h.2 ad e).2; omega
theorem Kept.below {w w' : World} {F : Nat → Prop} {A : Option Addr} {L : List UInt8} (h : Kept w F A L) (hb : Below w.heap.size w w') : Kept w' F A L := h.turns (Turns.of_below hb F)
theorem Kept.no {w : World} {F : Nat → Prop} {A : Option Addr} {L : List UInt8} (h : Kept w F A L) : ∀ ad, A = some ad → ¬ F ad.block := fun ad e => (h.2 ad e).1
/-- What a Read gave. -/
theorem Kept.read {w w' : World} {F : Nat → Prop} {A : Option Addr} {L : List UInt8} {c : Nat} (ho : Own w' w.heap.size A L c) (hF : ∀ k, F k → k < w.heap.size) : Kept w' F A L := by
  refine ⟨own_rb ho, fun ad e => ?_⟩
  rcases ho.2 with ⟨h1, _⟩ | ⟨g, cap, cur, h1, hb, hg, _⟩
  · simp only [Value.slice.injEq] at h1
    rw [h1.1] at e; cases e
  · simp only [Value.slice.injEq] at h1
    rw [h1.1] at e
    injection e with e
    subst e
    exact ⟨fun hf => by have := hF _ hf; simp at this; omega, Blk.lt (t := 5) hg⟩
theorem Kept.block {w : World} {F : Nat → Prop} {A : Option Addr} {L : List UInt8} (h : Kept w F A L) {k : Nat} (hk : k < L.length) {b off : Nat} (e : A = some ⟨b, off, none⟩) (v : Int) (hv : ((L.getD k 9).toNat : Int) = v) : w.cell? ⟨b, off + k, none⟩ = some (.int .u8 v) := by
  obtain ⟨b', off', e', _, hc⟩ := h.1.at_ (by omega)
  rw [e] at e'
  simp only [Option.some.injEq, Addr.mk.injEq, and_true] at e'
  obtain ⟨rfl, rfl⟩ := e'
  rw [hc k hk, ← hv]
  simp [List.getD, hk]
/-- A mask list of one's own. -/
theorem ri_new (w : World) (t : TypeId) (Z : List Int) (cs : Array Value) (hcs : cs = (Z.map (Value.int .i64)).toArray) : RI (w.alloc (.cells cs t)) (w.alloc (.cells cs t)).heap.size (some ⟨w.heap.size, 0, none⟩) Z := fun h0 => by
  subst hcs
  refine ⟨_, _, rfl, by simp, fun k hk => ?_⟩
  have h := heap_alloc_new w (.cells (Z.map (Value.int .i64)).toArray t)
  rw [Nat.zero_add, (blk_cell h k).1]
  simp [hk]

end Go.Proofs.Ythaljnnkpfeooaa
