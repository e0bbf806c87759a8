/- The reference's disk as it lies in memory (layer 6): seven cells, rows of slices of bytes. Plain lemmas; no statement is proved here. -/
import Derived.Test.YthaljnnkpfeooaaDiskMem
import Derived.Test.YthaljnnkpfeooaaDiskMore
import Derived.IntWalk
set_option linter.unusedVariables false
namespace Go.Proofs.Ythaljnnkpfeooaa
open Go.RowKit

/-- A slice value that reads as a block's bytes, which lie in one of the blocks B. -/
def Hdr (w : World) (B : Nat → Prop) (v : Value) (L : List UInt8) : Prop :=
  L.length = 256 ∧ ∃ b off c, v = .slice (some ⟨b, off, none⟩) 256 c ∧ 256 ≤ c ∧ c ≤ 9223372036854775807 ∧ B b ∧ RB w w.heap.size (some ⟨b, off, none⟩) L
def Hdrs (w : World) (B : Nat → Prop) (hs : List Value) (Ls : List (List UInt8)) : Prop := hs.length = Ls.length ∧ ∀ (i : Nat) (v : Value) (L : List UInt8), hs[i]? = some v → Ls[i]? = some L → Hdr w B v L
section
variable {w w' : World} {B B' E E' : Nat → Prop} {v : Value} {L : List UInt8} {hs : List Value} {Ls : List (List UInt8)}
theorem Hdr.turns (h : Hdr w B v L) (ht : Turns w w' E E') (hn : ∀ k, B k → ¬ E k) : Hdr w' B v L := by
  obtain ⟨h1, b, off, c, h2, h3, h4, h5, h6⟩ := h
  refine ⟨h1, b, off, c, h2, h3, h4, h5, (Reads.turns h6 (Nat.le_refl _) ht (fun ad e => ?_)).more ht.size⟩
  injection e with e
  subst e
  exact hn b h5
theorem Hdr.wide (h : Hdr w B v L) (hB : ∀ k, B k → B' k) : Hdr w B' v L := by
  obtain ⟨h1, b, off, c, h2, h3, h4, h5, h6⟩ := h
  exact ⟨h1, b, off, c, h2, h3, h4, hB b h5, h6⟩
theorem Hdrs.turns (h : Hdrs w B hs Ls) (ht : Turns w w' E E') (hn : ∀ k, B k → ¬ E k) : Hdrs w' B hs Ls := ⟨h.1, fun i v L h1 h2 => (h.2 i v L h1 h2).turns ht hn⟩
theorem Hdrs.wide (h : Hdrs w B hs Ls) (hB : ∀ k, B k → B' k) : Hdrs w B' hs Ls := ⟨h.1, fun i v L h1 h2 => (h.2 i v L h1 h2).wide hB⟩
theorem Hdrs.none_ : Hdrs w B [] [] := ⟨rfl, fun i v L h => by simp at h⟩
theorem Hdrs.snoc (h : Hdrs w B hs Ls) (hv : Hdr w B v L) : Hdrs w B (hs ++ [v]) (Ls ++ [L]) := by
  refine ⟨by simp [h.1], fun i v' L' h1 h2 => ?_⟩
  by_cases hi : i < hs.length
  · rw [List.getElem?_append_left hi] at h1
    rw [List.getElem?_append_left (by rw [← h.1]; exact hi)] at h2
    exact h.2 i v' L' h1 h2
  · rw [List.getElem?_append_right (by omega)] at h1
    rw [List.getElem?_append_right (by rw [← h.1]; omega), ← h.1] at h2
    have : i - hs.length = 0 := by
      have := (List.getElem?_eq_some_iff.1 h1).1
      simp at this; omega
    rw [this] at h1 h2
    simp at h1 h2
    subst h1 h2
    exact hv
theorem Hdrs.set_ (h : Hdrs w B hs Ls) (k : Nat) (hv : Hdr w B v L) : Hdrs w B (hs.set k v) (Ls.set k L) := by
  refine ⟨by simp [h.1], fun i v' L' h1 h2 => ?_⟩
  by_cases hik : k = i
  · subst hik
    have hlt : k < hs.length := by have := (List.getElem?_eq_some_iff.1 h1).1; simpa using this
    rw [List.getElem?_set_self hlt] at h1
    rw [List.getElem?_set_self (by rw [← h.1]; exact hlt)] at h2
    injection h1 with h1
    injection h2 with h2
    subst h1 h2
    exact hv
  · rw [List.getElem?_set_ne hik] at h1 h2
    exact h.2 i v' L' h1 h2
theorem Hdrs.at_ (h : Hdrs w B hs Ls) {i : Nat} (hi : i < Ls.length) : ∃ v, hs[i]? = some v ∧ Hdr w B v Ls[i] :=
  ⟨hs[i]'(by rw [h.1]; exact hi), List.getElem?_eq_getElem (by rw [h.1]; exact hi), h.2 i _ _ (List.getElem?_eq_getElem (by rw [h.1]; exact hi)) (List.getElem?_eq_getElem hi)⟩
end
/-- What waits, as cells: a number and a header each. -/
def rwc (ws : List (Nat × List UInt8)) (hv : List Value) : List Value := (ws.zip hv).flatMap fun x => [.int .i64 (x.1.1 : Int), x.2]
theorem rwc_snoc (ws : List (Nat × List UInt8)) (hv : List Value) (h : hv.length = ws.length) (x : Nat × List UInt8) (v : Value) : rwc (ws ++ [x]) (hv ++ [v]) = rwc ws hv ++ [.int .i64 (x.1 : Int), v] := by
  unfold rwc
  rw [List.zip_append (by omega)]
  simp
theorem rwc_get (ws : List (Nat × List UInt8)) (hv : List Value) (h : hv.length = ws.length) (i : Nat) (hi : i < ws.length) : (rwc ws hv)[i * 2]? = some (.int .i64 ((ws[i]).1 : Int)) ∧ (rwc ws hv)[i * 2 + 1]? = hv[i]? := by
  induction ws generalizing hv i with
  | nil => simp at hi
  | cons x ws ih =>
    match hv with
    | [] => simp at h
    | v :: hv =>
      have e : rwc (x :: ws) (v :: hv) = .int .i64 (x.1 : Int) :: v :: rwc ws hv := by simp [rwc]
      rw [e]
      match i with
      | 0 => simp
      | i + 1 =>
        have := ih hv (by simpa using h) i (by simpa using hi)
        rw [show (i + 1) * 2 = i * 2 + 2 by omega, show i * 2 + 2 + 1 = i * 2 + 1 + 2 by omega]
        simpa using this
theorem rwc_length (ws : List (Nat × List UInt8)) (hv : List Value) (h : hv.length = ws.length) : (rwc ws hv).length = ws.length * 2 := by
  induction ws generalizing hv with
  | nil => simp [rwc]
  | cons x ws ih =>
    match hv with
    | [] => simp at h
    | v :: hv =>
      have e : rwc (x :: ws) (v :: hv) = .int .i64 (x.1 : Int) :: v :: rwc ws hv := by simp [rwc]
      rw [e, List.length_cons, List.length_cons, ih hv (by simpa using h), List.length_cons]
      omega
/-- The seven cells of the reference's disk. -/
def refCells (S V : Value) (d : Dk) : Array Value := #[S, V, .int .i64 d.left, .bool d.off, .int .i64 (d.reads : Int), .int .i64 (d.writes : Int), .int .i64 (d.flushes : Int)]
structure RD (w : World) (g : Nat) (G B : Nat → Prop) (d : Dk) (s cs : Nat) (V : Value) (hs hv : List Value) : Prop where
  blk : Blk w g 44 (refCells (.slice (some ⟨s, 0, none⟩) d.safe.length cs) V d)
  safe : w.ownsRow 0 33 1 (.slice (some ⟨s, 0, none⟩) d.safe.length cs) d.safe.length hs
  hsafe : Hdrs w B hs d.safe
  wait : w.ownsRow 0 88 2 V d.waits.length (rwc d.waits hv)
  hwait : Hdrs w B hv (d.waits.map (·.2))
  gg : G g
  gs : G s
  gv : ∀ k, V.ownBlock = some k → G k
  glt : ∀ k, G k → k < w.heap.size
  blt : ∀ k, B k → k < w.heap.size
  gb : ∀ k, G k → ¬ B k
  good : d.good
def RDisk (w : World) (g : Nat) (G B : Nat → Prop) (d : Dk) : Prop := ∃ s cs V hs hv, RD w g G B d s cs V hs hv
section
variable {w w' : World} {g : Nat} {G B : Nat → Prop} {d : Dk} {s cs : Nat} {V : Value} {hs hv : List Value}
theorem RD.ne (h : RD w g G B d s cs V hs hv) : g ≠ s ∧ V.ownBlock ≠ some g ∧ V.ownBlock ≠ some s := by
  obtain ⟨c1, h1⟩ := (own_lt h.safe (k := s) rfl).2
  exact ⟨h.blk.ne_ h1 (by decide), own_blk_ne h.wait h.blk (by decide), own_blk_ne h.wait h1 (by decide)⟩
theorem RD.turns {E E' : Nat → Prop} (h : RD w g G B d s cs V hs hv) (ht : Turns w w' E E') (hn : ∀ k, G k → ¬ E k) (hm : ∀ k, B k → ¬ E k) : RD w' g G B d s cs V hs hv :=
  ⟨h.blk.turns ht (hn g h.gg), own_turns h.safe ht (fun k hk => hn k (by simp [Value.ownBlock] at hk; rw [← hk]; exact h.gs)), h.hsafe.turns ht hm, own_turns h.wait ht (fun k hk => hn k (h.gv k hk)), h.hwait.turns ht hm, h.gg, h.gs, h.gv,
   fun k hk => Nat.lt_of_lt_of_le (h.glt k hk) ht.size, fun k hk => Nat.lt_of_lt_of_le (h.blt k hk) ht.size, h.gb, h.good⟩
theorem RDisk.turns {E E' : Nat → Prop} (h : RDisk w g G B d) (ht : Turns w w' E E') (hn : ∀ k, G k → ¬ E k) (hm : ∀ k, B k → ¬ E k) : RDisk w' g G B d := by
  obtain ⟨s, cs, V, hs, hv, h⟩ := h
  exact ⟨s, cs, V, hs, hv, h.turns ht hn hm⟩
theorem RDisk.below (h : RDisk w g G B d) (hb : Below w.heap.size w w') : RDisk w' g G B d := h.turns (Turns.of_below hb (fun _ => False)) (fun _ _ h => h) (fun _ _ h => h)
theorem RDisk.good (h : RDisk w g G B d) : d.good := by obtain ⟨s, cs, V, hs, hv, h⟩ := h; exact h.good
theorem RDisk.glt (h : RDisk w g G B d) : ∀ k, G k → k < w.heap.size := by obtain ⟨s, cs, V, hs, hv, h⟩ := h; exact h.glt
theorem RDisk.blt (h : RDisk w g G B d) : ∀ k, B k → k < w.heap.size := by obtain ⟨s, cs, V, hs, hv, h⟩ := h; exact h.blt
theorem RDisk.gb (h : RDisk w g G B d) : ∀ k, G k → ¬ B k := by obtain ⟨s, cs, V, hs, hv, h⟩ := h; exact h.gb
theorem RD.r0 (h : RD w g G B d s cs V hs hv) : w.cell? ⟨g, 0, none⟩ = some (.slice (some ⟨s, 0, none⟩) d.safe.length cs) := by rw [h.blk.cell]; rfl
theorem RD.r1 (h : RD w g G B d s cs V hs hv) : w.cell? ⟨g, 1, none⟩ = some V := by rw [h.blk.cell]; rfl
theorem RD.r2 (h : RD w g G B d s cs V hs hv) : w.cell? ⟨g, 2, none⟩ = some (.int .i64 d.left) := by rw [h.blk.cell]; rfl
theorem RD.r3 (h : RD w g G B d s cs V hs hv) : w.cell? ⟨g, 3, none⟩ = some (.bool d.off) := by rw [h.blk.cell]; rfl
theorem RD.r4 (h : RD w g G B d s cs V hs hv) : w.cell? ⟨g, 4, none⟩ = some (.int .i64 (d.reads : Int)) := by rw [h.blk.cell]; rfl
theorem RD.r5 (h : RD w g G B d s cs V hs hv) : w.cell? ⟨g, 5, none⟩ = some (.int .i64 (d.writes : Int)) := by rw [h.blk.cell]; rfl
theorem RD.r6 (h : RD w g G B d s cs V hs hv) : w.cell? ⟨g, 6, none⟩ = some (.int .i64 (d.flushes : Int)) := by rw [h.blk.cell]; rfl
theorem RD.fz (h : RD w g G B d s cs V hs hv) (k : Nat) : w.frozen? ⟨g, k, none⟩ = false := h.blk.frozen k
theorem RD.vform (h : RD w g G B d s cs V hs hv) : ∃ A c, V = .slice A d.waits.length c ∧ d.waits.length ≤ c ∧ c ≤ 9223372036854775807 := by
  rcases h.wait.2 with ⟨rfl, h0⟩ | ⟨k, cap, cur, rfl, h2, h3, h4, h5, _⟩
  · exact ⟨none, 0, by rw [h0], by omega, by omega⟩
  · exact ⟨_, _, rfl, h4, h5⟩
/-- The header of a block that is safe. -/
theorem RD.at_ (h : RD w g G B d s cs V hs hv) {i : Nat} (hi : i < d.safe.length) : ∃ v, hs[i]? = some v ∧ w.cell? ⟨s, i, none⟩ = some v ∧ Hdr w B v d.safe[i] := by
  obtain ⟨v, h1, h2⟩ := h.hsafe.at_ hi
  refine ⟨v, h1, ?_, h2⟩
  have := World.ownsRow.cells h.safe (g := s) rfl i v h1
  rwa [show (⟨s, 0, none⟩ : Addr).add i = ⟨s, i, none⟩ by unfold Addr.add; split <;> simp_all] at this
/-- What waits, where something waits. -/
theorem RD.row (h : RD w g G B d s cs V hs hv) (h0 : 0 < d.waits.length) : ∃ gv cv, V = .slice (some ⟨gv, 0, none⟩) d.waits.length cv ∧ gv ≠ s ∧ gv ≠ g ∧ G gv ∧ d.waits.length ≤ cv ∧ cv ≤ 9223372036854775807 ∧
    (∀ i (hi : i < d.waits.length), w.cell? ⟨gv, i * 2, none⟩ = some (.int .i64 ((d.waits[i]).1 : Int)) ∧ ∃ v, w.cell? ⟨gv, i * 2 + 1, none⟩ = some v ∧ Hdr w B v (d.waits[i]).2) := by
  obtain ⟨n1, n2, n3⟩ := h.ne
  have hw := h.wait
  have hl : hv.length = d.waits.length := by have := h.hwait.1; rwa [List.length_map] at this
  rcases h.wait.2 with ⟨_, h1⟩ | ⟨k, cap, cur, rfl, h2, h3, h4, h5, h6, h7⟩
  · omega
  · refine ⟨k, cap, rfl, fun e => n3 (by simp [Value.ownBlock, e]), fun e => n2 (by simp [Value.ownBlock, e]), h.gv k rfl, h4, h5, fun i hi => ?_⟩
    have hc := World.ownsRow.cells hw (g := k) rfl
    have ea : ∀ j, (⟨k, 0, none⟩ : Addr).add j = ⟨k, j, none⟩ := fun j => by unfold Addr.add; split <;> simp_all
    obtain ⟨e1, e2⟩ := rwc_get d.waits hv hl i hi
    obtain ⟨v, h8, h9⟩ := h.hwait.at_ (i := i) (by rw [List.length_map]; exact hi)
    have c1 := hc _ _ e1
    have c2 := hc _ _ (e2.trans h8)
    rw [ea] at c1 c2
    rw [List.getElem_map] at h9
    exact ⟨c1, v, c2, h9⟩
/-- Cells of the disk's own have turned, and nothing else: what is safe, and waits, is as it was. -/
theorem RD.retell {E' : Nat → Prop} {d' : Dk} (h : RD w g G B d s cs V hs hv) (ht : Turns w w' (fun k => k = g) E') (h1 : d'.safe = d.safe) (h2 : d'.waits = d.waits) (hl : -1 ≤ d'.left ∧ d'.left ≤ 9223372036854775807)
    (hb : Blk w' g 44 (refCells (.slice (some ⟨s, 0, none⟩) d.safe.length cs) V d')) : RD w' g G B d' s cs V hs hv := by
  obtain ⟨n1, n2, n3⟩ := h.ne
  have hgb : ∀ k, B k → ¬ k = g := fun k hk e => h.gb g h.gg (e ▸ hk)
  refine ⟨by rw [h1]; exact hb, by rw [h1]; exact own_turns h.safe ht (fun k hk e => n1 (by simp [Value.ownBlock] at hk; omega)), by rw [h1]; exact h.hsafe.turns ht hgb, by rw [h2]; exact own_turns h.wait ht (fun k hk e => n2 (by rw [hk, e])), by rw [h2]; exact h.hwait.turns ht hgb, h.gg, h.gs, h.gv,
    fun k hk => Nat.lt_of_lt_of_le (h.glt k hk) ht.size, fun k hk => Nat.lt_of_lt_of_le (h.blt k hk) ht.size, h.gb, ⟨⟨by rw [h1]; exact h.good.fit.1, by rw [h1, h2]; exact h.good.fit.2⟩, by rw [h1]; exact h.good.few, by rw [h1]; exact h.good.many, hl⟩⟩
end
/-- A deed with the reference's disk: what is its own, and where its bytes lie, is as it was, and what is new. -/
def RDeeds (D : Dk) (G B : Nat → Prop) (w w' : World) (g : Nat) : Prop := ∃ G' B', RDisk w' g G' B' D ∧ Turns w w' G G' ∧ ∀ k, B' k → B k ∨ w.heap.size ≤ k
/-- The same, and the blocks are the same. -/
def RSame (D : Dk) (G B : Nat → Prop) (w w' : World) (g : Nat) : Prop := RDisk w' g G B D ∧ Turns w w' G G
theorem RSame.deeds {D : Dk} {G B : Nat → Prop} {w w' : World} {g : Nat} (h : RSame D G B w w' g) : RDeeds D G B w w' g := ⟨G, B, h.1, h.2, fun _ h => .inl h⟩

end Go.Proofs.Ythaljnnkpfeooaa
