/- Lemmas under the proofs of this place: ChainPlainW, DiskRMem, DiskPSmall, CellMem. No statement is proved here. -/
import Derived.Test.YtonnkibcnhjelaaGreatDoorBu06
import Derived.Test.YtonnkibcnhjelaaGreatDoorBu09
import Derived.Test.YtonnkibcnhjelaaGreatDoorBu05
import Derived.Test.YtonnkibcnhjelaaGreatDoorBu07
import Derived.IntWalk
import Derived.Laws.LoneSync
import Derived.Deep.QuietTactic
import Derived.BigQuiet
import Derived.Lib.SliceRun
section
set_option linter.unusedVariables false
namespace Go.Proofs.YtonnkibcnhjelaaGreatDoor
theorem chWrite_cut {d : Dk} {o : Int} {ps : List Int} {t : List UInt8} (h : (cutC o ps t).2 ≠ 0) : chWrite d o ps t = (d, .zero, (cutC o ps t).2) := by unfold chWrite; rw [if_pos h]
theorem chWrite_place {d : Dk} {o : Int} {ps : List Int} {t : List UInt8} (h : (cutC o ps t).2 = 0) (hp : placesOk ps d.safe.length = false) : chWrite d o ps t = (d, .zero, 1) := by unfold chWrite; rw [if_neg (by omega), if_pos hp]
theorem chWrite_stop {d : Dk} {o : Int} {ps : List Int} {t : List UInt8} {i : Nat} (h : (cutC o ps t).2 = 0) (hp : placesOk ps d.safe.length = true) (hz : (wroteN d o ps t i).2 ≠ 0) : chWrite d o ps t = ((wroteN d o ps t i).1, .zero, (wroteN d o ps t i).2) := by
  unfold chWrite
  rw [if_neg (by omega), if_neg (by rw [hp]; simp), wroteN_stop hz, if_neg hz]
theorem chWrite_all {d : Dk} {o : Int} {ps : List Int} {t : List UInt8} (h : (cutC o ps t).2 = 0) (hp : placesOk ps d.safe.length = true) (hz : (wroteN d o ps t ps.length).2 = 0) : chWrite d o ps t = ((wroteN d o ps t ps.length).1, ⟨ps.getD 0 0, t.length, o⟩, 0) := by
  unfold chWrite
  rw [if_neg (by omega), if_neg (by rw [hp]; simp), ← wroteN_all, if_pos hz]
theorem wroteN_load (d : Dk) (o : Int) (ps : List Int) (t : List UInt8) (i : Nat) (hi : i ≤ ps.length) : (wroteN d o ps t i).1.load ≤ d.load + 2 * i := by
  have := (writeL_load ((cellW o ps t).take i) d).1
  rw [List.length_take, cellW_length, Nat.min_eq_left hi] at this
  exact this
end Go.Proofs.YtonnkibcnhjelaaGreatDoor
end
section
set_option linter.unusedVariables false
namespace Go.Proofs.YtonnkibcnhjelaaGreatDoor
open Go.RowKit
def Hdr (w : World) (B : Nat → Prop) (v : Value) (L : List UInt8) : Prop :=
  L.length = 256 ∧ ∃ b off c, v = .slice (some ⟨b, off, none⟩) 256 c ∧ 256 ≤ c ∧ c ≤ 9223372036854775807 ∧ B b ∧ RB w w.heap.size (some ⟨b, off, none⟩) L
def Hdrs (w : World) (B : Nat → Prop) (hs : List Value) (Ls : List (List UInt8)) : Prop := hs.length = Ls.length ∧ ∀ (i : Nat) (v : Value) (L : List UInt8), hs[i]? = some v → Ls[i]? = some L → Hdr w B v L
section
variable {w w' : World} {B B' E E' : Nat → Prop} {v : Value} {L : List UInt8} {hs : List Value} {Ls : List (List UInt8)}
theorem Hdr.turns (h : Hdr w B v L) (ht : Turns w w' E E') (hn : ∀ k, B k → ¬ E k) : Hdr w' B v L := by
  obtain ⟨h1, b, off, c, h2, h3, h4, h5, h6⟩ := h
  refine ⟨h1, b, off, c, h2, h3, h4, h5, (Reads.turns h6 (Nat.le_refl _) ht (fun ad e => ?_)).more ht.size⟩
  injection e with e
  subst e
  exact hn b h5
theorem Hdr.wide (h : Hdr w B v L) (hB : ∀ k, B k → B' k) : Hdr w B' v L := by
  obtain ⟨h1, b, off, c, h2, h3, h4, h5, h6⟩ := h
  exact ⟨h1, b, off, c, h2, h3, h4, hB b h5, h6⟩
theorem Hdrs.turns (h : Hdrs w B hs Ls) (ht : Turns w w' E E') (hn : ∀ k, B k → ¬ E k) : Hdrs w' B hs Ls := ⟨h.1, fun i v L h1 h2 => (h.2 i v L h1 h2).turns ht hn⟩
theorem Hdrs.wide (h : Hdrs w B hs Ls) (hB : ∀ k, B k → B' k) : Hdrs w B' hs Ls := ⟨h.1, fun i v L h1 h2 => (h.2 i v L h1 h2).wide hB⟩
theorem Hdrs.none_ : Hdrs w B [] [] := ⟨rfl, fun i v L h => by simp at h⟩
theorem Hdrs.snoc (h : Hdrs w B hs Ls) (hv : Hdr w B v L) : Hdrs w B (hs ++ [v]) (Ls ++ [L]) := by
  refine ⟨by simp [h.1], fun i v' L' h1 h2 => ?_⟩
  by_cases hi : i < hs.length
  · rw [List.getElem?_append_left hi] at h1
    rw [List.getElem?_append_left (by rw [← h.1]; exact hi)] at h2
    exact h.2 i v' L' h1 h2
  · rw [List.getElem?_append_right (by omega)] at h1
    rw [List.getElem?_append_right (by rw [← h.1]; omega), ← h.1] at h2
    have : i - hs.length = 0 := by
      have := (List.getElem?_eq_some_iff.1 h1).1
      simp at this; omega
    rw [this] at h1 h2
    simp at h1 h2
    subst h1 h2
    exact hv
theorem Hdrs.set_ (h : Hdrs w B hs Ls) (k : Nat) (hv : Hdr w B v L) : Hdrs w B (hs.set k v) (Ls.set k L) := by
  refine ⟨by simp [h.1], fun i v' L' h1 h2 => ?_⟩
  by_cases hik : k = i
  · subst hik
    have hlt : k < hs.length := by have := (List.getElem?_eq_some_iff.1 h1).1; simpa using this
    rw [List.getElem?_set_self hlt] at h1
    rw [List.getElem?_set_self (by rw [← h.1]; exact hlt)] at h2
    injection h1 with h1
    injection h2 with h2
    subst h1 h2
    exact hv
  · rw [List.getElem?_set_ne hik] at h1 h2
    exact h.2 i v' L' h1 h2
theorem Hdrs.at_ (h : Hdrs w B hs Ls) {i : Nat} (hi : i < Ls.length) : ∃ v, hs[i]? = some v ∧ Hdr w B v Ls[i] :=
  ⟨hs[i]'(by rw [h.1]; exact hi), List.getElem?_eq_getElem (by rw [h.1]; exact hi), h.2 i _ _ (List.getElem?_eq_getElem (by rw [h.1]; exact hi)) (List.getElem?_eq_getElem hi)⟩
end
def rwc (ws : List (Nat × List UInt8)) (hv : List Value) : List Value := (ws.zip hv).flatMap fun x => [.int .i64 (x.1.1 : Int), x.2]
theorem rwc_snoc (ws : List (Nat × List UInt8)) (hv : List Value) (h : hv.length = ws.length) (x : Nat × List UInt8) (v : Value) : rwc (ws ++ [x]) (hv ++ [v]) = rwc ws hv ++ [.int .i64 (x.1 : Int), v] := by
  unfold rwc
  rw [List.zip_append (by omega)]
  simp
theorem rwc_get (ws : List (Nat × List UInt8)) (hv : List Value) (h : hv.length = ws.length) (i : Nat) (hi : i < ws.length) : (rwc ws hv)[i * 2]? = some (.int .i64 ((ws[i]).1 : Int)) ∧ (rwc ws hv)[i * 2 + 1]? = hv[i]? := by
  induction ws generalizing hv i with
  | nil => simp at hi
  | cons x ws ih =>
    match hv with
    | [] => simp at h
    | v :: hv =>
      have e : rwc (x :: ws) (v :: hv) = .int .i64 (x.1 : Int) :: v :: rwc ws hv := by simp [rwc]
      rw [e]
      match i with
      | 0 => simp
      | i + 1 =>
        have := ih hv (by simpa using h) i (by simpa using hi)
        rw [show (i + 1) * 2 = i * 2 + 2 by omega, show i * 2 + 2 + 1 = i * 2 + 1 + 2 by omega]
        simpa using this
def refCells (S V : Value) (d : Dk) : Array Value := #[S, V, .int .i64 d.left, .bool d.off, .int .i64 (d.reads : Int), .int .i64 (d.writes : Int), .int .i64 (d.flushes : Int)]
structure RD (w : World) (g : Nat) (G B : Nat → Prop) (d : Dk) (s cs : Nat) (V : Value) (hs hv : List Value) : Prop where
  blk : Blk w g 73 (refCells (.slice (some ⟨s, 0, none⟩) d.safe.length cs) V d)
  safe : w.ownsRow 0 39 1 (.slice (some ⟨s, 0, none⟩) d.safe.length cs) d.safe.length hs
  hsafe : Hdrs w B hs d.safe
  wait : w.ownsRow 0 115 2 V d.waits.length (rwc d.waits hv)
  hwait : Hdrs w B hv (d.waits.map (·.2))
  gg : G g
  gs : G s
  gv : ∀ k, V.ownBlock = some k → G k
  glt : ∀ k, G k → k < w.heap.size
  blt : ∀ k, B k → k < w.heap.size
  gb : ∀ k, G k → ¬ B k
  good : d.good
def RDisk (w : World) (g : Nat) (G B : Nat → Prop) (d : Dk) : Prop := ∃ s cs V hs hv, RD w g G B d s cs V hs hv
section
variable {w w' : World} {g : Nat} {G B : Nat → Prop} {d : Dk} {s cs : Nat} {V : Value} {hs hv : List Value}
theorem RD.ne (h : RD w g G B d s cs V hs hv) : g ≠ s ∧ V.ownBlock ≠ some g ∧ V.ownBlock ≠ some s := by
  obtain ⟨c1, h1⟩ := (own_lt h.safe (k := s) rfl).2
  exact ⟨h.blk.ne_ h1 (by decide), own_blk_ne h.wait h.blk (by decide), own_blk_ne h.wait h1 (by decide)⟩
theorem RD.turns {E E' : Nat → Prop} (h : RD w g G B d s cs V hs hv) (ht : Turns w w' E E') (hn : ∀ k, G k → ¬ E k) (hm : ∀ k, B k → ¬ E k) : RD w' g G B d s cs V hs hv :=
  ⟨h.blk.turns ht (hn g h.gg), own_turns h.safe ht (fun k hk => hn k (by simp [Value.ownBlock] at hk; rw [← hk]; exact h.gs)), h.hsafe.turns ht hm, own_turns h.wait ht (fun k hk => hn k (h.gv k hk)), h.hwait.turns ht hm, h.gg, h.gs, h.gv,
   fun k hk => Nat.lt_of_lt_of_le (h.glt k hk) ht.size, fun k hk => Nat.lt_of_lt_of_le (h.blt k hk) ht.size, h.gb, h.good⟩
theorem RDisk.turns {E E' : Nat → Prop} (h : RDisk w g G B d) (ht : Turns w w' E E') (hn : ∀ k, G k → ¬ E k) (hm : ∀ k, B k → ¬ E k) : RDisk w' g G B d := by
  obtain ⟨s, cs, V, hs, hv, h⟩ := h
  exact ⟨s, cs, V, hs, hv, h.turns ht hn hm⟩
theorem RDisk.below (h : RDisk w g G B d) (hb : Below w.heap.size w w') : RDisk w' g G B d := h.turns (Turns.of_below hb (fun _ => False)) (fun _ _ h => h) (fun _ _ h => h)
theorem RDisk.good (h : RDisk w g G B d) : d.good := by obtain ⟨s, cs, V, hs, hv, h⟩ := h; exact h.good
theorem RDisk.glt (h : RDisk w g G B d) : ∀ k, G k → k < w.heap.size := by obtain ⟨s, cs, V, hs, hv, h⟩ := h; exact h.glt
theorem RDisk.blt (h : RDisk w g G B d) : ∀ k, B k → k < w.heap.size := by obtain ⟨s, cs, V, hs, hv, h⟩ := h; exact h.blt
theorem RDisk.gb (h : RDisk w g G B d) : ∀ k, G k → ¬ B k := by obtain ⟨s, cs, V, hs, hv, h⟩ := h; exact h.gb
theorem RD.r0 (h : RD w g G B d s cs V hs hv) : w.cell? ⟨g, 0, none⟩ = some (.slice (some ⟨s, 0, none⟩) d.safe.length cs) := by rw [h.blk.cell]; rfl
theorem RD.r1 (h : RD w g G B d s cs V hs hv) : w.cell? ⟨g, 1, none⟩ = some V := by rw [h.blk.cell]; rfl
theorem RD.r2 (h : RD w g G B d s cs V hs hv) : w.cell? ⟨g, 2, none⟩ = some (.int .i64 d.left) := by rw [h.blk.cell]; rfl
theorem RD.r3 (h : RD w g G B d s cs V hs hv) : w.cell? ⟨g, 3, none⟩ = some (.bool d.off) := by rw [h.blk.cell]; rfl
theorem RD.r4 (h : RD w g G B d s cs V hs hv) : w.cell? ⟨g, 4, none⟩ = some (.int .i64 (d.reads : Int)) := by rw [h.blk.cell]; rfl
theorem RD.r5 (h : RD w g G B d s cs V hs hv) : w.cell? ⟨g, 5, none⟩ = some (.int .i64 (d.writes : Int)) := by rw [h.blk.cell]; rfl
theorem RD.r6 (h : RD w g G B d s cs V hs hv) : w.cell? ⟨g, 6, none⟩ = some (.int .i64 (d.flushes : Int)) := by rw [h.blk.cell]; rfl
theorem RD.fz (h : RD w g G B d s cs V hs hv) (k : Nat) : w.frozen? ⟨g, k, none⟩ = false := h.blk.frozen k
theorem RD.vform (h : RD w g G B d s cs V hs hv) : ∃ A c, V = .slice A d.waits.length c ∧ d.waits.length ≤ c ∧ c ≤ 9223372036854775807 := by
  rcases h.wait.2 with ⟨rfl, h0⟩ | ⟨k, cap, cur, rfl, h2, h3, h4, h5, _⟩
  · exact ⟨none, 0, by rw [h0], by omega, by omega⟩
  · exact ⟨_, _, rfl, h4, h5⟩
theorem RD.at_ (h : RD w g G B d s cs V hs hv) {i : Nat} (hi : i < d.safe.length) : ∃ v, hs[i]? = some v ∧ w.cell? ⟨s, i, none⟩ = some v ∧ Hdr w B v d.safe[i] := by
  obtain ⟨v, h1, h2⟩ := h.hsafe.at_ hi
  refine ⟨v, h1, ?_, h2⟩
  have := World.ownsRow.cells h.safe (g := s) rfl i v h1
  rwa [show (⟨s, 0, none⟩ : Addr).add i = ⟨s, i, none⟩ by unfold Addr.add; split <;> simp_all] at this
theorem RD.row (h : RD w g G B d s cs V hs hv) (h0 : 0 < d.waits.length) : ∃ gv cv, V = .slice (some ⟨gv, 0, none⟩) d.waits.length cv ∧ gv ≠ s ∧ gv ≠ g ∧ G gv ∧ d.waits.length ≤ cv ∧ cv ≤ 9223372036854775807 ∧
    (∀ i (hi : i < d.waits.length), w.cell? ⟨gv, i * 2, none⟩ = some (.int .i64 ((d.waits[i]).1 : Int)) ∧ ∃ v, w.cell? ⟨gv, i * 2 + 1, none⟩ = some v ∧ Hdr w B v (d.waits[i]).2) := by
  obtain ⟨n1, n2, n3⟩ := h.ne
  have hw := h.wait
  have hl : hv.length = d.waits.length := by have := h.hwait.1; rwa [List.length_map] at this
  rcases h.wait.2 with ⟨_, h1⟩ | ⟨k, cap, cur, rfl, h2, h3, h4, h5, h6, h7⟩
  · omega
  · refine ⟨k, cap, rfl, fun e => n3 (by simp [Value.ownBlock, e]), fun e => n2 (by simp [Value.ownBlock, e]), h.gv k rfl, h4, h5, fun i hi => ?_⟩
    have hc := World.ownsRow.cells hw (g := k) rfl
    have ea : ∀ j, (⟨k, 0, none⟩ : Addr).add j = ⟨k, j, none⟩ := fun j => by unfold Addr.add; split <;> simp_all
    obtain ⟨e1, e2⟩ := rwc_get d.waits hv hl i hi
    obtain ⟨v, h8, h9⟩ := h.hwait.at_ (i := i) (by rw [List.length_map]; exact hi)
    have c1 := hc _ _ e1
    have c2 := hc _ _ (e2.trans h8)
    rw [ea] at c1 c2
    rw [List.getElem_map] at h9
    exact ⟨c1, v, c2, h9⟩
theorem RD.retell {E' : Nat → Prop} {d' : Dk} (h : RD w g G B d s cs V hs hv) (ht : Turns w w' (fun k => k = g) E') (h1 : d'.safe = d.safe) (h2 : d'.waits = d.waits) (hl : -1 ≤ d'.left ∧ d'.left ≤ 9223372036854775807)
    (hb : Blk w' g 73 (refCells (.slice (some ⟨s, 0, none⟩) d.safe.length cs) V d')) : RD w' g G B d' s cs V hs hv := by
  obtain ⟨n1, n2, n3⟩ := h.ne
  have hgb : ∀ k, B k → ¬ k = g := fun k hk e => h.gb g h.gg (e ▸ hk)
  refine ⟨by rw [h1]; exact hb, by rw [h1]; exact own_turns h.safe ht (fun k hk e => n1 (by simp [Value.ownBlock] at hk; omega)), by rw [h1]; exact h.hsafe.turns ht hgb, by rw [h2]; exact own_turns h.wait ht (fun k hk e => n2 (by rw [hk, e])), by rw [h2]; exact h.hwait.turns ht hgb, h.gg, h.gs, h.gv,
    fun k hk => Nat.lt_of_lt_of_le (h.glt k hk) ht.size, fun k hk => Nat.lt_of_lt_of_le (h.blt k hk) ht.size, h.gb, ⟨⟨by rw [h1]; exact h.good.fit.1, by rw [h1, h2]; exact h.good.fit.2⟩, by rw [h1]; exact h.good.few, by rw [h1]; exact h.good.many, hl⟩⟩
end
def RDeeds (D : Dk) (G B : Nat → Prop) (w w' : World) (g : Nat) : Prop := ∃ G' B', RDisk w' g G' B' D ∧ Turns w w' G G' ∧ ∀ k, B' k → B k ∨ w.heap.size ≤ k
def RSame (D : Dk) (G B : Nat → Prop) (w w' : World) (g : Nat) : Prop := RDisk w' g G B D ∧ Turns w w' G G
theorem RSame.deeds {D : Dk} {G B : Nat → Prop} {w w' : World} {g : Nat} (h : RSame D G B w w' g) : RDeeds D G B w w' g := ⟨G, B, h.1, h.2, fun _ h => .inl h⟩
end Go.Proofs.YtonnkibcnhjelaaGreatDoor
end
section
set_option linter.unusedVariables false
namespace Go.Proofs.YtonnkibcnhjelaaGreatDoor
open Go.RowKit
theorem Tryz.dNotNil (g : Nat) (w : World) : Sem.run Tryz.prog (binOp BinOp.neq 24 (Value.pointer (some ⟨g, 0, none⟩)) (Value.pointer none)) w = Result.ok (Value.bool true) w := by kernel_rfl
theorem Tryz.dIsNil (g : Nat) (w : World) : Sem.run Tryz.prog (binOp BinOp.eql 24 (Value.pointer (some ⟨g, 0, none⟩)) (Value.pointer none)) w = Result.ok (Value.bool false) w := by kernel_rfl
theorem Tryz.dNilIs (w : World) : Sem.run Tryz.prog (binOp BinOp.eql 24 (Value.pointer none) (Value.pointer none)) w = Result.ok (Value.bool true) w := by kernel_rfl
section
variable {w w' : World} {g : Nat} {F F' : Nat → Prop} {d : Dk} {a ca b cb n : Nat} {V : Value} {ends : Bool} {lf : Int}
theorem PD.c0 (h : PD w g F d a ca b cb n V ends lf) : w.cell? ⟨g, 0, none⟩ = some (.slice (some ⟨a, 0, none⟩) n ca) := by rw [h.blk.cell]; rfl
theorem PD.c1 (h : PD w g F d a ca b cb n V ends lf) : w.cell? ⟨g, 1, none⟩ = some (.slice (some ⟨b, 0, none⟩) n cb) := by rw [h.blk.cell]; rfl
theorem PD.c2 (h : PD w g F d a ca b cb n V ends lf) : w.cell? ⟨g, 2, none⟩ = some V := by rw [h.blk.cell]; rfl
theorem PD.c3 (h : PD w g F d a ca b cb n V ends lf) : w.cell? ⟨g, 3, none⟩ = some (.bool d.off) := by rw [h.blk.cell]; rfl
theorem PD.c4 (h : PD w g F d a ca b cb n V ends lf) : w.cell? ⟨g, 4, none⟩ = some (.bool ends) := by rw [h.blk.cell]; rfl
theorem PD.c5 (h : PD w g F d a ca b cb n V ends lf) : w.cell? ⟨g, 5, none⟩ = some (.int .i64 lf) := by rw [h.blk.cell]; rfl
theorem PD.c6 (h : PD w g F d a ca b cb n V ends lf) : w.cell? ⟨g, 6, none⟩ = some (.int .i64 (d.reads : Int)) := by rw [h.blk.cell]; rfl
theorem PD.c7 (h : PD w g F d a ca b cb n V ends lf) : w.cell? ⟨g, 7, none⟩ = some (.int .i64 (d.writes : Int)) := by rw [h.blk.cell]; rfl
theorem PD.c8 (h : PD w g F d a ca b cb n V ends lf) : w.cell? ⟨g, 8, none⟩ = some (.int .i64 (d.flushes : Int)) := by rw [h.blk.cell]; rfl
theorem PD.fz (h : PD w g F d a ca b cb n V ends lf) (k : Nat) : w.frozen? ⟨g, k, none⟩ = false := h.blk.frozen k
theorem PD.vform (h : PD w g F d a ca b cb n V ends lf) : ∃ A c, V = .slice A d.waits.length c ∧ d.waits.length ≤ c ∧ c ≤ 9223372036854775807 := by
  rcases h.wait.2 with ⟨rfl, h0⟩ | ⟨k, cap, cur, rfl, h2, h3, h4, h5, _⟩
  · exact ⟨none, 0, by rw [h0], by omega, by omega⟩
  · exact ⟨_, _, rfl, h4, h5⟩
end
set_option maxRecDepth 100000 in
theorem fits_any (i : Int) (w : World) : Calls Tryz.prog 18 #[.int .i64 i] w fun e w' => e = .returned (.bool (decide (16 ≤ i ∧ i ≤ 1024))) ∧ w = w' := by
  by_cases h1 : 16 ≤ i
  · by_cases h2 : i ≤ 1024
    · have HV : Hid (decide (16 ≤ i ∧ i ≤ 1024) = true) := decide_eq_true ⟨h1, h2⟩
      have d1 : decide (i ≥ 16) = true := decide_eq_true h1
      have d2 : decide (i ≤ 1024) = true := decide_eq_true h2
      go_enter Tryz.func18, Tryz.ntmps18
      go_wp2
      go_ret
      exact ⟨by first | rfl | (rw [HV.out]; rfl), rfl⟩
    · have HV : Hid (decide (16 ≤ i ∧ i ≤ 1024) = false) := decide_eq_false fun h => h2 h.2
      have d1 : decide (i ≥ 16) = true := decide_eq_true h1
      have d2 : decide (i ≤ 1024) = false := decide_eq_false h2
      go_enter Tryz.func18, Tryz.ntmps18
      go_wp2
      go_ret
      exact ⟨by first | rfl | (rw [HV.out]; rfl), rfl⟩
  · have HV : Hid (decide (16 ≤ i ∧ i ≤ 1024) = false) := decide_eq_false fun h => h1 h.1
    have d1 : decide (i ≥ 16) = false := decide_eq_false h1
    have d2 : decide ((16 : Int) ≤ i) = false := decide_eq_false h1
    go_enter Tryz.func18, Tryz.ntmps18
    go_wp2
    go_ret
    exact ⟨by first | rfl | (rw [HV.out]; rfl), rfl⟩
set_option maxRecDepth 100000 in
set_option maxHeartbeats 1000000 in
theorem sclone_some (L : List UInt8) (ad : Addr) (c B : Nat) (w : World) (hr : RB w B (some ad) L) (hl : L.length ≤ 140737488351232) :
    Calls Tryz.prog 52 #[.slice (some ad) L.length c] w (GivesOne L w) := by
  obtain ⟨i0, hi0, hz0, hz1, hz2⟩ := info_parts Tryz.info5
  have hr := rb_lt hr
  have hn : (binOp .eql 39 (.slice (some ad) L.length c) (.slice none 0 0)).run Tryz.prog w = .ok (.bool false) w := Lib.run_eql_slice_nil w 39 5 (some ad) L.length c 0 0 Tryz.underlying39
  go_enter Tryz.func52, Tryz.ntmps52
  go_wp2_with (at_builtin; refine wpList_append_any _ rfl (.tmp 5) (.tmp 6) _ rfl w.heap.size 5 i0 _ 1 1 Tryz.underlying39 hi0 hz0 hz1 hz2 rfl (by omega) (.slice (some ⟨w.heap.size, 0, none⟩) 0 0) 0 [] rfl (World.ownsRow_made w #[] 0 (Nat.le_refl _) (by decide) rfl) w.heap.size (some ad) L.length c (cells L) rfl (hr.alloc (Nat.le_refl _) _) (cells_one _) (by simp only [maxLen]; omega) (by omega) (by simp) ?_; intro v5 w5 ho5 hg5 hat5; simp only [Nat.zero_add, List.nil_append] at ho5; have hb5 : Below w.heap.size w w5 := ((Below.refl _ _).alloc (Nat.le_refl _) _).grown hg5 (by simp) (by simp [Value.ownBlock]))
  obtain ⟨A3, c3, hv⟩ := own_form ho5
  go_ret
  exact ⟨A3, c3, by rw [hv]; rfl, by rw [hv] at ho5; exact ho5, hb5⟩
theorem sclone_none (n c : Nat) (w : World) : Calls Tryz.prog 52 #[.slice none n c] w fun e w' => e = .returned (.slice none 0 0) ∧ w = w' := by
  have hn : (binOp .eql 39 (.slice none n c) (.slice none 0 0)).run Tryz.prog w = .ok (.bool true) w := Lib.run_eql_slice_nil w 39 5 none n c 0 0 Tryz.underlying39
  go_enter Tryz.func52, Tryz.ntmps52
  go_wp2
  go_ret
  exact ⟨rfl, rfl⟩
theorem sclone_any (L : List UInt8) (A : Option Addr) (c B : Nat) (w : World) (hr : RB w B A L) (hl : L.length ≤ 140737488351232) :
    Calls Tryz.prog 52 #[.slice A L.length c] w (GivesOne L w) := by
  rcases A with _ | ad
  · have hL : L = [] := by
      rcases L with _ | ⟨x, L⟩
      · rfl
      · obtain ⟨ad, h, _⟩ := hr.2 (by simp)
        cases h
    subst hL
    refine (sclone_none _ c w).mono fun e w' h => ?_
    obtain ⟨he, rfl⟩ := h
    exact ⟨none, 0, he, World.ownsRow_nil _ _ _ _, Below.refl _ _⟩
  · exact sclone_some L ad c B w hr hl
set_option maxRecDepth 100000 in
theorem blocks_core (g a n ca m : Nat) (w : World) (h0 : w.cell? ⟨g, 0, none⟩ = some (.slice (some ⟨a, 0, none⟩) n ca)) (hm : n = 256 * m) (hm2 : m ≤ 1024) :
    Calls Tryz.prog 25 #[.pointer (some ⟨g, 0, none⟩)] w fun e w' => e = .returned (.int .i64 (m : Int)) ∧ w = w' := by
  have z0 := fun w' => Tryz.dIsNil g w'
  have u0 : (0 : Int) ≤ (n : Int) := by omega
  have u1 : (n : Int) ≤ 1000000 := by omega
  have e1 : (n : Int) / 256 = (m : Int) := by omega
  have e2 : (n : Int).tdiv 256 = (m : Int) := by rw [Int.tdiv_eq_ediv_of_nonneg u0]; exact e1
  clear hm
  go_enter Tryz.func25, Tryz.ntmps25
  go_wp2
  go_ret
  exact ⟨rfl, rfl⟩
theorem blocks_any {w : World} {g : Nat} {F : Nat → Prop} {d : Dk} (h : PDisk w g F d) :
    Calls Tryz.prog 25 #[.pointer (some ⟨g, 0, none⟩)] w fun e w' => e = .returned (.int .i64 (d.safe.length : Int)) ∧ w = w' := by
  obtain ⟨a, ca, b, cb, n, V, ends, lf, h⟩ := h
  exact blocks_core g a n ca d.safe.length w h.c0 h.size h.good.many
set_option maxRecDepth 100000 in
theorem off_any {w : World} {g : Nat} {F : Nat → Prop} {d : Dk} (h : PDisk w g F d) :
    Calls Tryz.prog 39 #[.pointer (some ⟨g, 0, none⟩)] w fun e w' => e = .returned (.bool d.off) ∧ w = w' := by
  obtain ⟨a, ca, b, cb, n, V, ends, lf, h⟩ := h
  have z0 := fun w' => Tryz.dIsNil g w'
  have c3 := h.c3
  clear h
  go_enter Tryz.func39, Tryz.ntmps39
  go_wp2
  go_ret
  exact ⟨rfl, rfl⟩
set_option maxRecDepth 100000 in
theorem waits_any {w : World} {g : Nat} {F : Nat → Prop} {d : Dk} (h : PDisk w g F d) :
    Calls Tryz.prog 40 #[.pointer (some ⟨g, 0, none⟩)] w fun e w' => e = .returned (.int .i64 (d.waits.length : Int)) ∧ w = w' := by
  obtain ⟨a, ca, b, cb, n, V, ends, lf, h⟩ := h
  have z0 := fun w' => Tryz.dIsNil g w'
  obtain ⟨A, c, rfl, _, _⟩ := h.vform
  have c2 := h.c2
  clear h
  go_enter Tryz.func40, Tryz.ntmps40
  go_wp2
  go_ret
  exact ⟨rfl, rfl⟩
set_option maxRecDepth 100000 in
theorem block_of (a n c k : Nat) (w : World) (hk : 256 * k + 256 ≤ n) (hn : n ≤ 1000000) (hc : n ≤ c) (hcm : c ≤ 9223372036854775807) :
    Calls Tryz.prog 46 #[.slice (some ⟨a, 0, none⟩) n c, .int .i64 (k : Int)] w fun e w' => e = .returned (.slice (some ⟨a, 256 * k, none⟩) 256 (c - 256 * k)) ∧ w = w' := by
  obtain ⟨s, hs⟩ : ∃ s, s = 256 * k := ⟨_, rfl⟩
  have e1 : (k : Int) * 256 = (s : Int) := by omega
  have u0 : (0 : Int) ≤ (s : Int) := by omega
  have u1 : (s : Int) ≤ (n : Int) := by omega
  have u4 : IntKind.i64.wrap (s : Int) = (s : Int) := IntWalk.i64_in _ (by omega)
  have HS1 := fun W => sl_from a 0 n c s (s : Int) rfl (by omega) (by omega) W
  have HS2 := fun W => sl_to a (0 + s) (n - s) (c - s) 256 256 rfl (by omega) (by omega) W
  rw [Nat.zero_add] at HS1 HS2
  have HE := Lib.hid hs
  clear hk hs
  rw [← HE.out]
  go_enter Tryz.func46, Tryz.ntmps46
  go_wp2
  go_ret
  exact ⟨rfl, rfl⟩
theorem Tryz.addInt64 (a : Addr) (x y s : Int) (w : World) (hc : w.cell? a = some (.int .i64 x)) (hz : w.frozen? a = false) (hs : IntKind.i64.wrap (x + y) = s) :
    (callFunc 77 #[.pointer (some a), .int .i64 y]).run Tryz.prog w = .ok (.value (.int .i64 s)) (w.setCell a (.int .i64 s)) :=
  run_call_add Tryz.func77 (by kernel_rfl) (by kernel_rfl) (by kernel_rfl) .i64 (by kernel_rfl) hc hz (by simp [go_sem, hs])
theorem aadd_any (g k x : Nat) (w : World) (hx : x < 1000000) (hc : w.cell? ⟨g, k, none⟩ = some (.int .i64 (x : Int))) (hz : w.frozen? ⟨g, k, none⟩ = false) :
    Calls Tryz.prog 47 #[.pointer (some ⟨g, k, none⟩), .int .i64 1] w fun e w' => w' = w.setCell ⟨g, k, none⟩ (.int .i64 ((x + 1 : Nat) : Int)) ∧ e = .returned (.int .i64 ((x + 1 : Nat) : Int)) := by
  have HA := Tryz.addInt64 ⟨g, k, none⟩ (x : Int) 1 ((x + 1 : Nat) : Int) w hc hz (by rw [IntWalk.i64_in _ (by omega)]; omega)
  clear hc hz hx
  obtain ⟨y, hy⟩ : ∃ y : Int, y = ((x + 1 : Nat) : Int) := ⟨_, rfl⟩
  rw [← hy] at HA ⊢
  clear hy
  go_enter Tryz.func47, Tryz.ntmps47
  go_wp2
  go_ret
  exact ⟨rfl, rfl⟩
set_option maxRecDepth 100000 in
theorem falls_no (g : Nat) (w : World) (h4 : w.cell? ⟨g, 4, none⟩ = some (.bool false)) :
    Calls Tryz.prog 45 #[.pointer (some ⟨g, 0, none⟩)] w fun e w' => e = .returned (.bool false) ∧ w = w' := by
  have n0 := fun w' => Tryz.notFalse w'
  go_enter Tryz.func45, Tryz.ntmps45
  go_wp2
  go_ret
  exact ⟨rfl, rfl⟩
set_option maxRecDepth 100000 in
theorem falls_yes (g : Nat) (lf : Int) (o : Bool) (w : World) (hl : 0 ≤ lf ∧ lf ≤ 9223372036854775807) (h3 : w.cell? ⟨g, 3, none⟩ = some (.bool o)) (h4 : w.cell? ⟨g, 4, none⟩ = some (.bool true)) (h5 : w.cell? ⟨g, 5, none⟩ = some (.int .i64 lf))
    (f3 : w.frozen? ⟨g, 3, none⟩ = false) (f5 : w.frozen? ⟨g, 5, none⟩ = false) :
    Calls Tryz.prog 45 #[.pointer (some ⟨g, 0, none⟩)] w fun e w' => e = .returned (.bool (decide (lf = 0))) ∧ w' = (w.setCell ⟨g, 3, none⟩ (.bool (decide (lf = 0)))).setCell ⟨g, 5, none⟩ (.int .i64 (lf - 1)) := by
  have n0 := fun w' => Tryz.notTrue w'
  obtain ⟨r, hr⟩ : ∃ r, r = decide (lf = 0) := ⟨_, rfl⟩
  have e0 : (lf == 0) = r := by rw [hr]; by_cases h : lf = 0 <;> simp [h]
  obtain ⟨y, hy⟩ : ∃ y, y = lf - 1 := ⟨_, rfl⟩
  have e1 : IntKind.i64.wrap (lf - 1) = y := by rw [hy]; exact IntWalk.i64_in _ (by omega)
  rw [← hr, ← hy]
  clear hr hy hl
  go_enter Tryz.func45, Tryz.ntmps45
  go_wp2
  go_ret
  exact ⟨rfl, rfl⟩
def Dk.reach (d : Dk) (i : Int) : Int := if d.off = true then 9 else if d.there i = true then 0 else 10
set_option maxRecDepth 100000 in
theorem reach_any {w : World} {g : Nat} {F : Nat → Prop} {d : Dk} (h : PDisk w g F d) (i : Int) :
    Calls Tryz.prog 67 #[.pointer (some ⟨g, 0, none⟩), .int .i64 i] w fun e w' => e = .returned (.int .i64 (d.reach i)) ∧ w = w' := by
  have HB := Lib.hid (blocks_any h)
  obtain ⟨a, ca, b, cb, n, V, ends, lf, h⟩ := h
  have z0 := fun w' => Tryz.dIsNil g w'
  have c3 := h.c3
  obtain ⟨m, hm⟩ : ∃ m, m = d.safe.length := ⟨_, rfl⟩
  have HT : Hid (d.there i = decide (0 ≤ i ∧ i < (m : Int))) := by show _ = _; rw [hm]; rfl
  rw [← hm] at HB
  clear h hm
  cases ho : d.off with
  | true =>
    rw [ho] at c3
    have HR : Hid (d.reach i = 9) := by show _ = _; unfold Dk.reach; rw [if_pos ho]
    clear ho
    go_enter Tryz.func67, Tryz.ntmps67
    go_wp2
    go_ret
    exact ⟨by rw [HR.out]; rfl, rfl⟩
  | false =>
    rw [ho] at c3
    have HR : Hid (d.reach i = if d.there i = true then 0 else 10) := by show _ = _; unfold Dk.reach; rw [ho]; rfl
    clear ho
    by_cases h0 : i < 0
    · have HV : Hid (d.there i = false) := by rw [HT.out]; exact decide_eq_false (by omega)
      have d0 : decide (i < 0) = true := decide_eq_true h0
      go_enter Tryz.func67, Tryz.ntmps67
      go_wp2
      go_ret
      exact ⟨by rw [HR.out, HV.out]; rfl, rfl⟩
    · have d0 : decide (i < 0) = false := decide_eq_false h0
      by_cases h1 : (m : Int) ≤ i
      · have HV : Hid (d.there i = false) := by rw [HT.out]; exact decide_eq_false (by omega)
        have d1 : decide (i ≥ (m : Int)) = true := decide_eq_true h1
        have d2 : decide ((m : Int) ≤ i) = true := decide_eq_true h1
        go_enter Tryz.func67, Tryz.ntmps67
        go_wp2_with (go_at_call 25; (with_reducible refine HB.out.mono ?_); rintro e w1 ⟨rfl, rfl⟩)
        go_ret
        exact ⟨by rw [HR.out, HV.out]; rfl, rfl⟩
      · have HV : Hid (d.there i = true) := by rw [HT.out]; exact decide_eq_true (by omega)
        have d1 : decide (i ≥ (m : Int)) = false := decide_eq_false h1
        have d2 : decide ((m : Int) ≤ i) = false := decide_eq_false h1
        go_enter Tryz.func67, Tryz.ntmps67
        go_wp2_with (go_at_call 25; (with_reducible refine HB.out.mono ?_); rintro e w1 ⟨rfl, rfl⟩)
        go_ret
        exact ⟨by rw [HR.out, HV.out]; rfl, rfl⟩
end Go.Proofs.YtonnkibcnhjelaaGreatDoor
end
section
set_option linter.unusedVariables false
namespace Go.Proofs.YtonnkibcnhjelaaGreatDoor
open Go.RowKit
theorem Tryz.aggCell (w : World) : (isAgg 64).run Tryz.prog w = .ok true w := by kernel_rfl
theorem Tryz.sizeCell (w : World) : (sizeOf 64).run Tryz.prog w = .ok 4 w := by kernel_rfl
theorem Tryz.cellBuild0 (w : World) : Sem.run Tryz.prog (Instr.build 64 #[]) w = .ok (.agg #[.int .i64 0, .int .i64 0, .int .i64 0, .slice none 0 0]) w := by kernel_rfl
theorem Tryz.cellBuild4 (o n x : Int) (A : Option Addr) (m c : Nat) (w : World) : Sem.run Tryz.prog (Instr.build 64 #[(0, .int .i64 o), (1, .int .i64 n), (2, .int .i64 x), (3, .slice A m c)]) w = .ok (.agg #[.int .i64 o, .int .i64 n, .int .i64 x, .slice A m c]) w := by kernel_rfl
def CL (w : World) (B : Nat) (A : Option Addr) (l : List Ce) : Prop :=
  0 < l.length → ∃ b off, A = some ⟨b, off, none⟩ ∧ b < B ∧ ∀ i (hi : i < l.length), ∃ dA dc, RB w B dA l[i].data ∧
    w.cell? ⟨b, off + i * 4, none⟩ = some (.int .i64 l[i].owner) ∧ w.cell? ⟨b, off + i * 4 + 1, none⟩ = some (.int .i64 l[i].number) ∧ w.cell? ⟨b, off + i * 4 + 2, none⟩ = some (.int .i64 l[i].next) ∧
    w.cell? ⟨b, off + i * 4 + 3, none⟩ = some (.slice dA l[i].data.length dc)
section
variable {w w' : World} {B : Nat} {A : Option Addr} {l : List Ce}
theorem CL.below (h : CL w B A l) (hb : Below B w w') : CL w' B A l := fun h0 => by
  obtain ⟨b, off, e, hlt, hc⟩ := h h0
  refine ⟨b, off, e, hlt, fun i hi => ?_⟩
  obtain ⟨dA, dc, h1, h2, h3, h4, h5⟩ := hc i hi
  have k : ∀ j, w'.cell? ⟨b, j, none⟩ = w.cell? ⟨b, j, none⟩ := fun j => hb.cell (p := ⟨b, j, none⟩) hlt
  exact ⟨dA, dc, h1.below hb, by rw [k]; exact h2, by rw [k]; exact h3, by rw [k]; exact h4, by rw [k]; exact h5⟩
theorem CL.more {B' : Nat} (h : CL w B A l) (hb : B ≤ B') : CL w B' A l := fun h0 => by
  obtain ⟨b, off, e, hlt, hc⟩ := h h0
  refine ⟨b, off, e, Nat.lt_of_lt_of_le hlt hb, fun i hi => ?_⟩
  obtain ⟨dA, dc, h1, h2⟩ := hc i hi
  exact ⟨dA, dc, h1.more hb, h2⟩
theorem CL.up (h : CL w w.heap.size A l) (hb : Below w.heap.size w w') : CL w' w'.heap.size A l := (h.below hb).more hb.size
theorem CL.nil : CL w B A [] := fun h => absurd h (by simp)
end
def ceC (x : Ce × Option Addr × Nat) : List Value := [.int .i64 x.1.owner, .int .i64 x.1.number, .int .i64 x.1.next, .slice x.2.1 x.1.data.length x.2.2]
def rowE (r : List (Ce × Option Addr × Nat)) : List Value := r.flatMap ceC
theorem rowE_get (r : List (Ce × Option Addr × Nat)) (i : Nat) (hi : i < r.length) : (rowE r)[i * 4]? = some (.int .i64 (r[i]).1.owner) ∧ (rowE r)[i * 4 + 1]? = some (.int .i64 (r[i]).1.number) ∧ (rowE r)[i * 4 + 2]? = some (.int .i64 (r[i]).1.next) ∧ (rowE r)[i * 4 + 3]? = some (.slice (r[i]).2.1 (r[i]).1.data.length (r[i]).2.2) :=
  by
  induction r generalizing i with
  | nil => simp at hi
  | cons x r ih =>
    have e : rowE (x :: r) = .int .i64 x.1.owner :: .int .i64 x.1.number :: .int .i64 x.1.next :: .slice x.2.1 x.1.data.length x.2.2 :: rowE r := rfl
    rw [e]
    match i with
    | 0 => simp
    | i + 1 =>
      have := ih i (by simpa using hi)
      rw [show (i + 1) * 4 = i * 4 + 4 by omega, show i * 4 + 4 + 1 = i * 4 + 1 + 4 by omega, show i * 4 + 4 + 2 = i * 4 + 2 + 4 by omega, show i * 4 + 4 + 3 = i * 4 + 3 + 4 by omega]
      simpa using this
theorem rowE_snoc (r : List (Ce × Option Addr × Nat)) (x : Ce × Option Addr × Nat) : rowE (r ++ [x]) = rowE r ++ ceC x := by simp [rowE]
theorem CL.of_own {w : World} {base n c : Nat} {A : Option Addr} {r : List (Ce × Option Addr × Nat)} (h : w.ownsRow base 64 4 (.slice A n c) n (rowE r)) (hn : n = r.length) (hr : ∀ x ∈ r, RB w w.heap.size x.2.1 x.1.data) : CL w w.heap.size A (r.map (·.1)) := fun h0 => by
  subst hn
  rw [List.length_map] at h0
  rcases h.2 with ⟨_, h1⟩ | ⟨k, cap, cur, he, h2, h3, _⟩
  · omega
  · simp only [Value.slice.injEq] at he
    obtain ⟨rfl, -, rfl⟩ := he
    have hc := World.ownsRow.cells h (g := k) rfl
    have ea : ∀ j, (⟨k, 0, none⟩ : Addr).add j = ⟨k, j, none⟩ := fun j => by unfold Addr.add; split <;> simp_all
    refine ⟨k, 0, rfl, Blk.lt (t := 64) h3, fun i hi => ?_⟩
    rw [List.length_map] at hi
    obtain ⟨g0, g1, g2, g3⟩ := rowE_get r i hi
    have c0 := hc _ _ g0
    have c1 := hc _ _ g1
    have c2 := hc _ _ g2
    have c3 := hc _ _ g3
    rw [ea] at c0 c1 c2 c3
    simp only [Nat.zero_add, List.getElem_map]
    exact ⟨r[i].2.1, r[i].2.2, hr _ (List.getElem_mem hi), c0, c1, c2, c3⟩
def CLN (w : World) (base : Nat) (A : Option Addr) (l : List Ce) : Prop :=
  0 < l.length → ∃ b off, A = some ⟨b, off, none⟩ ∧ b < w.heap.size ∧ base ≤ b ∧ ∀ i (hi : i < l.length), ∃ dA dc, RB w w.heap.size dA l[i].data ∧ (∀ ad, dA = some ad → base ≤ ad.block) ∧
    w.cell? ⟨b, off + i * 4, none⟩ = some (.int .i64 l[i].owner) ∧ w.cell? ⟨b, off + i * 4 + 1, none⟩ = some (.int .i64 l[i].number) ∧ w.cell? ⟨b, off + i * 4 + 2, none⟩ = some (.int .i64 l[i].next) ∧
    w.cell? ⟨b, off + i * 4 + 3, none⟩ = some (.slice dA l[i].data.length dc)
theorem CLN.cl {w : World} {base : Nat} {A : Option Addr} {l : List Ce} (h : CLN w base A l) : CL w w.heap.size A l := fun h0 => by
  obtain ⟨b, off, e, hlt, _, hc⟩ := h h0
  refine ⟨b, off, e, hlt, fun i hi => ?_⟩
  obtain ⟨dA, dc, h1, _, h2⟩ := hc i hi
  exact ⟨dA, dc, h1, h2⟩
theorem CLN.nil {w : World} {base : Nat} {A : Option Addr} : CLN w base A [] := fun h => absurd h (by simp)
theorem CLN.of_own {w : World} {base B n c : Nat} {A : Option Addr} {r : List (Ce × Option Addr × Nat)} (h : w.ownsRow base 64 4 (.slice A n c) n (rowE r)) (hB : B ≤ base) (hn : n = r.length) (hr : ∀ x ∈ r, RB w w.heap.size x.2.1 x.1.data) (hp : ∀ x ∈ r, ∀ ad, x.2.1 = some ad → B ≤ ad.block) : CLN w B A (r.map (·.1)) := fun h0 => by
  subst hn
  rw [List.length_map] at h0
  rcases h.2 with ⟨_, h1⟩ | ⟨k, cap, cur, he, h2, h3, _⟩
  · omega
  · simp only [Value.slice.injEq] at he
    obtain ⟨rfl, -, rfl⟩ := he
    have hc := World.ownsRow.cells h (g := k) rfl
    have ea : ∀ j, (⟨k, 0, none⟩ : Addr).add j = ⟨k, j, none⟩ := fun j => by unfold Addr.add; split <;> simp_all
    refine ⟨k, 0, rfl, Blk.lt (t := 64) h3, Nat.le_trans hB h2, fun i hi => ?_⟩
    rw [List.length_map] at hi
    obtain ⟨g0, g1, g2, g3⟩ := rowE_get r i hi
    have c0 := hc _ _ g0
    have c1 := hc _ _ g1
    have c2 := hc _ _ g2
    have c3 := hc _ _ g3
    rw [ea] at c0 c1 c2 c3
    simp only [Nat.zero_add, List.getElem_map]
    have hm := List.getElem_mem hi
    exact ⟨r[i].2.1, r[i].2.2, hr _ hm, hp _ hm, c0, c1, c2, c3⟩
def GivesCLN (r : List Ce × Int) (w : World) (e : Ending) (w' : World) : Prop :=
  ∃ A c, e = .returned (.tuple #[.slice A r.1.length c, .int .i64 r.2]) ∧ CLN w' w.heap.size A r.1 ∧ Below w.heap.size w w'
def CLIn (w : World) (P : Nat → Prop) (A : Option Addr) (l : List Ce) : Prop :=
  0 < l.length → ∃ b off, A = some ⟨b, off, none⟩ ∧ b < w.heap.size ∧ P b ∧ ∀ i (hi : i < l.length), ∃ dA dc, RB w w.heap.size dA l[i].data ∧ (∀ ad, dA = some ad → P ad.block) ∧ l[i].data.length ≤ dc ∧ dc ≤ 9223372036854775807 ∧
    w.cell? ⟨b, off + i * 4, none⟩ = some (.int .i64 l[i].owner) ∧ w.cell? ⟨b, off + i * 4 + 1, none⟩ = some (.int .i64 l[i].number) ∧ w.cell? ⟨b, off + i * 4 + 2, none⟩ = some (.int .i64 l[i].next) ∧
    w.cell? ⟨b, off + i * 4 + 3, none⟩ = some (.slice dA l[i].data.length dc)
theorem CLIn.cl {w : World} {P : Nat → Prop} {A : Option Addr} {l : List Ce} (h : CLIn w P A l) : CL w w.heap.size A l := fun h0 => by
  obtain ⟨b, off, e, hlt, _, hc⟩ := h h0
  refine ⟨b, off, e, hlt, fun i hi => ?_⟩
  obtain ⟨dA, dc, h1, _, _, _, h2⟩ := hc i hi
  exact ⟨dA, dc, h1, h2⟩
theorem CLIn.of_own {w : World} {base n c : Nat} {P : Nat → Prop} {A : Option Addr} {r : List (Ce × Option Addr × Nat)} (h : w.ownsRow base 64 4 (.slice A n c) n (rowE r)) (hn : n = r.length) (hr : ∀ x ∈ r, RB w w.heap.size x.2.1 x.1.data) (hp : ∀ x ∈ r, ∀ ad, x.2.1 = some ad → P ad.block) (hd : ∀ x ∈ r, x.1.data.length ≤ x.2.2 ∧ x.2.2 ≤ 9223372036854775807) (hb : ∀ k, base ≤ k → P k) : CLIn w P A (r.map (·.1)) := fun h0 => by
  subst hn
  rw [List.length_map] at h0
  rcases h.2 with ⟨_, h1⟩ | ⟨k, cap, cur, he, h2, h3, _⟩
  · omega
  · simp only [Value.slice.injEq] at he
    obtain ⟨rfl, -, rfl⟩ := he
    have hc := World.ownsRow.cells h (g := k) rfl
    have ea : ∀ j, (⟨k, 0, none⟩ : Addr).add j = ⟨k, j, none⟩ := fun j => by unfold Addr.add; split <;> simp_all
    refine ⟨k, 0, rfl, Blk.lt (t := 64) h3, hb k h2, fun i hi => ?_⟩
    rw [List.length_map] at hi
    obtain ⟨g0, g1, g2, g3⟩ := rowE_get r i hi
    have c0 := hc _ _ g0
    have c1 := hc _ _ g1
    have c2 := hc _ _ g2
    have c3 := hc _ _ g3
    rw [ea] at c0 c1 c2 c3
    simp only [Nat.zero_add, List.getElem_map]
    have hm := List.getElem_mem hi
    exact ⟨r[i].2.1, r[i].2.2, hr _ hm, hp _ hm, (hd _ hm).1, (hd _ hm).2, c0, c1, c2, c3⟩
theorem CLIn.below {w w' : World} {P : Nat → Prop} {A : Option Addr} {l : List Ce} (h : CLIn w P A l) (hb : Below w.heap.size w w') : CLIn w' P A l := fun h0 => by
  obtain ⟨b, off, e, hlt, hp, hc⟩ := h h0
  refine ⟨b, off, e, Nat.lt_of_lt_of_le hlt hb.size, hp, fun i hi => ?_⟩
  obtain ⟨dA, dc, h1, h2, h3, h4, c0, c1, c2, c3⟩ := hc i hi
  have k : ∀ j, w'.cell? ⟨b, j, none⟩ = w.cell? ⟨b, j, none⟩ := fun j => hb.cell (p := ⟨b, j, none⟩) hlt
  exact ⟨dA, dc, rb_up7 h1 hb, h2, h3, h4, by rw [k]; exact c0, by rw [k]; exact c1, by rw [k]; exact c2, by rw [k]; exact c3⟩
def GivesCLIn (r : List Ce × Int) (B : Option Addr) (w : World) (e : Ending) (w' : World) : Prop :=
  ∃ A c, e = .returned (.tuple #[.slice A r.1.length c, .int .i64 r.2]) ∧ CLIn w' (fun k => (∃ ad, B = some ad ∧ k = ad.block) ∨ w.heap.size ≤ k) A r.1 ∧ Below w.heap.size w w'
theorem GivesCLIn.none_ {r : List Ce × Int} {B : Option Addr} {w w' : World} {z : Int} (hr : r = ([], z)) (hb : Below w.heap.size w w') : GivesCLIn r B w (.returned (.tuple #[.slice none 0 0, .int .i64 z])) w' := by
  subst hr
  exact ⟨none, 0, rfl, fun h => absurd h (by simp), hb⟩
theorem cell_at (w W : World) (o n x : Int) (A : Option Addr) (m c : Nat) (hb : Below (w.alloc (.cells #[.int .i64 o, .int .i64 n, .int .i64 x, .slice A m c] 64)).heap.size (w.alloc (.cells #[.int .i64 o, .int .i64 n, .int .i64 x, .slice A m c] 64)) W) : W.cell? ⟨w.heap.size, 0, none⟩ = some (.int .i64 o) ∧ W.cell? ⟨w.heap.size, 1, none⟩ = some (.int .i64 n) ∧ W.cell? ⟨w.heap.size, 2, none⟩ = some (.int .i64 x) ∧ W.cell? ⟨w.heap.size, 3, none⟩ = some (.slice A m c) := by
  have h0 : Blk W w.heap.size 64 #[.int .i64 o, .int .i64 n, .int .i64 x, .slice A m c] := Blk.below (Blk.new w _ _) hb (by simp)
  exact ⟨by rw [h0.cell]; rfl, by rw [h0.cell]; rfl, by rw [h0.cell]; rfl, by rw [h0.cell]; rfl⟩
def ResC (W : World) (g : Nat) : Prop := (W.cell? ⟨g, 0, none⟩ = some (.int .i64 0) ∧ W.cell? ⟨g, 1, none⟩ = some (.int .i64 0) ∧ W.cell? ⟨g, 2, none⟩ = some (.int .i64 0) ∧ W.cell? ⟨g, 3, none⟩ = some (.slice none 0 0)) ∧ W.frozen? ⟨g, 0, none⟩ = false ∧ W.frozen? ⟨g, 1, none⟩ = false ∧ W.frozen? ⟨g, 2, none⟩ = false ∧ W.frozen? ⟨g, 3, none⟩ = false
theorem res_c (w W : World) (hb : Below (w.alloc (.cells #[.int .i64 0, .int .i64 0, .int .i64 0, .slice none 0 0] 64)).heap.size (w.alloc (.cells #[.int .i64 0, .int .i64 0, .int .i64 0, .slice none 0 0] 64)) W) : ResC W w.heap.size := by
  have h0 : Blk W w.heap.size 64 #[.int .i64 0, .int .i64 0, .int .i64 0, .slice none 0 0] := Blk.below (Blk.new w _ _) hb (by simp)
  exact ⟨⟨by rw [h0.cell]; rfl, by rw [h0.cell]; rfl, by rw [h0.cell]; rfl, by rw [h0.cell]; rfl⟩, h0.frozen 0, h0.frozen 1, h0.frozen 2, h0.frozen 3⟩
theorem below_four {w0 W : World} {B g : Nat} (h : Below B w0 W) (hg : B ≤ g) (v0 v1 v2 v3 : Value) : Below B w0 ((((W.setCell ⟨g, 0, none⟩ v0).setCell ⟨g, 1, none⟩ v1).setCell ⟨g, 2, none⟩ v2).setCell ⟨g, 3, none⟩ v3) :=
  (((h.setCell hg _).setCell hg _).setCell hg _).setCell hg _
end Go.Proofs.YtonnkibcnhjelaaGreatDoor
end
