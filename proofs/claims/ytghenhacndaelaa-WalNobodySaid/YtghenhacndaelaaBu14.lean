/- Lemmas under the proofs of this place: Round, OpenBytes, WalMem, WalLive. No statement is proved here. -/
import Derived.Test.YtghenhacndaelaaBu12
import Derived.Test.YtghenhacndaelaaBu04
import Derived.Test.YtghenhacndaelaaBu10
import Derived.Test.YtghenhacndaelaaBu05
import Derived.RangeFuncNested
import Derived.RangeFuncCalls
import Derived.OrdersIn
import Derived.Deep.Slices
set_option linter.unusedVariables false
namespace Go.Proofs.Ytghenhacndaelaa
section
open Go.RowKit
section
variable {P : Program} {ops : Array Oper} {Q : Exit → Act → World → Prop} {md : Region.Mode} {l n : Nat}
theorem rows_wide {row : String} {args : Array Value} {w : World} {R : Value → World → Prop} (h : Rows P row args w R) : RowsIn (Fence.wide.inRound l) n P row args w R := fun c cs _ =>
  let ⟨v, w', r, s⟩ := h c cs
  ⟨v, w', r, stepsIn_wide.2 s⟩
def noDefer (ops : Array Oper) : Bool := ops.all fun o => match o.op with | .defer _ => false | _ => true
theorem noDefer_spec (h : noDefer ops = true) {i : Nat} {o : Oper} (ho : ops[i]? = some o) : ∀ c, o.op ≠ .defer c := fun c hc => by
  obtain ⟨hi, rfl⟩ := Array.getElem?_eq_some_iff.1 ho
  have := Array.all_eq_true.1 h i hi
  rw [hc] at this
  cases this
theorem op_round {o : Oper} {a : Act} {w : World} {K : Act → World → Prop} (hp : ∀ c, o.op ≠ .defer c) (hL : ¬ LetsOut Q) (h : o.wp P a w K Q ∨ (o.asks P a w ∧ LetsOut Q)) : o.wpIn (Fence.wide.inRound l) n P a w K Q := by
  have h := h.resolve_right (fun h2 => hL h2.2)
  refine ⟨fun _ _ => trivial, ?_⟩
  rw [Oper.semAt_eq _ _ _ hp]
  unfold Oper.wp at h
  generalize (execOp a.eval o).run P w = r at *
  cases r with
  | ok x w' =>
    cases x with
    | value v => exact h
    | skip => exact h
    | defer d => exact h
    | enter f args =>
      refine ⟨fun hd => (by simp [Fence.wide, Fence.inRound] at hd), ?_⟩
      exact CallsIn.inRound l (callsIn_wide.2 h)
    | row row args => exact ⟨fun hd => (by simp [Fence.wide, Fence.inRound] at hd), rows_wide h⟩
    | round l f tmps assign body => exact h.elim
    | _ => exact h.elim
  | halt x w' => cases x <;> exact h
theorem wpOp_round {i : Nat} {a : Act} {w : World} {K K' : Act → World → Prop} (hp : noDefer ops = true) (hL : ¬ LetsOut Q) (hK : ∀ a w, K a w → K' a w) (h : wpOp P ops Q i K a w) : wpOpIn (Fence.wide.inRound l) n P ops Q i K' a w := by
  unfold wpOp at h
  unfold wpOpIn
  split at h
  · rename_i ho
    simp only [ho]
    exact hK _ _ h
  · rename_i o ho
    simp only [ho]
    split at h
    · rename_i hw
      simp only [hw, if_true]
      exact Oper.wpIn_mono hK (op_round (noDefer_spec hp ho) hL h)
    · rename_i hw
      simp only [hw]
      exact ⟨fun _ _ => trivial, hK _ _ h⟩
theorem any_round (hp : noDefer ops = true) (hL : ¬ LetsOut Q) : ∀ (fuel : Nat) (listed : Array Bool) (a : Act) (w : World), wpAny P md ops Q fuel listed a w → wpAnyIn (Fence.wide.inRound l) n P md ops Q fuel listed a w
  | 0, _, _, _, h => h
  | fuel + 1, _, _, _, h => ⟨h.1, fun i hi => wpOp_round hp hL (fun a w h' => any_round hp hL fuel _ a w h') (h.2 i hi)⟩
def Nrm (R : Act → World → Prop) : Exit → Act → World → Prop
  | .normal, a, w => R a w
  | _, _, _ => False
theorem nrm_lets (R : Act → World → Prop) : ¬ LetsOut (Nrm R) := fun ⟨_, _, h⟩ => h
theorem region_round {id : Nat} {a : Act} {w : World} (R : Act → World → Prop) (hm : P.follows .mixedOrders = true) (hp : noDefer ops = true)
    (h : wpAny P .any ops (Nrm R) ops.size (Array.replicate ops.size false) a { w with drawn := w.drawn + 1 }) (hQ : ∀ a w, R a w → Q .normal a w) : (Code.region id ops true).wpIn (Fence.wide.inRound l) n P Q a w := by
  refine Go.wpIn_mono (wpIn_region_any hm (any_round hp (nrm_lets R) _ _ _ _ h)) fun e a w h => ?_
  cases e <;> first | exact hQ _ _ h | exact h.elim
theorem any_twoT {S : World → Prop} {T : Nat → Bool} {i j fuel : Nat} {listed : Array Bool} {a : Act} {w : World} (hr : Region.ready md ops listed = [i, j])
    (h1 : wpOp P ops Q i (fun a' w' => S w' ∧ wpAnyT P md ops Q S T fuel (listed.setIfInBounds i true) a' w') a w) (h2 : wpOp P ops Q j (fun a' w' => S w' ∧ wpAnyT P md ops Q S T fuel (listed.setIfInBounds j true) a' w') a w) : wpAnyT P md ops Q S T (fuel + 1) listed a w :=
  ⟨fun h0 => (by rw [hr] at h0; cases h0), fun k hk => by
    rw [hr] at hk
    rcases List.mem_cons.1 hk with rfl | hk
    · exact wpOp_mono (fun a' w' h' => ⟨fun _ => h'.1, h'.2⟩) h1
    · rw [List.mem_singleton] at hk
      subst hk
      exact wpOp_mono (fun a' w' h' => ⟨fun _ => h'.1, h'.2⟩) h2⟩
end
end
section
open Go.ChangeShapes Go.WideShapes Go.ChangeAt Go.RowKit
theorem ini_wf6 {z : Int} (h : (Lit.int .i64 z).wf = true) : InI z := by
  simpa [InI, Lit.wf, IntKind.min, IntKind.max, IntKind.signed, IntKind.bits] using h
theorem addr_add6 (b off j : Nat) : (⟨b, off, none⟩ : Addr).add j = ⟨b, off + j, none⟩ := by unfold Addr.add; split <;> simp_all
section
variable {H : Type} {enc : TypeId × Value → H} {P : Program}
theorem intl_of {W : World} {t e : TypeId} {fuel : Nat} {v : Value} {x : DataW H × List MemPlace} (ht : P.underlying t = some (.slice e)) (he : P.underlying e = some (.int .i64)) (hc : P.cellsOf e = 1)
    (hf : DataW.trod enc P W 0 (fun _ => true) true fuel t [v] = some x) :
    ∃ (A : Option Addr) (Z : List Int) (c : Nat), v = .slice A Z.length c ∧ RI W W.heap.size A Z := by
  rcases open_ints ht he hc hf with ⟨hcs, hx⟩ | ⟨a, len, cap, zs, hcs, _, hl, hm, hz, hx, hcell, hwz⟩
  · simp at hcs
    exact ⟨none, [], 0, hcs, fun h => absurd h (by simp)⟩
  · simp at hcs
    simp only [if_true] at hz
    have hlen : (zs.take len).length = len := by rw [List.length_take]; omega
    refine ⟨some a, zs.take len, cap, by rw [hlen]; exact hcs, fun hn => ?_⟩
    rw [hlen] at hn
    obtain ⟨b, off, rfl, hcc⟩ := ints_at hcell (by omega)
    have hblk := World.block_lt_of_cell? W _ (hcc 0 (by omega))
    refine ⟨b, off, rfl, hblk, fun k hk => ?_⟩
    rw [hlen] at hk
    rw [hcc k (by omega)]
    simp [List.getD, List.getElem?_eq_getElem (show k < zs.length by omega), List.getElem_take]
end
end
section
open Go.RowKit
def BL (w : World) (P : Nat → Prop) (A : Option Addr) (l : List (List UInt8)) : Prop :=
  0 < l.length → ∃ b off, A = some ⟨b, off, none⟩ ∧ b < w.heap.size ∧ P b ∧ ∀ i (hi : i < l.length), ∃ dA dc, RB w w.heap.size dA l[i] ∧ (∀ ad, dA = some ad → P ad.block ∧ ad.block < w.heap.size) ∧ w.cell? ⟨b, off + i, none⟩ = some (.slice dA l[i].length dc)
section
variable {w w' : World} {P P' : Nat → Prop} {A : Option Addr} {l : List (List UInt8)}
theorem BL.turns {E E' : Nat → Prop} (h : BL w P A l) (ht : Turns w w' E E') (hn : ∀ k, P k → k < w.heap.size → ¬ E k) : BL w' P A l := fun h0 => by
  obtain ⟨b, off, e, hlt, hp, hc⟩ := h h0
  refine ⟨b, off, e, Nat.lt_of_lt_of_le hlt ht.size, hp, fun i hi => ?_⟩
  obtain ⟨dA, dc, h1, h2, h3⟩ := hc i hi
  exact ⟨dA, dc, (Reads.turns h1 (Nat.le_refl _) ht fun ad e => hn _ (h2 ad e).1 (h2 ad e).2).more ht.size, fun ad e => ⟨(h2 ad e).1, Nat.lt_of_lt_of_le (h2 ad e).2 ht.size⟩, (ht.cell (p := ⟨b, off + i, none⟩) hlt (hn b hp hlt)).trans h3⟩
theorem BL.wide (h : BL w P A l) (hP : ∀ k, P k → P' k) : BL w P' A l := fun h0 => by
  obtain ⟨b, off, e, hlt, hp, hc⟩ := h h0
  refine ⟨b, off, e, hlt, hP b hp, fun i hi => ?_⟩
  obtain ⟨dA, dc, h1, h2, h3⟩ := hc i hi
  exact ⟨dA, dc, h1, fun ad e => ⟨hP _ (h2 ad e).1, (h2 ad e).2⟩, h3⟩
theorem BL.up (h : BL w P A l) (hb : Below w.heap.size w w') : BL w' P A l := h.turns (Turns.of_below hb (fun _ => False)) (fun _ _ _ h => h)
end
def rowT (r : List (List UInt8 × Option Addr × Nat)) : List Value := r.map fun x => .slice x.2.1 x.1.length x.2.2
theorem rowT_snoc (r : List (List UInt8 × Option Addr × Nat)) (x : List UInt8 × Option Addr × Nat) : rowT (r ++ [x]) = rowT r ++ [.slice x.2.1 x.1.length x.2.2] := by simp [rowT]
theorem rowT_one (A : Option Addr) (n c : Nat) : ∀ u ∈ [Value.slice A n c], u.oneCell' = true := fun u hu => by
  rw [List.mem_singleton] at hu; subst hu; rfl
theorem own_blk13 {w : World} {base : Nat} {A : Option Addr} {L : List UInt8} {c : Nat} (h : Own w base A L c) : ∀ ad, A = some ad → base ≤ ad.block ∧ ad.block < w.heap.size := fun ad e => by
  rcases h.2 with ⟨h1, _⟩ | ⟨g, cap, cur, h1, hb, hg, _⟩
  · simp only [Value.slice.injEq] at h1
    rw [h1.1] at e; cases e
  · simp only [Value.slice.injEq] at h1
    rw [h1.1] at e
    injection e with e
    subst e
    exact ⟨hb, Blk.lt (t := 5) hg⟩
theorem BL.of_own {w : World} {base n c : Nat} {A : Option Addr} {r : List (List UInt8 × Option Addr × Nat)} (h : w.ownsRow base 38 1 (.slice A n c) n (rowT r)) (hn : n = r.length) (hr : ∀ x ∈ r, Own w base x.2.1 x.1 x.2.2) : BL w (fun k => base ≤ k) A (r.map (·.1)) := fun h0 => by
  subst hn
  rw [List.length_map] at h0
  rcases h.2 with ⟨_, h1⟩ | ⟨k, cap, cur, he, h2, h3, _⟩
  · omega
  · simp only [Value.slice.injEq] at he
    obtain ⟨rfl, -, rfl⟩ := he
    have hc := World.ownsRow.cells h (g := k) rfl
    have ea : ∀ j, (⟨k, 0, none⟩ : Addr).add j = ⟨k, j, none⟩ := fun j => by unfold Addr.add; split <;> simp_all
    refine ⟨k, 0, rfl, Blk.lt (t := 38) h3, h2, fun i hi => ?_⟩
    rw [List.length_map] at hi
    have g0 : (rowT r)[i]? = some (.slice (r[i]).2.1 (r[i]).1.length (r[i]).2.2) := by unfold rowT; rw [List.getElem?_map, List.getElem?_eq_getElem hi]; rfl
    have c0 := hc _ _ g0
    rw [ea] at c0
    simp only [Nat.zero_add, List.getElem_map]
    exact ⟨r[i].2.1, r[i].2.2, own_rb (hr _ (List.getElem_mem hi)), own_blk13 (hr _ (List.getElem_mem hi)), c0⟩
theorem text_src (w : World) (v0 : Value) (t : TypeId) : Reads (w.alloc (.cells #[v0] t)) (w.heap.size + 1) 1 (some ⟨w.heap.size, 0, none⟩) 1 [v0] := by
  refine ⟨rfl, fun _ => ⟨_, rfl, by simp, fun j u hu => ?_⟩⟩
  rw [add_at]
  have h0 : Blk (w.alloc (.cells #[v0] t)) w.heap.size t #[v0] := Blk.new w t _
  rw [Nat.zero_add, h0.cell]
  simpa using hu
theorem own_apart13 {w : World} {b1 b2 n1 n2 s1 s2 : Nat} {t1 t2 : TypeId} {v1 v2 : Value} {x1 x2 : List Value} (h1 : w.ownsRow b1 t1 s1 v1 n1 x1) (h2 : w.ownsRow b2 t2 s2 v2 n2 x2) (ht : t1 ≠ t2) : v1.ownBlock = none ∨ v1.ownBlock ≠ v2.ownBlock := by
  rcases h1.2 with ⟨rfl, _⟩ | ⟨g, cap, cur, rfl, hb, hg, _⟩
  · exact .inl rfl
  · rcases h2.2 with ⟨rfl, _⟩ | ⟨g2, cap2, cur2, rfl, hb2, hg2, _⟩
    · exact .inr (by simp [Value.ownBlock])
    · refine .inr (fun e => ?_)
      have e2 : g = g2 := by simpa [Value.ownBlock] using e
      subst e2
      rw [hg] at hg2
      injection hg2 with h3
      injection h3 with _ h4
      exact ht h4
end
section
structure Lg where
  frm : Nat
  n : Nat
  epoch : Int
  b : List UInt8
  gone : Bool
namespace Wal
def used (l : Lg) : Nat := l.b.length / 64
def writesW (frm : Nat) (all : List UInt8) : Nat → Nat → Dk → Dk × Int
  | 0, _, d => (d, 0)
  | m + 1, k, d => if (d.write ((frm + k : Nat) : Int) (blkW all k)).2 = 0 then writesW frm all m (k + 1) (d.write ((frm + k : Nat) : Int) (blkW all k)).1 else d.write ((frm + k : Nat) : Int) (blkW all k)
def appendW (d : Dk) (l : Lg) (t : List UInt8) : Dk × Lg × Int :=
  if l.gone = true then (d, l, 8) else if needN t.length = 0 then (d, l, 1) else if l.n - used l < needN t.length then (d, l, 2) else
  let all := allW l.b (recBytes (used l) l.epoch t)
  let w := writesW l.frm all (all.length / 256 - used l / 4) (used l / 4) d
  if w.2 ≠ 0 then (w.1, { l with gone := true }, w.2) else
  if w.1.flush.2 ≠ 0 then (w.1.flush.1, { l with gone := true }, w.1.flush.2) else (w.1.flush.1, { l with b := l.b ++ recBytes (used l) l.epoch t }, 0)
def listW (frm : Nat) (all : List UInt8) (m k : Nat) : List (Nat × List UInt8) := (List.range m).map fun i => (frm + (k + i), blkW all (k + i))
theorem listW_succ (frm : Nat) (all : List UInt8) (m k : Nat) : listW frm all (m + 1) k = (frm + k, blkW all k) :: listW frm all m (k + 1) := by
  unfold listW
  rw [List.range_succ_eq_map]
  simp only [List.map_cons, List.map_map, Nat.add_zero]
  congr 1
  refine List.map_congr_left fun i _ => ?_
  simp only [Function.comp]
  rw [show k + (i + 1) = k + 1 + i by omega]
theorem listW_mem {frm : Nat} {all : List UInt8} {m k : Nat} {x : Nat × List UInt8} (h : x ∈ listW frm all m k) : ∃ i, k ≤ i ∧ i < k + m ∧ x = (frm + i, blkW all i) := by
  obtain ⟨i, hi, rfl⟩ := List.mem_map.1 h
  have := List.mem_range.1 hi
  exact ⟨k + i, by omega, by omega, rfl⟩
theorem write_cases {d : Dk} {i : Nat} {b : List UInt8} (ho : d.off = false) (hi : i < d.safe.length) (hb : b.length = 256) :
    ((d.write (i : Int) b).2 = 0 ∧ (d.write (i : Int) b).1.off = false ∨ (d.write (i : Int) b).2 = 9 ∧ (d.write (i : Int) b).1.off = true) ∧ (d.write (i : Int) b).1.safe = d.safe ∧ (d.write (i : Int) b).1.waits = d.waits ++ [(i, b)] := by
  unfold Dk.write
  have h1 : d.there (i : Int) = true := by unfold Dk.there; exact decide_eq_true ⟨by omega, by omega⟩
  rw [ho, h1]
  simp only [Bool.false_eq_true, if_false, Bool.not_true, hb, ne_eq, not_true_eq_false, Int.toNat_natCast]
  unfold Dk.deed
  by_cases h2 : d.left = 0
  · simp only [h2, if_true]
    exact ⟨.inr ⟨by simp, by simp⟩, by simp, by simp⟩
  · by_cases h3 : 0 < d.left
    · simp only [h2, if_false, h3, if_true]
      exact ⟨.inl ⟨by simp, by simp⟩, by simp, by simp⟩
    · simp only [h2, if_false, h3]
      exact ⟨.inl ⟨by simp, by simp⟩, by simp, by simp⟩
theorem writes_cases (frm : Nat) (all : List UInt8) : ∀ (m k : Nat) (d : Dk), d.off = false → (∀ i, k ≤ i → i < k + m → frm + i < d.safe.length ∧ (blkW all i).length = 256) →
    (writesW frm all m k d).1.safe = d.safe ∧ (((writesW frm all m k d).2 = 0 ∧ (writesW frm all m k d).1.off = false ∧ (writesW frm all m k d).1.waits = d.waits ++ listW frm all m k) ∨ ((writesW frm all m k d).2 = 9 ∧ (writesW frm all m k d).1.off = true ∧ ∃ p, (∀ x ∈ p, x ∈ listW frm all m k) ∧ (writesW frm all m k d).1.waits = d.waits ++ p))
  | 0, k, d, ho, _ => ⟨rfl, .inl ⟨rfl, ho, by simp [writesW, listW]⟩⟩
  | m + 1, k, d, ho, h => by
    obtain ⟨h1, h2⟩ := h k (Nat.le_refl _) (by omega)
    obtain ⟨hc, hs, hw⟩ := write_cases (b := blkW all k) ho h1 h2
    rw [writesW]
    rcases hc with ⟨c1, c2⟩ | ⟨c1, c2⟩
    · rw [if_pos c1]
      obtain ⟨ih1, ih2⟩ := writes_cases frm all m (k + 1) _ c2 fun i k1 k2 => by rw [hs]; exact h i (by omega) (by omega)
      refine ⟨ih1.trans hs, ?_⟩
      rw [listW_succ]
      rcases ih2 with ⟨e1, e2, e3⟩ | ⟨e1, e2, p, e3, e4⟩
      · exact .inl ⟨e1, e2, by rw [e3, hw]; simp⟩
      · exact .inr ⟨e1, e2, (frm + k, blkW all k) :: p, fun x hx => by
          rcases List.mem_cons.1 hx with rfl | hx
          · exact List.mem_cons_self
          · exact List.mem_cons_of_mem _ (e3 x hx), by rw [e4, hw]; simp⟩
    · rw [if_neg (by rw [c1]; decide)]
      exact ⟨hs, .inr ⟨c1, c2, [(frm + k, blkW all k)], fun x hx => by
        rw [listW_succ]
        rw [List.mem_singleton] at hx
        rw [hx]
        exact List.mem_cons_self, hw⟩⟩
theorem flush_cases {d : Dk} (ho : d.off = false) : (d.flush.2 = 0 ∧ d.flush.1.off = false ∧ d.flush.1.safe = Dk.laid d.safe d.waits ∧ d.flush.1.waits = []) ∨ (d.flush.2 = 9 ∧ d.flush.1.off = true ∧ d.flush.1.safe = d.safe ∧ d.flush.1.waits = d.waits) := by
  unfold Dk.flush
  rw [ho]
  simp only [Bool.false_eq_true, if_false]
  unfold Dk.deed
  by_cases h2 : d.left = 0
  · simp only [h2, if_true]
    exact .inr ⟨by simp, by simp, by simp, by simp⟩
  · by_cases h3 : 0 < d.left
    · simp only [h2, if_false, h3, if_true]
      exact .inl ⟨by simp, by simp [ho], by simp, by simp⟩
    · simp only [h2, if_false, h3]
      exact .inl ⟨by simp, by simp [ho], by simp, by simp⟩
theorem crashed_sector (masks : List Int) (n k : Nat) (hk : k < 4) : ∀ (l : List (Nat × List UInt8)) (safe : List (List UInt8)) (i : Nat), (∀ x ∈ l, x.2.length = 256) → (∀ b ∈ safe, b.length = 256) → n < safe.length →
    Dk.sector ((Dk.crashed masks safe l i).getD n []) k = Dk.sector (safe.getD n []) k ∨ ∃ x ∈ l, x.1 = n ∧ Dk.sector ((Dk.crashed masks safe l i).getD n []) k = Dk.sector x.2 k
  | [], safe, i, _, _, _ => .inl rfl
  | x :: l, safe, i, hx, hs, hn => by
    have hx' : ∀ y ∈ l, y.2.length = 256 := fun y hy => hx y (List.mem_cons_of_mem _ hy)
    rw [Dk.crashed]
    split
    · by_cases hxn : x.1 < safe.length
      · have hl : (safe.getD x.1 []).length = 256 := by
          rw [List.getD_eq_getElem?_getD, List.getElem?_eq_getElem hxn]
          exact hs _ (List.getElem_mem hxn)
        have h2 := hx x List.mem_cons_self
        have hs' : ∀ b ∈ safe.set x.1 (Dk.torn (safe.getD x.1 []) x.2 (masks.getD i 0)), b.length = 256 := fun b hb => by
          rcases List.mem_or_eq_of_mem_set hb with h3 | h3
          · exact hs b h3
          · rw [h3]; exact Dk.torn_length _ _ _ hl h2
        have ih := crashed_sector masks n k hk l _ (i + 1) hx' hs' (by rw [List.length_set]; exact hn)
        rcases ih with h3 | ⟨y, hy, h3, h4⟩
        · rw [h3]
          by_cases hxe : x.1 = n
          · subst hxe
            have h5 : (safe.set x.1 (Dk.torn (safe.getD x.1 []) x.2 (masks.getD i 0))).getD x.1 [] = Dk.torn (safe.getD x.1 []) x.2 (masks.getD i 0) := by
              rw [List.getD_eq_getElem?_getD, List.getElem?_set_self hxn]
              rfl
            rw [h5, Dk.torn_sector _ _ _ k hk hl h2]
            split
            · exact .inr ⟨x, List.mem_cons_self, rfl, rfl⟩
            · exact .inl rfl
          · left
            rw [List.getD_eq_getElem?_getD, List.getElem?_set_ne hxe, ← List.getD_eq_getElem?_getD]
        · exact .inr ⟨y, List.mem_cons_of_mem _ hy, h3, h4⟩
      · rw [List.set_eq_of_length_le (by omega)]
        rcases crashed_sector masks n k hk l safe (i + 1) hx' hs hn with h3 | ⟨y, hy, h3, h4⟩
        · exact .inl h3
        · exact .inr ⟨y, List.mem_cons_of_mem _ hy, h3, h4⟩
    · rcases crashed_sector masks n k hk l safe (i + 1) hx' hs hn with h3 | ⟨y, hy, h3, h4⟩
      · exact .inl h3
      · exact .inr ⟨y, List.mem_cons_of_mem _ hy, h3, h4⟩
def blkOf (safe : List (List UInt8)) (n : Nat) : List UInt8 := safe.getD n []
theorem laid_list {frm : Nat} {all : List UInt8} : ∀ (m k : Nat) (safe : List (List UInt8)) (n : Nat), (∀ i, k ≤ i → i < k + m → frm + i < safe.length) →
    blkOf (Dk.laid safe (listW frm all m k)) n = if frm + k ≤ n ∧ n < frm + k + m then blkW all (n - frm) else blkOf safe n
  | 0, k, safe, n, _ => by rw [if_neg (by omega)]; rfl
  | m + 1, k, safe, n, h => by
    rw [listW_succ, Dk.laid, laid_list m (k + 1) _ n fun i h1 h2 => by rw [List.length_set]; exact h i (by omega) (by omega)]
    by_cases h1 : n = frm + k
    · subst h1
      rw [if_neg (by omega), if_pos (by omega), show frm + k - frm = k by omega]
      unfold blkOf
      rw [List.getD_eq_getElem?_getD, List.getElem?_set_self (h k (Nat.le_refl _) (by omega))]
      rfl
    · have h2 : blkOf (safe.set (frm + k) (blkW all k)) n = blkOf safe n := by
        unfold blkOf
        rw [List.getD_eq_getElem?_getD, List.getElem?_set_ne (fun e => h1 e.symm), ← List.getD_eq_getElem?_getD]
      rw [h2]
      by_cases h3 : frm + k ≤ n ∧ n < frm + k + (m + 1)
      · rw [if_pos (by omega), if_pos h3]
      · rw [if_neg (by omega), if_neg h3]
structure Live (d : Dk) (l : Lg) (u : Nat) (R : List (List UInt8)) : Prop where
  fit : Dk.fit d
  calm : d.waits = []
  on : d.off = false
  alive : l.gone = false
  epoch : 1 ≤ l.epoch ∧ l.epoch ≤ 2147483646
  area : Area (secD (blkOf d.safe) l.frm) l.n u l.epoch R
  len : l.b.length = 64 * u
  old : ∀ j, j < u → secL l.b j = bytesAt (blkOf d.safe) l.frm j
  four : l.n % 4 = 0 ∧ l.n ≤ 65536
  room : l.frm + l.n / 4 ≤ d.safe.length
  top : u ≤ l.n
theorem Live.used {d : Dk} {l : Lg} {u : Nat} {R : List (List UInt8)} (h : Live d l u R) : used l = u := by
  unfold Wal.used
  rw [h.len]
  omega
theorem fit_flush {d : Dk} (h : Dk.fit d) : Dk.fit d.flush.1 := by
  have := (Dk.fit_step h 3 0 [] []).1
  simpa [Dk.step] using this
theorem crash_fit {d : Dk} (h : Dk.fit d) (masks : List Int) : Dk.fit (d.crash masks) ∧ (d.crash masks).safe.length = d.safe.length := by
  have := Dk.fit_step h 5 0 [] masks
  simpa [Dk.step] using this
theorem Area.next {sec : Sec} {N u : Nat} {e : Int} {R : List (List UInt8)} (h : Area sec N u e R) : Area sec N u (e + 1) R := by
  refine ⟨h.sane, chain_same (by omega) (fun _ _ => rfl) R 0 h.chain, h.stale.next (by omega), ?_⟩
  cases hr : recordW sec N u 1 (e + 1) with
  | none => rfl
  | some x =>
    exfalso
    obtain ⟨t, n⟩ := x
    obtain ⟨e', k1, k2, k3, _⟩ := rec_only hr
    have k4 := k3.2.2.2 0 k3.1
    rw [Nat.add_zero] at k4
    have k5 := (h.stale u (Nat.le_refl _) (by rw [k4]) (by rw [k4]; exact part_number 0)).1
    rw [k4] at k5
    have k6 := rec_of h.sane k3 k1 (show e' ≤ e by have : e' < e := k5; omega)
    rw [h.none] at k6
    cases k6
def Left (d : Dk) (frm n len : Nat) (e : Int) (R : List (List UInt8)) : Prop := Dk.fit d ∧ d.waits = [] ∧ d.off = false ∧ d.left = -1 ∧ d.safe.length = len ∧ ∃ u, Area (secD (blkOf d.safe) frm) n u e R
theorem Live.crash {d : Dk} {l : Lg} {u : Nat} {R : List (List UInt8)} (h : Live d l u R) (masks : List Int) : Left (d.crash masks) l.frm l.n d.safe.length (l.epoch + 1) R := by
  have hs : (d.crash masks).safe = d.safe := by
    unfold Dk.crash
    rw [h.calm]
    rfl
  refine ⟨(crash_fit h.fit masks).1, rfl, rfl, rfl, by rw [hs], u, ?_⟩
  rw [hs]
  exact h.area.next
theorem append_live {d : Dk} {l : Lg} {u : Nat} {R : List (List UInt8)} (h : Live d l u R) (t : List UInt8) :
    (((appendW d l t).2.2 = 1 ∨ (appendW d l t).2.2 = 2) ∧ (appendW d l t).1 = d ∧ (appendW d l t).2.1 = l) ∨
    ((appendW d l t).2.2 = 0 ∧ Live (appendW d l t).1 (appendW d l t).2.1 (u + needN t.length) (R ++ [t]) ∧ (appendW d l t).2.1.frm = l.frm ∧ (appendW d l t).2.1.n = l.n ∧ (appendW d l t).2.1.epoch = l.epoch ∧ (appendW d l t).1.safe.length = d.safe.length) ∨
    ((appendW d l t).2.2 = 9 ∧ (appendW d l t).1.safe.length = d.safe.length ∧ ∀ masks, Left ((appendW d l t).1.crash masks) l.frm l.n d.safe.length (l.epoch + 1) R ∨ Left ((appendW d l t).1.crash masks) l.frm l.n d.safe.length (l.epoch + 1) (R ++ [t])) := by
  have hu := h.used
  unfold appendW
  rw [if_neg (by rw [h.alive]; decide), hu]
  by_cases h0 : needN t.length = 0
  · rw [if_pos h0]; exact .inl ⟨.inl rfl, rfl, rfl⟩
  · rw [if_neg h0]
    by_cases h1 : l.n - u < needN t.length
    · rw [if_pos h1]; exact .inl ⟨.inr rfl, rfl, rfl⟩
    · rw [if_neg h1]
      right
      obtain ⟨n, hn⟩ : ∃ n, n = needN t.length := ⟨_, rfl⟩
      obtain ⟨f1, f2⟩ := h.four
      have f3 := h.room
      have f4 := h.top
      have hN : u + needN t.length ≤ l.n := by omega
      have hb : needN t.length ≤ 65536 := by omega
      have ha : u + needN t.length ≤ 2147483647 := by omega
      have he : 0 ≤ l.epoch ∧ l.epoch ≤ 2147483647 := by have := h.epoch; omega
      have hW : Wrote (blkOf d.safe) l.frm u l.epoch t l.b := ⟨h.len, h.old⟩
      obtain ⟨r1, r2⟩ := rec_bytes u l.epoch t
      obtain ⟨all, hall⟩ : ∃ all, all = allW l.b (recBytes u l.epoch t) := ⟨_, rfl⟩
      have hlen := all_length l.b (recBytes u l.epoch t)
      rw [h.len, r1] at hlen
      have hp1 := pad_mod (64 * u + 64 * needN t.length)
      have hp2 := pad_lt (64 * u + 64 * needN t.length)
      rw [← hall] at hlen
      obtain ⟨m, hm⟩ : ∃ m, m = all.length / 256 - u / 4 := ⟨_, rfl⟩
      have hmb : ∀ k, (u / 4 ≤ k ∧ k < u / 4 + m) ↔ isNew u (needN t.length) k := fun k => by unfold isNew; omega
      have hin : ∀ i, u / 4 ≤ i → i < u / 4 + m → l.frm + i < d.safe.length ∧ (blkW all i).length = 256 := fun i k1 k2 => by
        refine ⟨by omega, ?_⟩
        rw [hall]
        exact blk_length _ _ i (by rw [← hall]; omega)
      simp only []
      rw [← hall, ← hm]
      obtain ⟨w1, w2⟩ := writes_cases l.frm all m (u / 4) d h.on hin
      obtain ⟨D, hD⟩ : ∃ D, D = writesW l.frm all m (u / 4) d := ⟨_, rfl⟩
      rw [← hD] at w1 w2 ⊢
      have torn : ∀ (D' : Dk) (p : List (Nat × List UInt8)), D'.safe = d.safe → D'.waits = p → (∀ x ∈ p, x ∈ listW l.frm all m (u / 4)) → ∀ masks, Left (D'.crash masks) l.frm l.n d.safe.length (l.epoch + 1) R ∨ Left (D'.crash masks) l.frm l.n d.safe.length (l.epoch + 1) (R ++ [t]) := fun D' p hs hw hp masks => by
        have hfit : Dk.fit D' := ⟨by rw [hs]; exact h.fit.1, fun x hx => by
          rw [hw] at hx
          obtain ⟨i, k1, k2, rfl⟩ := listW_mem (hp x hx)
          rw [hs]
          exact hin i k1 k2⟩
        have hcf := crash_fit hfit masks
        have hsafe : (D'.crash masks).safe = Dk.crashed masks d.safe p 0 := by unfold Dk.crash; rw [hs, hw]
        have hd : ∀ j, bytesAt (blkOf (D'.crash masks).safe) l.frm j = bytesAt (blkOf d.safe) l.frm j ∨ (isNew u (needN t.length) (j / 4) ∧ bytesAt (blkOf (D'.crash masks).safe) l.frm j = Dk.sector (blkW (allW l.b (recBytes u l.epoch t)) (j / 4)) (j % 4)) := fun j => by
          rw [hsafe]
          by_cases hj : l.frm + j / 4 < d.safe.length
          · rcases crashed_sector masks (l.frm + j / 4) (j % 4) (by omega) p d.safe 0 (fun x hx => by
              obtain ⟨i, k1, k2, rfl⟩ := listW_mem (hp x hx)
              exact (hin i k1 k2).2) h.fit.1 hj with h3 | ⟨x, hx, h3, h4⟩
            · exact .inl h3
            · obtain ⟨i, k1, k2, rfl⟩ := listW_mem (hp x hx)
              have hi : i = j / 4 := by
                have h5 : l.frm + i = l.frm + j / 4 := h3
                omega
              subst hi
              refine .inr ⟨(hmb _).1 ⟨k1, k2⟩, ?_⟩
              rw [← hall]
              exact h4
          · left
            have e1 : blkOf (Dk.crashed masks d.safe p 0) (l.frm + j / 4) = [] := by
              unfold blkOf
              rw [List.getD_eq_getElem?_getD, List.getElem?_eq_none (by rw [Dk.crashed_length]; omega)]
              rfl
            have e2 : blkOf d.safe (l.frm + j / 4) = [] := by
              unfold blkOf
              rw [List.getD_eq_getElem?_getD, List.getElem?_eq_none (by omega)]
              rfl
            unfold bytesAt
            rw [e1, e2]
        obtain ⟨c1, c2, c3⟩ := wrote_cases hW he hb ha hd
        have hlen' : (D'.crash masks).safe.length = d.safe.length := by rw [hcf.2, hs]
        rcases h.area.torn (sane_d _ _) h.epoch.1 (by omega) hb hN c1 c2 c3 with h5 | h5
        · exact .inl ⟨hcf.1, rfl, rfl, rfl, hlen', u, h5⟩
        · exact .inr ⟨hcf.1, rfl, rfl, rfl, hlen', _, h5⟩
      rcases w2 with ⟨e1, e2, e3⟩ | ⟨e1, e2, p, e3, e4⟩
      · rw [if_neg (by rw [e1]; decide)]
        rw [h.calm, List.nil_append] at e3
        rcases flush_cases e2 with ⟨q1, q2, q3, q4⟩ | ⟨q1, q2, q3, q4⟩
        · rw [if_neg (by rw [q1]; decide)]
          left
          have hDfit : Dk.fit D.1 := ⟨by rw [w1]; exact h.fit.1, fun x hx => by
            rw [e3] at hx
            obtain ⟨i, k1, k2, rfl⟩ := listW_mem hx
            rw [w1]
            exact hin i k1 k2⟩
          have hsafe : ∀ j, blkOf D.1.flush.1.safe j = if l.frm + u / 4 ≤ j ∧ j < l.frm + u / 4 + m then blkW all (j - l.frm) else blkOf d.safe j := fun j => by
            rw [q3, w1, e3]
            exact laid_list m (u / 4) d.safe j fun i k1 k2 => (hin i k1 k2).1
          have hnew : ∀ j, isNew u (needN t.length) (j / 4) → bytesAt (blkOf D.1.flush.1.safe) l.frm j = Dk.sector (blkW (allW l.b (recBytes u l.epoch t)) (j / 4)) (j % 4) := fun j hj => by
            have h6 := (hmb _).2 hj
            unfold bytesAt
            rw [hsafe, if_pos (by omega), show l.frm + j / 4 - l.frm = j / 4 by omega, hall]
          have hd : ∀ j, bytesAt (blkOf D.1.flush.1.safe) l.frm j = bytesAt (blkOf d.safe) l.frm j ∨ (isNew u (needN t.length) (j / 4) ∧ bytesAt (blkOf D.1.flush.1.safe) l.frm j = Dk.sector (blkW (allW l.b (recBytes u l.epoch t)) (j / 4)) (j % 4)) := fun j => by
            by_cases hj : isNew u (needN t.length) (j / 4)
            · exact .inr ⟨hj, hnew j hj⟩
            · left
              have h6 : ¬ (u / 4 ≤ j / 4 ∧ j / 4 < u / 4 + m) := fun hh => hj ((hmb _).1 hh)
              unfold bytesAt
              rw [hsafe, if_neg (by omega)]
          obtain ⟨c1, c2, c3⟩ := wrote_cases hW he hb ha hd
          have hlen2 : D.1.flush.1.safe.length = d.safe.length := by rw [q3, Dk.laid_length, w1]
          refine ⟨rfl, ⟨fit_flush hDfit, q4, q2, h.alive, h.epoch, ?_, ?_, ?_, h.four, by rw [hlen2]; exact h.room, hN⟩, rfl, rfl, rfl, hlen2⟩
          · exact h.area.wrote (sane_d _ _) h.epoch.1 (by omega) hb hN c1 (wrote_all hW he hb ha hnew) c3
          · show (l.b ++ recBytes u l.epoch t).length = _
            rw [List.length_append, h.len, r1]
            omega
          · exact (hW.next hd hnew l.epoch t).old
        · rw [if_pos (by rw [q1]; decide)]
          right
          exact ⟨q1, by rw [q3, w1], torn D.1.flush.1 _ (q3.trans w1) (q4.trans e3) fun x hx => hx⟩
      · rw [if_pos (by rw [e1]; decide)]
        right
        rw [h.calm, List.nil_append] at e4
        exact ⟨e1, by rw [w1], torn D.1 p w1 e4 e3⟩
end Wal
end
end Go.Proofs.Ytghenhacndaelaa
