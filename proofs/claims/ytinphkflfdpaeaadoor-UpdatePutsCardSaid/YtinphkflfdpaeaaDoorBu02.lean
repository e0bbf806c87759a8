/- Lemmas under the proofs of this place: Guard, Law, ShaParts. No statement is proved here. -/
import Derived.Test.YtinphkflfdpaeaaDoorBu00
import Derived.Test.YtinphkflfdpaeaaDoorRows
import Derived.StillTail
import Derived.ProofKit
import Derived.OpenShut
import Derived.Laws.IdiomArrays
set_option linter.unusedSimpArgs false
set_option linter.unusedVariables false
namespace Go.Proofs.YtinphkflfdpaeaaDoor
section
open Go.RowKit
section
variable {P : Program} {Q : Exit → Act → World → Prop} {a : Act}
theorem wpAny_tail {md : Region.Mode} {l : List Oper} {fuel : Nat} {listed : Array Bool} {w : World} (n : Nat) (hf : fuel = (l.drop n).length)
    (hB : Region.seqB md l.toArray (l.drop n).length n listed = true) (h : wpList P l.toArray Q (l.drop n) a w) : wpAny P md l.toArray Q fuel listed a w := by
  subst hf
  exact wpAny_of_seq (l.drop n) n listed a w (fun j => by simp [List.getElem?_drop]) hB h
end
end
section
open Go.ChangeShapes Go.WideShapes Go.ChangeAt Go.RowKit
theorem Tryd.own : ownKnob Tryd.prog.godebug = none := by kernel_rfl
theorem Tryd.laidOut : laidOutB Tryd.prog = true := by kernel_rfl
section
variable {H : Type} {enc : TypeId × Value → H} {P : Program}
theorem trodAll_stays (hl : laidOutB P = true) {W W' : World} {sp : Nat → Bool} : ∀ {ts : List TypeId} {vs : List Value} {ds : List (DataW H)} {ps : List MemPlace}, ts.all (fun t => P.readableRec t && decide (t < P.types.size)) = true →
    DataW.TrodAll enc P W 0 (fun _ => true) true ts vs ds ps → (∀ p ∈ ps, W.sameAt W' p) → (∀ p ∈ ps, sp p.block = true) → DataW.TrodAll enc P W' 0 sp true ts vs ds ps := by
  intro ts
  induction ts with
  | nil =>
    intro vs ds ps _ h _ _
    obtain ⟨rfl, rfl, rfl⟩ := trodAll_nil h
    exact trodAll_mk0
  | cons t ts ih =>
    intro vs ds ps hr h hs hp
    obtain ⟨v, vs', d, ds', p, q, rfl, rfl, rfl, h1, h2⟩ := trodAll_cons h
    simp only [List.all_cons, Bool.and_eq_true, decide_eq_true_eq] at hr
    obtain ⟨⟨hr1, hr2⟩, hr3⟩ := hr
    exact trodAll_cons_mk (WideElems.Trod_stays hl hr1 hr2 h1 (fun x hx => hs x (List.mem_append_left _ hx)) (fun x hx => hp x (List.mem_append_left _ hx)))
      (ih hr3 h2 (fun x hx => hs x (List.mem_append_right _ hx)) (fun x hx => hp x (List.mem_append_right _ hx)))
theorem law_post (hl : laidOutB P = true) {f : Func} {s : ChangeSpec} {W W' : World} {args : Array Value} {ds gs : List (DataW H)} {before : List MemPlace}
    (hW : DataW.Whole enc P f.params.toList s.vars false W args.toList ds gs before) (hv : s.vars = [])
    (hres : (s.fn H (ds ++ gs)).results = [.lit (.bool true)]) (hargs : (s.fn H (ds ++ gs)).args = ds) (hvs : (s.fn H (ds ++ gs)).vars = [])
    (hf : f.resultTypes = #[4]) (h4 : P.underlying 4 = some .bool) (hr : f.params.toList.all (fun t => P.readableRec t && decide (t < P.types.size)) = true)
    (hb : Below W.heap.size W W') : s.post enc P f false true false false W args (.bool true) W' := by
  have hlt : ∀ p ∈ before, p.block < W.heap.size := fun p hp => hW.lt p hp
  have hW' := hW
  obtain ⟨p, q, hA, hV, rfl, hfz, hnd⟩ := hW'
  rw [hv] at hV
  obtain ⟨rfl, rfl⟩ := trodVars_none hV
  have hsame : ∀ x ∈ p, W.sameAt W' x := fun x hx => hb.same (hlt x (List.mem_append_left _ hx))
  refine post_of_below (pa := p) (pv := []) hW (fun b sp hd => ?_) (fun sp hsp => ?_) (fun sp _ => ?_) rfl hb ?_
  · rw [hres, hf]
    exact trodAll_mk1 (shut_bool h4 true)
  · rw [hargs]
    exact trodAll_stays hl hr hA hsame (fun x hx => hsp x (List.mem_append_left _ hx))
  · rw [hv, hvs]
    exact rfl
  · exact ok_one hf rfl (okWide_bool_mk h4 true)
theorem open_bytes {W : World} {base : Nat} {t e : TypeId} {v : Value} {d : DataW H} {ps : List MemPlace} (ht : P.underlying t = some (.slice e)) (he : P.underlying e = some (.int .u8)) (hc : P.cellsOf e = 1)
    (hv : Value.okWide P W .any base t v) (h : DataW.Trod enc P W 0 (fun _ => true) true t v d ps) :
    ∃ (A : Option Addr) (L : List UInt8) (c : Nat), v = .slice A L.length c ∧ RB W W.heap.size A L ∧ L.length ≤ c ∧ c ≤ maxLen := by
  obtain ⟨a0, len, cap, rfl⟩ := okWide_slice ht hv
  obtain ⟨fuel, hf⟩ := h
  rcases open_ints ht he hc hf with ⟨hcs, hx⟩ | ⟨a, len', cap', zs, hcs, _, hl, hm, hz, hx, hcell, hwz⟩
  · simp [Value.cells] at hcs
    obtain ⟨rfl, rfl, rfl⟩ := hcs
    exact ⟨none, [], 0, rfl, RB.none_ _ _, Nat.le_refl _, Nat.zero_le _⟩
  · simp [Value.cells] at hcs
    obtain ⟨rfl, rfl, rfl⟩ := hcs
    simp only [if_true] at hz
    have hlen : (zs.take len).length = len := by rw [List.length_take]; omega
    refine ⟨some a, (zs.take len).map (fun z => UInt8.ofNat z.toNat), cap, by rw [List.length_map, hlen], ?_, by rw [List.length_map, hlen]; exact hl, hm⟩
    have hcells : cells ((zs.take len).map (fun z => UInt8.ofNat z.toNat)) = (zs.take len).map (Value.int .u8) := by
      unfold cells
      rw [List.map_map]
      apply List.map_congr_left
      intro z hz'
      have hw := hwz z (List.mem_of_mem_take hz')
      have hb : 0 ≤ z ∧ z ≤ 255 := by simpa [Lit.wf, IntKind.min, IntKind.max, IntKind.signed, IntKind.bits] using hw
      show Value.int .u8 _ = Value.int .u8 z
      rw [ofNat_toNat _ (by omega)]
      congr 1
      omega
    unfold RB
    rw [hcells]
    refine ⟨by simp, fun hn => ?_⟩
    simp only [List.length_map, hlen] at hn
    have h0 := hcell 0 (by omega)
    have hblk := World.block_lt_of_cell? W _ h0
    refine ⟨a, rfl, by rw [block_of_add] at hblk; exact hblk, fun j u hu => ?_⟩
    rw [List.getElem?_map, List.getElem?_take] at hu
    split at hu
    · rename_i hj
      rw [hcell j (by omega)]
      rw [List.getElem?_eq_getElem (by omega)] at hu
      simp only [Option.map_some, Option.some.injEq] at hu
      rw [← hu]
      simp [List.getD, List.getElem?_eq_getElem (show j < zs.length by omega)]
    · cases hu
def RI (w : World) (B : Nat) (A : Option Addr) (Z : List Int) : Prop :=
  0 < Z.length → ∃ b off, A = some ⟨b, off, none⟩ ∧ b < B ∧ ∀ k (hk : k < Z.length), w.cell? ⟨b, off + k, none⟩ = some (.int .i64 Z[k])
theorem RI.below {w w' : World} {B : Nat} {A : Option Addr} {Z : List Int} (h : RI w B A Z) (hb : Below B w w') : RI w' B A Z := fun hn => by
  obtain ⟨b, off, e, hlt, hc⟩ := h hn
  exact ⟨b, off, e, hlt, fun k hk => (hb.cell (p := ⟨b, off + k, none⟩) hlt).trans (hc k hk)⟩
end
end
section
theorem blocksK_front (s : S8) (X Y : List UInt8) : ∀ k, 64 * k ≤ X.length → blocksK s (X ++ Y) k = blocksK s X k := by
  intro k
  induction k with
  | zero => intro _; rfl
  | succ k ih =>
    intro h
    have e : ((X ++ Y).drop (64 * k)).take 64 = (X.drop (64 * k)).take 64 := by
      rw [List.drop_append_of_le_length (by omega), List.take_append_of_le_length (by rw [List.length_drop]; omega)]
    rw [blocksK, blocksK, ih (by omega), e]
theorem blocksK_add (s : S8) (P : List UInt8) (j : Nat) : ∀ k, blocksK s P (j + k) = blocksK (blocksK s P j) (P.drop (64 * j)) k := by
  intro k
  induction k with
  | zero => rfl
  | succ k ih =>
    have e : ((P.drop (64 * j)).drop (64 * k)).take 64 = (P.drop (64 * (j + k))).take 64 := by rw [List.drop_drop, Nat.mul_add]
    rw [← Nat.add_assoc, blocksK, blocksK, ih, e]
def doneK (L : List UInt8) : Nat := L.length / 64
def stateL (L : List UInt8) : S8 := blocksK s0 L (doneK L)
def restL (L : List UInt8) : List UInt8 := L.drop (64 * doneK L)
theorem restL_length (L : List UInt8) : (restL L).length = L.length % 64 := by unfold restL doneK; rw [List.length_drop]; omega
theorem stateL_append (L M : List UInt8) : stateL (L ++ M) = blocksK (stateL L) (restL L ++ M) ((restL L ++ M).length / 64) := by
  have h1 : doneK (L ++ M) = doneK L + (restL L ++ M).length / 64 := by
    unfold doneK; rw [List.length_append, List.length_append, restL_length]; omega
  have h2 : (L ++ M).drop (64 * doneK L) = restL L ++ M := by
    unfold restL; rw [List.drop_append_of_le_length (by unfold doneK; omega)]
  unfold stateL
  rw [h1, blocksK_add, h2, blocksK_front s0 L M _ (by unfold doneK; omega)]
theorem restL_append (L M : List UInt8) : restL (L ++ M) = (restL L ++ M).drop (64 * ((restL L ++ M).length / 64)) := by
  have h1 : doneK (L ++ M) = doneK L + (restL L ++ M).length / 64 := by
    unfold doneK; rw [List.length_append, List.length_append, restL_length]; omega
  have h2 : (L ++ M).drop (64 * doneK L) = restL L ++ M := by
    unfold restL; rw [List.drop_append_of_le_length (by unfold doneK; omega)]
  show (L ++ M).drop (64 * doneK (L ++ M)) = _
  rw [h1, Nat.mul_add, ← List.drop_drop, h2]
end
end Go.Proofs.YtinphkflfdpaeaaDoor
