/- Lemmas under the proofs of this place: IdsPRightA, SortS, Skip. No statement is proved here. -/
import Derived.Test.YtbeihiokjhfepaaBu06
import Derived.Test.YtbeihiokjhfepaaBu00
import Derived.Shelf.Slices.In.SortNone
import Derived.Sort.EveryDepth
import Derived.Sort.OwnSorted
import Derived.Sort.Grow
import Derived.Lib.OwnBridge
set_option linter.unusedVariables false
set_option maxRecDepth 100000
set_option maxHeartbeats 16000000
namespace Go.Proofs.Ytbeihiokjhfepaa
section
open Go.RowKit
theorem idsRight_at (L : Bs) (w : World) : Calls Try.prog 37 #[.string (text L)] w fun e w' => e = .returned (.bool (rightB L)) ∧ w = w' := by
  have hs := text_size L
  obtain ⟨t, ht⟩ : ∃ t, t = text L := ⟨_, rfl⟩
  rw [← ht] at hs ⊢
  have HB : Hid (rightB L = decide ((L.length : Int) = 32)) := by
    show _ = _
    unfold rightB
    rw [Bool.eq_iff_iff]; simp; omega
  clear ht
  go_enter Try.func37, Try.ntmps37
  go_wp2
  go_ret
  refine ⟨?_, rfl⟩
  rw [HB.out]
  rfl
end
section
open Go.RowKit Go.Sort
theorem scells_enc (Ls : List Bs) : scells Ls = Ls.map encStr := rfl
theorem sort_own {w : World} {base : Nat} {v : Value} {y : Nat} {K : List Bs} (h : w.ownsRow base 9 1 v y (scells K)) (hy : y ≤ 1000000) :
    Calls Try.prog 63 #[v] w fun e w' => e = .returned (.tuple #[]) ∧ w'.ownsRow base 9 1 v y (scells (K.mergeSort fun x y => decide (x ≤ y))) ∧ (∀ w0, base ≤ w.heap.size → Below base w0 w → Below base w0 w') := by
  by_cases hv : v = .slice none 0 0
  · subst hv
    have h0 : y = 0 := by
      rcases h.2 with ⟨_, h0⟩ | ⟨g, cap, cur, e, _⟩
      · exact h0
      · cases e
    have hK : K = [] := by
      have := h.1
      rw [h0, scells_length] at this
      exact List.length_eq_zero_iff.1 this
    subst hK
    refine (Calls.mono (calls_of_every_depth fun D => AnyS.slices_Sort_string_none_in Try.laysSort D none 0 w) ?_)
    rintro e w' ⟨rfl, rfl⟩
    exact ⟨rfl, by rw [show ([] : List Bs).mergeSort (fun x y => decide (x ≤ y)) = [] by simp]; exact h, fun _ _ h => h⟩
  · rw [scells_enc] at h
    obtain ⟨g, cap, rfl, hbg, hgl, hncap, hcm, hlen, hH⟩ := Lib.holds_of_ownsRow h hv
    subst hlen
    rcases h.2 with ⟨h0, _⟩ | ⟨g', cap', cur, hv', hbase, hb, h1, h2, h3, h4⟩
    · cases h0
    cases hv'
    refine (Calls.mono (calls_of_every_depth fun D => AnyS.slices_Sort_string_in Try.laysSort D g 0 cap K w hH hgl (by omega)) ?_)
    rintro e w' ⟨rfl, nn, os, rfl⟩
    refine ⟨rfl, ?_, fun w0 hs h0 => ?_⟩
    · rw [scells_enc]
      exact ownsRow_sorted (List.length_mergeSort K) hbase hb h1 h2 h3
    · exact h0.grown (grownBy_sorted _) hs (fun j hj => by cases hj; exact hbase)
end
section
open Go.RowKit
theorem take_d {P : Program} {ops : Array Oper} {Q : Exit → Act → World → Prop} {md : Region.Mode} {S : World → Prop} {T : Nat → Bool} {i fuel : Nat} {oi : Oper} {listed : Array Bool} {a : Act} {w : World} (v : Value) (d : Nat) (hi : ops[i]? = some oi) (hd : oi.dst = some d) (hs : Region.noSelect ops = true) (hf : Region.free md ops listed i = true) (hr : (Region.ready md ops listed).contains i = true)
    (hT : T i = false) (hwt : waits_ md ops T i = true) (hw : Region.wanted oi (yielded ops a.tmps) = true) (hy : ∀ w, S w → (execOp a.eval oi).run P w = .ok (.value v) w) (hS : S w) (hQ : ∀ c a w, Q (.panic c) (a.put oi.dst v) w → Q (.panic c) a w)
    (h : wpAnyT P md ops Q S T fuel (listed.setIfInBounds i true) (a.put (some d) v) w) : wpAnyT P md ops Q S T (fuel + 1) listed a w :=
  any_take v hi hs hf hr hT hwt hw hy hS (by rw [hd]) rfl hQ h
end
end Go.Proofs.Ytbeihiokjhfepaa
