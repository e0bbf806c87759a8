/- The walk of the program's Of, Has (layer 4), over the library's contracts of slices.Sort, slices.Compact and slices.Contains. -/
import Derived.Test.YtmmilgjdngdnfaaDoorIdsPSift
import Derived.Test.YtmmilgjdngdnfaaDoorIdsSort
import Derived.Test.YtmmilgjdngdnfaaDoorIdsShelf
import Derived.Shelf.Slices.In.SortNone
import Derived.Sort.EveryDepth
import Derived.Sort.OwnSorted
import Derived.Sort.Grow
import Derived.Lib.OwnBridge
set_option linter.unusedVariables false
namespace Go.Proofs.YtmmilgjdngdnfaaDoor
open Go.RowKit Go.Sort

theorem scells_enc (Ls : List Bs) : scells Ls = Ls.map encStr := rfl
/-- slices.Sort at a row of the call's own. -/
theorem sort_own {w : World} {base : Nat} {v : Value} {y : Nat} {K : List Bs} (h : w.ownsRow base 9 1 v y (scells K)) (hy : y ≤ 1000000) :
    Calls Tryd.prog 35 #[v] w fun e w' => e = .returned (.tuple #[]) ∧ w'.ownsRow base 9 1 v y (scells (K.mergeSort fun x y => decide (x ≤ y))) ∧ (∀ w0, base ≤ w.heap.size → Below base w0 w → Below base w0 w') := by
  by_cases hv : v = .slice none 0 0
  · subst hv
    have h0 : y = 0 := by
      rcases h.2 with ⟨_, h0⟩ | ⟨g, cap, cur, e, _⟩
      · exact h0
      · cases e
    have hK : K = [] := by
      have := h.1
      rw [h0, scells_length] at this
      exact List.length_eq_zero_iff.1 this
    subst hK
    refine (Calls.mono (calls_of_every_depth fun D => AnyS.slices_Sort_string_none_in Tryd.laysSort D none 0 w) ?_)
    rintro e w' ⟨rfl, rfl⟩
    exact ⟨rfl, by rw [show ([] : List Bs).mergeSort (fun x y => decide (x ≤ y)) = [] by simp]; exact h, fun _ _ h => h⟩
  · rw [scells_enc] at h
    obtain ⟨g, cap, rfl, hbg, hgl, hncap, hcm, hlen, hH⟩ := Lib.holds_of_ownsRow h hv
    subst hlen
    rcases h.2 with ⟨h0, _⟩ | ⟨g', cap', cur, hv', hbase, hb, h1, h2, h3, h4⟩
    · cases h0
    cases hv'
    refine (Calls.mono (calls_of_every_depth fun D => AnyS.slices_Sort_string_in Tryd.laysSort D g 0 cap K w hH hgl (by omega)) ?_)
    rintro e w' ⟨rfl, nn, os, rfl⟩
    refine ⟨rfl, ?_, fun w0 hs h0 => ?_⟩
    · rw [scells_enc]
      exact ownsRow_sorted (List.length_mergeSort K) hbase hb h1 h2 h3
    · exact h0.grown (grownBy_sorted _) hs (fun j hj => by cases hj; exact hbase)
/-- slices.Compact at a row of the call's own. -/
theorem compact_own {w : World} {base : Nat} {v : Value} {y : Nat} {K : List Bs} (h : w.ownsRow base 9 1 v y (scells K)) (hy : y ≤ 1000000) :
    Calls Tryd.prog 36 #[v] w fun e w' => ∃ v', e = .returned v' ∧ w'.ownsRow base 9 1 v' (Lib.compact K).length (scells (Lib.compact K)) ∧ (∀ w0, base ≤ w.heap.size → Below base w0 w → Below base w0 w') := by
  by_cases hv : v = .slice none 0 0
  · subst hv
    have h0 : y = 0 := by
      rcases h.2 with ⟨_, h0⟩ | ⟨g, cap, cur, e, _⟩
      · exact h0
      · cases e
    have hK : K = [] := by
      have := h.1
      rw [h0, scells_length] at this
      exact List.length_eq_zero_iff.1 this
    subst hK
    subst h0
    refine (Calls.mono (Any.slices_Compact_string_empty Tryd.laysCompact none 0 w) ?_)
    rintro e w' ⟨rfl, rfl⟩
    exact ⟨_, rfl, h, fun _ _ h => h⟩
  · rw [scells_enc] at h
    obtain ⟨g, cap, rfl, hbg, hgl, hncap, hcm, hlen, hH⟩ := Lib.holds_of_ownsRow h hv
    subst hlen
    refine (Calls.mono (Any.slices_Compact_string Tryd.laysCompact g 0 cap K w hH (by omega) hncap) ?_)
    rintro e w' ⟨rfl, q, rfl⟩
    have hle := Lib.compact_length_le K
    refine ⟨_, rfl, ?_, fun w0 hs h0 => Lib.below_putRow h0 hbg⟩
    have hc := Lib.ownsRow_putRow (q := q) (k := (Lib.compact K).length) (ys := Lib.compact K ++ List.replicate (K.length - (Lib.compact K).length) []) h (by simp; omega) (by omega)
    rw [List.take_left] at hc
    exact hc

set_option maxRecDepth 100000 in
set_option maxHeartbeats 1000000 in
theorem idsOf_at (Ls : List Bs) (A : Option Addr) (n c B : Nat) (w : World) (HN : Hid (n = Ls.length)) (hr : SS w B A Ls) (hn : n ≤ 100000) :
    Calls Tryd.prog 14 #[.slice A n c] w fun e w' => ∃ v, e = .returned v ∧ w'.ownsRow w.heap.size 9 1 v (ofL Ls).length (scells (ofL Ls)) ∧ Below w.heap.size w w' := by
  obtain ⟨i0, hi0, hz0, hz1, hz2⟩ := info_parts Tryd.infoStr
  have HR : Hid (0 < Ls.length → ∃ b off, A = some ⟨b, off, none⟩ ∧ b < w.heap.size ∧ ∀ k, k < Ls.length → w.cell? ⟨b, off + k, none⟩ = some (.string (text (Ls.getD k [])))) := fun h => hr.lt.at_ h
  clear hr
  go_enter Tryd.func14, Tryd.ntmps14
  go_wp2
  go_loopw [3, 5, 8] (fun v v5 i wr => ∃ (k y : Nat), k ≤ n ∧ i = .int .i64 (k : Int) ∧ y ≤ k ∧ Hid (y = ((Ls.take k).filter rightB).length) ∧ wr.ownsRow w.heap.size 9 1 v y (scells ((Ls.take k).filter rightB)) ∧ Below w.heap.size w wr) (fun _ _ i _ => n - (intOf i).toNat)
  case atStart => exact ⟨0, 0, by omega, rfl, by omega, rfl, World.ownsRow_nil _ _ _ _, Below.refl _ _⟩
  case round =>
    obtain ⟨k, y, hk, rfl, hyk, HY, hown, hb⟩ := hrel
    have u0 : (0 : Int) ≤ (k : Int) := by omega
    by_cases hlt : k < n
    · have hkL : k < Ls.length := by have := HN.out; omega
      obtain ⟨b, off, rfl, hbb, hcc⟩ := HR.out (by omega)
      obtain ⟨x, hx⟩ : ∃ x, x = Ls.getD k [] := ⟨_, rfl⟩
      obtain ⟨s, hs⟩ : ∃ s, s = text x := ⟨_, rfl⟩
      have hck := hcc k hkL
      rw [← hx, ← hs, ← hb.cell (p := ⟨b, off + k, none⟩) hbb] at hck
      have u1 : (k : Int) < (n : Int) := by omega
      have HRt : Hid (∀ V, Calls Tryd.prog 18 #[.string s] V fun e w' => e = .returned (.bool (rightB x)) ∧ V = w') := fun V => by rw [hs]; exact idsRight_at x V
      have HS : Hid ((Ls.take (k + 1)).filter rightB = (Ls.take k).filter rightB ++ if rightB x then [x] else []) := by
        show _ = _
        have e : x = Ls[k] := by rw [hx, List.getD, List.getElem?_eq_getElem hkL]; rfl
        rw [List.take_succ_eq_append_getElem hkL, List.filter_append, ← e]
        congr 1
        cases h : rightB x <;> simp [h]
      have Hs := Lib.hid hs
      cases hrt : rightB x with
      | true =>
        rw [hrt] at HRt HS
        clear hx hs hcc HR hrt hkL
        go_wp2_with (first
          | (go_at_call 18; (with_reducible refine (HRt.out _).mono ?_); rintro e w' ⟨rfl, rfl⟩)
          | (at_builtin; refine wpList_append_own _ rfl (.tmp 14) (.tmp 16) _ rfl w.heap.size 9 i0 _ 1 16 Tryd.underlying22 hi0 hz0 hz1 hz2 rfl (by omega) _ y (scells ((Ls.take k).filter rightB)) rfl (hown.alloc _) ⟨wr.heap.size, 0, none⟩ 1 1 [Value.string s] rfl rfl (cell_one_new _ _ _) (by intro u hu; rw [List.mem_singleton] at hu; subst hu; rfl) (by simp only [maxLen]; omega) (by omega) (by have := hb.size; simp; omega) ?_; intro v2 w2 ho2 hg2 hat2; have b2 : Below w.heap.size w w2 := (hb.alloc hb.size _).grown hg2 (by have := hb.size; simp; omega) (fun q hq => (hown.lt q hq).1)))
        have e2 : scells ((Ls.take k).filter rightB) ++ [Value.string s] = scells ((Ls.take (k + 1)).filter rightB) := by rw [HS.out, scells_append, Hs.out]; rfl
        rw [e2] at ho2
        refine ⟨⟨k + 1, y + 1, by omega, by go_num, by omega, by show _ = _; rw [HS.out, HY.out, List.length_append]; rfl, ho2, b2⟩, ?_⟩
        simp [intOf]; omega
      | false =>
        rw [hrt] at HRt HS
        clear hx hs hcc HR hrt hkL
        have e2 : (Ls.take (k + 1)).filter rightB = (Ls.take k).filter rightB := HS.out.trans (List.append_nil _)
        have HE := Lib.hid e2
        clear e2
        go_wp2_with (first
          | (go_at_call 18; (with_reducible refine (HRt.out _).mono ?_); rintro e w' ⟨rfl, rfl⟩))
        refine ⟨⟨k + 1, y, by omega, by go_num, by omega, by show _ = _; rw [HE.out]; exact HY.out, by rw [HE.out]; exact hown, hb⟩, ?_⟩
        simp [intOf]; omega
    · have e : (Ls.take k).filter rightB = Ls.filter rightB := by rw [List.take_of_length_le (by have := HN.out; omega)]
      rw [e] at HY hown
      have HZ : Hid (Lib.compact ((Ls.filter rightB).mergeSort fun x y => decide (x ≤ y)) = ofL Ls) := sort_ofL Ls
      obtain ⟨S, hS⟩ : ∃ S, S = (Ls.filter rightB).mergeSort fun x y => decide (x ≤ y) := ⟨_, rfl⟩
      have HO := Lib.hid (sort_own hown (by omega))
      rw [← hS] at HO HZ
      clear HR e hown hS
      go_wp2_with (first
        | (go_at_call 35; (with_reducible refine HO.out.mono ?_); rintro e w2 ⟨rfl, ho2, hb2⟩; have b2 := hb2 w hb.size hb; have HC := Lib.hid (compact_own ho2 (by omega)); clear ho2 hb2)
        | (go_at_call 36; (with_reducible refine HC.out.mono ?_); rintro e w3 ⟨v3, rfl, ho3, hb3⟩; have b3 := hb3 w b2.size b2; clear hb3))
      go_ret
      rw [HZ.out] at ho3
      exact ⟨_, rfl, ho3, b3⟩
theorem idsOf_any (Ls : List Bs) (A : Option Addr) (n c B : Nat) (w : World) (HN : Hid (n = Ls.length)) (hr : SS w B A Ls) (hn : n ≤ 1000) (hc : n ≤ c) (hcm : c ≤ 9223372036854775807) :
    Calls Tryd.prog 14 #[.slice A n c] w (GivesStrs (ofL Ls) w) := by
  refine (idsOf_at Ls A n c B w HN hr (by omega)).mono ?_
  rintro e w' ⟨v, rfl, ho, hb⟩
  exact GivesStrs.own ho hb

end Go.Proofs.YtmmilgjdngdnfaaDoor
