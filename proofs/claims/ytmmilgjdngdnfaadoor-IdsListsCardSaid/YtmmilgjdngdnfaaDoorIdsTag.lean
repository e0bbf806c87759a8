/- The walk of the reference's Tag (layer 4). -/
import Derived.Test.YtmmilgjdngdnfaaDoorIdsParse
import Derived.Test.YtmmilgjdngdnfaaDoorShaRID
import Derived.Lib.AppendStr
set_option linter.unusedVariables false
namespace Go.Proofs.YtmmilgjdngdnfaaDoor
open Go.RowKit

theorem strCells_text (L : Bs) : Lib.strCells (text L) = cells L := rfl

set_option maxRecDepth 100000 in
set_option maxHeartbeats 1000000 in
theorem refTag_any (Ls : List Bs) (A : Option Addr) (n c B : Nat) (w : World) (HN : Hid (n = Ls.length)) (hr : SS w B A Ls) (hn : n ≤ 1000) :
    Calls Tryd.prog 10 #[.slice A n c] w fun e w' => e = .returned (idErr (tagL Ls)) ∧ Below w.heap.size w w' := by
  obtain ⟨i0, hi0, hz0, hz1, hz2⟩ := info_parts Tryd.info5
  have HRs := Lib.hid (refRising_any Ls A n c w.heap.size w HN hr.lt (by omega))
  have HR : Hid (0 < Ls.length → ∃ b off, A = some ⟨b, off, none⟩ ∧ b < w.heap.size ∧ ∀ k, k < Ls.length → w.cell? ⟨b, off + k, none⟩ = some (.string (text (Ls.getD k [])))) := fun h => hr.lt.at_ h
  clear hr
  cases hrs : risesL Ls with
  | false =>
    have HF : Hid (tagL Ls = none) := by show _ = _; unfold tagL; rw [hrs]; rfl
    rw [hrs] at HRs
    clear hrs HR
    go_enter Tryd.func10, Tryd.ntmps10
    go_wp2_with (first
      | (go_at_call 12; (with_reducible refine HRs.out.mono ?_); rintro e w1 ⟨rfl, hb1⟩))
    go_ret2
    exact ⟨by rw [HF.out]; rfl, hb1⟩
  | true =>
    have HF : Hid (tagL Ls = some (idL Ls.flatten)) := by show _ = _; unfold tagL; rw [hrs]; rfl
    have HA : Hid (∀ x ∈ Ls, x.length = 32) := fun x hx => by
      have := ((risesL_iff Ls).1 hrs).1 x hx
      simpa [rightB] using this
    rw [hrs] at HRs
    clear hrs
    go_enter Tryd.func10, Tryd.ntmps10
    go_wp2_with (first
      | (go_at_call 12; (with_reducible refine HRs.out.mono ?_); rintro e w1 ⟨rfl, hb1⟩))
    go_loopw [4, 5] (fun v i wr => ∃ (k y : Nat), k ≤ n ∧ i = .int .i64 (k : Int) ∧ y ≤ 32 * k ∧ Hid (y = (Ls.take k).flatten.length) ∧ wr.ownsRow w.heap.size 5 1 v y (cells (Ls.take k).flatten) ∧ Below w.heap.size w wr) (fun _ i _ => n - (intOf i).toNat)
    case atStart => exact ⟨0, 0, by omega, rfl, by omega, rfl, World.ownsRow_nil _ _ _ _, hb1⟩
    case round =>
      obtain ⟨k, y, hk, rfl, hyk, HY, hown, hb⟩ := hrel
      have u0 : (0 : Int) ≤ (k : Int) := by omega
      by_cases hlt : k < n
      · have hkL : k < Ls.length := by have := HN.out; omega
        obtain ⟨b, off, rfl, hbb, hcc⟩ := HR.out (by omega)
        obtain ⟨x, hx⟩ : ∃ x, x = Ls.getD k [] := ⟨_, rfl⟩
        obtain ⟨s, hs⟩ : ∃ s, s = text x := ⟨_, rfl⟩
        have hck := hcc k hkL
        rw [← hx, ← hs, ← hb.cell (p := ⟨b, off + k, none⟩) hbb] at hck
        have u1 : (k : Int) < (n : Int) := by omega
        have e : x = Ls[k] := by rw [hx, List.getD, List.getElem?_eq_getElem hkL]; rfl
        have hx32 : x.length = 32 := by rw [e]; exact HA.out _ (List.getElem_mem _)
        have hss : s.size = 32 := by rw [hs, text_size]; exact hx32
        have HS : Hid ((Ls.take (k + 1)).flatten = (Ls.take k).flatten ++ x) := by
          show _ = _
          rw [List.take_succ_eq_append_getElem hkL, List.flatten_append, e]
          simp
        have HC : Hid (Lib.strCells s = cells x) := by show _ = _; rw [hs, strCells_text]
        have HX := Lib.hid hx32
        clear hx hs hcc e hx32 hkL
        go_wp2_with (at_builtin; refine Lib.wpList_append_own_string _ rfl (.tmp 15) (.tmp 19) 39 9 rfl w.heap.size 5 i0 Tryd.underlying39 Tryd.underlying9 hi0 hz0 hz1 hz2 _ y (cells (Ls.take k).flatten) rfl hown s rfl (by simp only [maxLen]; omega) (by omega) hb.size ?_; intro v2 w2 ho2 hg2 hat2; have b2 : Below w.heap.size w w2 := hb.grown hg2 hb.size (fun q hq => (hown.lt q hq).1))
        rw [HC.out, ← cells_append, ← HS.out, hss] at ho2
        refine ⟨⟨k + 1, y + 32, by omega, by go_num, by omega, by show _ = _; rw [HS.out, HY.out, List.length_append, HX.out], ho2, b2⟩, ?_⟩
        simp [intOf]; omega
      · have ek : (Ls.take k).flatten = Ls.flatten := by rw [List.take_of_length_le (by have := HN.out; omega)]
        rw [ek] at HY hown
        obtain ⟨A8, c8, rfl⟩ := own_form hown
        have hfr : RB wr wr.heap.size A8 Ls.flatten := by refine Reads.of_own (base := w.heap.size) (e := 5) (c := c8) ?_; rw [← HY.out]; exact hown
        have HI := Lib.hid (refID_any Ls.flatten A8 c8 wr.heap.size wr hfr y HY.out.symm (by omega))
        clear ek hown hfr HR
        go_wp2_with (first
          | (go_at_call 34; (with_reducible refine HI.out.mono ?_); rintro e w3 ⟨rfl, hb3⟩))
        go_ret2
        exact ⟨by rw [HF.out]; rfl, hb.trans (hb3.mono hb.size)⟩

end Go.Proofs.YtmmilgjdngdnfaaDoor
