/- The walk of the program's Tag (layer 4). -/
import Derived.Test.YtmmilgjdngdnfaaDoorIdsPRight
import Derived.Test.YtmmilgjdngdnfaaDoorIdsParse
import Derived.Test.YtmmilgjdngdnfaaDoorShaPSum
import Derived.Lib.ConvBytes
set_option linter.unusedVariables false
namespace Go.Proofs.YtmmilgjdngdnfaaDoor
open Go.RowKit

/-- '[]byte(s)': new bytes; the world becomes a letter. -/
theorem wpList_bytes_letter {ops : Array Oper} {rest : List Oper} {o : Oper} {a : Act} {w : World} {Q : Exit → Act → World → Prop} (hg : o.guard = none) (x : Operand) (ho : o.op = .convert 9 39 x)
    (dst : Option Tmp) (hdst : o.dst = dst) (M : Bs) (n : Nat) (hn : n = M.length) (hl : M.length ≤ 1000000) (hx : a.eval x = .string (text M))
    (h : ∀ g c W, Hid (g = w.heap.size) → Hid (n ≤ c) → Hid (c ≤ 9223372036854775807) → Hid (RB W W.heap.size (some ⟨g, 0, none⟩) M) → Hid (Below w.heap.size w W) → wpList Tryd.prog ops Q rest (a.put dst (.slice (some ⟨g, 0, none⟩) n c)) W) : wpList Tryd.prog ops Q (o :: rest) a w := by
  have hr := Lib.run_convert_string_bytes (P := Tryd.prog) w 9 39 5 (text M) Tryd.underlying9 Tryd.underlying39 Tryd.underlying5
  have hsz : (text M).size = n := by rw [text_size, hn]
  refine wpList_plain hg fun K hK => ?_
  unfold Oper.wp execOp
  subst hdst
  simp only [ho, hx, Sem.run_bind, hr, Sem.run_pure, Result.andThen_ok]
  rw [hsz]
  refine hK _ _ (h _ _ _ (Lib.hid rfl) ?_ ?_ ?_ ?_)
  · exact grownCap_ge _ _ _ _
  · exact grownCap_le_maxLen _ _ _ _ (by unfold maxLen; omega)
  · refine ⟨by simp [cells_length], fun h0 => ⟨_, rfl, ?_, fun j u hu => ?_⟩⟩
    · show w.heap.size < _
      rw [Lib.bytesWorld_size]; omega
    · have e : (⟨w.heap.size, 0, none⟩ : Addr).add j = ⟨w.heap.size, j, none⟩ := by unfold Addr.add; split <;> simp_all
      have hj : j < M.length := by have := (List.getElem?_eq_some_iff.1 hu).1; rwa [cells_length] at this
      rw [e, Lib.bytesWorld_cell _ _ _ _ (by rw [text_size]; exact hj), ← hu, cells_get _ _ hj]
      have et : (text M).data.toList = M := by show M.toArray.toList = M; simp
      rw [et]
      simp [List.getD, List.getElem?_eq_getElem hj]
  · refine ⟨rfl, rfl, rfl, by rw [Lib.bytesWorld_size]; omega, fun i hi => Lib.bytesWorld_at_old _ _ _ _ hi⟩

set_option maxRecDepth 100000 in
set_option maxHeartbeats 1000000 in
theorem idsTag_any (Ls : List Bs) (A : Option Addr) (n c B : Nat) (w : World) (hT : Tab w) (HN : Hid (n = Ls.length)) (hr : SS w B A Ls) (hn : n ≤ 1000) (hc : n ≤ c) (hcm : c ≤ 9223372036854775807) :
    Calls Tryd.prog 9 #[.slice A n c] w fun e w' => e = .returned (idErr (tagL Ls)) ∧ Below w.heap.size w w' := by
  have HRs := Lib.hid (idsRising_at Ls A n c w.heap.size w HN hr.lt (by omega))
  have HR : Hid (0 < Ls.length → ∃ b off, A = some ⟨b, off, none⟩ ∧ b < w.heap.size ∧ ∀ k, k < Ls.length → w.cell? ⟨b, off + k, none⟩ = some (.string (text (Ls.getD k [])))) := fun h => hr.lt.at_ h
  have HTb : Hid (Tab w) := hT
  have HT0 := Lib.hid hT.lt
  clear hr hT
  cases hrs : risesL Ls with
  | false =>
    have HF : Hid (tagL Ls = none) := by show _ = _; unfold tagL; rw [hrs]; rfl
    rw [hrs] at HRs
    clear hrs HR
    go_enter Tryd.func9, Tryd.ntmps9
    go_wp2_with (first
      | (go_at_call 11; (with_reducible refine HRs.out.mono ?_); rintro e w1 ⟨rfl, hb1⟩))
    go_ret2
    exact ⟨by rw [HF.out]; rfl, hb1⟩
  | true =>
    have HF : Hid (tagL Ls = some (idL Ls.flatten)) := by show _ = _; unfold tagL; rw [hrs]; rfl
    have HA : Hid (∀ x ∈ Ls, x.length = 32) := fun x hx => by
      have := ((risesL_iff Ls).1 hrs).1 x hx
      simpa [rightB] using this
    rw [hrs] at HRs
    clear hrs
    go_enter Tryd.func9, Tryd.ntmps9
    go_wp2_with (first
      | (go_at_call 11; (with_reducible refine HRs.out.mono ?_); rintro e w1 ⟨rfl, hb1⟩; have HBg := Lib.hid (begin_any w1))
      | (go_at_call 31; (with_reducible refine HBg.out.mono ?_); rintro e w2 ⟨rfl, hk2, hb2⟩; have HK2 := Lib.hid hk2; clear hk2))
    obtain ⟨g, hg⟩ : ∃ g, g = w1.heap.size := ⟨_, rfl⟩
    have hgw : w.heap.size ≤ g := by have := hb1.size; omega
    have b2 : Below w.heap.size w w2 := hb1.trans (hb2.mono hb1.size)
    rw [← hg] at HK2
    rw [← hg]
    clear hb1 hb2 hg HRs HBg
    go_loopw [6, 13] (fun x6 i wr => ∃ (k : Nat), k ≤ n ∧ i = .int .i64 (k : Int) ∧ Hid (HashAt wr g (Ls.take k).flatten) ∧ Hid ((Ls.take k).flatten.length = 32 * k) ∧ Below w.heap.size w wr) (fun _ i _ => n - (intOf i).toNat)
    case atStart => exact ⟨0, by omega, rfl, HK2.out, rfl, b2⟩
    case round =>
      obtain ⟨k, hk, rfl, HH, HY, hb⟩ := hrel
      have u0 : (0 : Int) ≤ (k : Int) := by omega
      by_cases hlt : k < n
      · have hkL : k < Ls.length := by have := HN.out; omega
        obtain ⟨b, off, rfl, hbb, hcc⟩ := HR.out (by omega)
        obtain ⟨x, hx⟩ : ∃ x, x = Ls.getD k [] := ⟨_, rfl⟩
        obtain ⟨s, hs⟩ : ∃ s, s = text x := ⟨_, rfl⟩
        have hck := hcc k hkL
        rw [← hx, ← hs, ← hb.cell (p := ⟨b, off + k, none⟩) hbb] at hck
        have u1 : (k : Int) < (n : Int) := by omega
        have e : x = Ls[k] := by rw [hx, List.getD, List.getElem?_eq_getElem hkL]; rfl
        have hx32 : x.length = 32 := by rw [e]; exact HA.out _ (List.getElem_mem _)
        have HS : Hid ((Ls.take (k + 1)).flatten = (Ls.take k).flatten ++ x) := by
          show _ = _
          rw [List.take_succ_eq_append_getElem hkL, List.flatten_append, e]
          simp
        have Hs := Lib.hid hs
        have HX := Lib.hid hx32
        clear hx hs hcc e hx32 hkL
        have HAdd : Hid (∀ (V : World) (A8 : Option Addr) (c8 : Nat), HashAt V g (Ls.take k).flatten → Tab V → RB V V.heap.size A8 x → (∀ ad, A8 = some ad → ad.block ≠ g) → 32 ≤ c8 → c8 ≤ 9223372036854775807 → Calls Tryd.prog 32 #[.pointer (some ⟨g, 0, none⟩), .slice A8 32 c8] V fun e w' => e = .returned (.tuple #[]) ∧ HashAt w' g (Ls.take (k + 1)).flatten ∧ Only V w' g) := by
          intro V A8 c8 h1 h2 h3 h4 h5 h6
          have h := add_any (Ls.take k).flatten x g A8 c8 V h1 (by have := HT0.out; omega) h2 h3 h4 (by have := HY.out; have := HX.out; omega) (by have := HX.out; omega) h6
          rw [HX.out] at h
          rw [HS.out]
          exact h
        go_wp2_with (first
          | (refine wpList_bytes_letter rfl (.tmp 18) rfl (some 19) rfl x 32 HX.out.symm (by have := HX.out; omega) (by rw [← Hs.out]; rfl) ?_; intro g3 c3 w3 hg3 hc3 hm3 hr3 hb3; have b3 : Below w.heap.size w w3 := hb.trans (hb3.out.mono hb.size); have HC3 := Lib.hid (HAdd.out w3 (some ⟨g3, 0, none⟩) c3 (HH.out.below hb3.out HH.out.lt) (HTb.out.below b3) hr3.out (by intro ad e; injection e with e; subst e; show g3 ≠ g; have := hg3.out; have := HH.out.lt; omega) hc3.out hm3.out))
          | (go_at_call 32; (with_reducible refine HC3.out.mono ?_); rintro e w4 ⟨rfl, hk4, ho4⟩))
        refine ⟨⟨k + 1, by omega, by go_num, hk4, by show _ = _; rw [HS.out, List.length_append, HY.out, HX.out]; omega, below_only b3 ho4 hgw b3.size⟩, ?_⟩
        simp [intOf]; omega
      · have ek : (Ls.take k).flatten = Ls.flatten := by rw [List.take_of_length_le (by have := HN.out; omega)]
        rw [ek] at HH HY
        have HI := Lib.hid (sum_any Ls.flatten g wr HH.out (HTb.out.below hb) (by have := HY.out; omega))
        clear ek HR
        go_wp2_with (first
          | (go_at_call 33; (with_reducible refine HI.out.mono ?_); rintro e w3 ⟨rfl, hb3⟩))
        go_ret2
        exact ⟨by rw [HF.out]; rfl, hb.trans (hb3.mono hb.size)⟩

end Go.Proofs.YtmmilgjdngdnfaaDoor
