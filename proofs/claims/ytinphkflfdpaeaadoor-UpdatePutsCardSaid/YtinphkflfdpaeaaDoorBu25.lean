/- Lemmas under the proofs of this place: ShaPBegin, ShaPText, EqualS. No statement is proved here. -/
import Derived.Test.YtinphkflfdpaeaaDoorBu22
import Derived.Test.YtinphkflfdpaeaaDoorBu19
import Derived.Test.YtinphkflfdpaeaaDoorBu05
import Derived.Test.YtinphkflfdpaeaaDoorBu21
set_option linter.unusedSimpArgs false
set_option linter.unusedVariables false
set_option maxRecDepth 100000
set_option maxHeartbeats 16000000
namespace Go.Proofs.YtinphkflfdpaeaaDoor
section
open Go.RowKit
def HashAt (w : World) (g : Nat) (L : List UInt8) : Prop := ∃ blk, HB w g (stateL L) blk L.length ∧ blk.take (L.length % 64) = restL L
theorem HashAt.below {B : Nat} {w w' : World} {g : Nat} {L : List UInt8} (h : HashAt w g L) (hb : Below B w w') (hg : g < B) : HashAt w' g L := by
  obtain ⟨blk, h1, h2⟩ := h
  exact ⟨blk, h1.below hb hg, h2⟩
theorem HashAt.only {w w' : World} {g k : Nat} {L : List UInt8} (h : HashAt w g L) (ho : Only w w' k) (hg : g ≠ k) : HashAt w' g L := by
  obtain ⟨blk, h1, h2⟩ := h
  exact ⟨blk, ⟨h1.1.grown ho (by simp; omega), h1.2⟩, h2⟩
theorem HashAt.lt {w : World} {g : Nat} {L : List UInt8} (h : HashAt w g L) : g < w.heap.size := by
  obtain ⟨blk, h1, _⟩ := h
  exact h1.lt
theorem HashAt.size {w : World} {g : Nat} {L : List UInt8} (h : HashAt w g L) : w.cell? ⟨g, 72, none⟩ = some (.int .u64 (L.length : Int)) := by
  obtain ⟨blk, h1, _⟩ := h
  exact h1.size
theorem HashAt.drew {w : World} {g : Nat} {L : List UInt8} (h : HashAt w g L) : HashAt w.drew g L := h
theorem begin_any (w : World) :
    Calls Tryd.prog 65 #[] w fun e w' => e = .returned (.pointer (some ⟨w.heap.size, 0, none⟩)) ∧ HashAt w' w.heap.size [] ∧ Below w.heap.size w w' := by
  obtain ⟨SA, hSA⟩ : ∃ SA, SA = (wcells s0.list).toArray := ⟨_, rfl⟩
  obtain ⟨HA, hHA⟩ : ∃ HA, HA = (hcells s0 (List.replicate 64 0) 0).toArray := ⟨_, rfl⟩
  have HSA := Lib.hid hSA
  have HHA := Lib.hid hHA
  have HB43 : Hid (Tryd.prog.built 104 [(0, .agg SA)] = some HA) := by show _ = _; rw [hHA, hSA]; kernel_rfl
  clear hSA hHA
  go_enter Tryd.func65, Tryd.ntmps65
  go_wp2_with (first
    | (refine wpList_buildTo rfl 100 _ rfl (some 1) rfl SA (by rw [HSA.out]; kernel_rfl) ?_)
    | (refine wpList_buildTo rfl 104 _ rfl (some 2) rfl HA (Eq.trans (b := Tryd.prog.built 104 [(0, .agg SA)]) (by kernel_rfl) HB43.out) ?_)
    | (refine wpList_box_letter rfl 104 _ rfl (some 3) rfl HA rfl ?_; intro g1 w1 hw1 hg1))
  have b1 : Below w.heap.size w w1 := letter_below hw1 (Below.refl _ _) (Nat.le_refl _)
  have k1 : Blk w1 g1 104 (hcells s0 (List.replicate 64 0) 0).toArray := by rw [← HHA.out]; exact letter_blk hw1 hg1
  have e1 := hg1.out
  subst e1
  go_ret
  exact ⟨rfl, ⟨List.replicate 64 0, ⟨k1, by simp⟩, rfl⟩, b1⟩
end
section
open Go.RowKit
theorem append_many {ops : Array Oper} {rest : List Oper} {o : Oper} {a : Act} {Q : Exit → Act → World → Prop} (hgd : o.guard = none) (s x : Operand)
    (ho : o.op = .call { callee := .builtin .append, args := #[s, x], argTypes := #[29, 29] })
    {B : Nat} {w0 wr : World} {v : Value} {P : List UInt8} (y : Nat) (cs : List UInt8) (Z : Array Value) (m : Nat) (hs : a.eval s = v) (hown : wr.ownsRow B 5 1 v y (cells P)) (hb : Below B w0 wr) (hB : B ≤ w0.heap.size)
    (hz : Z = (cells cs).toArray) (hm : m = cs.length) (hx : a.eval x = .slice (some ⟨wr.heap.size, 0, none⟩) m m) (hlen : y + m ≤ 1048576)
    (h : ∀ v' w1, w1.ownsRow B 5 1 v' (y + m) (cells (P ++ cs)) → Below B w0 w1 → wpList Tryd.prog ops Q rest (a.put o.dst v') w1) :
    wpList Tryd.prog ops Q (o :: rest) a (wr.alloc (.cells Z 5)) := by
  obtain ⟨i0, hi0, hz0, hz1, hz2⟩ := info_parts Tryd.info5
  subst hz hm
  refine wpList_append_own _ hgd s x 29 ho B 5 i0 _ 1 1 Tryd.underlying29 hi0 hz0 hz1 hz2 rfl (by decide) v y (cells P) hs (hown.alloc _) ⟨wr.heap.size, 0, none⟩ cs.length cs.length (cells cs) hx (by rw [cells_length]; omega)
    (fun j u hu => by
      have hj : 0 < cs.length := by have := (List.getElem?_eq_some_iff.1 hu).1; rw [cells_length] at this; omega
      obtain ⟨ad, e, _, hc⟩ := (rb_new wr cs).2 hj
      injection e with e
      subst e
      exact hc j u hu) (cells_one _)
    (by unfold maxLen; omega) (by omega) (by have := hb.size; simp; omega) ?_
  intro v' w1 hown' hgrow _
  refine h v' w1 (by rw [cells_append]; exact hown') ?_
  exact ((hb.alloc (Nat.le_trans hB hb.size) _)).grown hgrow (by have := hb.size; simp; omega) (fun k hk => (hown.lt k hk).1)
theorem bytes_cells2 (x : UInt32) : (#[.int .u8 ((x.toNat : Int) / 16777216), .int .u8 ((x.toNat : Int) / 65536 % 256), .int .u8 ((x.toNat : Int) / 256 % 256), .int .u8 ((x.toNat : Int) % 256)] : Array Value) = (cells (bytesW x)).toArray := by
  have hx := w_lt x
  have h := bytes_cells x
  simp only [IntKind.wrap_u8'] at h
  rwa [Int.emod_eq_of_lt (by omega) (by omega : (x.toNat : Int) / 16777216 < 256)] at h
theorem text_any (H : List UInt32) (w : World) (hH : H.length = 8) :
    Calls Tryd.prog 83 #[.agg (wcells H).toArray] w fun e w' => e = .returned (.string (text (H.flatMap bytesW))) ∧ Below w.heap.size w w' := by
  obtain ⟨i0, hi0, hz0, hz1, hz2⟩ := info_parts Tryd.info5
  have hby : i0.bytes = 1 := hz2
  obtain ⟨RA, hRA⟩ : ∃ RA : Array Value, RA = (wcells H).toArray := ⟨_, rfl⟩
  have sR : RA.size = 8 := by rw [hRA]; simp [wcells_length, hH]
  have HI8 : Hid (∀ n : Nat, n < 8 → ∀ V, (Instr.index 100 (.agg RA) (.int .i64 (n : Int))).run Tryd.prog V = .ok (.int .u32 ((H.getD n 0).toNat : Int)) V) :=
    fun n hn V => by rw [hRA]; exact run_index_row Tryd.underlying100 Tryd.sha4 (fun d h => by rw [Tryd.underlying66] at h; injection h with h; subst h; rfl) (by rw [Tryd.underlying66]; rfl) rfl hn (wcells_at H (by omega))
  have HL8 := Lib.hid hH
  rw [← hRA]
  clear hRA hH
  go_enter Tryd.func83, Tryd.ntmps83
  go_wp2_with (first
    | (refine wpList_box_letter rfl 100 _ rfl (some 1) rfl RA rfl ?_; intro g1 w1 hw1 hg1)
    | (at_make; refine wpList_make_own _ rfl _ _ 29 rfl w1.heap.size 5 i0 _ 1 Tryd.underlying29 hi0 hz0 hz1 .i64 .i64 _ 32 rfl rfl (by omega) (by rw [hby]; omega) (by unfold maxLen; omega) (Nat.le_refl _) ?_; intro w2 ho2 hg2)
    | (refine wpList_load_row rfl 100 _ rfl g1 rfl _ _ _ _ ((letter_blk hw1 hg1).below ((Below.refl w1.heap.size w1).grown hg2 (Nat.le_refl _) (by simp)) (letter_blk hw1 hg1).lt) Tryd.underlying100 rfl (by rw [sR]; exact Tryd.shaSs) ?_))
  have b1 : Below w.heap.size w w1 := letter_below hw1 (Below.refl _ _) (Nat.le_refl _)
  have b2 : Below w1.heap.size w1 w2 := (Below.refl _ _).grown hg2 (Nat.le_refl _) (by simp)
  obtain ⟨v2, hv2⟩ : ∃ v2, v2 = Value.slice (some ⟨w1.heap.size, 0, none⟩) 0 32 := ⟨_, rfl⟩
  rw [← hv2] at ho2 ⊢
  clear hw1 hg1 hg2 hv2
  go_loopw [3, 5, 8] (fun v x5 i wr => ∃ (j y : Nat), j ≤ 8 ∧ Hid (y = 4 * j) ∧ i = .int .i64 (j : Int) ∧ wr.ownsRow w1.heap.size 5 1 v y (cells ((H.take j).flatMap bytesW)) ∧ Below w1.heap.size w1 wr) (fun _ _ i _ => 8 - (intOf i).toNat)
  case atStart => exact ⟨0, 0, by omega, rfl, rfl, ho2, b2⟩
  case round =>
    obtain ⟨j, y, hj, HY, rfl, hown8, hb8⟩ := hrel
    have hyx : y ≤ 32 := by have := HY.out; omega
    have hlen := HL8.out
    by_cases hlt8 : j < 8
    · obtain ⟨x, hx⟩ : ∃ x, x = H.getD j 0 := ⟨_, rfl⟩
      have hi := HI8.out j hlt8
      rw [← hx] at hi
      have HT8 : Hid ((H.take (j + 1)).flatMap bytesW = (H.take j).flatMap bytesW ++ bytesW x) := by
        show _ = _
        rw [List.take_succ_eq_append_getElem (by omega : j < H.length), List.flatMap_append, hx]
        simp [List.getD, List.getElem?_eq_getElem (by omega : j < H.length)]
      have hxl := w_lt x
      have HBC := Lib.hid (bytes_cells2 x)
      clear hx HI8
      have k1 : (j : Int) < 8 := by omega
      have k0 : (0 : Int) ≤ (j : Int) := by omega
      clear hlen
      go_wp2_with (at_builtin; refine append_many rfl (.tmp 11) (.tmp 23) rfl y (bytesW x) _ 4 rfl hown8 hb8 (Nat.le_refl _) HBC.out rfl rfl (by omega) ?_; intro v9 w9 ho9 hb9; rw [← HT8.out] at ho9; clear hown8 hb8)
      refine ⟨⟨j + 1, y + 4, by omega, by show _ = _; rw [HY.out]; omega, by go_num, ho9, hb9⟩, ?_⟩
      simp [intOf]; omega
    · have hfin : (H.take j).flatMap bytesW = H.flatMap bytesW := by rw [List.take_of_length_le (by omega)]
      rw [hfin] at hown8
      have hlen : (H.flatMap bytesW).length = y := by have := hown8.1; rw [cells_length] at this; omega
      obtain ⟨A8, c8, rfl⟩ := own_form hown8
      have hfr : RB wr wr.heap.size A8 (H.flatMap bytesW) := by refine Reads.of_own (base := w1.heap.size) (e := 5) (c := c8) ?_; rw [hlen]; exact hown8
      have est := aw_str hfr y c8 hlen.symm
      clear hfin hlen hown8 hfr HI8 HL8 ho2 b2
      go_wp2
      go_ret
      exact ⟨rfl, b1.trans (hb8.mono b1.size)⟩
end
section
open Go.RowKit
theorem equalS_any (Ls Ms : List Bs) (A C : Option Addr) (n c m d B : Nat) (w : World) (HN : Hid (n = Ls.length)) (HM : Hid (m = Ms.length)) (hr : SS w B A Ls) (hr2 : SS w B C Ms) (hn : n ≤ 1000) (hm : m ≤ 1000) :
    Calls Tryd.prog 33 #[.slice A n c, .slice C m d] w fun e w' => e = .returned (.bool (decide (Ls = Ms))) ∧ Below w.heap.size w w' := by
  have HR : Hid (0 < Ls.length → ∃ b off, A = some ⟨b, off, none⟩ ∧ b < B ∧ ∀ k, k < Ls.length → w.cell? ⟨b, off + k, none⟩ = some (.string (text (Ls.getD k [])))) := fun h => hr.at_ h
  have HR2 : Hid (0 < Ms.length → ∃ b off, C = some ⟨b, off, none⟩ ∧ b < B ∧ ∀ k, k < Ms.length → w.cell? ⟨b, off + k, none⟩ = some (.string (text (Ms.getD k [])))) := fun h => hr2.at_ h
  clear hr hr2
  by_cases hnm : n = m
  · subst hnm
    go_enter Tryd.func33, Tryd.ntmps33
    go_wp2
    go_loopw [13] (fun i wr => ∃ k : Nat, k ≤ n ∧ i = .int .i64 (k : Int) ∧ Hid (∀ j, j < k → Ls.getD j [] = Ms.getD j []) ∧ Hid (∀ p, wr.cell? p = w.cell? p) ∧ Below w.heap.size w wr) (fun i _ => n - (intOf i).toNat)
    case atStart => exact ⟨0, by omega, rfl, by intro j hj; omega, fun _ => rfl, Below.refl _ _⟩
    case round =>
      obtain ⟨k, hk, rfl, HF, hw, hb⟩ := hrel
      by_cases hlt : k < n
      · have hkL : k < Ls.length := by have := HN.out; omega
        have hkM : k < Ms.length := by have := HM.out; omega
        obtain ⟨b, off, rfl, _, hc⟩ := HR.out (by omega)
        obtain ⟨b2, off2, rfl, _, hc2⟩ := HR2.out (by omega)
        obtain ⟨s, hs⟩ : ∃ s, s = text (Ls.getD k []) := ⟨_, rfl⟩
        obtain ⟨t, ht⟩ : ∃ t, t = text (Ms.getD k []) := ⟨_, rfl⟩
        have hck := hc k hkL
        have hck2 := hc2 k hkM
        rw [← hs, ← hw.out] at hck
        rw [← ht, ← hw.out] at hck2
        have u0 : (0 : Int) ≤ (k : Int) := by omega
        have u1 : (k : Int) < (n : Int) := by omega
        by_cases he : Ls.getD k [] = Ms.getD k []
        · have heq : (s.toList == t.toList) = true := by rw [hs, ht, text_eq]; exact decide_eq_true he
          have HH : Hid (∀ j, j < k + 1 → Ls.getD j [] = Ms.getD j []) := fun j hj => by
            rcases Nat.lt_or_ge j k with h | h
            · exact HF.out j h
            · rw [show j = k by omega]; exact he
          clear hs ht hc hc2 HR HR2 he HF hkL hkM
          go_wp2
          go_quiet (fail)
          go_wp2
          refine ⟨⟨k + 1, by omega, by go_num, HH, fun p => hw.out p, ⟨hb.os, hb.tape, hb.output, hb.size, hb.block⟩⟩, ?_⟩
          simp [intOf]; omega
        · have heq : (s.toList == t.toList) = false := by rw [hs, ht, text_eq]; exact decide_eq_false he
          have HH : Hid (decide (Ls = Ms) = false) := by
            show _ = _
            exact decide_eq_false fun e => he (by rw [e])
          clear hs ht hc hc2 HR HR2 he HF hkL hkM
          go_wp2
          go_quiet (fail)
          go_wp2
          go_ret
          exact ⟨by rw [HH.out]; rfl, ⟨hb.os, hb.tape, hb.output, hb.size, hb.block⟩⟩
      · have HH : Hid (decide (Ls = Ms) = true) := by
          show _ = _
          refine decide_eq_true (List.ext_getElem (by have := HN.out; have := HM.out; omega) fun j h1 h2 => ?_)
          have := HF.out j (by have := HN.out; omega)
          rw [List.getD, List.getElem?_eq_getElem h1, List.getD, List.getElem?_eq_getElem h2] at this
          exact this
        clear HF HR HR2
        go_wp2
        go_ret
        exact ⟨by rw [HH.out]; rfl, hb⟩
  · have hne : (n : Int) ≠ (m : Int) := by omega
    have HH : Hid (decide (Ls = Ms) = false) := by
      show _ = _
      exact decide_eq_false fun e => hnm (by rw [HN.out, HM.out, e])
    go_enter Tryd.func33, Tryd.ntmps33
    go_wp2
    go_ret
    exact ⟨by rw [HH.out]; rfl, Below.refl _ _⟩
end
end Go.Proofs.YtinphkflfdpaeaaDoor
