/- The walks of the program's text, Begin and Size (layer 3). -/
import Derived.Test.YtmmilgjdngdnfaaDoorShaPHash
import Derived.Test.YtmmilgjdngdnfaaDoorShaRID
set_option linter.unusedVariables false
namespace Go.Proofs.YtmmilgjdngdnfaaDoor
open Go.RowKit

/-- 'append(b, four bytes)' at the call, the bytes in a new block of their own. -/
theorem append_many {ops : Array Oper} {rest : List Oper} {o : Oper} {a : Act} {Q : Exit → Act → World → Prop} (hgd : o.guard = none) (s x : Operand)
    (ho : o.op = .call { callee := .builtin .append, args := #[s, x], argTypes := #[39, 39] })
    {B : Nat} {w0 wr : World} {v : Value} {P : List UInt8} (y : Nat) (cs : List UInt8) (Z : Array Value) (m : Nat) (hs : a.eval s = v) (hown : wr.ownsRow B 5 1 v y (cells P)) (hb : Below B w0 wr) (hB : B ≤ w0.heap.size)
    (hz : Z = (cells cs).toArray) (hm : m = cs.length) (hx : a.eval x = .slice (some ⟨wr.heap.size, 0, none⟩) m m) (hlen : y + m ≤ 1048576)
    (h : ∀ v' w1, w1.ownsRow B 5 1 v' (y + m) (cells (P ++ cs)) → Below B w0 w1 → wpList Tryd.prog ops Q rest (a.put o.dst v') w1) :
    wpList Tryd.prog ops Q (o :: rest) a (wr.alloc (.cells Z 5)) := by
  obtain ⟨i0, hi0, hz0, hz1, hz2⟩ := info_parts Tryd.info5
  subst hz hm
  refine wpList_append_own _ hgd s x 39 ho B 5 i0 _ 1 1 Tryd.underlying39 hi0 hz0 hz1 hz2 rfl (by decide) v y (cells P) hs (hown.alloc _) ⟨wr.heap.size, 0, none⟩ cs.length cs.length (cells cs) hx (by rw [cells_length]; omega)
    (fun j u hu => by
      have hj : 0 < cs.length := by have := (List.getElem?_eq_some_iff.1 hu).1; rw [cells_length] at this; omega
      obtain ⟨ad, e, _, hc⟩ := (rb_new wr cs).2 hj
      injection e with e
      subst e
      exact hc j u hu) (cells_one _)
    (by unfold maxLen; omega) (by omega) (by have := hb.size; simp; omega) ?_
  intro v' w1 hown' hgrow _
  refine h v' w1 (by rw [cells_append]; exact hown') ?_
  exact ((hb.alloc (Nat.le_trans hB hb.size) _)).grown hgrow (by have := hb.size; simp; omega) (fun k hk => (hown.lt k hk).1)

theorem bytes_cells2 (x : UInt32) : (#[.int .u8 ((x.toNat : Int) / 16777216), .int .u8 ((x.toNat : Int) / 65536 % 256), .int .u8 ((x.toNat : Int) / 256 % 256), .int .u8 ((x.toNat : Int) % 256)] : Array Value) = (cells (bytesW x)).toArray := by
  have hx := w_lt x
  have h := bytes_cells x
  simp only [IntKind.wrap_u8'] at h
  rwa [Int.emod_eq_of_lt (by omega) (by omega : (x.toNat : Int) / 16777216 < 256)] at h

set_option maxRecDepth 100000 in
set_option maxHeartbeats 1000000 in
theorem text_any (H : List UInt32) (w : World) (hH : H.length = 8) :
    Calls Tryd.prog 47 #[.agg (wcells H).toArray] w fun e w' => e = .returned (.string (text (H.flatMap bytesW))) ∧ Below w.heap.size w w' := by
  obtain ⟨i0, hi0, hz0, hz1, hz2⟩ := info_parts Tryd.info5
  have hby : i0.bytes = 1 := hz2
  obtain ⟨RA, hRA⟩ : ∃ RA : Array Value, RA = (wcells H).toArray := ⟨_, rfl⟩
  have sR : RA.size = 8 := by rw [hRA]; simp [wcells_length, hH]
  have HI8 : Hid (∀ n : Nat, n < 8 → ∀ V, (Instr.index 52 (.agg RA) (.int .i64 (n : Int))).run Tryd.prog V = .ok (.int .u32 ((H.getD n 0).toNat : Int)) V) :=
    fun n hn V => by rw [hRA]; exact run_index_row Tryd.underlying52 Tryd.sha4 (fun d h => by rw [Tryd.underlying51] at h; injection h with h; subst h; rfl) (by rw [Tryd.underlying51]; rfl) rfl hn (wcells_at H (by omega))
  have HL8 := Lib.hid hH
  rw [← hRA]
  clear hRA hH
  go_enter Tryd.func47, Tryd.ntmps47
  go_wp2_with (first
    | (refine wpList_box_letter rfl 52 _ rfl (some 1) rfl RA rfl ?_; intro g1 w1 hw1 hg1)
    | (at_make; refine wpList_make_own _ rfl _ _ 39 rfl w1.heap.size 5 i0 _ 1 Tryd.underlying39 hi0 hz0 hz1 .i64 .i64 _ 32 rfl rfl (by omega) (by rw [hby]; omega) (by unfold maxLen; omega) (Nat.le_refl _) ?_; intro w2 ho2 hg2)
    | (refine wpList_load_row rfl 52 _ rfl g1 rfl _ _ _ _ ((letter_blk hw1 hg1).below ((Below.refl w1.heap.size w1).grown hg2 (Nat.le_refl _) (by simp)) (letter_blk hw1 hg1).lt) Tryd.underlying52 rfl (by rw [sR]; exact Tryd.shaSs) ?_))
  have b1 : Below w.heap.size w w1 := letter_below hw1 (Below.refl _ _) (Nat.le_refl _)
  have b2 : Below w1.heap.size w1 w2 := (Below.refl _ _).grown hg2 (Nat.le_refl _) (by simp)
  obtain ⟨v2, hv2⟩ : ∃ v2, v2 = Value.slice (some ⟨w1.heap.size, 0, none⟩) 0 32 := ⟨_, rfl⟩
  rw [← hv2] at ho2 ⊢
  clear hw1 hg1 hg2 hv2
  go_loopw [3, 5, 8] (fun v x5 i wr => ∃ (j y : Nat), j ≤ 8 ∧ Hid (y = 4 * j) ∧ i = .int .i64 (j : Int) ∧ wr.ownsRow w1.heap.size 5 1 v y (cells ((H.take j).flatMap bytesW)) ∧ Below w1.heap.size w1 wr) (fun _ _ i _ => 8 - (intOf i).toNat)
  case atStart => exact ⟨0, 0, by omega, rfl, rfl, ho2, b2⟩
  case round =>
    obtain ⟨j, y, hj, HY, rfl, hown8, hb8⟩ := hrel
    have hyx : y ≤ 32 := by have := HY.out; omega
    have hlen := HL8.out
    by_cases hlt8 : j < 8
    · obtain ⟨x, hx⟩ : ∃ x, x = H.getD j 0 := ⟨_, rfl⟩
      have hi := HI8.out j hlt8
      rw [← hx] at hi
      have HT8 : Hid ((H.take (j + 1)).flatMap bytesW = (H.take j).flatMap bytesW ++ bytesW x) := by
        show _ = _
        rw [List.take_succ_eq_append_getElem (by omega : j < H.length), List.flatMap_append, hx]
        simp [List.getD, List.getElem?_eq_getElem (by omega : j < H.length)]
      have hxl := w_lt x
      have HBC := Lib.hid (bytes_cells2 x)
      clear hx HI8
      have k1 : (j : Int) < 8 := by omega
      have k0 : (0 : Int) ≤ (j : Int) := by omega
      clear hlen
      go_wp2_with (at_builtin; refine append_many rfl (.tmp 11) (.tmp 23) rfl y (bytesW x) _ 4 rfl hown8 hb8 (Nat.le_refl _) HBC.out rfl rfl (by omega) ?_; intro v9 w9 ho9 hb9; rw [← HT8.out] at ho9; clear hown8 hb8)
      refine ⟨⟨j + 1, y + 4, by omega, by show _ = _; rw [HY.out]; omega, by go_num, ho9, hb9⟩, ?_⟩
      simp [intOf]; omega
    · have hfin : (H.take j).flatMap bytesW = H.flatMap bytesW := by rw [List.take_of_length_le (by omega)]
      rw [hfin] at hown8
      have hlen : (H.flatMap bytesW).length = y := by have := hown8.1; rw [cells_length] at this; omega
      obtain ⟨A8, c8, rfl⟩ := own_form hown8
      have hfr : RB wr wr.heap.size A8 (H.flatMap bytesW) := by refine Reads.of_own (base := w1.heap.size) (e := 5) (c := c8) ?_; rw [hlen]; exact hown8
      have est := aw_str hfr y c8 hlen.symm
      clear hfin hlen hown8 hfr HI8 HL8 ho2 b2
      go_wp2
      go_ret
      exact ⟨rfl, b1.trans (hb8.mono b1.size)⟩

end Go.Proofs.YtmmilgjdngdnfaaDoor
