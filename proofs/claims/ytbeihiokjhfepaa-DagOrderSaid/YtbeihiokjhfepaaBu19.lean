/- Lemmas under the proofs of this place: DagPTold. No statement is proved here. -/
import Derived.Test.YtbeihiokjhfepaaBu16
import Derived.Test.YtbeihiokjhfepaaBu13
import Derived.Test.YtbeihiokjhfepaaBu11
import Derived.Shelf.Abstract
set_option linter.unusedSimpArgs false
set_option linter.unusedVariables false
set_option maxRecDepth 100000
set_option maxHeartbeats 16000000
namespace Go.Proofs.Ytbeihiokjhfepaa
open Go.RowKit
def GivesOwnI (l : List Nat) (w : World) (e : Ending) (w' : World) : Prop := ∃ A c, e = .returned (.slice A l.length c) ∧ Hid (w'.ownsRow w.heap.size 3 1 (.slice A l.length c) l.length (icells l)) ∧ Hid (Below w.heap.size w w')
def GivesOwnS (l : List Bs) (w : World) (e : Ending) (w' : World) : Prop := ∃ A c, e = .returned (.slice A l.length c) ∧ Hid (w'.ownsRow w.heap.size 9 1 (.slice A l.length c) l.length (scells l)) ∧ Hid (Below w.heap.size w w')
theorem found_take (g : Gr) (l : List Bs) {k : Nat} (hk : k < l.length) : foundL g (l.take (k + 1)) = foundL g (l.take k) ++ if hasG g (l.getD k []) = true then [idxG g (l.getD k [])] else [] := by
  unfold foundL
  have e : l.getD k [] = l[k] := by rw [List.getD, List.getElem?_eq_getElem hk]; rfl
  rw [List.take_succ_eq_append_getElem hk, List.filter_append, List.map_append, ← e]
  congr 1
  generalize l.getD k [] = x
  cases h : hasG g x <;> simp [h]
theorem toldL_take (g : Gr) (l : List Nat) {k : Nat} (hk : k < l.length) : toldL g (l.take (k + 1)) = toldL g (l.take k) ++ [idAt g (l.getD k 0)] := by
  unfold toldL
  have e : l.getD k 0 = l[k] := by rw [List.getD, List.getElem?_eq_getElem hk]; rfl
  rw [List.take_succ_eq_append_getElem hk, List.map_append, ← e]
  rfl
theorem found_any {w : World} {p n c : Nat} {g : Gr} {A : Option Addr} {mv : Value} (h : PV w p g A n c mv) (l : List Bs) (X : Option Addr) (m d : Nat) (hm : m = l.length) (hs : SS w w.heap.size X l) (hl : m ≤ 1000) :
    Calls Try.prog 39 #[.pointer (some ⟨p, 0, none⟩), .slice X m d] w (GivesOwnI (foundL g l) w) := by
  have HR : Hid (0 < l.length → ∃ b off, X = some ⟨b, off, none⟩ ∧ b < w.heap.size ∧ ∀ k, k < l.length → w.cell? ⟨b, off + k, none⟩ = some (.string (text (l.getD k [])))) := fun hh => hs.at_ hh
  have HP : Hid (∀ W, Below w.heap.size w W → ∀ x, Calls Try.prog 49 #[.pointer (some ⟨p, 0, none⟩), .string (text x)] W fun e w' => e = .returned (.tuple #[.int .i64 (plN g x : Int), .bool (hasG g x)]) ∧ Below W.heap.size W w') := fun W hb x => place_any (h.up hb) x
  have HM := Lib.hid hm
  clear h hs hm
  go_enter Try.func39, Try.ntmps39
  go_wp2
  go_loopw [5, 7, 8, 9, 12] (fun v v7 v8 v9 i wr => ∃ (k y : Nat) (Y : Option Addr) (cc : Nat), k ≤ m ∧ v = .slice Y y cc ∧ i = .int .i64 (k : Int) ∧ y ≤ k ∧ Hid (wr.ownsRow w.heap.size 3 1 (.slice Y y cc) y (icells (foundL g (l.take k)))) ∧ Hid (Below w.heap.size w wr)) (fun _ _ _ _ i _ => m - (intOf i).toNat)
  case atStart => exact ⟨0, 0, none, 0, Nat.zero_le _, rfl, rfl, Nat.zero_le _, World.ownsRow_nil _ _ _ _, Below.refl _ _⟩
  case round =>
    obtain ⟨k, y, Y, cc, hk, rfl, rfl, hy, HO, HB⟩ := hrel
    by_cases hlt : k < m
    · have hkl : k < l.length := by have := HM.out; omega
      have u0 : (0 : Int) ≤ (k : Int) := by omega
      have u1 : (k : Int) < (m : Int) := by omega
      obtain ⟨b, off, rfl, hb, hc⟩ := HR.out (by omega)
      have c0 := hc k hkl
      rw [← HB.out.cell (p := ⟨b, off + k, none⟩) hb] at c0
      have HF := Lib.hid (found_take g l hkl)
      obtain ⟨x, hx⟩ : ∃ x, x = l.getD k [] := ⟨_, rfl⟩
      rw [← hx] at c0 HF
      have HPx := Lib.hid (HP.out wr HB.out x)
      obtain ⟨t, ht⟩ : ∃ t, t = text x := ⟨_, rfl⟩
      rw [← ht] at c0 HPx
      have HZ := HB.out.size
      by_cases hh : hasG g x = true
      · have hpl : plN g x = idxG g x := plN_in (hasG_iff.1 hh)
        rw [if_pos hh] at HF
        rw [hpl, hh] at HPx
        obtain ⟨z, hz⟩ : ∃ z, z = idxG g x := ⟨_, rfl⟩
        rw [← hz] at HF HPx
        clear hz hpl hh hx ht hc hb hkl HR HP
        go_wp2_with (first
          | (go_at_call 49; (with_reducible refine HPx.out.mono ?_); rintro e w1 ⟨rfl, b1⟩; have HO1 := Lib.hid (iown_kept HO.out b1); have HB1 := Lib.hid (below16 HB.out b1); have HZ1 := HB1.out.size)
          | (at_builtin; refine append_ione rfl (.tmp 23) (.tmp 25) rfl rfl HO1.out rfl rfl (by omega) HZ1 ?_; intro X7 cc7 w7 ho7 hb7))
        go_roundw
        case rel => exact ⟨k + 1, y + 1, X7, cc7, by omega, rfl, by go_num, by omega, by rw [HF.out]; exact ho7.out, HB1.out.trans hb7.out⟩
        case measure => simp [intOf]; omega
      · have hf : hasG g x = false := by simpa using hh
        rw [if_neg hh, List.append_nil] at HF
        rw [hf] at HPx
        obtain ⟨z, hz⟩ : ∃ z, z = plN g x := ⟨_, rfl⟩
        rw [← hz] at HPx
        clear hz hh hf hx ht hc hb hkl HR HP
        go_wp2_with (go_at_call 49; (with_reducible refine HPx.out.mono ?_); rintro e w1 ⟨rfl, b1⟩; have HO1 := Lib.hid (iown_kept HO.out b1); have HB1 := Lib.hid (below16 HB.out b1))
        go_roundw
        case rel => exact ⟨k + 1, y, Y, cc, by omega, rfl, by go_num, by omega, by rw [HF.out]; exact HO1.out, HB1.out⟩
        case measure => simp [intOf]; omega
    · have hkm : k = m := by omega
      subst hkm
      have HE : Hid (foundL g (l.take k) = foundL g l) := by show _ = _; rw [HM.out, List.take_length]
      rw [HE.out] at HO
      have hyl : y = (foundL g l).length := by
        have h1 := HO.out.1
        rw [icells_length] at h1
        omega
      have HY := Lib.hid hyl
      clear hyl HR HP
      go_wp2
      go_ret
      refine ⟨Y, cc, by rw [← HY.out]; rfl, ?_, HB⟩
      have h1 := HO.out
      rw [HY.out] at h1
      exact h1
theorem node_at {w : World} {p n c : Nat} {g : Gr} {A : Option Addr} {mv : Value} (h : PV w p g A n c mv) {i : Nat} (hi : i < g.length) (W : World) (hb : Below w.heap.size w W) : ∃ b off, A = some ⟨b, off, none⟩ ∧ W.cell? ⟨p, 0, none⟩ = some (.slice (some ⟨b, off, none⟩) n c) ∧ NA W b (off + i * 4) g i ∧ i < n := by
  obtain ⟨b, off, e, _, hc⟩ := (h.up hb).one hi
  exact ⟨b, off, e, by rw [← e]; exact (h.up hb).c0, hc, by rw [h.len]; exact hi⟩
theorem told_any {w : World} {p n c : Nat} {g : Gr} {A : Option Addr} {mv : Value} (h : PV w p g A n c mv) (l : List Nat) (X : Option Addr) (m d : Nat) (hm : m = l.length) (hs : NS w w.heap.size X l) (hj : ∀ j ∈ l, j < g.length) (hl : m ≤ 5000) :
    Calls Try.prog 58 #[.pointer (some ⟨p, 0, none⟩), .slice X m d] w (GivesOwnS (toldL g l) w) := by
  have HR : Hid (0 < l.length → ∃ b off, X = some ⟨b, off, none⟩ ∧ b < w.heap.size ∧ ∀ k, k < l.length → w.cell? ⟨b, off + k, none⟩ = some (.int .i64 (l.getD k 0 : Nat))) := fun hh => hs.at_ hh
  have HN : Hid (∀ i, i < g.length → ∀ W, Below w.heap.size w W → ∃ b off, A = some ⟨b, off, none⟩ ∧ W.cell? ⟨p, 0, none⟩ = some (.slice (some ⟨b, off, none⟩) n c) ∧ NA W b (off + i * 4) g i ∧ i < n) := fun i hi W hb => node_at h hi W hb
  have HJ : Hid (∀ k, k < l.length → l.getD k 0 < g.length) := fun k hk => hj _ (by rw [List.getD, List.getElem?_eq_getElem hk]; exact List.getElem_mem hk)
  have HM := Lib.hid hm
  clear h hs hm hj
  go_enter Try.func58, Try.ntmps58
  go_wp2
  go_loopw [5, 7, 10] (fun v v7 i wr => ∃ (k : Nat) (Y : Option Addr) (cc : Nat), k ≤ m ∧ v = .slice Y k cc ∧ i = .int .i64 (k : Int) ∧ Hid (wr.ownsRow w.heap.size 9 1 (.slice Y k cc) k (scells (toldL g (l.take k)))) ∧ Hid (Below w.heap.size w wr)) (fun _ _ i _ => m - (intOf i).toNat)
  case atStart => exact ⟨0, none, 0, Nat.zero_le _, rfl, rfl, World.ownsRow_nil _ _ _ _, Below.refl _ _⟩
  case round =>
    obtain ⟨k, Y, cc, hk, rfl, rfl, HO, HB⟩ := hrel
    by_cases hlt : k < m
    · have hkl : k < l.length := by have := HM.out; omega
      have u0 : (0 : Int) ≤ (k : Int) := by omega
      have u1 : (k : Int) < (m : Int) := by omega
      obtain ⟨b, off, rfl, hb, hc⟩ := HR.out (by omega)
      have cl := hc k hkl
      rw [← HB.out.cell (p := ⟨b, off + k, none⟩) hb] at cl
      have HF := Lib.hid (toldL_take g l hkl)
      have hjl := HJ.out k hkl
      obtain ⟨i, hi⟩ : ∃ i, i = l.getD k 0 := ⟨_, rfl⟩
      rw [← hi] at cl HF hjl
      obtain ⟨nb, noff, rfl, c0, ⟨cs, -, -, -⟩, hin⟩ := HN.out i hjl wr HB.out
      have u2 : (0 : Int) ≤ (i : Int) := by omega
      have u3 : (i : Int) < (n : Int) := by omega
      obtain ⟨x, hx⟩ : ∃ x, x = idAt g i := ⟨_, rfl⟩
      rw [← hx] at cs HF
      obtain ⟨t, ht⟩ : ∃ t, t = text x := ⟨_, rfl⟩
      rw [← ht] at cs
      have HT := Lib.hid ht
      have HZ := HB.out.size
      clear ht hx hi hjl hc hb hkl HR HN HJ hin
      go_wp2_with (at_builtin; refine append_sone rfl (.tmp 14) (.tmp 23) rfl rfl HO.out HT.out rfl (by omega) HZ ?_; intro X7 cc7 w7 ho7 hb7)
      go_roundw
      case rel => exact ⟨k + 1, X7, cc7, by omega, rfl, by go_num, by rw [HF.out]; exact ho7.out, HB.out.trans hb7.out⟩
      case measure => simp [intOf]; omega
    · have hkm : k = m := by omega
      subst hkm
      have HE : Hid (toldL g (l.take k) = toldL g l) := by show _ = _; rw [HM.out, List.take_length]
      rw [HE.out] at HO
      have HY : Hid (k = (toldL g l).length) := by show _ = _; rw [toldL_length]; exact HM.out
      clear HR HN
      go_wp2
      go_ret
      refine ⟨Y, cc, by rw [← HY.out]; rfl, ?_, HB⟩
      have h1 := HO.out
      rw [HY.out] at h1
      exact h1
theorem filter_succ (p : Nat → Bool) (k : Nat) : (List.range (k + 1)).filter p = (List.range k).filter p ++ if p k = true then [k] else [] := by
  rw [List.range_succ, List.filter_append]
  congr 1
  cases h : p k <;> simp [h]
theorem chosen_any {w : World} {p n c : Nat} {g : Gr} {A : Option Addr} {mv : Value} (h : PV w p g A n c mv) (hl : g.length ≤ 5000) (f : Nat) (cb : Array Value) (want : Nat → Bool)
    (eg : ∀ args w, (callFunc f args).run Try.prog w = .ok (.enter f args) w) (hw : ∀ i, i < g.length → ∀ W, Below w.heap.size w W → Calls Try.prog f (#[.int .i64 (i : Int)] ++ cb) W fun e w' => e = .returned (.bool (want i)) ∧ Below W.heap.size W w') :
    Calls Try.prog 45 #[.pointer (some ⟨p, 0, none⟩), .func (.func f) #[] cb] w (GivesOwnI ((List.range g.length).filter want) w) := by
  have c0 := h.c0
  have HL := Lib.hid h.len
  have hn : n ≤ 5000 := by rw [h.len]; exact hl
  have HW : Hid (∀ i, i < n → ∀ W, Below w.heap.size w W → Calls Try.prog f (#[.int .i64 (i : Int)] ++ cb) W fun e w' => e = .returned (.bool (want i)) ∧ Below W.heap.size W w') := fun i hi => hw i (by rw [← h.len]; exact hi)
  clear h hl hw
  go_enter Try.func45, Try.ntmps45
  go_wp2
  go_loopw [5, 6, 12] (fun v v6 i wr => ∃ (k y : Nat) (Y : Option Addr) (cc : Nat), k ≤ n ∧ v = .slice Y y cc ∧ i = .int .i64 (k : Int) ∧ y ≤ k ∧ Hid (wr.ownsRow w.heap.size 3 1 (.slice Y y cc) y (icells ((List.range k).filter want))) ∧ Hid (Below w.heap.size w wr)) (fun _ _ i _ => n - (intOf i).toNat)
  case atStart => exact ⟨0, 0, none, 0, Nat.zero_le _, rfl, rfl, Nat.zero_le _, World.ownsRow_nil _ _ _ _, Below.refl _ _⟩
  case round =>
    obtain ⟨k, y, Y, cc, hk, rfl, rfl, hy, HO, HB⟩ := hrel
    by_cases hlt : k < n
    · have u0 : (0 : Int) ≤ (k : Int) := by omega
      have u1 : (k : Int) < (n : Int) := by omega
      have HF := Lib.hid (filter_succ want k)
      have HPx := Lib.hid (HW.out k hlt wr HB.out)
      have HZ := HB.out.size
      cases hh : want k with
      | true =>
        rw [if_pos hh] at HF
        rw [hh] at HPx
        clear hh HW c0
        go_wp2_with (first
          | (go_at_fn f; (with_reducible refine HPx.out.mono ?_); rintro e w1 ⟨rfl, b1⟩; have HO1 := Lib.hid (iown_kept HO.out b1); have HB1 := Lib.hid (below16 HB.out b1); have HZ1 := HB1.out.size)
          | (at_builtin; refine append_ione rfl (.tmp 18) (.tmp 20) rfl rfl HO1.out rfl rfl (by omega) HZ1 ?_; intro X7 cc7 w7 ho7 hb7))
        go_roundw
        case rel => exact ⟨k + 1, y + 1, X7, cc7, by omega, rfl, by go_num, by omega, by rw [HF.out]; exact ho7.out, HB1.out.trans hb7.out⟩
        case measure => simp [intOf]; omega
      | false =>
        rw [if_neg (by rw [hh]; decide), List.append_nil] at HF
        rw [hh] at HPx
        clear hh HW c0
        go_wp2_with (go_at_fn f; (with_reducible refine HPx.out.mono ?_); rintro e w1 ⟨rfl, b1⟩; have HO1 := Lib.hid (iown_kept HO.out b1); have HB1 := Lib.hid (below16 HB.out b1))
        go_roundw
        case rel => exact ⟨k + 1, y, Y, cc, by omega, rfl, by go_num, by omega, by rw [HF.out]; exact HO1.out, HB1.out⟩
        case measure => simp [intOf]; omega
    · have hkm : k = n := by omega
      subst hkm
      rw [HL.out] at HO
      have hyl : y = ((List.range g.length).filter want).length := by
        have h1 := HO.out.1
        rw [icells_length] at h1
        omega
      have HY := Lib.hid hyl
      clear hyl HW
      go_wp2
      go_ret
      refine ⟨Y, cc, by rw [← HY.out]; rfl, ?_, HB⟩
      have h1 := HO.out
      rw [HY.out] at h1
      exact h1
end Go.Proofs.Ytbeihiokjhfepaa
