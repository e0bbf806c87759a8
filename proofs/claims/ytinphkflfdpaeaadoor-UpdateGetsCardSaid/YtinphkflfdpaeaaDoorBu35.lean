/- Lemmas under the proofs of this place: UpItemM, UpLarge. No statement is proved here. -/
import Derived.Test.YtinphkflfdpaeaaDoorBu33
import Derived.Test.YtinphkflfdpaeaaDoorBu00
import Derived.Deep.RegionHeld
set_option linter.unusedSimpArgs false
set_option linter.unusedVariables false
set_option maxRecDepth 100000
set_option maxHeartbeats 16000000
namespace Go.Proofs.YtinphkflfdpaeaaDoor
section
open Go.RowKit
theorem Tryd.itemAgg (w : World) : (isAgg 36).run Tryd.prog w = .ok true w := by kernel_rfl
theorem Tryd.itemSize (w : World) : (sizeOf 36).run Tryd.prog w = .ok 2 w := by kernel_rfl
theorem Tryd.itemZero (w : World) : Sem.run Tryd.prog (Instr.build 36 #[]) w = .ok (.agg #[.string { data := #[] }, .slice none 0 0]) w := by kernel_rfl
theorem item_end {w W E : World} {R : Nat} {a0 a1 v0 v1 : Value} (hb : Below w.heap.size w W) (K : Blk W R 36 #[a0, a1]) (hR : w.heap.size ≤ R) (hE : E = (W.setCell ⟨R, 0, none⟩ v0).setCell ⟨R, 1, none⟩ v1) :
    (E.cell? ⟨R, 0, none⟩ = some v0 ∧ E.cell? ⟨R, 1, none⟩ = some v1) ∧ Below w.heap.size w E := by
  have K' := (K.set_ 0 v0).set_ 1 v1
  have s : ∀ (V : World) (i : Nat) (u : Value), Below w.heap.size w V → Below w.heap.size w (V.setCell ⟨R, i, none⟩ u) := fun V i u hv =>
    hv.trans ⟨rfl, rfl, rfl, by simp [World.setCell], fun k hk => Below.heap_setCell V ⟨R, i, none⟩ u k (fun e => by have e2 : k = R := e; omega)⟩
  have hb' := s _ 1 v1 (s _ 0 v0 hb)
  rw [← hE] at K' hb'
  exact ⟨⟨K'.cell 0, K'.cell 1⟩, hb'⟩
theorem rb_item {W : World} {R : Nat} {A : Option Addr} {L : List UInt8} {v0 v1 : Value} (hr : RB W W.heap.size A L) (hA : ∀ ad, A = some ad → ad.block ≠ R) : RB ((W.setCell ⟨R, 0, none⟩ v0).setCell ⟨R, 1, none⟩ v1) ((W.setCell ⟨R, 0, none⟩ v0).setCell ⟨R, 1, none⟩ v1).heap.size A L := by
  refine ⟨hr.1, fun h0 => ?_⟩
  obtain ⟨ad, e, hlt, hc⟩ := hr.2 h0
  refine ⟨ad, e, by simpa [World.setCell] using hlt, fun j u hu => ?_⟩
  have hne : (ad.add j).block ≠ R := by rw [block_of_add]; exact hA ad e
  have h1 := hc j u hu
  exact ((World.cell?_setCell_far _ ⟨R, 1, none⟩ _ v1 hne.symm).trans (World.cell?_setCell_far _ ⟨R, 0, none⟩ _ v0 hne.symm)).trans h1
def itemV (L : List UInt8) (A : Option Addr) (c : Nat) : Value := .agg #[.string (text (idL L)), .slice A L.length c]
def Upd.idw (u : Upd) : List UInt8 := if u.check = 0 then idL u.out else []
def ItemU (L : List UInt8) (w : World) (e : Ending) (w' : World) : Prop := ∃ A c, e = .returned (.agg #[.string (text (idL L)), .slice A L.length c]) ∧ Hid (RB w' w'.heap.size A L) ∧ Below w.heap.size w w'
def OfU (u : Upd) (w : World) (e : Ending) (w' : World) : Prop := ∃ A c, e = .returned (.tuple #[.agg #[.string (text u.idw), .slice A u.out.length c], .int .i64 u.check]) ∧ Hid (RB w' w'.heap.size A u.out) ∧ Below w.heap.size w w'
end
section
open Go.RowKit
def Upd.small (u : Upd) : Prop := u.preds.length ≤ 20 ∧ u.op.name.length ≤ 300 ∧ u.op.text.length ≤ 300 ∧ u.op.at_.length ≤ 300
def Upd.big (u : Upd) : Bool := decide (20 < u.preds.length) || decide (300 < u.op.name.length) || decide (300 < u.op.text.length) || decide (300 < u.op.at_.length) || u.preds.any (fun x => decide (100 < x.length))
theorem big_yes {u : Upd} (h : 20 < u.preds.length ∨ 300 < u.op.name.length ∨ 300 < u.op.text.length ∨ 300 < u.op.at_.length ∨ ∃ j, j < u.preds.length ∧ 100 < (u.preds.getD j []).length) : u.big = true := by
  unfold Upd.big
  simp only [Bool.or_eq_true, decide_eq_true_eq, List.any_eq_true]
  rcases h with h | h | h | h | ⟨j, hj, h⟩
  · exact .inl (.inl (.inl (.inl h)))
  · exact .inl (.inl (.inl (.inr h)))
  · exact .inl (.inl (.inr h))
  · exact .inl (.inr h)
  · refine .inr ⟨u.preds[j], List.getElem_mem hj, ?_⟩
    rwa [List.getD, List.getElem?_eq_getElem hj] at h
theorem big_no {u : Upd} (h0 : u.preds.length ≤ 20) (h1 : u.op.name.length ≤ 300) (h2 : u.op.text.length ≤ 300) (h3 : u.op.at_.length ≤ 300) (h4 : ∀ j, j < u.preds.length → (u.preds.getD j []).length ≤ 100) : u.big = false := by
  unfold Upd.big
  simp only [Bool.or_eq_false_iff, decide_eq_false_iff_not, List.any_eq_false, decide_eq_true_eq]
  refine ⟨⟨⟨⟨by omega, by omega⟩, by omega⟩, by omega⟩, fun x hx => ?_⟩
  obtain ⟨j, hj, rfl⟩ := List.mem_iff_getElem.1 hx
  have := h4 j hj
  rw [List.getD, List.getElem?_eq_getElem hj] at this
  exact Nat.not_lt.2 this
theorem big_small {u : Upd} (h : u.big = false) : u.small := by
  unfold Upd.big at h
  simp only [Bool.or_eq_false_iff, decide_eq_false_iff_not] at h
  obtain ⟨⟨⟨⟨h0, h1⟩, h2⟩, h3⟩, _⟩ := h
  exact ⟨by omega, by omega, by omega, by omega⟩
theorem uplarge_any (u : Upd) (A : Option Addr) (c B : Nat) (w : World) (hr : SS w B A u.preds) (hB : B ≤ w.heap.size) :
    Calls Tryd.prog 6 #[updV u A c] w fun e w' => e = .returned (.bool u.big) ∧ Below w.heap.size w w' := by
  obtain ⟨R, hR⟩ : ∃ R, R = u.big := ⟨_, rfl⟩
  have HT := Lib.hid (fun h => hR.trans (big_yes (u := u) h))
  have HF := Lib.hid (fun h0 h1 h2 h3 h4 => hR.trans (big_no (u := u) h0 h1 h2 h3 h4))
  rw [← hR]
  clear hR
  have HR : Hid (0 < u.preds.length → ∃ b off, A = some ⟨b, off, none⟩ ∧ b < B ∧ ∀ k, k < u.preds.length → w.cell? ⟨b, off + k, none⟩ = some (.string (text (u.preds.getD k [])))) := fun h => hr.at_ h
  obtain ⟨a, p, k, nm, tx, z, x⟩ := u
  obtain ⟨t1, h1⟩ : ∃ t, t = text nm := ⟨_, rfl⟩
  obtain ⟨t2, h2⟩ : ∃ t, t = text tx := ⟨_, rfl⟩
  obtain ⟨t3, h3⟩ : ∃ t, t = text x := ⟨_, rfl⟩
  obtain ⟨n, hnn⟩ : ∃ n, n = p.length := ⟨_, rfl⟩
  obtain ⟨n1, hn1⟩ : ∃ n, n = nm.length := ⟨_, rfl⟩
  obtain ⟨n2, hn2⟩ : ∃ n, n = tx.length := ⟨_, rfl⟩
  obtain ⟨n3, hn3⟩ : ∃ n, n = x.length := ⟨_, rfl⟩
  have s1 : t1.size = n1 := by rw [h1, hn1]; exact text_size nm
  have s2 : t2.size = n2 := by rw [h2, hn2]; exact text_size tx
  have s3 : t3.size = n3 := by rw [h3, hn3]; exact text_size x
  simp only at HR HT HF
  rw [← hnn] at HR
  rw [← hnn, ← hn1, ← hn2, ← hn3] at HT HF
  show Calls Tryd.prog 6 #[.agg #[.int .i64 a, .slice A p.length c, .int .i64 k, .string (text nm), .string (text tx), .int .i64 z, .string (text x)]] w _
  rw [← h1, ← h2, ← h3, ← hnn]
  clear h1 h2 h3 hnn hn1 hn2 hn3 hr
  have hb0 : Below w.heap.size w (w.alloc (.cells #[.int .i64 a, .slice A n c, .int .i64 k, .string t1, .string t2, .int .i64 z, .string t3] 26)) := (Below.refl _ _).alloc (Nat.le_refl _) _
  have hK := Lib.hid (Blk.new w 26 #[.int .i64 a, .slice A n c, .int .i64 k, .string t1, .string t2, .int .i64 z, .string t3])
  obtain ⟨kl, k0, k1, k2, k3, k4, k5, k6, kf⟩ := updC_of hK.out
  have HB0 := Lib.hid hb0
  clear hb0
  have HBig : Hid (∀ {w' : World}, R = true → Below w.heap.size w w' → Ending.returned (.bool true) = Ending.returned (.bool R) ∧ Below w.heap.size w w') := fun h hb => ⟨by rw [h], hb⟩
  by_cases c0 : 20 < n
  · have d0 : decide ((20 : Int) < (n : Int)) = true := decide_eq_true (by omega)
    have d0' : decide ((n : Int) > 20) = true := decide_eq_true (by omega)
    go_enter Tryd.func6, Tryd.ntmps6
    go_wp2_with (fail)
    (try go_ret)
    exact HBig.out (HT.out (.inl c0)) HB0.out
  · have d0 : decide ((20 : Int) < (n : Int)) = false := decide_eq_false (by omega)
    have d0' : decide ((n : Int) > 20) = false := decide_eq_false (by omega)
    by_cases c1 : 300 < n1
    · have d1 : decide ((300 : Int) < (n1 : Int)) = true := decide_eq_true (by omega)
      have d1' : decide ((n1 : Int) > 300) = true := decide_eq_true (by omega)
      go_enter Tryd.func6, Tryd.ntmps6
      go_wp2_with (fail)
      (try go_ret)
      exact HBig.out (HT.out (.inr (.inl c1))) HB0.out
    · have d1 : decide ((300 : Int) < (n1 : Int)) = false := decide_eq_false (by omega)
      have d1' : decide ((n1 : Int) > 300) = false := decide_eq_false (by omega)
      by_cases c2 : 300 < n2
      · have d2 : decide ((300 : Int) < (n2 : Int)) = true := decide_eq_true (by omega)
        have d2' : decide ((n2 : Int) > 300) = true := decide_eq_true (by omega)
        go_enter Tryd.func6, Tryd.ntmps6
        go_wp2_with (fail)
        (try go_ret)
        exact HBig.out (HT.out (.inr (.inr (.inl c2)))) HB0.out
      · have d2 : decide ((300 : Int) < (n2 : Int)) = false := decide_eq_false (by omega)
        have d2' : decide ((n2 : Int) > 300) = false := decide_eq_false (by omega)
        by_cases c3 : 300 < n3
        · have d3 : decide ((300 : Int) < (n3 : Int)) = true := decide_eq_true (by omega)
          have d3' : decide ((n3 : Int) > 300) = true := decide_eq_true (by omega)
          go_enter Tryd.func6, Tryd.ntmps6
          go_wp2_with (fail)
          (try go_ret)
          exact HBig.out (HT.out (.inr (.inr (.inr (.inl c3))))) HB0.out
        · have d3 : decide ((300 : Int) < (n3 : Int)) = false := decide_eq_false (by omega)
          have d3' : decide ((n3 : Int) > 300) = false := decide_eq_false (by omega)
          have HSm := Lib.hid (fun h => HF.out (by omega) (by omega) (by omega) (by omega) h)
          go_enter Tryd.func6, Tryd.ntmps6
          go_wp2_with (fail)
          go_loopw [3] (fun i wr => ∃ j : Nat, j ≤ n ∧ i = .int .i64 (j : Int) ∧ Hid (∀ i, i < j → (p.getD i []).length ≤ 100) ∧ Hid (Below (w.heap.size + 1) (w.alloc (.cells #[.int .i64 a, .slice A n c, .int .i64 k, .string t1, .string t2, .int .i64 z, .string t3] 26)) wr)) (fun i _ => n - (intOf i).toNat)
          case atStart => exact ⟨0, Nat.zero_le _, rfl, fun i hi => absurd hi (Nat.not_lt_zero _), Below.refl _ _⟩
          case round =>
            obtain ⟨j, hj, rfl, HJ, HW⟩ := hrel
            clear kl k0 k1 k2 k3 k4 k5 k6 kf
            have hKw := Lib.hid (hK.out.below HW.out (Nat.lt_succ_self _))
            obtain ⟨kl, k0, k1, k2, k3, k4, k5, k6, kf⟩ := updC_of hKw.out
            have HBw := Lib.hid (HB0.out.trans (HW.out.mono (Nat.le_succ _)))
            by_cases hlt : j < n
            · have e0 : decide ((j : Int) < (n : Int)) = true := decide_eq_true (by omega)
              obtain ⟨bk, off, rfl, hbB, hcs⟩ := HR.out (by omega)
              have hc := HBw.out.cell (p := ⟨bk, off + j, none⟩) (show bk < w.heap.size by omega)
              rw [hcs j hlt] at hc
              have HTj : Hid (100 < (p.getD j []).length → R = true) := fun h => HT.out (.inr (.inr (.inr (.inr ⟨j, hlt, h⟩))))
              have HJ1 : Hid ((p.getD j []).length ≤ 100 → ∀ i, i < j + 1 → (p.getD i []).length ≤ 100) := fun h i hi => by
                rcases Nat.lt_or_ge i j with h2 | h2
                · exact HJ.out i h2
                · rw [show i = j by omega]; exact h
              generalize p.getD j [] = L at hc HTj HJ1
              obtain ⟨t, ht⟩ : ∃ t, t = text L := ⟨_, rfl⟩
              obtain ⟨m, hm⟩ : ∃ m, m = L.length := ⟨_, rfl⟩
              have sm : t.size = m := by rw [ht, hm]; exact text_size L
              rw [← ht] at hc
              rw [← hm] at HTj HJ1
              have i0 : (0 : Int) ≤ (j : Int) := by omega
              have i1 : (j : Int) < (n : Int) := by omega
              clear ht hm hcs
              by_cases hm : 100 < m
              · have e1 : decide ((100 : Int) < (m : Int)) = true := decide_eq_true (by omega)
                have e1' : decide ((m : Int) > 100) = true := decide_eq_true (by omega)
                go_wp2_with (fail)
                (try go_ret)
                exact HBig.out (HTj.out hm) HBw.out
              · have e1 : decide ((100 : Int) < (m : Int)) = false := decide_eq_false (by omega)
                have e1' : decide ((m : Int) > 100) = false := decide_eq_false (by omega)
                go_wp2_with (fail)
                go_roundw
                case rel => exact ⟨j + 1, by omega, by go_num, HJ1.out (by omega), HW.out⟩
                case measure => simp [intOf]; omega
            · have e0 : decide ((j : Int) < (n : Int)) = false := decide_eq_false (by omega)
              go_wp2_with (fail)
              (try go_ret)
              have hjn : j = n := by omega
              rw [hjn] at HJ
              exact ⟨by rw [HSm.out HJ.out]; rfl, HBw.out⟩
end
end Go.Proofs.YtinphkflfdpaeaaDoor
