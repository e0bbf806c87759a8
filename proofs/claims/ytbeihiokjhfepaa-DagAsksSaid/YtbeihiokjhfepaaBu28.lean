/- Lemmas under the proofs of this place: DagPAheadB. No statement is proved here. -/
import Derived.Test.YtbeihiokjhfepaaBu27
set_option linter.unusedSimpArgs false
set_option linter.unusedVariables false
set_option maxRecDepth 100000
set_option maxHeartbeats 16000000
namespace Go.Proofs.Ytbeihiokjhfepaa
open Go.RowKit
theorem ahead_no {g : Gr} {a b : Bs} (h : hasG g a = false ∨ hasG g b = false) : aheadG g a b = false := by
  unfold aheadG
  rcases h with h | h <;> simp [h]
theorem seek_ahead {g : Gr} (ok : GrOk g) {a b : Bs} (ha : a ∈ idsG g) (hb : b ∈ idsG g) {l lk : List Bool} {bo : Bool} (h : SeekP g (idxG g a) (idxG g b) l lk bo) : bo = aheadG g a b := by
  have e1 : idAt g (idxG g a) = a := idx_id (idx_lt.2 ha)
  have e2 : idAt g (idxG g b) = b := idx_id (idx_lt.2 hb)
  rw [Bool.eq_iff_iff, ahead_iff ok]
  constructor
  · intro e
    have h1 := h.yes e
    rw [e1, e2] at h1
    exact h1
  · intro e
    cases bo with
    | true => rfl
    | false =>
      have h1 := h.no rfl
      rw [e1, e2] at h1
      exact absurd e h1
theorem pahead_any {w : World} {p n c : Nat} {g : Gr} {A : Option Addr} {mv : Value} (ok : GrOk g) (h : PV w p g A n c mv) (hpl : ∀ i, i < g.length → (g.getD i nd0).preds.length ≤ 5000) (hl : g.length ≤ 5000) (a b : Bs) :
    Calls Try.prog 26 #[.pointer (some ⟨p, 0, none⟩), .string (text a), .string (text b)] w fun e w' => e = .returned (.bool (aheadG g a b)) ∧ Below w.heap.size w w' := by
  obtain ⟨wb, hwb⟩ : ∃ wb, wb = w.alloc (.cells #[.pointer (some ⟨p, 0, none⟩)] 23) := ⟨_, rfl⟩
  have hV : BoxP w wb p := hwb
  have hvb := h.up hV.below
  have hgn : n = g.length := h.len
  have hnl : n ≤ 5000 := by omega
  have HPl : Hid (∀ x W, Below wb.heap.size wb W → Calls Try.prog 49 #[.pointer (some ⟨p, 0, none⟩), .string (text x)] W fun e w' => e = .returned (.tuple #[.int .i64 (plN g x : Int), .bool (hasG g x)]) ∧ Below W.heap.size W w') := fun x W hW => place_any (hvb.up hW) x
  have HSe : Hid (hasG g a = true → hasG g b = true → ∀ (W1 : World) (fl S D G M : Nat), Below wb.heap.size wb W1 → wb.heap.size ≤ fl → FlB W1 fl (List.replicate n false) → (∀ W, Only W1 W fl → AheadV W p n fl S D G M (plN g a)) →
      Calls Try.prog 51 #[.int .i64 (plN g b : Int), .pointer (some ⟨S, 0, none⟩), .pointer (some ⟨D, 0, none⟩), .pointer (some ⟨G, 0, none⟩), .pointer (some ⟨M, 0, none⟩)] W1 fun e w' => e = .returned (.bool (aheadG g a b)) ∧ Below wb.heap.size wb w') := fun h1 h2 W1 fl S D G M hW1 hfl hF hVs => by
    have ha := hasG_iff.1 h1
    have hb := hasG_iff.1 h2
    rw [plN_in ha] at hVs
    rw [plN_in hb]
    refine (seek_any ok hvb (idx_lt.2 ha) hpl hnl hW1 hfl hVs _ _ (Nat.lt_succ_self _) (idx_lt.2 hb) W1 _ (only_refl _ _) hF List.length_replicate (fun j hj => ?_)).mono ?_
    · unfold on at hj
      rw [List.getD, List.getElem?_replicate] at hj
      split at hj <;> simp at hj
    · rintro e w' ⟨bo, rfl, l', q1, q2, q3⟩
      rw [seek_ahead ok ha hb q2.out]
      exact ⟨rfl, below_only hW1 q3.out hfl hW1.size⟩
  have HNo : Hid (hasG g a = false ∨ hasG g b = false → aheadG g a b = false) := ahead_no
  have HDc : Hid (∀ W, Below wb.heap.size wb W → W.cell? ⟨w.heap.size, 0, none⟩ = some (.pointer (some ⟨p, 0, none⟩)) ∧ W.cell? ⟨p, 0, none⟩ = some (.slice A n c)) := fun W hW => ⟨hV.cell hW, (hvb.up hW).c0⟩
  have HDl := Lib.hid hV.lt
  have HWb := Lib.hid hwb
  have HBw := Lib.hid hV.below
  have hmf : ∀ (fn : Fn) (first cap : Array Value) (w : World), (Instr.makeFunc fn first cap).run Try.prog w = .ok (.func fn first cap) w := fun _ _ _ _ => rfl
  obtain ⟨r, hr⟩ : ∃ r, r = aheadG g a b := ⟨_, rfl⟩
  obtain ⟨ba, hba⟩ : ∃ x, x = hasG g a := ⟨_, rfl⟩
  obtain ⟨bb, hbb⟩ : ∃ x, x = hasG g b := ⟨_, rfl⟩
  obtain ⟨ta, hta⟩ : ∃ x, x = plN g a := ⟨_, rfl⟩
  obtain ⟨tb, htb⟩ : ∃ x, x = plN g b := ⟨_, rfl⟩
  have HPa := Lib.hid (HPl.out a)
  have HPb := Lib.hid (HPl.out b)
  rw [← hr] at HSe HNo ⊢
  rw [← hba] at HSe HNo HPa
  rw [← hbb] at HSe HNo HPb
  rw [← hta] at HSe HPa
  rw [← htb] at HSe HPb
  obtain ⟨sa, hsa⟩ : ∃ x, x = text a := ⟨_, rfl⟩
  obtain ⟨sb, hsb⟩ : ∃ x, x = text b := ⟨_, rfl⟩
  rw [← hsa] at HPa ⊢
  rw [← hsb] at HPb ⊢
  clear hr hba hbb hta htb hsa hsb HPl hgn hV hvb hwb h ok hpl hl
  go_enter Try.func26, Try.ntmps26
  go_upto_region 1 with (fail)
  rw [← HWb.out]
  obtain ⟨c0, -⟩ := HDc.out _ (Below.refl _ _)
  go_upto_region 3 with (first
    | (go_at_call 49; (with_reducible refine (HPb.out _ B1.out).mono ?_); rintro e w2 ⟨rfl, b2⟩)
    | (go_at_call 49; (with_reducible refine (HPa.out _ (Below.refl _ _)).mono ?_); rintro e w1 ⟨rfl, b1⟩; clear c0; have B1 : Hid (Below wb.heap.size wb (w1.alloc (.cells #[.int .i64 (ta : Int)] 3))) := Below.alloc b1 b1.size _; obtain ⟨c0, -⟩ := HDc.out _ B1.out))
  have hB2 : Below wb.heap.size wb w2 := below16 B1.out b2
  have hKG1 : Blk (w1.alloc (.cells #[.int .i64 (ta : Int)] 3)) w1.heap.size 3 #[.int .i64 (ta : Int)] := Blk.new _ _ _
  have hKG : Blk w2 w1.heap.size 3 #[.int .i64 (ta : Int)] := hKG1.below b2 hKG1.lt
  have hwG : wb.heap.size ≤ w1.heap.size := b1.size
  obtain ⟨G, hG⟩ : ∃ G, G = w1.heap.size := ⟨_, rfl⟩
  rw [← hG] at hKG hwG ⊢
  have HB2 := Lib.hid hB2
  have HKG := Lib.hid hKG
  have HwG := Lib.hid hwG
  clear hKG1 hKG hwG hB2 hG b1 b2 B1 c0 HPa HPb
  obtain ⟨c0, c1⟩ := HDc.out _ HB2.out
  cases ba with
  | false =>
    have HN := Lib.hid (HNo.out (.inl rfl))
    go_wp2
    go_ret
    exact ⟨by rw [HN.out]; rfl, below16 HBw.out HB2.out⟩
  | true =>
    cases bb with
    | false =>
      have HN := Lib.hid (HNo.out (.inr rfl))
      go_wp2
      go_ret
      exact ⟨by rw [HN.out]; rfl, below16 HBw.out HB2.out⟩
    | true =>
      have HS2 := Lib.hid (HSe.out rfl rfl)
      clear HSe HNo
      go_upto_region 8 with (at_make; refine make_flags rfl n (.tmp 35) (.tmp 35) rfl rfl rfl (by omega) ?_; intro w3 hF3 hb3; obtain ⟨x1, x2⟩ := two_new w3 (.cells #[.slice (some ⟨w2.heap.size, 0, none⟩) n n] 68) .nilFunc 74)
      obtain ⟨fl, hfl⟩ : ∃ fl, fl = w2.heap.size := ⟨_, rfl⟩
      obtain ⟨D, hD⟩ : ∃ D, D = w.heap.size := ⟨_, rfl⟩
      obtain ⟨S, hS⟩ : ∃ S, S = w3.heap.size := ⟨_, rfl⟩
      obtain ⟨M, hM⟩ : ∃ M, M = w3.heap.size + 1 := ⟨_, rfl⟩
      rw [← hM, ← hS, ← hD, ← hfl]
      obtain ⟨FV, hFV⟩ : ∃ FV, FV = Value.func (.func 51) #[] #[.pointer (some ⟨S, 0, none⟩), .pointer (some ⟨D, 0, none⟩), .pointer (some ⟨G, 0, none⟩), .pointer (some ⟨M, 0, none⟩)] := ⟨_, rfl⟩
      obtain ⟨W1, hW1⟩ : ∃ W1, W1 = (w3.alloc (.cells #[.slice (some ⟨fl, 0, none⟩) n n] 68)).alloc (.cells #[.func (.func 51) #[] #[.pointer (some ⟨S, 0, none⟩), .pointer (some ⟨D, 0, none⟩), .pointer (some ⟨G, 0, none⟩), .pointer (some ⟨M, 0, none⟩)]] 74) := ⟨_, rfl⟩
      rw [← hW1]
      rw [← hFV] at hW1
      have hF2' := hF3.out
      rw [← hfl] at hF2'
      have hflt : fl < w3.heap.size := hF2'.lt
      have hb31 : Below w3.heap.size w3 W1 := by rw [hW1]; exact ((Below.refl _ _).alloc (Nat.le_refl _) _).alloc (by simp) _
      have hb21 : Below w2.heap.size w2 W1 := below16 hb3.out hb31
      have hBb : Below wb.heap.size wb W1 := below16 HB2.out hb21
      have hFW : FlB W1 fl (List.replicate n false) := hF2'.below hb31 hflt
      have hKS : Blk W1 S 68 #[.slice (some ⟨fl, 0, none⟩) n n] := by
        rw [hW1, hS]
        exact (Blk.new _ _ _).alloc _
      have hKM : Blk W1 M 74 #[FV] := by
        have h1 := Blk.new (w3.alloc (.cells #[.slice (some ⟨fl, 0, none⟩) n n] 68)) 74 #[FV]
        rw [← hW1, show (w3.alloc (.cells #[.slice (some ⟨fl, 0, none⟩) n n] 68)).heap.size = w3.heap.size + 1 by simp, ← hM] at h1
        exact h1
      have hKG := HKG.out.below hb21 HKG.out.lt
      have hGl := HKG.out.lt
      have hDl : D < wb.heap.size := by rw [hD]; exact HDl.out
      have hsz0 : wb.heap.size ≤ w2.heap.size := HB2.out.size
      have hsz1 : w2.heap.size ≤ w3.heap.size := hb3.out.size
      have hsz2 : w3.heap.size ≤ W1.heap.size := hb31.size
      have hVs : ∀ W, Only W1 W fl → AheadV W p n fl S D G M ta := fun W hW =>
        ⟨(Only.cell hW (p := ⟨S, 0, none⟩) hKS.lt (show S ≠ fl by omega)).trans (hKS.cell 0), (Only.cell hW (p := ⟨D, 0, none⟩) (show D < _ by omega) (show D ≠ fl by omega)).trans (by rw [hD]; exact (HDc.out W1 hBb).1), (Only.cell hW (p := ⟨G, 0, none⟩) hKG.lt (show G ≠ fl by omega)).trans (hKG.cell 0), (Only.cell hW (p := ⟨M, 0, none⟩) hKM.lt (show M ≠ fl by omega)).trans ((hKM.cell 0).trans (by rw [hFV]; rfl))⟩
      have HC := Lib.hid (HS2.out W1 fl S D G M hBb (by omega) hFW hVs)
      obtain ⟨v1, v2, v3, v4⟩ := hVs W1 (only_refl _ _)
      clear hVs hsz0 hsz1 hsz2 hDl hGl hKG hKM hKS hFW hBb hb21 hb31 hflt hF2' hF3 hb3 hW1 hFV hM hS hD hfl x1 x2 HS2 HDc HDl HWb c0 c1
      go_wp2_with (go_at_call 51; (with_reducible refine HC.out.mono ?_); rintro e w5 ⟨rfl, b5⟩)
      go_ret
      exact ⟨rfl, below16 HBw.out b5⟩
theorem pahead_none (x y : ByteArray) (w : World) : Calls Try.prog 26 #[.pointer none, .string x, .string y] w fun e w' => e = .returned (.bool false) ∧ Below w.heap.size w w' := by
  have HP : Hid (∀ x W, Calls Try.prog 49 #[.pointer none, .string x] W fun e w' => e = .returned (.tuple #[.int .i64 0, .bool false]) ∧ Below W.heap.size W w') := fun x W => place_none x W
  obtain ⟨wb, hwb⟩ : ∃ wb, wb = w.alloc (.cells #[.pointer none] 23) := ⟨_, rfl⟩
  have HWb := Lib.hid hwb
  have hK : Blk wb w.heap.size 23 #[.pointer none] := by rw [hwb]; exact Blk.new _ _ _
  have HC : Hid (∀ W, Below wb.heap.size wb W → W.cell? ⟨w.heap.size, 0, none⟩ = some (.pointer none)) := fun W hW => (hK.below hW hK.lt).cell 0
  have HB : Hid (Below w.heap.size w wb) := by show Below _ _ _; rw [hwb]; exact (Below.refl _ _).alloc (Nat.le_refl _) _
  clear hK hwb
  go_enter Try.func26, Try.ntmps26
  go_upto_region 1 with (fail)
  rw [← HWb.out]
  have c0 := HC.out _ (Below.refl _ _)
  go_wp2_with (first
    | (go_at_call 49; (with_reducible refine (HP.out y (w1.alloc (.cells #[.int .i64 0] 3))).mono ?_); rintro e w2 ⟨rfl, b2⟩; have B2 := Lib.hid (below16 B1.out b2))
    | (go_at_call 49; (with_reducible refine (HP.out x _).mono ?_); rintro e w1 ⟨rfl, b1⟩; clear c0; have B1 : Hid (Below wb.heap.size wb (w1.alloc (.cells #[.int .i64 0] 3))) := Below.alloc b1 b1.size _; have c0 := HC.out _ B1.out))
  go_ret
  exact ⟨rfl, below16 HB.out B2.out⟩
end Go.Proofs.Ytbeihiokjhfepaa
