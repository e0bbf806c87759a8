/- Lemmas under the proofs of this place: WalPRecords. No statement is proved here. -/
import Derived.Test.YtghenhacndaelaaBu35
import Derived.Test.YtghenhacndaelaaBu14
set_option linter.unusedSimpArgs false
set_option linter.unusedVariables false
set_option maxRecDepth 100000
set_option maxHeartbeats 16000000
namespace Go.Proofs.Ytghenhacndaelaa
open Go.RowKit
open Wal
theorem Try.textsInfoP : (Try.prog.info? 38).map (fun i => (i.zero, i.size, i.bytes)) = some (some (.slice none 0 0), 1, 24) := by kernel_rfl
def RecsToP (sec : Sec) (N : Nat) (least most : Int) (a : Nat) (l : List (List UInt8)) : Prop :=
  a ≤ N ∧ l.length ≤ a ∧ ∃ f, N - a < f ∧ recordsW sec N least most (N + 1) 0 = (l ++ (recordsW sec N least most f a).1, (recordsW sec N least most f a).2)
section
variable {sec : Sec} {N a : Nat} {least most : Int} {l : List (List UInt8)} {t : List UInt8} {n : Nat}
theorem rec_roomP (h : recordW sec N a least most = some (t, n)) : 0 < n ∧ a + n ≤ N := by
  obtain ⟨e, _, _, h3, h4⟩ := rec_only h
  exact ⟨by rw [h4]; exact h3.1, by rw [h4]; exact h3.2.2.1⟩
theorem RecsToP.start : RecsToP sec N least most 0 [] := ⟨Nat.zero_le _, Nat.le_refl _, N + 1, by omega, rfl⟩
theorem RecsToP.next (h : RecsToP sec N least most a l) (hr : recordW sec N a least most = some (t, n)) : RecsToP sec N least most (a + n) (l ++ [t]) := by
  obtain ⟨ha, hl, f, hf, he⟩ := h
  obtain ⟨g, rfl⟩ : ∃ g, f = g + 1 := ⟨f - 1, by omega⟩
  obtain ⟨h1, h2⟩ := rec_roomP hr
  refine ⟨h2, by rw [List.length_append]; simp; omega, g, by omega, ?_⟩
  rw [he, recordsW, hr]
  simp
theorem RecsToP.end (h : RecsToP sec N least most a l) (hr : recordW sec N a least most = none) : recordsW sec N least most (N + 1) 0 = (l, a) := by
  obtain ⟨ha, hl, f, hf, he⟩ := h
  obtain ⟨g, rfl⟩ : ∃ g, f = g + 1 := ⟨f - 1, by omega⟩
  rw [he, recordsW, hr]
  simp
end
def GivesRsP (r : List (List UInt8)) (ga : Nat) (w : World) (e : Ending) (w' : World) : Prop :=
  ∃ A c, e = .returned (.slice A r.length c) ∧ BL w' (fun k => w.heap.size ≤ k) A r ∧ CapN A r.length c ∧ Only w w' ga
theorem own_capN {w : World} {base n c size : Nat} {A : Option Addr} {e : TypeId} {xs : List Value} (h : w.ownsRow base e size (.slice A n c) n xs) : CapN A n c := by
  rcases h.2 with ⟨h1, h2⟩ | ⟨g, cap, cur, h1, _, _, h3, h4, _⟩
  · simp only [Value.slice.injEq] at h1
    exact ⟨by omega, by omega⟩
  · simp only [Value.slice.injEq] at h1
    unfold maxLen at h4
    exact ⟨by omega, by omega⟩
theorem wrecords_any {w : World} {ga : Nat} {img : List UInt8} {N : Nat} {least most : Int} {bb : Nat} (h : Area13 w ga img 0 least most bb) (hN : img.length = 64 * N) (hN1 : N ≤ 1000) :
    Calls Try.prog 25 #[.func (.func 26) #[.pointer (some ⟨ga, 0, none⟩)] #[]] w (GivesRsP (recordsA img least most).1 ga w) := by
  have HV : Hid (recordsA img least most = recordsW (secA img) N least most (N + 1) 0) := by show _ = _; unfold recordsA; rw [show img.length / 64 = N by omega]
  obtain ⟨i0, hi0, hz0, hz1, hz2⟩ := info_parts Try.textsInfoP
  have HRec : Hid (∀ (a : Nat) W, Area13 W ga img a least most bb → Calls Try.prog 38 #[.func (.func 26) #[.pointer (some ⟨ga, 0, none⟩)] #[]] W (GivesRecP (recordW (secA img) N a least most) ga img a least most bb W)) := fun a W hW => wrecord_any hW hN hN1
  have HA := Lib.hid h
  have nt := fun w' => Try.notTrue w'
  have nf := fun w' => Try.notFalse w'
  clear h hN
  go_enter Try.func25, Try.ntmps25
  go_wp2
  go_loopw [3] (fun v wr => ∃ (k a : Nat) (A' : Option Addr) (c' : Nat) (rows : List (List UInt8 × Option Addr × Nat)), k ≤ a ∧ a ≤ N ∧ v = .slice A' k c' ∧ Hid (rows.length = k ∧ RecsToP (secA img) N least most a (rows.map (·.1)) ∧ ∀ x ∈ rows, Own wr w.heap.size x.2.1 x.1 x.2.2) ∧ Hid (wr.ownsRow w.heap.size 38 1 (.slice A' k c') k (rowT rows)) ∧ Hid (Area13 wr ga img a least most bb) ∧ Hid (Only w wr ga)) (fun v _ => N - slLen v)
  case atStart => exact ⟨0, 0, none, 0, [], by omega, by omega, rfl, ⟨rfl, RecsToP.start, fun x hx => absurd hx (by simp)⟩, World.ownsRow_nil _ _ _ _, HA.out, only_refl _ _⟩
  case round =>
    obtain ⟨k, a, A', c', rows, hka, haN, rfl, HS, HW, HAr, HO⟩ := hrel
    obtain ⟨R, hR⟩ : ∃ R, recordW (secA img) N a least most = R := ⟨_, rfl⟩
    have HC := HRec.out a wr HAr.out
    rw [hR] at HC
    cases R with
    | none =>
      have HE : Hid (recordsA img least most = (rows.map (·.1), a)) := by show _ = _; rw [HV.out]; exact HS.out.2.1.end hR
      have HC1 : Hid (Calls Try.prog 38 #[.func (.func 26) #[.pointer (some ⟨ga, 0, none⟩)] #[]] wr fun e w' => ∃ B d, e = .returned (.tuple #[.slice B 0 d, .bool false]) ∧ Only wr w' ga) := HC.mono fun e w' ⟨hb, B, d, he⟩ => ⟨B, d, he, hb⟩
      clear hR HC
      go_wp2_with (first
        | (go_at_call 38; (with_reducible refine HC1.out.mono ?_); rintro e w1 ⟨B1, e1, rfl, b1⟩))
      go_ret
      unfold GivesRsP
      rw [HE.out]
      have ho1 := own_after HW.out b1 HA.out.lt.1
      have hl := HS.out.1
      refine ⟨A', c', by rw [List.length_map, hl]; rfl, BL.of_own ho1 hl.symm (fun x hx => own_after (HS.out.2.2 x hx) b1 HA.out.lt.1), ?_, only_trans HO.out b1⟩
      rw [List.length_map, hl]
      exact own_capN ho1
    | some x =>
      obtain ⟨t, q⟩ := x
      obtain ⟨hq0, hqN⟩ := rec_roomP hR
      obtain ⟨tl, htl⟩ : ∃ tl, tl = t.length := ⟨_, rfl⟩
      have HTl := Lib.hid htl
      have HN2 := Lib.hid (HS.out.2.1.next hR)
      have HC1 : Hid (Calls Try.prog 38 #[.func (.func 26) #[.pointer (some ⟨ga, 0, none⟩)] #[]] wr fun e w' => ∃ B d, e = .returned (.tuple #[.slice B tl d, .bool true]) ∧ Hid (Own w' wr.heap.size B t d) ∧ Hid (Area13 w' ga img (a + q) least most bb) ∧ Hid (Only wr w' ga)) := HC.mono fun e w' ⟨hb, B, d, he, ho, har⟩ => ⟨B, d, by rw [htl]; exact he, ho, har, hb⟩
      clear hR HC htl
      go_wp2_with (first
        | (go_at_call 38; (with_reducible refine HC1.out.mono ?_); rintro e w1 ⟨B1, e1, rfl, o1, ar1, on1⟩; have ow1 : w1.ownsRow w.heap.size 38 1 (.slice A' k c') k (rowT rows) := own_after HW.out on1.out HA.out.lt.1; have hsz : w.heap.size ≤ w1.heap.size := Nat.le_trans HO.out.size on1.out.size)
        | (at_builtin; refine wpList_append_any _ rfl (.tmp 14) (.tmp 16) _ rfl w.heap.size 38 i0 _ 1 24 Try.underlying28 hi0 hz0 hz1 hz2 rfl (by omega) (.slice A' k c') k (rowT rows) rfl (ow1.alloc _) (w1.heap.size + 1) (some ⟨w1.heap.size, 0, none⟩) 1 1 [.slice B1 tl e1] rfl (text_src w1 _ _) (rowT_one _ _ _) (by simp only [maxLen]; omega) (by omega) (by simp; omega) ?_; intro v9 w9 ho9 hg9 hat9; obtain ⟨A9, c9, rfl⟩ := own_slice7 ho9))
      have hlow : ∀ j, (Value.slice A' k c').ownBlock = some j → w.heap.size ≤ j := fun j hj => (HW.out.lt j hj).1
      have hk : ∀ x : List UInt8 × Option Addr × Nat, Own w1 w.heap.size x.2.1 x.1 x.2.2 → Own w9 w.heap.size x.2.1 x.1 x.2.2 := fun x hx => World.ownsRow.kept (hx.alloc _) hg9 (own_apart13 hx ow1 (by decide))
      have hrow : rowT rows ++ [.slice B1 tl e1] = rowT (rows ++ [(t, B1, e1)]) := by rw [rowT_snoc, HTl.out]
      rw [hrow] at ho9
      have ha9 : Area13 w9 ga img (a + q) least most bb := (ar1.out.below ((Below.refl _ _).alloc (Nat.le_refl _) _)).grown hg9 (fun j hj => by have := hlow j hj; have := HA.out.lt; omega)
      have ho9' : Only w w9 ga := by
        have h1 := only_alloc (only_trans HO.out on1.out) (.cells #[.slice B1 tl e1] 38)
        refine ⟨hg9.os.trans h1.os, hg9.tape.trans h1.tape, hg9.output.trans h1.output, Nat.le_trans h1.size hg9.size, fun i hi hn => ?_⟩
        refine (hg9.block i (Nat.lt_of_lt_of_le hi h1.size) fun e => ?_).trans (h1.block i hi hn)
        have := hlow i e.symm
        omega
      refine ⟨⟨k + 1, a + q, A9, c9, rows ++ [(t, B1, e1)], by omega, by omega, rfl, ⟨by rw [List.length_append, HS.out.1]; rfl, by rw [List.map_append]; exact HN2.out, fun x hx => ?_⟩, Lib.hid ho9, ha9, ho9'⟩, ?_⟩
      · rcases List.mem_append.1 hx with h1 | h1
        · exact hk x (own_after (HS.out.2.2 x h1) on1.out HA.out.lt.1)
        · rw [List.mem_singleton.1 h1]
          exact hk (t, B1, e1) (own_lessP o1.out HO.out.size)
      · simp [slLen]; omega
end Go.Proofs.Ytghenhacndaelaa
