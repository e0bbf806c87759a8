/- Lemmas under the proofs of this place: DagPClone. No statement is proved here. -/
import Derived.Test.YtbeihiokjhfepaaBu22
import Derived.Deep.RegionHeldLaw
import Derived.Deep.Cut
set_option linter.unusedSimpArgs false
set_option linter.unusedVariables false
set_option maxRecDepth 100000
set_option maxHeartbeats 16000000
namespace Go.Proofs.Ytbeihiokjhfepaa
open Go.RowKit Go.Maps Go.ChangeMaps
structure CI (w wr : World) (Q : Nat) (A : Option Addr) (n c : Nat) (mv : Value) (I : List Bs) (r rk : List NdP) (k : Nat) : Prop where
  blk : Blk wr Q 61 #[.slice A n c, mv]
  qn : w.heap.size ≤ Q
  nl : n = r.length
  row : wr.ownsRow w.heap.size 71 4 (.slice A n c) n (rowP rk)
  len : rk.length = r.length
  same : ∀ i, i < r.length → (rk.getD i nP).id = (r.getD i nP).id ∧ (rk.getD i nP).pA = (r.getD i nP).pA ∧ (rk.getD i nP).ps = (r.getD i nP).ps ∧ (rk.getD i nP).ks = (r.getD i nP).ks ∧ (rk.getD i nP).d = (r.getD i nP).d
  rest : ∀ i, k ≤ i → i < r.length → (rk.getD i nP).kA = (r.getD i nP).kA ∧ (rk.getD i nP).kc = (r.getD i nP).kc
  kids : ∀ i, i < k → i < r.length → wr.ownsRow w.heap.size 3 1 (.slice (rk.getD i nP).kA (rk.getD i nP).ks.length (rk.getD i nP).kc) (rk.getD i nP).ks.length (icells (rk.getD i nP).ks)
  kne : ∀ i j, i < j → j < k → j < r.length → ∀ ad bd, (rk.getD i nP).kA = some ad → (rk.getD j nP).kA = some bd → ad.block ≠ bd.block
  map : MapV wr mv I
  mn : ∀ b, mv = .map (some b) → w.heap.size ≤ b
  below : Below w.heap.size w wr
section
variable {w wr w2 : World} {Q n c k m : Nat} {A : Option Addr} {mv : Value} {I : List Bs} {r rk : List NdP}
theorem CI.at_ (h : CI w wr Q A n c mv I r rk k) (hk : k < r.length) : ∃ b off, A = some ⟨b, off, none⟩ ∧ off = 0 ∧ b < wr.heap.size ∧ wr.cell? ⟨b, off + k * 4 + 2, none⟩ = some (.slice (r.getD k nP).kA (r.getD k nP).ks.length (r.getD k nP).kc) ∧ wr.frozen? ⟨b, off + k * 4 + 2, none⟩ = false := by
  have hr := Reads.of_own h.row
  obtain ⟨ad, e, hb, hc⟩ := hr.2 (by rw [h.nl]; omega)
  obtain ⟨e1, e2⟩ := own_addr h.row e
  obtain ⟨b, off, pp⟩ := ad
  simp only [Addr.mk.injEq, true_and] at e1
  obtain ⟨rfl, rfl⟩ := e1
  obtain ⟨-, -, q2, -⟩ := rowP_get rk k (by rw [h.len]; exact hk)
  have c2 := hc _ _ q2
  rw [add_none, (h.same k hk).2.2.2.1, (h.rest k (Nat.le_refl _) hk).1, (h.rest k (Nat.le_refl _) hk).2] at c2
  have hrow := h.row
  rw [e] at hrow
  obtain ⟨_, csb, hcb⟩ := own_lt hrow (k := b) rfl
  exact ⟨b, 0, e, rfl, hb, by rw [Nat.add_assoc]; exact c2, hcb.frozen _⟩
theorem CI.step (h : CI w wr Q A n c mv I r rk k) (hk : k < r.length) {b off c2 : Nat} {A2 : Option Addr} (hA : A = some ⟨b, off, none⟩) (hz : off = 0) (hm : m = (r.getD k nP).ks.length)
    (ho : w2.ownsRow wr.heap.size 3 1 (.slice A2 m c2) m (icells (r.getD k nP).ks)) (hb2 : Below wr.heap.size wr w2) :
    ∃ rk', CI w (w2.setCell ⟨b, off + k * 4 + 2, none⟩ (.slice A2 m c2)) Q A n c mv I r rk' (k + 1) := by
  subst hz
  rw [Nat.zero_add]
  have hs := h.same k hk
  have hkr : k < rk.length := by rw [h.len]; exact hk
  have hrow := h.row
  rw [hA] at hrow
  have hbb := (hrow.lt b rfl).1
  obtain ⟨hbl, csb, hcb⟩ := own_lt hrow (k := b) rfl
  have hg : wr.grownBy w2 none := ⟨hb2.os, hb2.tape, hb2.output, hb2.size, fun i hi _ => hb2.block i hi⟩
  have hrow2 := hrow.kept hg (.inr (by simp [Value.ownBlock]))
  have hnb : ∀ {base size j : Nat} {e : TypeId} {v : Value} {xs : List Value}, w2.ownsRow base e size v j xs → e ≠ 71 → ∀ i, v.ownBlock = some i → i ≠ b := fun hh hne i hi e2 => by
    subst e2
    exact own_ne2 hh hrow2 hne hi rfl
  obtain ⟨w3, hw3⟩ : ∃ w3, w3 = w2.setCell ⟨b, k * 4 + 2, none⟩ (.slice A2 m c2) := ⟨_, rfl⟩
  have tS : Turns w2 w3 (fun i => i = b) (fun i => i = b) := by rw [hw3]; exact Turns.set_ (F := fun i => i = b) rfl _ _
  have hB3 : Below w.heap.size w w3 := by rw [hw3]; exact Below.setCell (h.below.trans (hb2.mono h.below.size)) hbb _
  rw [← hw3]
  refine ⟨rk.set k ((rk.getD k nP).kid A2 c2 (rk.getD k nP).ks), ?_, h.qn, h.nl, ?_, by rw [List.length_set]; exact h.len, fun i hi => ?_, fun i hi hi2 => ?_, fun i hi hi2 => ?_, fun i j hij hj hj2 ad bd e1 e2 => ?_, ?_, h.mn, hB3⟩
  · exact (h.blk.below hb2 h.blk.lt).turns tS (fun e => own_blk_ne hrow h.blk (by decide) (by rw [e]; rfl))
  · have h3 := own_set hrow2 (j := k * 4 + 2) (u := .slice A2 m c2)
    have h4 := rowP_set rk k hkr A2 c2 (rk.getD k nP).ks
    rw [hs.2.2.2.1, ← hm] at h4
    rw [hs.2.2.2.1]
    rw [h4] at h3
    rw [hA, hw3]
    exact h3
  · rw [getD_set _ _ _ (by rw [h.len]; exact hi)]
    split
    · rename_i e
      subst e
      exact h.same _ hi
    · exact h.same i hi
  · rw [getD_set _ _ _ (by rw [h.len]; exact hi2), if_neg (by omega)]
    exact h.rest i (by omega) hi2
  · rw [getD_set _ _ _ (by rw [h.len]; exact hi2)]
    split
    · rename_i e
      subst e
      have h5 : w2.ownsRow w.heap.size 3 1 (.slice A2 (rk.getD k nP).ks.length c2) (rk.getD k nP).ks.length (icells (rk.getD k nP).ks) := by
        rw [hs.2.2.2.1, ← hm]
        refine ⟨ho.1, ?_⟩
        rcases ho.2 with h6 | ⟨g, cap, cur, e1, e2, e3⟩
        · exact .inl h6
        · exact .inr ⟨g, cap, cur, e1, Nat.le_trans h.below.size e2, e3⟩
      exact own_turns h5 tS (hnb h5 (by decide))
    · rename_i hne
      have h5 := (h.kids i (by omega) hi2).kept hg (by
        cases hh : (Value.slice (rk.getD i nP).kA (rk.getD i nP).ks.length (rk.getD i nP).kc).ownBlock with
        | none => exact .inl rfl
        | some _ => exact .inr (by simp))
      exact own_turns h5 tS (hnb h5 (by decide))
  · rw [getD_set _ _ _ (by rw [h.len]; omega)] at e1
    rw [getD_set _ _ _ (by rw [h.len]; exact hj2)] at e2
    rw [if_neg (by omega)] at e1
    split at e2
    · have e3 : A2 = some bd := e2
      have h6 := (ho.lt bd.block (by rw [e3]; rfl)).1
      have h7 := ((h.kids i (by omega) (by omega)).lt ad.block (by rw [e1]; rfl)).2
      omega
    · exact h.kne i j hij (by omega) hj2 ad bd e1 e2
  · refine h.map.keep fun mb hmb => ?_
    have h6 := (h.map.block hmb).lt
    rw [hw3, Below.heap_setCell w2 ⟨b, k * 4 + 2, none⟩ _ mb (fun e => h.map.ne hmb hcb e)]
    exact hb2.block mb h6
theorem CI.done {p nn cc : Nat} {F : Nat → Prop} {A0 : Option Addr} {mv0 : Value} {J : List Bs} (h : CI w wr Q A n c mv (r.map (·.id)) r rk k) (hk : r.length ≤ k) (h0 : PMI w p F A0 nn cc mv0 J r) :
    PM wr Q (fun i => w.heap.size ≤ i ∧ i < wr.heap.size) A n c mv rk := by
  have hid : rk.map (·.id) = r.map (·.id) := by
    refine List.ext_getElem (by rw [List.length_map, List.length_map, h.len]) fun i h1 h2 => ?_
    rw [List.length_map] at h1 h2
    have h3 := (h.same i h2).1
    rw [List.getD, List.getD, List.getElem?_eq_getElem h1, List.getElem?_eq_getElem h2] at h3
    rw [List.getElem_map, List.getElem_map]
    exact h3
  have hx : ∀ x ∈ rk, ∃ i, i < r.length ∧ rk.getD i nP = x := fun x hx => by
    obtain ⟨i, hi, e⟩ := mem_getD hx
    exact ⟨i, by rw [← h.len]; exact hi, e⟩
  have hw : ∀ {size j : Nat} {e : TypeId} {v : Value} {xs : List Value}, wr.ownsRow w.heap.size e size v j xs → wr.ownsRow 0 e size v j xs := fun hh => ⟨hh.1, by
    rcases hh.2 with h6 | ⟨g, cap, cur, e1, e2, e3⟩
    · exact .inl h6
    · exact .inr ⟨g, cap, cur, e1, Nat.zero_le _, e3⟩⟩
  refine ⟨h.blk, by rw [h.len]; exact h.nl, hw h.row, fun x hxm => ?_, fun x hxm ad e => ?_, fun x hxm => ?_, fun x hxm ad e => ?_, fun i j hij hj ad bd e1 e2 => ?_, fun ad e => ?_, ⟨h.qn, h.blk.lt⟩, fun i hi => hi.2, fun b e => ⟨h.mn b e, (h.map.block e).lt⟩, by rw [hid]; exact h.map⟩
  · obtain ⟨i, hi, rfl⟩ := hx x hxm
    have hs := h.same i hi
    rw [hs.2.1, hs.2.2.1]
    have h1 := h0.preds _ (getD_mem hi)
    exact (h1.below h.below).more h.below.size
  · obtain ⟨i, hi, rfl⟩ := hx x hxm
    rw [(h.same i hi).2.1] at e
    have h1 := (h0.pfar _ (getD_mem hi) ad e).2
    have h2 := h.below.size
    exact ⟨fun hh => by omega, by omega⟩
  · obtain ⟨i, hi, rfl⟩ := hx x hxm
    exact hw (h.kids i (by omega) hi)
  · obtain ⟨i, hi, rfl⟩ := hx x hxm
    exact (h.kids i (by omega) hi).lt ad.block (by rw [e]; rfl)
  · rw [h.len] at hj
    exact h.kne i j hij (by omega) hj ad bd e1 e2
  · exact h.row.lt ad.block (by rw [e]; rfl)
theorem CI.rg {g : Gr} (h : CI w wr Q A n c mv I r rk k) (hg : RG g r) : RG g rk :=
  ⟨h.len.trans hg.len, fun i hi => (h.same i (by rw [hg.len]; exact hi)).1.trans (hg.id i hi), fun i hi => (h.same i (by rw [hg.len]; exact hi)).2.2.1.trans (hg.ps i hi), fun i hi => (h.same i (by rw [hg.len]; exact hi)).2.2.2.1.trans (hg.ks i hi), fun i hi => (h.same i (by rw [hg.len]; exact hi)).2.2.2.2.trans (hg.d i hi)⟩
end
theorem Try.buildDag (A : Option Addr) (n c : Nat) (o : Option Nat) (w : World) : Sem.run Try.prog (Instr.build 61 #[(0, .slice A n c), (1, .map o)]) w = .ok (.agg #[.slice A n c, .map o]) w := by kernel_rfl
def PDagC (w : World) (p : Nat) (w' : World) (q : Nat) (F : Nat → Prop) (g : Gr) : Prop := PDag w' q F g ∧ ∀ k, GP w' q k → GP w p k
theorem pclone_any {w : World} {p : Nat} {F : Nat → Prop} {g : Gr} (h : PDag w p F g) (hg : g.length ≤ 1000) :
    Calls Try.prog 32 #[.pointer (some ⟨p, 0, none⟩)] w fun e w' => ∃ (q : Nat) (F' : Nat → Prop), e = .returned (.pointer (some ⟨q, 0, none⟩)) ∧ Hid (PDagC w p w' q F' g) ∧ Hid (∀ k, F' k → w.heap.size ≤ k) ∧ Hid (Below w.heap.size w w') := by
  obtain ⟨A, n, c, mv, r, hP, hR⟩ := h
  have hn : n = r.length := hP.len
  have hnl : n ≤ 1000 := by rw [hn, hR.len]; exact hg
  have c0 := hP.blk.cell 0
  have c1 := hP.blk.cell 1
  simp only [List.getElem?_toArray, List.getElem?_cons_zero, List.getElem?_cons_succ] at c0 c1
  have hpl := hP.blk.lt
  have HC : Hid (∀ W, Below w.heap.size w W → W.cell? ⟨p, 0, none⟩ = some (.slice A n c) ∧ W.cell? ⟨p, 1, none⟩ = some mv) := fun W hW => ⟨(hW.cell (p := ⟨p, 0, none⟩) hpl).trans c0, (hW.cell (p := ⟨p, 1, none⟩) hpl).trans c1⟩
  have HN : Hid (∀ W, Below w.heap.size w W → Calls Try.prog 59 #[.slice A n c] W fun e w' => ∃ A' c', e = .returned (.slice A' n c') ∧ Hid (w'.ownsRow W.heap.size 71 4 (.slice A' n c') n (rowP r)) ∧ Hid (Below W.heap.size W w')) := fun W hW => cloneN_any r A n c W hn (((Reads.of_own hP.row).below hW).more hW.size) (by omega)
  have HMp : Hid (∀ W, Below w.heap.size w W → Calls Try.prog 60 #[mv] W fun e w' => ∃ o, e = .returned (.map o) ∧ Hid (MapV w' (.map o) (r.map (·.id))) ∧ Hid (∀ b, Value.map o = .map (some b) → W.heap.size ≤ b ∧ b < w'.heap.size) ∧ Hid (Below W.heap.size W w')) := fun W hW => (cloneM_any (hP.map.keep fun b hb => hW.block b (hP.map.block hb).lt)).mono fun e w' hh => by
    obtain ⟨mv', rfl, q1, q2, q3⟩ := hh
    rcases q1 with ⟨rfl, q4⟩ | ⟨b, rfl, q4⟩
    · exact ⟨none, rfl, .inl ⟨rfl, q4⟩, q2, q3⟩
    · exact ⟨some b, rfl, .inr ⟨b, rfl, q4⟩, q2, q3⟩
  have HP := Lib.hid hP
  have HR := Lib.hid hR
  have HL := Lib.hid hn
  have HKl : Hid (∀ i, i < r.length → (r.getD i nP).ks.length ≤ 1000) := fun i hi => by
    rw [hR.len] at hi
    rw [hR.ks i hi]
    have := kidI_le g i
    omega
  clear hP hR hn hg hpl
  have hbd := fun A n c o W => Try.buildDag A n c o W
  go_enter Try.func32, Try.ntmps32
  have P0 : Below w.heap.size w w.drew := (Below.refl _ _).drew
  have h0 := HC.out _ P0
  go_upto_region 3 with (fail)
  go_region_held_law (fun w' => w'.cell? ⟨p, 0, none⟩ = some (.slice A n c) ∧ w'.cell? ⟨p, 1, none⟩ = some mv)
    (exact HC.out _ (by assumption))
    (first
      | (go_at_call 59; (with_reducible refine (HN.out _ P0).mono ?_); rintro e x1 ⟨A2, c2, rfl, hO, b1⟩; have P1 : Below w.heap.size w x1 := below16 P0 b1.out)
      | (go_at_call 60; (with_reducible refine (HMp.out _ P1).mono ?_); rintro e x2 ⟨o2, rfl, hM, hMb, b2⟩; have P2 : Below w.heap.size w x2 := below16 P1 b2.out; have P3 : Below w.heap.size w (x2.alloc (.cells #[.slice A2 n c2, .map o2] 61)) := Below.alloc P2 P2.size _))
  obtain ⟨Q, hQ⟩ : ∃ Q, Q = x2.heap.size := ⟨_, rfl⟩
  obtain ⟨I, hI⟩ : ∃ I, I = r.map (·.id) := ⟨_, rfl⟩
  rw [← hQ]
  obtain ⟨W1, hW1⟩ : ∃ W1, W1 = x2.alloc (.cells #[.slice A2 n c2, .map o2] 61) := ⟨_, rfl⟩
  rw [← hW1] at P3 ⊢
  rw [← hI] at hM
  have HI := Lib.hid hI
  have hKQ : Blk W1 Q 61 #[.slice A2 n c2, .map o2] := by rw [hW1, hQ]; exact Blk.new _ _ _
  have hb2W : Below x2.heap.size x2 W1 := by rw [hW1]; exact (Below.refl _ _).alloc (Nat.le_refl _) _
  have hb1W : Below x1.heap.size x1 W1 := below16 b2.out hb2W
  have HC0 : Hid (CI w W1 Q A2 n c2 (.map o2) I r r 0) := by
    refine ⟨hKQ, by rw [hQ]; exact P2.size, HL.out, ?_, rfl, fun i hi => ⟨rfl, rfl, rfl, rfl, rfl⟩, fun i _ hi => ⟨rfl, rfl⟩, fun i hi => by omega, fun i j hij hj => by omega, ?_, fun b hb => Nat.le_trans P1.size (hMb.out b hb).1, P3⟩
    · have h1 : W1.ownsRow w.heap.size 71 4 (.slice A2 n c2) n (rowP r) := hO.out.kept (row := none) ⟨hb1W.os, hb1W.tape, hb1W.output, hb1W.size, fun i hi _ => hb1W.block i hi⟩ (by
        cases hh : (Value.slice A2 n c2).ownBlock with
        | none => exact .inl rfl
        | some _ => exact .inr (by simp))
      exact h1
    · exact hM.out.keep fun b hb => hb2W.block b (hMb.out b hb).2
  have q0 := hKQ.cell 0
  simp only [List.getElem?_toArray, List.getElem?_cons_zero] at q0
  have HKi : Hid (∀ k, k < n → ∀ W, Below w.heap.size w W → Calls Try.prog 61 #[.slice (r.getD k nP).kA (r.getD k nP).ks.length (r.getD k nP).kc] W fun e w' => ∃ A' c', e = .returned (.slice A' (r.getD k nP).ks.length c') ∧ Hid (w'.ownsRow W.heap.size 3 1 (.slice A' (r.getD k nP).ks.length c') (r.getD k nP).ks.length (icells (r.getD k nP).ks)) ∧ Hid (Below W.heap.size W w')) := fun k hk W hW => by
    have hkr : k < r.length := by rw [← HL.out]; exact hk
    have h1 := Reads.of_own (HP.out.kids _ (getD_mem hkr))
    exact cloneI_any _ _ _ _ W rfl ((h1.below hW).more hW.size) (by have := HKl.out k hkr; omega)
  clear hb1W hb2W hKQ hW1 hI hQ P1 P2 P3 P0 h0 b1 b2 hO hM hMb HN HMp HC c0 c1
  go_wp2
  go_loopw [4, 5, 25] (fun v4 v5 i wr => ∃ (k : Nat) (rk : List NdP), k ≤ n ∧ i = .int .i64 (k : Int) ∧ Hid (CI w wr Q A2 n c2 (.map o2) I r rk k)) (fun _ _ i _ => n - (intOf i).toNat)
  case atStart => exact ⟨0, r, Nat.zero_le _, rfl, HC0⟩
  case round =>
    obtain ⟨k, rk, hk, rfl, HCk⟩ := hrel
    have q0 := HCk.out.blk.cell 0
    simp only [List.getElem?_toArray, List.getElem?_cons_zero] at q0
    by_cases hlt : k < n
    · have hkr : k < r.length := by rw [← HL.out]; exact hlt
      obtain ⟨b, off, hA, hz, hbl, cc, cf⟩ := HCk.out.at_ hkr
      have HK2 := Lib.hid (HKi.out k hlt wr HCk.out.below)
      have hml := HKl.out k hkr
      have HSt := Lib.hid (fun (w2 : World) (A3 : Option Addr) (c3 : Nat) => HCk.out.step (w2 := w2) (A2 := A3) (c2 := c3) (m := (r.getD k nP).ks.length) hkr hA hz rfl)
      obtain ⟨m, hm⟩ : ∃ m, m = (r.getD k nP).ks.length := ⟨_, rfl⟩
      obtain ⟨kA, hkA⟩ : ∃ x, x = (r.getD k nP).kA := ⟨_, rfl⟩
      obtain ⟨kc, hkc⟩ : ∃ x, x = (r.getD k nP).kc := ⟨_, rfl⟩
      rw [← hm] at HK2 HSt cc hml
      rw [← hkA, ← hkc] at HK2 cc
      have u0 : (0 : Int) ≤ (k : Int) := by omega
      have u1 : (k : Int) < (n : Int) := by omega
      subst hA
      have HBl := Lib.hid hbl
      have HCc : Hid (∀ V, Below wr.heap.size wr V → V.cell? ⟨b, off + k * 4 + 2, none⟩ = some (.slice kA m kc) ∧ V.frozen? ⟨b, off + k * 4 + 2, none⟩ = false) := fun V hV => ⟨(hV.cell (p := ⟨b, off + k * 4 + 2, none⟩) hbl).trans cc, (World.frozen?_of_block (hV.block b hbl)).trans cf⟩
      clear hm hkA hkc hz hbl hkr hml
      go_wp2_with (go_at_call 61; (with_reducible refine HK2.out.mono ?_); rintro e w5 ⟨A5, c5, rfl, ho5, b5⟩; obtain ⟨d1, d2⟩ := HCc.out _ b5.out)
      obtain ⟨rk', hC'⟩ := HSt.out w5 A5 c5 ho5.out b5.out
      go_roundw
      case rel => exact ⟨k + 1, rk', by omega, by go_num, hC'⟩
      case measure => simp [intOf]; omega
    · have hkm : k = n := by omega
      subst hkm
      go_wp2
      go_ret
      have hCk := HCk.out
      rw [HI.out] at hCk
      have hPM := hCk.done (Nat.le_of_eq HL.out.symm) HP.out
      refine ⟨Q, _, rfl, ⟨⟨A2, k, c2, .map o2, rk, hPM, hCk.rg HR.out⟩, fun j hj => ?_⟩, fun i hi => hi.1, hCk.below⟩
      obtain ⟨x, hx, e0, ad, e1, e2⟩ := hPM.gp.1 hj
      obtain ⟨i, hi, rfl⟩ := mem_getD hx
      rw [hCk.len] at hi
      rw [(hCk.same i hi).2.1] at e1
      rw [(hCk.same i hi).2.2.1] at e0
      exact HP.out.gp.2 ⟨_, getD_mem hi, e0, ad, e1, e2⟩
theorem pclone_none (w : World) : Calls Try.prog 32 #[.pointer none] w fun e w' => e = .returned (.pointer none) ∧ Below w.heap.size w w' := by
  go_enter Try.func32, Try.ntmps32
  go_wp2
  go_ret
  exact ⟨rfl, Below.refl _ _⟩
end Go.Proofs.Ytbeihiokjhfepaa
