/- Lemmas under the proofs of this place: DagPDag, IdsOfA, DagRDepth. No statement is proved here. -/
import Derived.Test.YtbeihiokjhfepaaBu13
import Derived.Test.YtbeihiokjhfepaaBu10
import Derived.Deep.RegionHeldLaw
import Derived.IntWalk
set_option linter.unusedSimpArgs false
set_option linter.unusedVariables false
set_option maxRecDepth 100000
set_option maxHeartbeats 16000000
namespace Go.Proofs.Ytbeihiokjhfepaa
section
open Go.RowKit Go.Maps Go.ChangeMaps
structure PMI (w : World) (p : Nat) (F : Nat → Prop) (A : Option Addr) (n c : Nat) (mv : Value) (I : List Bs) (r : List NdP) : Prop where
  blk : Blk w p 61 #[.slice A n c, mv]
  len : n = r.length
  row : w.ownsRow 0 71 4 (.slice A n c) n (rowP r)
  preds : ∀ x ∈ r, NS w w.heap.size x.pA x.ps
  pfar : ∀ x ∈ r, ∀ ad, x.pA = some ad → ¬ F ad.block ∧ ad.block < w.heap.size
  kids : ∀ x ∈ r, w.ownsRow 0 3 1 (.slice x.kA x.ks.length x.kc) x.ks.length (icells x.ks)
  kF : ∀ x ∈ r, ∀ ad, x.kA = some ad → F ad.block
  kne : ∀ i j, i < j → j < r.length → ∀ ad bd, (r.getD i nP).kA = some ad → (r.getD j nP).kA = some bd → ad.block ≠ bd.block
  rF : ∀ ad, A = some ad → F ad.block
  pF : F p
  flt : ∀ k, F k → k < w.heap.size
  mF : ∀ b, mv = .map (some b) → F b
  map : MapV w mv I
abbrev PM (w : World) (p : Nat) (F : Nat → Prop) (A : Option Addr) (n c : Nat) (mv : Value) (r : List NdP) : Prop := PMI w p F A n c mv (r.map (·.id)) r
def GP (w : World) (p : Nat) (k : Nat) : Prop := ∃ (A : Addr) (n c j : Nat) (ad : Addr) (pn pc : Nat), w.cell? ⟨p, 0, none⟩ = some (.slice (some A) n c) ∧ j < n ∧ w.cell? (A.add (j * 4 + 1)) = some (.slice (some ad) pn pc) ∧ 0 < pn ∧ ad.block = k
theorem own_addr {w : World} {base size n c : Nat} {e : TypeId} {A : Option Addr} {xs : List Value} (h : w.ownsRow base e size (.slice A n c) n xs) {ad : Addr} (ha : A = some ad) : ad = ⟨ad.block, 0, none⟩ ∧ ad.block < w.heap.size := by
  rcases h.2 with ⟨h1, _⟩ | ⟨g, cap, cur, h1, _, h3, _⟩
  · subst ha
    cases h1
  · subst ha
    injection h1 with h1 _ _
    injection h1 with h1
    subst h1
    exact ⟨rfl, (Array.getElem?_eq_some_iff.1 h3).1⟩
theorem add_none (b off k : Nat) : (⟨b, off, none⟩ : Addr).add k = ⟨b, off + k, none⟩ := by unfold Addr.add; split <;> simp_all
theorem getD_mem {r : List NdP} {i : Nat} (hi : i < r.length) : r.getD i nP ∈ r := by
  rw [List.getD, List.getElem?_eq_getElem hi]
  exact List.getElem_mem hi
theorem mem_getD {r : List NdP} {x : NdP} (h : x ∈ r) : ∃ i, i < r.length ∧ r.getD i nP = x := by
  obtain ⟨i, hi, e⟩ := List.getElem_of_mem h
  exact ⟨i, hi, by rw [List.getD, List.getElem?_eq_getElem hi]; exact e⟩
section
variable {w w' : World} {p : Nat} {F E E' : Nat → Prop} {A : Option Addr} {n c : Nat} {mv : Value} {I : List Bs} {r : List NdP} {g : Gr}
theorem PMI.at_ (h : PMI w p F A n c mv I r) (hn : 0 < r.length) : ∃ b off, A = some ⟨b, off, none⟩ ∧ off = 0 ∧ b < w.heap.size ∧ ∀ i, i < r.length → w.cell? ⟨b, off + i * 4, none⟩ = some (.string (text (r.getD i nP).id)) ∧
    w.cell? ⟨b, off + i * 4 + 1, none⟩ = some (.slice (r.getD i nP).pA (r.getD i nP).ps.length (r.getD i nP).pc) ∧ w.cell? ⟨b, off + i * 4 + 2, none⟩ = some (.slice (r.getD i nP).kA (r.getD i nP).ks.length (r.getD i nP).kc) ∧ w.cell? ⟨b, off + i * 4 + 3, none⟩ = some (.int .i64 ((r.getD i nP).d : Int)) := by
  have hr := Reads.of_own h.row
  obtain ⟨ad, e, hb, hc⟩ := hr.2 (by rw [h.len]; exact hn)
  obtain ⟨e1, e2⟩ := own_addr h.row e
  obtain ⟨b, off, pp⟩ := ad
  simp only [Addr.mk.injEq, true_and] at e1
  obtain ⟨rfl, rfl⟩ := e1
  refine ⟨b, 0, e, rfl, hb, fun i hi => ?_⟩
  obtain ⟨q0, q1, q2, q3⟩ := rowP_get r i hi
  have c0 := hc _ _ q0
  have c1 := hc _ _ q1
  have c2 := hc _ _ q2
  have c3 := hc _ _ q3
  rw [add_none] at c0 c1 c2 c3
  exact ⟨c0, by rw [Nat.add_assoc]; exact c1, by rw [Nat.add_assoc]; exact c2, by rw [Nat.add_assoc]; exact c3⟩
theorem PMI.gp (h : PMI w p F A n c mv I r) {k : Nat} : GP w p k ↔ ∃ x ∈ r, 0 < x.ps.length ∧ ∃ ad, x.pA = some ad ∧ ad.block = k := by
  have e0 := h.blk.cell 0
  constructor
  · rintro ⟨A', n', c', j, ad, pn, pc, h1, h2, h3, h5, h4⟩
    rw [e0] at h1
    simp only [List.getElem?_toArray, List.getElem?_cons_zero, Option.some.injEq, Value.slice.injEq] at h1
    obtain ⟨rfl, rfl, rfl⟩ := h1
    have hj : j < r.length := by rw [← h.len]; exact h2
    obtain ⟨b, off, hA, hz, hb, hc⟩ := h.at_ (by omega)
    injection hA with hA
    subst hA
    have c1 := (hc j hj).2.1
    rw [add_none, ← Nat.add_assoc, c1] at h3
    injection h3 with h3
    injection h3 with h3 h6 _
    exact ⟨_, getD_mem hj, by rw [h6]; exact h5, ad, h3, h4⟩
  · rintro ⟨x, hx, h0, ad, h1, h2⟩
    obtain ⟨j, hj, rfl⟩ := mem_getD hx
    obtain ⟨b, off, hA, hz, hb, hc⟩ := h.at_ (by omega)
    have c1 := (hc j hj).2.1
    rw [h1] at c1
    subst hA
    exact ⟨⟨b, off, none⟩, n, c, j, ad, _, _, by rw [e0]; rfl, by rw [h.len]; exact hj, by rw [add_none, ← Nat.add_assoc]; exact c1, h0, h2⟩
theorem MapV.block (h : MapV w mv I) {b : Nat} (hb : mv = .map (some b)) : MapAt w b I := by
  rcases h with ⟨h1, _⟩ | ⟨b', h1, h2⟩
  · rw [h1] at hb; cases hb
  · rw [h1] at hb
    injection hb with hb
    injection hb with hb
    subst hb
    exact h2
theorem MapV.keep (h : MapV w mv I) (hk : ∀ b, mv = .map (some b) → w'.heap[b]? = w.heap[b]?) : MapV w' mv I := by
  rcases h with h1 | ⟨b, h1, es, clock, h2, h3⟩
  · exact .inl h1
  · exact .inr ⟨b, h1, es, clock, (hk b h1).trans h2, h3⟩
theorem PMI.turns (h : PMI w p F A n c mv I r) (ht : Turns w w' E E') (hd : ∀ k, F k → ¬ E k) (hg : ∀ x ∈ r, 0 < x.ps.length → ∀ ad, x.pA = some ad → ¬ E ad.block) : PMI w' p F A n c mv I r := by
  refine ⟨h.blk.turns ht (hd p h.pF), h.len, own_turns h.row ht fun k hk => ?_, fun x hx => ?_, fun x hx ad e => ⟨(h.pfar x hx ad e).1, Nat.lt_of_lt_of_le (h.pfar x hx ad e).2 ht.size⟩,
    fun x hx => own_turns (h.kids x hx) ht fun k hk => ?_, h.kF, h.kne, h.rF, h.pF, fun k hk => Nat.lt_of_lt_of_le (h.flt k hk) ht.size, h.mF, h.map.keep fun b hb => ht.block b (h.map.block hb).lt (hd b (h.mF b hb))⟩
  · cases A with
    | none => cases hk
    | some ad =>
      have e : ad.block = k := by simpa [Value.ownBlock] using hk
      rw [← e]
      exact hd _ (h.rF ad rfl)
  · rcases Nat.eq_zero_or_pos x.ps.length with h0 | h0
    · exact ⟨(h.preds x hx).1, fun hh => absurd hh (by omega)⟩
    · exact (Reads.turns (h.preds x hx) (Nat.le_refl _) ht (hg x hx h0)).more ht.size
  · cases hkA : x.kA with
    | none => rw [hkA] at hk; cases hk
    | some ad =>
      rw [hkA] at hk
      have e : ad.block = k := by simpa [Value.ownBlock] using hk
      rw [← e]
      exact hd _ (h.kF x hx ad hkA)
structure RG (g : Gr) (r : List NdP) : Prop where
  len : r.length = g.length
  id : ∀ i, i < g.length → (r.getD i nP).id = idAt g i
  ps : ∀ i, i < g.length → (r.getD i nP).ps = predI g i
  ks : ∀ i, i < g.length → (r.getD i nP).ks = kidI g i
  d : ∀ i, i < g.length → (r.getD i nP).d = depI g i
theorem RG.ids (h : RG g r) : r.map (·.id) = idsG g := by
  refine List.ext_getElem (by rw [List.length_map, h.len, idsG_len]) fun i h1 h2 => ?_
  rw [idsG_len] at h2
  rw [idsG_at h2, List.getElem_map]
  have h3 := h.id i h2
  rw [List.length_map] at h1
  rw [List.getD, List.getElem?_eq_getElem h1] at h3
  exact h3
def PDag (w : World) (p : Nat) (F : Nat → Prop) (g : Gr) : Prop := ∃ A n c mv r, PM w p F A n c mv r ∧ RG g r
theorem PDag.gp_lt (h : PDag w p F g) {k : Nat} (hk : GP w p k) : ¬ F k ∧ k < w.heap.size := by
  obtain ⟨A, n, c, mv, r, h1, h2⟩ := h
  obtain ⟨x, hx, _, ad, e1, e2⟩ := h1.gp.1 hk
  rw [← e2]
  exact h1.pfar x hx ad e1
theorem PDag.turns (h : PDag w p F g) (ht : Turns w w' E E') (hd : ∀ k, F k → ¬ E k) (hg : ∀ k, GP w p k → ¬ E k) : PDag w' p F g := by
  obtain ⟨A, n, c, mv, r, h1, h2⟩ := h
  exact ⟨A, n, c, mv, r, h1.turns ht hd fun x hx h0 ad e => hg _ (h1.gp.2 ⟨x, hx, h0, ad, e, rfl⟩), h2⟩
theorem PDag.gp_same (h : PDag w p F g) (ht : Turns w w' E E') (hd : ∀ k, F k → ¬ E k) (hg : ∀ k, GP w p k → ¬ E k) {k : Nat} (hk : GP w' p k) : GP w p k := by
  obtain ⟨A, n, c, mv, r, h1, h2⟩ := h
  have h3 := h1.turns ht hd fun x hx h0 ad e => hg _ (h1.gp.2 ⟨x, hx, h0, ad, e, rfl⟩)
  exact h1.gp.2 (h3.gp.1 hk)
theorem PDag.gp_ne (h : PDag w p F g) {R m c : Nat} {t : TypeId} {B : Option Addr} (K : Blk w R t #[.slice B m c]) {k : Nat} (hk : GP w p k) : k ≠ R := fun e => by
  obtain ⟨A, n, c, mv, r, h1, h2⟩ := h
  obtain ⟨x, hx, h0, ad, e1, e2⟩ := h1.gp.1 hk
  obtain ⟨b, off, e3, _, hc⟩ := (h1.preds x hx).at_ h0
  rw [e1] at e3
  injection e3 with e3
  have e4 : b = R := by rw [← e, ← e2, e3]
  subst e4
  have h3 := hc 0 h0
  rw [K.cell] at h3
  rcases off with _ | off
  · simp at h3
  · simp at h3
theorem PDag.flt (h : PDag w p F g) : ∀ k, F k → k < w.heap.size := by
  obtain ⟨A, n, c, mv, r, h1, h2⟩ := h
  exact h1.flt
def NA (w : World) (b q : Nat) (g : Gr) (i : Nat) : Prop := w.cell? ⟨b, q, none⟩ = some (.string (text (idAt g i))) ∧ (∃ pA pc, w.cell? ⟨b, q + 1, none⟩ = some (.slice pA (predI g i).length pc) ∧ NS w w.heap.size pA (predI g i)) ∧
  (∃ kA kc, w.cell? ⟨b, q + 2, none⟩ = some (.slice kA (kidI g i).length kc) ∧ NS w w.heap.size kA (kidI g i)) ∧ w.cell? ⟨b, q + 3, none⟩ = some (.int .i64 (depI g i : Int))
theorem NA.up {b q i : Nat} (h : NA w b q g i) (hb : Below w.heap.size w w') (hl : b < w.heap.size) : NA w' b q g i := by
  obtain ⟨h0, ⟨pA, pc, h1, h2⟩, ⟨kA, kc, h3, h4⟩, h5⟩ := h
  have hc : ∀ j, w'.cell? ⟨b, j, none⟩ = w.cell? ⟨b, j, none⟩ := fun j => hb.cell (p := ⟨b, j, none⟩) hl
  exact ⟨(hc _).trans h0, ⟨pA, pc, (hc _).trans h1, (h2.below hb).more hb.size⟩, ⟨kA, kc, (hc _).trans h3, (h4.below hb).more hb.size⟩, (hc _).trans h5⟩
structure PV (w : World) (p : Nat) (g : Gr) (A : Option Addr) (n c : Nat) (mv : Value) : Prop where
  c0 : w.cell? ⟨p, 0, none⟩ = some (.slice A n c)
  c1 : w.cell? ⟨p, 1, none⟩ = some mv
  lt : p < w.heap.size
  len : n = g.length
  at_ : 0 < g.length → ∃ b off, A = some ⟨b, off, none⟩ ∧ b < w.heap.size ∧ ∀ i, i < g.length → NA w b (off + i * 4) g i
  map : MapV w mv (idsG g)
theorem PV.up (h : PV w p g A n c mv) (hb : Below w.heap.size w w') : PV w' p g A n c mv :=
  ⟨(hb.cell (p := ⟨p, 0, none⟩) h.lt).trans h.c0, (hb.cell (p := ⟨p, 1, none⟩) h.lt).trans h.c1, Nat.lt_of_lt_of_le h.lt hb.size, h.len, fun h0 => by
    obtain ⟨b, off, e, hl, hi⟩ := h.at_ h0
    exact ⟨b, off, e, Nat.lt_of_lt_of_le hl hb.size, fun i hii => (hi i hii).up hb hl⟩, h.map.keep fun b hh => hb.block b (h.map.block hh).lt⟩
theorem PMI.view (h : PM w p F A n c mv r) (hg : RG g r) : PV w p g A n c mv := by
  refine ⟨by rw [h.blk.cell 0]; rfl, by rw [h.blk.cell 1]; rfl, h.blk.lt, h.len.trans hg.len, fun h0 => ?_, by rw [← hg.ids]; exact h.map⟩
  obtain ⟨b, off, e, _, hb, hc⟩ := h.at_ (by rw [hg.len]; exact h0)
  refine ⟨b, off, e, hb, fun i hi => ?_⟩
  have hir : i < r.length := by rw [hg.len]; exact hi
  obtain ⟨c0, c1, c2, c3⟩ := hc i hir
  have hm := getD_mem hir
  have hp := h.preds _ hm
  have hk := own_ns (h.kids _ hm)
  rw [hg.id i hi] at c0
  rw [hg.ps i hi] at c1 hp
  rw [hg.ks i hi] at c2 hk
  rw [hg.d i hi] at c3
  exact ⟨c0, ⟨_, _, c1, hp⟩, ⟨_, _, c2, hk⟩, c3⟩
theorem PDag.view (h : PDag w p F g) : ∃ A n c mv, PV w p g A n c mv := by
  obtain ⟨A, n, c, mv, r, h1, h2⟩ := h
  exact ⟨A, n, c, mv, h1.view h2⟩
end
end
section
open Go.RowKit
theorem withL_length (l : List Bs) (x : Bs) : (withL l x).length ≤ l.length + 1 := by
  unfold withL
  have := placeL_le l x
  split
  · omega
  · simp; omega
theorem ofK_length (l : List Bs) : ∀ k, (ofK l k).length ≤ k
  | 0 => by simp [ofK]
  | k + 1 => by
    have ih := ofK_length l k
    rw [ofK]
    split
    · have := withL_length (ofK l k) (l.getD k []); omega
    · omega
theorem refOf_any (Ls : List Bs) (A : Option Addr) (n c B : Nat) (w : World) (HN : Hid (n = Ls.length)) (hr : SS w B A Ls) (hn : n ≤ 10000) :
    Calls Try.prog 48 #[.slice A n c] w (GivesStrs (ofL Ls) w) := by
  have HR : Hid (0 < Ls.length → ∃ b off, A = some ⟨b, off, none⟩ ∧ b < w.heap.size ∧ ∀ k, k < Ls.length → w.cell? ⟨b, off + k, none⟩ = some (.string (text (Ls.getD k [])))) := fun h => hr.lt.at_ h
  clear hr
  go_enter Try.func48, Try.ntmps48
  go_wp2
  go_loopw [3, 4] (fun v i wr => ∃ (k m d : Nat) (C : Option Addr), k ≤ n ∧ i = .int .i64 (k : Int) ∧ v = .slice C m d ∧ Hid (m = (ofK Ls k).length) ∧ m ≤ k ∧ m ≤ d ∧ d ≤ 9223372036854775807 ∧ Hid (SS wr wr.heap.size C (ofK Ls k)) ∧ Below w.heap.size w wr) (fun _ i _ => n - (intOf i).toNat)
  case atStart => exact ⟨0, 0, 0, none, by omega, rfl, rfl, rfl, by omega, by omega, by omega, SS.nil _ _ _, Below.refl _ _⟩
  case round =>
    obtain ⟨k, m, d, C, hk, rfl, rfl, HM, hmk, hmd, hd, HC, hb⟩ := hrel
    have u0 : (0 : Int) ≤ (k : Int) := by omega
    by_cases hlt : k < n
    · have hkL : k < Ls.length := by have := HN.out; omega
      obtain ⟨b, off, rfl, hbb, hcc⟩ := HR.out (by omega)
      obtain ⟨y, hy⟩ : ∃ y, y = Ls.getD k [] := ⟨_, rfl⟩
      obtain ⟨s, hs⟩ : ∃ s, s = text y := ⟨_, rfl⟩
      have hck := hcc k hkL
      rw [← hy, ← hs, ← hb.cell (p := ⟨b, off + k, none⟩) hbb] at hck
      have u1 : (k : Int) < (n : Int) := by omega
      have HRt : Hid (∀ V, Calls Try.prog 35 #[.string s] V fun e w' => e = .returned (.bool (rightB y)) ∧ V = w') := fun V => by rw [hs]; exact refRight_any y V
      have HW : Hid (Calls Try.prog 64 #[.slice C m d, .string s] wr (GivesStrs (withL (ofK Ls k) y) wr)) := by
        show Calls _ _ _ _ _
        rw [hs]; exact refWith_any (ofK Ls k) y C m d wr HM HC.out (by omega) hmd hd
      have HS : Hid (ofK Ls (k + 1) = if rightB y then withL (ofK Ls k) y else ofK Ls k) := by show _ = _; rw [ofK, ← hy]
      have HL := Lib.hid (ofK_length Ls (k + 1))
      cases hrt : rightB y with
      | true =>
        rw [hrt] at HRt HS
        clear hy hs hcc HR hrt hkL
        go_wp2_with (first
          | (go_at_call 35; (with_reducible refine (HRt.out _).mono ?_); rintro e w' ⟨rfl, rfl⟩)
          | (go_at_call 64; (with_reducible refine HW.out.mono ?_); rintro e w2 ⟨C2, d2, rfl, hS2, hl2, hd2, hb2⟩))
        refine ⟨⟨k + 1, _, d2, C2, by omega, by go_num, rfl, by show _ = _; rw [HS.out]; rfl, by have := HL.out; rw [HS.out] at this; exact this, hl2, hd2, by show SS _ _ _ _; rw [HS.out]; exact hS2, hb.trans (hb2.mono hb.size)⟩, ?_⟩
        simp [intOf]; omega
      | false =>
        rw [hrt] at HRt HS
        clear hy hs hcc HR hrt hkL HW
        go_wp2_with (first
          | (go_at_call 35; (with_reducible refine (HRt.out _).mono ?_); rintro e w' ⟨rfl, rfl⟩))
        refine ⟨⟨k + 1, m, d, C, by omega, by go_num, rfl, by show _ = _; rw [HS.out]; exact HM, by omega, hmd, hd, by show SS _ _ _ _; rw [HS.out]; exact HC, hb⟩, ?_⟩
        simp [intOf]; omega
    · have e : ofK Ls k = ofL Ls := by unfold ofL; rw [show k = Ls.length by have := HN.out; omega]
      rw [e] at HM HC
      clear HR e
      go_wp2
      go_ret
      exact ⟨C, d, by rw [← HM.out]; rfl, HC.out, by rw [← HM.out]; exact hmd, hd, hb⟩
end
section
open Go.RowKit
theorem rdepths_any (g : Gr) (ok : GrOk g) (A : Option Addr) (n c : Nat) (w : World) (hn : n = g.length) (h : NL w w.heap.size A g) (hl : n ≤ 5000) (hp : ∀ k, k < g.length → (g.getD k nd0).preds.length ≤ 1000000) :
    Calls Try.prog 50 #[.agg #[.slice A n c]] w (GivesNats (depthsG g) w) := by
  have HR : Hid (0 < g.length → ∃ b off, A = some ⟨b, off, none⟩ ∧ b < w.heap.size ∧ ∀ i, i < g.length → ∃ pA pc, SS w w.heap.size pA (g.getD i nd0).preds ∧ ((g.getD i nd0).preds.length ≤ pc ∧ pc ≤ 9223372036854775807) ∧ w.cell? ⟨b, off + i * 2, none⟩ = some (.string (text (g.getD i nd0).id)) ∧ w.cell? ⟨b, off + i * 2 + 1, none⟩ = some (.slice pA (g.getD i nd0).preds.length pc)) := fun hh => h.at_ hh
  have HN := Lib.hid hn
  have HPl := Lib.hid hp
  have HOk := Lib.hid ok
  have HFd : Hid (∀ (z : Bs) W, Below w.heap.size w W → Calls Try.prog 47 #[.agg #[.slice A n c], .string (text z)] W fun e w' => e = .returned (.int .i64 (idxZ g z)) ∧ Below W.heap.size W w') := fun z W hW => rfind_any g z A n c W hn (h.up hW) (by omega)
  have HD : Hid (depthsK g n = depthsG g) := by show _ = _; rw [hn]; rfl
  clear hn h hp ok
  obtain ⟨wb, hwb⟩ : ∃ wb, wb = w.alloc (.cells #[.slice A n c] 27) := ⟨_, rfl⟩
  have HV : Hid (DgV w wb A n c) := hwb
  have HWb := Lib.hid hwb
  clear hwb
  have a27 := fun w' => Try.dagAgg w'
  have s27 := fun w' => Try.dagSize w'
  go_enter Try.func50, Try.ntmps50
  go_wp2
  rw [← HWb.out]
  go_loopw [3, 4] (fun v i wr => ∃ (k : Nat) (X : Option Addr) (cc : Nat), k ≤ n ∧ v = .slice X k cc ∧ i = .int .i64 (k : Int) ∧ Hid (wr.ownsRow wb.heap.size 3 1 (.slice X k cc) k (icells (depthsK g k))) ∧ Hid (Below wb.heap.size wb wr)) (fun _ i _ => n - (intOf i).toNat)
  case atStart => exact ⟨0, none, 0, Nat.zero_le _, rfl, rfl, ⟨rfl, .inl ⟨rfl, rfl⟩⟩, Below.refl _ _⟩
  case round =>
    obtain ⟨k, X, cc, hk, rfl, rfl, HO, HB⟩ := hrel
    obtain ⟨c0, cl, cf⟩ := HV.out.cell HB.out
    have hB := below16 HV.out.below HB.out
    have HB2 := Lib.hid hB
    by_cases hlt : k < n
    · have hkg : k < g.length := by have := HN.out; omega
      have d0 : decide ((k : Int) < (n : Int)) = true := decide_eq_true (by omega)
      obtain ⟨b, off, rfl, hb, hc⟩ := HR.out (by omega)
      obtain ⟨pA, pc, hs, -, -, hc1⟩ := hc k hkg
      have hpl := HPl.out k hkg
      obtain ⟨l, hll⟩ : ∃ l, l = (g.getD k nd0).preds := ⟨_, rfl⟩
      have hclo : ∀ p ∈ l, idxG g p < k := fun p hp => HOk.out.closed k hkg p (by rw [← hll]; exact hp)
      have HDk : Hid (depthsK g (k + 1) = depthsK g k ++ [topK (depthsK g k) g l l.length + 1]) := by show _ = _; rw [hll]; rfl
      rw [← hll] at hs hc1 hpl
      obtain ⟨pl, hpl0⟩ : ∃ m, m = l.length := ⟨_, rfl⟩
      rw [← hpl0] at hc1 hpl HDk
      have HPL := Lib.hid hpl0
      have HClo := Lib.hid hclo
      have HS := Lib.hid hs
      have HC1 : Hid (∀ W, Below w.heap.size w W → W.cell? ⟨b, off + k * 2 + 1, none⟩ = some (.slice pA pl pc)) := fun W hW => (hW.cell (p := ⟨b, off + k * 2 + 1, none⟩) hb).trans hc1
      have HTk : Hid (∀ j, topK (depthsK g k) g l j ≤ k) := topK_bound _ _ _ _ (fun i => depthsK_small g k i)
      obtain ⟨acc, hacc⟩ : ∃ a, a = depthsK g k := ⟨_, rfl⟩
      have hal : acc.length = k := by rw [hacc]; exact depthsK_len g k
      rw [← hacc] at HO HDk HTk
      have HAl := Lib.hid hal
      have u0 : (0 : Int) ≤ (k : Int) := by omega
      have u1 : (k : Int) < (n : Int) := by omega
      have q1 := HC1.out _ hB
      obtain ⟨wo, hwo⟩ : ∃ wo, wo = wr := ⟨_, rfl⟩
      rw [← hwo] at HO HB HB2 c0 cl cf q1 ⊢
      clear hll hpl0 hs hc hc1 HR hkg hB hb hclo hacc hal hwo
      go_wp2
      go_loopw [5, 6] (fun v i wr => ∃ (j : Nat), j ≤ pl ∧ v = .int .i64 ((topK acc g l j : Nat) : Int) ∧ i = .int .i64 (j : Int) ∧ Hid (Below wo.heap.size wo wr)) (fun _ i _ => pl - (intOf i).toNat)
      case atStart => exact ⟨0, Nat.zero_le _, rfl, rfl, Below.refl _ _⟩
      case round =>
        obtain ⟨j, hj, rfl, rfl, HI⟩ := hrel
        have HWb2 := Lib.hid (below16 HB.out HI.out)
        obtain ⟨c0, cl, cf⟩ := HV.out.cell HWb2.out
        have hB := below16 HB2.out HI.out
        have HB3 := Lib.hid hB
        have q1 := HC1.out _ hB
        have htj := HTk.out j
        by_cases hlt2 : j < pl
        · have d1 : decide ((j : Int) < (pl : Int)) = true := decide_eq_true (by omega)
          have hjl : j < l.length := by have := HPL.out; omega
          obtain ⟨pb, po, rfl, hpb, hpc⟩ := HS.out.at_ (by omega)
          have hpj := hpc j hjl
          obtain ⟨z, hz⟩ : ∃ z, z = l.getD j [] := ⟨_, rfl⟩
          rw [← hz] at hpj
          have hzl : z ∈ l := by
            rw [hz, List.getD, List.getElem?_eq_getElem hjl]
            exact List.getElem_mem hjl
          have hq := HClo.out z hzl
          have hT1 : topK acc g l (j + 1) = max (topK acc g l j) (acc.getD (idxG g z) 0) := by rw [hz]; rfl
          have hfz : idxZ g z = ((idxG g z : Nat) : Int) := if_pos (by have := HN.out; omega)
          obtain ⟨s, hs⟩ : ∃ s, s = text z := ⟨_, rfl⟩
          have HF2 : Hid (∀ W, Below w.heap.size w W → Calls Try.prog 47 #[.agg #[.slice (some ⟨b, off, none⟩) n c], .string s] W fun e w' => e = .returned (.int .i64 ((idxG g z : Nat) : Int)) ∧ Below W.heap.size W w') := fun W hW => by
            rw [hs, ← hfz]
            exact HFd.out z W hW
          obtain ⟨q, hqq⟩ : ∃ q, q = idxG g z := ⟨_, rfl⟩
          rw [← hqq] at hq hT1 HF2
          rw [← hs] at hpj
          have hns : NS wo wo.heap.size X acc := by
            have h1 := HO.out
            have h2 := HAl.out
            have h3 : wo.ownsRow wb.heap.size 3 1 (.slice X acc.length cc) acc.length (icells acc) := by rw [h2]; exact h1
            exact own_ns h3
          obtain ⟨rb, ro, rfl, hrb, hrc⟩ := hns.at_ (by have := HAl.out; omega)
          have hrq := hrc q (by have := HAl.out; omega)
          obtain ⟨dd, hdd⟩ : ∃ d, d = acc.getD q 0 := ⟨_, rfl⟩
          rw [← hdd] at hrq hT1
          have hdk : dd ≤ k := by
            have h1 := HTk.out (j + 1)
            omega
          have HSt : Hid (∀ W, Below wo.heap.size wo W → W.cell? ⟨w.heap.size, 0, none⟩ = some (.slice (some ⟨b, off, none⟩) n c) ∧ W.cell? ⟨b, off + k * 2 + 1, none⟩ = some (.slice (some ⟨pb, po, none⟩) pl pc) ∧ W.cell? ⟨pb, po + j, none⟩ = some (.string s) ∧ W.cell? ⟨rb, ro + q, none⟩ = some (.int .i64 (dd : Int))) := fun W hW => by
            have h1 := below16 HB2.out hW
            exact ⟨(HV.out.cell (below16 HB.out hW)).1, HC1.out W h1, (h1.cell (p := ⟨pb, po + j, none⟩) hpb).trans hpj, (hW.cell (p := ⟨rb, ro + q, none⟩) hrb).trans hrq⟩
          obtain ⟨tj, htjj⟩ : ∃ t, t = topK acc g l j := ⟨_, rfl⟩
          rw [← htjj] at hT1 htj ⊢
          have HT1 := Lib.hid hT1
          have v0 : (0 : Int) ≤ (j : Int) := by omega
          have v1 : (j : Int) < (pl : Int) := by omega
          have v2 : (0 : Int) ≤ (q : Int) := by omega
          have v3 : (q : Int) < (k : Int) := by omega
          have P0 : Below wo.heap.size wo wr.drew := HI.out.drew
          have h0 := HSt.out _ P0
          clear hz hzl hfz hs hqq hns hrc hrq hdd hpc hpj hpb hrb hjl hT1 htjj hB
          go_wp2
          go_region_held_law (fun w' => w'.cell? ⟨w.heap.size, 0, none⟩ = some (.slice (some ⟨b, off, none⟩) n c) ∧ w'.cell? ⟨b, off + k * 2 + 1, none⟩ = some (.slice (some ⟨pb, po, none⟩) pl pc) ∧ w'.cell? ⟨pb, po + j, none⟩ = some (.string s) ∧ w'.cell? ⟨rb, ro + q, none⟩ = some (.int .i64 (dd : Int)))
            (exact HSt.out _ (by assumption))
            (first
              | (go_at_call 47; (with_reducible refine (HF2.out _ (below16 HB2.out P0)).mono ?_); rintro e x1 ⟨rfl, b1⟩; have P1 : Below wo.heap.size wo x1 := below16 P0 b1))
          by_cases hgt : tj < dd
          · have d2 : decide ((dd : Int) > (tj : Int)) = true := decide_eq_true (by omega)
            have d3 : decide ((tj : Int) < (dd : Int)) = true := decide_eq_true (by omega)
            go_wp2
            go_roundw
            case rel => exact ⟨j + 1, by omega, by rw [HT1.out, Nat.max_eq_right (by omega)], by go_num, P1⟩
            case measure => simp [intOf]; omega
          · have d2 : decide ((dd : Int) > (tj : Int)) = false := decide_eq_false (by omega)
            have d3 : decide ((tj : Int) < (dd : Int)) = false := decide_eq_false (by omega)
            go_wp2
            go_roundw
            case rel => exact ⟨j + 1, by omega, by rw [HT1.out, Nat.max_eq_left (by omega)], by go_num, P1⟩
            case measure => simp [intOf]; omega
        · have d1 : decide ((j : Int) < (pl : Int)) = false := decide_eq_false (by omega)
          have hjp : j = pl := by omega
          subst hjp
          obtain ⟨tj, htjj⟩ : ∃ t, t = topK acc g l j := ⟨_, rfl⟩
          rw [← htjj] at htj HDk ⊢
          have ew : IntKind.i64.wrap ((tj : Int) + 1) = ((tj + 1 : Nat) : Int) := by rw [IntWalk.i64_in _ (by omega)]; omega
          have HO2 := Lib.hid (iown_kept HO.out HI.out)
          have z2 := HWb2.out.size
          clear htjj hB
          go_wp2_with (at_builtin; refine append_ione rfl (.tmp 44) (.tmp 47) rfl rfl HO2.out rfl rfl (by omega) z2 ?_; intro X7 cc7 w7 ho7 hb7)
          go_roundw
          case rel => exact ⟨k + 1, X7, cc7, by omega, rfl, by go_num, by rw [HDk.out]; exact ho7.out, HWb2.out.trans hb7.out⟩
          case measure => simp [intOf]; omega
    · have d0 : decide ((k : Int) < (n : Int)) = false := decide_eq_false (by omega)
      have hkn : k = n := by omega
      subst hkn
      have hyl : k = (depthsG g).length := by
        have h1 := HO.out.1
        rw [icells_length, HD.out] at h1
        omega
      have HNS : Hid (NS wr wr.heap.size X (depthsG g)) := by
        have h1 := HO.out
        rw [HD.out] at h1
        have h2 := h1
        rw [hyl] at h2
        exact own_ns h2
      have HYL := Lib.hid hyl
      clear hB hyl HR
      go_wp2
      go_ret
      exact ⟨X, cc, by rw [← HYL.out]; rfl, HNS, HB2⟩
theorem rdepth_any (g : Gr) (ok : GrOk g) (x : Bs) (A : Option Addr) (n c : Nat) (w : World) (hn : n = g.length) (h : NL w w.heap.size A g) (hl : n ≤ 5000) (hp : ∀ k, k < g.length → (g.getD k nd0).preds.length ≤ 1000000) :
    Calls Try.prog 21 #[.agg #[.slice A n c], .string (text x)] w fun e w' => e = .returned (.int .i64 ((depthG g x : Nat) : Int)) ∧ Below w.heap.size w w' := by
  obtain ⟨z, hz⟩ : ∃ z, z = idxZ g x := ⟨_, rfl⟩
  have HF : Hid (∀ W, Below w.heap.size w W → Calls Try.prog 47 #[.agg #[.slice A n c], .string (text x)] W fun e w' => e = .returned (.int .i64 z) ∧ Below W.heap.size W w') := fun W hb => by
    rw [hz]
    exact rfind_any g x A n c W hn (h.up hb) (by omega)
  have HDs : Hid (∀ W, Below w.heap.size w W → Calls Try.prog 50 #[.agg #[.slice A n c]] W (GivesNats (depthsG g) W)) := fun W hb => rdepths_any g ok A n c W hn (h.up hb) hl hp
  obtain ⟨t, ht⟩ : ∃ t, t = text x := ⟨_, rfl⟩
  rw [← ht] at HF ⊢
  have a27 := fun w' => Try.dagAgg w'
  have s27 := fun w' => Try.dagSize w'
  obtain ⟨wb, hwb⟩ : ∃ wb, wb = w.alloc (.cells #[.slice A n c] 27) := ⟨_, rfl⟩
  have HV : Hid (DgV w wb A n c) := hwb
  have HWb := Lib.hid hwb
  clear hwb ht
  obtain ⟨c0, cl, cf⟩ := HV.out.cell (Below.refl _ _)
  rw [HWb.out] at c0
  have HB := Lib.hid HV.out.below
  rw [HWb.out] at HB
  by_cases hx : x ∈ idsG g
  · have hi := idx_lt.2 hx
    rw [idxZ_pos hx] at hz
    obtain ⟨k, hk⟩ : ∃ k, k = idxG g x := ⟨_, rfl⟩
    rw [← hk] at hz hi
    have hD : depthG g x = (depthsG g).getD k 0 := by rw [hk]; rfl
    have hdl : (depthsG g).length = g.length := depthsK_len g _
    rw [hD]
    obtain ⟨l, hll⟩ : ∃ l, l = depthsG g := ⟨_, rfl⟩
    rw [← hll] at hdl HDs ⊢
    obtain ⟨ln, hln⟩ : ∃ m, m = l.length := ⟨_, rfl⟩
    have HDs2 : Hid (∀ W, Below w.heap.size w W → Calls Try.prog 50 #[.agg #[.slice A n c]] W fun e w' => ∃ rb ro c2, e = .returned (.slice (some ⟨rb, ro, none⟩) ln c2) ∧ Hid (w'.cell? ⟨rb, ro + k, none⟩ = some (.int .i64 (l.getD k 0 : Nat))) ∧ Hid (Below W.heap.size W w')) := fun W hb => (HDs.out W hb).mono fun e w' hh => by
      obtain ⟨A2, c2, q1, q2, q3⟩ := hh
      obtain ⟨rb, ro, rfl, -, hc⟩ := q2.out.at_ (by omega)
      exact ⟨rb, ro, c2, by rw [q1, hln], hc k (by omega), q3⟩
    obtain ⟨dd, hdd⟩ : ∃ d, d = l.getD k 0 := ⟨_, rfl⟩
    rw [← hdd] at HDs2 ⊢
    have hkl : k < ln := by omega
    subst hz
    have d1 : decide ((k : Int) < 0) = false := decide_eq_false (by omega)
    have u0 : (0 : Int) ≤ (k : Int) := by omega
    have u1 : (k : Int) < (ln : Int) := by omega
    clear hll hD hk hx hn h hi HDs hdl hln hdd hp ok hl hkl
    go_enter Try.func21, Try.ntmps21
    go_wp2_with (first
      | (go_at_call 47; (with_reducible refine (HF.out _ HB.out).mono ?_); rintro e w1 ⟨rfl, b1⟩; have B1 := Lib.hid (below16 HB.out b1); clear c0 cl cf; obtain ⟨c0, cl, cf⟩ := HV.out.cell (by rw [HWb.out]; exact b1))
      | (go_at_call 50; (with_reducible refine (HDs2.out _ B1.out).mono ?_); rintro e w2 ⟨rb, ro, c2, rfl, q1, b2⟩; have q1 := q1.out))
    go_ret
    exact ⟨rfl, below16 B1.out b2.out⟩
  · rw [idxZ_neg hx] at hz
    subst hz
    rw [depth_no hx]
    have d1 : decide ((-1 : Int) < 0) = true := by decide
    clear hx hn h hp ok
    go_enter Try.func21, Try.ntmps21
    go_wp2_with (go_at_call 47; (with_reducible refine (HF.out _ HB.out).mono ?_); rintro e w1 ⟨rfl, b1⟩)
    go_ret
    exact ⟨rfl, below16 HB.out b1⟩
end
end Go.Proofs.Ytbeihiokjhfepaa
