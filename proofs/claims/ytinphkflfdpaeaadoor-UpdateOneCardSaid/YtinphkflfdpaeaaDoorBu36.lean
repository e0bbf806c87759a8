/- Lemmas under the proofs of this place: OpRGetM, UpPOf, UpROf. No statement is proved here. -/
import Derived.Test.YtinphkflfdpaeaaDoorBu29
import Derived.Test.YtinphkflfdpaeaaDoorBu33
import Derived.Test.YtinphkflfdpaeaaDoorBu34
import Derived.Test.YtinphkflfdpaeaaDoorBu24
import Derived.Test.YtinphkflfdpaeaaDoorBu21
import Derived.Test.YtinphkflfdpaeaaDoorBu27
import Derived.Test.YtinphkflfdpaeaaDoorBu10
import Derived.Test.YtinphkflfdpaeaaDoorBu35
import Derived.Test.YtinphkflfdpaeaaDoorBu32
import Derived.Test.YtinphkflfdpaeaaDoorBu12
import Derived.Test.YtinphkflfdpaeaaDoorBu19
set_option linter.unusedSimpArgs false
set_option linter.unusedVariables false
set_option maxRecDepth 100000
set_option maxHeartbeats 16000000
namespace Go.Proofs.YtinphkflfdpaeaaDoor
section
open Go.RowKit
structure RefS (w W : World) (A : Option Addr) (M : List UInt8) (c C P : Nat) (st : St) (k : Int) (t1 t2 : ByteArray) (z : Int) (t3 : ByteArray) : Prop where
  cv : ∃ (X : Option Addr) (n m q : Nat) (b : Bool), RefV A M c (.agg #[.slice X n m, .int .i64 (q : Int), .bool b]) st ∧ Blk W C 57 #[.slice X n m, .int .i64 (q : Int), .bool b]
  var : Blk W P 24 (opC k t1 t2 z t3)
  res : Blk W w.heap.size 24 (opC 0 { data := #[] } { data := #[] } 0 { data := #[] })
  below : Below w.heap.size w W
  cw : w.heap.size < C
  pw : w.heap.size < P
  cp : C ≠ P
section
variable {w W W' : World} {A : Option Addr} {M : List UInt8} {c C P : Nat} {st st' : St} {k z : Int} {t1 t2 t3 : ByteArray}
theorem RefS.up (h : RefS w W A M c C P st k t1 t2 z t3) (hb : Below W.heap.size W W') : RefS w W' A M c C P st k t1 t2 z t3 := by
  obtain ⟨X, n, m, q, b, h1, h2⟩ := h.cv
  exact ⟨⟨X, n, m, q, b, h1, h2.below hb h2.lt⟩, h.var.below hb h.var.lt, h.res.below hb h.res.lt, h.below.trans (hb.mono h.below.size), h.cw, h.pw, h.cp⟩
theorem below_at {p : Nat} (h : Below w.heap.size w W) (hp : w.heap.size < p) (i : Nat) (u : Value) : Below w.heap.size w (W.setCell ⟨p, i, none⟩ u) :=
  h.trans ⟨rfl, rfl, rfl, by simp [World.setCell], fun j hj => Below.heap_setCell W ⟨p, i, none⟩ u j (fun e => by have e2 : j = p := e; omega)⟩
theorem RefS.setc (h : RefS w W A M c C P st k t1 t2 z t3) {X : Option Addr} {n m q : Nat} {b : Bool} (hv : RefV A M c (.agg #[.slice X n m, .int .i64 (q : Int), .bool b]) st') :
    RefS w (((W.setCell ⟨C, 0, none⟩ (.slice X n m)).setCell ⟨C, 1, none⟩ (.int .i64 (q : Int))).setCell ⟨C, 2, none⟩ (.bool b)) A M c C P st' k t1 t2 z t3 := by
  obtain ⟨X', n', m', q', b', h1, h2⟩ := h.cv
  have hr : w.heap.size ≠ C := by have := h.cw; omega
  refine ⟨⟨X, n, m, q, b, hv, ?_⟩, Blk.far (Blk.far (Blk.far h.var h.cp.symm _) h.cp.symm _) h.cp.symm _, Blk.far (Blk.far (Blk.far h.res hr _) hr _) hr _, below_at (below_at (below_at h.below h.cw 0 _) h.cw 1 _) h.cw 2 _, h.cw, h.pw, h.cp⟩
  have K := ((h2.set_ 0 (.slice X n m)).set_ 1 (.int .i64 (q : Int))).set_ 2 (.bool b)
  simpa using K
theorem RefS.setp (h : RefS w W A M c C P st k t1 t2 z t3) (i : Nat) (u : Value) {k' z' : Int} {t1' t2' t3' : ByteArray} (he : (opC k t1 t2 z t3).setIfInBounds i u = opC k' t1' t2' z' t3') : RefS w (W.setCell ⟨P, i, none⟩ u) A M c C P st k' t1' t2' z' t3' := by
  obtain ⟨X', n', m', q', b', h1, h2⟩ := h.cv
  have hr : w.heap.size ≠ P := by have := h.pw; omega
  refine ⟨⟨X', n', m', q', b', h1, h2.far h.cp u⟩, ?_, h.res.far hr u, below_at h.below h.pw i u, h.cw, h.pw, h.cp⟩
  have K := h.var.set_ i u
  rwa [he] at K
theorem RefS.set1 (h : RefS w W A M c C P st k t1 t2 z t3) (t : ByteArray) : RefS w (W.setCell ⟨P, 1, none⟩ (.string t)) A M c C P st k t t2 z t3 := h.setp 1 _ rfl
theorem RefS.set2 (h : RefS w W A M c C P st k t1 t2 z t3) (t : ByteArray) : RefS w (W.setCell ⟨P, 2, none⟩ (.string t)) A M c C P st k t1 t z t3 := h.setp 2 _ rfl
theorem RefS.set3 (h : RefS w W A M c C P st k t1 t2 z t3) (y : Int) : RefS w (W.setCell ⟨P, 3, none⟩ (.int .i64 y)) A M c C P st k t1 t2 y t3 := h.setp 3 _ rfl
theorem RefS.set4 (h : RefS w W A M c C P st k t1 t2 z t3) (t : ByteArray) : RefS w (W.setCell ⟨P, 4, none⟩ (.string t)) A M c C P st k t1 t2 z t := h.setp 4 _ rfl
def RefC (C P R : Nat) (W : World) (x0 x1 x2 : Value) (k : Int) (t1 t2 : ByteArray) (z : Int) (t3 : ByteArray) : Prop :=
  RdC P R W k t1 t2 z t3 ∧ C < W.heap.size ∧ W.cell? ⟨C, 0, none⟩ = some x0 ∧ W.cell? ⟨C, 1, none⟩ = some x1 ∧ W.cell? ⟨C, 2, none⟩ = some x2 ∧ (∀ i, W.frozen? ⟨C, i, none⟩ = false)
theorem RefS.cells (h : RefS w W A M c C P st k t1 t2 z t3) : ∃ (X : Option Addr) (n m q : Nat) (b : Bool), RefV A M c (.agg #[.slice X n m, .int .i64 (q : Int), .bool b]) st ∧ RefC C P w.heap.size W (.slice X n m) (.int .i64 (q : Int)) (.bool b) k t1 t2 z t3 := by
  obtain ⟨X, n, m, q, b, h1, h2⟩ := h.cv
  exact ⟨X, n, m, q, b, h1, ⟨h.var.lt, h.res.lt, h.var.cell 0, h.var.cell 1, h.var.cell 2, h.var.cell 3, h.var.cell 4, h.var.frozen, h.res.cell 0, h.res.cell 1, h.res.cell 2, h.res.cell 3, h.res.cell 4, h.res.frozen⟩, h2.lt, h2.cell 0, h2.cell 1, h2.cell 2, h2.frozen⟩
theorem RefC.up {R : Nat} {x0 x1 x2 : Value} (h : RefC C P R W x0 x1 x2 k t1 t2 z t3) (hb : Below W.heap.size W W') : RefC C P R W' x0 x1 x2 k t1 t2 z t3 := by
  obtain ⟨⟨a1, a2, b0, b1, b2, b3, b4, b5, c0, c1, c2, c3, c4, c5⟩, d0, d1, d2, d3, d4⟩ := h
  have u : ∀ {g i : Nat} {v : Value}, g < W.heap.size → W.cell? ⟨g, i, none⟩ = some v → W'.cell? ⟨g, i, none⟩ = some v := fun {g i v} hg hc => (hb.cell (p := ⟨g, i, none⟩) hg).trans hc
  have f : ∀ {g : Nat}, g < W.heap.size → (∀ i, W.frozen? ⟨g, i, none⟩ = false) → ∀ i, W'.frozen? ⟨g, i, none⟩ = false := fun {g} hg hc i => (hb.frozen (p := ⟨g, i, none⟩) hg).trans (hc i)
  exact ⟨⟨Nat.lt_of_lt_of_le a1 hb.size, Nat.lt_of_lt_of_le a2 hb.size, u a1 b0, u a1 b1, u a1 b2, u a1 b3, u a1 b4, f a1 b5, u a2 c0, u a2 c1, u a2 c2, u a2 c3, u a2 c4, f a2 c5⟩, Nat.lt_of_lt_of_le d0 hb.size, u d0 d1, u d0 d2, u d0 d3, f d0 d4⟩
theorem refv_boolO {a b : Value} {x : Bool} (h : RefV A M c (.agg #[a, b, .bool x]) st) : x = st.isNone := by
  rcases st with _ | L
  · have h' : Value.agg #[a, b, .bool x] = .agg #[.slice none 0 0, .int .i64 0, .bool true] := h
    simp only [Value.agg.injEq, Array.mk.injEq, List.cons.injEq, Value.bool.injEq, and_true] at h'
    exact h'.2.2
  · obtain ⟨k, h', _⟩ := h
    simp only [Value.agg.injEq, Array.mk.injEq, List.cons.injEq, Value.bool.injEq, and_true] at h'
    exact h'.2.2
theorem refv_left {v : Value} (h : RefV A M c v st) : leftN st ≤ M.length := by
  rcases st with _ | L
  · exact Nat.zero_le _
  · obtain ⟨k, _, hk, hL⟩ := h
    show L.length ≤ M.length
    rw [hL, List.length_drop]
    omega
end
def TkB (A : Option Addr) (M : List UInt8) (c B n : Nat) (L : List UInt8) (st : St) (W : World) (e : Ending) (w' : World) : Prop :=
  ∃ (Y : Option Addr) (ny my qy : Nat) (bo : Bool) (A1 : Option Addr) (c1 : Nat), e = .returned (.tuple #[.agg #[.slice Y ny my, .int .i64 (qy : Int), .bool bo], .slice A1 n c1]) ∧ Hid (RefV A M c (.agg #[.slice Y ny my, .int .i64 (qy : Int), .bool bo]) st) ∧ Hid (RB w' B A1 L) ∧ Hid (Below W.heap.size W w')
def TkN (A : Option Addr) (M : List UInt8) (c : Nat) (x : Nat) (st : St) (W : World) (e : Ending) (w' : World) : Prop :=
  ∃ (Y : Option Addr) (ny my qy : Nat) (bo : Bool), e = .returned (.tuple #[.agg #[.slice Y ny my, .int .i64 (qy : Int), .bool bo], .int .i64 (x : Int)]) ∧ Hid (RefV A M c (.agg #[.slice Y ny my, .int .i64 (qy : Int), .bool bo]) st) ∧ Hid (Below W.heap.size W w')
theorem tkB_of {A : Option Addr} {M : List UInt8} {c B n : Nat} {L : List UInt8} {st : St} {r : St × List UInt8} {W : World} {e : Ending} {w' : World} (h : GivesRefB A M c B r W e w') (hr : r = (st, L)) (hn : n = L.length) : TkB A M c B n L st W e w' := by
  obtain ⟨y0, y1, y2, A1, c1, he, hv, hrb, hb⟩ := h
  obtain ⟨Y, ny, my, qy, bo, rfl, rfl, rfl⟩ := refv_parts hv
  subst hr
  subst hn
  exact ⟨Y, ny, my, qy, bo, A1, c1, he, hv, hrb, hb⟩
theorem tkN_of {A : Option Addr} {M : List UInt8} {c x : Nat} {st : St} {r : St × Nat} {W : World} {e : Ending} {w' : World} (h : GivesRefN A M c r W e w') (hr : r = (st, x)) : TkN A M c x st W e w' := by
  obtain ⟨y0, y1, y2, he, hv, hb⟩ := h
  obtain ⟨Y, ny, my, qy, bo, rfl, rfl, rfl⟩ := refv_parts hv
  subst hr
  exact ⟨Y, ny, my, qy, bo, he, hv, hb⟩
theorem and_noO {a b : Bool} (h : false = (a && b)) : a = false ∨ b = false := by cases a <;> cases b <;> simp_all
theorem and_yesO {a b : Bool} (h : true = (a && b)) : a = true ∧ b = true := by cases a <;> cases b <;> simp_all
theorem rget_no {b : List UInt8} {st : St} {o : Opn} (h : readO (some b) = (st, o)) (hx : st.isNone = true ∨ o.mayB = false ∨ o.bytes ≠ b.take (b.length - leftN st)) : GetsO b none := by
  intro p k hp
  have h2 := read_begins hp
  rw [h] at h2
  simp only [Prod.mk.injEq] at h2
  obtain ⟨h3, h4⟩ := h2
  subst h3
  subst h4
  rcases hx with hx | hx | hx
  · cases hx
  · rw [(mayB_iff o).2 hp.1] at hx; cases hx
  · apply hx
    have e : b.length - leftN (some (b.drop k)) = k := by
      show b.length - (b.drop k).length = k
      rw [List.length_drop]
      have := hp.2.1
      omega
    rw [e]
    exact hp.2.2.symm
theorem rget_yes {b : List UInt8} {st : St} {o : Opn} (hm : o.mayB = true) (hx : o.bytes = b.take (b.length - leftN st)) : GetsO b (some (o, b.length - leftN st)) :=
  ⟨(mayB_iff o).1 hm, Nat.sub_le _ _, hx.symm⟩
end
section
open Go.RowKit
theorem upitem_new (L : List UInt8) (n : Nat) (A : Option Addr) (c : Nat) (w : World) (hT : Tab w) (hn : n = L.length) (hr : RB w w.heap.size A L) (hc : n ≤ c) (hcm : c ≤ 9223372036854775807) (hl : n ≤ 100000) :
    Calls Tryd.prog 17 #[.slice A n c] w fun e w' => ∃ C d, e = .returned (.agg #[.string (text (idL L)), .slice C n d]) ∧ Hid (RB w' w'.heap.size C L) ∧ Hid (∀ ad, C = some ad → w.heap.size < ad.block) ∧ Hid (Below w.heap.size w w') := by
  have HI : Hid (∀ W, Below w.heap.size w W → Calls Tryd.prog 39 #[.slice A n c] W fun e w' => e = .returned (.string (text (idL L))) ∧ Below W.heap.size W w') := fun W hW => id_any L A n c w.heap.size W (hr.below hW) hW.size (Tab.below hT hW) hn (by omega) (by omega) hcm
  have HC : Hid (∀ W, Below w.heap.size w W → Calls Tryd.prog 40 #[.slice A n c] W fun e w' => ∃ C d, e = .returned (.slice C n d) ∧ Hid (RB w' w'.heap.size C L) ∧ Hid (∀ ad, C = some ad → W.heap.size ≤ ad.block) ∧ Hid (Below W.heap.size W w')) := fun W hW => by
    have h := clone_any L A c w.heap.size W (hr.below hW) (by omega)
    rw [← hn] at h
    refine h.mono fun e w' hh => ?_
    obtain ⟨C, d, h1, h2, h3⟩ := hh
    exact ⟨C, d, by rw [hn]; exact h1, own_rb h2, own_newO h2, h3⟩
  have HN := Lib.hid hn
  obtain ⟨t, ht⟩ : ∃ t, t = text (idL L) := ⟨_, rfl⟩
  rw [← ht] at HI
  have HT := Lib.hid ht
  clear ht hn hr hT
  have HR := Lib.hid (Blk.new w 36 #[.string { data := #[] }, .slice none 0 0])
  have HB0 := Lib.hid (show Below w.heap.size w (w.alloc (.cells #[.string { data := #[] }, .slice none 0 0] 36)) from (Below.refl _ _).alloc (Nat.le_refl _) _)
  have nb := fun w' => Tryd.itemZero w'
  have a36 := fun w' => Tryd.itemAgg w'
  have s36 := fun w' => Tryd.itemSize w'
  have kl := HR.out.lt
  go_enter Tryd.func17, Tryd.ntmps17
  go_wp2_with (first
    | (go_at_call 40; (with_reducible refine (HC.out _ B1.out).mono ?_); rintro e w2 ⟨C, d, rfl, r2, n2, b2⟩; have hK2 := hK1.below b2.out kl1; have k0 := hK2.cell 0; have k1 := hK2.cell 1; have kf := hK2.frozen; have kl2 := hK2.lt)
    | (go_at_call 39; (with_reducible refine (HI.out _ HB0.out).mono ?_); rintro e w1 ⟨rfl, b1⟩; have B1 := Lib.hid (chainU HB0.out b1); have hK1 := HR.out.below b1 kl; have kl1 := hK1.lt))
  obtain ⟨E, hE⟩ : ∃ E, E = (w2.setCell ⟨w.heap.size, 0, none⟩ (.string t)).setCell ⟨w.heap.size, 1, none⟩ (.slice C n d) := ⟨_, rfl⟩
  obtain ⟨⟨y0, y1⟩, hbE⟩ := item_end (chainU B1.out b2.out) hK2 (Nat.le_refl _) hE
  have hrE : RB E E.heap.size C L := by
    rw [hE]
    refine rb_item r2.out (fun ad e2 e3 => ?_)
    have := n2.out ad e2
    omega
  (try rw [← hE])
  refine bodyPost_ret (v := .agg #[.string t, .slice C n d]) (by simp [results, Tryd.results17, go_sem, y0, y1]) rfl ?_
  exact ⟨C, d, by rw [HT.out], hrE, (fun ad e => Nat.lt_of_lt_of_le kl1 (n2.out ad e)), hbE⟩
theorem upitem_any (L : List UInt8) (n : Nat) (A : Option Addr) (c : Nat) (w : World) (hT : Tab w) (hn : n = L.length) (hr : RB w w.heap.size A L) (hc : n ≤ c) (hcm : c ≤ 9223372036854775807) (hl : n ≤ 100000) :
    Calls Tryd.prog 17 #[.slice A n c] w (ItemU L w) := (upitem_new L n A c w hT hn hr hc hcm hl).mono fun e w' hh => by
  obtain ⟨C, d, h1, h2, h3, h4⟩ := hh
  exact ⟨C, d, by rw [h1, hn], h2, h4.out⟩
theorem upof_any (u : Upd) (A : Option Addr) (c : Nat) (w : World) (hT : Tab w) (hr : SS w w.heap.size A u.preds) (hn : u.preds.length ≤ 1000) (hc : u.preds.length ≤ c) (hcm : c ≤ 9223372036854775807) (ho : u.op.name.length ≤ 1000000) (ho2 : u.op.text.length ≤ 1000000) :
    Calls Tryd.prog 11 #[updV u A c] w (OfU u w) := by
  have HP : Hid (∀ W, Below w.heap.size w W → Calls Tryd.prog 8 #[updV u A c] W (PutsU u W)) := fun W hW => upput_any u A c W ((hr.below hW).more hW.size) hn hc hcm ho ho2
  have HL := Lib.hid u.out_len
  have HI : Hid (∀ (W : World) (C : Option Addr) (d : Nat), Below w.heap.size w W → u.out.length ≤ d → d ≤ 9223372036854775807 → RB W W.heap.size C u.out → Calls Tryd.prog 17 #[.slice C u.out.length d] W fun e w' => ∃ C d, e = .returned (.agg #[.string (text (idL u.out)), .slice C u.out.length d]) ∧ Hid (RB w' w'.heap.size C u.out) ∧ Hid (∀ ad, C = some ad → W.heap.size < ad.block) ∧ Hid (Below W.heap.size W w')) := fun W C d hW h1 h2 h => upitem_new u.out _ C d W (Tab.below hT hW) rfl h h1 h2 (by have := HL.out; omega)
  have HD : Hid ((u.check = 0 → u.idw = idL u.out) ∧ (u.check ≠ 0 → u.idw = [] ∧ u.out = [])) := ⟨fun h => if_pos h, fun h => ⟨if_neg h, if_neg h⟩⟩
  obtain ⟨OU, hOU⟩ : ∃ P, P = OfU u w := ⟨_, rfl⟩
  have HG : Hid (∀ {e : Ending} {w' : World} (C : Option Addr) (d : Nat), e = .returned (.tuple #[.agg #[.string (text u.idw), .slice C u.out.length d], .int .i64 u.check]) → RB w' w'.heap.size C u.out → Below w.heap.size w w' → OU e w') := fun C d h1 h2 h3 => by rw [hOU]; exact ⟨C, d, h1, h2, h3⟩
  rw [← hOU]
  clear hOU HL
  have HPU : Hid (∀ {W : World} {e : Ending} {w' : World}, PutsU u W e w' → ∃ C d, e = .returned (.tuple #[.slice C u.out.length d, .int .i64 u.check]) ∧ Hid (RB w' w'.heap.size C u.out) ∧ Hid (u.out.length ≤ d ∧ d ≤ 9223372036854775807) ∧ Hid (Below W.heap.size W w')) := fun h => by
    obtain ⟨C, d, h1, h2, h3⟩ := h
    exact ⟨C, d, h1, own_rb h2.out, ⟨own_le h2.out, own_cap h2.out⟩, h3⟩
  obtain ⟨id, hid⟩ : ∃ x, x = text (idL u.out) := ⟨_, rfl⟩
  rw [← hid] at HI
  have Hid1 := Lib.hid hid
  obtain ⟨y, hy⟩ : ∃ y, y = u.check := ⟨_, rfl⟩
  rw [← hy] at HPU HG HD
  obtain ⟨m, hm⟩ : ∃ m, m = u.out.length := ⟨_, rfl⟩
  rw [← hm] at HPU HG HI
  have HM := Lib.hid hm
  clear hid hy hm
  have hr := Lib.hid hr
  obtain ⟨v, hv⟩ : ∃ v, v = u := ⟨_, rfl⟩
  have HP2 : Hid (∀ W, Below w.heap.size w W → Calls Tryd.prog 8 #[updV u A c] W fun e w' => ∃ C d, e = .returned (.tuple #[.slice C m d, .int .i64 y]) ∧ Hid (RB w' w'.heap.size C u.out) ∧ Hid (m ≤ d ∧ d ≤ 9223372036854775807) ∧ Hid (Below W.heap.size W w')) := fun W hW => (HP.out W hW).mono fun e w' hh => HPU.out hh
  obtain ⟨UO, hUO⟩ : ∃ x, x = u.out := ⟨_, rfl⟩
  obtain ⟨UI, hUI⟩ : ∃ x, x = u.idw := ⟨_, rfl⟩
  rw [← hUO] at HP2 HG HI HD Hid1 HM
  rw [← hUI] at HG HD
  clear hv v HPU HP hUO hUI hr hn ho ho2 hc hcm hT
  obtain ⟨a, p, k, nm, tx, z, x⟩ := u
  obtain ⟨t1, h1⟩ : ∃ t, t = text nm := ⟨_, rfl⟩
  obtain ⟨t2, h2⟩ : ∃ t, t = text tx := ⟨_, rfl⟩
  obtain ⟨t3, h3⟩ : ∃ t, t = text x := ⟨_, rfl⟩
  obtain ⟨n, hnn⟩ : ∃ n, n = p.length := ⟨_, rfl⟩
  have eU : updV ⟨a, p, k, nm, tx, z, x⟩ A c = .agg #[.int .i64 a, .slice A n c, .int .i64 k, .string t1, .string t2, .int .i64 z, .string t3] := by rw [h1, h2, h3, hnn]; rfl
  rw [eU] at HP2 ⊢
  clear h1 h2 h3 hnn eU
  obtain ⟨wb, hwb⟩ : ∃ wb, wb = w.alloc (.cells #[.int .i64 a, .slice A n c, .int .i64 k, .string t1, .string t2, .int .i64 z, .string t3] 26) := ⟨_, rfl⟩
  have hb0 : Below w.heap.size w wb := by rw [hwb]; exact (Below.refl _ _).alloc (Nat.le_refl _) _
  have hsz : wb.heap.size = w.heap.size + 1 := by rw [hwb]; simp
  have HR0 := Blk.new wb 36 #[.string { data := #[] }, .slice none 0 0]
  rw [hsz] at HR0
  have HB0 := Lib.hid (hb0.alloc hb0.size (.cells #[.string { data := #[] }, .slice none 0 0] 36))
  have HR := Lib.hid HR0
  have kl := HR.out.lt
  subst hwb
  clear hsz HR0 hb0
  have nb := fun w' => Tryd.itemZero w'
  have a36 := fun w' => Tryd.itemAgg w'
  have s36 := fun w' => Tryd.itemSize w'
  have a26 := fun w' => Tryd.updAgg w'
  have s26 := fun w' => Tryd.updSize w'
  by_cases hy : y = 0
  · subst hy
    go_enter Tryd.func11, Tryd.ntmps11
    go_wp2_with (first
      | (go_at_call 17; (with_reducible refine (HI.out _ _ _ B1.out n1.out.1 n1.out.2 r1.out).mono ?_); rintro e w2 ⟨C2, d2, rfl, r2, n2, b2⟩; have hK2 := hK1.below b2.out kl1; have k0 := hK2.cell 0; have k1 := hK2.cell 1; have kf := hK2.frozen; have kl2 := hK2.lt)
      | (go_at_call 8; (with_reducible refine (HP2.out _ HB0.out).mono ?_); rintro e w1 ⟨C, d, rfl, r1, n1, b1⟩; have B1 := Lib.hid (chainU HB0.out b1.out); have hK1 := HR.out.below b1.out kl; have kl1 := hK1.lt))
    obtain ⟨E, hE⟩ : ∃ E, E = (w2.setCell ⟨w.heap.size + 1, 0, none⟩ (.string id)).setCell ⟨w.heap.size + 1, 1, none⟩ (.slice C2 m d2) := ⟨_, rfl⟩
    obtain ⟨⟨y0, y1⟩, hbE⟩ := item_end (chainU B1.out b2.out) hK2 (by omega) hE
    have hrE : RB E E.heap.size C2 UO := by
      rw [hE]
      refine rb_item r2.out (fun ad e2 e3 => ?_)
      have := n2.out ad e2
      omega
    (try rw [← hE])
    refine bodyPost_ret (v := .tuple #[.agg #[.string id, .slice C2 m d2], .int .i64 0]) (by simp [results, Tryd.results11, go_sem, y0, y1]) rfl ?_
    exact HG.out C2 d2 (by rw [HD.out.1 (by trivial), Hid1.out]) hrE hbE
  · have hyd : decide (y = 0) = false := decide_eq_false hy
    go_enter Tryd.func11, Tryd.ntmps11
    go_wp2_with (first
      | (go_at_call 8; (with_reducible refine (HP2.out _ HB0.out).mono ?_); rintro e w1 ⟨C, d, rfl, r1, n1, b1⟩; have hK1 := HR.out.below b1.out kl; have k0 := hK1.cell 0; have k1 := hK1.cell 1; have kf := hK1.frozen; have kl1 := hK1.lt))
    obtain ⟨E, hE⟩ : ∃ E, E = (w1.setCell ⟨w.heap.size + 1, 0, none⟩ (.string { data := #[] })).setCell ⟨w.heap.size + 1, 1, none⟩ (.slice none 0 0) := ⟨_, rfl⟩
    obtain ⟨⟨y0, y1⟩, hbE⟩ := item_end (chainU HB0.out b1.out) hK1 (by omega) hE
    (try rw [← hE])
    refine bodyPost_ret (v := .tuple #[.agg #[.string { data := #[] }, .slice none 0 0], .int .i64 y]) (by simp [results, Tryd.results11, go_sem, y0, y1]) rfl ?_
    obtain ⟨e1, e2⟩ := HD.out.2 hy
    exact HG.out none 0 (by rw [e1, HM.out, e2]; rfl) (by rw [e2]; exact RB.none_ _ _) hbE
end
section
open Go.RowKit
theorem ruitem_any (L : List UInt8) (A : Option Addr) (n c : Nat) (w : World) (hn : n = L.length) (hr : RB w w.heap.size A L) (hl : n ≤ 100000) :
    Calls Tryd.prog 29 #[.slice A n c] w fun e w' => e = .returned (itemV L A c) ∧ Below w.heap.size w w' := by
  have HI : Hid (∀ W, Below w.heap.size w W → Calls Tryd.prog 18 #[.slice A n c] W fun e w' => e = .returned (.string (text (idL L))) ∧ Below W.heap.size W w') := fun W hW => refID_any L A c w.heap.size W (hr.below hW) n hn.symm hl
  have eV : itemV L A c = .agg #[.string (text (idL L)), .slice A n c] := by rw [hn]; rfl
  rw [eV]
  obtain ⟨t, ht⟩ : ∃ t, t = text (idL L) := ⟨_, rfl⟩
  rw [← ht] at HI ⊢
  clear ht hn hr eV
  have HR := Lib.hid (Blk.new w 36 #[.string { data := #[] }, .slice none 0 0])
  have HB0 := Lib.hid (show Below w.heap.size w (w.alloc (.cells #[.string { data := #[] }, .slice none 0 0] 36)) from (Below.refl _ _).alloc (Nat.le_refl _) _)
  have nb := fun w' => Tryd.itemZero w'
  have a36 := fun w' => Tryd.itemAgg w'
  have s36 := fun w' => Tryd.itemSize w'
  have hK := HR.out
  have k0 := hK.cell 0
  have k1 := hK.cell 1
  have kf := hK.frozen
  have kl := hK.lt
  go_enter Tryd.func29, Tryd.ntmps29
  go_wp2_with (first
    | (go_at_call 18; (with_reducible refine (HI.out _ HB0.out).mono ?_); rintro e w1 ⟨rfl, b1⟩; have hK1 := HR.out.below b1 kl; clear k0 k1 kf kl hK; have k0 := hK1.cell 0; have k1 := hK1.cell 1; have kf := hK1.frozen; have kl := hK1.lt))
  obtain ⟨E, hE⟩ : ∃ E, E = (w1.setCell ⟨w.heap.size, 0, none⟩ (.string t)).setCell ⟨w.heap.size, 1, none⟩ (.slice A n c) := ⟨_, rfl⟩
  obtain ⟨⟨y0, y1⟩, hbE⟩ := item_end (chainU HB0.out b1) hK1 (Nat.le_refl _) hE
  (try rw [← hE])
  refine bodyPost_ret (v := .agg #[.string t, .slice A n c]) (by simp [results, Tryd.results29, go_sem, y0, y1]) rfl ?_
  exact ⟨rfl, hbE⟩
theorem ruof_any (u : Upd) (A : Option Addr) (c B : Nat) (w : World) (hr : SS w B A u.preds) (hB : B ≤ w.heap.size) (hn : u.preds.length ≤ 1000000) (ho : u.op.name.length ≤ 1000000) :
    Calls Tryd.prog 12 #[updV u A c] w (OfU u w) := by
  have HP : Hid (∀ W, Below w.heap.size w W → Calls Tryd.prog 9 #[updV u A c] W (PutsU u W)) := fun W hW => ruput_any u A c B W (hr.below (hW.mono hB)) (Nat.le_trans hB hW.size) hn ho
  have HL := Lib.hid u.out_len
  have HI : Hid (∀ (W : World) (C : Option Addr) (d : Nat), RB W W.heap.size C u.out → Calls Tryd.prog 29 #[.slice C u.out.length d] W fun e w' => e = .returned (.agg #[.string (text (idL u.out)), .slice C u.out.length d]) ∧ Below W.heap.size W w') := fun W C d h => ruitem_any u.out C _ d W rfl h (by have := HL.out; omega)
  have HD : Hid ((u.check = 0 → u.idw = idL u.out) ∧ (u.check ≠ 0 → u.idw = [] ∧ u.out = [])) := ⟨fun h => if_pos h, fun h => ⟨if_neg h, if_neg h⟩⟩
  obtain ⟨OU, hOU⟩ : ∃ P, P = OfU u w := ⟨_, rfl⟩
  have HG : Hid (∀ {e : Ending} {w' : World} (C : Option Addr) (d : Nat), e = .returned (.tuple #[.agg #[.string (text u.idw), .slice C u.out.length d], .int .i64 u.check]) → RB w' w'.heap.size C u.out → Below w.heap.size w w' → OU e w') := fun C d h1 h2 h3 => by rw [hOU]; exact ⟨C, d, h1, h2, h3⟩
  rw [← hOU]
  clear hOU HL
  have HPU : Hid (∀ {W : World} {e : Ending} {w' : World}, PutsU u W e w' → ∃ C d, e = .returned (.tuple #[.slice C u.out.length d, .int .i64 u.check]) ∧ Hid (RB w' w'.heap.size C u.out) ∧ Hid (∀ ad, C = some ad → W.heap.size ≤ ad.block) ∧ Hid (Below W.heap.size W w')) := fun h => by
    obtain ⟨C, d, h1, h2, h3⟩ := h
    exact ⟨C, d, h1, own_rb h2.out, own_newO h2.out, h3⟩
  obtain ⟨id, hid⟩ : ∃ x, x = text (idL u.out) := ⟨_, rfl⟩
  rw [← hid] at HI
  have Hid1 := Lib.hid hid
  obtain ⟨y, hy⟩ : ∃ y, y = u.check := ⟨_, rfl⟩
  rw [← hy] at HPU HG HD
  obtain ⟨m, hm⟩ : ∃ m, m = u.out.length := ⟨_, rfl⟩
  rw [← hm] at HPU HG HI
  have HM := Lib.hid hm
  clear hid hy hm
  have hr := Lib.hid hr
  obtain ⟨v, hv⟩ : ∃ v, v = u := ⟨_, rfl⟩
  have HP2 : Hid (∀ W, Below w.heap.size w W → Calls Tryd.prog 9 #[updV u A c] W fun e w' => ∃ C d, e = .returned (.tuple #[.slice C m d, .int .i64 y]) ∧ Hid (RB w' w'.heap.size C u.out) ∧ Hid (∀ ad, C = some ad → W.heap.size ≤ ad.block) ∧ Hid (Below W.heap.size W w')) := fun W hW => (HP.out W hW).mono fun e w' hh => HPU.out hh
  obtain ⟨UO, hUO⟩ : ∃ x, x = u.out := ⟨_, rfl⟩
  obtain ⟨UI, hUI⟩ : ∃ x, x = u.idw := ⟨_, rfl⟩
  rw [← hUO] at HP2 HG HI HD Hid1 HM
  rw [← hUI] at HG HD
  clear hv v HPU HP hUO hUI hr hn ho
  obtain ⟨a, p, k, nm, tx, z, x⟩ := u
  obtain ⟨t1, h1⟩ : ∃ t, t = text nm := ⟨_, rfl⟩
  obtain ⟨t2, h2⟩ : ∃ t, t = text tx := ⟨_, rfl⟩
  obtain ⟨t3, h3⟩ : ∃ t, t = text x := ⟨_, rfl⟩
  obtain ⟨n, hnn⟩ : ∃ n, n = p.length := ⟨_, rfl⟩
  have eU : updV ⟨a, p, k, nm, tx, z, x⟩ A c = .agg #[.int .i64 a, .slice A n c, .int .i64 k, .string t1, .string t2, .int .i64 z, .string t3] := by rw [h1, h2, h3, hnn]; rfl
  rw [eU] at HP2 ⊢
  clear h1 h2 h3 hnn eU
  obtain ⟨wb, hwb⟩ : ∃ wb, wb = w.alloc (.cells #[.int .i64 a, .slice A n c, .int .i64 k, .string t1, .string t2, .int .i64 z, .string t3] 26) := ⟨_, rfl⟩
  have hb0 : Below w.heap.size w wb := by rw [hwb]; exact (Below.refl _ _).alloc (Nat.le_refl _) _
  have hsz : wb.heap.size = w.heap.size + 1 := by rw [hwb]; simp
  have HR0 := Blk.new wb 36 #[.string { data := #[] }, .slice none 0 0]
  rw [hsz] at HR0
  have HB0 := Lib.hid (hb0.alloc hb0.size (.cells #[.string { data := #[] }, .slice none 0 0] 36))
  have HR := Lib.hid HR0
  have kl := HR.out.lt
  subst hwb
  clear hsz HR0 hb0
  have nb := fun w' => Tryd.itemZero w'
  have a36 := fun w' => Tryd.itemAgg w'
  have s36 := fun w' => Tryd.itemSize w'
  have a26 := fun w' => Tryd.updAgg w'
  have s26 := fun w' => Tryd.updSize w'
  by_cases hy : y = 0
  · subst hy
    go_enter Tryd.func12, Tryd.ntmps12
    go_wp2_with (first
      | (go_at_call 29; (with_reducible refine (HI.out _ _ _ r1.out).mono ?_); rintro e w2 ⟨rfl, b2⟩; have hK2 := hK1.below b2 kl1; have k0 := hK2.cell 0; have k1 := hK2.cell 1; have kf := hK2.frozen; have kl2 := hK2.lt)
      | (go_at_call 9; (with_reducible refine (HP2.out _ HB0.out).mono ?_); rintro e w1 ⟨C, d, rfl, r1, n1, b1⟩; have hK1 := HR.out.below b1.out kl; have kl1 := hK1.lt))
    obtain ⟨E, hE⟩ : ∃ E, E = (w2.setCell ⟨w.heap.size + 1, 0, none⟩ (.string id)).setCell ⟨w.heap.size + 1, 1, none⟩ (.slice C m d) := ⟨_, rfl⟩
    obtain ⟨⟨y0, y1⟩, hbE⟩ := item_end (chainU (chainU HB0.out b1.out) b2) hK2 (by omega) hE
    have hrE : RB E E.heap.size C UO := by
      rw [hE]
      refine rb_item ((r1.out.below b2).more b2.size) (fun ad e2 e3 => ?_)
      have := n1.out ad e2
      omega
    (try rw [← hE])
    refine bodyPost_ret (v := .tuple #[.agg #[.string id, .slice C m d], .int .i64 0]) (by simp [results, Tryd.results12, go_sem, y0, y1]) rfl ?_
    exact HG.out C d (by rw [HD.out.1 (by trivial), Hid1.out]) hrE hbE
  · have hyd : decide (y = 0) = false := decide_eq_false hy
    go_enter Tryd.func12, Tryd.ntmps12
    go_wp2_with (first
      | (go_at_call 9; (with_reducible refine (HP2.out _ HB0.out).mono ?_); rintro e w1 ⟨C, d, rfl, r1, n1, b1⟩; have hK1 := HR.out.below b1.out kl; have k0 := hK1.cell 0; have k1 := hK1.cell 1; have kf := hK1.frozen; have kl1 := hK1.lt))
    obtain ⟨E, hE⟩ : ∃ E, E = (w1.setCell ⟨w.heap.size + 1, 0, none⟩ (.string { data := #[] })).setCell ⟨w.heap.size + 1, 1, none⟩ (.slice none 0 0) := ⟨_, rfl⟩
    obtain ⟨⟨y0, y1⟩, hbE⟩ := item_end (chainU HB0.out b1.out) hK1 (by omega) hE
    (try rw [← hE])
    refine bodyPost_ret (v := .tuple #[.agg #[.string { data := #[] }, .slice none 0 0], .int .i64 y]) (by simp [results, Tryd.results12, go_sem, y0, y1]) rfl ?_
    obtain ⟨e1, e2⟩ := HD.out.2 hy
    exact HG.out none 0 (by rw [e1, HM.out, e2]; rfl) (by rw [e2]; exact RB.none_ _ _) hbE
end
end Go.Proofs.YtinphkflfdpaeaaDoor
