/- Lemmas under the proofs of this place: WalLDo. No statement is proved here. -/
import Derived.Test.YtghenhacndaelaaGreatBs32
import Derived.Test.YtghenhacndaelaaGreatBs28
import Derived.Test.YtghenhacndaelaaGreatBu16
import Derived.Test.YtghenhacndaelaaGreatBu21
import Derived.Deep.RegionHeld3
import Derived.Deep.CutRange
set_option linter.unusedSimpArgs false
set_option linter.unusedVariables false
set_option maxRecDepth 100000
set_option maxHeartbeats 16000000
namespace Go.Proofs.YtghenhacndaelaaGreat
open Go.RowKit
open Wal
structure Wx where
 kind : Int
 n : Int
 m : Int
 data : List UInt8
 masks : List Int
structure WV (w : World) (x : Wx) (dA : Option Addr) (dc : Nat) (mA : Option Addr) (mc : Nat) : Prop where
 rb : RB w w.heap.size dA x.data
 ri : RI w w.heap.size mA x.masks
 dc1 : x.data.length ≤ dc
 dc2 : dc ≤ 9223372036854775807
 n : InI x.n
 m : InI x.m
def wxC (x : Wx) (dA : Option Addr) (dc : Nat) (mA : Option Addr) (mc : Nat) : Array Value := #[.int .i64 x.kind, .int .i64 x.n, .int .i64 x.m, .slice dA x.data.length dc, .slice mA x.masks.length mc]
theorem Tryz.deed13Agg (w : World) : (isAgg 42).run Tryz.prog w = .ok true w := by kernel_rfl
theorem Tryz.deed13Size (w : World) : (sizeOf 42).run Tryz.prog w = .ok 5 w := by kernel_rfl
theorem blkW5 {W : World} {g : Nat} {t : TypeId} {a b d e f : Value} (h : Blk W g t #[a, b, d, e, f]) : W.cell? ⟨g, 0, none⟩ = some a ∧ W.cell? ⟨g, 1, none⟩ = some b ∧ W.cell? ⟨g, 2, none⟩ = some d ∧ W.cell? ⟨g, 3, none⟩ = some e ∧ W.cell? ⟨g, 4, none⟩ = some f :=
 ⟨by rw [h.cell]; rfl, by rw [h.cell]; rfl, by rw [h.cell]; rfl, by rw [h.cell]; rfl, by rw [h.cell]; rfl⟩
structure At13 (w0 w : World) (gw g q gb : Nat) (F E G B : Nat → Prop) (d e : Dk) (lo : PL) (ro : RL) (lo0 : PL) (ro0 : RL) (cs : Array Value) : Prop where
 bo : Bo w0 w gw g q F E G B d e lo ro
 k : Blk w gw 36 (worldC g q lo0 ro0)
 kb : Blk w gb 42 cs
 gbo : (¬ F gb ∧ ¬ E gb) ∧ ¬ G gb ∧ (∀ x, ro = some x → gb ≠ x.2.1)
section
variable {w0 w w' : World} {gw g q gb : Nat} {F F' E E' G G' B : Nat → Prop} {d d' e e' : Dk} {lo : PL} {ro : RL} {lo0 : PL} {ro0 : RL} {cs : Array Value} {l l' : Lg} {lg lr : Nat} {A : Option Addr} {c : Nat}
theorem At13.start (h : Bo w0 w gw g q F E G B d e lo ro) (hk : Blk w gw 36 (worldC g q lo ro)) (cs : Array Value) : At13 w0 (w.alloc (.cells cs 42)) gw g q w.heap.size F E G B d e lo ro lo ro cs :=
 ⟨h.more ((Below.refl _ _).alloc (Nat.le_refl _) _), hk.alloc _, Blk.new w _ _, ⟨fun hf => by have := h.two.p.flt _ hf; omega, fun hf => by have := (h.ef _ hf).2.2.2.2; omega⟩, fun hf => by have := h.two.r.glt _ hf; omega, fun x hx e => by have := (h.rl x hx).1.blk.lt; omega⟩
theorem At13.more (h : At13 w0 w gw g q gb F E G B d e lo ro lo0 ro0 cs) (hb : Below w.heap.size w w') : At13 w0 w' gw g q gb F E G B d e lo ro lo0 ro0 cs :=
 ⟨h.bo.more hb, h.k.below hb h.k.lt, h.kb.below hb h.kb.lt, h.gbo⟩
theorem At13.prog (h : At13 w0 w gw g q gb F E G B d e (some (l, lg)) ro lo0 ro0 cs) (hd : PDeedsL d' l' F E w w' g lg) : ∃ F' E', At13 w0 w' gw g q gb F' E' G B d' e (some (l', lg)) ro lo0 ro0 cs := by
 obtain ⟨F', E', hp, hL, hx, ht⟩ := hd
 have hno : ∀ b, b < w.heap.size → ¬ F b → ¬ E b → ¬ F' b ∧ ¬ E' b := fun b hb h1 h2 => ⟨fun h3 => by
  rcases ht.foot b (.inl h3) with (h4 | h4) | h4
  ·exact h1 h4
  ·exact h2 h4
  ·omega, fun h3 => by
  rcases ht.foot b (.inr h3) with (h4 | h4) | h4
  ·exact h1 h4
  ·exact h2 h4
  ·omega⟩
 have hn : ∀ b, ¬ F b → ¬ E b → ¬ (F b ∨ E b) := fun b h1 h2 h3 => h3.elim h1 h2
 exact ⟨F', E', h.bo.prog hp hL hx ht, h.k.turns ht (hn _ h.bo.gwo.1 h.bo.gwo.2.1), h.kb.turns ht (hn _ h.gbo.1.1 h.gbo.1.2), hno gb h.kb.lt h.gbo.1.1 h.gbo.1.2, h.gbo.2.1, h.gbo.2.2⟩
theorem At13.progD (h : At13 w0 w gw g q gb F E G B d e lo ro lo0 ro0 cs) (hd : Deeds d' F w w' g) : At13 w0 w' gw g q gb F E G B d' e lo ro lo0 ro0 cs :=
 ⟨h.bo.progD hd, h.k.turns hd.2 h.bo.gwo.1, h.kb.turns hd.2 h.gbo.1.1, h.gbo⟩
theorem At13.refL (h : At13 w0 w gw g q gb F E G B d e lo (some (l, lr, A, c)) lo0 ro0 cs) (hd : LDeeds e' l' G B w w' q lr A) : ∃ G' B' A' c', At13 w0 w' gw g q gb F E G' B' d e' lo (some (l', lr, A', c')) lo0 ro0 cs := by
 obtain ⟨G1, B1, A1, c1, hr, hl, hA, ht, hb⟩ := hd
 have h1 := h.gbo.2.2 _ rfl
 have hgw := ((h.bo.rl _ rfl).2.1).2.2.1
 refine ⟨G1, B1, A1, c1, ?_⟩
 have hk := h.k.turns ht (fun hg => hg.elim h.bo.gwo.2.2.1 fun e => hgw e.symm)
 have hkb := h.kb.turns ht (fun hg => hg.elim h.gbo.2.1 h1)
 have hB2 : Bo w0 w' gw g q F E G1 B1 d e' lo (some (l', lr, A1, c1)) := h.bo.refL' hr hl hA ht hb
 refine ⟨hB2, hk, hkb, h.gbo.1, fun hg => ?_, fun x hx => ?_⟩
 ·rcases ht.foot gb (.inl hg) with (h3 | h3) | h3
  ·exact h.gbo.2.1 h3
  ·exact h1 h3
  ·have := h.kb.lt; omega
 ·obtain rfl := Option.some.inj hx
  exact h1
theorem At13.refS (h : At13 w0 w gw g q gb F E G B d e lo ro lo0 ro0 cs) (hr : RDisk w' q G B e') (ht : Turns w w' G G) : At13 w0 w' gw g q gb F E G B d e' lo ro lo0 ro0 cs :=
 ⟨h.bo.refS hr ht, h.k.turns ht h.bo.gwo.2.2.1, h.kb.turns ht h.gbo.2.1, h.gbo⟩
end
theorem At13.refD {w0 w w' : World} {gw g q gb : Nat} {F E G B : Nat → Prop} {d e e' : Dk} {lo lo0 : PL} {ro ro0 : RL} {cs : Array Value} (h : At13 w0 w gw g q gb F E G B d e lo ro lo0 ro0 cs) (hd : RDeeds e' G B w w' q) : ∃ G' B', At13 w0 w' gw g q gb F E G' B' d e' lo ro lo0 ro0 cs := by
 obtain ⟨G', B', hr, ht, hb⟩ := hd
 refine ⟨G', B', h.bo.refD' hr ht hb, h.k.turns ht h.bo.gwo.2.2.1, h.kb.turns ht h.gbo.2.1, h.gbo.1, fun hg => ?_, h.gbo.2.2⟩
 rcases ht.foot gb hg with h3 | h3
 ·exact h.gbo.2.1 h3
 ·have := h.kb.lt; omega
theorem ldeeds_turn {w w' : World} {q lr : Nat} {G B : Nat → Prop} {d : Dk} {l1 : Lg} {A A' : Option Addr} {c' : Nat} (h : RDisk w q G B d) (hl : RLogA w' lr q G B l1 A' c') (ht : Turns w w' (fun k => k = lr) (fun k => k = lr)) (hA : ∀ ad, A' = some ad → A = some ad) : LDeeds d l1 G B w w' q lr A :=
 ⟨G, B, A', c', h.turns ht (fun k hk e => hl.out (e ▸ hk)) (fun k hk e => hl.outB (e ▸ hk)), hl, fun ad e => .inl (hA ad e), ht.wide (fun k hk => .inr hk) (fun k hk => .inl hk), fun _ h => .inl h⟩
theorem pdeeds_turn {w w' : World} {g lg : Nat} {F E E' : Nat → Prop} {d : Dk} {l1 : Lg} (h : PDisk w g F d) (hL : PLog w' lg g E' l1) (ht : Turns w w' E E') (hd : ∀ k, E k → ¬ F k) : PDeedsL d l1 F E w w' g lg :=
 ⟨F, E', h.turns ht (fun k hk he => hd k he hk), hL, fun k hk hf => by
  rcases ht.foot k hk with h1 | h1
  ·exact hd k h1 hf
  ·have := h.flt k hf; omega, ht.wide (fun k hk => .inr hk) (fun k hk => by
  rcases hk with h1 | h1
  ·exact .inl (.inl h1)
  ·exact .inr (.inl h1))⟩
def DoneW (w0 w' : World) (gw g q : Nat) (d : Dk) : Prop := ∃ d' lo', LW w0 w' gw g q d' lo' ∧ Keep d d' 1400
section
variable {w0 w : World} {gw g q : Nat} {d : Dk}
theorem At13.cells {W : World} {gb : Nat} {F E G B : Nat → Prop} {d e : Dk} {lo lo0 : PL} {ro ro0 : RL} {x : Wx} {dA mA : Option Addr} {dc mc : Nat} (h : At13 w0 W gw g q gb F E G B d e lo ro lo0 ro0 (wxC x dA dc mA mc)) : (W.cell? ⟨gw, 0, none⟩ = some (.pointer (some ⟨g, 0, none⟩)) ∧ W.cell? ⟨gw, 1, none⟩ = some (plV lo0) ∧ W.cell? ⟨gw, 2, none⟩ = some (.pointer (some ⟨q, 0, none⟩)) ∧ W.cell? ⟨gw, 3, none⟩ = some (rlV ro0)) ∧ W.cell? ⟨gb, 0, none⟩ = some (.int .i64 x.kind) ∧ W.cell? ⟨gb, 1, none⟩ = some (.int .i64 x.n) ∧ W.cell? ⟨gb, 2, none⟩ = some (.int .i64 x.m) ∧ W.cell? ⟨gb, 3, none⟩ = some (.slice dA x.data.length dc) ∧ W.cell? ⟨gb, 4, none⟩ = some (.slice mA x.masks.length mc) := ⟨blkW4 h.k, blkW5 h.kb⟩
theorem At13.lw {W : World} {gb : Nat} {F E G B : Nat → Prop} {e : Dk} {l0 l1 : Lg} {lg lr : Nat} {A A0 : Option Addr} {c c0 : Nat} {cs : Array Value} (h : At13 w0 W gw g q gb F E G B e e (some (l1, lg)) (some (l1, lr, A, c)) (some (l0, lg)) (some (l0, lr, A0, c0)) cs) (hf : l1.fit e.safe.length) : LW w0 W gw g q e (some l1) :=
 ⟨F, E, G, B, _, _, h.bo, h.k, rfl, rfl, fun x hx => by obtain rfl := Option.some.inj hx; exact hf⟩
theorem At13.lw0 {W : World} {gb : Nat} {F E G B : Nat → Prop} {e : Dk} {lo : PL} {ro : RL} {l : Option Lg} {cs : Array Value} (h : At13 w0 W gw g q gb F E G B e e lo ro lo ro cs) (h1 : lo.map (·.1) = l) (h2 : ro.map (·.1) = l) (hf : ∀ x, l = some x → x.fit e.safe.length) : LW w0 W gw g q e l :=
 ⟨F, E, G, B, _, _, h.bo, h.k, h1, h2, hf⟩
theorem LW.some {l : Lg} (h : LW w0 w gw g q d (some l)) : ∃ F E G B lg lr A c, Bo w0 w gw g q F E G B d d (some (l, lg)) (some (l, lr, A, c)) ∧ Blk w gw 36 (worldC g q (some (l, lg)) (some (l, lr, A, c))) ∧ l.fit d.safe.length := by
 obtain ⟨F, E, G, B, pl, rl, hb, hk, h1, h2, h3⟩ := h
 cases pl with
 | none => cases h1
 | some y =>
  cases rl with
  | none => cases h2
  | some z =>
   obtain ⟨l', lg⟩ := y
   obtain ⟨l'', lr, A, c⟩ := z
   have e1 : l' = l := Option.some.inj h1
   have e2 : l'' = l := Option.some.inj h2
   subst e1
   subst e2
   exact ⟨F, E, G, B, lg, lr, A, c, hb, hk, h3 _ rfl⟩
theorem ldo_append {l : Lg} (h : LW w0 w gw g q d (some l)) (x : Wx) (dA mA : Option Addr) (dc mc : Nat) (hv : WV w0 x dA dc mA mc) (hk : x.kind = 1) (hx : x.data.length ≤ 700) (hl : d.load ≤ 75000) (hs : d.safe.length = 16) :
  Calls Tryz.prog 11 #[.pointer (some ⟨gw, 0, none⟩), .agg (wxC x dA dc mA mc)] w fun e w' => e = .returned (.bool true) ∧ DoneW w0 w' gw g q d := by
 obtain ⟨F, E, G, B, lg, lr, A, c, hb, hkk, hf⟩ := h.some
 obtain ⟨gb, hgb⟩ : ∃ k, k = w.heap.size := ⟨_, rfl⟩
 have hA0 := At13.start hb hkk (wxC x dA dc mA mc)
 rw [← hgb] at hA0
 have hb0 := hb.two.p.below
 have a42 := fun w' => Tryz.deed13Agg w'
 have s42 := fun w' => Tryz.deed13Size w'
 obtain ⟨n, hn⟩ : ∃ n, n = x.data.length := ⟨_, rfl⟩
 obtain ⟨mn, hmn⟩ : ∃ n, n = x.masks.length := ⟨_, rfl⟩
 obtain ⟨xn, hxn⟩ : ∃ n, n = x.n := ⟨_, rfl⟩
 obtain ⟨xm, hxm⟩ : ∃ n, n = x.m := ⟨_, rfl⟩
 obtain ⟨d1, l1, er, hr⟩ : ∃ d1 l1 er, appendW d l x.data = (d1, l1, er) := ⟨_, _, _, rfl⟩
 have hkp := keep_append (d := d) (t := x.data) hf
 rw [hr] at hkp
 have HKp := Lib.hid hkp
 have hrb : ∀ W, Below w0.heap.size w0 W → RB W W.heap.size dA x.data := fun W hW => rb_up7 hv.rb hW
 have H1 : Hid (∀ W, At13 w0 W gw g q gb F E G B d d (some (l, lg)) (some (l, lr, A, c)) (some (l, lg)) (some (l, lr, A, c)) (wxC x dA dc mA mc) → Calls Tryz.prog 16 #[.pointer (some ⟨lg, 0, none⟩), .slice dA n dc] W fun e w' => e = .returned (.int .i64 er) ∧ ∃ F' E', Hid (At13 w0 w' gw g q gb F' E' G B d1 d (some (l1, lg)) (some (l, lr, A, c)) (some (l, lg)) (some (l, lr, A, c)) (wxC x dA dc mA mc))) := fun W hW => by
  have h5 := wappend_any hW.bo.two.p.disk (hW.bo.pl _ rfl) (fun k hk => (hW.bo.ef k hk).1) x.data n dA dc hn (by omega) (hrb W hW.bo.two.p.below) (fun h0 ad e => by
   obtain ⟨ad', e', hb', _⟩ := hv.rb.2 (by omega)
   rw [e] at e'
   obtain rfl := Option.some.inj e'
   exact ⟨fun hf => by have := hW.bo.two.p.own _ hf; omega, fun hf => by have := (hW.bo.ef _ hf).2.2.2.1; omega⟩) (by rw [hn]; exact hv.dc1) hv.dc2 (by omega) hf (by omega) rfl
  rw [hr] at h5
  refine h5.mono fun e w' hh => ⟨hh.1, ?_⟩
  exact hW.prog hh.2
 have H2 : Hid (∀ W F' E', At13 w0 W gw g q gb F' E' G B d1 d (some (l1, lg)) (some (l, lr, A, c)) (some (l, lg)) (some (l, lr, A, c)) (wxC x dA dc mA mc) → Calls Tryz.prog 31 #[.pointer (some ⟨lr, 0, none⟩), .slice dA n dc] W fun e w' => e = .returned (.int .i64 er) ∧ ∃ G' B' A' c', Hid (At13 w0 w' gw g q gb F' E' G' B' d1 d1 (some (l1, lg)) (some (l1, lr, A', c')) (some (l, lg)) (some (l, lr, A, c)) (wxC x dA dc mA mc))) := fun W F' E' hW => by
  have h5 := rappend_any hW.bo.two.r (hW.bo.rl _ rfl).1 x.data n dA dc hn (by omega) (hrb W hW.bo.two.p.below) (by rw [hn]; exact hv.dc1) hv.dc2 (by omega) hf (by omega)
  rw [hr] at h5
  refine h5.mono fun e w' hh => ⟨hh.1, ?_⟩
  exact hW.refL hh.2
 have HC : Hid (∀ W F E G B d e lo ro, At13 w0 W gw g q gb F E G B d e lo ro (some (l, lg)) (some (l, lr, A, c)) (wxC x dA dc mA mc) → (W.cell? ⟨gw, 0, none⟩ = some (.pointer (some ⟨g, 0, none⟩)) ∧ W.cell? ⟨gw, 1, none⟩ = some (.pointer (some ⟨lg, 0, none⟩)) ∧ W.cell? ⟨gw, 2, none⟩ = some (.pointer (some ⟨q, 0, none⟩)) ∧ W.cell? ⟨gw, 3, none⟩ = some (.pointer (some ⟨lr, 0, none⟩))) ∧ W.cell? ⟨gb, 0, none⟩ = some (.int .i64 1) ∧ W.cell? ⟨gb, 1, none⟩ = some (.int .i64 xn) ∧ W.cell? ⟨gb, 2, none⟩ = some (.int .i64 xm) ∧ W.cell? ⟨gb, 3, none⟩ = some (.slice dA n dc) ∧ W.cell? ⟨gb, 4, none⟩ = some (.slice mA mn mc)) := fun W F E G B d e lo ro hW => by
  have := hW.cells
  rw [hk, ← hn, ← hmn, ← hxn, ← hxm] at this
  exact this
 unfold wxC at hA0 ⊢
 rw [hk, ← hn, ← hmn, ← hxn, ← hxm] at hA0 ⊢
 obtain ⟨wb, hwb⟩ : ∃ W, W = w.alloc (.cells #[.int .i64 1, .int .i64 xn, .int .i64 xm, .slice dA n dc, .slice mA mn mc] 42) := ⟨_, rfl⟩
 rw [← hwb] at hA0
 have HA0 : Hid (At13 w0 wb gw g q gb F E G B d d (some (l, lg)) (some (l, lr, A, c)) (some (l, lg)) (some (l, lr, A, c)) (wxC x dA dc mA mc)) := by
  show At13 _ _ _ _ _ _ _ _ _ _ _ _ _ _ _ _ _
  unfold wxC
  rw [hk, ← hn, ← hmn, ← hxn, ← hxm]
  exact hA0
 have Hwb := Lib.hid hwb
 have Hgb := Lib.hid hgb
 clear h hb hkk hf hA0 hb0 hv hk hx hl hs hn hmn hxn hxm hgb hwb
 go_enter Tryz.func11, Tryz.ntmps11
 go_upto_region 1 with (fail)
 rw [← Hwb.out, ← Hgb.out]
 have HAd := Lib.hid (HA0.out.more (Below.refl wb.heap.size wb).drew)
 obtain ⟨⟨c0, c1, c2, c3⟩, b0, b1, b2, b3, b4⟩ := HC.out _ _ _ _ _ _ _ _ _ HA0.out
 have s0 := HC.out _ _ _ _ _ _ _ _ _ HAd.out
 go_wp2
 go_region_held3 (fun W => (W.cell? ⟨gw, 0, none⟩ = some (.pointer (some ⟨g, 0, none⟩)) ∧ W.cell? ⟨gw, 1, none⟩ = some (.pointer (some ⟨lg, 0, none⟩)) ∧ W.cell? ⟨gw, 2, none⟩ = some (.pointer (some ⟨q, 0, none⟩)) ∧ W.cell? ⟨gw, 3, none⟩ = some (.pointer (some ⟨lr, 0, none⟩))) ∧ W.cell? ⟨gb, 0, none⟩ = some (.int .i64 1) ∧ W.cell? ⟨gb, 1, none⟩ = some (.int .i64 xn) ∧ W.cell? ⟨gb, 2, none⟩ = some (.int .i64 xm) ∧ W.cell? ⟨gb, 3, none⟩ = some (.slice dA n dc) ∧ W.cell? ⟨gb, 4, none⟩ = some (.slice mA mn mc))
  (first | exact s0 | exact s1 | exact s2)
  (first
   | (go_at_call 16; (with_reducible refine (H1.out _ HAd.out).mono ?_); rintro e w1 ⟨rfl, F1, E1, hA1⟩; have s1 := HC.out _ _ _ _ _ _ _ _ _ hA1.out)
   | (go_at_call 31; (with_reducible refine (H2.out _ _ _ hA1.out).mono ?_); rintro e w2 ⟨rfl, G2, B2, A2, c2, hA2⟩; have s2 := HC.out _ _ _ _ _ _ _ _ _ hA2.out))
 all_goals
  go_wp2
  go_ret
  exact ⟨rfl, d1, some l1, hA2.out.lw (by rw [HKp.out.1.1]; exact HKp.out.2), HKp.out.1.more (by omega)⟩
theorem ldo_turn {l : Lg} (h : LW w0 w gw g q d (some l)) (x : Wx) (dA mA : Option Addr) (dc mc : Nat) (hv : WV w0 x dA dc mA mc) (hk : x.kind = 2) (hx : x.data.length ≤ 700) (hl : d.load ≤ 75000) (hs : d.safe.length = 16) :
  Calls Tryz.prog 11 #[.pointer (some ⟨gw, 0, none⟩), .agg (wxC x dA dc mA mc)] w fun e w' => e = .returned (.bool true) ∧ DoneW w0 w' gw g q d := by
 obtain ⟨F, E, G, B, lg, lr, A, c, hb, hkk, hf⟩ := h.some
 obtain ⟨gb, hgb⟩ : ∃ k, k = w.heap.size := ⟨_, rfl⟩
 have hA0 := At13.start hb hkk (wxC x dA dc mA mc)
 rw [← hgb] at hA0
 have hb0 := hb.two.p.below
 have a42 := fun w' => Tryz.deed13Agg w'
 have s42 := fun w' => Tryz.deed13Size w'
 obtain ⟨n, hn⟩ : ∃ n, n = x.data.length := ⟨_, rfl⟩
 obtain ⟨mn, hmn⟩ : ∃ n, n = x.masks.length := ⟨_, rfl⟩
 obtain ⟨xn, hxn⟩ : ∃ n, n = x.n := ⟨_, rfl⟩
 obtain ⟨xm, hxm⟩ : ∃ n, n = x.m := ⟨_, rfl⟩
 obtain ⟨l1, er, hr⟩ : ∃ l1 er, turnW l x.n = (l1, er) := ⟨_, _, rfl⟩
 have hkp := turn_fit hf x.n
 rw [hr] at hkp
 have HKp := Lib.hid hkp
 have H1 : Hid (∀ W, At13 w0 W gw g q gb F E G B d d (some (l, lg)) (some (l, lr, A, c)) (some (l, lg)) (some (l, lr, A, c)) (wxC x dA dc mA mc) → Calls Tryz.prog 18 #[.pointer (some ⟨lg, 0, none⟩), .int .i64 xn] W fun e w' => e = .returned (.int .i64 er) ∧ ∃ F' E', Hid (At13 w0 w' gw g q gb F' E' G B d d (some (l1, lg)) (some (l, lr, A, c)) (some (l, lg)) (some (l, lr, A, c)) (wxC x dA dc mA mc))) := fun W hW => by
  have h5 := wturn_any (hW.bo.pl _ rfl) x.n hv.n hf
  rw [hr, ← hxn] at h5
  refine h5.mono fun e w' hh => ⟨hh.1, ?_⟩
  obtain ⟨E', h7, h8⟩ := hh.2
  exact hW.prog (pdeeds_turn hW.bo.two.p.disk h7 h8 (fun k hk => (hW.bo.ef k hk).1))
 have H2 : Hid (∀ W F' E', At13 w0 W gw g q gb F' E' G B d d (some (l1, lg)) (some (l, lr, A, c)) (some (l, lg)) (some (l, lr, A, c)) (wxC x dA dc mA mc) → Calls Tryz.prog 32 #[.pointer (some ⟨lr, 0, none⟩), .int .i64 xn] W fun e w' => e = .returned (.int .i64 er) ∧ ∃ G' B' A' c', Hid (At13 w0 w' gw g q gb F' E' G' B' d d (some (l1, lg)) (some (l1, lr, A', c')) (some (l, lg)) (some (l, lr, A, c)) (wxC x dA dc mA mc))) := fun W F' E' hW => by
  have h5 := rturn_any (hW.bo.rl _ rfl).1 x.n
  rw [hr, ← hxn] at h5
  refine h5.mono fun e w' hh => ⟨hh.1, ?_⟩
  exact hW.refL (ldeeds_turn hW.bo.two.r hh.2.1 hh.2.2 (fun _ e => e))
 have HC : Hid (∀ W F E G B d e lo ro, At13 w0 W gw g q gb F E G B d e lo ro (some (l, lg)) (some (l, lr, A, c)) (wxC x dA dc mA mc) → (W.cell? ⟨gw, 0, none⟩ = some (.pointer (some ⟨g, 0, none⟩)) ∧ W.cell? ⟨gw, 1, none⟩ = some (.pointer (some ⟨lg, 0, none⟩)) ∧ W.cell? ⟨gw, 2, none⟩ = some (.pointer (some ⟨q, 0, none⟩)) ∧ W.cell? ⟨gw, 3, none⟩ = some (.pointer (some ⟨lr, 0, none⟩))) ∧ W.cell? ⟨gb, 0, none⟩ = some (.int .i64 2) ∧ W.cell? ⟨gb, 1, none⟩ = some (.int .i64 xn) ∧ W.cell? ⟨gb, 2, none⟩ = some (.int .i64 xm) ∧ W.cell? ⟨gb, 3, none⟩ = some (.slice dA n dc) ∧ W.cell? ⟨gb, 4, none⟩ = some (.slice mA mn mc)) := fun W F E G B d e lo ro hW => by
  have := hW.cells
  rw [hk, ← hn, ← hmn, ← hxn, ← hxm] at this
  exact this
 unfold wxC at hA0 ⊢
 rw [hk, ← hn, ← hmn, ← hxn, ← hxm] at hA0 ⊢
 obtain ⟨wb, hwb⟩ : ∃ W, W = w.alloc (.cells #[.int .i64 2, .int .i64 xn, .int .i64 xm, .slice dA n dc, .slice mA mn mc] 42) := ⟨_, rfl⟩
 rw [← hwb] at hA0
 have HA0 : Hid (At13 w0 wb gw g q gb F E G B d d (some (l, lg)) (some (l, lr, A, c)) (some (l, lg)) (some (l, lr, A, c)) (wxC x dA dc mA mc)) := by
  show At13 _ _ _ _ _ _ _ _ _ _ _ _ _ _ _ _ _
  unfold wxC
  rw [hk, ← hn, ← hmn, ← hxn, ← hxm]
  exact hA0
 have Hwb := Lib.hid hwb
 have Hgb := Lib.hid hgb
 clear h hb hkk hf hA0 hb0 hv hk hx hl hs hn hmn hxn hxm hgb hwb
 go_enter Tryz.func11, Tryz.ntmps11
 go_upto_region 1 with (fail)
 rw [← Hwb.out, ← Hgb.out]
 have HAd := Lib.hid (HA0.out.more (Below.refl wb.heap.size wb).drew)
 obtain ⟨⟨c0, c1, c2, c3⟩, b0, b1, b2, b3, b4⟩ := HC.out _ _ _ _ _ _ _ _ _ HA0.out
 have s0 := HC.out _ _ _ _ _ _ _ _ _ HAd.out
 go_wp2
 go_region_held3 (fun W => (W.cell? ⟨gw, 0, none⟩ = some (.pointer (some ⟨g, 0, none⟩)) ∧ W.cell? ⟨gw, 1, none⟩ = some (.pointer (some ⟨lg, 0, none⟩)) ∧ W.cell? ⟨gw, 2, none⟩ = some (.pointer (some ⟨q, 0, none⟩)) ∧ W.cell? ⟨gw, 3, none⟩ = some (.pointer (some ⟨lr, 0, none⟩))) ∧ W.cell? ⟨gb, 0, none⟩ = some (.int .i64 2) ∧ W.cell? ⟨gb, 1, none⟩ = some (.int .i64 xn) ∧ W.cell? ⟨gb, 2, none⟩ = some (.int .i64 xm) ∧ W.cell? ⟨gb, 3, none⟩ = some (.slice dA n dc) ∧ W.cell? ⟨gb, 4, none⟩ = some (.slice mA mn mc))
  (first | exact s0 | exact s1 | exact s2)
  (first
   | (go_at_call 18; (with_reducible refine (H1.out _ HAd.out).mono ?_); rintro e w1 ⟨rfl, F1, E1, hA1⟩; have s1 := HC.out _ _ _ _ _ _ _ _ _ hA1.out)
   | (go_at_call 32; (with_reducible refine (H2.out _ _ _ hA1.out).mono ?_); rintro e w2 ⟨rfl, G2, B2, A2, c2, hA2⟩; have s2 := HC.out _ _ _ _ _ _ _ _ _ hA2.out))
 all_goals
  go_wp2
  go_ret
  exact ⟨rfl, d, some l1, hA2.out.lw HKp.out, (Keep.refl d).more (by omega)⟩
theorem ldo_reset {l : Lg} (h : LW w0 w gw g q d (some l)) (x : Wx) (dA mA : Option Addr) (dc mc : Nat) (hv : WV w0 x dA dc mA mc) (hk : x.kind = 3) (hx : x.data.length ≤ 700) (hl : d.load ≤ 75000) (hs : d.safe.length = 16) :
  Calls Tryz.prog 11 #[.pointer (some ⟨gw, 0, none⟩), .agg (wxC x dA dc mA mc)] w fun e w' => e = .returned (.bool true) ∧ DoneW w0 w' gw g q d := by
 obtain ⟨F, E, G, B, lg, lr, A, c, hb, hkk, hf⟩ := h.some
 obtain ⟨gb, hgb⟩ : ∃ k, k = w.heap.size := ⟨_, rfl⟩
 have hA0 := At13.start hb hkk (wxC x dA dc mA mc)
 rw [← hgb] at hA0
 have hb0 := hb.two.p.below
 have a42 := fun w' => Tryz.deed13Agg w'
 have s42 := fun w' => Tryz.deed13Size w'
 obtain ⟨n, hn⟩ : ∃ n, n = x.data.length := ⟨_, rfl⟩
 obtain ⟨mn, hmn⟩ : ∃ n, n = x.masks.length := ⟨_, rfl⟩
 obtain ⟨xn, hxn⟩ : ∃ n, n = x.n := ⟨_, rfl⟩
 obtain ⟨xm, hxm⟩ : ∃ n, n = x.m := ⟨_, rfl⟩
 obtain ⟨l1, er, hr⟩ : ∃ l1 er, resetW l x.n = (l1, er) := ⟨_, _, rfl⟩
 have hkp := reset_fit hf x.n
 rw [hr] at hkp
 have HKp := Lib.hid hkp
 have H1 : Hid (∀ W, At13 w0 W gw g q gb F E G B d d (some (l, lg)) (some (l, lr, A, c)) (some (l, lg)) (some (l, lr, A, c)) (wxC x dA dc mA mc) → Calls Tryz.prog 21 #[.pointer (some ⟨lg, 0, none⟩), .int .i64 xn] W fun e w' => e = .returned (.int .i64 er) ∧ ∃ F' E', Hid (At13 w0 w' gw g q gb F' E' G B d d (some (l1, lg)) (some (l, lr, A, c)) (some (l, lg)) (some (l, lr, A, c)) (wxC x dA dc mA mc))) := fun W hW => by
  have h5 := wreset_any (hW.bo.pl _ rfl) x.n hv.n hf
  rw [hr, ← hxn] at h5
  refine h5.mono fun e w' hh => ⟨hh.1, ?_⟩
  obtain ⟨E', h7, h8⟩ := hh.2
  exact hW.prog (pdeeds_turn hW.bo.two.p.disk h7 h8 (fun k hk => (hW.bo.ef k hk).1))
 have H2 : Hid (∀ W F' E', At13 w0 W gw g q gb F' E' G B d d (some (l1, lg)) (some (l, lr, A, c)) (some (l, lg)) (some (l, lr, A, c)) (wxC x dA dc mA mc) → Calls Tryz.prog 33 #[.pointer (some ⟨lr, 0, none⟩), .int .i64 xn] W fun e w' => e = .returned (.int .i64 er) ∧ ∃ G' B' A' c', Hid (At13 w0 w' gw g q gb F' E' G' B' d d (some (l1, lg)) (some (l1, lr, A', c')) (some (l, lg)) (some (l, lr, A, c)) (wxC x dA dc mA mc))) := fun W F' E' hW => by
  have h5 := rreset_any (hW.bo.rl _ rfl).1 x.n
  rw [hr, ← hxn] at h5
  refine h5.mono fun e w' hh => ⟨hh.1, ?_⟩
  exact hW.refL (let ⟨_, _, h7, h8⟩ := hh.2.1; ldeeds_turn hW.bo.two.r h7 hh.2.2 h8)
 have HC : Hid (∀ W F E G B d e lo ro, At13 w0 W gw g q gb F E G B d e lo ro (some (l, lg)) (some (l, lr, A, c)) (wxC x dA dc mA mc) → (W.cell? ⟨gw, 0, none⟩ = some (.pointer (some ⟨g, 0, none⟩)) ∧ W.cell? ⟨gw, 1, none⟩ = some (.pointer (some ⟨lg, 0, none⟩)) ∧ W.cell? ⟨gw, 2, none⟩ = some (.pointer (some ⟨q, 0, none⟩)) ∧ W.cell? ⟨gw, 3, none⟩ = some (.pointer (some ⟨lr, 0, none⟩))) ∧ W.cell? ⟨gb, 0, none⟩ = some (.int .i64 3) ∧ W.cell? ⟨gb, 1, none⟩ = some (.int .i64 xn) ∧ W.cell? ⟨gb, 2, none⟩ = some (.int .i64 xm) ∧ W.cell? ⟨gb, 3, none⟩ = some (.slice dA n dc) ∧ W.cell? ⟨gb, 4, none⟩ = some (.slice mA mn mc)) := fun W F E G B d e lo ro hW => by
  have := hW.cells
  rw [hk, ← hn, ← hmn, ← hxn, ← hxm] at this
  exact this
 unfold wxC at hA0 ⊢
 rw [hk, ← hn, ← hmn, ← hxn, ← hxm] at hA0 ⊢
 obtain ⟨wb, hwb⟩ : ∃ W, W = w.alloc (.cells #[.int .i64 3, .int .i64 xn, .int .i64 xm, .slice dA n dc, .slice mA mn mc] 42) := ⟨_, rfl⟩
 rw [← hwb] at hA0
 have HA0 : Hid (At13 w0 wb gw g q gb F E G B d d (some (l, lg)) (some (l, lr, A, c)) (some (l, lg)) (some (l, lr, A, c)) (wxC x dA dc mA mc)) := by
  show At13 _ _ _ _ _ _ _ _ _ _ _ _ _ _ _ _ _
  unfold wxC
  rw [hk, ← hn, ← hmn, ← hxn, ← hxm]
  exact hA0
 have Hwb := Lib.hid hwb
 have Hgb := Lib.hid hgb
 clear h hb hkk hf hA0 hb0 hv hk hx hl hs hn hmn hxn hxm hgb hwb
 go_enter Tryz.func11, Tryz.ntmps11
 go_upto_region 1 with (fail)
 rw [← Hwb.out, ← Hgb.out]
 have HAd := Lib.hid (HA0.out.more (Below.refl wb.heap.size wb).drew)
 obtain ⟨⟨c0, c1, c2, c3⟩, b0, b1, b2, b3, b4⟩ := HC.out _ _ _ _ _ _ _ _ _ HA0.out
 have s0 := HC.out _ _ _ _ _ _ _ _ _ HAd.out
 go_wp2
 go_region_held3 (fun W => (W.cell? ⟨gw, 0, none⟩ = some (.pointer (some ⟨g, 0, none⟩)) ∧ W.cell? ⟨gw, 1, none⟩ = some (.pointer (some ⟨lg, 0, none⟩)) ∧ W.cell? ⟨gw, 2, none⟩ = some (.pointer (some ⟨q, 0, none⟩)) ∧ W.cell? ⟨gw, 3, none⟩ = some (.pointer (some ⟨lr, 0, none⟩))) ∧ W.cell? ⟨gb, 0, none⟩ = some (.int .i64 3) ∧ W.cell? ⟨gb, 1, none⟩ = some (.int .i64 xn) ∧ W.cell? ⟨gb, 2, none⟩ = some (.int .i64 xm) ∧ W.cell? ⟨gb, 3, none⟩ = some (.slice dA n dc) ∧ W.cell? ⟨gb, 4, none⟩ = some (.slice mA mn mc))
  (first | exact s0 | exact s1 | exact s2)
  (first
   | (go_at_call 21; (with_reducible refine (H1.out _ HAd.out).mono ?_); rintro e w1 ⟨rfl, F1, E1, hA1⟩; have s1 := HC.out _ _ _ _ _ _ _ _ _ hA1.out)
   | (go_at_call 33; (with_reducible refine (H2.out _ _ _ hA1.out).mono ?_); rintro e w2 ⟨rfl, G2, B2, A2, c2, hA2⟩; have s2 := HC.out _ _ _ _ _ _ _ _ _ hA2.out))
 all_goals
  go_wp2
  go_ret
  exact ⟨rfl, d, some l1, hA2.out.lw HKp.out, (Keep.refl d).more (by omega)⟩
theorem ldo_stop_none (h : LW w0 w gw g q d none) (x : Wx) (dA mA : Option Addr) (dc mc : Nat) (hv : WV w0 x dA dc mA mc) (hk : x.kind = 4) (hl : d.load ≤ 75000) (hs : d.safe.length = 16) :
  Calls Tryz.prog 11 #[.pointer (some ⟨gw, 0, none⟩), .agg (wxC x dA dc mA mc)] w fun e w' => e = .returned (.bool true) ∧ DoneW w0 w' gw g q d := by
 obtain ⟨F, E, G, B, pl, rl, hb, hkk, h1, h2, hf⟩ := h
 obtain rfl : pl = none := by cases pl with
  | none => rfl
  | some y => cases h1
 obtain rfl : rl = none := by cases rl with
  | none => rfl
  | some y => cases h2
 clear h1 h2
 obtain ⟨gb, hgb⟩ : ∃ k, k = w.heap.size := ⟨_, rfl⟩
 have hA0 := At13.start hb hkk (wxC x dA dc mA mc)
 rw [← hgb] at hA0
 have hb0 := hb.two.p.below
 have a42 := fun w' => Tryz.deed13Agg w'
 have s42 := fun w' => Tryz.deed13Size w'
 obtain ⟨n, hn⟩ : ∃ n, n = x.data.length := ⟨_, rfl⟩
 obtain ⟨mn, hmn⟩ : ∃ n, n = x.masks.length := ⟨_, rfl⟩
 obtain ⟨xn, hxn⟩ : ∃ n, n = x.n := ⟨_, rfl⟩
 obtain ⟨xm, hxm⟩ : ∃ n, n = x.m := ⟨_, rfl⟩
 obtain ⟨kd, hkd⟩ : ∃ n, n = x.kind := ⟨_, rfl⟩
 rw [hk] at hkd
 subst hkd
 have hkd : (4 : Int) = x.kind := hk.symm
 obtain ⟨d1, er, hr⟩ : ∃ d1 er, d.stop x.n = (d1, er) := ⟨_, _, rfl⟩
 have hkp := keep_stop d x.n
 rw [hr] at hkp
 have HKp := Lib.hid hkp
 have H1 : Hid (∀ W, At13 w0 W gw g q gb F E G B d d none none none none (wxC x dA dc mA mc) → Calls Tryz.prog 20 #[.pointer (some ⟨g, 0, none⟩), .int .i64 xn] W fun e w' => e = .returned (.int .i64 er) ∧ Hid (At13 w0 w' gw g q gb F E G B d1 d none none none none (wxC x dA dc mA mc))) := fun W hW => by
  have h5 := stop_any hW.bo.two.p.disk x.n hv.n
  rw [hr, ← hxn] at h5
  exact h5.mono fun e w' hh => ⟨hh.1, hW.progD hh.2⟩
 have H2 : Hid (∀ W, At13 w0 W gw g q gb F E G B d1 d none none none none (wxC x dA dc mA mc) → Calls Tryz.prog 34 #[.pointer (some ⟨q, 0, none⟩), .int .i64 xn] W fun e w' => e = .returned (.int .i64 er) ∧ Hid (At13 w0 w' gw g q gb F E G B d1 d1 none none none none (wxC x dA dc mA mc))) := fun W hW => by
  have h5 := rstop_any hW.bo.two.r x.n hv.n
  rw [hr, ← hxn] at h5
  exact h5.mono fun e w' hh => ⟨hh.1, hW.refS hh.2.1 hh.2.2⟩
 have HC : Hid (∀ W F E G B d e lo ro, At13 w0 W gw g q gb F E G B d e lo ro none none (wxC x dA dc mA mc) → (W.cell? ⟨gw, 0, none⟩ = some (.pointer (some ⟨g, 0, none⟩)) ∧ W.cell? ⟨gw, 1, none⟩ = some (.pointer none) ∧ W.cell? ⟨gw, 2, none⟩ = some (.pointer (some ⟨q, 0, none⟩)) ∧ W.cell? ⟨gw, 3, none⟩ = some (.pointer none)) ∧ W.cell? ⟨gb, 0, none⟩ = some (.int .i64 4) ∧ W.cell? ⟨gb, 1, none⟩ = some (.int .i64 xn) ∧ W.cell? ⟨gb, 2, none⟩ = some (.int .i64 xm) ∧ W.cell? ⟨gb, 3, none⟩ = some (.slice dA n dc) ∧ W.cell? ⟨gb, 4, none⟩ = some (.slice mA mn mc)) := fun W F E G B d e lo ro hW => by
  have := hW.cells
  rw [← hkd, ← hn, ← hmn, ← hxn, ← hxm] at this
  exact this
 unfold wxC at hA0 ⊢
 rw [← hkd, ← hn, ← hmn, ← hxn, ← hxm] at hA0 ⊢
 obtain ⟨wb, hwb⟩ : ∃ W, W = w.alloc (.cells #[.int .i64 4, .int .i64 xn, .int .i64 xm, .slice dA n dc, .slice mA mn mc] 42) := ⟨_, rfl⟩
 rw [← hwb] at hA0
 have HA0 : Hid (At13 w0 wb gw g q gb F E G B d d none none none none (wxC x dA dc mA mc)) := by
  show At13 _ _ _ _ _ _ _ _ _ _ _ _ _ _ _ _ _
  unfold wxC
  rw [← hkd, ← hn, ← hmn, ← hxn, ← hxm]
  exact hA0
 have Hwb := Lib.hid hwb
 have Hgb := Lib.hid hgb
 have HF := Lib.hid hf
 clear hb hkk hf hA0 hb0 hv hl hs hn hmn hxn hxm hgb hwb hkd
 go_enter Tryz.func11, Tryz.ntmps11
 go_upto_region 1 with (fail)
 rw [← Hwb.out, ← Hgb.out]
 have HAd := Lib.hid (HA0.out.more (Below.refl wb.heap.size wb).drew)
 obtain ⟨⟨c0, c1, c2, c3⟩, b0, b1, b2, b3, b4⟩ := HC.out _ _ _ _ _ _ _ _ _ HA0.out
 have s0 := HC.out _ _ _ _ _ _ _ _ _ HAd.out
 go_wp2
 go_region_held3 (fun W => (W.cell? ⟨gw, 0, none⟩ = some (.pointer (some ⟨g, 0, none⟩)) ∧ W.cell? ⟨gw, 1, none⟩ = some (.pointer none) ∧ W.cell? ⟨gw, 2, none⟩ = some (.pointer (some ⟨q, 0, none⟩)) ∧ W.cell? ⟨gw, 3, none⟩ = some (.pointer none)) ∧ W.cell? ⟨gb, 0, none⟩ = some (.int .i64 4) ∧ W.cell? ⟨gb, 1, none⟩ = some (.int .i64 xn) ∧ W.cell? ⟨gb, 2, none⟩ = some (.int .i64 xm) ∧ W.cell? ⟨gb, 3, none⟩ = some (.slice dA n dc) ∧ W.cell? ⟨gb, 4, none⟩ = some (.slice mA mn mc))
  (first | exact s0 | exact s1 | exact s2)
  (first
   | (go_at_call 20; (with_reducible refine (H1.out _ HAd.out).mono ?_); rintro e w1 ⟨rfl, hA1⟩; have s1 := HC.out _ _ _ _ _ _ _ _ _ hA1.out)
   | (go_at_call 34; (with_reducible refine (H2.out _ hA1.out).mono ?_); rintro e w2 ⟨rfl, hA2⟩; have s2 := HC.out _ _ _ _ _ _ _ _ _ hA2.out))
 all_goals
  go_wp2
  go_ret
  exact ⟨rfl, d1, none, hA2.out.lw0 rfl rfl (fun _ h => nomatch h), HKp.out.more (by omega)⟩
theorem ldo_open_none (h : LW w0 w gw g q d none) (x : Wx) (dA mA : Option Addr) (dc mc : Nat) (hv : WV w0 x dA dc mA mc) (hk : x.kind = 6) (hl : d.load ≤ 75000) (hs : d.safe.length = 16) :
  Calls Tryz.prog 11 #[.pointer (some ⟨gw, 0, none⟩), .agg (wxC x dA dc mA mc)] w fun e w' => e = .returned (.bool true) ∧ DoneW w0 w' gw g q d := by
 obtain ⟨F, E, G, B, pl, rl, hb, hkk, h1, h2, hf⟩ := h
 obtain rfl : pl = none := by cases pl with
  | none => rfl
  | some y => cases h1
 obtain rfl : rl = none := by cases rl with
  | none => rfl
  | some y => cases h2
 clear h1 h2
 obtain ⟨gb, hgb⟩ : ∃ k, k = w.heap.size := ⟨_, rfl⟩
 have hA0 := At13.start hb hkk (wxC x dA dc mA mc)
 rw [← hgb] at hA0
 have hb0 := hb.two.p.below
 have a42 := fun w' => Tryz.deed13Agg w'
 have s42 := fun w' => Tryz.deed13Size w'
 obtain ⟨n, hn⟩ : ∃ n, n = x.data.length := ⟨_, rfl⟩
 obtain ⟨mn, hmn⟩ : ∃ n, n = x.masks.length := ⟨_, rfl⟩
 obtain ⟨xn, hxn⟩ : ∃ n, n = x.n := ⟨_, rfl⟩
 obtain ⟨xm, hxm⟩ : ∃ n, n = x.m := ⟨_, rfl⟩
 obtain ⟨kd, hkd⟩ : ∃ n, n = x.kind := ⟨_, rfl⟩
 rw [hk] at hkd
 subst hkd
 have hkd : (6 : Int) = x.kind := hk.symm
 have HOp : Hid (∀ W F E G B d lo ro, Bo w0 W gw g q F E G B d d lo ro → Blk W gw 36 (worldC g q lo ro) → d.load ≤ 79000 → d.safe.length = 16 → Calls Tryz.prog 9 #[.pointer (some ⟨gw, 0, none⟩), .int .i64 2, .int .i64 3, .int .i64 xn, .int .i64 xm] W fun e w' => e = .returned (.bool true) ∧ Hid (∃ lo', LW w0 w' gw g q (openW d 2 3 xn xm).1 lo' ∧ Keep d (openW d 2 3 xn xm).1 200)) := fun W F E G B d lo ro hB hK hl hs => by
  have h5 := lopen_any hB hK 2 3 xn xm ⟨⟨by unfold InI; omega, by unfold InI; omega⟩, by rw [hxn]; exact hv.n, by rw [hxm]; exact hv.m⟩ hl (by omega)
  exact h5.mono fun e w' hh => ⟨hh.1, _, hh.2, (keep_open hB.two.r.good.fit 2 3 xn xm (by omega)).1⟩
 have HLd : Hid (d.load ≤ 75000 ∧ d.safe.length = 16) := ⟨hl, hs⟩
 have HC : Hid (∀ W F E G B d e lo ro, At13 w0 W gw g q gb F E G B d e lo ro none none (wxC x dA dc mA mc) → (W.cell? ⟨gw, 0, none⟩ = some (.pointer (some ⟨g, 0, none⟩)) ∧ W.cell? ⟨gw, 1, none⟩ = some (.pointer none) ∧ W.cell? ⟨gw, 2, none⟩ = some (.pointer (some ⟨q, 0, none⟩)) ∧ W.cell? ⟨gw, 3, none⟩ = some (.pointer none)) ∧ W.cell? ⟨gb, 0, none⟩ = some (.int .i64 6) ∧ W.cell? ⟨gb, 1, none⟩ = some (.int .i64 xn) ∧ W.cell? ⟨gb, 2, none⟩ = some (.int .i64 xm) ∧ W.cell? ⟨gb, 3, none⟩ = some (.slice dA n dc) ∧ W.cell? ⟨gb, 4, none⟩ = some (.slice mA mn mc)) := fun W F E G B d e lo ro hW => by
  have := hW.cells
  rw [← hkd, ← hn, ← hmn, ← hxn, ← hxm] at this
  exact this
 unfold wxC at hA0 ⊢
 rw [← hkd, ← hn, ← hmn, ← hxn, ← hxm] at hA0 ⊢
 obtain ⟨wb, hwb⟩ : ∃ W, W = w.alloc (.cells #[.int .i64 6, .int .i64 xn, .int .i64 xm, .slice dA n dc, .slice mA mn mc] 42) := ⟨_, rfl⟩
 rw [← hwb] at hA0
 have HA0 : Hid (At13 w0 wb gw g q gb F E G B d d none none none none (wxC x dA dc mA mc)) := by
  show At13 _ _ _ _ _ _ _ _ _ _ _ _ _ _ _ _ _
  unfold wxC
  rw [← hkd, ← hn, ← hmn, ← hxn, ← hxm]
  exact hA0
 have Hwb := Lib.hid hwb
 have Hgb := Lib.hid hgb
 have HF := Lib.hid hf
 clear hb hkk hf hA0 hb0 hv hl hs hn hmn hxn hxm hgb hwb hkd
 go_enter Tryz.func11, Tryz.ntmps11
 go_upto_region 1 with (fail)
 rw [← Hwb.out, ← Hgb.out]
 have HAd := Lib.hid (HA0.out.more (Below.refl wb.heap.size wb).drew)
 obtain ⟨⟨c0, c1, c2, c3⟩, b0, b1, b2, b3, b4⟩ := HC.out _ _ _ _ _ _ _ _ _ HA0.out
 have s0 := HC.out _ _ _ _ _ _ _ _ _ HAd.out
 go_wp2_with (go_at_call 9; (with_reducible refine (HOp.out _ _ _ _ _ _ _ _ HA0.out.bo HA0.out.k (by have := HLd.out; omega) (by exact HLd.out.2)).mono ?_); rintro e w5 ⟨rfl, hO⟩)
 go_ret
 obtain ⟨lo', h7, h8⟩ := hO.out
 exact ⟨rfl, _, lo', h7, h8.more (by omega)⟩
theorem ldo_crash_none (h : LW w0 w gw g q d none) (x : Wx) (dA mA : Option Addr) (dc mc : Nat) (hv : WV w0 x dA dc mA mc) (hk : x.kind = 5) (hl : d.load ≤ 75000) (hs : d.safe.length = 16) :
  Calls Tryz.prog 11 #[.pointer (some ⟨gw, 0, none⟩), .agg (wxC x dA dc mA mc)] w fun e w' => e = .returned (.bool true) ∧ DoneW w0 w' gw g q d := by
 obtain ⟨F, E, G, B, pl, rl, hb, hkk, h1, h2, hf⟩ := h
 obtain rfl : pl = none := by cases pl with
  | none => rfl
  | some y => cases h1
 obtain rfl : rl = none := by cases rl with
  | none => rfl
  | some y => cases h2
 clear h1 h2
 obtain ⟨gb, hgb⟩ : ∃ k, k = w.heap.size := ⟨_, rfl⟩
 have hA0 := At13.start hb hkk (wxC x dA dc mA mc)
 rw [← hgb] at hA0
 have hb0 := hb.two.p.below
 have a42 := fun w' => Tryz.deed13Agg w'
 have s42 := fun w' => Tryz.deed13Size w'
 obtain ⟨n, hn⟩ : ∃ n, n = x.data.length := ⟨_, rfl⟩
 obtain ⟨mn, hmn⟩ : ∃ n, n = x.masks.length := ⟨_, rfl⟩
 obtain ⟨xn, hxn⟩ : ∃ n, n = x.n := ⟨_, rfl⟩
 obtain ⟨xm, hxm⟩ : ∃ n, n = x.m := ⟨_, rfl⟩
 obtain ⟨kd, hkd⟩ : ∃ n, n = x.kind := ⟨_, rfl⟩
 rw [hk] at hkd
 subst hkd
 have hkd : (5 : Int) = x.kind := hk.symm
 have HOp : Hid (∀ W F E G B d lo ro, Bo w0 W gw g q F E G B d d lo ro → Blk W gw 36 (worldC g q lo ro) → d.load ≤ 79000 → d.safe.length = 16 → Calls Tryz.prog 9 #[.pointer (some ⟨gw, 0, none⟩), .int .i64 2, .int .i64 3, .int .i64 xn, .int .i64 xm] W fun e w' => e = .returned (.bool true) ∧ Hid (∃ lo', LW w0 w' gw g q (openW d 2 3 xn xm).1 lo' ∧ Keep d (openW d 2 3 xn xm).1 200)) := fun W F E G B d lo ro hB hK hl hs => by
  have h5 := lopen_any hB hK 2 3 xn xm ⟨⟨by unfold InI; omega, by unfold InI; omega⟩, by rw [hxn]; exact hv.n, by rw [hxm]; exact hv.m⟩ hl (by omega)
  exact h5.mono fun e w' hh => ⟨hh.1, _, hh.2, (keep_open hB.two.r.good.fit 2 3 xn xm (by omega)).1⟩
 have HLd : Hid (d.load ≤ 75000 ∧ d.safe.length = 16) := ⟨hl, hs⟩
 obtain ⟨d1, hr⟩ : ∃ d1, d.crash x.masks = d1 := ⟨_, rfl⟩
 have hkp := keep_crash d x.masks
 rw [hr] at hkp
 have HKp := Lib.hid hkp
 have H1 : Hid (∀ W, At13 w0 W gw g q gb F E G B d d none none none none (wxC x dA dc mA mc) → Calls Tryz.prog 23 #[.pointer (some ⟨g, 0, none⟩), .slice mA mn mc] W fun e w' => e = .returned (.tuple #[]) ∧ Hid (At13 w0 w' gw g q gb F E G B d1 d none none none none (wxC x dA dc mA mc))) := fun W hW => by
  obtain ⟨m1, m2, m3⟩ := hW.bo.two.masks hv.ri
  have h5 := crash_any hW.bo.two.p.disk x.masks mA mn mc hmn m1 m2
  rw [hr] at h5
  exact h5.mono fun e w' hh => ⟨hh.1, hW.progD hh.2⟩
 have H2 : Hid (∀ W, At13 w0 W gw g q gb F E G B d1 d none none none none (wxC x dA dc mA mc) → Calls Tryz.prog 35 #[.pointer (some ⟨q, 0, none⟩), .slice mA mn mc] W fun e w' => e = .returned (.tuple #[]) ∧ ∃ G' B', Hid (At13 w0 w' gw g q gb F E G' B' d1 d1 none none none none (wxC x dA dc mA mc))) := fun W hW => by
  obtain ⟨m1, m2, m3⟩ := hW.bo.two.masks hv.ri
  have h5 := rcrash_any hW.bo.two.r x.masks mA mn mc hmn m1 m3 (by omega)
  rw [hr] at h5
  exact h5.mono fun e w' hh => ⟨hh.1, hW.refD hh.2⟩
 have HC : Hid (∀ W F E G B d e lo ro, At13 w0 W gw g q gb F E G B d e lo ro none none (wxC x dA dc mA mc) → (W.cell? ⟨gw, 0, none⟩ = some (.pointer (some ⟨g, 0, none⟩)) ∧ W.cell? ⟨gw, 1, none⟩ = some (.pointer none) ∧ W.cell? ⟨gw, 2, none⟩ = some (.pointer (some ⟨q, 0, none⟩)) ∧ W.cell? ⟨gw, 3, none⟩ = some (.pointer none)) ∧ W.cell? ⟨gb, 0, none⟩ = some (.int .i64 5) ∧ W.cell? ⟨gb, 1, none⟩ = some (.int .i64 xn) ∧ W.cell? ⟨gb, 2, none⟩ = some (.int .i64 xm) ∧ W.cell? ⟨gb, 3, none⟩ = some (.slice dA n dc) ∧ W.cell? ⟨gb, 4, none⟩ = some (.slice mA mn mc)) := fun W F E G B d e lo ro hW => by
  have := hW.cells
  rw [← hkd, ← hn, ← hmn, ← hxn, ← hxm] at this
  exact this
 unfold wxC at hA0 ⊢
 rw [← hkd, ← hn, ← hmn, ← hxn, ← hxm] at hA0 ⊢
 obtain ⟨wb, hwb⟩ : ∃ W, W = w.alloc (.cells #[.int .i64 5, .int .i64 xn, .int .i64 xm, .slice dA n dc, .slice mA mn mc] 42) := ⟨_, rfl⟩
 rw [← hwb] at hA0
 have HA0 : Hid (At13 w0 wb gw g q gb F E G B d d none none none none (wxC x dA dc mA mc)) := by
  show At13 _ _ _ _ _ _ _ _ _ _ _ _ _ _ _ _ _
  unfold wxC
  rw [← hkd, ← hn, ← hmn, ← hxn, ← hxm]
  exact hA0
 have Hwb := Lib.hid hwb
 have Hgb := Lib.hid hgb
 have HF := Lib.hid hf
 clear hb hkk hf hA0 hb0 hv hl hs hn hmn hxn hxm hgb hwb hkd
 go_enter Tryz.func11, Tryz.ntmps11
 go_upto_region 1 with (fail)
 rw [← Hwb.out, ← Hgb.out]
 have HAd := Lib.hid (HA0.out.more (Below.refl wb.heap.size wb).drew)
 obtain ⟨⟨c0, c1, c2, c3⟩, b0, b1, b2, b3, b4⟩ := HC.out _ _ _ _ _ _ _ _ _ HA0.out
 have s0 := HC.out _ _ _ _ _ _ _ _ _ HAd.out
 go_wp2
 go_region_held3 (fun W => (W.cell? ⟨gw, 0, none⟩ = some (.pointer (some ⟨g, 0, none⟩)) ∧ W.cell? ⟨gw, 1, none⟩ = some (.pointer none) ∧ W.cell? ⟨gw, 2, none⟩ = some (.pointer (some ⟨q, 0, none⟩)) ∧ W.cell? ⟨gw, 3, none⟩ = some (.pointer none)) ∧ W.cell? ⟨gb, 0, none⟩ = some (.int .i64 5) ∧ W.cell? ⟨gb, 1, none⟩ = some (.int .i64 xn) ∧ W.cell? ⟨gb, 2, none⟩ = some (.int .i64 xm) ∧ W.cell? ⟨gb, 3, none⟩ = some (.slice dA n dc) ∧ W.cell? ⟨gb, 4, none⟩ = some (.slice mA mn mc))
  (first | exact s0 | exact s1)
  (first
   | (go_at_call 23; (with_reducible refine (H1.out _ HAd.out).mono ?_); rintro e w1 ⟨rfl, hA1⟩; have s1 := HC.out _ _ _ _ _ _ _ _ _ hA1.out))
 have hA1d := Lib.hid (hA1.out.more (Below.refl w1.heap.size w1).drew)
 have s3 := HC.out _ _ _ _ _ _ _ _ _ hA1d.out
 go_wp2
 go_region_held3 (fun W => (W.cell? ⟨gw, 0, none⟩ = some (.pointer (some ⟨g, 0, none⟩)) ∧ W.cell? ⟨gw, 1, none⟩ = some (.pointer none) ∧ W.cell? ⟨gw, 2, none⟩ = some (.pointer (some ⟨q, 0, none⟩)) ∧ W.cell? ⟨gw, 3, none⟩ = some (.pointer none)) ∧ W.cell? ⟨gb, 0, none⟩ = some (.int .i64 5) ∧ W.cell? ⟨gb, 1, none⟩ = some (.int .i64 xn) ∧ W.cell? ⟨gb, 2, none⟩ = some (.int .i64 xm) ∧ W.cell? ⟨gb, 3, none⟩ = some (.slice dA n dc) ∧ W.cell? ⟨gb, 4, none⟩ = some (.slice mA mn mc))
  (first | exact s3 | exact s2)
  (first
   | (go_at_call 35; (with_reducible refine (H2.out _ hA1d.out).mono ?_); rintro e w2 ⟨rfl, G2, B2, hA2⟩; have s2 := HC.out _ _ _ _ _ _ _ _ _ hA2.out))
 obtain ⟨⟨q0, q1, q2, q3⟩, r0, r1, r2, r3, r4⟩ := s2
 have h9 := Lib.hid (HOp.out _ _ _ _ _ _ _ _ hA2.out.bo hA2.out.k (by have h1 := HLd.out.1; have h2 := HKp.out.2; omega) (by rw [HKp.out.1]; exact HLd.out.2))
 go_wp2_with (go_at_call 9; (with_reducible refine h9.out.mono ?_); rintro e w5 ⟨rfl, hO⟩)
 go_ret
 obtain ⟨lo', h7, h8⟩ := hO.out
 exact ⟨rfl, _, lo', h7, (HKp.out.trans h8).more (by omega)⟩
theorem ldo_other_none (h : LW w0 w gw g q d none) (x : Wx) (dA mA : Option Addr) (dc mc : Nat) (hv : WV w0 x dA dc mA mc) (hk : x.kind ≠ 1 ∧ x.kind ≠ 2 ∧ x.kind ≠ 3 ∧ x.kind ≠ 4 ∧ x.kind ≠ 5 ∧ x.kind ≠ 6) (hl : d.load ≤ 75000) (hs : d.safe.length = 16) :
  Calls Tryz.prog 11 #[.pointer (some ⟨gw, 0, none⟩), .agg (wxC x dA dc mA mc)] w fun e w' => e = .returned (.bool true) ∧ DoneW w0 w' gw g q d := by
 obtain ⟨F, E, G, B, pl, rl, hb, hkk, h1, h2, hf⟩ := h
 obtain rfl : pl = none := by cases pl with
  | none => rfl
  | some y => cases h1
 obtain rfl : rl = none := by cases rl with
  | none => rfl
  | some y => cases h2
 clear h1 h2
 obtain ⟨gb, hgb⟩ : ∃ k, k = w.heap.size := ⟨_, rfl⟩
 have hA0 := At13.start hb hkk (wxC x dA dc mA mc)
 rw [← hgb] at hA0
 have hb0 := hb.two.p.below
 have a42 := fun w' => Tryz.deed13Agg w'
 have s42 := fun w' => Tryz.deed13Size w'
 obtain ⟨n, hn⟩ : ∃ n, n = x.data.length := ⟨_, rfl⟩
 obtain ⟨mn, hmn⟩ : ∃ n, n = x.masks.length := ⟨_, rfl⟩
 obtain ⟨xn, hxn⟩ : ∃ n, n = x.n := ⟨_, rfl⟩
 obtain ⟨xm, hxm⟩ : ∃ n, n = x.m := ⟨_, rfl⟩
 obtain ⟨kd, hkd⟩ : ∃ n, n = x.kind := ⟨_, rfl⟩
 obtain ⟨k1, k2, k3, k4, k5, k6⟩ := hk
 rw [← hkd] at k1 k2 k3 k4 k5 k6
 have e1 : (kd == (1 : Int)) = false := by rw [beq_eq_false_iff_ne]; exact k1
 have f1 : decide (kd = (1 : Int)) = false := decide_eq_false k1
 have e2 : (kd == (2 : Int)) = false := by rw [beq_eq_false_iff_ne]; exact k2
 have f2 : decide (kd = (2 : Int)) = false := decide_eq_false k2
 have e3 : (kd == (3 : Int)) = false := by rw [beq_eq_false_iff_ne]; exact k3
 have f3 : decide (kd = (3 : Int)) = false := decide_eq_false k3
 have e4 : (kd == (4 : Int)) = false := by rw [beq_eq_false_iff_ne]; exact k4
 have f4 : decide (kd = (4 : Int)) = false := decide_eq_false k4
 have e5 : (kd == (5 : Int)) = false := by rw [beq_eq_false_iff_ne]; exact k5
 have f5 : decide (kd = (5 : Int)) = false := decide_eq_false k5
 have e6 : (kd == (6 : Int)) = false := by rw [beq_eq_false_iff_ne]; exact k6
 have f6 : decide (kd = (6 : Int)) = false := decide_eq_false k6
 clear k1 k2 k3 k4 k5 k6
 have HKp : Hid (Keep d d 0) := Keep.refl d
 have HC : Hid (∀ W F E G B d e lo ro, At13 w0 W gw g q gb F E G B d e lo ro none none (wxC x dA dc mA mc) → (W.cell? ⟨gw, 0, none⟩ = some (.pointer (some ⟨g, 0, none⟩)) ∧ W.cell? ⟨gw, 1, none⟩ = some (.pointer none) ∧ W.cell? ⟨gw, 2, none⟩ = some (.pointer (some ⟨q, 0, none⟩)) ∧ W.cell? ⟨gw, 3, none⟩ = some (.pointer none)) ∧ W.cell? ⟨gb, 0, none⟩ = some (.int .i64 kd) ∧ W.cell? ⟨gb, 1, none⟩ = some (.int .i64 xn) ∧ W.cell? ⟨gb, 2, none⟩ = some (.int .i64 xm) ∧ W.cell? ⟨gb, 3, none⟩ = some (.slice dA n dc) ∧ W.cell? ⟨gb, 4, none⟩ = some (.slice mA mn mc)) := fun W F E G B d e lo ro hW => by
  have := hW.cells
  rw [← hkd, ← hn, ← hmn, ← hxn, ← hxm] at this
  exact this
 unfold wxC at hA0 ⊢
 rw [← hkd, ← hn, ← hmn, ← hxn, ← hxm] at hA0 ⊢
 obtain ⟨wb, hwb⟩ : ∃ W, W = w.alloc (.cells #[.int .i64 kd, .int .i64 xn, .int .i64 xm, .slice dA n dc, .slice mA mn mc] 42) := ⟨_, rfl⟩
 rw [← hwb] at hA0
 have HA0 : Hid (At13 w0 wb gw g q gb F E G B d d none none none none (wxC x dA dc mA mc)) := by
  show At13 _ _ _ _ _ _ _ _ _ _ _ _ _ _ _ _ _
  unfold wxC
  rw [← hkd, ← hn, ← hmn, ← hxn, ← hxm]
  exact hA0
 have Hwb := Lib.hid hwb
 have Hgb := Lib.hid hgb
 have HF := Lib.hid hf
 clear hb hkk hf hA0 hb0 hv hl hs hn hmn hxn hxm hgb hwb hkd
 go_enter Tryz.func11, Tryz.ntmps11
 go_upto_region 1 with (fail)
 rw [← Hwb.out, ← Hgb.out]
 have HAd := Lib.hid (HA0.out.more (Below.refl wb.heap.size wb).drew)
 obtain ⟨⟨c0, c1, c2, c3⟩, b0, b1, b2, b3, b4⟩ := HC.out _ _ _ _ _ _ _ _ _ HA0.out
 have s0 := HC.out _ _ _ _ _ _ _ _ _ HAd.out
 by_cases k4 : kd < 4
 ·have g4 : decide (kd < 4) = true := decide_eq_true k4
  go_wp2
  go_ret
  exact ⟨rfl, d, none, HA0.out.lw0 rfl rfl (fun _ h => nomatch h), HKp.out.more (by omega)⟩
 ·have g4 : decide (kd < 4) = false := decide_eq_false k4
  go_wp2
  go_ret
  exact ⟨rfl, d, none, HA0.out.lw0 rfl rfl (fun _ h => nomatch h), HKp.out.more (by omega)⟩
theorem ldo_early_none (h : LW w0 w gw g q d none) (x : Wx) (dA mA : Option Addr) (dc mc : Nat) (hv : WV w0 x dA dc mA mc) (hk : x.kind < 4) (hl : d.load ≤ 75000) (hs : d.safe.length = 16) :
  Calls Tryz.prog 11 #[.pointer (some ⟨gw, 0, none⟩), .agg (wxC x dA dc mA mc)] w fun e w' => e = .returned (.bool true) ∧ DoneW w0 w' gw g q d := by
 obtain ⟨F, E, G, B, pl, rl, hb, hkk, h1, h2, hf⟩ := h
 obtain rfl : pl = none := by cases pl with
  | none => rfl
  | some y => cases h1
 obtain rfl : rl = none := by cases rl with
  | none => rfl
  | some y => cases h2
 clear h1 h2
 obtain ⟨gb, hgb⟩ : ∃ k, k = w.heap.size := ⟨_, rfl⟩
 have hA0 := At13.start hb hkk (wxC x dA dc mA mc)
 rw [← hgb] at hA0
 have hb0 := hb.two.p.below
 have a42 := fun w' => Tryz.deed13Agg w'
 have s42 := fun w' => Tryz.deed13Size w'
 obtain ⟨n, hn⟩ : ∃ n, n = x.data.length := ⟨_, rfl⟩
 obtain ⟨mn, hmn⟩ : ∃ n, n = x.masks.length := ⟨_, rfl⟩
 obtain ⟨xn, hxn⟩ : ∃ n, n = x.n := ⟨_, rfl⟩
 obtain ⟨xm, hxm⟩ : ∃ n, n = x.m := ⟨_, rfl⟩
 obtain ⟨kd, hkd⟩ : ∃ n, n = x.kind := ⟨_, rfl⟩
 have k4 : kd < 4 := by rw [hkd]; exact hk
 have HKp : Hid (Keep d d 0) := Keep.refl d
 have HC : Hid (∀ W F E G B d e lo ro, At13 w0 W gw g q gb F E G B d e lo ro none none (wxC x dA dc mA mc) → (W.cell? ⟨gw, 0, none⟩ = some (.pointer (some ⟨g, 0, none⟩)) ∧ W.cell? ⟨gw, 1, none⟩ = some (.pointer none) ∧ W.cell? ⟨gw, 2, none⟩ = some (.pointer (some ⟨q, 0, none⟩)) ∧ W.cell? ⟨gw, 3, none⟩ = some (.pointer none)) ∧ W.cell? ⟨gb, 0, none⟩ = some (.int .i64 kd) ∧ W.cell? ⟨gb, 1, none⟩ = some (.int .i64 xn) ∧ W.cell? ⟨gb, 2, none⟩ = some (.int .i64 xm) ∧ W.cell? ⟨gb, 3, none⟩ = some (.slice dA n dc) ∧ W.cell? ⟨gb, 4, none⟩ = some (.slice mA mn mc)) := fun W F E G B d e lo ro hW => by
  have := hW.cells
  rw [← hkd, ← hn, ← hmn, ← hxn, ← hxm] at this
  exact this
 unfold wxC at hA0 ⊢
 rw [← hkd, ← hn, ← hmn, ← hxn, ← hxm] at hA0 ⊢
 obtain ⟨wb, hwb⟩ : ∃ W, W = w.alloc (.cells #[.int .i64 kd, .int .i64 xn, .int .i64 xm, .slice dA n dc, .slice mA mn mc] 42) := ⟨_, rfl⟩
 rw [← hwb] at hA0
 have HA0 : Hid (At13 w0 wb gw g q gb F E G B d d none none none none (wxC x dA dc mA mc)) := by
  show At13 _ _ _ _ _ _ _ _ _ _ _ _ _ _ _ _ _
  unfold wxC
  rw [← hkd, ← hn, ← hmn, ← hxn, ← hxm]
  exact hA0
 have Hwb := Lib.hid hwb
 have Hgb := Lib.hid hgb
 have HF := Lib.hid hf
 clear hb hkk hf hA0 hb0 hv hl hs hn hmn hxn hxm hgb hwb hkd
 go_enter Tryz.func11, Tryz.ntmps11
 go_upto_region 1 with (fail)
 rw [← Hwb.out, ← Hgb.out]
 have HAd := Lib.hid (HA0.out.more (Below.refl wb.heap.size wb).drew)
 obtain ⟨⟨c0, c1, c2, c3⟩, b0, b1, b2, b3, b4⟩ := HC.out _ _ _ _ _ _ _ _ _ HA0.out
 have s0 := HC.out _ _ _ _ _ _ _ _ _ HAd.out
 have g4 : decide (kd < 4) = true := decide_eq_true k4
 go_wp2
 go_ret
 exact ⟨rfl, d, none, HA0.out.lw0 rfl rfl (fun _ h => nomatch h), HKp.out.more (by omega)⟩
theorem ldo_stop_some {l : Lg} (h : LW w0 w gw g q d (some l)) (x : Wx) (dA mA : Option Addr) (dc mc : Nat) (hv : WV w0 x dA dc mA mc) (hk : x.kind = 4) (hl : d.load ≤ 75000) (hs : d.safe.length = 16) :
  Calls Tryz.prog 11 #[.pointer (some ⟨gw, 0, none⟩), .agg (wxC x dA dc mA mc)] w fun e w' => e = .returned (.bool true) ∧ DoneW w0 w' gw g q d := by
 obtain ⟨F, E, G, B, lg, lr, A, c, hb, hkk, hf⟩ := h.some
 obtain ⟨gb, hgb⟩ : ∃ k, k = w.heap.size := ⟨_, rfl⟩
 have hA0 := At13.start hb hkk (wxC x dA dc mA mc)
 rw [← hgb] at hA0
 have hb0 := hb.two.p.below
 have a42 := fun w' => Tryz.deed13Agg w'
 have s42 := fun w' => Tryz.deed13Size w'
 obtain ⟨n, hn⟩ : ∃ n, n = x.data.length := ⟨_, rfl⟩
 obtain ⟨mn, hmn⟩ : ∃ n, n = x.masks.length := ⟨_, rfl⟩
 obtain ⟨xn, hxn⟩ : ∃ n, n = x.n := ⟨_, rfl⟩
 obtain ⟨xm, hxm⟩ : ∃ n, n = x.m := ⟨_, rfl⟩
 obtain ⟨kd, hkd⟩ : ∃ n, n = x.kind := ⟨_, rfl⟩
 rw [hk] at hkd
 subst hkd
 have hkd : (4 : Int) = x.kind := hk.symm
 obtain ⟨d1, er, hr⟩ : ∃ d1 er, d.stop x.n = (d1, er) := ⟨_, _, rfl⟩
 have hkp := keep_stop d x.n
 rw [hr] at hkp
 have HKp := Lib.hid hkp
 have H1 : Hid (∀ W, At13 w0 W gw g q gb F E G B d d (some (l, lg)) (some (l, lr, A, c)) (some (l, lg)) (some (l, lr, A, c)) (wxC x dA dc mA mc) → Calls Tryz.prog 20 #[.pointer (some ⟨g, 0, none⟩), .int .i64 xn] W fun e w' => e = .returned (.int .i64 er) ∧ Hid (At13 w0 w' gw g q gb F E G B d1 d (some (l, lg)) (some (l, lr, A, c)) (some (l, lg)) (some (l, lr, A, c)) (wxC x dA dc mA mc))) := fun W hW => by
  have h5 := stop_any hW.bo.two.p.disk x.n hv.n
  rw [hr, ← hxn] at h5
  exact h5.mono fun e w' hh => ⟨hh.1, hW.progD hh.2⟩
 have H2 : Hid (∀ W, At13 w0 W gw g q gb F E G B d1 d (some (l, lg)) (some (l, lr, A, c)) (some (l, lg)) (some (l, lr, A, c)) (wxC x dA dc mA mc) → Calls Tryz.prog 34 #[.pointer (some ⟨q, 0, none⟩), .int .i64 xn] W fun e w' => e = .returned (.int .i64 er) ∧ Hid (At13 w0 w' gw g q gb F E G B d1 d1 (some (l, lg)) (some (l, lr, A, c)) (some (l, lg)) (some (l, lr, A, c)) (wxC x dA dc mA mc))) := fun W hW => by
  have h5 := rstop_any hW.bo.two.r x.n hv.n
  rw [hr, ← hxn] at h5
  exact h5.mono fun e w' hh => ⟨hh.1, hW.refS hh.2.1 hh.2.2⟩
 have HC : Hid (∀ W F E G B d e lo ro, At13 w0 W gw g q gb F E G B d e lo ro (some (l, lg)) (some (l, lr, A, c)) (wxC x dA dc mA mc) → (W.cell? ⟨gw, 0, none⟩ = some (.pointer (some ⟨g, 0, none⟩)) ∧ W.cell? ⟨gw, 1, none⟩ = some (.pointer (some ⟨lg, 0, none⟩)) ∧ W.cell? ⟨gw, 2, none⟩ = some (.pointer (some ⟨q, 0, none⟩)) ∧ W.cell? ⟨gw, 3, none⟩ = some (.pointer (some ⟨lr, 0, none⟩))) ∧ W.cell? ⟨gb, 0, none⟩ = some (.int .i64 4) ∧ W.cell? ⟨gb, 1, none⟩ = some (.int .i64 xn) ∧ W.cell? ⟨gb, 2, none⟩ = some (.int .i64 xm) ∧ W.cell? ⟨gb, 3, none⟩ = some (.slice dA n dc) ∧ W.cell? ⟨gb, 4, none⟩ = some (.slice mA mn mc)) := fun W F E G B d e lo ro hW => by
  have := hW.cells
  rw [← hkd, ← hn, ← hmn, ← hxn, ← hxm] at this
  exact this
 unfold wxC at hA0 ⊢
 rw [← hkd, ← hn, ← hmn, ← hxn, ← hxm] at hA0 ⊢
 obtain ⟨wb, hwb⟩ : ∃ W, W = w.alloc (.cells #[.int .i64 4, .int .i64 xn, .int .i64 xm, .slice dA n dc, .slice mA mn mc] 42) := ⟨_, rfl⟩
 rw [← hwb] at hA0
 have HA0 : Hid (At13 w0 wb gw g q gb F E G B d d (some (l, lg)) (some (l, lr, A, c)) (some (l, lg)) (some (l, lr, A, c)) (wxC x dA dc mA mc)) := by
  show At13 _ _ _ _ _ _ _ _ _ _ _ _ _ _ _ _ _
  unfold wxC
  rw [← hkd, ← hn, ← hmn, ← hxn, ← hxm]
  exact hA0
 have Hwb := Lib.hid hwb
 have Hgb := Lib.hid hgb
 have HF := Lib.hid hf
 clear h hb hkk hf hA0 hb0 hv hl hs hn hmn hxn hxm hgb hwb hkd
 go_enter Tryz.func11, Tryz.ntmps11
 go_upto_region 1 with (fail)
 rw [← Hwb.out, ← Hgb.out]
 have HAd := Lib.hid (HA0.out.more (Below.refl wb.heap.size wb).drew)
 obtain ⟨⟨c0, c1, c2, c3⟩, b0, b1, b2, b3, b4⟩ := HC.out _ _ _ _ _ _ _ _ _ HA0.out
 have s0 := HC.out _ _ _ _ _ _ _ _ _ HAd.out
 go_wp2
 go_region_held3 (fun W => (W.cell? ⟨gw, 0, none⟩ = some (.pointer (some ⟨g, 0, none⟩)) ∧ W.cell? ⟨gw, 1, none⟩ = some (.pointer (some ⟨lg, 0, none⟩)) ∧ W.cell? ⟨gw, 2, none⟩ = some (.pointer (some ⟨q, 0, none⟩)) ∧ W.cell? ⟨gw, 3, none⟩ = some (.pointer (some ⟨lr, 0, none⟩))) ∧ W.cell? ⟨gb, 0, none⟩ = some (.int .i64 4) ∧ W.cell? ⟨gb, 1, none⟩ = some (.int .i64 xn) ∧ W.cell? ⟨gb, 2, none⟩ = some (.int .i64 xm) ∧ W.cell? ⟨gb, 3, none⟩ = some (.slice dA n dc) ∧ W.cell? ⟨gb, 4, none⟩ = some (.slice mA mn mc))
  (first | exact s0 | exact s1 | exact s2)
  (first
   | (go_at_call 20; (with_reducible refine (H1.out _ HAd.out).mono ?_); rintro e w1 ⟨rfl, hA1⟩; have s1 := HC.out _ _ _ _ _ _ _ _ _ hA1.out)
   | (go_at_call 34; (with_reducible refine (H2.out _ hA1.out).mono ?_); rintro e w2 ⟨rfl, hA2⟩; have s2 := HC.out _ _ _ _ _ _ _ _ _ hA2.out))
 all_goals
  go_wp2
  go_ret
  exact ⟨rfl, d1, some l, hA2.out.lw0 rfl rfl (fun y hy => by obtain rfl := Option.some.inj hy; rw [HKp.out.1]; exact HF.out), HKp.out.more (by omega)⟩
theorem ldo_open_some {l : Lg} (h : LW w0 w gw g q d (some l)) (x : Wx) (dA mA : Option Addr) (dc mc : Nat) (hv : WV w0 x dA dc mA mc) (hk : x.kind = 6) (hl : d.load ≤ 75000) (hs : d.safe.length = 16) :
  Calls Tryz.prog 11 #[.pointer (some ⟨gw, 0, none⟩), .agg (wxC x dA dc mA mc)] w fun e w' => e = .returned (.bool true) ∧ DoneW w0 w' gw g q d := by
 obtain ⟨F, E, G, B, lg, lr, A, c, hb, hkk, hf⟩ := h.some
 obtain ⟨gb, hgb⟩ : ∃ k, k = w.heap.size := ⟨_, rfl⟩
 have hA0 := At13.start hb hkk (wxC x dA dc mA mc)
 rw [← hgb] at hA0
 have hb0 := hb.two.p.below
 have a42 := fun w' => Tryz.deed13Agg w'
 have s42 := fun w' => Tryz.deed13Size w'
 obtain ⟨n, hn⟩ : ∃ n, n = x.data.length := ⟨_, rfl⟩
 obtain ⟨mn, hmn⟩ : ∃ n, n = x.masks.length := ⟨_, rfl⟩
 obtain ⟨xn, hxn⟩ : ∃ n, n = x.n := ⟨_, rfl⟩
 obtain ⟨xm, hxm⟩ : ∃ n, n = x.m := ⟨_, rfl⟩
 obtain ⟨kd, hkd⟩ : ∃ n, n = x.kind := ⟨_, rfl⟩
 rw [hk] at hkd
 subst hkd
 have hkd : (6 : Int) = x.kind := hk.symm
 have HOp : Hid (∀ W F E G B d lo ro, Bo w0 W gw g q F E G B d d lo ro → Blk W gw 36 (worldC g q lo ro) → d.load ≤ 79000 → d.safe.length = 16 → Calls Tryz.prog 9 #[.pointer (some ⟨gw, 0, none⟩), .int .i64 2, .int .i64 3, .int .i64 xn, .int .i64 xm] W fun e w' => e = .returned (.bool true) ∧ Hid (∃ lo', LW w0 w' gw g q (openW d 2 3 xn xm).1 lo' ∧ Keep d (openW d 2 3 xn xm).1 200)) := fun W F E G B d lo ro hB hK hl hs => by
  have h5 := lopen_any hB hK 2 3 xn xm ⟨⟨by unfold InI; omega, by unfold InI; omega⟩, by rw [hxn]; exact hv.n, by rw [hxm]; exact hv.m⟩ hl (by omega)
  exact h5.mono fun e w' hh => ⟨hh.1, _, hh.2, (keep_open hB.two.r.good.fit 2 3 xn xm (by omega)).1⟩
 have HLd : Hid (d.load ≤ 75000 ∧ d.safe.length = 16) := ⟨hl, hs⟩
 have HC : Hid (∀ W F E G B d e lo ro, At13 w0 W gw g q gb F E G B d e lo ro (some (l, lg)) (some (l, lr, A, c)) (wxC x dA dc mA mc) → (W.cell? ⟨gw, 0, none⟩ = some (.pointer (some ⟨g, 0, none⟩)) ∧ W.cell? ⟨gw, 1, none⟩ = some (.pointer (some ⟨lg, 0, none⟩)) ∧ W.cell? ⟨gw, 2, none⟩ = some (.pointer (some ⟨q, 0, none⟩)) ∧ W.cell? ⟨gw, 3, none⟩ = some (.pointer (some ⟨lr, 0, none⟩))) ∧ W.cell? ⟨gb, 0, none⟩ = some (.int .i64 6) ∧ W.cell? ⟨gb, 1, none⟩ = some (.int .i64 xn) ∧ W.cell? ⟨gb, 2, none⟩ = some (.int .i64 xm) ∧ W.cell? ⟨gb, 3, none⟩ = some (.slice dA n dc) ∧ W.cell? ⟨gb, 4, none⟩ = some (.slice mA mn mc)) := fun W F E G B d e lo ro hW => by
  have := hW.cells
  rw [← hkd, ← hn, ← hmn, ← hxn, ← hxm] at this
  exact this
 unfold wxC at hA0 ⊢
 rw [← hkd, ← hn, ← hmn, ← hxn, ← hxm] at hA0 ⊢
 obtain ⟨wb, hwb⟩ : ∃ W, W = w.alloc (.cells #[.int .i64 6, .int .i64 xn, .int .i64 xm, .slice dA n dc, .slice mA mn mc] 42) := ⟨_, rfl⟩
 rw [← hwb] at hA0
 have HA0 : Hid (At13 w0 wb gw g q gb F E G B d d (some (l, lg)) (some (l, lr, A, c)) (some (l, lg)) (some (l, lr, A, c)) (wxC x dA dc mA mc)) := by
  show At13 _ _ _ _ _ _ _ _ _ _ _ _ _ _ _ _ _
  unfold wxC
  rw [← hkd, ← hn, ← hmn, ← hxn, ← hxm]
  exact hA0
 have Hwb := Lib.hid hwb
 have Hgb := Lib.hid hgb
 have HF := Lib.hid hf
 clear h hb hkk hf hA0 hb0 hv hl hs hn hmn hxn hxm hgb hwb hkd
 go_enter Tryz.func11, Tryz.ntmps11
 go_upto_region 1 with (fail)
 rw [← Hwb.out, ← Hgb.out]
 have HAd := Lib.hid (HA0.out.more (Below.refl wb.heap.size wb).drew)
 obtain ⟨⟨c0, c1, c2, c3⟩, b0, b1, b2, b3, b4⟩ := HC.out _ _ _ _ _ _ _ _ _ HA0.out
 have s0 := HC.out _ _ _ _ _ _ _ _ _ HAd.out
 go_wp2_with (go_at_call 9; (with_reducible refine (HOp.out _ _ _ _ _ _ _ _ HA0.out.bo HA0.out.k (by have := HLd.out; omega) (by exact HLd.out.2)).mono ?_); rintro e w5 ⟨rfl, hO⟩)
 go_ret
 obtain ⟨lo', h7, h8⟩ := hO.out
 exact ⟨rfl, _, lo', h7, h8.more (by omega)⟩
theorem ldo_crash_some {l : Lg} (h : LW w0 w gw g q d (some l)) (x : Wx) (dA mA : Option Addr) (dc mc : Nat) (hv : WV w0 x dA dc mA mc) (hk : x.kind = 5) (hl : d.load ≤ 75000) (hs : d.safe.length = 16) :
  Calls Tryz.prog 11 #[.pointer (some ⟨gw, 0, none⟩), .agg (wxC x dA dc mA mc)] w fun e w' => e = .returned (.bool true) ∧ DoneW w0 w' gw g q d := by
 obtain ⟨F, E, G, B, lg, lr, A, c, hb, hkk, hf⟩ := h.some
 obtain ⟨gb, hgb⟩ : ∃ k, k = w.heap.size := ⟨_, rfl⟩
 have hA0 := At13.start hb hkk (wxC x dA dc mA mc)
 rw [← hgb] at hA0
 have hb0 := hb.two.p.below
 have a42 := fun w' => Tryz.deed13Agg w'
 have s42 := fun w' => Tryz.deed13Size w'
 obtain ⟨n, hn⟩ : ∃ n, n = x.data.length := ⟨_, rfl⟩
 obtain ⟨mn, hmn⟩ : ∃ n, n = x.masks.length := ⟨_, rfl⟩
 obtain ⟨xn, hxn⟩ : ∃ n, n = x.n := ⟨_, rfl⟩
 obtain ⟨xm, hxm⟩ : ∃ n, n = x.m := ⟨_, rfl⟩
 obtain ⟨kd, hkd⟩ : ∃ n, n = x.kind := ⟨_, rfl⟩
 rw [hk] at hkd
 subst hkd
 have hkd : (5 : Int) = x.kind := hk.symm
 have HOp : Hid (∀ W F E G B d lo ro, Bo w0 W gw g q F E G B d d lo ro → Blk W gw 36 (worldC g q lo ro) → d.load ≤ 79000 → d.safe.length = 16 → Calls Tryz.prog 9 #[.pointer (some ⟨gw, 0, none⟩), .int .i64 2, .int .i64 3, .int .i64 xn, .int .i64 xm] W fun e w' => e = .returned (.bool true) ∧ Hid (∃ lo', LW w0 w' gw g q (openW d 2 3 xn xm).1 lo' ∧ Keep d (openW d 2 3 xn xm).1 200)) := fun W F E G B d lo ro hB hK hl hs => by
  have h5 := lopen_any hB hK 2 3 xn xm ⟨⟨by unfold InI; omega, by unfold InI; omega⟩, by rw [hxn]; exact hv.n, by rw [hxm]; exact hv.m⟩ hl (by omega)
  exact h5.mono fun e w' hh => ⟨hh.1, _, hh.2, (keep_open hB.two.r.good.fit 2 3 xn xm (by omega)).1⟩
 have HLd : Hid (d.load ≤ 75000 ∧ d.safe.length = 16) := ⟨hl, hs⟩
 obtain ⟨d1, hr⟩ : ∃ d1, d.crash x.masks = d1 := ⟨_, rfl⟩
 have hkp := keep_crash d x.masks
 rw [hr] at hkp
 have HKp := Lib.hid hkp
 have H1 : Hid (∀ W, At13 w0 W gw g q gb F E G B d d (some (l, lg)) (some (l, lr, A, c)) (some (l, lg)) (some (l, lr, A, c)) (wxC x dA dc mA mc) → Calls Tryz.prog 23 #[.pointer (some ⟨g, 0, none⟩), .slice mA mn mc] W fun e w' => e = .returned (.tuple #[]) ∧ Hid (At13 w0 w' gw g q gb F E G B d1 d (some (l, lg)) (some (l, lr, A, c)) (some (l, lg)) (some (l, lr, A, c)) (wxC x dA dc mA mc))) := fun W hW => by
  obtain ⟨m1, m2, m3⟩ := hW.bo.two.masks hv.ri
  have h5 := crash_any hW.bo.two.p.disk x.masks mA mn mc hmn m1 m2
  rw [hr] at h5
  exact h5.mono fun e w' hh => ⟨hh.1, hW.progD hh.2⟩
 have H2 : Hid (∀ W, At13 w0 W gw g q gb F E G B d1 d (some (l, lg)) (some (l, lr, A, c)) (some (l, lg)) (some (l, lr, A, c)) (wxC x dA dc mA mc) → Calls Tryz.prog 35 #[.pointer (some ⟨q, 0, none⟩), .slice mA mn mc] W fun e w' => e = .returned (.tuple #[]) ∧ ∃ G' B', Hid (At13 w0 w' gw g q gb F E G' B' d1 d1 (some (l, lg)) (some (l, lr, A, c)) (some (l, lg)) (some (l, lr, A, c)) (wxC x dA dc mA mc))) := fun W hW => by
  obtain ⟨m1, m2, m3⟩ := hW.bo.two.masks hv.ri
  have h5 := rcrash_any hW.bo.two.r x.masks mA mn mc hmn m1 m3 (by omega)
  rw [hr] at h5
  exact h5.mono fun e w' hh => ⟨hh.1, hW.refD hh.2⟩
 have HC : Hid (∀ W F E G B d e lo ro, At13 w0 W gw g q gb F E G B d e lo ro (some (l, lg)) (some (l, lr, A, c)) (wxC x dA dc mA mc) → (W.cell? ⟨gw, 0, none⟩ = some (.pointer (some ⟨g, 0, none⟩)) ∧ W.cell? ⟨gw, 1, none⟩ = some (.pointer (some ⟨lg, 0, none⟩)) ∧ W.cell? ⟨gw, 2, none⟩ = some (.pointer (some ⟨q, 0, none⟩)) ∧ W.cell? ⟨gw, 3, none⟩ = some (.pointer (some ⟨lr, 0, none⟩))) ∧ W.cell? ⟨gb, 0, none⟩ = some (.int .i64 5) ∧ W.cell? ⟨gb, 1, none⟩ = some (.int .i64 xn) ∧ W.cell? ⟨gb, 2, none⟩ = some (.int .i64 xm) ∧ W.cell? ⟨gb, 3, none⟩ = some (.slice dA n dc) ∧ W.cell? ⟨gb, 4, none⟩ = some (.slice mA mn mc)) := fun W F E G B d e lo ro hW => by
  have := hW.cells
  rw [← hkd, ← hn, ← hmn, ← hxn, ← hxm] at this
  exact this
 unfold wxC at hA0 ⊢
 rw [← hkd, ← hn, ← hmn, ← hxn, ← hxm] at hA0 ⊢
 obtain ⟨wb, hwb⟩ : ∃ W, W = w.alloc (.cells #[.int .i64 5, .int .i64 xn, .int .i64 xm, .slice dA n dc, .slice mA mn mc] 42) := ⟨_, rfl⟩
 rw [← hwb] at hA0
 have HA0 : Hid (At13 w0 wb gw g q gb F E G B d d (some (l, lg)) (some (l, lr, A, c)) (some (l, lg)) (some (l, lr, A, c)) (wxC x dA dc mA mc)) := by
  show At13 _ _ _ _ _ _ _ _ _ _ _ _ _ _ _ _ _
  unfold wxC
  rw [← hkd, ← hn, ← hmn, ← hxn, ← hxm]
  exact hA0
 have Hwb := Lib.hid hwb
 have Hgb := Lib.hid hgb
 have HF := Lib.hid hf
 clear h hb hkk hf hA0 hb0 hv hl hs hn hmn hxn hxm hgb hwb hkd
 go_enter Tryz.func11, Tryz.ntmps11
 go_upto_region 1 with (fail)
 rw [← Hwb.out, ← Hgb.out]
 have HAd := Lib.hid (HA0.out.more (Below.refl wb.heap.size wb).drew)
 obtain ⟨⟨c0, c1, c2, c3⟩, b0, b1, b2, b3, b4⟩ := HC.out _ _ _ _ _ _ _ _ _ HA0.out
 have s0 := HC.out _ _ _ _ _ _ _ _ _ HAd.out
 go_wp2
 go_region_held3 (fun W => (W.cell? ⟨gw, 0, none⟩ = some (.pointer (some ⟨g, 0, none⟩)) ∧ W.cell? ⟨gw, 1, none⟩ = some (.pointer (some ⟨lg, 0, none⟩)) ∧ W.cell? ⟨gw, 2, none⟩ = some (.pointer (some ⟨q, 0, none⟩)) ∧ W.cell? ⟨gw, 3, none⟩ = some (.pointer (some ⟨lr, 0, none⟩))) ∧ W.cell? ⟨gb, 0, none⟩ = some (.int .i64 5) ∧ W.cell? ⟨gb, 1, none⟩ = some (.int .i64 xn) ∧ W.cell? ⟨gb, 2, none⟩ = some (.int .i64 xm) ∧ W.cell? ⟨gb, 3, none⟩ = some (.slice dA n dc) ∧ W.cell? ⟨gb, 4, none⟩ = some (.slice mA mn mc))
  (first | exact s0 | exact s1)
  (first
   | (go_at_call 23; (with_reducible refine (H1.out _ HAd.out).mono ?_); rintro e w1 ⟨rfl, hA1⟩; have s1 := HC.out _ _ _ _ _ _ _ _ _ hA1.out))
 have hA1d := Lib.hid (hA1.out.more (Below.refl w1.heap.size w1).drew)
 have s3 := HC.out _ _ _ _ _ _ _ _ _ hA1d.out
 go_wp2
 go_region_held3 (fun W => (W.cell? ⟨gw, 0, none⟩ = some (.pointer (some ⟨g, 0, none⟩)) ∧ W.cell? ⟨gw, 1, none⟩ = some (.pointer (some ⟨lg, 0, none⟩)) ∧ W.cell? ⟨gw, 2, none⟩ = some (.pointer (some ⟨q, 0, none⟩)) ∧ W.cell? ⟨gw, 3, none⟩ = some (.pointer (some ⟨lr, 0, none⟩))) ∧ W.cell? ⟨gb, 0, none⟩ = some (.int .i64 5) ∧ W.cell? ⟨gb, 1, none⟩ = some (.int .i64 xn) ∧ W.cell? ⟨gb, 2, none⟩ = some (.int .i64 xm) ∧ W.cell? ⟨gb, 3, none⟩ = some (.slice dA n dc) ∧ W.cell? ⟨gb, 4, none⟩ = some (.slice mA mn mc))
  (first | exact s3 | exact s2)
  (first
   | (go_at_call 35; (with_reducible refine (H2.out _ hA1d.out).mono ?_); rintro e w2 ⟨rfl, G2, B2, hA2⟩; have s2 := HC.out _ _ _ _ _ _ _ _ _ hA2.out))
 obtain ⟨⟨q0, q1, q2, q3⟩, r0, r1, r2, r3, r4⟩ := s2
 have h9 := Lib.hid (HOp.out _ _ _ _ _ _ _ _ hA2.out.bo hA2.out.k (by have h1 := HLd.out.1; have h2 := HKp.out.2; omega) (by rw [HKp.out.1]; exact HLd.out.2))
 go_wp2_with (go_at_call 9; (with_reducible refine h9.out.mono ?_); rintro e w5 ⟨rfl, hO⟩)
 go_ret
 obtain ⟨lo', h7, h8⟩ := hO.out
 exact ⟨rfl, _, lo', h7, (HKp.out.trans h8).more (by omega)⟩
theorem ldo_other_some {l : Lg} (h : LW w0 w gw g q d (some l)) (x : Wx) (dA mA : Option Addr) (dc mc : Nat) (hv : WV w0 x dA dc mA mc) (hk : x.kind ≠ 1 ∧ x.kind ≠ 2 ∧ x.kind ≠ 3 ∧ x.kind ≠ 4 ∧ x.kind ≠ 5 ∧ x.kind ≠ 6) (hl : d.load ≤ 75000) (hs : d.safe.length = 16) :
  Calls Tryz.prog 11 #[.pointer (some ⟨gw, 0, none⟩), .agg (wxC x dA dc mA mc)] w fun e w' => e = .returned (.bool true) ∧ DoneW w0 w' gw g q d := by
 obtain ⟨F, E, G, B, lg, lr, A, c, hb, hkk, hf⟩ := h.some
 obtain ⟨gb, hgb⟩ : ∃ k, k = w.heap.size := ⟨_, rfl⟩
 have hA0 := At13.start hb hkk (wxC x dA dc mA mc)
 rw [← hgb] at hA0
 have hb0 := hb.two.p.below
 have a42 := fun w' => Tryz.deed13Agg w'
 have s42 := fun w' => Tryz.deed13Size w'
 obtain ⟨n, hn⟩ : ∃ n, n = x.data.length := ⟨_, rfl⟩
 obtain ⟨mn, hmn⟩ : ∃ n, n = x.masks.length := ⟨_, rfl⟩
 obtain ⟨xn, hxn⟩ : ∃ n, n = x.n := ⟨_, rfl⟩
 obtain ⟨xm, hxm⟩ : ∃ n, n = x.m := ⟨_, rfl⟩
 obtain ⟨kd, hkd⟩ : ∃ n, n = x.kind := ⟨_, rfl⟩
 obtain ⟨k1, k2, k3, k4, k5, k6⟩ := hk
 rw [← hkd] at k1 k2 k3 k4 k5 k6
 have e1 : (kd == (1 : Int)) = false := by rw [beq_eq_false_iff_ne]; exact k1
 have f1 : decide (kd = (1 : Int)) = false := decide_eq_false k1
 have e2 : (kd == (2 : Int)) = false := by rw [beq_eq_false_iff_ne]; exact k2
 have f2 : decide (kd = (2 : Int)) = false := decide_eq_false k2
 have e3 : (kd == (3 : Int)) = false := by rw [beq_eq_false_iff_ne]; exact k3
 have f3 : decide (kd = (3 : Int)) = false := decide_eq_false k3
 have e4 : (kd == (4 : Int)) = false := by rw [beq_eq_false_iff_ne]; exact k4
 have f4 : decide (kd = (4 : Int)) = false := decide_eq_false k4
 have e5 : (kd == (5 : Int)) = false := by rw [beq_eq_false_iff_ne]; exact k5
 have f5 : decide (kd = (5 : Int)) = false := decide_eq_false k5
 have e6 : (kd == (6 : Int)) = false := by rw [beq_eq_false_iff_ne]; exact k6
 have f6 : decide (kd = (6 : Int)) = false := decide_eq_false k6
 clear k1 k2 k3 k4 k5 k6
 have HKp : Hid (Keep d d 0) := Keep.refl d
 have HC : Hid (∀ W F E G B d e lo ro, At13 w0 W gw g q gb F E G B d e lo ro (some (l, lg)) (some (l, lr, A, c)) (wxC x dA dc mA mc) → (W.cell? ⟨gw, 0, none⟩ = some (.pointer (some ⟨g, 0, none⟩)) ∧ W.cell? ⟨gw, 1, none⟩ = some (.pointer (some ⟨lg, 0, none⟩)) ∧ W.cell? ⟨gw, 2, none⟩ = some (.pointer (some ⟨q, 0, none⟩)) ∧ W.cell? ⟨gw, 3, none⟩ = some (.pointer (some ⟨lr, 0, none⟩))) ∧ W.cell? ⟨gb, 0, none⟩ = some (.int .i64 kd) ∧ W.cell? ⟨gb, 1, none⟩ = some (.int .i64 xn) ∧ W.cell? ⟨gb, 2, none⟩ = some (.int .i64 xm) ∧ W.cell? ⟨gb, 3, none⟩ = some (.slice dA n dc) ∧ W.cell? ⟨gb, 4, none⟩ = some (.slice mA mn mc)) := fun W F E G B d e lo ro hW => by
  have := hW.cells
  rw [← hkd, ← hn, ← hmn, ← hxn, ← hxm] at this
  exact this
 unfold wxC at hA0 ⊢
 rw [← hkd, ← hn, ← hmn, ← hxn, ← hxm] at hA0 ⊢
 obtain ⟨wb, hwb⟩ : ∃ W, W = w.alloc (.cells #[.int .i64 kd, .int .i64 xn, .int .i64 xm, .slice dA n dc, .slice mA mn mc] 42) := ⟨_, rfl⟩
 rw [← hwb] at hA0
 have HA0 : Hid (At13 w0 wb gw g q gb F E G B d d (some (l, lg)) (some (l, lr, A, c)) (some (l, lg)) (some (l, lr, A, c)) (wxC x dA dc mA mc)) := by
  show At13 _ _ _ _ _ _ _ _ _ _ _ _ _ _ _ _ _
  unfold wxC
  rw [← hkd, ← hn, ← hmn, ← hxn, ← hxm]
  exact hA0
 have Hwb := Lib.hid hwb
 have Hgb := Lib.hid hgb
 have HF := Lib.hid hf
 clear h hb hkk hf hA0 hb0 hv hl hs hn hmn hxn hxm hgb hwb hkd
 go_enter Tryz.func11, Tryz.ntmps11
 go_upto_region 1 with (fail)
 rw [← Hwb.out, ← Hgb.out]
 have HAd := Lib.hid (HA0.out.more (Below.refl wb.heap.size wb).drew)
 obtain ⟨⟨c0, c1, c2, c3⟩, b0, b1, b2, b3, b4⟩ := HC.out _ _ _ _ _ _ _ _ _ HA0.out
 have s0 := HC.out _ _ _ _ _ _ _ _ _ HAd.out
 go_wp2
 go_ret
 exact ⟨rfl, d, some l, HA0.out.lw0 rfl rfl (fun y hy => by obtain rfl := Option.some.inj hy; rw [HKp.out.1]; exact HF.out), HKp.out.more (by omega)⟩
theorem ldo_any {lo : Option Lg} (h : LW w0 w gw g q d lo) (x : Wx) (dA mA : Option Addr) (dc mc : Nat) (hv : WV w0 x dA dc mA mc) (hx : x.data.length ≤ 700) (hl : d.load ≤ 75000) (hs : d.safe.length = 16) :
  Calls Tryz.prog 11 #[.pointer (some ⟨gw, 0, none⟩), .agg (wxC x dA dc mA mc)] w fun e w' => e = .returned (.bool true) ∧ DoneW w0 w' gw g q d := by
 by_cases k4 : x.kind = 4
 ·cases lo with
  | none => exact ldo_stop_none h x dA mA dc mc hv k4 hl hs
  | some l => exact ldo_stop_some h x dA mA dc mc hv k4 hl hs
 by_cases k5 : x.kind = 5
 ·cases lo with
  | none => exact ldo_crash_none h x dA mA dc mc hv k5 hl hs
  | some l => exact ldo_crash_some h x dA mA dc mc hv k5 hl hs
 by_cases k6 : x.kind = 6
 ·cases lo with
  | none => exact ldo_open_none h x dA mA dc mc hv k6 hl hs
  | some l => exact ldo_open_some h x dA mA dc mc hv k6 hl hs
 cases lo with
 | none =>
  by_cases k0 : x.kind < 4
  ·exact ldo_early_none h x dA mA dc mc hv k0 hl hs
  ·exact ldo_other_none h x dA mA dc mc hv ⟨by omega, by omega, by omega, k4, k5, k6⟩ hl hs
 | some l =>
  by_cases k1 : x.kind = 1
  ·exact ldo_append h x dA mA dc mc hv k1 hx hl hs
  by_cases k2 : x.kind = 2
  ·exact ldo_turn h x dA mA dc mc hv k2 hx hl hs
  by_cases k3 : x.kind = 3
  ·exact ldo_reset h x dA mA dc mc hv k3 hx hl hs
  ·exact ldo_other_some h x dA mA dc mc hv ⟨k1, k2, k3, k4, k5, k6⟩ hl hs
end
end Go.Proofs.YtghenhacndaelaaGreat
