/- Lemmas under the proofs of this place: DiskPClone. No statement is proved here. -/
import Derived.Test.YtghenhacndaelaaBu24
import Derived.Test.YtghenhacndaelaaBu17
import Derived.StillTailTactics
import Derived.Deep.RegionHeld3
import Derived.Lib.SmallJoins
set_option linter.unusedVariables false
set_option maxRecDepth 100000
set_option maxHeartbeats 16000000
namespace Go.Proofs.Ytghenhacndaelaa
open Go.RowKit
theorem astore_any (g k : Nat) (y : Int) (u : Value) (w : World) (hc : w.cell? ⟨g, k, none⟩ = some u) (hz : w.frozen? ⟨g, k, none⟩ = false) :
    Calls Try.prog 31 #[.pointer (some ⟨g, k, none⟩), .int .i64 y] w fun e w' => e = .returned (.tuple #[]) ∧ w' = w.setCell ⟨g, k, none⟩ (.int .i64 y) := by
  have HA := Try.storeInt64 ⟨g, k, none⟩ y u w hc hz
  clear hc hz
  go_enter Try.func31, Try.ntmps31
  go_wp2
  go_end0
  exact ⟨rfl, rfl⟩
theorem wclone_any (L : List (Nat × List UInt8)) (V : Value) (w : World) (ho : w.ownsRow 0 69 257 V L.length (waitCells L)) (hl : L.length ≤ 1000000) :
    Calls Try.prog 30 #[V] w fun e w' => ∃ V', e = .returned V' ∧ w'.ownsRow w.heap.size 69 257 V' L.length (waitCells L) ∧ Below w.heap.size w w' := by
  obtain ⟨i0, hi0, hz0, hz1, hz2⟩ := info_parts Try.writeInfo
  rcases ho.2 with ⟨rfl, h0⟩ | ⟨g, cap, cur, rfl, hr⟩
  · have hn : (binOp .eql 58 (.slice none 0 0) (.slice none 0 0)).run Try.prog w = .ok (.bool true) w := Lib.run_eql_slice_nil w 58 69 none 0 0 0 0 Try.underlying58
    have HO := Lib.hid ho
    have HL := Lib.hid h0
    clear ho h0 hl
    go_enter Try.func30, Try.ntmps30
    go_wp2
    go_ret
    refine ⟨_, rfl, ?_, Below.refl _ _⟩
    have hL : L = [] := List.eq_nil_of_length_eq_zero HL.out
    subst hL
    exact World.ownsRow_nil _ _ _ _
  · have hR := Reads.of_own ho
    have hn : (binOp .eql 58 (.slice (some ⟨g, 0, none⟩) L.length cap) (.slice none 0 0)).run Try.prog w = .ok (.bool false) w := Lib.run_eql_slice_nil w 58 69 (some ⟨g, 0, none⟩) L.length cap 0 0 Try.underlying58
    clear hr ho
    go_enter Try.func30, Try.ntmps30
    go_wp2_with (at_builtin; refine wpList_append_any _ rfl (.tmp 5) (.tmp 6) _ rfl w.heap.size 69 i0 _ 257 264 Try.underlying58 hi0 hz0 hz1 hz2 (by simp [Value.cells, oneWait, cells_length]) (by omega) (.slice (some ⟨w.heap.size, 0, none⟩) 0 0) 0 [] rfl (World.ownsRow_made w #[] 0 (Nat.le_refl _) (by decide) rfl) w.heap.size (some ⟨g, 0, none⟩) L.length cap (waitCells L) rfl (hR.alloc (Nat.le_refl _) _) (waitCells_one _) (by simp only [maxLen]; omega) (by omega) (by simp) ?_; intro v5 w5 ho5 hg5 hat5; simp only [Nat.zero_add, List.nil_append] at ho5; have hb5 : Below w.heap.size w w5 := ((Below.refl _ _).alloc (Nat.le_refl _) _).grown hg5 (by simp) (by simp [Value.ownBlock]))
    go_ret
    exact ⟨v5, rfl, ho5, hb5⟩
theorem Try.buildDisk (v0 v1 v2 : Value) (x y : Bool) (l : Int) (a b n ca cb : Nat) (A : Option Addr) (m c : Nat) (h0 : v0 = .slice (some ⟨a, 0, none⟩) n ca) (h1 : v1 = .slice (some ⟨b, 0, none⟩) n cb) (h2 : v2 = .slice A m c) (w : World) :
    Sem.run Try.prog (Instr.build 65 #[(0, v0), (1, v1), (2, v2), (3, .bool x), (4, .bool y), (5, .int .i64 l)]) w = .ok (.agg #[v0, v1, v2, .bool x, .bool y, .int .i64 l, .int .i64 0, .int .i64 0, .int .i64 0]) w := by
  subst h0 h1 h2
  kernel_rfl
def Six (g a ca b cb n : Nat) (V : Value) (x y : Bool) (l : Int) (w : World) : Prop :=
  w.cell? ⟨g, 0, none⟩ = some (.slice (some ⟨a, 0, none⟩) n ca) ∧ w.cell? ⟨g, 1, none⟩ = some (.slice (some ⟨b, 0, none⟩) n cb) ∧ w.cell? ⟨g, 2, none⟩ = some V ∧ w.cell? ⟨g, 3, none⟩ = some (.bool x) ∧ w.cell? ⟨g, 4, none⟩ = some (.bool y) ∧ w.cell? ⟨g, 5, none⟩ = some (.int .i64 l)
theorem PD.six {w W : World} {g : Nat} {F : Nat → Prop} {d : Dk} {a ca b cb n : Nat} {V : Value} {ends : Bool} {lf : Int} (h : PD w g F d a ca b cb n V ends lf) (hb : Below w.heap.size w W) : Six g a ca b cb n V d.off ends lf W := by
  have hp : PD W g F d a ca b cb n V ends lf := h.turns (Turns.of_below hb (fun _ => False)) (fun _ _ h => h)
  exact ⟨hp.c0, hp.c1, hp.c2, hp.c3, hp.c4, hp.c5⟩
def Mid (g g2 : Nat) (x6 x7 x8 : Int) (w3 W : World) (cs : Array Value) : Prop :=
  Blk W g2 65 cs ∧ Below w3.heap.size w3 W ∧ W.cell? ⟨g, 6, none⟩ = some (.int .i64 x6) ∧ W.cell? ⟨g, 7, none⟩ = some (.int .i64 x7) ∧ W.cell? ⟨g, 8, none⟩ = some (.int .i64 x8)
theorem Mid.store {g g2 : Nat} {x6 x7 x8 : Int} {w3 W : World} {cs : Array Value} (h : Mid g g2 x6 x7 x8 w3 W cs) (hne : g2 ≠ g) (hg : w3.heap.size ≤ g2) (j : Nat) (y : Int) : Mid g g2 x6 x7 x8 w3 (W.drew.setCell ⟨g2, j, none⟩ (.int .i64 y)) (cs.setIfInBounds j (.int .i64 y)) := by
  have far : ∀ k, (W.drew.setCell ⟨g2, j, none⟩ (.int .i64 y)).cell? ⟨g, k, none⟩ = W.cell? ⟨g, k, none⟩ := fun k => World.cell?_setCell_far W.drew _ _ _ hne
  refine ⟨Blk.set_ (w := W.drew) h.1 j (.int .i64 y), h.2.1.drew.setCell hg _, ?_, ?_, ?_⟩
  · rw [far]; exact h.2.2.1
  · rw [far]; exact h.2.2.2.1
  · rw [far]; exact h.2.2.2.2
theorem clone_end {w w1 w2 w3 W : World} {g g2 a2 c2 b2 c3 : Nat} {F : Nat → Prop} {d : Dk} {a ca b cb n : Nat} {V V2 : Value} {ends : Bool} {lf : Int} (h : PD w g F d a ca b cb n V ends lf)
    (hA : Arr w1 a2 d.safe.flatten) (ha2 : w.heap.size ≤ a2) (hc2 : n ≤ c2 ∧ c2 ≤ 9223372036854775807) (hB : Arr w2 b2 d.image) (hb2 : w1.heap.size ≤ b2) (hc3 : n ≤ c3 ∧ c3 ≤ 9223372036854775807)
    (hV : w3.ownsRow w2.heap.size 69 257 V2 d.waits.length (waitCells d.waits)) (b1 : Below w.heap.size w w1) (b12 : Below w1.heap.size w1 w2) (bw2 : Below w.heap.size w w2) (b23 : Below w2.heap.size w2 w3) (b3W : Below w3.heap.size w3 W) (hg2 : g2 = w3.heap.size)
    (hK : Blk W g2 65 (diskCells a2 c2 b2 c3 n V2 ends lf d)) : GivesDisk d w W g2 (fun k => k = g2 ∨ k = a2 ∨ k = b2 ∨ V2.ownBlock = some k) := by
  have l1 := hA.lt
  have l2 := hB.lt
  have s1 := b1.size
  have s2 := b12.size
  have s3 := b23.size
  have s4 := b3W.size
  have lW := hK.lt
  have hVb : ∀ k, V2.ownBlock = some k → w2.heap.size ≤ k ∧ k < w3.heap.size := fun k hk => by
    refine ⟨?_, (own_lt hV hk).1⟩
    rcases hV.2 with ⟨rfl, _⟩ | ⟨q, cap, cur, rfl, hq, _⟩
    · cases hk
    · have : q = k := by simpa [Value.ownBlock] using hk
      omega
  refine ⟨⟨a2, c2, b2, c3, n, V2, ends, lf, hK, h.size, hc2, hc3, ((hA.turns (Turns.of_below b12 (fun _ => False)) (fun h => h)).turns (Turns.of_below b23 (fun _ => False)) (fun h => h)).turns (Turns.of_below b3W (fun _ => False)) (fun h => h),
    (hB.turns (Turns.of_below b23 (fun _ => False)) (fun h => h)).turns (Turns.of_below b3W (fun _ => False)) (fun h => h), ?_, by omega, .inl rfl, .inr (.inl rfl), .inr (.inr (.inl rfl)), fun k hk => .inr (.inr (.inr hk)), ?_, h.good, h.ends_, h.left_⟩, ?_, ?_⟩
  · have h1 := own_turns hV (Turns.of_below b3W (fun _ => False)) (fun _ _ h => h)
    exact Joins.ownsRow_le h1 (Nat.zero_le _)
  · intro k hk
    rcases hk with rfl | rfl | rfl | hk
    · exact lW
    · omega
    · omega
    · have := hVb k hk; omega
  · exact (bw2.trans (b23.mono bw2.size)).trans (b3W.mono (by have := bw2.size; omega))
  · intro k hk
    rcases hk with rfl | rfl | rfl | hk
    · have := bw2.size; omega
    · exact ha2
    · omega
    · have := hVb k hk; have := bw2.size; omega
theorem pclone_any {w : World} {g : Nat} {F : Nat → Prop} {d : Dk} (h : PDisk w g F d) (hl : d.load ≤ 100000) :
    Calls Try.prog 10 #[.pointer (some ⟨g, 0, none⟩)] w fun e w' => ∃ g2 F2, e = .returned (.pointer (some ⟨g2, 0, none⟩)) ∧ GivesDisk d w w' g2 F2 := by
  have z0 := fun w' => Try.dIsNil g w'
  obtain ⟨a, ca, b, cb, n, V, ends, lf, h⟩ := h
  have H := Lib.hid h
  obtain ⟨x, hx⟩ : ∃ x, x = d.off := ⟨_, rfl⟩
  have hln : n = d.safe.flatten.length := h.len.symm
  have hln2 : n = d.image.length := by rw [Dk.image_length h.good.fit, h.size]
  have hn1 : n ≤ 1000000 := by have := h.size; have := h.good.many; omega
  have hn0 : 0 < n := by have := h.size; have := h.good.few; omega
  have HC1 : Hid (∀ W, Below w.heap.size w W → Calls Try.prog 29 #[.slice (some ⟨a, 0, none⟩) n ca] W fun e w' => ∃ a2 c2, e = .returned (.slice (some ⟨a2, 0, none⟩) n c2) ∧ Hid (Arr w' a2 d.safe.flatten ∧ n ≤ c2 ∧ c2 ≤ 9223372036854775807 ∧ W.heap.size ≤ a2) ∧ Below W.heap.size W w') := fun W hb => by
    have := sclone_any d.safe.flatten _ ca _ W (h.safe.all.below hb) (by rw [← hln]; omega)
    rw [← hln] at this
    refine this.mono ?_
    rintro e w' ⟨A1, c1, rfl, ho1, hb1⟩
    obtain ⟨a2, rfl, hA2, hl2, hm2, hg2⟩ := own_arr ho1 (by rw [← hln]; exact hn0)
    exact ⟨a2, c1, by rw [← hln], ⟨hA2, by rw [hln]; exact hl2, hm2, hg2⟩, hb1⟩
  have HC2 : Hid (∀ W, Below w.heap.size w W → Calls Try.prog 29 #[.slice (some ⟨b, 0, none⟩) n cb] W fun e w' => ∃ a2 c2, e = .returned (.slice (some ⟨a2, 0, none⟩) n c2) ∧ Hid (Arr w' a2 d.image ∧ n ≤ c2 ∧ c2 ≤ 9223372036854775807 ∧ W.heap.size ≤ a2) ∧ Below W.heap.size W w') := fun W hb => by
    have := sclone_any d.image _ cb _ W (h.last.all.below hb) (by rw [← hln2]; omega)
    rw [← hln2] at this
    refine this.mono ?_
    rintro e w' ⟨A1, c1, rfl, ho1, hb1⟩
    obtain ⟨a2, rfl, hA2, hl2, hm2, hg2⟩ := own_arr ho1 (by rw [← hln2]; exact hn0)
    exact ⟨a2, c1, by rw [← hln2], ⟨hA2, by rw [hln2]; exact hl2, hm2, hg2⟩, hb1⟩
  have HC3 : Hid (∀ W, Below w.heap.size w W → Calls Try.prog 30 #[V] W fun e w' => ∃ A3 m3 c3, e = .returned (.slice A3 m3 c3) ∧ Hid (w'.ownsRow W.heap.size 69 257 (.slice A3 m3 c3) d.waits.length (waitCells d.waits)) ∧ Below W.heap.size W w') := fun W hb => by
    have hp : PD W g F d a ca b cb n V ends lf := h.turns (Turns.of_below hb (fun _ => False)) (fun _ _ h => h)
    refine (wclone_any d.waits V W hp.wait (by unfold Dk.load at hl; omega)).mono ?_
    rintro e w' ⟨V', rfl, ho, hb1⟩
    rcases ho.2 with ⟨rfl, _⟩ | ⟨k, cap, cur, rfl, _⟩
    · exact ⟨_, _, _, rfl, ho, hb1⟩
    · exact ⟨_, _, _, rfl, ho, hb1⟩
  have HS : Hid (∀ W, Below w.heap.size w W → Six g a ca b cb n V x ends lf W) := fun W hb => by rw [hx]; exact h.six hb
  have b0 : Below w.heap.size w w.drew := (Below.refl _ _).drew
  have HBd := fun a2 c2 b2 c3 A3 m3 c4 (W : World) => Try.buildDisk _ _ _ x ends lf a2 b2 n c2 c3 A3 m3 c4 rfl rfl rfl W
  have HX := Lib.hid hx
  clear h hx hln hln2 hn1 hn0 hl
  go_enter Try.func10, Try.ntmps10
  go_wp2
  go_region_held3 (fun w' => w'.cell? ⟨g, 0, none⟩ = some (.slice (some ⟨a, 0, none⟩) n ca) ∧ w'.cell? ⟨g, 1, none⟩ = some (.slice (some ⟨b, 0, none⟩) n cb) ∧ w'.cell? ⟨g, 2, none⟩ = some V ∧ w'.cell? ⟨g, 3, none⟩ = some (.bool x) ∧ w'.cell? ⟨g, 4, none⟩ = some (.bool ends) ∧ w'.cell? ⟨g, 5, none⟩ = some (.int .i64 lf))
    (first | exact HS.out _ b0 | exact HS.out _ b1 | exact HS.out _ b2 | exact HS.out _ b3 | exact HS.out _ (b3.alloc b3.size _))
    (first
      | (go_at_call 30; (with_reducible refine (HC3.out _ b2).mono ?_); rintro e w3 ⟨A3, m3, c4, rfl, ho3, hb3⟩; have b3 : Below w.heap.size w w3 := b2.trans (hb3.mono b2.size))
      | (go_at_call 29; (with_reducible refine (HC1.out _ b0).mono ?_); rintro e w1 ⟨a2, c2, rfl, hA1, hb1⟩; have b1 : Below w.heap.size w w1 := b0.trans (hb1.mono b0.size))
      | (go_at_call 29; (with_reducible refine (HC2.out _ b1).mono ?_); rintro e w2 ⟨b2', c3, rfl, hA2, hb2⟩; have b2 : Below w.heap.size w w2 := b1.trans (hb2.mono b1.size)))
  go_wp2
  have K4 := Blk.new w3 65 #[.slice (some ⟨a2, 0, none⟩) n c2, .slice (some ⟨b2', 0, none⟩) n c3, .slice A3 m3 c4, .bool x, .bool ends, .int .i64 lf, .int .i64 0, .int .i64 0, .int .i64 0]
  have b4 : Below w.heap.size w (w3.alloc (.cells #[.slice (some ⟨a2, 0, none⟩) n c2, .slice (some ⟨b2', 0, none⟩) n c3, .slice A3 m3 c4, .bool x, .bool ends, .int .i64 lf, .int .i64 0, .int .i64 0, .int .i64 0] 65)) := b3.alloc b3.size _
  have hb4 : Below w3.heap.size w3 (w3.alloc (.cells #[.slice (some ⟨a2, 0, none⟩) n c2, .slice (some ⟨b2', 0, none⟩) n c3, .slice A3 m3 c4, .bool x, .bool ends, .int .i64 lf, .int .i64 0, .int .i64 0, .int .i64 0] 65)) := (Below.refl _ _).alloc (Nat.le_refl _) _
  have hz4 : w3.heap.size < (w3.alloc (.cells #[.slice (some ⟨a2, 0, none⟩) n c2, .slice (some ⟨b2', 0, none⟩) n c3, .slice A3 m3 c4, .bool x, .bool ends, .int .i64 lf, .int .i64 0, .int .i64 0, .int .i64 0] 65)).heap.size := by simp
  generalize (w3.alloc (.cells #[.slice (some ⟨a2, 0, none⟩) n c2, .slice (some ⟨b2', 0, none⟩) n c3, .slice A3 m3 c4, .bool x, .bool ends, .int .i64 lf, .int .i64 0, .int .i64 0, .int .i64 0] 65)) = W4 at K4 b4 hb4 hz4 ⊢
  have hg2 : w.heap.size ≤ w3.heap.size := b3.size
  obtain ⟨g2, hgg⟩ : ∃ g2, g2 = w3.heap.size := ⟨_, rfl⟩
  rw [← hgg] at K4 hg2 ⊢
  have hgne : g2 ≠ g := by have := H.out.flt g H.out.fg; omega
  have P4 : PD W4 g F d a ca b cb n V ends lf := H.out.turns (Turns.of_below b4 (fun _ => False)) (fun _ _ h => h)
  obtain ⟨x6, hx6⟩ : ∃ x6 : Int, x6 = (d.reads : Int) := ⟨_, rfl⟩
  obtain ⟨x7, hx7⟩ : ∃ x7 : Int, x7 = (d.writes : Int) := ⟨_, rfl⟩
  obtain ⟨x8, hx8⟩ : ∃ x8 : Int, x8 = (d.flushes : Int) := ⟨_, rfl⟩
  have q6 : W4.cell? ⟨g, 6, none⟩ = some (.int .i64 x6) := by rw [hx6]; exact P4.c6
  have q7 : W4.cell? ⟨g, 7, none⟩ = some (.int .i64 x7) := by rw [hx7]; exact P4.c7
  have q8 : W4.cell? ⟨g, 8, none⟩ = some (.int .i64 x8) := by rw [hx8]; exact P4.c8
  have M4 : Mid g g2 x6 x7 x8 w3 W4 #[.slice (some ⟨a2, 0, none⟩) n c2, .slice (some ⟨b2', 0, none⟩) n c3, .slice A3 m3 c4, .bool x, .bool ends, .int .i64 lf, .int .i64 0, .int .i64 0, .int .i64 0] := ⟨K4, hb4, q6, q7, q8⟩
  have HG2 := Lib.hid hgg
  have HSt : Hid (∀ (W : World) (cs : Array Value) (j : Nat) (y : Int) (u : Value), Mid g g2 x6 x7 x8 w3 W cs → cs[j]? = some u → Calls Try.prog 31 #[.pointer (some ⟨g2, j, none⟩), .int .i64 y] W.drew fun e w' => e = .returned (.tuple #[]) ∧ Mid g g2 x6 x7 x8 w3 w' (cs.setIfInBounds j (.int .i64 y))) := fun W cs j y u hM hj =>
    (astore_any g2 j y u W.drew (by show W.cell? _ = _; rw [hM.1.cell]; exact hj) (hM.1.frozen j)).mono fun e w' ⟨he, hw⟩ => ⟨he, by rw [hw]; exact hM.store hgne (by rw [hgg]; exact Nat.le_refl _) j y⟩
  have HLd4 : Hid (∀ (W : World) (cs : Array Value), Mid g g2 x6 x7 x8 w3 W cs → Calls Try.prog 32 #[.pointer (some ⟨g, 6, none⟩)] W.drew fun e w' => e = .returned (.int .i64 x6) ∧ w' = W.drew) := fun W cs hM => (aload_any g 6 x6 W.drew hM.2.2.1).mono fun _ _ h => ⟨h.1, h.2.symm⟩
  have HLd5 : Hid (∀ (W : World) (cs : Array Value), Mid g g2 x6 x7 x8 w3 W cs → Calls Try.prog 32 #[.pointer (some ⟨g, 7, none⟩)] W.drew fun e w' => e = .returned (.int .i64 x7) ∧ w' = W.drew) := fun W cs hM => (aload_any g 7 x7 W.drew hM.2.2.2.1).mono fun _ _ h => ⟨h.1, h.2.symm⟩
  have HLd6 : Hid (∀ (W : World) (cs : Array Value), Mid g g2 x6 x7 x8 w3 W cs → Calls Try.prog 32 #[.pointer (some ⟨g, 8, none⟩)] W.drew fun e w' => e = .returned (.int .i64 x8) ∧ w' = W.drew) := fun W cs hM => (aload_any g 8 x8 W.drew hM.2.2.2.2).mono fun _ _ h => ⟨h.1, h.2.symm⟩
  have HFin : Hid (∀ W7, Mid g g2 x6 x7 x8 w3 W7 #[.slice (some ⟨a2, 0, none⟩) n c2, .slice (some ⟨b2', 0, none⟩) n c3, .slice A3 m3 c4, .bool x, .bool ends, .int .i64 lf, .int .i64 x6, .int .i64 x7, .int .i64 x8] → ∃ F2, GivesDisk d w W7 g2 F2) := by
    intro W7 hM
    refine ⟨_, clone_end H.out (w1 := w1) (w2 := w2) hA1.out.1 (Nat.le_trans b0.size hA1.out.2.2.2) ⟨hA1.out.2.1, hA1.out.2.2.1⟩ hA2.out.1 hA2.out.2.2.2 ⟨hA2.out.2.1, hA2.out.2.2.1⟩ ho3.out b1 hb2 b2 hb3 hM.2.1 hgg ?_⟩
    rw [hx6, hx7, hx8] at hM
    rw [HX.out] at hM
    exact hM.1
  clear K4 b4 hb4 hz4 hg2 hgg P4 hx6 hx7 hx8 q6 q7 q8 hA1 hA2 ho3 hb1 hb2 hb3 b1 b2 b3 b0 hgne HBd z0 HS HC1 HC2 HC3
  refine wp_region_still_tail 7 (by kernel_rfl) (by kernel_rfl) ?_
  simp only [List.take_succ_cons, List.take_zero, List.drop_succ_cons, List.drop_zero]
  iterate 6 still_step
  still_call (HLd4.out _ _ M4)
  refine wpStill_nil ?_
  change wpList _ _ _ _ _ (World.drew W4)
  go_wp2_with (go_at_call 31; (with_reducible refine (HSt.out _ _ 6 _ _ M4 rfl).mono ?_); rintro e W5 ⟨rfl, M5⟩)
  refine wp_region_still_tail 7 (by kernel_rfl) (by kernel_rfl) ?_
  simp only [List.take_succ_cons, List.take_zero, List.drop_succ_cons, List.drop_zero]
  iterate 6 still_step
  still_call (HLd5.out _ _ M5)
  refine wpStill_nil ?_
  change wpList _ _ _ _ _ (World.drew W5)
  go_wp2_with (go_at_call 31; (with_reducible refine (HSt.out _ _ 7 _ _ M5 rfl).mono ?_); rintro e W6 ⟨rfl, M6⟩)
  refine wp_region_still_tail 7 (by kernel_rfl) (by kernel_rfl) ?_
  simp only [List.take_succ_cons, List.take_zero, List.drop_succ_cons, List.drop_zero]
  iterate 6 still_step
  still_call (HLd6.out _ _ M6)
  refine wpStill_nil ?_
  change wpList _ _ _ _ _ (World.drew W6)
  go_wp2_with (go_at_call 31; (with_reducible refine (HSt.out _ _ 8 _ _ M6 rfl).mono ?_); rintro e W7 ⟨rfl, M7⟩)
  go_ret
  obtain ⟨F2, hF2⟩ := HFin.out W7 M7
  exact ⟨g2, F2, rfl, hF2⟩
end Go.Proofs.Ytghenhacndaelaa
