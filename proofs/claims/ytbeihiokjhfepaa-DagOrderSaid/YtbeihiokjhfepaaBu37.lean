/- Lemmas under the proofs of this place: DagAwake. No statement is proved here. -/
import Derived.Test.YtbeihiokjhfepaaBu34
import Derived.Test.YtbeihiokjhfepaaBu31
import Derived.Deep.Cut
set_option linter.unusedSimpArgs false
set_option linter.unusedVariables false
set_option maxRecDepth 100000
set_option maxHeartbeats 16000000
namespace Go.Proofs.Ytbeihiokjhfepaa
open Go.RowKit
def awA : Bs := idB 1
def awB : Bs := idB 2
def awC : Bs := idB 3
def awD : Bs := idB 4
def awE : Bs := idB 5
def awG1 : Gr := [⟨awA, []⟩]
def awG2 : Gr := [⟨awA, []⟩, ⟨awC, [awA]⟩]
def awG3 : Gr := [⟨awA, []⟩, ⟨awC, [awA]⟩, ⟨awB, [awA]⟩]
def awG4 : Gr := [⟨awA, []⟩, ⟨awC, [awA]⟩, ⟨awB, [awA]⟩, ⟨awD, [awB, awC]⟩]
theorem aw16_1 : addG [] awA [] = (awG1, 0) := by kernel_rfl
theorem aw16_2 : addG awG1 awC [awA] = (awG2, 0) := by kernel_rfl
theorem aw16_3 : addG awG2 awB [awA] = (awG3, 0) := by kernel_rfl
theorem aw16_4 : addG awG3 awB [] = (awG3, 7) := by kernel_rfl
theorem aw16_5 : addG awG3 awD [awE] = (awG3, 14) := by kernel_rfl
theorem aw16_6 : addG awG3 [120] [] = (awG3, 1) := by kernel_rfl
theorem aw16_7 : addG awG3 awD [awB, awC] = (awG4, 0) := by kernel_rfl
theorem aw16_ok1 : GrOk awG1 := by have := addG_ok GrOk.nil awA []; rw [aw16_1] at this; exact this
theorem aw16_ok2 : GrOk awG2 := by have := addG_ok aw16_ok1 awC [awA]; rw [aw16_2] at this; exact this
theorem aw16_ok3 : GrOk awG3 := by have := addG_ok aw16_ok2 awB [awA]; rw [aw16_3] at this; exact this
theorem aw16_ok4 : GrOk awG4 := by have := addG_ok aw16_ok3 awD [awB, awC]; rw [aw16_7] at this; exact this
theorem aw16_heads : headsG awG3 = [awB, awC] := by kernel_rfl
theorem aw16_past : pastG awG3 [awB] = [awA, awB] := by kernel_rfl
theorem aw16_order : orderG awG3 = [awA, awB, awC] := by kernel_rfl
theorem aw16_depth : depthG awG3 awC = 2 := by kernel_rfl
theorem aw16_ab : aheadG awG3 awA awB = true := by kernel_rfl
theorem aw16_bc : aheadG awG3 awB awC = false := by kernel_rfl
theorem aw16_aa : aheadG awG3 awA awA = false := by kernel_rfl
theorem aw16_preds : predsG awG4 awD = [awB, awC] := by kernel_rfl
theorem aw16_kids : kidsG awG3 awA = [awB, awC] := by kernel_rfl
theorem aw16_has : hasG awG3 awA = true := by kernel_rfl
theorem ss_lit (W : World) (t : TypeId) (L : List Bs) : SS (W.alloc (.cells (scells L).toArray t)) (W.alloc (.cells (scells L).toArray t)).heap.size (some ⟨W.heap.size, 0, none⟩) L :=
  ⟨by rw [scells_length]; simp, fun _ => ⟨_, rfl, by simp, fun j u hu => by
    rw [addD, Nat.zero_add, (Blk.new W t (scells L).toArray).cell]
    simpa using hu⟩⟩
theorem Try.dagNil16 (p : Nat) (w : World) : Sem.run Try.prog (binOp .eql 23 (.pointer (some ⟨p, 0, none⟩)) (.pointer none)) w = .ok (.bool false) w := by kernel_rfl
structure CA (w W : World) (p : Nat) (F : Nat → Prop) (q : Nat) (F2 : Nat → Prop) (g g2 : Gr) : Prop where
  d1 : DH w W p F g
  d2 : DH w W q F2 g2
  dis : ∀ k, F k → ¬ F2 k
  g1 : ∀ k, GP W p k → ¬ F2 k
  g2 : ∀ k, GP W q k → ¬ F k
section
variable {w W W' : World} {p q : Nat} {F F2 F' : Nat → Prop} {g g2 g' : Gr}
theorem CA.up (h : CA w W p F q F2 g g2) (hb : Below W.heap.size W W') : CA w W' p F q F2 g g2 := ⟨h.d1.up hb, h.d2.up hb, h.dis, fun k hk => h.g1 k (h.d1.dag.gp_same (Turns.of_below hb (fun _ => False)) (fun _ _ h => h) (fun _ _ h => h) hk), fun k hk => h.g2 k (h.d2.dag.gp_same (Turns.of_below hb (fun _ => False)) (fun _ _ h => h) (fun _ _ h => h) hk)⟩
theorem CA.begin (h : DH w W p F g) (hP : PDagC W p W' q F2 g) (hF : ∀ k, F2 k → W.heap.size ≤ k) (hb : Below W.heap.size W W') : CA w W' p F q F2 g g :=
  ⟨h.up hb, ⟨hP.1, fun k hk => Nat.le_trans h.below.size (hF k hk), (h.up hb).below⟩, fun k h1 h2 => by
    have := h.flt k h1
    have := hF k h2
    omega, fun k h1 h2 => by
    have := (h.dag.gp_lt (h.dag.gp_same (Turns.of_below hb (fun _ => False)) (fun _ _ h => h) (fun _ _ h => h) h1)).2
    have := hF k h2
    omega, fun k h1 => (h.dag.gp_lt (hP.2 k h1)).1⟩
theorem CA.turned2 (h : CA w W p F q F2 g g2) (hP : PDagN W W' q F' g') (ht : Turns W W' F2 F') : CA w W' p F q F' g g' :=
  ⟨h.d1.other ht h.dis h.g1 h.d2.own, h.d2.turned hP ht, fun k h1 h2 => by
    rcases ht.foot k h2 with h3 | h3
    · exact h.dis k h1 h3
    · have := h.d1.flt k h1
      omega, fun k h1 h2 => by
    have h4 := h.d1.dag.gp_same ht h.dis h.g1 h1
    rcases ht.foot k h2 with h3 | h3
    · exact h.g1 k h4 h3
    · have := (h.d1.dag.gp_lt h4).2
      omega, fun k h1 h2 => by
    rcases hP.2 k h1 with h3 | h3
    · exact h.g2 k h3 h2
    · have := h.d1.flt k h2
      omega⟩
theorem CA.turned1 (h : CA w W p F q F2 g g2) (hP : PDagN W W' p F' g') (ht : Turns W W' F F') : CA w W' p F' q F2 g' g2 :=
  ⟨h.d1.turned hP ht, h.d2.other ht (fun k h1 h2 => h.dis k h2 h1) h.g2 h.d1.own, fun k h1 h2 => by
    rcases ht.foot k h1 with h3 | h3
    · exact h.dis k h3 h2
    · have := h.d2.flt k h2
      omega, fun k h1 h2 => by
    rcases hP.2 k h1 with h3 | h3
    · exact h.g1 k h3 h2
    · have := h.d2.flt k h2
      omega, fun k h1 h2 => by
    have h4 := h.d2.dag.gp_same ht (fun k h1 h2 => h.dis k h2 h1) h.g2 h1
    rcases ht.foot k h2 with h3 | h3
    · exact h.g2 k h4 h3
    · have := (h.d2.dag.gp_lt h4).2
      omega⟩
end
theorem dhadd_any {w W : World} {p : Nat} {F : Nat → Prop} {g g' : Gr} {r : Int} (h : DH w W p F g) (ok : GrOk g) (hg : g.length ≤ 1000) (x : Bs) (L : List Bs) (A : Option Addr) (n c : Nat) (hv : addG g x L = (g', r)) (hx : x.length ≤ 1000) (hn : n = L.length) (hs : SS W W.heap.size A L) (hA : 0 < n → ∀ ad, A = some ad → ¬ F ad.block) (hl : n ≤ 1000) (hc : n ≤ c) (hcm : c ≤ 9223372036854775807) :
    Calls Try.prog 12 #[.pointer (some ⟨p, 0, none⟩), .string (text x), .slice A n c] W fun e w' => ∃ F' : Nat → Prop, e = .returned (.int .i64 r) ∧ Hid (PDagN W w' p F' g') ∧ Hid (Turns W w' F F') :=
  (dagadd_any h.dag ok hg x L A n c hx hn hs hA hl hc hcm).mono fun e w' hh => by
    obtain ⟨q1, F', q2, q3⟩ := hh
    rw [hv] at q1 q2
    exact ⟨F', q1, q2, q3⟩
theorem idB_len (b : UInt8) : (idB b).length ≤ 1000 := by unfold idB; rw [List.length_replicate]; decide
theorem awake16_any (w : World) : Calls Try.prog 10 #[] w fun e w' => e = .returned (.bool true) ∧ Below w.heap.size w w' := by
  obtain ⟨ta, hta⟩ : ∃ t, t = text awA := ⟨_, rfl⟩
  obtain ⟨tb, htb⟩ : ∃ t, t = text awB := ⟨_, rfl⟩
  obtain ⟨tc, htc⟩ : ∃ t, t = text awC := ⟨_, rfl⟩
  obtain ⟨td, htd⟩ : ∃ t, t = text awD := ⟨_, rfl⟩
  obtain ⟨te, hte⟩ : ∃ t, t = text awE := ⟨_, rfl⟩
  have HI1 : Hid (∀ W p F g, Hid (DH w W p F g) → Calls Try.prog 33 #[.int .u8 1] W fun e w' => e = .returned (.string ta) ∧ Hid (DH w w' p F g)) := fun W p F g h => (lawid_any 1 1 rfl W).mono fun e w' hh => ⟨by rw [hh.1, hta]; rfl, h.out.up hh.2⟩
  have HI2 : Hid (∀ W p F g, Hid (DH w W p F g) → Calls Try.prog 33 #[.int .u8 2] W fun e w' => e = .returned (.string tb) ∧ Hid (DH w w' p F g)) := fun W p F g h => (lawid_any 2 2 rfl W).mono fun e w' hh => ⟨by rw [hh.1, htb]; rfl, h.out.up hh.2⟩
  have HI3 : Hid (∀ W p F g, Hid (DH w W p F g) → Calls Try.prog 33 #[.int .u8 3] W fun e w' => e = .returned (.string tc) ∧ Hid (DH w w' p F g)) := fun W p F g h => (lawid_any 3 3 rfl W).mono fun e w' hh => ⟨by rw [hh.1, htc]; rfl, h.out.up hh.2⟩
  have HI4 : Hid (∀ W p F g, Hid (DH w W p F g) → Calls Try.prog 33 #[.int .u8 4] W fun e w' => e = .returned (.string td) ∧ Hid (DH w w' p F g)) := fun W p F g h => (lawid_any 4 4 rfl W).mono fun e w' hh => ⟨by rw [hh.1, htd]; rfl, h.out.up hh.2⟩
  have HJ4 : Hid (∀ W p F q F2 g g2, Hid (CA w W p F q F2 g g2) → Calls Try.prog 33 #[.int .u8 4] W fun e w' => e = .returned (.string td) ∧ Hid (CA w w' p F q F2 g g2)) := fun W p F q F2 g g2 h => (lawid_any 4 4 rfl W).mono fun e w' hh => ⟨by rw [hh.1, htd]; rfl, h.out.up hh.2⟩
  have HI5 : Hid (∀ W p F g, Hid (DH w W p F g) → Calls Try.prog 33 #[.int .u8 5] W fun e w' => e = .returned (.string te) ∧ Hid (DH w w' p F g)) := fun W p F g h => (lawid_any 5 5 rfl W).mono fun e w' hh => ⟨by rw [hh.1, hte]; rfl, h.out.up hh.2⟩
  have HEm : Hid (Calls Try.prog 8 #[] w fun e w' => ∃ (p : Nat) (F : Nat → Prop), e = .returned (.pointer (some ⟨p, 0, none⟩)) ∧ Hid (DH w w' p F [])) := (dagempty_any w).mono fun e w' hh => by
    obtain ⟨p, F, q1, q2, q3, q4⟩ := hh
    exact ⟨p, F, q1, ⟨q2.out, q3.out, q4.out⟩⟩
  have HA1 : Hid (∀ W p F, Hid (DH w W p F ([] : Gr)) → Calls Try.prog 12 #[.pointer (some ⟨p, 0, none⟩), .string ta, .slice none 0 0] W fun e w' => ∃ F' : Nat → Prop, e = .returned (.int .i64 0) ∧ Hid (DH w w' p F' awG1)) := fun W p F h => by
    rw [hta]
    refine (dhadd_any h.out GrOk.nil (by decide) awA [] none 0 0 aw16_1 (idB_len _) rfl (SS.nil _ _ _) (fun h0 => absurd h0 (by decide)) (by decide) (by decide) (by decide)).mono fun e w' hh => ?_
    obtain ⟨F', q1, q2, q3⟩ := hh
    exact ⟨F', q1, h.out.turned q2.out q3.out⟩
  have HA2 : Hid (∀ W p F, Hid (DH w W p F awG1) → Calls Try.prog 12 #[.pointer (some ⟨p, 0, none⟩), .string tc, .slice (some ⟨W.heap.size, 0, none⟩) 1 1] (W.alloc (.cells #[.string ta] 9)) fun e w' => ∃ F' : Nat → Prop, e = .returned (.int .i64 0) ∧ Hid (DH w w' p F' awG2)) := fun W p F h => by
    rw [htc, hta]
    have h2 := h.out.up ((Below.refl _ _).alloc (Nat.le_refl _) (.cells (scells [awA]).toArray 9))
    refine (dhadd_any h2 aw16_ok1 (by decide) awC [awA] _ 1 1 aw16_2 (idB_len _) rfl (ss_lit W _ _) (fun _ ad e hf => ?_) (by decide) (by decide) (by decide)).mono fun e w' hh => ?_
    · injection e with e
      subst e
      exact Nat.lt_irrefl _ (h.out.flt _ hf)
    · obtain ⟨F', q1, q2, q3⟩ := hh
      exact ⟨F', q1, h2.turned q2.out q3.out⟩
  have HA3 : Hid (∀ W p F, Hid (DH w W p F awG2) → Calls Try.prog 12 #[.pointer (some ⟨p, 0, none⟩), .string tb, .slice (some ⟨W.heap.size, 0, none⟩) 1 1] (W.alloc (.cells #[.string ta] 9)) fun e w' => ∃ F' : Nat → Prop, e = .returned (.int .i64 0) ∧ Hid (DH w w' p F' awG3)) := fun W p F h => by
    rw [htb, hta]
    have h2 := h.out.up ((Below.refl _ _).alloc (Nat.le_refl _) (.cells (scells [awA]).toArray 9))
    refine (dhadd_any h2 aw16_ok2 (by decide) awB [awA] _ 1 1 aw16_3 (idB_len _) rfl (ss_lit W _ _) (fun _ ad e hf => ?_) (by decide) (by decide) (by decide)).mono fun e w' hh => ?_
    · injection e with e
      subst e
      exact Nat.lt_irrefl _ (h.out.flt _ hf)
    · obtain ⟨F', q1, q2, q3⟩ := hh
      exact ⟨F', q1, h2.turned q2.out q3.out⟩
  have HA4 : Hid (∀ W p F, Hid (DH w W p F awG3) → Calls Try.prog 12 #[.pointer (some ⟨p, 0, none⟩), .string tb, .slice none 0 0] W fun e w' => ∃ F' : Nat → Prop, e = .returned (.int .i64 7) ∧ Hid (DH w w' p F' awG3)) := fun W p F h => by
    rw [htb]
    refine (dhadd_any h.out aw16_ok3 (by decide) awB [] none 0 0 aw16_4 (idB_len _) rfl (SS.nil _ _ _) (fun h0 => absurd h0 (by decide)) (by decide) (by decide) (by decide)).mono fun e w' hh => ?_
    obtain ⟨F', q1, q2, q3⟩ := hh
    exact ⟨F', q1, h.out.turned q2.out q3.out⟩
  have HA5 : Hid (∀ W p F, Hid (DH w W p F awG3) → Calls Try.prog 12 #[.pointer (some ⟨p, 0, none⟩), .string td, .slice (some ⟨W.heap.size, 0, none⟩) 1 1] (W.alloc (.cells #[.string te] 9)) fun e w' => ∃ F' : Nat → Prop, e = .returned (.int .i64 14) ∧ Hid (DH w w' p F' awG3)) := fun W p F h => by
    rw [htd, hte]
    have h2 := h.out.up ((Below.refl _ _).alloc (Nat.le_refl _) (.cells (scells [awE]).toArray 9))
    refine (dhadd_any h2 aw16_ok3 (by decide) awD [awE] _ 1 1 aw16_5 (idB_len _) rfl (ss_lit W _ _) (fun _ ad e hf => ?_) (by decide) (by decide) (by decide)).mono fun e w' hh => ?_
    · injection e with e
      subst e
      exact Nat.lt_irrefl _ (h.out.flt _ hf)
    · obtain ⟨F', q1, q2, q3⟩ := hh
      exact ⟨F', q1, h2.turned q2.out q3.out⟩
  have HA6 : Hid (∀ W p F, Hid (DH w W p F awG3) → Calls Try.prog 12 #[.pointer (some ⟨p, 0, none⟩), .string { data := #[120] }, .slice none 0 0] W fun e w' => ∃ F' : Nat → Prop, e = .returned (.int .i64 1) ∧ Hid (DH w w' p F' awG3)) := fun W p F h => by
    refine (dhadd_any h.out aw16_ok3 (by decide) [120] [] none 0 0 aw16_6 (by decide) rfl (SS.nil _ _ _) (fun h0 => absurd h0 (by decide)) (by decide) (by decide) (by decide)).mono fun e w' hh => ?_
    obtain ⟨F', q1, q2, q3⟩ := hh
    exact ⟨F', q1, h.out.turned q2.out q3.out⟩
  have HCl : Hid (∀ W p F, Hid (DH w W p F awG3) → Calls Try.prog 32 #[.pointer (some ⟨p, 0, none⟩)] W fun e w' => ∃ (q : Nat) (F' : Nat → Prop), e = .returned (.pointer (some ⟨q, 0, none⟩)) ∧ Hid (CA w w' p F q F' awG3 awG3)) := fun W p F h => (dagclone_any h.out.dag aw16_ok3 (by decide)).mono fun e w' hh => by
    obtain ⟨q, F', q1, q2, q3, q4⟩ := hh
    exact ⟨q, F', q1, CA.begin h.out q2.out q3.out q4.out⟩
  have HA7 : Hid (∀ W p F q F2, Hid (CA w W p F q F2 awG3 awG3) → Calls Try.prog 12 #[.pointer (some ⟨q, 0, none⟩), .string td, .slice (some ⟨W.heap.size, 0, none⟩) 2 2] (W.alloc (.cells #[.string tb, .string tc] 9)) fun e w' => ∃ F' : Nat → Prop, e = .returned (.int .i64 0) ∧ Hid (CA w w' p F q F' awG3 awG4)) := fun W p F q F2 h => by
    rw [htb, htc, htd]
    have h2 := h.out.up ((Below.refl _ _).alloc (Nat.le_refl _) (.cells (scells [awB, awC]).toArray 9))
    refine (dhadd_any h2.d2 aw16_ok3 (by decide) awD [awB, awC] _ 2 2 aw16_7 (idB_len 4) rfl (ss_lit W _ _) (fun _ ad e hf => ?_) (by decide) (by decide) (by decide)).mono fun e w' hh => ?_
    · injection e with e
      subst e
      exact Nat.lt_irrefl _ (h.out.d2.flt _ hf)
    · obtain ⟨F', q1, q2, q3⟩ := hh
      exact ⟨F', q1, h2.turned2 q2.out q3.out⟩
  have HHe : Hid (∀ W p F q F2, Hid (CA w W p F q F2 awG3 awG4) → Calls Try.prog 34 #[.pointer (some ⟨p, 0, none⟩)] W fun e w' => ∃ A c, e = .returned (.slice A 2 c) ∧ Hid (SS w' w'.heap.size A [awB, awC]) ∧ Hid (CA w w' p F q F2 awG3 awG4)) := fun W p F q F2 h => by
    refine (dagheads_any h.out.d1.dag aw16_ok3 (by decide)).mono fun e w' hh => ?_
    rw [aw16_heads] at hh
    obtain ⟨A, c, q1, q2, _, _, q5⟩ := hh
    exact ⟨A, c, q1, q2, h.out.up q5⟩
  have HOr : Hid (∀ W p F q F2, Hid (CA w W p F q F2 awG3 awG4) → Calls Try.prog 28 #[.pointer (some ⟨p, 0, none⟩)] W fun e w' => ∃ A c, e = .returned (.slice A 3 c) ∧ Hid (SS w' w'.heap.size A [awA, awB, awC]) ∧ Hid (CA w w' p F q F2 awG3 awG4)) := fun W p F q F2 h => by
    refine (dagorder_any h.out.d1.dag aw16_ok3 (by decide)).mono fun e w' hh => ?_
    rw [aw16_order] at hh
    obtain ⟨A, c, q1, q2, _, _, q5⟩ := hh
    exact ⟨A, c, q1, q2, h.out.up q5⟩
  have HPr : Hid (∀ W p F q F2, Hid (CA w W p F q F2 awG3 awG4) → Calls Try.prog 22 #[.pointer (some ⟨q, 0, none⟩), .string td] W fun e w' => ∃ A c, e = .returned (.slice A 2 c) ∧ Hid (SS w' w'.heap.size A [awB, awC]) ∧ Hid (CA w w' p F q F2 awG3 awG4)) := fun W p F q F2 h => by
    rw [htd]
    refine (dagpreds_any h.out.d2.dag aw16_ok4 (by decide) awD (idB_len _)).mono fun e w' hh => ?_
    rw [aw16_preds] at hh
    obtain ⟨A, c, q1, q2, _, _, q5⟩ := hh
    exact ⟨A, c, q1, q2, h.out.up q5⟩
  have HKi : Hid (∀ W p F q F2, Hid (CA w W p F q F2 awG3 awG4) → Calls Try.prog 24 #[.pointer (some ⟨p, 0, none⟩), .string ta] W fun e w' => ∃ A c, e = .returned (.slice A 2 c) ∧ Hid (SS w' w'.heap.size A [awB, awC]) ∧ Hid (CA w w' p F q F2 awG3 awG4)) := fun W p F q F2 h => by
    rw [hta]
    refine (dagkids_any h.out.d1.dag aw16_ok3 (by decide) awA (idB_len _)).mono fun e w' hh => ?_
    rw [aw16_kids] at hh
    obtain ⟨A, c, q1, q2, _, _, q5⟩ := hh
    exact ⟨A, c, q1, q2, h.out.up q5⟩
  have HPa : Hid (∀ W p F q F2, Hid (CA w W p F q F2 awG3 awG4) → Calls Try.prog 16 #[.pointer (some ⟨p, 0, none⟩), .slice (some ⟨W.heap.size, 0, none⟩) 1 1] (W.alloc (.cells #[.string tb] 9)) fun e w' => ∃ A c, e = .returned (.slice A 2 c) ∧ Hid (SS w' w'.heap.size A [awA, awB]) ∧ Hid (CA w w' p F q F2 awG3 awG4)) := fun W p F q F2 h => by
    rw [htb]
    have h2 := h.out.up ((Below.refl _ _).alloc (Nat.le_refl _) (.cells (scells [awB]).toArray 9))
    refine (dagpast_any h2.d1.dag aw16_ok3 (by decide) [awB] _ 1 1 rfl (ss_lit W _ _) (by decide) (by decide) (by decide)).mono fun e w' hh => ?_
    rw [aw16_past] at hh
    obtain ⟨A, c, q1, q2, _, _, q5⟩ := hh
    exact ⟨A, c, q1, q2, h2.up q5⟩
  have HDe : Hid (∀ W p F q F2, Hid (CA w W p F q F2 awG3 awG4) → Calls Try.prog 20 #[.pointer (some ⟨p, 0, none⟩), .string tc] W fun e w' => e = .returned (.int .i64 2) ∧ Hid (CA w w' p F q F2 awG3 awG4)) := fun W p F q F2 h => by
    rw [htc]
    refine (dagdepth_any h.out.d1.dag aw16_ok3 (by decide) awC (idB_len _)).mono fun e w' hh => ?_
    rw [aw16_depth] at hh
    exact ⟨hh.1, h.out.up hh.2⟩
  have HAb : Hid (∀ W p F q F2, Hid (CA w W p F q F2 awG3 awG4) → Calls Try.prog 26 #[.pointer (some ⟨p, 0, none⟩), .string ta, .string tb] W fun e w' => e = .returned (.bool true) ∧ Hid (CA w w' p F q F2 awG3 awG4)) := fun W p F q F2 h => by
    rw [hta, htb]
    refine (dagahead_any h.out.d1.dag aw16_ok3 (by decide) awA awB (idB_len _) (idB_len _)).mono fun e w' hh => ?_
    rw [aw16_ab] at hh
    exact ⟨hh.1, h.out.up hh.2⟩
  have HBc : Hid (∀ W p F q F2, Hid (CA w W p F q F2 awG3 awG4) → Calls Try.prog 26 #[.pointer (some ⟨p, 0, none⟩), .string tb, .string tc] W fun e w' => e = .returned (.bool false) ∧ Hid (CA w w' p F q F2 awG3 awG4)) := fun W p F q F2 h => by
    rw [htb, htc]
    refine (dagahead_any h.out.d1.dag aw16_ok3 (by decide) awB awC (idB_len _) (idB_len _)).mono fun e w' hh => ?_
    rw [aw16_bc] at hh
    exact ⟨hh.1, h.out.up hh.2⟩
  have HAa : Hid (∀ W p F q F2, Hid (CA w W p F q F2 awG3 awG4) → Calls Try.prog 26 #[.pointer (some ⟨p, 0, none⟩), .string ta, .string ta] W fun e w' => e = .returned (.bool false) ∧ Hid (CA w w' p F q F2 awG3 awG4)) := fun W p F q F2 h => by
    rw [hta]
    refine (dagahead_any h.out.d1.dag aw16_ok3 (by decide) awA awA (idB_len _) (idB_len _)).mono fun e w' hh => ?_
    rw [aw16_aa] at hh
    exact ⟨hh.1, h.out.up hh.2⟩
  have HLe : Hid (∀ W p F q F2, Hid (CA w W p F q F2 awG3 awG4) → Calls Try.prog 30 #[.pointer (some ⟨p, 0, none⟩)] W fun e w' => e = .returned (.int .i64 3) ∧ Hid (CA w w' p F q F2 awG3 awG4)) := fun W p F q F2 h => by
    refine (daglen_any h.out.d1.dag aw16_ok3 (by decide)).mono fun e w' hh => ?_
    exact ⟨hh.1, h.out.up hh.2⟩
  have HLk : Hid (∀ W p F q F2, Hid (CA w W p F q F2 awG3 awG4) → Calls Try.prog 30 #[.pointer (some ⟨q, 0, none⟩)] W fun e w' => e = .returned (.int .i64 4) ∧ Hid (CA w w' p F q F2 awG3 awG4)) := fun W p F q F2 h => by
    refine (daglen_any h.out.d2.dag aw16_ok4 (by decide)).mono fun e w' hh => ?_
    exact ⟨hh.1, h.out.up hh.2⟩
  have HHa : Hid (∀ W p F q F2, Hid (CA w W p F q F2 awG3 awG4) → Calls Try.prog 18 #[.pointer (some ⟨p, 0, none⟩), .string ta] W fun e w' => e = .returned (.bool true) ∧ Hid (CA w w' p F q F2 awG3 awG4)) := fun W p F q F2 h => by
    rw [hta]
    refine (daghas_any h.out.d1.dag aw16_ok3 (by decide) awA (idB_len _)).mono fun e w' hh => ?_
    rw [aw16_has] at hh
    exact ⟨hh.1, h.out.up hh.2⟩
  have HT2 : Hid (∀ W A c p F q F2, Hid (CA w W p F q F2 awG3 awG4) → Hid (SS W W.heap.size A [awB, awC]) → Calls Try.prog 15 #[.slice A 2 c, .slice (some ⟨W.heap.size, 0, none⟩) 2 2] (W.alloc (.cells #[.string tb, .string tc] 9)) fun e w' => e = .returned (.bool true) ∧ Hid (CA w w' p F q F2 awG3 awG4)) := fun W A c p F q F2 h hs => by
    rw [htb, htc]
    have hb : Below W.heap.size W (W.alloc (.cells (scells [awB, awC]).toArray 9)) := (Below.refl _ _).alloc (Nat.le_refl _) _
    have h3 := texts_any [awB, awC] [awB, awC] A _ 2 c 2 2 _ _ rfl rfl ((hs.out.below hb).more hb.size) (ss_lit W 9 [awB, awC]) (by decide) (by decide)
    rw [decide_eq_true rfl] at h3
    exact h3.mono fun e w' hh => ⟨hh.1, (h.out.up hb).up hh.2⟩
  have HT1 : Hid (∀ W A c p F q F2, Hid (CA w W p F q F2 awG3 awG4) → Hid (SS W W.heap.size A [awA, awB]) → Calls Try.prog 15 #[.slice A 2 c, .slice (some ⟨W.heap.size, 0, none⟩) 2 2] (W.alloc (.cells #[.string ta, .string tb] 9)) fun e w' => e = .returned (.bool true) ∧ Hid (CA w w' p F q F2 awG3 awG4)) := fun W A c p F q F2 h hs => by
    rw [hta, htb]
    have hb : Below W.heap.size W (W.alloc (.cells (scells [awA, awB]).toArray 9)) := (Below.refl _ _).alloc (Nat.le_refl _) _
    have h3 := texts_any [awA, awB] [awA, awB] A _ 2 c 2 2 _ _ rfl rfl ((hs.out.below hb).more hb.size) (ss_lit W 9 [awA, awB]) (by decide) (by decide)
    rw [decide_eq_true rfl] at h3
    exact h3.mono fun e w' hh => ⟨hh.1, (h.out.up hb).up hh.2⟩
  have HT3 : Hid (∀ W A c p F q F2, Hid (CA w W p F q F2 awG3 awG4) → Hid (SS W W.heap.size A [awA, awB, awC]) → Calls Try.prog 15 #[.slice A 3 c, .slice (some ⟨W.heap.size, 0, none⟩) 3 3] (W.alloc (.cells #[.string ta, .string tb, .string tc] 9)) fun e w' => e = .returned (.bool true) ∧ Hid (CA w w' p F q F2 awG3 awG4)) := fun W A c p F q F2 h hs => by
    rw [hta, htb, htc]
    have hb : Below W.heap.size W (W.alloc (.cells (scells [awA, awB, awC]).toArray 9)) := (Below.refl _ _).alloc (Nat.le_refl _) _
    have h3 := texts_any [awA, awB, awC] [awA, awB, awC] A _ 3 c 3 3 _ _ rfl rfl ((hs.out.below hb).more hb.size) (ss_lit W 9 [awA, awB, awC]) (by decide) (by decide)
    rw [decide_eq_true rfl] at h3
    exact h3.mono fun e w' hh => ⟨hh.1, (h.out.up hb).up hh.2⟩
  have np := fun p w' => Try.dagNil16 p w'
  clear hta htb htc htd hte
  go_enter Try.func10, Try.ntmps10
  go_wp2_with (first
    | (go_at_call 8; (with_reducible refine HEm.out.mono ?_); rintro e z ⟨p, F, rfl, hz⟩)
    | (go_at_call 33; (with_reducible refine (HI1.out _ _ _ _ (by assumption)).mono ?_); rintro e z ⟨rfl, hz⟩)
    | (go_at_call 33; (with_reducible refine (HI2.out _ _ _ _ (by assumption)).mono ?_); rintro e z ⟨rfl, hz⟩)
    | (go_at_call 33; (with_reducible refine (HI3.out _ _ _ _ (by assumption)).mono ?_); rintro e z ⟨rfl, hz⟩)
    | (go_at_call 33; (with_reducible refine (HI4.out _ _ _ _ (by assumption)).mono ?_); rintro e z ⟨rfl, hz⟩)
    | (go_at_call 33; (with_reducible refine (HI5.out _ _ _ _ (by assumption)).mono ?_); rintro e z ⟨rfl, hz⟩)
    | (go_at_call 33; (with_reducible refine (HJ4.out _ _ _ _ _ _ _ (by assumption)).mono ?_); rintro e z ⟨rfl, hz⟩)
    | (go_at_call 12; (with_reducible refine (HA1.out _ _ _ (by assumption)).mono ?_); rintro e z ⟨F, rfl, hz⟩)
    | (go_at_call 12; (with_reducible refine (HA2.out _ _ _ (by assumption)).mono ?_); rintro e z ⟨F, rfl, hz⟩)
    | (go_at_call 12; (with_reducible refine (HA3.out _ _ _ (by assumption)).mono ?_); rintro e z ⟨F, rfl, hz⟩)
    | (go_at_call 12; (with_reducible refine (HA4.out _ _ _ (by assumption)).mono ?_); rintro e z ⟨F, rfl, hz⟩)
    | (go_at_call 12; (with_reducible refine (HA5.out _ _ _ (by assumption)).mono ?_); rintro e z ⟨F, rfl, hz⟩)
    | (go_at_call 12; (with_reducible refine (HA6.out _ _ _ (by assumption)).mono ?_); rintro e z ⟨F, rfl, hz⟩)
    | (go_at_call 32; (with_reducible refine (HCl.out _ _ _ (by assumption)).mono ?_); rintro e z ⟨q, F2, rfl, hz⟩)
    | (go_at_call 12; (with_reducible refine (HA7.out _ _ _ _ _ (by assumption)).mono ?_); rintro e z ⟨F2, rfl, hz⟩)
    | (go_at_call 34; (with_reducible refine (HHe.out _ _ _ _ _ (by assumption)).mono ?_); rintro e z ⟨A9, c9, rfl, hs, hz⟩)
    | (go_at_call 28; (with_reducible refine (HOr.out _ _ _ _ _ (by assumption)).mono ?_); rintro e z ⟨A9, c9, rfl, hs, hz⟩)
    | (go_at_call 22; (with_reducible refine (HPr.out _ _ _ _ _ (by assumption)).mono ?_); rintro e z ⟨A9, c9, rfl, hs, hz⟩)
    | (go_at_call 24; (with_reducible refine (HKi.out _ _ _ _ _ (by assumption)).mono ?_); rintro e z ⟨A9, c9, rfl, hs, hz⟩)
    | (go_at_call 16; (with_reducible refine (HPa.out _ _ _ _ _ (by assumption)).mono ?_); rintro e z ⟨A9, c9, rfl, hs, hz⟩)
    | (go_at_call 20; (with_reducible refine (HDe.out _ _ _ _ _ (by assumption)).mono ?_); rintro e z ⟨rfl, hz⟩)
    | (go_at_call 26; (with_reducible refine (HAb.out _ _ _ _ _ (by assumption)).mono ?_); rintro e z ⟨rfl, hz⟩)
    | (go_at_call 26; (with_reducible refine (HBc.out _ _ _ _ _ (by assumption)).mono ?_); rintro e z ⟨rfl, hz⟩)
    | (go_at_call 26; (with_reducible refine (HAa.out _ _ _ _ _ (by assumption)).mono ?_); rintro e z ⟨rfl, hz⟩)
    | (go_at_call 30; (with_reducible refine (HLe.out _ _ _ _ _ (by assumption)).mono ?_); rintro e z ⟨rfl, hz⟩)
    | (go_at_call 30; (with_reducible refine (HLk.out _ _ _ _ _ (by assumption)).mono ?_); rintro e z ⟨rfl, hz⟩)
    | (go_at_call 18; (with_reducible refine (HHa.out _ _ _ _ _ (by assumption)).mono ?_); rintro e z ⟨rfl, hz⟩)
    | (go_at_call 15; (with_reducible refine (HT2.out _ _ _ _ _ _ _ (by assumption) (by assumption)).mono ?_); rintro e z ⟨rfl, hz⟩)
    | (go_at_call 15; (with_reducible refine (HT1.out _ _ _ _ _ _ _ (by assumption) (by assumption)).mono ?_); rintro e z ⟨rfl, hz⟩)
    | (go_at_call 15; (with_reducible refine (HT3.out _ _ _ _ _ _ _ (by assumption) (by assumption)).mono ?_); rintro e z ⟨rfl, hz⟩))
  go_ret
  exact ⟨rfl, hz.out.d1.below⟩
end Go.Proofs.Ytbeihiokjhfepaa
