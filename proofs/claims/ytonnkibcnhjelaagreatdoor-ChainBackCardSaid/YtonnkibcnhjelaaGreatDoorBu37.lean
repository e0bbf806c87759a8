/- Lemmas under the proofs of this place: DiskTwo, DiskRBlank. No statement is proved here. -/
import Derived.Test.YtonnkibcnhjelaaGreatDoorBu32
import Derived.Test.YtonnkibcnhjelaaGreatDoorBu35
import Derived.Test.YtonnkibcnhjelaaGreatDoorBu25
import Derived.Test.YtonnkibcnhjelaaGreatDoorBu29
section
set_option linter.unusedVariables false
namespace Go.Proofs.YtonnkibcnhjelaaGreatDoor
open Go.RowKit
set_option maxRecDepth 100000 in
set_option maxHeartbeats 1000000 in
theorem write_all {w : World} {g : Nat} {F : Nat → Prop} {d : Dk} (h : PDisk w g F d) (i : Int) (hl : d.load ≤ 100000)
    (L : List UInt8) (A : Option Addr) (m c : Nat) (hm : m = L.length) (hr : RB w w.heap.size A L) (hA : 0 < L.length → ∀ ad, A = some ad → ¬ F ad.block) (hc : m ≤ c) (hcm : c ≤ 9223372036854775807) :
    Calls Tryz.prog 27 #[.pointer (some ⟨g, 0, none⟩), .int .i64 i, .slice A m c] w (WritePost d i L g F w) := by
  by_cases h0 : 0 < L.length
  · exact write_any h i hl L A m c hm hr (hA h0) hc hcm
  · have HR := Lib.hid (reach_any h i)
    have h00 : m = 0 := by omega
    have hL : L.length ≠ 256 := by omega
    subst h00
    cases ho : d.off with
    | true =>
      have HV : Hid (d.write i L = (d, 9)) := by show _ = _; unfold Dk.write; rw [if_pos ho]
      have e1 : d.reach i = 9 := by unfold Dk.reach; rw [if_pos ho]
      rw [e1] at HR
      clear ho e1 hm hr hA hl
      go_enter Tryz.func27, Tryz.ntmps27
      go_wp2_with (go_at_call 67; (with_reducible refine HR.out.mono ?_); rintro e w1 ⟨rfl, rfl⟩)
      go_ret
      unfold WritePost
      rw [HV.out]
      exact ⟨F, rfl, h, Turns.refl _ _⟩
    | false =>
      cases ht : d.there i with
      | false =>
        have HV : Hid (d.write i L = (d, 10)) := by show _ = _; unfold Dk.write; rw [ho, ht]; rfl
        have e1 : d.reach i = 10 := by unfold Dk.reach; rw [ho, ht]; rfl
        rw [e1] at HR
        clear ho ht e1 hm hr hA hl
        go_enter Tryz.func27, Tryz.ntmps27
        go_wp2_with (go_at_call 67; (with_reducible refine HR.out.mono ?_); rintro e w1 ⟨rfl, rfl⟩)
        go_ret
        unfold WritePost
        rw [HV.out]
        exact ⟨F, rfl, h, Turns.refl _ _⟩
      | true =>
        have HV : Hid (d.write i L = (d, 11)) := by
          show _ = _; unfold Dk.write; rw [ho, ht]
          simp only [Bool.false_eq_true, Bool.not_true, if_false]
          rw [if_pos hL]
        have e1 : d.reach i = 0 := by unfold Dk.reach; rw [ho, ht]; rfl
        rw [e1] at HR
        clear ho ht e1 hm hr hA hl h0 hL
        go_enter Tryz.func27, Tryz.ntmps27
        go_wp2_with (go_at_call 67; (with_reducible refine HR.out.mono ?_); rintro e w1 ⟨rfl, rfl⟩)
        go_ret
        unfold WritePost
        rw [HV.out]
        exact ⟨F, rfl, h, Turns.refl _ _⟩
abbrev Kps := List (Option Addr × List UInt8)
structure Two (K : Kps) (w0 w : World) (g : Nat) (F : Nat → Prop) (d : Dk) (q : Nat) (G B : Nat → Prop) (e : Dk) : Prop where
  p : Has w0 w g F d
  r : RDisk w q G B e
  go : ∀ k, G k → w0.heap.size ≤ k
  fg : ∀ k, F k → ¬ G k
  fb : ∀ k, F k → ¬ B k
  kp : ∀ x ∈ K, Kept w F x.1 x.2 ∧ Kept w G x.1 x.2
theorem Kept.past {w w' : World} {E E' G : Nat → Prop} {A : Option Addr} {L : List UInt8} (h : Kept w G A L) (ht : Turns w w' E E') (hE : ∀ ad, A = some ad → ¬ E ad.block) : Kept w' G A L :=
  ⟨(Reads.turns h.1 (Nat.le_refl _) ht hE).more ht.size, fun ad e => ⟨(h.2 ad e).1, Nat.lt_of_lt_of_le (h.2 ad e).2 ht.size⟩⟩
section
variable {K : Kps} {w0 w w' : World} {g q : Nat} {F F' G B : Nat → Prop} {d d' e e' : Dk}
theorem Two.more (h : Two K w0 w g F d q G B e) (hb : Below w.heap.size w w') : Two K w0 w' g F d q G B e := ⟨h.p.more hb, h.r.below hb, h.go, h.fg, h.fb, fun x hx => ⟨(h.kp x hx).1.below hb, (h.kp x hx).2.below hb⟩⟩
theorem Two.prog (h : Two K w0 w g F d q G B e) (hp : PDisk w' g F' d') (ht : Turns w w' F F') : Two K w0 w' g F' d' q G B e := by
  refine ⟨h.p.turned hp ht, h.r.turns ht (fun k hk hf => h.fg k hf hk) (fun k hk hf => h.fb k hf hk), h.go, fun k hk hg => ?_, fun k hk hb => ?_, fun x hx => ⟨(h.kp x hx).1.turns ht, (h.kp x hx).2.past ht (h.kp x hx).1.no⟩⟩
  · rcases ht.foot k hk with h1 | h1
    · exact h.fg k h1 hg
    · have := h.r.glt k hg; omega
  · rcases ht.foot k hk with h1 | h1
    · exact h.fb k h1 hb
    · have := h.r.blt k hb; omega
theorem Two.deeds (h : Two K w0 w g F d q G B e) (hd : Deeds d' F w w' g) : Two K w0 w' g F d' q G B e := h.prog hd.1 hd.2
theorem Two.ref (h : Two K w0 w g F d q G B e) (hd : RDeeds e' G B w w' q) : ∃ G' B', Two K w0 w' g F d q G' B' e' := by
  obtain ⟨G', B', hr, ht, hb⟩ := hd
  have hs := h.p.below.size
  refine ⟨G', B', ⟨h.p.disk.turns ht (fun k hk hg => h.fg k hk hg), h.p.below.trans (ht.below h.go hs), h.p.own⟩, hr, fun k hk => ?_, fun k hk hg => ?_, fun k hk hg => ?_, fun x hx => ⟨(h.kp x hx).1.past ht (h.kp x hx).2.no, (h.kp x hx).2.turns ht⟩⟩
  · rcases ht.foot k hk with h1 | h1
    · exact h.go k h1
    · omega
  · rcases ht.foot k hg with h1 | h1
    · exact h.fg k hk h1
    · have := h.p.flt k hk; omega
  · rcases hb k hg with h1 | h1
    · exact h.fb k hk h1
    · have := h.p.flt k hk; omega
theorem Two.kept (h : Two K w0 w g F d q G B e) (hd : RDeeds e' G B w w' q) {A : Option Addr} {L : List UInt8} (hk : Kept w G A L) : RB w' w'.heap.size A L := by
  obtain ⟨G', B', hr, ht, hb⟩ := hd
  exact (hk.turns ht).1
end
structure Dd where
  kind : Int
  n : Int
  data : List UInt8
  odd : Bool
  masks : List Int
structure DV (w : World) (x : Dd) (dA : Option Addr) (dc : Nat) (mA : Option Addr) (mc : Nat) : Prop where
  rb : RB w w.heap.size dA x.data
  ri : RI w w.heap.size mA x.masks
  dlen : x.data.length ≤ dc ∧ dc ≤ 9223372036854775807
  kin : InI x.kind
  nin : InI x.n
def deedV (x : Dd) (dA : Option Addr) (dc : Nat) (mA : Option Addr) (mc : Nat) : Value := .agg #[.int .i64 x.kind, .int .i64 x.n, .slice dA x.data.length dc, .bool x.odd, .slice mA x.masks.length mc]
def dataL (x : Dd) : List UInt8 := if x.odd = true then x.data else blockL x.data
set_option maxRecDepth 100000 in
set_option maxHeartbeats 1000000 in
theorem data_any {w0 w : World} (hb0 : Below w0.heap.size w0 w) (x : Dd) (dA : Option Addr) (dc : Nat) (mA : Option Addr) (mc : Nat) (hv : DV w0 x dA dc mA mc) (hl : x.data.length ≤ 100000) :
    Calls Tryz.prog 34 #[deedV x dA dc mA mc] w fun e w' => (∃ A m c, e = .returned (.slice A m c) ∧ m = (dataL x).length ∧ m ≤ c ∧ c ≤ 9223372036854775807 ∧ RB w' w'.heap.size A (dataL x) ∧ (0 < (dataL x).length → ∀ ad, A = some ad → ad.block < w0.heap.size ∨ w.heap.size ≤ ad.block)) ∧ Below w.heap.size w w' := by
  have HV := Lib.hid hv
  unfold deedV
  obtain ⟨m, hm⟩ : ∃ m, m = x.data.length := ⟨_, rfl⟩
  have HM := Lib.hid hm
  rw [← hm]
  obtain ⟨kd, hk⟩ : ∃ kd, kd = x.kind := ⟨_, rfl⟩
  obtain ⟨nn, hn⟩ : ∃ nn, nn = x.n := ⟨_, rfl⟩
  obtain ⟨mm, hmm⟩ : ∃ mm, mm = x.masks.length := ⟨_, rfl⟩
  rw [← hk, ← hn, ← hmm]
  clear hk hn hmm
  cases ho : x.odd with
  | true =>
    have HD : Hid (dataL x = x.data) := by show _ = _; unfold dataL; rw [if_pos ho]
    have HR : Hid (∀ W, Below w.heap.size w W → RB W W.heap.size dA x.data) := fun W hb => by
      have h1 := (hv.rb.below hb0).below (hb.mono hb0.size)
      exact h1.more (Nat.le_trans hb0.size hb.size)
    clear hm hl hv ho
    go_enter Tryz.func34, Tryz.ntmps34
    go_wp2
    go_ret
    have hbb : Below w.heap.size w (w.alloc (.cells #[.int .i64 kd, .int .i64 nn, .slice dA m dc, .bool true, .slice mA mm mc] 45)) := (Below.refl _ _).alloc (Nat.le_refl _) _
    refine ⟨⟨dA, m, dc, rfl, by rw [HD.out, HM.out], by rw [HM.out]; exact HV.out.dlen.1, HV.out.dlen.2, by rw [HD.out]; exact HR.out _ hbb, fun h0 ad e => .inl ?_⟩, hbb⟩
    rw [HD.out] at h0
    obtain ⟨ad', e', hlt, _⟩ := HV.out.rb.2 h0
    rw [e] at e'
    injection e' with e'
    subst e'
    exact hlt
  | false =>
    have HD : Hid (dataL x = blockL x.data) := by show _ = _; unfold dataL; rw [ho]; rfl
    have HBk : Hid (∀ W, Below w.heap.size w W → Calls Tryz.prog 75 #[.slice dA m dc] W fun e w' => ∃ g, e = .returned (.slice (some ⟨g, 0, none⟩) 256 256) ∧ W.heap.size ≤ g ∧ Blk w' g 5 (cells (blockL x.data)).toArray ∧ Below W.heap.size W w') := fun W hb => by
      have h1 := (hv.rb.below hb0).below (hb.mono hb0.size)
      exact block_any x.data dA m dc W (h1.more (Nat.le_trans hb0.size hb.size)) hm hl
    have hbb : Below w.heap.size w (w.alloc (.cells #[.int .i64 kd, .int .i64 nn, .slice dA m dc, .bool false, .slice mA mm mc] 45)) := (Below.refl _ _).alloc (Nat.le_refl _) _
    clear hm hl hv ho
    go_enter Tryz.func34, Tryz.ntmps34
    go_wp2_with (go_at_call 75; (with_reducible refine (HBk.out _ hbb).mono ?_); rintro e w5 ⟨g5, rfl, hg5, hB5, hb5⟩)
    go_ret
    refine ⟨⟨some ⟨g5, 0, none⟩, 256, 256, rfl, by rw [HD.out, blockL_length], Nat.le_refl _, by omega, by rw [HD.out]; exact rb_blk6 hB5, fun h0 ad e => .inr ?_⟩, hbb.trans (hb5.mono hbb.size)⟩
    injection e with e
    subst e
    have := hbb.size
    show w.heap.size ≤ g5
    omega
end Go.Proofs.YtonnkibcnhjelaaGreatDoor
end
section
set_option linter.unusedVariables false
namespace Go.Proofs.YtonnkibcnhjelaaGreatDoor
open Go.RowKit
theorem mayL_zero (m : Nat) (h1 : 16 ≤ m) (h2 : m ≤ 1024) : Dk.mayL (List.replicate (256 * m) 0) := by
  unfold Dk.mayL
  rw [List.length_replicate]
  omega
set_option maxRecDepth 100000 in
set_option maxHeartbeats 1000000 in
theorem rblank_any (m : Nat) (w : World) (h1 : 16 ≤ m) (h2 : m ≤ 1024) :
    Calls Tryz.prog 6 #[.int .i64 (m : Int)] w fun e w' => ∃ g G B, e = .returned (.tuple #[.pointer (some ⟨g, 0, none⟩), .int .i64 0]) ∧ GivesRef (Dk.blank m) w w' g G B := by
  obtain ⟨i0, hi0, hz0, hz1, hz2⟩ := info_parts Tryz.info5
  have hby : i0.bytes = 1 := hz2
  have HF : Hid (∀ W, Calls Tryz.prog 20 #[.int .i64 (m : Int)] W fun e w' => e = .returned (.bool true) ∧ W = w') := fun W => by
    have := may_any (m : Int) W
    rwa [decide_eq_true (by omega)] at this
  obtain ⟨n, hn⟩ : ∃ n, n = 256 * m := ⟨_, rfl⟩
  have n0 := fun w' => Tryz.notTrue w'
  have e1 : (256 : Int) * (m : Int) = (n : Int) := by omega
  have u0 : (0 : Int) ≤ (n : Int) := by omega
  have u1 : n ≤ 1000000 := by omega
  have u4 : IntKind.i64.wrap (n : Int) = (n : Int) := IntWalk.i64_in _ (by omega)
  have HO : Hid (∀ W A, RB W W.heap.size A (List.replicate n 0) → Calls Tryz.prog 21 #[.slice A n n] W fun e w' => ∃ g G B, e = .returned (.tuple #[.pointer (some ⟨g, 0, none⟩), .int .i64 0]) ∧ GivesRef (Dk.blank m) W w' g G B) := fun W A hr => by
    have h := rload_any (List.replicate n 0) A n n W hr (by simp) (Nat.le_refl _) (by omega) (by rw [hn]; exact mayL_zero m h1 h2)
    rw [hn] at h ⊢
    rwa [Dk.ofImage_zero] at h
  clear hn h1 h2
  go_enter Tryz.func6, Tryz.ntmps6
  go_wp2_with (first
    | (go_at_call 20; (with_reducible refine (HF.out _).mono ?_); rintro e w1 ⟨rfl, rfl⟩)
    | (at_make; refine wpList_make_full _ rfl _ _ 39 rfl w.heap.size 5 i0 _ 1 Tryz.underlying39 hi0 hz0 hz1 .i64 .i64 _ _ n rfl rfl rfl rfl (by rw [hby]; omega) (by unfold maxLen; omega) (Nat.le_refl _) ?_; intro w2 ho2 hg2)
    | (go_at_call 21; (with_reducible refine (HO.out _ _ (made_rb ho2)).mono ?_); rintro e w3 ⟨g, G, B, rfl, hG⟩))
  go_ret2
  have b2 : Below w.heap.size w w2 := (Below.refl _ _).grown hg2 (Nat.le_refl _) (by simp)
  exact ⟨g, G, B, rfl, hG.1, b2.trans (hG.2.1.mono b2.size), fun k hk => Nat.le_trans b2.size (hG.2.2.1 k hk), fun k hk => Nat.le_trans b2.size (hG.2.2.2 k hk)⟩
end Go.Proofs.YtonnkibcnhjelaaGreatDoor
end
