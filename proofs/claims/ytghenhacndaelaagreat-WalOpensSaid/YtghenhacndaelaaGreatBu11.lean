/- Lemmas under the proofs of this place: CrcSeal, Round, DiskRMem, RFix, SubRB, OpenBytes. No statement is proved here. -/
import Derived.Test.YtghenhacndaelaaGreatBu08
import Derived.Test.YtghenhacndaelaaGreatBu05
import Derived.Test.YtghenhacndaelaaGreatBu07
import Derived.Test.YtghenhacndaelaaGreatBu03
import Derived.Test.YtghenhacndaelaaGreatBu04
import Derived.RangeFuncNested
import Derived.RangeFuncCalls
import Derived.OrdersIn
import Derived.IntWalk
import Derived.Deep.Slices
set_option linter.unusedSimpArgs false
set_option linter.unusedVariables false
set_option maxRecDepth 100000
set_option maxHeartbeats 16000000
namespace Go.Proofs.YtghenhacndaelaaGreat
section
open Go.RowKit
theorem le4_fix (n : Nat) (h : n < 4294967296) : fixL 2 (n % 65536) ++ fixL 2 (n / 65536) = le4 n := by
  have e1 : n % 65536 % 256 = n % 256 := by omega
  have e2 : n % 65536 / 256 % 256 = n / 256 % 256 := by omega
  have e3 : n / 65536 / 256 % 256 = n / 16777216 := by omega
  simp only [fixL, le4, e1, e2, e3]
  rfl
theorem fix_two (n : Nat) (v : Int) (w : World) (hv : v = (n : Int)) (h : n < 65536) : Calls Tryz.prog 92 #[.int .i64 v, .int .i64 2] w (GivesBytes (fixL 2 n) w) := by
  subst hv
  exact fix_yes n 2 w (by omega) (by omega) (by omega) (by simpa using h)
theorem sumBytes_any (s : Nat) (w : World) (hs : s < 4294967296) : Calls Tryz.prog 102 #[.int .u32 (s : Int)] w (GivesOne (le4 s) w) := by
  obtain ⟨i0, hi0, hz0, hz1, hz2⟩ := info_parts Tryz.info5
  have HL := Lib.hid (le4_fix s hs)
  have l1 : (fixL 2 (s % 65536)).length = 2 := fixL_length _ _
  have l2 : (fixL 2 (s / 65536)).length = 2 := fixL_length _ _
  have HA : ∀ W, Calls Tryz.prog 92 #[.int .i64 ((s : Int) % 65536), .int .i64 2] W (GivesBytes (fixL 2 (s % 65536)) W) := fun W => fix_two _ _ W (by omega) (by omega)
  have HB : ∀ W, Calls Tryz.prog 92 #[.int .i64 ((s : Int) / 65536), .int .i64 2] W (GivesBytes (fixL 2 (s / 65536)) W) := fun W => fix_two _ _ W (by omega) (by omega)
  obtain ⟨X, hX⟩ : ∃ X, X = fixL 2 (s % 65536) := ⟨_, rfl⟩
  obtain ⟨Y, hY⟩ : ∃ Y, Y = fixL 2 (s / 65536) := ⟨_, rfl⟩
  rw [← hX, ← hY] at HL
  rw [← hX] at l1 HA
  rw [← hY] at l2 HB
  have HA2 := Lib.hid HA
  have HB2 := Lib.hid HB
  have hx2 : X.length ≤ 2 := by omega
  have hy2 : Y.length ≤ 2 := by omega
  clear hX hY l1 l2 HA HB
  go_enter Tryz.func102, Tryz.ntmps102
  go_wp2_with (first
    | (go_at_call 92; (with_reducible refine (HA2.out _).mono ?_); rintro e w1 ⟨A1, c1, rfl, hown1, hb1⟩; clear HA2)
    | (go_at_call 92; (with_reducible refine (HB2.out _).mono ?_); rintro e w2 ⟨A2, c2, rfl, hown2, hb2⟩; clear HB2; have z2 := hb2.size; have z1 := hb1.size; have hown3 := own_kept hown1 hb2; have hr2 := own_rb hown2)
    | (at_builtin; refine wpList_append_any _ rfl (.tmp 21) (.tmp 22) _ rfl w.heap.size 5 i0 _ 1 1 Tryz.underlying39 hi0 hz0 hz1 hz2 rfl (by omega) _ X.length (cells X) rfl hown3 w2.heap.size A2 Y.length c2 (cells Y) rfl hr2 (cells_one _) (by simp only [maxLen]; omega) (by omega) (by omega) ?_; intro v3 w3 hown4 hg3 hat3))
  have hb3 : Below w.heap.size w w3 := (hb1.trans (hb2.mono z1)).grown hg3 (by omega) (fun k hk => (World.ownsRow.lt hown3 k hk).1)
  rw [← cells_append, ← List.length_append, HL.out] at hown4
  obtain ⟨A3, c3, hv⟩ := own_form hown4
  go_ret
  exact ⟨A3, c3, by rw [hv]; rfl, by rw [hv] at hown4; exact hown4, hb3⟩
theorem seal_any (L : List UInt8) (A : Option Addr) (c B : Nat) (w : World) (hr : RB w B A L) (hl : L.length ≤ 1048576) :
    Calls Tryz.prog 93 #[.slice A L.length c] w (GivesOne (sealL L) w) := by
  obtain ⟨i0, hi0, hz0, hz1, hz2⟩ := info_parts Tryz.info5
  have hr := rb_lt hr
  have hs := sumL_lt L
  have HS : ∀ W E, RB W E A L → Calls Tryz.prog 103 #[.slice A L.length c] W fun e w' => e = .returned (.int .u32 (sumL L : Int)) ∧ W = w' := fun W E h => sum_any L A c E W h (by omega)
  have HB : ∀ W, Calls Tryz.prog 102 #[.int .u32 (sumL L : Int)] W (GivesOne (le4 (sumL L)) W) := fun W => sumBytes_any _ W hs
  obtain ⟨M, hM⟩ : ∃ M, M = le4 (sumL L) := ⟨_, rfl⟩
  have HM : Hid (L ++ M = sealL L) := by show _ = _; rw [hM]; rfl
  have hm : M.length ≤ 4 := by rw [hM]; exact Nat.le_refl _
  rw [← hM] at HB
  have HS2 := Lib.hid HS
  have HB2 := Lib.hid HB
  have hby : i0.bytes = 1 := hz2
  clear hM HS HB
  go_enter Tryz.func93, Tryz.ntmps93
  go_wp2_with (first
    | (at_make; refine wpList_make_own _ rfl _ _ 39 rfl w.heap.size 5 i0 _ 1 Tryz.underlying39 hi0 hz0 hz1 .i64 .i64 _ (L.length + 4) rfl rfl (by omega) (by rw [hby]; omega) (by unfold maxLen; omega) (Nat.le_refl _) ?_; intro w1 ho1 hg1; have hb1 : Below w.heap.size w w1 := (Below.refl _ _).grown hg1 (Nat.le_refl _) (by simp))
    | (at_builtin; refine wpList_append_any _ rfl (.tmp 8) (.tmp 9) _ rfl w.heap.size 5 i0 _ 1 1 Tryz.underlying39 hi0 hz0 hz1 hz2 rfl (by omega) (.slice (some ⟨w.heap.size, 0, none⟩) 0 (L.length + 4)) 0 [] rfl ho1 w.heap.size A L.length c (cells L) rfl (hr.below hb1) (cells_one _) (by simp only [maxLen]; omega) (by omega) hb1.size ?_; intro v2 w2 ho2 hg2 hat2; simp only [Nat.zero_add, List.nil_append] at ho2; have hb2 : Below w.heap.size w w2 := hb1.grown hg2 hb1.size (fun k hk => (ho1.lt k hk).1); have hr2 := hr.below hb2)
    | (go_at_call 103; (with_reducible refine (HS2.out _ _ hr2).mono ?_); rintro e w' ⟨rfl, rfl⟩)
    | (go_at_call 102; (with_reducible refine (HB2.out _).mono ?_); rintro e w3 ⟨A3, c3, rfl, ho3, hb3⟩; have hr3 := own_rb ho3; have ho4 := own_kept ho2 hb3; have z2 := hb2.size; have z3 := hb3.size)
    | (at_builtin; refine wpList_append_any _ rfl (.tmp 11) (.tmp 14) _ rfl w.heap.size 5 i0 _ 1 1 Tryz.underlying39 hi0 hz0 hz1 hz2 rfl (by omega) _ L.length (cells L) rfl ho4 w3.heap.size A3 M.length c3 (cells M) rfl hr3 (cells_one _) (by simp only [maxLen]; omega) (by omega) (by omega) ?_; intro v5 w5 ho5 hg5 hat5; have hb5 : Below w.heap.size w w5 := (hb2.trans (hb3.mono z2)).grown hg5 (by omega) (fun k hk => (ho4.lt k hk).1)))
  rw [← cells_append, ← List.length_append, HM.out] at ho5
  obtain ⟨A6, c6, hv⟩ := own_form ho5
  go_ret
  exact ⟨A6, c6, by rw [hv]; rfl, by rw [hv] at ho5; exact ho5, hb5⟩
end
section
open Go.RowKit
section
variable {P : Program} {ops : Array Oper} {Q : Exit → Act → World → Prop} {md : Region.Mode} {l n : Nat}
theorem rows_wide {row : String} {args : Array Value} {w : World} {R : Value → World → Prop} (h : Rows P row args w R) : RowsIn (Fence.wide.inRound l) n P row args w R := fun c cs _ =>
  let ⟨v, w', r, s⟩ := h c cs
  ⟨v, w', r, stepsIn_wide.2 s⟩
def noDefer (ops : Array Oper) : Bool := ops.all fun o => match o.op with | .defer _ => false | _ => true
theorem noDefer_spec (h : noDefer ops = true) {i : Nat} {o : Oper} (ho : ops[i]? = some o) : ∀ c, o.op ≠ .defer c := fun c hc => by
  obtain ⟨hi, rfl⟩ := Array.getElem?_eq_some_iff.1 ho
  have := Array.all_eq_true.1 h i hi
  rw [hc] at this
  cases this
theorem op_round {o : Oper} {a : Act} {w : World} {K : Act → World → Prop} (hp : ∀ c, o.op ≠ .defer c) (hL : ¬ LetsOut Q) (h : o.wp P a w K Q ∨ (o.asks P a w ∧ LetsOut Q)) : o.wpIn (Fence.wide.inRound l) n P a w K Q := by
  have h := h.resolve_right (fun h2 => hL h2.2)
  refine ⟨fun _ _ => trivial, ?_⟩
  rw [Oper.semAt_eq _ _ _ hp]
  unfold Oper.wp at h
  generalize (execOp a.eval o).run P w = r at *
  cases r with
  | ok x w' =>
    cases x with
    | value v => exact h
    | skip => exact h
    | defer d => exact h
    | enter f args =>
      refine ⟨fun hd => (by simp [Fence.wide, Fence.inRound] at hd), ?_⟩
      exact CallsIn.inRound l (callsIn_wide.2 h)
    | row row args => exact ⟨fun hd => (by simp [Fence.wide, Fence.inRound] at hd), rows_wide h⟩
    | round l f tmps assign body => exact h.elim
    | _ => exact h.elim
  | halt x w' => cases x <;> exact h
theorem wpOp_round {i : Nat} {a : Act} {w : World} {K K' : Act → World → Prop} (hp : noDefer ops = true) (hL : ¬ LetsOut Q) (hK : ∀ a w, K a w → K' a w) (h : wpOp P ops Q i K a w) : wpOpIn (Fence.wide.inRound l) n P ops Q i K' a w := by
  unfold wpOp at h
  unfold wpOpIn
  split at h
  · rename_i ho
    simp only [ho]
    exact hK _ _ h
  · rename_i o ho
    simp only [ho]
    split at h
    · rename_i hw
      simp only [hw, if_true]
      exact Oper.wpIn_mono hK (op_round (noDefer_spec hp ho) hL h)
    · rename_i hw
      simp only [hw]
      exact ⟨fun _ _ => trivial, hK _ _ h⟩
theorem any_round (hp : noDefer ops = true) (hL : ¬ LetsOut Q) : ∀ (fuel : Nat) (listed : Array Bool) (a : Act) (w : World), wpAny P md ops Q fuel listed a w → wpAnyIn (Fence.wide.inRound l) n P md ops Q fuel listed a w
  | 0, _, _, _, h => h
  | fuel + 1, _, _, _, h => ⟨h.1, fun i hi => wpOp_round hp hL (fun a w h' => any_round hp hL fuel _ a w h') (h.2 i hi)⟩
def Nrm (R : Act → World → Prop) : Exit → Act → World → Prop
  | .normal, a, w => R a w
  | _, _, _ => False
theorem nrm_lets (R : Act → World → Prop) : ¬ LetsOut (Nrm R) := fun ⟨_, _, h⟩ => h
theorem region_round {id : Nat} {a : Act} {w : World} (R : Act → World → Prop) (hm : P.follows .mixedOrders = true) (hp : noDefer ops = true)
    (h : wpAny P .any ops (Nrm R) ops.size (Array.replicate ops.size false) a { w with drawn := w.drawn + 1 }) (hQ : ∀ a w, R a w → Q .normal a w) : (Code.region id ops true).wpIn (Fence.wide.inRound l) n P Q a w := by
  refine Go.wpIn_mono (wpIn_region_any hm (any_round hp (nrm_lets R) _ _ _ _ h)) fun e a w h => ?_
  cases e <;> first | exact hQ _ _ h | exact h.elim
end
end
section
open Go.RowKit
def Hdr (w : World) (B : Nat → Prop) (v : Value) (L : List UInt8) : Prop :=
  L.length = 256 ∧ ∃ b off c, v = .slice (some ⟨b, off, none⟩) 256 c ∧ 256 ≤ c ∧ c ≤ 9223372036854775807 ∧ B b ∧ RB w w.heap.size (some ⟨b, off, none⟩) L
def Hdrs (w : World) (B : Nat → Prop) (hs : List Value) (Ls : List (List UInt8)) : Prop := hs.length = Ls.length ∧ ∀ (i : Nat) (v : Value) (L : List UInt8), hs[i]? = some v → Ls[i]? = some L → Hdr w B v L
section
variable {w w' : World} {B B' E E' : Nat → Prop} {v : Value} {L : List UInt8} {hs : List Value} {Ls : List (List UInt8)}
theorem Hdr.turns (h : Hdr w B v L) (ht : Turns w w' E E') (hn : ∀ k, B k → ¬ E k) : Hdr w' B v L := by
  obtain ⟨h1, b, off, c, h2, h3, h4, h5, h6⟩ := h
  refine ⟨h1, b, off, c, h2, h3, h4, h5, (Reads.turns h6 (Nat.le_refl _) ht (fun ad e => ?_)).more ht.size⟩
  injection e with e
  subst e
  exact hn b h5
theorem Hdr.wide (h : Hdr w B v L) (hB : ∀ k, B k → B' k) : Hdr w B' v L := by
  obtain ⟨h1, b, off, c, h2, h3, h4, h5, h6⟩ := h
  exact ⟨h1, b, off, c, h2, h3, h4, hB b h5, h6⟩
theorem Hdrs.turns (h : Hdrs w B hs Ls) (ht : Turns w w' E E') (hn : ∀ k, B k → ¬ E k) : Hdrs w' B hs Ls := ⟨h.1, fun i v L h1 h2 => (h.2 i v L h1 h2).turns ht hn⟩
theorem Hdrs.wide (h : Hdrs w B hs Ls) (hB : ∀ k, B k → B' k) : Hdrs w B' hs Ls := ⟨h.1, fun i v L h1 h2 => (h.2 i v L h1 h2).wide hB⟩
theorem Hdrs.none_ : Hdrs w B [] [] := ⟨rfl, fun i v L h => by simp at h⟩
theorem Hdrs.snoc (h : Hdrs w B hs Ls) (hv : Hdr w B v L) : Hdrs w B (hs ++ [v]) (Ls ++ [L]) := by
  refine ⟨by simp [h.1], fun i v' L' h1 h2 => ?_⟩
  by_cases hi : i < hs.length
  · rw [List.getElem?_append_left hi] at h1
    rw [List.getElem?_append_left (by rw [← h.1]; exact hi)] at h2
    exact h.2 i v' L' h1 h2
  · rw [List.getElem?_append_right (by omega)] at h1
    rw [List.getElem?_append_right (by rw [← h.1]; omega), ← h.1] at h2
    have : i - hs.length = 0 := by
      have := (List.getElem?_eq_some_iff.1 h1).1
      simp at this; omega
    rw [this] at h1 h2
    simp at h1 h2
    subst h1 h2
    exact hv
theorem Hdrs.set_ (h : Hdrs w B hs Ls) (k : Nat) (hv : Hdr w B v L) : Hdrs w B (hs.set k v) (Ls.set k L) := by
  refine ⟨by simp [h.1], fun i v' L' h1 h2 => ?_⟩
  by_cases hik : k = i
  · subst hik
    have hlt : k < hs.length := by have := (List.getElem?_eq_some_iff.1 h1).1; simpa using this
    rw [List.getElem?_set_self hlt] at h1
    rw [List.getElem?_set_self (by rw [← h.1]; exact hlt)] at h2
    injection h1 with h1
    injection h2 with h2
    subst h1 h2
    exact hv
  · rw [List.getElem?_set_ne hik] at h1 h2
    exact h.2 i v' L' h1 h2
theorem Hdrs.at_ (h : Hdrs w B hs Ls) {i : Nat} (hi : i < Ls.length) : ∃ v, hs[i]? = some v ∧ Hdr w B v Ls[i] :=
  ⟨hs[i]'(by rw [h.1]; exact hi), List.getElem?_eq_getElem (by rw [h.1]; exact hi), h.2 i _ _ (List.getElem?_eq_getElem (by rw [h.1]; exact hi)) (List.getElem?_eq_getElem hi)⟩
end
def rwc (ws : List (Nat × List UInt8)) (hv : List Value) : List Value := (ws.zip hv).flatMap fun x => [.int .i64 (x.1.1 : Int), x.2]
theorem rwc_snoc (ws : List (Nat × List UInt8)) (hv : List Value) (h : hv.length = ws.length) (x : Nat × List UInt8) (v : Value) : rwc (ws ++ [x]) (hv ++ [v]) = rwc ws hv ++ [.int .i64 (x.1 : Int), v] := by
  unfold rwc
  rw [List.zip_append (by omega)]
  simp
theorem rwc_get (ws : List (Nat × List UInt8)) (hv : List Value) (h : hv.length = ws.length) (i : Nat) (hi : i < ws.length) : (rwc ws hv)[i * 2]? = some (.int .i64 ((ws[i]).1 : Int)) ∧ (rwc ws hv)[i * 2 + 1]? = hv[i]? := by
  induction ws generalizing hv i with
  | nil => simp at hi
  | cons x ws ih =>
    match hv with
    | [] => simp at h
    | v :: hv =>
      have e : rwc (x :: ws) (v :: hv) = .int .i64 (x.1 : Int) :: v :: rwc ws hv := by simp [rwc]
      rw [e]
      match i with
      | 0 => simp
      | i + 1 =>
        have := ih hv (by simpa using h) i (by simpa using hi)
        rw [show (i + 1) * 2 = i * 2 + 2 by omega, show i * 2 + 2 + 1 = i * 2 + 1 + 2 by omega]
        simpa using this
def refCells (S V : Value) (d : Dk) : Array Value := #[S, V, .int .i64 d.left, .bool d.off, .int .i64 (d.reads : Int), .int .i64 (d.writes : Int), .int .i64 (d.flushes : Int)]
structure RD (w : World) (g : Nat) (G B : Nat → Prop) (d : Dk) (s cs : Nat) (V : Value) (hs hv : List Value) : Prop where
  blk : Blk w g 75 (refCells (.slice (some ⟨s, 0, none⟩) d.safe.length cs) V d)
  safe : w.ownsRow 0 39 1 (.slice (some ⟨s, 0, none⟩) d.safe.length cs) d.safe.length hs
  hsafe : Hdrs w B hs d.safe
  wait : w.ownsRow 0 109 2 V d.waits.length (rwc d.waits hv)
  hwait : Hdrs w B hv (d.waits.map (·.2))
  gg : G g
  gs : G s
  gv : ∀ k, V.ownBlock = some k → G k
  glt : ∀ k, G k → k < w.heap.size
  blt : ∀ k, B k → k < w.heap.size
  gb : ∀ k, G k → ¬ B k
  good : d.good
def RDisk (w : World) (g : Nat) (G B : Nat → Prop) (d : Dk) : Prop := ∃ s cs V hs hv, RD w g G B d s cs V hs hv
section
variable {w w' : World} {g : Nat} {G B : Nat → Prop} {d : Dk} {s cs : Nat} {V : Value} {hs hv : List Value}
theorem RD.ne (h : RD w g G B d s cs V hs hv) : g ≠ s ∧ V.ownBlock ≠ some g ∧ V.ownBlock ≠ some s := by
  obtain ⟨c1, h1⟩ := (own_lt h.safe (k := s) rfl).2
  exact ⟨h.blk.ne_ h1 (by decide), own_blk_ne h.wait h.blk (by decide), own_blk_ne h.wait h1 (by decide)⟩
theorem RD.turns {E E' : Nat → Prop} (h : RD w g G B d s cs V hs hv) (ht : Turns w w' E E') (hn : ∀ k, G k → ¬ E k) (hm : ∀ k, B k → ¬ E k) : RD w' g G B d s cs V hs hv :=
  ⟨h.blk.turns ht (hn g h.gg), own_turns h.safe ht (fun k hk => hn k (by simp [Value.ownBlock] at hk; rw [← hk]; exact h.gs)), h.hsafe.turns ht hm, own_turns h.wait ht (fun k hk => hn k (h.gv k hk)), h.hwait.turns ht hm, h.gg, h.gs, h.gv,
   fun k hk => Nat.lt_of_lt_of_le (h.glt k hk) ht.size, fun k hk => Nat.lt_of_lt_of_le (h.blt k hk) ht.size, h.gb, h.good⟩
theorem RDisk.turns {E E' : Nat → Prop} (h : RDisk w g G B d) (ht : Turns w w' E E') (hn : ∀ k, G k → ¬ E k) (hm : ∀ k, B k → ¬ E k) : RDisk w' g G B d := by
  obtain ⟨s, cs, V, hs, hv, h⟩ := h
  exact ⟨s, cs, V, hs, hv, h.turns ht hn hm⟩
theorem RDisk.below (h : RDisk w g G B d) (hb : Below w.heap.size w w') : RDisk w' g G B d := h.turns (Turns.of_below hb (fun _ => False)) (fun _ _ h => h) (fun _ _ h => h)
theorem RDisk.good (h : RDisk w g G B d) : d.good := by obtain ⟨s, cs, V, hs, hv, h⟩ := h; exact h.good
theorem RDisk.glt (h : RDisk w g G B d) : ∀ k, G k → k < w.heap.size := by obtain ⟨s, cs, V, hs, hv, h⟩ := h; exact h.glt
theorem RDisk.blt (h : RDisk w g G B d) : ∀ k, B k → k < w.heap.size := by obtain ⟨s, cs, V, hs, hv, h⟩ := h; exact h.blt
theorem RD.r0 (h : RD w g G B d s cs V hs hv) : w.cell? ⟨g, 0, none⟩ = some (.slice (some ⟨s, 0, none⟩) d.safe.length cs) := by rw [h.blk.cell]; rfl
theorem RD.r1 (h : RD w g G B d s cs V hs hv) : w.cell? ⟨g, 1, none⟩ = some V := by rw [h.blk.cell]; rfl
theorem RD.r2 (h : RD w g G B d s cs V hs hv) : w.cell? ⟨g, 2, none⟩ = some (.int .i64 d.left) := by rw [h.blk.cell]; rfl
theorem RD.r3 (h : RD w g G B d s cs V hs hv) : w.cell? ⟨g, 3, none⟩ = some (.bool d.off) := by rw [h.blk.cell]; rfl
theorem RD.r4 (h : RD w g G B d s cs V hs hv) : w.cell? ⟨g, 4, none⟩ = some (.int .i64 (d.reads : Int)) := by rw [h.blk.cell]; rfl
theorem RD.r5 (h : RD w g G B d s cs V hs hv) : w.cell? ⟨g, 5, none⟩ = some (.int .i64 (d.writes : Int)) := by rw [h.blk.cell]; rfl
theorem RD.r6 (h : RD w g G B d s cs V hs hv) : w.cell? ⟨g, 6, none⟩ = some (.int .i64 (d.flushes : Int)) := by rw [h.blk.cell]; rfl
theorem RD.fz (h : RD w g G B d s cs V hs hv) (k : Nat) : w.frozen? ⟨g, k, none⟩ = false := h.blk.frozen k
theorem RD.vform (h : RD w g G B d s cs V hs hv) : ∃ A c, V = .slice A d.waits.length c ∧ d.waits.length ≤ c ∧ c ≤ 9223372036854775807 := by
  rcases h.wait.2 with ⟨rfl, h0⟩ | ⟨k, cap, cur, rfl, h2, h3, h4, h5, _⟩
  · exact ⟨none, 0, by rw [h0], by omega, by omega⟩
  · exact ⟨_, _, rfl, h4, h5⟩
theorem RD.at_ (h : RD w g G B d s cs V hs hv) {i : Nat} (hi : i < d.safe.length) : ∃ v, hs[i]? = some v ∧ w.cell? ⟨s, i, none⟩ = some v ∧ Hdr w B v d.safe[i] := by
  obtain ⟨v, h1, h2⟩ := h.hsafe.at_ hi
  refine ⟨v, h1, ?_, h2⟩
  have := World.ownsRow.cells h.safe (g := s) rfl i v h1
  rwa [show (⟨s, 0, none⟩ : Addr).add i = ⟨s, i, none⟩ by unfold Addr.add; split <;> simp_all] at this
theorem RD.row (h : RD w g G B d s cs V hs hv) (h0 : 0 < d.waits.length) : ∃ gv cv, V = .slice (some ⟨gv, 0, none⟩) d.waits.length cv ∧ gv ≠ s ∧ gv ≠ g ∧ G gv ∧ d.waits.length ≤ cv ∧ cv ≤ 9223372036854775807 ∧
    (∀ i (hi : i < d.waits.length), w.cell? ⟨gv, i * 2, none⟩ = some (.int .i64 ((d.waits[i]).1 : Int)) ∧ ∃ v, w.cell? ⟨gv, i * 2 + 1, none⟩ = some v ∧ Hdr w B v (d.waits[i]).2) := by
  obtain ⟨n1, n2, n3⟩ := h.ne
  have hw := h.wait
  have hl : hv.length = d.waits.length := by have := h.hwait.1; rwa [List.length_map] at this
  rcases h.wait.2 with ⟨_, h1⟩ | ⟨k, cap, cur, rfl, h2, h3, h4, h5, h6, h7⟩
  · omega
  · refine ⟨k, cap, rfl, fun e => n3 (by simp [Value.ownBlock, e]), fun e => n2 (by simp [Value.ownBlock, e]), h.gv k rfl, h4, h5, fun i hi => ?_⟩
    have hc := World.ownsRow.cells hw (g := k) rfl
    have ea : ∀ j, (⟨k, 0, none⟩ : Addr).add j = ⟨k, j, none⟩ := fun j => by unfold Addr.add; split <;> simp_all
    obtain ⟨e1, e2⟩ := rwc_get d.waits hv hl i hi
    obtain ⟨v, h8, h9⟩ := h.hwait.at_ (i := i) (by rw [List.length_map]; exact hi)
    have c1 := hc _ _ e1
    have c2 := hc _ _ (e2.trans h8)
    rw [ea] at c1 c2
    rw [List.getElem_map] at h9
    exact ⟨c1, v, c2, h9⟩
theorem RD.retell {E' : Nat → Prop} {d' : Dk} (h : RD w g G B d s cs V hs hv) (ht : Turns w w' (fun k => k = g) E') (h1 : d'.safe = d.safe) (h2 : d'.waits = d.waits) (hl : -1 ≤ d'.left ∧ d'.left ≤ 9223372036854775807)
    (hb : Blk w' g 75 (refCells (.slice (some ⟨s, 0, none⟩) d.safe.length cs) V d')) : RD w' g G B d' s cs V hs hv := by
  obtain ⟨n1, n2, n3⟩ := h.ne
  have hgb : ∀ k, B k → ¬ k = g := fun k hk e => h.gb g h.gg (e ▸ hk)
  refine ⟨by rw [h1]; exact hb, by rw [h1]; exact own_turns h.safe ht (fun k hk e => n1 (by simp [Value.ownBlock] at hk; omega)), by rw [h1]; exact h.hsafe.turns ht hgb, by rw [h2]; exact own_turns h.wait ht (fun k hk e => n2 (by rw [hk, e])), by rw [h2]; exact h.hwait.turns ht hgb, h.gg, h.gs, h.gv,
    fun k hk => Nat.lt_of_lt_of_le (h.glt k hk) ht.size, fun k hk => Nat.lt_of_lt_of_le (h.blt k hk) ht.size, h.gb, ⟨⟨by rw [h1]; exact h.good.fit.1, by rw [h1, h2]; exact h.good.fit.2⟩, by rw [h1]; exact h.good.few, by rw [h1]; exact h.good.many, hl⟩⟩
end
def RDeeds (D : Dk) (G B : Nat → Prop) (w w' : World) (g : Nat) : Prop := ∃ G' B', RDisk w' g G' B' D ∧ Turns w w' G G' ∧ ∀ k, B' k → B k ∨ w.heap.size ≤ k
def RSame (D : Dk) (G B : Nat → Prop) (w w' : World) (g : Nat) : Prop := RDisk w' g G B D ∧ Turns w w' G G
end
section
open Go.RowKit
theorem fixL_snoc : ∀ (k n : Nat), fixL (k + 1) n = fixL k n ++ [UInt8.ofNat (n / 256 ^ k % 256)] := by
  intro k
  induction k with
  | zero => intro n; simp [fixL]
  | succ k ih =>
    intro n
    rw [fixL, ih (n / 256), fixL, List.cons_append, Nat.div_div_eq_div_mul, Nat.pow_succ, Nat.mul_comm 256]
theorem refFix_any (n k : Nat) (w : World) (h : n ≤ 2147483647) (hk1 : 1 ≤ k) (hk4 : k ≤ 4) :
    Calls Tryz.prog 37 #[.int .i64 (n : Int), .int .i64 (k : Int)] w fun e w' => (n < 256 ^ k → GivesBytes (fixL k n) w e w') ∧ (¬ n < 256 ^ k → e = .returned (.tuple #[.slice none 0 0, .int .i64 1]) ∧ Below w.heap.size w w') := by
  have hl : (fixL k n).length = k := fixL_length k n
  have hc1 : decide ((k : Int) < 1) = false := by simp; omega
  have hc4 : decide (4 < (k : Int)) = false := by simp; omega
  have hn1 : decide ((n : Int) < 0) = false := by simp
  have hn2 : decide (2147483647 < (n : Int)) = false := by simp; omega
  have HL := Lib.hid hl
  clear hl
  go_enter Tryz.func37, Tryz.ntmps37
  go_wp2
  go_loopw [0, 6, 7] (fun x v i wr => ∃ (j m : Nat), j ≤ k ∧ i = .int .i64 (j : Int) ∧ x = .int .i64 (m : Int) ∧ m ≤ 2147483647 ∧ m = n / 256 ^ j ∧ wr.ownsRow w.heap.size 5 1 v (fixL j n).length (cells (fixL j n)) ∧ Below w.heap.size w wr) (fun _ _ i _ => k - (intOf i).toNat)
  case atStart => exact ⟨0, n, by omega, rfl, rfl, h, by simp, World.ownsRow_nil _ _ _ _, Below.refl _ _⟩
  case round =>
    obtain ⟨j, m, hj, rfl, rfl, hm, hmn, hown, hbw⟩ := hrel
    have HM : Hid (m = n / 256 ^ j) := hmn
    clear hmn
    by_cases hlt : j < k
    · obtain ⟨b, hb⟩ : ∃ b : UInt8, b = UInt8.ofNat (m % 256) := ⟨_, rfl⟩
      have HB : Hid ((m : Int) % 256 = (b.toNat : Int)) := by rw [hb, ofNat_toNat _ (by omega)]; show (m : Int) % 256 = _; omega
      have HQ : Hid (fixL j n ++ [b] = fixL (j + 1) n) := by show _ = _; rw [fixL_snoc, hb, HM.out]
      have HM2 : Hid (m / 256 = n / 256 ^ (j + 1)) := by show _ = _; rw [HM.out, Nat.div_div_eq_div_mul, Nat.pow_succ]
      have hlen1 : (fixL j n).length + 1 ≤ 1048576 := by rw [fixL_length]; omega
      clear hb
      go_wp2_with (at_builtin; refine append_byte rfl _ _ rfl b rfl hown hbw (Nat.le_refl _) HB.out rfl hlen1 ?_; intro v' w1 hown' hbw')
      go_roundw
      case rel => exact ⟨j + 1, m / 256, by omega, by go_num, by go_num, by omega, HM2.out, by rw [← HQ.out]; exact hown', hbw'⟩
      case measure => simp [intOf]; omega
    · obtain rfl : k = j := by omega
      have hp : 0 < 256 ^ k := Nat.pow_pos (by omega)
      have HP : Hid (0 < m ↔ ¬ n < 256 ^ k) := by
        show _ ↔ _
        rw [HM.out]
        constructor
        · intro h0 h1; rw [Nat.div_eq_of_lt h1] at h0; omega
        · intro h0; exact Nat.div_pos (by omega) hp
      have hfm := own_form hown
      clear hp
      by_cases hm0 : 0 < m
      · go_wp2
        go_ret2
        exact ⟨fun hx => absurd hx (HP.out.1 hm0), fun _ => ⟨rfl, hbw⟩⟩
      · obtain ⟨A, c, hv⟩ := hfm
        have HV := Lib.hid hv
        clear hv
        go_wp2
        go_ret2
        refine ⟨fun _ => ⟨A, c, ?_, ?_, hbw⟩, fun hx => absurd (HP.out.2 hx) hm0⟩
        · rw [← HV.out]; exact rfl
        · unfold Own; rw [← HV.out]; exact hown
end
section
open Go.RowKit
theorem sub_rb {w : World} {B b0 o c : Nat} {M : List UInt8} (h : RB w B (some ⟨b0, o, none⟩) M) (k q : Nat) (hk : k + q ≤ M.length) (hc : M.length < c) : RB w B (some ⟨b0, o + k, none⟩) ((M.drop k).take q) := by
  have h2 := rb_cut1 h (k := k) (c := c) (by omega) (by omega) (by omega)
  simp only [Option.map_some, add_at] at h2
  exact rb_take h2 q (by rw [List.length_drop]; omega)
end
section
open Go.ChangeShapes Go.WideShapes Go.ChangeAt Go.RowKit
theorem ini_wf6 {z : Int} (h : (Lit.int .i64 z).wf = true) : InI z := by
  simpa [InI, Lit.wf, IntKind.min, IntKind.max, IntKind.signed, IntKind.bits] using h
theorem addr_add6 (b off j : Nat) : (⟨b, off, none⟩ : Addr).add j = ⟨b, off + j, none⟩ := by unfold Addr.add; split <;> simp_all
section
variable {H : Type} {enc : TypeId × Value → H} {P : Program}
theorem bytes_of {W : World} {t e : TypeId} {fuel : Nat} {v : Value} {x : DataW H × List MemPlace} (ht : P.underlying t = some (.slice e)) (he : P.underlying e = some (.int .u8)) (hc : P.cellsOf e = 1)
    (hf : DataW.trod enc P W 0 (fun _ => true) true fuel t [v] = some x) :
    ∃ (A : Option Addr) (L : List UInt8) (c : Nat), v = .slice A L.length c ∧ RB W W.heap.size A L ∧ L.length ≤ c ∧ c ≤ maxLen := by
  rcases open_ints ht he hc hf with ⟨hcs, hx⟩ | ⟨a, len, cap, zs, hcs, _, hl, hm, hz, hx, hcell, hwz⟩
  · simp at hcs
    exact ⟨none, [], 0, hcs, RB.none_ _ _, Nat.le_refl _, Nat.zero_le _⟩
  · simp at hcs
    simp only [if_true] at hz
    have hll : (bytesOfInts (zs.take len)).length = len := by simp [bytesOfInts]; omega
    refine ⟨some a, bytesOfInts (zs.take len), cap, by rw [hll]; exact hcs, ?_, by rw [hll]; exact hl, hm⟩
    exact rb_of_ints len (by omega) hwz (by intro h; cases h) (fun a' ha c' hc' => by injection ha with ha; subst ha; exact hcell c' hc')
theorem intl_of {W : World} {t e : TypeId} {fuel : Nat} {v : Value} {x : DataW H × List MemPlace} (ht : P.underlying t = some (.slice e)) (he : P.underlying e = some (.int .i64)) (hc : P.cellsOf e = 1)
    (hf : DataW.trod enc P W 0 (fun _ => true) true fuel t [v] = some x) :
    ∃ (A : Option Addr) (Z : List Int) (c : Nat), v = .slice A Z.length c ∧ RI W W.heap.size A Z := by
  rcases open_ints ht he hc hf with ⟨hcs, hx⟩ | ⟨a, len, cap, zs, hcs, _, hl, hm, hz, hx, hcell, hwz⟩
  · simp at hcs
    exact ⟨none, [], 0, hcs, fun h => absurd h (by simp)⟩
  · simp at hcs
    simp only [if_true] at hz
    have hlen : (zs.take len).length = len := by rw [List.length_take]; omega
    refine ⟨some a, zs.take len, cap, by rw [hlen]; exact hcs, fun hn => ?_⟩
    rw [hlen] at hn
    obtain ⟨b, off, rfl, hcc⟩ := ints_at hcell (by omega)
    have hblk := World.block_lt_of_cell? W _ (hcc 0 (by omega))
    refine ⟨b, off, rfl, hblk, fun k hk => ?_⟩
    rw [hlen] at hk
    rw [hcc k (by omega)]
    simp [List.getD, List.getElem?_eq_getElem (show k < zs.length by omega), List.getElem_take]
end
end
end Go.Proofs.YtghenhacndaelaaGreat
