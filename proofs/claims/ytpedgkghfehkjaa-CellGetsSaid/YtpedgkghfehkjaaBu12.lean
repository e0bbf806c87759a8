/- Lemmas under the proofs of this place: RFix, IntsZ, Round. No statement is proved here. -/
import Derived.Test.YtpedgkghfehkjaaBu09
import Derived.Test.YtpedgkghfehkjaaBu08
import Derived.Test.YtpedgkghfehkjaaBu02
import Derived.Test.YtpedgkghfehkjaaBu10
import Derived.RangeFuncNested
import Derived.RangeFuncCalls
import Derived.OrdersIn
section
set_option linter.unusedVariables false
set_option linter.unusedSimpArgs false
namespace Go.Proofs.Ytpedgkghfehkjaa
open Go.RowKit
theorem fixL_snoc : ∀ (k n : Nat), fixL (k + 1) n = fixL k n ++ [UInt8.ofNat (n / 256 ^ k % 256)] := by
  intro k
  induction k with
  | zero => intro n; simp [fixL]
  | succ k ih =>
    intro n
    rw [fixL, ih (n / 256), fixL, List.cons_append, Nat.div_div_eq_div_mul, Nat.pow_succ, Nat.mul_comm 256]
set_option maxRecDepth 100000 in
set_option maxHeartbeats 2000000 in
theorem refFix_any (n k : Nat) (w : World) (h : n ≤ 2147483647) (hk1 : 1 ≤ k) (hk4 : k ≤ 4) :
    Calls Try.prog 23 #[.int .i64 (n : Int), .int .i64 (k : Int)] w fun e w' => (n < 256 ^ k → GivesBytes (fixL k n) w e w') ∧ (¬ n < 256 ^ k → e = .returned (.tuple #[.slice none 0 0, .int .i64 1]) ∧ Below w.heap.size w w') := by
  have hl : (fixL k n).length = k := fixL_length k n
  have hc1 : decide ((k : Int) < 1) = false := by simp; omega
  have hc4 : decide (4 < (k : Int)) = false := by simp; omega
  have hn1 : decide ((n : Int) < 0) = false := by simp
  have hn2 : decide (2147483647 < (n : Int)) = false := by simp; omega
  have HL := Lib.hid hl
  clear hl
  go_enter Try.func23, Try.ntmps23
  go_wp2
  go_loopw [0, 6, 7] (fun x v i wr => ∃ (j m : Nat), j ≤ k ∧ i = .int .i64 (j : Int) ∧ x = .int .i64 (m : Int) ∧ m ≤ 2147483647 ∧ m = n / 256 ^ j ∧ wr.ownsRow w.heap.size 5 1 v (fixL j n).length (cells (fixL j n)) ∧ Below w.heap.size w wr) (fun _ _ i _ => k - (intOf i).toNat)
  case atStart => exact ⟨0, n, by omega, rfl, rfl, h, by simp, World.ownsRow_nil _ _ _ _, Below.refl _ _⟩
  case round =>
    obtain ⟨j, m, hj, rfl, rfl, hm, hmn, hown, hbw⟩ := hrel
    have HM : Hid (m = n / 256 ^ j) := hmn
    clear hmn
    by_cases hlt : j < k
    · obtain ⟨b, hb⟩ : ∃ b : UInt8, b = UInt8.ofNat (m % 256) := ⟨_, rfl⟩
      have HB : Hid ((m : Int) % 256 = (b.toNat : Int)) := by rw [hb, ofNat_toNat _ (by omega)]; show (m : Int) % 256 = _; omega
      have HQ : Hid (fixL j n ++ [b] = fixL (j + 1) n) := by show _ = _; rw [fixL_snoc, hb, HM.out]
      have HM2 : Hid (m / 256 = n / 256 ^ (j + 1)) := by show _ = _; rw [HM.out, Nat.div_div_eq_div_mul, Nat.pow_succ]
      have hlen1 : (fixL j n).length + 1 ≤ 1048576 := by rw [fixL_length]; omega
      clear hb
      go_wp2_with (at_builtin; refine append_byte rfl _ _ rfl b rfl hown hbw (Nat.le_refl _) HB.out rfl hlen1 ?_; intro v' w1 hown' hbw')
      go_roundw
      case rel => exact ⟨j + 1, m / 256, by omega, by go_num, by go_num, by omega, HM2.out, by rw [← HQ.out]; exact hown', hbw'⟩
      case measure => simp [intOf]; omega
    · obtain rfl : k = j := by omega
      have hp : 0 < 256 ^ k := Nat.pow_pos (by omega)
      have HP : Hid (0 < m ↔ ¬ n < 256 ^ k) := by
        show _ ↔ _
        rw [HM.out]
        constructor
        · intro h0 h1; rw [Nat.div_eq_of_lt h1] at h0; omega
        · intro h0; exact Nat.div_pos (by omega) hp
      have hfm := own_form hown
      clear hp
      by_cases hm0 : 0 < m
      · go_wp2
        go_ret2
        exact ⟨fun hx => absurd hx (HP.out.1 hm0), fun _ => ⟨rfl, hbw⟩⟩
      · obtain ⟨A, c, hv⟩ := hfm
        have HV := Lib.hid hv
        clear hv
        go_wp2
        go_ret2
        refine ⟨fun _ => ⟨A, c, ?_, ?_, hbw⟩, fun hx => absurd (HP.out.2 hx) hm0⟩
        · rw [← HV.out]; exact rfl
        · unfold Own; rw [← HV.out]; exact hown
end Go.Proofs.Ytpedgkghfehkjaa
end
section
set_option linter.unusedVariables false
namespace Go.Proofs.Ytpedgkghfehkjaa
open Go.RowKit
def zcells (l : List Int) : List Value := l.map fun z => .int .i64 z
theorem zcells_length (l : List Int) : (zcells l).length = l.length := by simp [zcells]
theorem zcells_append (l m : List Int) : zcells (l ++ m) = zcells l ++ zcells m := by simp [zcells]
theorem zcells_drop (l : List Int) (k : Nat) : (zcells l).drop k = zcells (l.drop k) := by simp [zcells]
theorem zcells_one (l : List Int) : ∀ u ∈ zcells l, u.oneCell' = true := by
  intro u hu
  simp only [zcells, List.mem_map] at hu
  obtain ⟨b, _, rfl⟩ := hu
  rfl
theorem zcells_get (l : List Int) (k : Nat) (h : k < l.length) : (zcells l)[k]? = some (.int .i64 l[k]) := by simp [zcells, h]
def RZ (w : World) (B : Nat) (A : Option Addr) (l : List Int) : Prop := Reads w B 1 A l.length (zcells l)
theorem RZ.ri {w : World} {B : Nat} {A : Option Addr} {l : List Int} (h : RZ w B A l) : RI w B A l := fun hn => by
  obtain ⟨ad, e, hb, hc⟩ := h.2 hn
  have h0 := hc 0 _ (zcells_get l 0 hn)
  obtain ⟨b, off, p⟩ := ad
  have e0 : (⟨b, off, p⟩ : Addr).add 0 = ⟨b, off, p⟩ := by simp [Addr.add]
  rw [e0] at h0
  have hp : p = none := World.cell?_spot h0
  subst hp
  refine ⟨b, off, e, hb, fun k hk => ?_⟩
  have := hc k _ (zcells_get l k hk)
  rwa [add_at] at this
theorem RI.rz {w : World} {B : Nat} {A : Option Addr} {l : List Int} (h : RI w B A l) : RZ w B A l := by
  refine ⟨by rw [zcells_length, Nat.mul_one], fun hn => ?_⟩
  obtain ⟨b, off, e, hb, hc⟩ := h hn
  refine ⟨_, e, hb, fun j u hu => ?_⟩
  have hj : j < l.length := by
    have := (List.getElem?_eq_some_iff.1 hu).1
    rwa [zcells_length] at this
  rw [zcells_get l j hj] at hu
  rw [add_at, hc j hj]
  exact hu
theorem RI.more {w : World} {B B' : Nat} {A : Option Addr} {l : List Int} (h : RI w B A l) (hB : B ≤ B') : RI w B' A l := fun hn => by
  obtain ⟨b, off, e, hb, hc⟩ := h hn
  exact ⟨b, off, e, Nat.lt_of_lt_of_le hb hB, hc⟩
theorem ri_up {w w' : World} {A : Option Addr} {l : List Int} (h : RI w w.heap.size A l) (hb : Below w.heap.size w w') : RI w' w'.heap.size A l := (h.below hb).more hb.size
theorem Try.infoZ : (Try.prog.info? 3).map (fun i => (i.zero, i.size, i.bytes)) = some (some (.int .i64 0), 1, 8) := by kernel_rfl
theorem zsl_from (A : Option Addr) (n c s : Nat) (i : Int) (hi : i = (s : Int)) (h1 : s ≤ n) (h2 : n ≤ c) (W : World) :
    (Instr.sliceAt 34 (.slice A n c) (some (.int .i64 i)) none none).run Try.prog W = .ok (.slice (if c = s then A else A.map (·.add (s * 1))) (n - s) (c - s)) W := by
  subst hi
  have hu : Try.prog.underlying 34 = some (.slice (Try.prog.elem 34)) := by kernel_rfl
  have he : Try.prog.elem 34 = 3 := by kernel_rfl
  have hsz : (sizeOf 3).run Try.prog W = .ok 1 W := by kernel_rfl
  have e : (s : Int).toNat = s := by omega
  rw [run_sliceAt_slice _ _ _ _ _ _ hu, run_slice_l _ _ _ _ _ hu .i64 (s : Int) (by omega) (by omega), he, hsz]
  simp only [Result.andThen_ok, e, sliced]
theorem addr_zero (A : Option Addr) (c : Nat) : (if c = 0 then A else A.map (·.add (0 * 1))) = A := by
  split
  · rfl
  · cases A with
    | none => rfl
    | some a => simp [Addr.add]
theorem zsl_to (A : Option Addr) (n c h : Nat) (j : Int) (hj : j = (h : Int)) (h1 : h ≤ c) (W : World) :
    (Instr.sliceAt 34 (.slice A n c) none (some (.int .i64 j)) none).run Try.prog W = .ok (.slice A h c) W := by
  subst hj
  have hu : Try.prog.underlying 34 = some (.slice (Try.prog.elem 34)) := by kernel_rfl
  have he : Try.prog.elem 34 = 3 := by kernel_rfl
  have hsz : (sizeOf 3).run Try.prog W = .ok 1 W := by kernel_rfl
  have e : (h : Int).toNat = h := by omega
  rw [run_sliceAt_slice _ _ _ _ _ _ hu, run_slice_h _ _ _ _ _ hu .i64 (h : Int) (by omega) (by omega), he, hsz]
  simp only [Result.andThen_ok, e, sliced, Nat.sub_zero, addr_zero]
theorem zown_empty {w : World} {base n c : Nat} {A : Option Addr} {xs : List Value} (h : w.ownsRow base 3 1 (.slice A n c) n xs) : w.ownsRow base 3 1 (.slice A 0 c) 0 [] := by
  refine ⟨rfl, ?_⟩
  rcases h.2 with ⟨h1, h0⟩ | ⟨g, cap, cur, he, h2, h3, h4, h5, h6, h7⟩
  · simp only [Value.slice.injEq] at h1
    obtain ⟨rfl, rfl, rfl⟩ := h1
    exact .inl ⟨rfl, rfl⟩
  · simp only [Value.slice.injEq] at he
    obtain ⟨rfl, -, rfl⟩ := he
    exact .inr ⟨g, c, cur, rfl, h2, h3, Nat.zero_le _, h5, h6, by simp⟩
end Go.Proofs.Ytpedgkghfehkjaa
end
section
set_option linter.unusedVariables false
namespace Go.Proofs.Ytpedgkghfehkjaa
open Go.RowKit
section
variable {P : Program} {ops : Array Oper} {Q : Exit → Act → World → Prop} {md : Region.Mode} {l n : Nat}
theorem rows_wide {row : String} {args : Array Value} {w : World} {R : Value → World → Prop} (h : Rows P row args w R) : RowsIn (Fence.wide.inRound l) n P row args w R := fun c cs _ =>
  let ⟨v, w', r, s⟩ := h c cs
  ⟨v, w', r, stepsIn_wide.2 s⟩
def noDefer (ops : Array Oper) : Bool := ops.all fun o => match o.op with | .defer _ => false | _ => true
theorem noDefer_spec (h : noDefer ops = true) {i : Nat} {o : Oper} (ho : ops[i]? = some o) : ∀ c, o.op ≠ .defer c := fun c hc => by
  obtain ⟨hi, rfl⟩ := Array.getElem?_eq_some_iff.1 ho
  have := Array.all_eq_true.1 h i hi
  rw [hc] at this
  cases this
theorem op_round {o : Oper} {a : Act} {w : World} {K : Act → World → Prop} (hp : ∀ c, o.op ≠ .defer c) (hL : ¬ LetsOut Q) (h : o.wp P a w K Q ∨ (o.asks P a w ∧ LetsOut Q)) : o.wpIn (Fence.wide.inRound l) n P a w K Q := by
  have h := h.resolve_right (fun h2 => hL h2.2)
  refine ⟨fun _ _ => trivial, ?_⟩
  rw [Oper.semAt_eq _ _ _ hp]
  unfold Oper.wp at h
  generalize (execOp a.eval o).run P w = r at *
  cases r with
  | ok x w' =>
    cases x with
    | value v => exact h
    | skip => exact h
    | defer d => exact h
    | enter f args =>
      refine ⟨fun hd => (by simp [Fence.wide, Fence.inRound] at hd), ?_⟩
      exact CallsIn.inRound l (callsIn_wide.2 h)
    | row row args => exact ⟨fun hd => (by simp [Fence.wide, Fence.inRound] at hd), rows_wide h⟩
    | round l f tmps assign body => exact h.elim
    | _ => exact h.elim
  | halt x w' => cases x <;> exact h
theorem wpOp_round {i : Nat} {a : Act} {w : World} {K K' : Act → World → Prop} (hp : noDefer ops = true) (hL : ¬ LetsOut Q) (hK : ∀ a w, K a w → K' a w) (h : wpOp P ops Q i K a w) : wpOpIn (Fence.wide.inRound l) n P ops Q i K' a w := by
  unfold wpOp at h
  unfold wpOpIn
  split at h
  · rename_i ho
    simp only [ho]
    exact hK _ _ h
  · rename_i o ho
    simp only [ho]
    split at h
    · rename_i hw
      simp only [hw, if_true]
      exact Oper.wpIn_mono hK (op_round (noDefer_spec hp ho) hL h)
    · rename_i hw
      simp only [hw]
      exact ⟨fun _ _ => trivial, hK _ _ h⟩
theorem any_round (hp : noDefer ops = true) (hL : ¬ LetsOut Q) : ∀ (fuel : Nat) (listed : Array Bool) (a : Act) (w : World), wpAny P md ops Q fuel listed a w → wpAnyIn (Fence.wide.inRound l) n P md ops Q fuel listed a w
  | 0, _, _, _, h => h
  | fuel + 1, _, _, _, h => ⟨h.1, fun i hi => wpOp_round hp hL (fun a w h' => any_round hp hL fuel _ a w h') (h.2 i hi)⟩
def Nrm (R : Act → World → Prop) : Exit → Act → World → Prop
  | .normal, a, w => R a w
  | _, _, _ => False
theorem nrm_lets (R : Act → World → Prop) : ¬ LetsOut (Nrm R) := fun ⟨_, _, h⟩ => h
theorem region_round {id : Nat} {a : Act} {w : World} (R : Act → World → Prop) (hm : P.follows .mixedOrders = true) (hp : noDefer ops = true)
    (h : wpAny P .any ops (Nrm R) ops.size (Array.replicate ops.size false) a { w with drawn := w.drawn + 1 }) (hQ : ∀ a w, R a w → Q .normal a w) : (Code.region id ops true).wpIn (Fence.wide.inRound l) n P Q a w := by
  refine Go.wpIn_mono (wpIn_region_any hm (any_round hp (nrm_lets R) _ _ _ _ h)) fun e a w h => ?_
  cases e <;> first | exact hQ _ _ h | exact h.elim
theorem any_twoT {S : World → Prop} {T : Nat → Bool} {i j fuel : Nat} {listed : Array Bool} {a : Act} {w : World} (hr : Region.ready md ops listed = [i, j])
    (h1 : wpOp P ops Q i (fun a' w' => S w' ∧ wpAnyT P md ops Q S T fuel (listed.setIfInBounds i true) a' w') a w) (h2 : wpOp P ops Q j (fun a' w' => S w' ∧ wpAnyT P md ops Q S T fuel (listed.setIfInBounds j true) a' w') a w) : wpAnyT P md ops Q S T (fuel + 1) listed a w :=
  ⟨fun h0 => (by rw [hr] at h0; cases h0), fun k hk => by
    rw [hr] at hk
    rcases List.mem_cons.1 hk with rfl | hk
    · exact wpOp_mono (fun a' w' h' => ⟨fun _ => h'.1, h'.2⟩) h1
    · rw [List.mem_singleton] at hk
      subst hk
      exact wpOp_mono (fun a' w' h' => ⟨fun _ => h'.1, h'.2⟩) h2⟩
end
end Go.Proofs.Ytpedgkghfehkjaa
end
