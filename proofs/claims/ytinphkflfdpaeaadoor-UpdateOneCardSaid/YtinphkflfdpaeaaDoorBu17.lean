/- Lemmas under the proofs of this place: OpRHas, OpRead, RText. No statement is proved here. -/
import Derived.Test.YtinphkflfdpaeaaDoorBu13
import Derived.Test.YtinphkflfdpaeaaDoorBu05
import Derived.Test.YtinphkflfdpaeaaDoorBu14
set_option linter.unusedSimpArgs false
set_option linter.unusedVariables false
set_option maxRecDepth 100000
set_option maxHeartbeats 16000000
namespace Go.Proofs.YtinphkflfdpaeaaDoor
section
open Go.RowKit
def opV (o : Opn) : Value := .agg #[.int .i64 o.kind, .string (text o.name), .string (text o.text), .int .i64 o.n, .string (text o.at_)]
theorem results_tmp5 {fn : Func} {t u v x y : Nat} (h : fn.results = #[.tmp t, .tmp u, .tmp v, .tmp x, .tmp y]) (tmps : Array Value) (P : Program) (w : World) :
    (results fn tmps).run P w = .ok (.tuple #[tmps.getD t undef, tmps.getD u undef, tmps.getD v undef, tmps.getD x undef, tmps.getD y undef]) w := by
  simp [results, h]
def hasV (k : Int) : Value := .tuple #[.bool (hasName k), .bool (hasText k), .bool (hasN k), .bool (hasAt k), .bool (isKind k)]
theorem refHas_any (k : Int) (w : World) :
    Calls Tryd.prog 49 #[.int .i64 k] w fun e w' => e = .returned (hasV k) ∧ Below w.heap.size w w' := by
  by_cases h : 1 ≤ k ∧ k ≤ 7
  · rcases kind_cases h with rfl | rfl | rfl | rfl | rfl | rfl | rfl
    · go_enter Tryd.func49, Tryd.ntmps49
      go_wp2
      (try simp only [Exit.inBlock, Exit.then])
      refine bodyPost_ret (results_tmp5 rfl _ _ _) rfl ?_
      exact ⟨rfl, Below.refl _ _⟩
    · go_enter Tryd.func49, Tryd.ntmps49
      go_wp2
      (try simp only [Exit.inBlock, Exit.then])
      refine bodyPost_ret (results_tmp5 rfl _ _ _) rfl ?_
      exact ⟨rfl, Below.refl _ _⟩
    · go_enter Tryd.func49, Tryd.ntmps49
      go_wp2
      (try simp only [Exit.inBlock, Exit.then])
      refine bodyPost_ret (results_tmp5 rfl _ _ _) rfl ?_
      exact ⟨rfl, Below.refl _ _⟩
    · go_enter Tryd.func49, Tryd.ntmps49
      go_wp2
      (try simp only [Exit.inBlock, Exit.then])
      refine bodyPost_ret (results_tmp5 rfl _ _ _) rfl ?_
      exact ⟨rfl, Below.refl _ _⟩
    · go_enter Tryd.func49, Tryd.ntmps49
      go_wp2
      (try simp only [Exit.inBlock, Exit.then])
      refine bodyPost_ret (results_tmp5 rfl _ _ _) rfl ?_
      exact ⟨rfl, Below.refl _ _⟩
    · go_enter Tryd.func49, Tryd.ntmps49
      go_wp2
      (try simp only [Exit.inBlock, Exit.then])
      refine bodyPost_ret (results_tmp5 rfl _ _ _) rfl ?_
      exact ⟨rfl, Below.refl _ _⟩
    · go_enter Tryd.func49, Tryd.ntmps49
      go_wp2
      (try simp only [Exit.inBlock, Exit.then])
      refine bodyPost_ret (results_tmp5 rfl _ _ _) rfl ?_
      exact ⟨rfl, Below.refl _ _⟩
  · have e : hasV k = .tuple #[.bool false, .bool false, .bool false, .bool false, .bool false] := by
      unfold hasV hasName hasText hasN hasAt isKind
      rw [decide_eq_false (show ¬ k = 1 by omega)]
      by_cases h1 : 1 ≤ k
      · rw [decide_eq_false (show ¬ k ≤ 6 by omega), decide_eq_false (show ¬ k ≤ 5 by omega), decide_eq_false (show ¬ k ≤ 7 by omega)]
        simp
      · rw [decide_eq_false (show ¬ 1 ≤ k by omega), decide_eq_false (show ¬ 2 ≤ k by omega), decide_eq_false (show ¬ 5 ≤ k by omega)]
        simp
    have q1 : (k == 1) = false := by simp; omega
    have q2 : (k == 2) = false := by simp; omega
    have q3 : (k == 3) = false := by simp; omega
    have q4 : (k == 4) = false := by simp; omega
    have q5 : (k == 5) = false := by simp; omega
    have q6 : (k == 6) = false := by simp; omega
    have q7 : (k == 7) = false := by simp; omega
    clear h
    go_enter Tryd.func49, Tryd.ntmps49
    go_wp2
    (try simp only [Exit.inBlock, Exit.then])
    refine bodyPost_ret (results_tmp5 rfl _ _ _) rfl ?_
    exact ⟨by rw [e]; rfl, Below.refl _ _⟩
end
section
def rdText (h : Bool) (st : St) : St × List UInt8 := if h = true then stepText st else (st, [])
def numI (s : Nat) (x : List UInt8) : Int := if s = 1 then -(if 2147483647 < unfixL x then 0 else (unfixL x : Int)) else (if 2147483647 < unfixL x then 0 else (unfixL x : Int))
def rdNum (h : Bool) (st : St) : St × Int := if h = true then ((stepTake 4 (stepByte st).1).1, numI (stepByte st).2 (stepTake 4 (stepByte st).1).2) else (st, 0)
def rdAt5 (st : St) : St × List UInt8 := if (stepByte st).2 = 1 then stepTake 32 (stepByte st).1 else ((stepByte st).1, [])
def rdAt (k : Int) (st : St) : St × List UInt8 := if k = 5 then rdAt5 st else if k = 6 then stepTake 32 st else (st, [])
def readO (st : St) : St × Opn :=
  let k : Int := (stepByte st).2
  let b := rdText (hasName k) (stepByte st).1
  let c := rdText (hasText k) b.1
  let d := rdNum (hasN k) c.1
  let e := rdAt k d.1
  (e.1, ⟨k, b.2, c.2, d.2, e.2⟩)
theorem take_app (a r : List UInt8) (n : Int) (h : n = (a.length : Int)) : stepTake n (some (a ++ r)) = (some r, a) := by
  subst h
  show (if _ then _ else _) = _
  rw [if_neg (by rw [List.length_append]; omega)]
  simp
theorem byte_cons (c : UInt8) (r : List UInt8) : stepByte (some (c :: r)) = (some r, c.toNat) := by
  have h := take_app [c] r 1 rfl
  simp only [List.cons_append, List.nil_append] at h
  unfold stepByte
  rw [h]
  rfl
theorem text_app (a r : List UInt8) (h : a.length ≤ 262144) : stepText (some (textL a ++ r)) = (some r, a) := by
  have e : stepNum (some (textL a ++ r)) = (some (a ++ r), a.length) := by
    have h1 := nextN_put a.length (a ++ r) (by omega)
    unfold nextN at h1
    unfold textL
    rw [List.append_assoc]
    show (match getL (putL a.length ++ (a ++ r)) with | some (n, k) => (some ((putL a.length ++ (a ++ r)).drop k), n) | none => (none, 0)) = _
    cases hg : getL (putL a.length ++ (a ++ r)) with
    | none => rw [hg] at h1; cases h1
    | some x =>
      rw [hg] at h1
      simp only [Option.map_some, Option.some.injEq, Prod.mk.injEq] at h1
      obtain ⟨x1, x2⟩ := x
      simp only at h1 ⊢
      rw [h1.1, h1.2]
  unfold stepText
  rw [e]
  simp only []
  rw [if_neg (by omega)]
  exact take_app a r _ rfl
theorem rdNum_sign (z : Int) (r : List UInt8) (h : -2147483647 ≤ z ∧ z ≤ 2147483647) : rdNum true (some (signL z ++ r)) = (some r, z) := by
  have e : (fixL 4 z.natAbs).length = 4 := fixL_length 4 _
  have e2 := take_app (fixL 4 z.natAbs) r 4 (by rw [e]; rfl)
  have e3 : unfixL (fixL 4 z.natAbs) = z.natAbs := unfix_fix 4 _ (by omega)
  have key : ∀ b : UInt8, b = (if z < 0 then 1 else 0) → numI b.toNat (fixL 4 z.natAbs) = z := by
    intro b hb
    subst hb
    unfold numI
    rw [e3]
    by_cases hz : z < 0
    · rw [if_pos hz, if_pos (by rfl), if_neg (by omega)]
      omega
    · rw [if_neg hz, if_neg (by decide), if_neg (by omega)]
      omega
  have h1 := byte_cons (if z < 0 then 1 else 0) (fixL 4 z.natAbs ++ r)
  unfold rdNum signL
  rw [if_pos rfl]
  simp only [List.cons_append]
  rw [h1]
  simp only []
  rw [e2]
  simp only []
  rw [key _ rfl]
theorem rdAt_at (k : Int) (a r : List UInt8) (hk : hasAt k = false → a = []) (hl : a ≠ [] → a.length = 32) (hd : k = 6 → a ≠ []) : rdAt k (some (atL k a ++ r)) = (some r, a) := by
  unfold rdAt atL
  by_cases h5 : k = 5
  · rw [if_pos h5, if_pos h5]
    unfold rdAt5
    simp only [List.cons_append]
    rw [byte_cons]
    by_cases ha : a = []
    · subst ha
      rfl
    · rw [if_neg ha, if_pos (by rfl)]
      exact take_app a r 32 (by rw [hl ha]; rfl)
  · rw [if_neg h5, if_neg h5]
    by_cases h6 : k = 6
    · rw [if_pos h6]
      exact take_app a r 32 (by rw [hl (hd h6)]; rfl)
    · rw [if_neg h6, hk (by simp [hasAt]; omega)]
      rfl
theorem read_bytes {o : Opn} (h : o.May) (r : List UInt8) : readO (some (o.bytes ++ r)) = (some r, o) := by
  obtain ⟨k, nm, tx, z, a⟩ := o
  have hk := kind_nat h.kind
  have hn := h.name
  have ht := h.text
  have hz := h.n
  simp only at hk hn ht hz
  unfold Opn.bytes readO
  simp only [List.cons_append, List.append_assoc]
  rw [byte_cons]
  simp only []
  rw [hk]
  have e1 : rdText (hasName k) (some ((if hasName k = true then textL nm else []) ++ ((if hasText k = true then textL tx else []) ++ ((if hasN k = true then signL z else []) ++ (atL k a ++ r))))) = (some ((if hasText k = true then textL tx else []) ++ ((if hasN k = true then signL z else []) ++ (atL k a ++ r))), nm) := by
    unfold rdText
    by_cases hk : hasName k = true
    · rw [if_pos hk] at hn
      rw [if_pos hk, if_pos hk, text_app _ _ (by have := (nameOk_iff.1 hn).1; omega)]
    · rw [if_neg hk] at hn
      rw [if_neg hk, if_neg hk, hn]
      rfl
  have e2 : rdText (hasText k) (some ((if hasText k = true then textL tx else []) ++ ((if hasN k = true then signL z else []) ++ (atL k a ++ r)))) = (some ((if hasN k = true then signL z else []) ++ (atL k a ++ r)), tx) := by
    unfold rdText
    by_cases hk : hasText k = true
    · rw [if_pos hk, if_pos hk, text_app _ _ (by omega)]
    · rw [if_neg hk, if_neg hk, ht.2 (by simpa using hk)]
      rfl
  have e3 : rdNum (hasN k) (some ((if hasN k = true then signL z else []) ++ (atL k a ++ r))) = (some (atL k a ++ r), z) := by
    by_cases hk : hasN k = true
    · rw [if_pos hk, hk, rdNum_sign _ _ hz.2]
    · rw [if_neg hk, hz.1 (by simpa using hk)]
      unfold rdNum
      rw [if_neg hk]
      rfl
  rw [e1]
  simp only []
  rw [e2]
  simp only []
  rw [e3]
  simp only []
  rw [rdAt_at _ _ _ h.at_.1 h.at_.2 h.del]
theorem read_begins {b : List UInt8} {o : Opn} {k : Nat} (h : Begins b o k) : readO (some b) = (some (b.drop k), o) := by
  have e : b = o.bytes ++ b.drop k := by rw [← h.2.2, List.take_append_drop]
  have := read_bytes h.1 (b.drop k)
  rwa [← e] at this
theorem stepTake_len (n : Int) (st : St) : ((stepTake n st).2.length : Int) ≤ max n 0 := by
  rcases st with _ | L
  · simp [stepTake]; omega
  · show (((if _ then _ else _ : St × List UInt8).2.length : Nat) : Int) ≤ _
    split
    · simp; omega
    · simp only [List.length_take]; omega
theorem stepText_len (st : St) : (stepText st).2.length ≤ 262144 := by
  unfold stepText
  split
  · simp
  · have := stepTake_len (stepNum st).2 (stepNum st).1
    omega
theorem rdText_len (h : Bool) (st : St) : (rdText h st).2.length ≤ 262144 := by
  unfold rdText
  split
  · exact stepText_len st
  · simp
theorem rdAt_len (k : Int) (st : St) : (rdAt k st).2.length ≤ 32 := by
  unfold rdAt rdAt5
  have h1 := stepTake_len 32 (stepByte st).1
  have h2 := stepTake_len 32 st
  (repeat' split) <;> (try simp only [List.length_nil]) <;> omega
theorem readO_len (st : St) : (readO st).2.name.length ≤ 262144 ∧ (readO st).2.text.length ≤ 262144 ∧ (readO st).2.at_.length ≤ 32 := by
  unfold readO
  exact ⟨rdText_len _ _, rdText_len _ _, rdAt_len _ _⟩
theorem signL_length (z : Int) : (signL z).length = 5 := by
  have e : (fixL 4 z.natAbs).length = 4 := fixL_length 4 _
  simp [signL, e]
theorem textL_length {l : List UInt8} (h : l.length < 128) : (textL l).length = l.length + 1 := by
  unfold textL
  rw [putL_small _ h]
  simp
theorem bytes_len {o : Opn} (h : o.May) : o.bytes.length ≤ 96 := by
  obtain ⟨k, nm, tx, z, a⟩ := o
  have hn := h.name
  have ht := h.text
  have ha := h.at_
  have hk := h.kind
  simp only at hn ht ha hk
  have l3 := signL_length z
  have l4 : a.length ≤ 32 := by
    by_cases e : a = []
    · rw [e]; simp
    · rw [ha.2 e]; omega
  have l2 := textL_length (l := tx) (by omega)
  have l1 : (if hasName k = true then textL nm else []).length ≤ 13 := by
    by_cases e : hasName k = true
    · rw [if_pos e] at hn ⊢
      have hn2 := (nameOk_iff.1 hn).1
      have l1 := textL_length (l := nm) (by omega)
      omega
    · rw [if_neg e]
      simp
  have l5 : (atL k a).length ≤ 33 := by
    unfold atL
    split
    · simp only [List.length_cons]; omega
    · omega
  obtain ⟨q1, hq1⟩ : ∃ q, q = (if hasName k = true then textL nm else []) := ⟨_, rfl⟩
  obtain ⟨q2, hq2⟩ : ∃ q, q = atL k a := ⟨_, rfl⟩
  unfold Opn.bytes
  simp only []
  rw [← hq1, ← hq2]
  rw [← hq1] at l1
  rw [← hq2] at l5
  have ht1 := ht.1
  simp only [List.length_cons, List.length_append]
  by_cases c1 : hasN k = true
  · have c2 : hasText k = false := by
      simp only [hasN, decide_eq_true_eq] at c1
      subst c1
      rfl
    rw [if_pos c1, c2]
    simp only [Bool.false_eq_true, if_false, List.length_nil]
    omega
  · rw [if_neg c1]
    split <;> simp only [List.length_nil] <;> omega
def GetsO (b : List UInt8) (r : Option (Opn × Nat)) : Prop :=
  match r with
  | some (o, k) => Begins b o k
  | none => ∀ o k, ¬ Begins b o k
theorem GetsO.one {b : List UInt8} {r s : Option (Opn × Nat)} (h : GetsO b r) (h' : GetsO b s) : r = s := by
  rcases r with _ | ⟨o, k⟩ <;> rcases s with _ | ⟨p, m⟩
  · rfl
  · exact absurd h' (h _ _)
  · exact absurd h (h' _ _)
  · obtain ⟨e1, e2⟩ := Begins.one h h'
    rw [e1, e2]
theorem Begins.take {b : List UInt8} {o : Opn} {k n : Nat} (h : Begins b o k) (hn : k ≤ n) : Begins (b.take n) o k := by
  refine ⟨h.1, ?_, ?_⟩
  · rw [List.length_take]; have := h.2.1; omega
  · rw [List.take_take, Nat.min_eq_left hn]; exact h.2.2
theorem Begins.le {b : List UInt8} {o : Opn} {k : Nat} (h : Begins b o k) : k ≤ 96 := by
  rw [h.size]; exact bytes_len h.1
end
section
open Go.RowKit
theorem refText_yes (L : List UInt8) (A : Option Addr) (c B : Nat) (w : World) (hr : RB w w.heap.size A L) (hl : L.length ≤ 262144) :
    Calls Tryd.prog 50 #[.slice A L.length c] w (GivesBytes (putL L.length ++ L) w) := by
  obtain ⟨i0, hi0, hz0, hz1, hz2⟩ := info_parts Tryd.info5
  have hp5 := putL_len5 L.length (by omega)
  go_enter Tryd.func50, Tryd.ntmps50
  go_wp2_with (first
    | (go_at_call 74; refine (refPut_yes L.length _ (by omega)).mono ?_; rintro e w1 ⟨A1, c1, rfl, hown1, hb1⟩)
    | (at_builtin; refine wpList_append_any _ rfl (.tmp 15) (.tmp 16) _ rfl w.heap.size 5 i0 _ 1 1 Tryd.underlying29 hi0 hz0 hz1 hz2 rfl (by omega) _ (putL L.length).length (cells (putL L.length)) rfl hown1 w.heap.size A L.length c (cells L) rfl (hr.below hb1) (cells_one _) (by simp only [maxLen]; omega) (by omega) hb1.size ?_; intro v2 w2 hown2 hg2 hat2))
  have hb2 : Below w.heap.size w w2 := hb1.grown hg2 hb1.size (fun k hk => (World.ownsRow.lt hown1 k hk).1)
  rw [← cells_append, ← List.length_append] at hown2
  obtain ⟨A2, c2, hv⟩ := own_form hown2
  go_ret2
  exact ⟨A2, c2, by rw [hv]; rfl, by rw [hv] at hown2; exact hown2, hb2⟩
end
end Go.Proofs.YtinphkflfdpaeaaDoor
