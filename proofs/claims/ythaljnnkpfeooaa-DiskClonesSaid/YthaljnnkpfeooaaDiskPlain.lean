/- Plain mathematics of a disk that may lose its power (layer 6). Nothing of the program. -/
import Derived.Test.YthaljnnkpfeooaaPlain
set_option linter.unusedVariables false
namespace Go.Proofs.Ythaljnnkpfeooaa

/-- A disk: what is safe, what waits, how many deeds there are until the power goes, whether it is off, and the counts. -/
structure Dk where
  safe : List (List UInt8)
  waits : List (Nat × List UInt8)
  left : Int
  off : Bool
  reads : Nat
  writes : Nat
  flushes : Nat
deriving DecidableEq

namespace Dk
/-- The last of the writes of a block, if there is one. -/
def lastOf (n : Nat) : List (Nat × List UInt8) → Option (List UInt8)
  | [] => none
  | x :: l => match lastOf n l with
    | some b => some b
    | none => if x.1 = n then some x.2 else none
/-- A block's bytes, as they were written last. -/
def now (d : Dk) (n : Nat) : List UInt8 := (lastOf n d.waits).getD (d.safe.getD n [])
def there (d : Dk) (i : Int) : Bool := decide (0 ≤ i ∧ i < d.safe.length)
def blank (n : Nat) : Dk := ⟨List.replicate n (List.replicate 256 0), [], -1, false, 0, 0, 0⟩
def read (d : Dk) (i : Int) : Dk × List UInt8 × Int :=
  if d.off then (d, [], 9) else if !d.there i then (d, [], 10) else ({ d with reads := d.reads + 1 }, d.now i.toNat, 0)
/-- One more deed: does the power stay? -/
def deed (d : Dk) : Dk × Bool :=
  if d.left = 0 then ({ d with off := true }, false) else if 0 < d.left then ({ d with left := d.left - 1 }, true) else (d, true)
def write (d : Dk) (i : Int) (b : List UInt8) : Dk × Int :=
  if d.off then (d, 9) else if !d.there i then (d, 10) else if b.length ≠ 256 then (d, 11)
  else match deed { d with waits := d.waits ++ [(i.toNat, b)] } with
    | (e, false) => (e, 9)
    | (e, true) => ({ e with writes := e.writes + 1 }, 0)
/-- All that waits, made safe. -/
def laid (safe : List (List UInt8)) : List (Nat × List UInt8) → List (List UInt8)
  | [] => safe
  | x :: l => laid (safe.set x.1 x.2) l
def flush (d : Dk) : Dk × Int :=
  if d.off then (d, 9) else match deed d with
    | (e, false) => (e, 9)
    | (e, true) => ({ e with safe := laid e.safe e.waits, waits := [], flushes := e.flushes + 1 }, 0)
def stop (d : Dk) (i : Int) : Dk × Int := if i < 0 then (d, 1) else ({ d with left := i }, 0)
def bitOf (m : Int) (k : Nat) : Bool := decide (m / 2 ^ k % 2 = 1)
/-- A sector of a block. -/
def sector (b : List UInt8) (k : Nat) : List UInt8 := (b.drop (64 * k)).take 64
/-- A block, of which some sectors are others. -/
def torn (was b : List UInt8) (m : Int) : List UInt8 := (List.range 4).flatMap fun k => sector (if bitOf m k then b else was) k
def crashed (masks : List Int) (safe : List (List UInt8)) : List (Nat × List UInt8) → Nat → List (List UInt8)
  | [], _ => safe
  | x :: l, i => if i < masks.length then crashed masks (safe.set x.1 (torn (safe.getD x.1 []) x.2 (masks.getD i 0))) l (i + 1) else crashed masks safe l (i + 1)
def crash (d : Dk) (masks : List Int) : Dk := { d with safe := crashed masks d.safe d.waits 0, waits := [], off := false, left := -1 }
def image (d : Dk) : List UInt8 := (List.range d.safe.length).flatMap d.now
def sure (d : Dk) : List UInt8 := d.safe.flatten
/-- All blocks have their size, and what waits waits for a block that is there. -/
def fit (d : Dk) : Prop := (∀ b ∈ d.safe, b.length = 256) ∧ ∀ x ∈ d.waits, x.1 < d.safe.length ∧ x.2.length = 256

theorem lastOf_append (n : Nat) (l : List (Nat × List UInt8)) (x : Nat × List UInt8) : lastOf n (l ++ [x]) = if x.1 = n then some x.2 else lastOf n l := by
  induction l with
  | nil => simp [lastOf]
  | cons y l ih =>
    rw [List.cons_append, lastOf, ih, lastOf]
    by_cases h : x.1 = n
    · simp [h]
    · simp [h]
theorem laid_length (l : List (Nat × List UInt8)) : ∀ safe : List (List UInt8), (laid safe l).length = safe.length := by
  induction l with
  | nil => intro safe; rfl
  | cons x l ih => intro safe; rw [laid, ih]; simp
theorem crashed_length (masks : List Int) (l : List (Nat × List UInt8)) : ∀ (safe : List (List UInt8)) (i : Nat), (crashed masks safe l i).length = safe.length := by
  induction l with
  | nil => intro safe i; rfl
  | cons x l ih =>
    intro safe i
    rw [crashed]
    split
    · rw [ih]; simp
    · rw [ih]
/-- Behind a flush a block is as it was written last. -/
theorem laid_get (n : Nat) (l : List (Nat × List UInt8)) : ∀ safe : List (List UInt8), n < safe.length → (laid safe l).getD n [] = (lastOf n l).getD (safe.getD n []) := by
  induction l with
  | nil => intro safe _; rfl
  | cons x l ih =>
    intro safe hn
    rw [laid, ih _ (by simpa using hn), lastOf]
    cases lastOf n l with
    | some b => rfl
    | none =>
      by_cases h : x.1 = n
      · rw [if_pos h, h]; simp [List.getD, List.getElem?_set_self hn]
      · rw [if_neg h]; simp [List.getD, List.getElem?_set_ne h]
/-- A block that no write waits for is behind a crash as it was safe. -/
theorem crashed_other (masks : List Int) (n : Nat) (l : List (Nat × List UInt8)) : ∀ (safe : List (List UInt8)) (i : Nat), (∀ x ∈ l, x.1 ≠ n) → (crashed masks safe l i).getD n [] = safe.getD n [] := by
  induction l with
  | nil => intro safe i _; rfl
  | cons x l ih =>
    intro safe i h
    have hx : x.1 ≠ n := h x (List.mem_cons_self ..)
    rw [crashed]
    split
    · rw [ih _ _ (fun y hy => h y (List.mem_cons_of_mem _ hy))]; simp [List.getD, List.getElem?_set_ne hx]
    · exact ih _ _ (fun y hy => h y (List.mem_cons_of_mem _ hy))
theorem torn_length (was b : List UInt8) (m : Int) (h1 : was.length = 256) (h2 : b.length = 256) : (torn was b m).length = 256 := by
  unfold torn
  have e : ∀ k, k < 4 → (sector (if bitOf m k then b else was) k).length = 64 := fun k hk => by
    unfold sector
    split <;> simp <;> omega
  simp only [List.range, List.range.loop, List.flatMap_cons, List.flatMap_nil, List.length_append, List.length_nil]
  rw [e 0 (by omega), e 1 (by omega), e 2 (by omega), e 3 (by omega)]
theorem torn_sector (was b : List UInt8) (m : Int) (k : Nat) (hk : k < 4) (h1 : was.length = 256) (h2 : b.length = 256) : sector (torn was b m) k = sector (if bitOf m k then b else was) k := by
  have e : ∀ j, j < 4 → (sector (if bitOf m j then b else was) j).length = 64 := fun j hj => by
    unfold sector
    split <;> simp <;> omega
  have dr : ∀ (a r : List UInt8) (j : Nat), a.length = 64 → (a ++ r).drop (64 + j) = r.drop j := fun a r j h => by
    rw [List.drop_append, List.drop_eq_nil_of_le (by omega), List.nil_append]
    congr 1; omega
  have ht : torn was b m = sector (if bitOf m 0 then b else was) 0 ++ (sector (if bitOf m 1 then b else was) 1 ++ (sector (if bitOf m 2 then b else was) 2 ++ (sector (if bitOf m 3 then b else was) 3 ++ []))) := by
    unfold torn; simp [List.range, List.range.loop]
  have e0 := e 0 (by omega); have e1 := e 1 (by omega); have e2 := e 2 (by omega); have e3 := e 3 (by omega)
  rw [ht]
  have go : ∀ (t : List UInt8) (j : Nat), sector t j = (t.drop (64 * j)).take 64 := fun _ _ => rfl
  match k, hk with
  | 0, _ => rw [go _ 0]; exact List.take_left' e0
  | 1, _ => rw [go _ 1, show 64 * 1 = 64 + 0 from rfl, dr _ _ _ e0]; exact List.take_left' e1
  | 2, _ => rw [go _ 2, show 64 * 2 = 64 + (64 + 0) from rfl, dr _ _ _ e0, dr _ _ _ e1]; exact List.take_left' e2
  | 3, _ => rw [go _ 3, show 64 * 3 = 64 + (64 + (64 + 0)) from rfl, dr _ _ _ e0, dr _ _ _ e1, dr _ _ _ e2]; exact List.take_left' e3

/-- What the last write says of a sector whose mask names it. -/
def want (masks : List Int) (k : Nat) : List (List UInt8) → Nat → List UInt8 → List UInt8
  | [], _, cur => cur
  | b :: l, i, cur => want masks k l (i + 1) (if i < masks.length ∧ bitOf (masks.getD i 0) k = true then b else cur)
/-- Behind a crash a sector is as the last write said it whose mask names it, or as it was safe. -/
theorem tears (masks : List Int) (n k : Nat) (hk : k < 4) : ∀ (l : List (List UInt8)) (safe : List (List UInt8)) (i : Nat), (∀ b ∈ l, b.length = 256) → n < safe.length → (safe.getD n []).length = 256 →
    sector ((crashed masks safe (l.map fun b => (n, b)) i).getD n []) k = sector (want masks k l i (safe.getD n [])) k ∧ ((crashed masks safe (l.map fun b => (n, b)) i).getD n []).length = 256 := by
  intro l
  induction l with
  | nil => intro safe i _ _ h; exact ⟨rfl, h⟩
  | cons b l ih =>
    intro safe i hb hn hs
    have hb0 : b.length = 256 := hb b (List.mem_cons_self ..)
    have hbl : ∀ x ∈ l, x.length = 256 := fun x hx => hb x (List.mem_cons_of_mem _ hx)
    rw [List.map_cons, crashed, want]
    by_cases hi : i < masks.length
    · rw [if_pos hi]
      have hg : (safe.set n (torn (safe.getD n []) b (masks.getD i 0))).getD n [] = torn (safe.getD n []) b (masks.getD i 0) := by simp [List.getD, List.getElem?_set_self hn]
      have ht := torn_length (safe.getD n []) b (masks.getD i 0) hs hb0
      have h := ih (safe.set n (torn (safe.getD n []) b (masks.getD i 0))) (i + 1) hbl (by simpa using hn) (by rw [hg]; exact ht)
      refine ⟨?_, h.2⟩
      rw [h.1, hg]
      have hw : ∀ (l : List (List UInt8)) (j : Nat) (a c : List UInt8), sector a k = sector c k → sector (want masks k l j a) k = sector (want masks k l j c) k := by
        intro l
        induction l with
        | nil => intro j a c h; exact h
        | cons x l ih2 =>
          intro j a c h
          rw [want, want]
          refine ih2 _ _ _ ?_
          split
          · rfl
          · exact h
      refine hw l _ _ _ ?_
      rw [torn_sector _ _ _ _ hk hs hb0]
      by_cases hm : bitOf (masks.getD i 0) k = true
      · rw [if_pos hm, if_pos ⟨hi, hm⟩]
      · rw [if_neg hm, if_neg (fun h => hm h.2)]
    · rw [if_neg hi, if_neg (fun h => hi h.1)]
      exact ih safe (i + 1) hbl hn hs
/-- A deed: 1 read, 2 write, 3 flush, 4 stop, 5 crash, others nothing. -/
def step (d : Dk) (kind i : Int) (b : List UInt8) (masks : List Int) : Dk :=
  if kind = 1 then (d.read i).1 else if kind = 2 then (d.write i b).1 else if kind = 3 then d.flush.1 else if kind = 4 then (d.stop i).1 else if kind = 5 then d.crash masks else d
/-- A block is safe as 'b' says, and no write waits for it. -/
def calm (n : Nat) (b : List UInt8) (d : Dk) : Prop := n < d.safe.length ∧ d.safe.getD n [] = b ∧ ∀ x ∈ d.waits, x.1 ≠ n
theorem lastOf_none (n : Nat) : ∀ l : List (Nat × List UInt8), (∀ x ∈ l, x.1 ≠ n) → lastOf n l = none
  | [], _ => rfl
  | x :: l, h => by rw [lastOf, lastOf_none n l (fun y hy => h y (List.mem_cons_of_mem _ hy)), if_neg (h x (List.mem_cons_self ..))]
theorem calm_now {n : Nat} {b : List UInt8} {d : Dk} (h : calm n b d) : d.now n = b := by
  unfold now; rw [lastOf_none n _ h.2.2]; exact h.2.1
theorem calm_flush {n : Nat} {d : Dk} (hn : n < d.safe.length) (h : d.flush.2 = 0) : calm n (d.now n) d.flush.1 := by
  unfold flush at h ⊢
  cases ho : d.off with
  | true => rw [ho] at h; simp at h
  | false =>
    rw [ho] at h
    simp only [Bool.false_eq_true, if_false] at h ⊢
    unfold deed at h ⊢
    split at h
    · rename_i e
      split at e
      · simp at h
      · split at e <;> simp at e
    · rename_i e
      split at e
      · simp at e
      · split at e
        · obtain ⟨rfl, _⟩ := Prod.mk.injEq .. ▸ e
          refine ⟨by simpa [laid_length] using hn, ?_, by simp⟩
          simp only [now]
          exact laid_get n d.waits d.safe hn
        · obtain ⟨rfl, _⟩ := Prod.mk.injEq .. ▸ e
          refine ⟨by simpa [laid_length] using hn, ?_, by simp⟩
          simp only [now]
          exact laid_get n d.waits d.safe hn
theorem laid_other (n : Nat) (l : List (Nat × List UInt8)) (safe : List (List UInt8)) (hn : n < safe.length) (h : ∀ x ∈ l, x.1 ≠ n) : (laid safe l).getD n [] = safe.getD n [] := by
  rw [laid_get n l safe hn, lastOf_none n l h]; rfl
theorem deed_same (d : Dk) : (deed d).1.safe = d.safe ∧ (deed d).1.waits = d.waits := by
  unfold deed
  split
  · exact ⟨rfl, rfl⟩
  · split <;> exact ⟨rfl, rfl⟩
/-- What is safe of a block, and is not written, stays, whatever is done. -/
theorem calm_step {n : Nat} {b : List UInt8} {d : Dk} (h : calm n b d) (kind i : Int) (c : List UInt8) (masks : List Int) (hne : ¬ (kind = 2 ∧ i = (n : Int))) : calm n b (step d kind i c masks) := by
  unfold step
  split
  · unfold read; split
    · exact h
    · split <;> exact h
  · split
    · rename_i h2
      have hin : ¬ i = (n : Int) := fun e => hne ⟨h2, e⟩
      unfold write
      split
      · exact h
      · split
        · exact h
        · rename_i ht
          split
          · exact h
          · have hi : i.toNat ≠ n := by
              have : d.there i = true := by simpa using ht
              unfold there at this
              rw [decide_eq_true_eq] at this
              omega
            have hd := deed_same { d with waits := d.waits ++ [(i.toNat, c)] }
            have hc : calm n b { d with waits := d.waits ++ [(i.toNat, c)] } := ⟨h.1, h.2.1, fun x hx => by
              rcases List.mem_append.1 hx with h3 | h3
              · exact h.2.2 x h3
              · rw [List.mem_singleton] at h3; subst h3; exact hi⟩
            cases hq : deed { d with waits := d.waits ++ [(i.toNat, c)] } with
            | mk e q =>
              rw [hq] at hd
              have he : calm n b e := ⟨by rw [hd.1]; exact hc.1, by rw [hd.1]; exact hc.2.1, by rw [hd.2]; exact hc.2.2⟩
              cases q <;> exact he
    · split
      · unfold flush
        split
        · exact h
        · have hd := deed_same d
          cases hq : deed d with
          | mk e q =>
            rw [hq] at hd
            cases q with
            | false => exact ⟨by rw [hd.1]; exact h.1, by rw [hd.1]; exact h.2.1, by rw [hd.2]; exact h.2.2⟩
            | true =>
              simp only at hd
              refine ⟨by simp only [laid_length, hd.1]; exact h.1, ?_, by simp⟩
              simp only [hd.1, hd.2]
              rw [laid_other n _ _ h.1 h.2.2]; exact h.2.1
      · split
        · unfold stop
          split <;> exact h
        · split
          · refine ⟨by simp only [crash, crashed_length]; exact h.1, ?_, by simp [crash]⟩
            simp only [crash]
            rw [crashed_other masks n _ _ _ h.2.2]; exact h.2.1
          · exact h
/-- Behind a crash a block that was calm reads as it was safe. -/
theorem calm_crash {n : Nat} {b : List UInt8} {d : Dk} (h : calm n b d) (masks : List Int) : (d.crash masks).off = false ∧ (d.crash masks).waits = [] ∧ ((d.crash masks).read (n : Int)).2 = (b, 0) := by
  have hc : calm n b (d.crash masks) := by
    have := calm_step h 5 0 [] masks (by omega)
    simpa [step] using this
  refine ⟨rfl, rfl, ?_⟩
  unfold read
  rw [show (d.crash masks).off = false from rfl]
  have ht : (d.crash masks).there (n : Int) = true := by
    unfold there; rw [decide_eq_true_eq]; have := hc.1; omega
  rw [ht]
  simp only [Bool.false_eq_true, Bool.not_true, if_false, Int.toNat_natCast]
  rw [calm_now hc]
theorem lastOf_mem (n : Nat) : ∀ (l : List (Nat × List UInt8)) (b : List UInt8), lastOf n l = some b → (n, b) ∈ l
  | [], b, h => by cases h
  | x :: l, b, h => by
    rw [lastOf] at h
    cases hl : lastOf n l with
    | some c =>
      rw [hl] at h
      simp only [Option.some.injEq] at h
      subst h
      exact List.mem_cons_of_mem _ (lastOf_mem n l c hl)
    | none =>
      rw [hl] at h
      simp only at h
      split at h
      · rename_i hx
        simp only [Option.some.injEq] at h
        subst h hx
        exact List.mem_cons_self ..
      · cases h
theorem fit_now {d : Dk} (h : fit d) {n : Nat} (hn : n < d.safe.length) : (d.now n).length = 256 := by
  unfold now
  cases hl : lastOf n d.waits with
  | some b => exact (h.2 _ (lastOf_mem n _ b hl)).2
  | none =>
    simp only [Option.getD_none, List.getD, List.getElem?_eq_getElem hn, Option.getD_some]
    exact h.1 _ (List.getElem_mem hn)
theorem laid_fit (l : List (Nat × List UInt8)) : ∀ safe : List (List UInt8), (∀ b ∈ safe, b.length = 256) → (∀ x ∈ l, x.2.length = 256) → ∀ b ∈ laid safe l, b.length = 256 := by
  induction l with
  | nil => intro safe h _; exact h
  | cons x l ih =>
    intro safe h hx
    rw [laid]
    refine ih _ (fun b hb => ?_) (fun y hy => hx y (List.mem_cons_of_mem _ hy))
    rcases List.mem_or_eq_of_mem_set hb with h1 | h1
    · exact h b h1
    · rw [h1]; exact hx x (List.mem_cons_self ..)
theorem crashed_fit (masks : List Int) (l : List (Nat × List UInt8)) : ∀ (safe : List (List UInt8)) (i : Nat), (∀ b ∈ safe, b.length = 256) → (∀ x ∈ l, x.1 < safe.length ∧ x.2.length = 256) → ∀ b ∈ crashed masks safe l i, b.length = 256 := by
  induction l with
  | nil => intro safe i h _; exact h
  | cons x l ih =>
    intro safe i h hx
    rw [crashed]
    split
    · refine ih _ _ (fun b hb => ?_) (fun y hy => by rw [List.length_set]; exact hx y (List.mem_cons_of_mem _ hy))
      rcases List.mem_or_eq_of_mem_set hb with h1 | h1
      · exact h b h1
      · have h0 := hx x (List.mem_cons_self ..)
        rw [h1]
        refine torn_length _ _ _ ?_ h0.2
        rw [List.getD, List.getElem?_eq_getElem h0.1]
        exact h _ (List.getElem_mem h0.1)
    · exact ih _ _ h (fun y hy => hx y (List.mem_cons_of_mem _ hy))
theorem fit_step {d : Dk} (h : fit d) (kind i : Int) (c : List UInt8) (masks : List Int) : fit (step d kind i c masks) ∧ (step d kind i c masks).safe.length = d.safe.length := by
  unfold step
  split
  · unfold read; split
    · exact ⟨h, rfl⟩
    · split <;> exact ⟨h, rfl⟩
  · split
    · unfold write
      split
      · exact ⟨h, rfl⟩
      · split
        · exact ⟨h, rfl⟩
        · rename_i ht
          split
          · exact ⟨h, rfl⟩
          · rename_i hc
            have hi : i.toNat < d.safe.length := by
              have : d.there i = true := by simpa using ht
              unfold there at this
              rw [decide_eq_true_eq] at this
              omega
            have hd := deed_same { d with waits := d.waits ++ [(i.toNat, c)] }
            cases hq : deed { d with waits := d.waits ++ [(i.toNat, c)] } with
            | mk e q =>
              rw [hq] at hd
              have hE : fit e ∧ e.safe.length = d.safe.length := by
                refine ⟨⟨by rw [hd.1]; exact h.1, fun x hx => ?_⟩, by rw [hd.1]⟩
                rw [hd.2] at hx
                rw [hd.1]
                rcases List.mem_append.1 hx with h3 | h3
                · exact h.2 x h3
                · rw [List.mem_singleton] at h3; subst h3; exact ⟨hi, Classical.byContradiction hc⟩
              cases q <;> exact hE
    · split
      · unfold flush
        split
        · exact ⟨h, rfl⟩
        · have hd := deed_same d
          cases hq : deed d with
          | mk e q =>
            rw [hq] at hd
            cases q with
            | false => exact ⟨⟨by rw [hd.1]; exact h.1, by rw [hd.1, hd.2]; exact h.2⟩, by rw [hd.1]⟩
            | true =>
              have hs : e.safe = d.safe := hd.1
              have hw : e.waits = d.waits := hd.2
              refine ⟨⟨?_, fun x hx => by cases hx⟩, by simp only [laid_length, hs]⟩
              exact laid_fit _ _ (by rw [hs]; exact h.1) fun x hx => (h.2 x (by rw [← hw]; exact hx)).2
      · split
        · unfold stop
          split <;> exact ⟨h, rfl⟩
        · split
          · refine ⟨⟨?_, by simp [crash]⟩, by simp only [crash, crashed_length]⟩
            simp only [crash]
            exact crashed_fit masks _ _ _ h.1 h.2
          · exact ⟨h, rfl⟩
theorem fit_blank (n : Nat) : fit (blank n) := ⟨fun b hb => by rw [List.eq_of_mem_replicate hb]; exact List.length_replicate .., fun x hx => by cases hx⟩

end Dk
end Go.Proofs.Ythaljnnkpfeooaa
