/- Lemmas under the proofs of this place: Num, OpPlain, Strs. No statement is proved here. -/
import Derived.Test.YtpcopmpmcjkamaaDoorBu04
import Derived.Test.YtpcopmpmcjkamaaDoorBu02
import Derived.Test.YtpcopmpmcjkamaaDoorBu03
import Derived.Deep.QuietTactic
import Derived.BigQuiet
import Derived.IntWalk
set_option linter.unusedSimpArgs false
set_option linter.unusedVariables false
namespace Go.Proofs.YtpcopmpmcjkamaaDoor
section
open Go.RowKit
theorem isNumber_yes (n : Int) (w : World) (h0 : 0 ≤ n) (h1 : n ≤ 2147483647) : Calls Tryd.prog 58 #[.int .i64 n] w fun e w' => e = .returned (.bool true) ∧ w = w' := by
  go_enter Tryd.func58, Tryd.ntmps58
  go_wp2
  go_ret
  exact ⟨rfl, rfl⟩
end
section
structure Opn where
  kind : Int
  name : List UInt8
  text : List UInt8
  n : Int
  at_ : List UInt8
deriving DecidableEq
instance : Inhabited Opn := ⟨⟨0, [], [], 0, []⟩⟩
def Opn.zero : Opn := ⟨0, [], [], 0, []⟩
def nameB (c : UInt8) : Bool := (decide (97 ≤ c.toNat) && decide (c.toNat ≤ 122)) || (decide (48 ≤ c.toNat) && decide (c.toNat ≤ 57)) || decide (c.toNat = 45)
def nameOk (l : List UInt8) : Bool := decide (1 ≤ l.length) && decide (l.length ≤ 12) && l.all nameB
def hasName (k : Int) : Bool := decide (1 ≤ k) && decide (k ≤ 6)
def hasText (k : Int) : Bool := decide (2 ≤ k) && decide (k ≤ 5)
def hasN (k : Int) : Bool := decide (k = 1)
def hasAt (k : Int) : Bool := decide (5 ≤ k) && decide (k ≤ 6)
def isKind (k : Int) : Bool := decide (1 ≤ k) && decide (k ≤ 7)
structure Opn.May (o : Opn) : Prop where
  kind : 1 ≤ o.kind ∧ o.kind ≤ 7
  name : if hasName o.kind = true then nameOk o.name = true else o.name = []
  text : o.text.length ≤ 48 ∧ (hasText o.kind = false → o.text = [])
  n : (hasN o.kind = false → o.n = 0) ∧ -2147483647 ≤ o.n ∧ o.n ≤ 2147483647
  at_ : (hasAt o.kind = false → o.at_ = []) ∧ (o.at_ ≠ [] → o.at_.length = 32)
  ins : o.kind = 5 → o.text ≠ []
  del : o.kind = 6 → o.at_ ≠ []
def textL (l : List UInt8) : List UInt8 := putL l.length ++ l
def signL (z : Int) : List UInt8 := (if z < 0 then 1 else 0) :: fixL 4 z.natAbs
def atL (k : Int) (l : List UInt8) : List UInt8 := if k = 5 then (if l = [] then 0 else 1) :: l else l
def Opn.bytes (o : Opn) : List UInt8 :=
  UInt8.ofNat o.kind.toNat :: ((if hasName o.kind = true then textL o.name else []) ++ ((if hasText o.kind = true then textL o.text else []) ++ ((if hasN o.kind = true then signL o.n else []) ++ atL o.kind o.at_)))
def takeK (k : Nat) (l : List UInt8) : Option (List UInt8 × List UInt8) := if k ≤ l.length then some (l.take k, l.drop k) else none
def nextT (l : List UInt8) : Option (List UInt8 × List UInt8) :=
  match nextN l with
  | none => none
  | some (n, r) => if n ≤ 262144 then takeK n r else none
def numOf (s : UInt8) (x : List UInt8) : Int := if s = 1 then -(if 2147483647 < unfixL x then 0 else (unfixL x : Int)) else (if 2147483647 < unfixL x then 0 else (unfixL x : Int))
def takeName (k : Int) (l : List UInt8) : Option (List UInt8 × List UInt8) := if hasName k = true then nextT l else some ([], l)
def takeText (k : Int) (l : List UInt8) : Option (List UInt8 × List UInt8) := if hasText k = true then nextT l else some ([], l)
def takeN (k : Int) (l : List UInt8) : Option (Int × List UInt8) :=
  if hasN k = true then match l with
    | [] => none
    | s :: r => (takeK 4 r).map fun x => (numOf s x.1, x.2)
  else some (0, l)
def takeAt (k : Int) (l : List UInt8) : Option (List UInt8 × List UInt8) :=
  if k = 5 then match l with
    | [] => none
    | s :: r => if s = 1 then takeK 32 r else some ([], r)
  else if k = 6 then takeK 32 l else some ([], l)
def tellsO (b : List UInt8) : Option (Opn × List UInt8) :=
  match b with
  | [] => none
  | k :: l => match takeName k.toNat l with
    | none => none
    | some (nm, l1) => match takeText k.toNat l1 with
      | none => none
      | some (tx, l2) => match takeN k.toNat l2 with
        | none => none
        | some (z, l3) => match takeAt k.toNat l3 with
          | none => none
          | some (a, l4) => some (⟨k.toNat, nm, tx, z, a⟩, l4)
theorem takeK_append (a r : List UInt8) : takeK a.length (a ++ r) = some (a, r) := by simp [takeK]
theorem nextT_text (a r : List UInt8) (h : a.length ≤ 262144) : nextT (textL a ++ r) = some (a, r) := by
  unfold nextT textL
  rw [List.append_assoc, nextN_put _ _ (by omega)]
  simp only []
  rw [if_pos h, takeK_append]
theorem nameOk_iff {l : List UInt8} : nameOk l = true ↔ (1 ≤ l.length ∧ l.length ≤ 12) ∧ ∀ c ∈ l, nameB c = true := by simp [nameOk]
theorem takeN_sign (k z : Int) (r : List UInt8) (hk : hasN k = true) (h : -2147483647 ≤ z ∧ z ≤ 2147483647) : takeN k (signL z ++ r) = some (z, r) := by
  have e : (fixL 4 z.natAbs).length = 4 := fixL_length 4 _
  have e2 := takeK_append (fixL 4 z.natAbs) r
  rw [e] at e2
  have e3 : unfixL (fixL 4 z.natAbs) = z.natAbs := unfix_fix 4 _ (by omega)
  have key : numOf (if z < 0 then 1 else 0) (fixL 4 z.natAbs) = z := by
    unfold numOf
    rw [e3]
    by_cases hz : z < 0
    · rw [if_pos hz, if_pos rfl, if_neg (by omega)]
      omega
    · rw [if_neg hz, if_neg (by decide), if_neg (by omega)]
      omega
  unfold takeN signL
  rw [if_pos hk]
  simp only [List.cons_append]
  rw [e2, Option.map_some, key]
theorem takeAt_at (k : Int) (a r : List UInt8) (hk : hasAt k = false → a = []) (hl : a ≠ [] → a.length = 32) (hd : k = 6 → a ≠ []) : takeAt k (atL k a ++ r) = some (a, r) := by
  unfold takeAt atL
  by_cases h5 : k = 5
  · rw [if_pos h5, if_pos h5]
    simp only [List.cons_append]
    by_cases ha : a = []
    · subst ha
      simp
    · rw [if_neg ha, if_pos rfl]
      have := takeK_append a r
      rw [hl ha] at this
      exact this
  · rw [if_neg h5, if_neg h5]
    by_cases h6 : k = 6
    · rw [if_pos h6]
      have := takeK_append a r
      rw [hl (hd h6)] at this
      exact this
    · rw [if_neg h6, hk (by simp [hasAt]; omega)]
      rfl
theorem kind_nat {k : Int} (h : 1 ≤ k ∧ k ≤ 7) : (((UInt8.ofNat k.toNat).toNat : Nat) : Int) = k := by
  rw [ofNat_toNat _ (by omega)]
  omega
theorem tells_bytes {o : Opn} (h : o.May) (r : List UInt8) : tellsO (o.bytes ++ r) = some (o, r) := by
  unfold Opn.bytes
  simp only [List.cons_append, List.append_assoc, tellsO]
  rw [kind_nat h.kind]
  have e1 : takeName o.kind ((if hasName o.kind = true then textL o.name else []) ++ ((if hasText o.kind = true then textL o.text else []) ++ ((if hasN o.kind = true then signL o.n else []) ++ (atL o.kind o.at_ ++ r)))) = some (o.name, (if hasText o.kind = true then textL o.text else []) ++ ((if hasN o.kind = true then signL o.n else []) ++ (atL o.kind o.at_ ++ r))) := by
    have hn := h.name
    unfold takeName
    by_cases hk : hasName o.kind = true
    · rw [if_pos hk] at hn
      rw [if_pos hk, if_pos hk, nextT_text _ _ (by have := (nameOk_iff.1 hn).1; omega)]
    · rw [if_neg hk] at hn
      rw [if_neg hk, if_neg hk, hn]
      rfl
  rw [e1]
  simp only []
  have e2 : takeText o.kind ((if hasText o.kind = true then textL o.text else []) ++ ((if hasN o.kind = true then signL o.n else []) ++ (atL o.kind o.at_ ++ r))) = some (o.text, (if hasN o.kind = true then signL o.n else []) ++ (atL o.kind o.at_ ++ r)) := by
    unfold takeText
    by_cases hk : hasText o.kind = true
    · rw [if_pos hk, if_pos hk, nextT_text _ _ (by have := h.text.1; omega)]
    · rw [if_neg hk, if_neg hk, h.text.2 (by simpa using hk)]
      rfl
  rw [e2]
  simp only []
  have e3 : takeN o.kind ((if hasN o.kind = true then signL o.n else []) ++ (atL o.kind o.at_ ++ r)) = some (o.n, atL o.kind o.at_ ++ r) := by
    by_cases hk : hasN o.kind = true
    · rw [if_pos hk, takeN_sign _ _ _ hk h.n.2]
    · rw [if_neg hk, h.n.1 (by simpa using hk)]
      unfold takeN
      rw [if_neg hk]
      rfl
  rw [e3]
  simp only []
  rw [takeAt_at _ _ _ h.at_.1 h.at_.2 h.del]
theorem bytes_apart {o p : Opn} (ho : o.May) (hp : p.May) {x y : List UInt8} (h : o.bytes ++ x = p.bytes ++ y) : o = p ∧ x = y := by
  have h1 := tells_bytes ho x
  rw [h, tells_bytes hp y] at h1
  simp only [Option.some.injEq, Prod.mk.injEq] at h1
  exact ⟨h1.1.symm, h1.2.symm⟩
theorem bytes_inj {o p : Opn} (ho : o.May) (hp : p.May) (h : o.bytes = p.bytes) : o = p :=
  (bytes_apart ho hp (x := []) (y := []) (by rw [h])).1
def Begins (b : List UInt8) (o : Opn) (k : Nat) : Prop := o.May ∧ k ≤ b.length ∧ b.take k = o.bytes
theorem Begins.size {b : List UInt8} {o : Opn} {k : Nat} (h : Begins b o k) : k = o.bytes.length := by
  rw [← h.2.2, List.length_take]
  have := h.2.1
  omega
theorem Begins.one {b : List UInt8} {o p : Opn} {k m : Nat} (h : Begins b o k) (h' : Begins b p m) : o = p ∧ k = m := by
  have e : o.bytes ++ b.drop k = p.bytes ++ b.drop m := by rw [← h.2.2, ← h'.2.2, List.take_append_drop, List.take_append_drop]
  have h1 := (bytes_apart h.1 h'.1 e).1
  subst h1
  exact ⟨rfl, by rw [h.size, h'.size]⟩
theorem Begins.put {o : Opn} (h : o.May) (x : List UInt8) : Begins (o.bytes ++ x) o o.bytes.length := ⟨h, by simp, by simp⟩
def decL (n : Nat) : List UInt8 := if h : n < 10 then [UInt8.ofNat (48 + n)] else decL (n / 10) ++ [UInt8.ofNat (48 + n % 10)]
def valL (l : List UInt8) : Nat := l.foldl (fun a c => a * 10 + (c.toNat - 48)) 0
theorem val_dec (n : Nat) : valL (decL n) = n := by
  induction n using Nat.strongRecOn with
  | ind n ih =>
    rw [decL]
    split
    · unfold valL
      simp only [List.foldl_cons, List.foldl_nil]
      rw [ofNat_toNat _ (by omega)]
      omega
    · rename_i h
      have h1 := ih (n / 10) (by omega)
      unfold valL at h1 ⊢
      rw [List.foldl_append, h1]
      simp only [List.foldl_cons, List.foldl_nil]
      rw [ofNat_toNat _ (by omega)]
      omega
theorem dec_digit (n : Nat) : ∀ c ∈ decL n, 48 ≤ c.toNat ∧ c.toNat ≤ 57 := by
  induction n using Nat.strongRecOn with
  | ind n ih =>
    intro c hc
    rw [decL] at hc
    split at hc
    · rw [List.mem_singleton] at hc
      subst hc
      rw [ofNat_toNat _ (by omega)]
      omega
    · rcases List.mem_append.1 hc with h1 | h1
      · exact ih _ (by omega) c h1
      · rw [List.mem_singleton] at h1
        subst h1
        rw [ofNat_toNat _ (by omega)]
        omega
def decZ (z : Int) : List UInt8 := if z < 0 then 45 :: decL z.natAbs else decL z.natAbs
theorem decZ_inj {a b : Int} (h : decZ a = decZ b) : a = b := by
  have no : ∀ (n : Nat) (l : List UInt8), 45 :: l ≠ decL n := fun n l e => by
    have := dec_digit n 45 (by rw [← e]; simp)
    have h45 : (45 : UInt8).toNat = 45 := rfl
    omega
  unfold decZ at h
  split at h <;> split at h
  · have := congrArg valL (List.cons.inj h).2
    rw [val_dec, val_dec] at this
    omega
  · exact absurd h (no _ _)
  · exact absurd h.symm (no _ _)
  · have := congrArg valL h
    rw [val_dec, val_dec] at this
    omega
theorem hexL_inj {a b : List UInt8} (h : hexL a = hexL b) : a = b := by
  have hl : a.length = b.length := by
    have h1 := congrArg List.length h
    rw [hexL_length, hexL_length] at h1
    omega
  have h1 := parse_hexK a a.length (Nat.le_refl _)
  have h2 := parse_hexK b b.length (Nat.le_refl _)
  rw [h, hl, h2] at h1
  injection h1 with h1
  rw [List.take_of_length_le (Nat.le_refl _), List.take_of_length_le (by omega)] at h1
  exact h1.symm
theorem hexd_far (n : Nat) (h : n < 16) : hexd n ≠ 32 := by
  have : ∀ k : Fin 16, hexd k.1 ≠ 32 := by decide
  exact this ⟨n, h⟩
theorem hexL_far (l : List UInt8) : (32 : UInt8) ∉ hexL l := by
  intro h
  unfold hexL at h
  rw [List.mem_flatMap] at h
  obtain ⟨b, _, hb⟩ := h
  have hlt := b.toNat_lt
  unfold hexB at hb
  rw [List.mem_cons, List.mem_singleton] at hb
  rcases hb with hb | hb
  · exact hexd_far _ (by omega) hb.symm
  · exact hexd_far _ (by omega) hb.symm
def blanks (l : List (List UInt8)) : List UInt8 := l.flatMap (32 :: ·)
theorem split_blank : ∀ (a b x y : List UInt8), (32 : UInt8) ∉ a → (32 : UInt8) ∉ b → (x = [] ∨ ∃ u, x = 32 :: u) → (y = [] ∨ ∃ u, y = 32 :: u) → a ++ x = b ++ y → a = b ∧ x = y
  | [], [], x, y, _, _, _, _, h => ⟨rfl, h⟩
  | [], c :: b, x, y, _, hb, hx, _, h => by
    rcases hx with rfl | ⟨u, rfl⟩
    · cases h
    · injection h with h1 h2
      exact absurd (by rw [h1]; simp) hb
  | c :: a, [], x, y, ha, _, _, hy, h => by
    rcases hy with rfl | ⟨u, rfl⟩
    · cases h
    · injection h with h1 h2
      exact absurd (by rw [h1]; simp) ha
  | c :: a, d :: b, x, y, ha, hb, hx, hy, h => by
    injection h with h1 h2
    have h3 := split_blank a b x y (fun hc => ha (by simp [hc])) (fun hc => hb (by simp [hc])) hx hy h2
    exact ⟨by rw [h1, h3.1], h3.2⟩
theorem blanks_head (l : List (List UInt8)) : blanks l = [] ∨ ∃ u, blanks l = 32 :: u := by
  cases l with
  | nil => exact .inl rfl
  | cons a l => exact .inr ⟨_, rfl⟩
theorem blanks_inj : ∀ (l m : List (List UInt8)), (∀ a ∈ l, (32 : UInt8) ∉ a) → (∀ a ∈ m, (32 : UInt8) ∉ a) → blanks l = blanks m → l = m
  | [], [], _, _, _ => rfl
  | [], b :: m, _, _, h => by cases h
  | a :: l, [], _, _, h => by cases h
  | a :: l, b :: m, hl, hm, h => by
    have e1 : blanks (a :: l) = 32 :: (a ++ blanks l) := rfl
    have e2 : blanks (b :: m) = 32 :: (b ++ blanks m) := rfl
    rw [e1, e2] at h
    injection h with _ h2
    have h3 := split_blank a b _ _ (hl a (by simp)) (hm b (by simp)) (blanks_head l) (blanks_head m) h2
    rw [h3.1, blanks_inj l m (fun x hx => hl x (by simp [hx])) (fun x hx => hm x (by simp [hx])) h3.2]
def wordO (k : Int) : List UInt8 :=
  if k = 1 then [99, 111, 117, 110, 116] else if k = 2 then [97, 100, 100] else if k = 3 then [114, 101, 109, 111, 118, 101] else if k = 4 then [119, 114, 105, 116, 101]
  else if k = 5 then [105, 110, 115, 101, 114, 116] else if k = 6 then [100, 101, 108, 101, 116, 101] else [109, 101, 114, 103, 101]
def Opn.fields (o : Opn) : List (List UInt8) :=
  (if hasName o.kind = true then [o.name] else []) ++ ((if hasText o.kind = true then [35 :: hexL o.text] else []) ++ ((if hasN o.kind = true then [decZ o.n] else []) ++ (if hasAt o.kind = true then [35 :: hexL o.at_] else [])))
def Opn.shown (o : Opn) : List UInt8 := wordO o.kind ++ blanks o.fields
theorem kind_cases {k : Int} (h : 1 ≤ k ∧ k ≤ 7) : k = 1 ∨ k = 2 ∨ k = 3 ∨ k = 4 ∨ k = 5 ∨ k = 6 ∨ k = 7 := by omega
theorem word_far {k : Int} (h : 1 ≤ k ∧ k ≤ 7) : (32 : UInt8) ∉ wordO k := by
  rcases kind_cases h with rfl | rfl | rfl | rfl | rfl | rfl | rfl <;> decide
theorem word_inj {a b : Int} (ha : 1 ≤ a ∧ a ≤ 7) (hb : 1 ≤ b ∧ b ≤ 7) (h : wordO a = wordO b) : a = b := by
  rcases kind_cases ha with rfl | rfl | rfl | rfl | rfl | rfl | rfl <;> rcases kind_cases hb with rfl | rfl | rfl | rfl | rfl | rfl | rfl <;> first | rfl | exact absurd h (by decide)
theorem name_far {l : List UInt8} (h : nameOk l = true) : (32 : UInt8) ∉ l := fun hc => absurd ((nameOk_iff.1 h).2 32 hc) (by decide)
theorem decZ_far (z : Int) : (32 : UInt8) ∉ decZ z := by
  have no : ∀ n : Nat, (32 : UInt8) ∉ decL n := fun n hc => by
    have := dec_digit n 32 hc
    have h32 : (32 : UInt8).toNat = 32 := rfl
    omega
  unfold decZ
  split
  · intro hc
    rcases List.mem_cons.1 hc with h | h
    · exact absurd h (by decide)
    · exact no _ h
  · exact no _
theorem hash_far (l : List UInt8) : (32 : UInt8) ∉ (35 : UInt8) :: hexL l := by
  intro hc
  rcases List.mem_cons.1 hc with h | h
  · exact absurd h (by decide)
  · exact hexL_far _ h
theorem fields_far {o : Opn} (h : o.May) : ∀ a ∈ o.fields, (32 : UInt8) ∉ a := by
  intro a ha
  have hn := h.name
  simp only [Opn.fields, List.mem_append] at ha
  rcases ha with ha | ha | ha | ha <;> split at ha <;> first | (cases ha; done) | (rw [List.mem_singleton] at ha; subst ha)
  · rename_i hk
    rw [if_pos hk] at hn
    exact name_far hn
  · exact hash_far _
  · exact decZ_far _
  · exact hash_far _
theorem fields_inj {o p : Opn} (ho : o.May) (hp : p.May) (hk : o.kind = p.kind) (h : o.fields = p.fields) : o = p := by
  obtain ⟨k, nm, tx, z, a⟩ := o
  obtain ⟨k', nm', tx', z', a'⟩ := p
  simp only at hk
  subst hk
  have n1 := ho.name
  have n2 := hp.name
  have t1 := ho.text.2
  have t2 := hp.text.2
  have z1 := ho.n.1
  have z2 := hp.n.1
  have a1 := ho.at_.1
  have a2 := hp.at_.1
  simp only at n1 n2 t1 t2 z1 z2 a1 a2
  unfold Opn.fields at h
  simp only at h
  rcases kind_cases ho.kind with e | e | e | e | e | e | e <;> simp only at e <;> subst e <;> simp [hasName, hasText, hasN, hasAt] at h n1 n2 t1 t2 z1 z2 a1 a2
  · obtain ⟨h1, h2⟩ := h
    rw [h1, decZ_inj h2, t1, t2, a1, a2]
  · obtain ⟨h1, h2⟩ := h
    rw [h1, hexL_inj h2, z1, z2, a1, a2]
  · obtain ⟨h1, h2⟩ := h
    rw [h1, hexL_inj h2, z1, z2, a1, a2]
  · obtain ⟨h1, h2⟩ := h
    rw [h1, hexL_inj h2, z1, z2, a1, a2]
  · obtain ⟨h1, h2, h3⟩ := h
    rw [h1, hexL_inj h2, hexL_inj h3, z1, z2]
  · obtain ⟨h1, h2⟩ := h
    rw [h1, hexL_inj h2, t1, t2, z1, z2]
  · rw [n1, n2, t1, t2, z1, z2, a1, a2]
theorem shown_inj {o p : Opn} (ho : o.May) (hp : p.May) (h : o.shown = p.shown) : o = p := by
  have h1 := split_blank _ _ _ _ (word_far ho.kind) (word_far hp.kind) (blanks_head _) (blanks_head _) h
  exact fields_inj ho hp (word_inj ho.kind hp.kind h1.1) (blanks_inj _ _ (fields_far ho) (fields_far hp) h1.2)
end
section
open Go.RowKit
def scells (Ls : List Bs) : List Value := Ls.map fun L => .string (text L)
theorem scells_length (Ls : List Bs) : (scells Ls).length = Ls.length := by simp [scells]
theorem scells_take (Ls : List Bs) (k : Nat) : (scells Ls).take k = scells (Ls.take k) := by simp [scells]
theorem scells_drop (Ls : List Bs) (k : Nat) : (scells Ls).drop k = scells (Ls.drop k) := by simp [scells]
theorem scells_get (Ls : List Bs) (k : Nat) (h : k < Ls.length) : (scells Ls)[k]? = some (.string (text (Ls.getD k []))) := by
  simp [scells, List.getD, List.getElem?_eq_getElem h]
def SS (w : World) (B : Nat) (A : Option Addr) (Ls : List Bs) : Prop := Reads w B 1 A Ls.length (scells Ls)
theorem SS.at_ {w : World} {B : Nat} {A : Option Addr} {Ls : List Bs} (h : SS w B A Ls) (hn : 0 < Ls.length) : ∃ b off, A = some ⟨b, off, none⟩ ∧ b < B ∧ ∀ k, k < Ls.length → w.cell? ⟨b, off + k, none⟩ = some (.string (text (Ls.getD k []))) := by
  obtain ⟨ad, e, hb, hc⟩ := h.2 hn
  have h0 := hc 0 _ (scells_get Ls 0 hn)
  obtain ⟨b, off, p⟩ := ad
  have e0 : (⟨b, off, p⟩ : Addr).add 0 = ⟨b, off, p⟩ := by simp [Addr.add]
  rw [e0] at h0
  have hp : p = none := World.cell?_spot h0
  subst hp
  refine ⟨b, off, e, hb, fun k hk => ?_⟩
  have := hc k _ (scells_get Ls k hk)
  have ea : (⟨b, off, none⟩ : Addr).add k = ⟨b, off + k, none⟩ := by unfold Addr.add; split <;> simp_all
  rwa [ea] at this
theorem SS.below {w w' : World} {B : Nat} {A : Option Addr} {Ls : List Bs} (h : SS w B A Ls) (hb : Below B w w') : SS w' B A Ls := Reads.below h hb
theorem SS.more {w : World} {B B' : Nat} {A : Option Addr} {Ls : List Bs} (h : SS w B A Ls) (hB : B ≤ B') : SS w B' A Ls := Reads.more h hB
theorem SS.nil (w : World) (B : Nat) (A : Option Addr) : SS w B A [] := ⟨by simp [scells], fun h => by simp at h⟩
theorem SS.take {w : World} {B : Nat} {A : Option Addr} {Ls : List Bs} (h : SS w B A Ls) (k : Nat) (hk : k ≤ Ls.length) : SS w B A (Ls.take k) := by
  refine ⟨by rw [scells_length]; simp, fun h0 => ?_⟩
  obtain ⟨ad, e, hb', hcc⟩ := h.2 (by rw [List.length_take] at h0; omega)
  refine ⟨ad, e, hb', fun j u hu => hcc j u ?_⟩
  rw [← scells_take, List.getElem?_take] at hu
  split at hu
  · exact hu
  · cases hu
theorem SS.cut {w : World} {B : Nat} {A : Option Addr} {Ls : List Bs} (h : SS w B A Ls) {k c : Nat} (hk : k ≤ Ls.length) (hc : Ls.length ≤ c) : SS w B (if c = k then A else A.map (·.add (k * 1))) (Ls.drop k) := by
  have h1 := Reads.cut h hk hc
  unfold SS
  rw [List.length_drop, ← scells_drop]
  simpa using h1
theorem SS.lt {w : World} {B : Nat} {A : Option Addr} {Ls : List Bs} (h : SS w B A Ls) : SS w w.heap.size A Ls := by
  refine ⟨h.1, fun hn => ?_⟩
  obtain ⟨ad, e, hb, hc⟩ := h.2 hn
  refine ⟨ad, e, ?_, hc⟩
  have h0 := hc 0 _ (scells_get Ls 0 hn)
  have := World.block_lt_of_cell? w _ h0
  rwa [block_of_add] at this
theorem own_ss {w : World} {base : Nat} {A : Option Addr} {Ls : List Bs} {c : Nat} (h : w.ownsRow base 9 1 (.slice A Ls.length c) Ls.length (scells Ls)) : SS w w.heap.size A Ls := Reads.of_own h
theorem sown_form {w : World} {base : Nat} {v : Value} {n : Nat} {xs : List Value} (h : w.ownsRow base 9 1 v n xs) : ∃ A c, v = .slice A n c := by
  rcases h.2 with ⟨rfl, rfl⟩ | ⟨g, cap, cur, rfl, _⟩
  · exact ⟨none, 0, rfl⟩
  · exact ⟨_, _, rfl⟩
def GivesStrs (Ls : List Bs) (w : World) (e : Ending) (w' : World) : Prop := ∃ A c, e = .returned (.slice A Ls.length c) ∧ SS w' w'.heap.size A Ls ∧ Ls.length ≤ c ∧ c ≤ 9223372036854775807 ∧ Below w.heap.size w w'
theorem sown_cap {w : World} {base n : Nat} {A : Option Addr} {c : Nat} {xs : List Value} (h : w.ownsRow base 9 1 (.slice A n c) n xs) : n ≤ c ∧ c ≤ 9223372036854775807 := by
  rcases h.2 with ⟨h', h0⟩ | ⟨g, cap, cur, h', _, _, hn, hm, _⟩
  · simp only [Value.slice.injEq] at h'
    omega
  · simp only [Value.slice.injEq] at h'
    have hm' : cap ≤ 9223372036854775807 := hm
    omega
theorem GivesStrs.own {Ls : List Bs} {w w' : World} {v : Value} {base : Nat} (h : w'.ownsRow base 9 1 v Ls.length (scells Ls)) (hb : Below w.heap.size w w') : GivesStrs Ls w (.returned v) w' := by
  obtain ⟨A, c, rfl⟩ := sown_form h
  obtain ⟨h1, h2⟩ := sown_cap h
  exact ⟨A, c, rfl, own_ss h, h1, h2, hb⟩
theorem text_size (L : Bs) : (text L).size = L.length := by
  show L.toArray.size = _
  simp
end
end Go.Proofs.YtpcopmpmcjkamaaDoor
