/- Lemmas under the proofs of this place: OpPlain, Strs, Cur. No statement is proved here. -/
import Derived.Test.YtinphkflfdpaeaaDoorBu01
import Derived.Test.YtinphkflfdpaeaaDoorBu04
import Derived.Test.YtinphkflfdpaeaaDoorBu02
import Derived.Deep.QuietTactic
import Derived.BigQuiet
import Derived.IntWalk
import Derived.Lib.Hide
import Derived.Laws.CopyOwn
set_option linter.unusedSimpArgs false
set_option linter.unusedVariables false
set_option maxRecDepth 100000
set_option maxHeartbeats 16000000
namespace Go.Proofs.YtinphkflfdpaeaaDoor
section
structure Opn where
  kind : Int
  name : List UInt8
  text : List UInt8
  n : Int
  at_ : List UInt8
deriving DecidableEq
instance : Inhabited Opn := ⟨⟨0, [], [], 0, []⟩⟩
def Opn.zero : Opn := ⟨0, [], [], 0, []⟩
def nameB (c : UInt8) : Bool := (decide (97 ≤ c.toNat) && decide (c.toNat ≤ 122)) || (decide (48 ≤ c.toNat) && decide (c.toNat ≤ 57)) || decide (c.toNat = 45)
def nameOk (l : List UInt8) : Bool := decide (1 ≤ l.length) && decide (l.length ≤ 12) && l.all nameB
def hasName (k : Int) : Bool := decide (1 ≤ k) && decide (k ≤ 6)
def hasText (k : Int) : Bool := decide (2 ≤ k) && decide (k ≤ 5)
def hasN (k : Int) : Bool := decide (k = 1)
def hasAt (k : Int) : Bool := decide (5 ≤ k) && decide (k ≤ 6)
def isKind (k : Int) : Bool := decide (1 ≤ k) && decide (k ≤ 7)
structure Opn.May (o : Opn) : Prop where
  kind : 1 ≤ o.kind ∧ o.kind ≤ 7
  name : if hasName o.kind = true then nameOk o.name = true else o.name = []
  text : o.text.length ≤ 48 ∧ (hasText o.kind = false → o.text = [])
  n : (hasN o.kind = false → o.n = 0) ∧ -2147483647 ≤ o.n ∧ o.n ≤ 2147483647
  at_ : (hasAt o.kind = false → o.at_ = []) ∧ (o.at_ ≠ [] → o.at_.length = 32)
  ins : o.kind = 5 → o.text ≠ []
  del : o.kind = 6 → o.at_ ≠ []
def textL (l : List UInt8) : List UInt8 := putL l.length ++ l
def signL (z : Int) : List UInt8 := (if z < 0 then 1 else 0) :: fixL 4 z.natAbs
def atL (k : Int) (l : List UInt8) : List UInt8 := if k = 5 then (if l = [] then 0 else 1) :: l else l
def Opn.bytes (o : Opn) : List UInt8 :=
  UInt8.ofNat o.kind.toNat :: ((if hasName o.kind = true then textL o.name else []) ++ ((if hasText o.kind = true then textL o.text else []) ++ ((if hasN o.kind = true then signL o.n else []) ++ atL o.kind o.at_)))
def takeK (k : Nat) (l : List UInt8) : Option (List UInt8 × List UInt8) := if k ≤ l.length then some (l.take k, l.drop k) else none
def nextT (l : List UInt8) : Option (List UInt8 × List UInt8) :=
  match nextN l with
  | none => none
  | some (n, r) => if n ≤ 262144 then takeK n r else none
def numOf (s : UInt8) (x : List UInt8) : Int := if s = 1 then -(if 2147483647 < unfixL x then 0 else (unfixL x : Int)) else (if 2147483647 < unfixL x then 0 else (unfixL x : Int))
def takeName (k : Int) (l : List UInt8) : Option (List UInt8 × List UInt8) := if hasName k = true then nextT l else some ([], l)
def takeText (k : Int) (l : List UInt8) : Option (List UInt8 × List UInt8) := if hasText k = true then nextT l else some ([], l)
def takeN (k : Int) (l : List UInt8) : Option (Int × List UInt8) :=
  if hasN k = true then match l with
    | [] => none
    | s :: r => (takeK 4 r).map fun x => (numOf s x.1, x.2)
  else some (0, l)
def takeAt (k : Int) (l : List UInt8) : Option (List UInt8 × List UInt8) :=
  if k = 5 then match l with
    | [] => none
    | s :: r => if s = 1 then takeK 32 r else some ([], r)
  else if k = 6 then takeK 32 l else some ([], l)
def tellsO (b : List UInt8) : Option (Opn × List UInt8) :=
  match b with
  | [] => none
  | k :: l => match takeName k.toNat l with
    | none => none
    | some (nm, l1) => match takeText k.toNat l1 with
      | none => none
      | some (tx, l2) => match takeN k.toNat l2 with
        | none => none
        | some (z, l3) => match takeAt k.toNat l3 with
          | none => none
          | some (a, l4) => some (⟨k.toNat, nm, tx, z, a⟩, l4)
theorem takeK_append (a r : List UInt8) : takeK a.length (a ++ r) = some (a, r) := by simp [takeK]
theorem nextT_text (a r : List UInt8) (h : a.length ≤ 262144) : nextT (textL a ++ r) = some (a, r) := by
  unfold nextT textL
  rw [List.append_assoc, nextN_put _ _ (by omega)]
  simp only []
  rw [if_pos h, takeK_append]
theorem nameOk_iff {l : List UInt8} : nameOk l = true ↔ (1 ≤ l.length ∧ l.length ≤ 12) ∧ ∀ c ∈ l, nameB c = true := by simp [nameOk]
theorem takeN_sign (k z : Int) (r : List UInt8) (hk : hasN k = true) (h : -2147483647 ≤ z ∧ z ≤ 2147483647) : takeN k (signL z ++ r) = some (z, r) := by
  have e : (fixL 4 z.natAbs).length = 4 := fixL_length 4 _
  have e2 := takeK_append (fixL 4 z.natAbs) r
  rw [e] at e2
  have e3 : unfixL (fixL 4 z.natAbs) = z.natAbs := unfix_fix 4 _ (by omega)
  have key : numOf (if z < 0 then 1 else 0) (fixL 4 z.natAbs) = z := by
    unfold numOf
    rw [e3]
    by_cases hz : z < 0
    · rw [if_pos hz, if_pos rfl, if_neg (by omega)]
      omega
    · rw [if_neg hz, if_neg (by decide), if_neg (by omega)]
      omega
  unfold takeN signL
  rw [if_pos hk]
  simp only [List.cons_append]
  rw [e2, Option.map_some, key]
theorem takeAt_at (k : Int) (a r : List UInt8) (hk : hasAt k = false → a = []) (hl : a ≠ [] → a.length = 32) (hd : k = 6 → a ≠ []) : takeAt k (atL k a ++ r) = some (a, r) := by
  unfold takeAt atL
  by_cases h5 : k = 5
  · rw [if_pos h5, if_pos h5]
    simp only [List.cons_append]
    by_cases ha : a = []
    · subst ha
      simp
    · rw [if_neg ha, if_pos rfl]
      have := takeK_append a r
      rw [hl ha] at this
      exact this
  · rw [if_neg h5, if_neg h5]
    by_cases h6 : k = 6
    · rw [if_pos h6]
      have := takeK_append a r
      rw [hl (hd h6)] at this
      exact this
    · rw [if_neg h6, hk (by simp [hasAt]; omega)]
      rfl
theorem kind_nat {k : Int} (h : 1 ≤ k ∧ k ≤ 7) : (((UInt8.ofNat k.toNat).toNat : Nat) : Int) = k := by
  rw [ofNat_toNat _ (by omega)]
  omega
theorem tells_bytes {o : Opn} (h : o.May) (r : List UInt8) : tellsO (o.bytes ++ r) = some (o, r) := by
  unfold Opn.bytes
  simp only [List.cons_append, List.append_assoc, tellsO]
  rw [kind_nat h.kind]
  have e1 : takeName o.kind ((if hasName o.kind = true then textL o.name else []) ++ ((if hasText o.kind = true then textL o.text else []) ++ ((if hasN o.kind = true then signL o.n else []) ++ (atL o.kind o.at_ ++ r)))) = some (o.name, (if hasText o.kind = true then textL o.text else []) ++ ((if hasN o.kind = true then signL o.n else []) ++ (atL o.kind o.at_ ++ r))) := by
    have hn := h.name
    unfold takeName
    by_cases hk : hasName o.kind = true
    · rw [if_pos hk] at hn
      rw [if_pos hk, if_pos hk, nextT_text _ _ (by have := (nameOk_iff.1 hn).1; omega)]
    · rw [if_neg hk] at hn
      rw [if_neg hk, if_neg hk, hn]
      rfl
  rw [e1]
  simp only []
  have e2 : takeText o.kind ((if hasText o.kind = true then textL o.text else []) ++ ((if hasN o.kind = true then signL o.n else []) ++ (atL o.kind o.at_ ++ r))) = some (o.text, (if hasN o.kind = true then signL o.n else []) ++ (atL o.kind o.at_ ++ r)) := by
    unfold takeText
    by_cases hk : hasText o.kind = true
    · rw [if_pos hk, if_pos hk, nextT_text _ _ (by have := h.text.1; omega)]
    · rw [if_neg hk, if_neg hk, h.text.2 (by simpa using hk)]
      rfl
  rw [e2]
  simp only []
  have e3 : takeN o.kind ((if hasN o.kind = true then signL o.n else []) ++ (atL o.kind o.at_ ++ r)) = some (o.n, atL o.kind o.at_ ++ r) := by
    by_cases hk : hasN o.kind = true
    · rw [if_pos hk, takeN_sign _ _ _ hk h.n.2]
    · rw [if_neg hk, h.n.1 (by simpa using hk)]
      unfold takeN
      rw [if_neg hk]
      rfl
  rw [e3]
  simp only []
  rw [takeAt_at _ _ _ h.at_.1 h.at_.2 h.del]
theorem bytes_apart {o p : Opn} (ho : o.May) (hp : p.May) {x y : List UInt8} (h : o.bytes ++ x = p.bytes ++ y) : o = p ∧ x = y := by
  have h1 := tells_bytes ho x
  rw [h, tells_bytes hp y] at h1
  simp only [Option.some.injEq, Prod.mk.injEq] at h1
  exact ⟨h1.1.symm, h1.2.symm⟩
theorem bytes_inj {o p : Opn} (ho : o.May) (hp : p.May) (h : o.bytes = p.bytes) : o = p :=
  (bytes_apart ho hp (x := []) (y := []) (by rw [h])).1
def Begins (b : List UInt8) (o : Opn) (k : Nat) : Prop := o.May ∧ k ≤ b.length ∧ b.take k = o.bytes
theorem Begins.size {b : List UInt8} {o : Opn} {k : Nat} (h : Begins b o k) : k = o.bytes.length := by
  rw [← h.2.2, List.length_take]
  have := h.2.1
  omega
theorem Begins.one {b : List UInt8} {o p : Opn} {k m : Nat} (h : Begins b o k) (h' : Begins b p m) : o = p ∧ k = m := by
  have e : o.bytes ++ b.drop k = p.bytes ++ b.drop m := by rw [← h.2.2, ← h'.2.2, List.take_append_drop, List.take_append_drop]
  have h1 := (bytes_apart h.1 h'.1 e).1
  subst h1
  exact ⟨rfl, by rw [h.size, h'.size]⟩
theorem Begins.put {o : Opn} (h : o.May) (x : List UInt8) : Begins (o.bytes ++ x) o o.bytes.length := ⟨h, by simp, by simp⟩
def wordO (k : Int) : List UInt8 :=
  if k = 1 then [99, 111, 117, 110, 116] else if k = 2 then [97, 100, 100] else if k = 3 then [114, 101, 109, 111, 118, 101] else if k = 4 then [119, 114, 105, 116, 101]
  else if k = 5 then [105, 110, 115, 101, 114, 116] else if k = 6 then [100, 101, 108, 101, 116, 101] else [109, 101, 114, 103, 101]
theorem kind_cases {k : Int} (h : 1 ≤ k ∧ k ≤ 7) : k = 1 ∨ k = 2 ∨ k = 3 ∨ k = 4 ∨ k = 5 ∨ k = 6 ∨ k = 7 := by omega
end
section
open Go.RowKit
def scells (Ls : List Bs) : List Value := Ls.map fun L => .string (text L)
theorem scells_length (Ls : List Bs) : (scells Ls).length = Ls.length := by simp [scells]
theorem scells_append (Ls Ms : List Bs) : scells (Ls ++ Ms) = scells Ls ++ scells Ms := by simp [scells]
theorem scells_take (Ls : List Bs) (k : Nat) : (scells Ls).take k = scells (Ls.take k) := by simp [scells]
theorem scells_drop (Ls : List Bs) (k : Nat) : (scells Ls).drop k = scells (Ls.drop k) := by simp [scells]
theorem scells_get (Ls : List Bs) (k : Nat) (h : k < Ls.length) : (scells Ls)[k]? = some (.string (text (Ls.getD k []))) := by
  simp [scells, List.getD, List.getElem?_eq_getElem h]
def SS (w : World) (B : Nat) (A : Option Addr) (Ls : List Bs) : Prop := Reads w B 1 A Ls.length (scells Ls)
theorem SS.at_ {w : World} {B : Nat} {A : Option Addr} {Ls : List Bs} (h : SS w B A Ls) (hn : 0 < Ls.length) : ∃ b off, A = some ⟨b, off, none⟩ ∧ b < B ∧ ∀ k, k < Ls.length → w.cell? ⟨b, off + k, none⟩ = some (.string (text (Ls.getD k []))) := by
  obtain ⟨ad, e, hb, hc⟩ := h.2 hn
  have h0 := hc 0 _ (scells_get Ls 0 hn)
  obtain ⟨b, off, p⟩ := ad
  have e0 : (⟨b, off, p⟩ : Addr).add 0 = ⟨b, off, p⟩ := by simp [Addr.add]
  rw [e0] at h0
  have hp : p = none := World.cell?_spot h0
  subst hp
  refine ⟨b, off, e, hb, fun k hk => ?_⟩
  have := hc k _ (scells_get Ls k hk)
  have ea : (⟨b, off, none⟩ : Addr).add k = ⟨b, off + k, none⟩ := by unfold Addr.add; split <;> simp_all
  rwa [ea] at this
theorem SS.below {w w' : World} {B : Nat} {A : Option Addr} {Ls : List Bs} (h : SS w B A Ls) (hb : Below B w w') : SS w' B A Ls := Reads.below h hb
theorem SS.more {w : World} {B B' : Nat} {A : Option Addr} {Ls : List Bs} (h : SS w B A Ls) (hB : B ≤ B') : SS w B' A Ls := Reads.more h hB
theorem SS.nil (w : World) (B : Nat) (A : Option Addr) : SS w B A [] := ⟨by simp [scells], fun h => by simp at h⟩
theorem SS.take {w : World} {B : Nat} {A : Option Addr} {Ls : List Bs} (h : SS w B A Ls) (k : Nat) (hk : k ≤ Ls.length) : SS w B A (Ls.take k) := by
  refine ⟨by rw [scells_length]; simp, fun h0 => ?_⟩
  obtain ⟨ad, e, hb', hcc⟩ := h.2 (by rw [List.length_take] at h0; omega)
  refine ⟨ad, e, hb', fun j u hu => hcc j u ?_⟩
  rw [← scells_take, List.getElem?_take] at hu
  split at hu
  · exact hu
  · cases hu
theorem SS.cut {w : World} {B : Nat} {A : Option Addr} {Ls : List Bs} (h : SS w B A Ls) {k c : Nat} (hk : k ≤ Ls.length) (hc : Ls.length ≤ c) : SS w B (if c = k then A else A.map (·.add (k * 1))) (Ls.drop k) := by
  have h1 := Reads.cut h hk hc
  unfold SS
  rw [List.length_drop, ← scells_drop]
  simpa using h1
theorem SS.lt {w : World} {B : Nat} {A : Option Addr} {Ls : List Bs} (h : SS w B A Ls) : SS w w.heap.size A Ls := by
  refine ⟨h.1, fun hn => ?_⟩
  obtain ⟨ad, e, hb, hc⟩ := h.2 hn
  refine ⟨ad, e, ?_, hc⟩
  have h0 := hc 0 _ (scells_get Ls 0 hn)
  have := World.block_lt_of_cell? w _ h0
  rwa [block_of_add] at this
theorem own_ss {w : World} {base : Nat} {A : Option Addr} {Ls : List Bs} {c : Nat} (h : w.ownsRow base 9 1 (.slice A Ls.length c) Ls.length (scells Ls)) : SS w w.heap.size A Ls := Reads.of_own h
theorem sown_form {w : World} {base : Nat} {v : Value} {n : Nat} {xs : List Value} (h : w.ownsRow base 9 1 v n xs) : ∃ A c, v = .slice A n c := by
  rcases h.2 with ⟨rfl, rfl⟩ | ⟨g, cap, cur, rfl, _⟩
  · exact ⟨none, 0, rfl⟩
  · exact ⟨_, _, rfl⟩
theorem sown_kept {w w' : World} {base n : Nat} {v : Value} {xs : List Value} (h : w.ownsRow base 9 1 v n xs) (hb : Below w.heap.size w w') : w'.ownsRow base 9 1 v n xs :=
  World.ownsRow.kept h (row := none) ⟨hb.os, hb.tape, hb.output, hb.size, fun i hi _ => hb.block i hi⟩ (Classical.em _)
theorem Tryd.infoStr : (Tryd.prog.info? 9).map (fun i => (i.zero, i.size, i.bytes)) = some (some (.string ⟨#[]⟩), 1, 16) := by kernel_rfl
def GivesStrs (Ls : List Bs) (w : World) (e : Ending) (w' : World) : Prop := ∃ A c, e = .returned (.slice A Ls.length c) ∧ SS w' w'.heap.size A Ls ∧ Ls.length ≤ c ∧ c ≤ 9223372036854775807 ∧ Below w.heap.size w w'
theorem sown_cap {w : World} {base n : Nat} {A : Option Addr} {c : Nat} {xs : List Value} (h : w.ownsRow base 9 1 (.slice A n c) n xs) : n ≤ c ∧ c ≤ 9223372036854775807 := by
  rcases h.2 with ⟨h', h0⟩ | ⟨g, cap, cur, h', _, _, hn, hm, _⟩
  · simp only [Value.slice.injEq] at h'
    omega
  · simp only [Value.slice.injEq] at h'
    have hm' : cap ≤ 9223372036854775807 := hm
    omega
theorem GivesStrs.own {Ls : List Bs} {w w' : World} {v : Value} {base : Nat} (h : w'.ownsRow base 9 1 v Ls.length (scells Ls)) (hb : Below w.heap.size w w') : GivesStrs Ls w (.returned v) w' := by
  obtain ⟨A, c, rfl⟩ := sown_form h
  obtain ⟨h1, h2⟩ := sown_cap h
  exact ⟨A, c, rfl, own_ss h, h1, h2, hb⟩
theorem text_size (L : Bs) : (text L).size = L.length := by
  show L.toArray.size = _
  simp
end
section
open Go.RowKit
theorem copied_any (L : List UInt8) (n : Nat) (A : Option Addr) (c : Nat) (w : World) (hn : n = L.length) (hr : RB w w.heap.size A L) (hl : L.length ≤ 1048576) :
    Calls Tryd.prog 52 #[.slice A n c] w (GivesOne L w) := by
  subst hn
  obtain ⟨i0, hi0, hz0, hz1, hz2⟩ := info_parts Tryd.info5
  have hby : i0.bytes = 1 := hz2
  go_enter Tryd.func52, Tryd.ntmps52
  go_wp2_with (first
    | (at_make; refine wpList_make_full _ rfl _ _ 29 rfl w.heap.size 5 i0 _ 1 Tryd.underlying29 hi0 hz0 hz1 .i64 .i64 _ _ L.length rfl rfl rfl rfl (by rw [hby]; omega) (by unfold maxLen; omega) (Nat.le_refl _) ?_; intro w1 hown hgrow; have hg1 := made_block hown; have hb1 : Below w.heap.size w w1 := (Below.refl _ _).grown hgrow (Nat.le_refl _) (by simp); have hr1 := hr.below hb1; clear hown hgrow)
    | (with_reducible show wpList _ _ _ (⟨some 9, _, _, _, _, _⟩ :: _) _ _; refine wpList_copy_splice rfl (.tmp 7) (.tmp 8) 29 29 rfl 5 Tryd.underlying29 Tryd.size5 (some ⟨w.heap.size, 0, none⟩) A L.length L.length L.length c rfl rfl w.heap.size 0 (List.replicate L.length (.int .u8 0)) 5 hg1 (cells L) (by rw [cells_length]; simp) (rb_src hr1 _) (by simp [cells_length]) (cells_one _) w.heap.size w hb1 (Nat.le_refl _) ?_; intro w2 hg2 hb2))
  go_ret
  refine ⟨some ⟨w.heap.size, 0, none⟩, L.length, rfl, ?_, hb2⟩
  have h2 := hg2.out
  rw [splice_all _ _ (by simp [cells_length])] at h2
  exact block_own h2 (Nat.le_refl _) hl
def Cur (w : World) (g : Nat) : Option (List UInt8) → Prop
  | none => w.heap[g]? = some (.cells #[.slice none 0 0, .bool true] 81 (0, 0))
  | some L => ∃ A c, w.heap[g]? = some (.cells #[.slice A L.length c, .bool false] 81 (0, 0)) ∧ RB w w.heap.size A L ∧ L.length ≤ c ∧ L.length ≤ 1048576
theorem from_any (L : List UInt8) (A : Option Addr) (c : Nat) (w : World) (hr : RB w w.heap.size A L) (hl : L.length ≤ 1048576) :
    Calls Tryd.prog 22 #[.slice A L.length c] w fun e w' => ∃ g, e = .returned (.pointer (some ⟨g, 0, none⟩)) ∧ w.heap.size ≤ g ∧ Cur w' g (some L) ∧ Below w.heap.size w w' := by
  go_enter Tryd.func22, Tryd.ntmps22
  go_wp2_with (go_at_call 52; refine (copied_any L _ _ _ _ rfl hr hl).mono ?_; rintro e w1 ⟨A1, c1, rfl, hown1, hb1⟩)
  go_ret
  have hz := hb1.size
  exact ⟨w1.heap.size, rfl, hz, ⟨A1, c1, heap_alloc_new _ _, ((own_rb hown1).alloc (Nat.le_refl _) _).more (by simp), own_le hown1, hl⟩, hb1.alloc hz _⟩
theorem bad_any (g : Nat) (st : Option (List UInt8)) (w : World) (h : Cur w g st) : Calls Tryd.prog 53 #[.pointer (some ⟨g, 0, none⟩)] w fun e w' => e = .returned (.bool st.isNone) ∧ w = w' := by
  rcases st with _ | L
  · have hc : w.cell? ⟨g, 1, none⟩ = some (.bool true) := (blk_cell h 1).1
    clear h
    go_enter Tryd.func53, Tryd.ntmps53
    go_wp2
    go_ret
    exact ⟨rfl, rfl⟩
  · obtain ⟨A, c, h, _, _⟩ := h
    have hc : w.cell? ⟨g, 1, none⟩ = some (.bool false) := (blk_cell h 1).1
    clear h
    go_enter Tryd.func53, Tryd.ntmps53
    go_wp2
    go_ret
    exact ⟨rfl, rfl⟩
def leftN : Option (List UInt8) → Nat
  | none => 0
  | some L => L.length
theorem rb_far {w : World} {B g i : Nat} {A : Option Addr} {L : List UInt8} {cs : Array Value} {t : TypeId} (h : RB w B A L) (hg : w.heap[g]? = some (.cells cs t (0, 0))) (hcs : ∀ (j : Nat) (k : IntKind) (z : Int), cs[j]? ≠ some (.int k z)) (u : Value) : RB (w.setCell ⟨g, i, none⟩ u) B A L := by
  refine ⟨h.1, fun hn => ?_⟩
  obtain ⟨b, off, rfl, hb, hc⟩ := RB.at_ h hn
  have hne : b ≠ g := by
    rintro rfl
    have h0 := hc 0 hn
    rw [Nat.add_zero, (blk_cell hg off).1] at h0
    exact hcs _ _ _ h0
  obtain ⟨ad, e, hb', hc'⟩ := h.2 hn
  injection e with e
  subst e
  refine ⟨_, rfl, hb', fun j v hv => ?_⟩
  rw [World.cell?_setCell_other _ _ _ _ (by intro hx; apply hne; have h9 := congrArg Addr.block hx; rw [block_of_add] at h9; exact h9.symm)]
  exact hc' j v hv
theorem cur_cells (A : Option Addr) (n c : Nat) (b : Bool) : ∀ (j : Nat) (k : IntKind) (z : Int), (#[Value.slice A n c, Value.bool b])[j]? ≠ some (.int k z) := by
  intro j k z
  match j with
  | 0 => simp
  | 1 => simp
  | j + 2 => simp
theorem fail_any (g : Nat) (st : Option (List UInt8)) (w : World) (h : Cur w g st) : Calls Tryd.prog 54 #[.pointer (some ⟨g, 0, none⟩)] w fun e w' => e = .returned (.tuple #[]) ∧ Cur w' g none ∧ Only w w' g ∧ w'.heap.size = w.heap.size := by
  have hx : ∃ A n c b, w.heap[g]? = some (.cells #[.slice A n c, .bool b] 81 (0, 0)) := by
    rcases st with _ | L
    · exact ⟨_, _, _, _, h⟩
    · obtain ⟨A, c, h, _⟩ := h
      exact ⟨_, _, _, _, h⟩
  obtain ⟨A, n, c, b, hg⟩ := hx
  have hc0 : w.cell? ⟨g, 0, none⟩ = some (.slice A n c) := (blk_cell hg 0).1
  have hc1 : w.cell? ⟨g, 1, none⟩ = some (.bool b) := (blk_cell hg 1).1
  have hf0 : w.frozen? ⟨g, 0, none⟩ = false := (blk_cell hg 0).2
  have hf1 : w.frozen? ⟨g, 1, none⟩ = false := (blk_cell hg 1).2
  have HG := Lib.hid hg
  clear h hg
  go_enter Tryd.func54, Tryd.ntmps54
  go_wp2
  go_end0
  have h1 := Blk.set_ (Blk.set_ HG.out 1 (.bool true)) 0 (.slice none 0 0)
  exact ⟨rfl, h1, only_trans (only_set _ _ _ _) (only_set _ _ _ _), by simp [World.setCell]⟩
end
end Go.Proofs.YtinphkflfdpaeaaDoor
