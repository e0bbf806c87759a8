/- Lemmas under the proofs of this place: Plain, ShaPlain, Base. No statement is proved here. -/
import Init.Data.List.Lemmas
import Init.Data.UInt.Lemmas
import Derived.Below
import Derived.Laws.OwnMore
import Derived.Laws.BytesArg
import Derived.Deep.AppendLies
import Derived.Deep.Draws
import Derived.Laws.Rows
import Derived.Maps.AppendAt
import Derived.RegionTactic
import Derived.OwnWalk
import Derived.ChangeSame
import Derived.ChangeSlices
import Derived.OpenShut
set_option linter.unusedSectionVars false
set_option linter.unusedSimpArgs false
set_option linter.unusedVariables false
namespace Go.Proofs.YtinphkflfdpaeaaDoor
section
theorem ofNat_toNat (n : Nat) (h : n < 256) : (UInt8.ofNat n).toNat = n := by
  simp [UInt8.toNat_ofNat', Nat.mod_eq_of_lt h]
theorem ofNat_byte (b : UInt8) : UInt8.ofNat b.toNat = b := by simp
theorem byte_lt (b : UInt8) : b.toNat < 256 := b.toNat_lt
def putL (n : Nat) : List UInt8 :=
  if h : 128 ≤ n then UInt8.ofNat (n % 128 + 128) :: putL (n / 128) else [UInt8.ofNat n]
termination_by n
decreasing_by omega
theorem putL_big (n : Nat) (h : 128 ≤ n) : putL n = UInt8.ofNat (n % 128 + 128) :: putL (n / 128) := by
  rw [putL]; simp [h]
theorem putL_small (n : Nat) (h : n < 128) : putL n = [UInt8.ofNat n] := by
  rw [putL]; simp [Nat.not_le.2 h]
theorem putL_len_pos (n : Nat) : 0 < (putL n).length := by
  by_cases h : 128 ≤ n
  · rw [putL_big n h]; simp
  · rw [putL_small n (by omega)]; simp
theorem putL_len_le : ∀ (k n : Nat), n < 128 ^ (k + 1) → (putL n).length ≤ k + 1 := by
  intro k
  induction k with
  | zero => intro n h; rw [putL_small n (by simpa using h)]; simp
  | succ k ih =>
    intro n h
    by_cases hn : 128 ≤ n
    · rw [putL_big n hn]
      have := ih (n / 128) (by rw [Nat.pow_succ] at h; omega)
      simp; omega
    · rw [putL_small n (by omega)]; simp
theorem putL_len5 (n : Nat) (h : n ≤ 2147483647) : (putL n).length ≤ 5 := putL_len_le 4 n (by omega)
def getAux : Nat → List UInt8 → Nat → Nat → Nat → Option (Nat × Nat)
  | 0, _, _, _, _ => none
  | _ + 1, [], _, _, _ => none
  | f + 1, b :: l, i, acc, q =>
    if 128 ≤ b.toNat then getAux f l (i + 1) (acc + b.toNat % 128 * q) (q * 128)
    else if 2147483647 < acc + b.toNat % 128 * q ∨ (0 < i ∧ b.toNat = 0) then none
    else some (acc + b.toNat % 128 * q, i + 1)
def getL (l : List UInt8) : Option (Nat × Nat) := getAux 5 l 0 0 1
theorem getAux_put : ∀ (f m : Nat) (rest : List UInt8) (i acc q : Nat), (putL m).length ≤ f → acc + m * q ≤ 2147483647 → 0 < q → (0 < i → 0 < m) →
    getAux f (putL m ++ rest) i acc q = some (acc + m * q, i + (putL m).length) := by
  intro f
  induction f with
  | zero => intro m rest i acc q h; have := putL_len_pos m; omega
  | succ f ih =>
    intro m rest i acc q hl hmax hq hi
    by_cases h : 128 ≤ m
    · rw [putL_big m h] at hl ⊢
      have hb : (UInt8.ofNat (m % 128 + 128)).toNat = m % 128 + 128 := ofNat_toNat _ (by omega)
      have e1 : (m % 128 + 128) % 128 = m % 128 := by omega
      have e2 : acc + m % 128 * q + m / 128 * (q * 128) = acc + m * q := by
        have : m * q = m % 128 * q + m / 128 * (q * 128) := by
          have h1 : m = m % 128 + 128 * (m / 128) := (Nat.mod_add_div m 128).symm
          calc m * q = (m % 128 + 128 * (m / 128)) * q := by rw [← h1]
            _ = m % 128 * q + m / 128 * (q * 128) := by rw [Nat.add_mul, Nat.mul_comm 128 (m / 128), Nat.mul_assoc, Nat.mul_comm 128 q]
        omega
      simp only [List.cons_append, getAux, hb, e1]
      rw [if_pos (by omega), ih (m / 128) rest (i + 1) _ (q * 128) (by simpa using hl) (by omega) (by omega) (fun _ => by omega), e2]
      simp; omega
    · rw [putL_small m (by omega)] at hl ⊢
      have hb : (UInt8.ofNat m).toNat = m := ofNat_toNat _ (by omega)
      have e1 : m % 128 = m := Nat.mod_eq_of_lt (by omega)
      simp only [List.cons_append, List.nil_append, getAux, hb, e1]
      rw [if_neg (by omega), if_neg (by intro hh; rcases hh with hh | ⟨h1, h2⟩ <;> omega)]
      simp
theorem getL_put (m : Nat) (rest : List UInt8) (h : m ≤ 2147483647) : getL (putL m ++ rest) = some (m, (putL m).length) := by
  have := getAux_put 5 m rest 0 0 1 (putL_len5 m h) (by omega) (by omega) (by omega)
  simpa [getL] using this
theorem getAux_some : ∀ (f : Nat) (l : List UInt8) (i acc q n k : Nat), getAux f l i acc q = some (n, k) →
    ∃ m, n = acc + m * q ∧ n ≤ 2147483647 ∧ k = i + (putL m).length ∧ (putL m).length ≤ l.length ∧ putL m = l.take (putL m).length ∧ (0 < i → 0 < m) := by
  intro f
  induction f with
  | zero => intro l i acc q n k h; cases l <;> simp [getAux] at h
  | succ f ih =>
    intro l i acc q n k h
    cases l with
    | nil => simp [getAux] at h
    | cons b l =>
      have hb := byte_lt b
      simp only [getAux] at h
      by_cases h1 : 128 ≤ b.toNat
      · rw [if_pos h1] at h
        obtain ⟨m', e1, e2, e3, e4, e5, e6⟩ := ih _ _ _ _ _ _ h
        have hm' := e6 (by omega)
        have hp : putL (b.toNat % 128 + 128 * m') = b :: putL m' := by
          rw [putL_big _ (by omega)]
          have a1 : (b.toNat % 128 + 128 * m') % 128 + 128 = b.toNat := by omega
          have a2 : (b.toNat % 128 + 128 * m') / 128 = m' := by omega
          rw [a1, a2, ofNat_byte]
        refine ⟨b.toNat % 128 + 128 * m', ?_, e2, ?_, ?_, ?_, fun _ => by omega⟩
        · rw [e1, Nat.add_mul, Nat.mul_comm 128 m', Nat.mul_assoc, Nat.mul_comm 128 q]; omega
        · rw [hp, e3]; simp; omega
        · rw [hp]; simpa using e4
        · rw [hp]; simp only [List.length_cons, List.take_succ_cons]; rw [← e5]
      · rw [if_neg h1] at h
        by_cases h2 : 2147483647 < acc + b.toNat % 128 * q ∨ (0 < i ∧ b.toNat = 0)
        · rw [if_pos h2] at h; cases h
        · rw [if_neg h2] at h
          simp only [Option.some.injEq, Prod.mk.injEq] at h
          have e1 : b.toNat % 128 = b.toNat := Nat.mod_eq_of_lt (by omega)
          rw [e1] at h h2
          have hp : putL b.toNat = [b] := by rw [putL_small _ (by omega), ofNat_byte]
          refine ⟨b.toNat, h.1.symm, by omega, ?_, ?_, ?_, fun hi => by omega⟩
          · rw [hp, ← h.2]; simp
          · rw [hp]; simp
          · rw [hp]; simp
theorem getL_some (l : List UInt8) (n k : Nat) (h : getL l = some (n, k)) : n ≤ 2147483647 ∧ k = (putL n).length ∧ k ≤ l.length ∧ putL n = l.take k := by
  obtain ⟨m, e1, e2, e3, e4, e5, _⟩ := getAux_some 5 l 0 0 1 n k h
  have hm : n = m := by omega
  subst hm
  have hk : k = (putL n).length := by omega
  subst hk
  exact ⟨e2, rfl, e4, e5⟩
def fixL : Nat → Nat → List UInt8
  | 0, _ => []
  | k + 1, n => UInt8.ofNat (n % 256) :: fixL k (n / 256)
theorem fixL_length : ∀ (k n : Nat), (fixL k n).length = k := by
  intro k
  induction k with
  | zero => intro n; rfl
  | succ k ih => intro n; simp [fixL, ih]
def unfixL : List UInt8 → Nat
  | [] => 0
  | b :: l => b.toNat + 256 * unfixL l
theorem unfix_fix : ∀ (k n : Nat), n < 256 ^ k → unfixL (fixL k n) = n := by
  intro k
  induction k with
  | zero => intro n h; simp [fixL, unfixL] at *; omega
  | succ k ih =>
    intro n h
    have h' : n / 256 < 256 ^ k := by rw [Nat.pow_succ] at h; omega
    simp only [fixL, unfixL, ih _ h']
    rw [ofNat_toNat _ (by omega)]
    omega
theorem fixL_get : ∀ (k n i : Nat) (h : i < k), (fixL k n)[i]? = some (UInt8.ofNat (n / 256 ^ i % 256)) := by
  intro k
  induction k with
  | zero => intro n i h; omega
  | succ k ih =>
    intro n i h
    cases i with
    | zero => simp [fixL]
    | succ i =>
      simp only [fixL, List.getElem?_cons_succ]
      rw [ih _ _ (by omega), Nat.div_div_eq_div_mul, Nat.pow_succ, Nat.mul_comm]
theorem unfixL_lt : ∀ (l : List UInt8), unfixL l < 256 ^ l.length := by
  intro l
  induction l with
  | nil => simp [unfixL]
  | cons b l ih => have := byte_lt b; simp only [unfixL, List.length_cons, Nat.pow_succ]; omega
theorem unfixL_append : ∀ (l m : List UInt8), unfixL (l ++ m) = unfixL l + 256 ^ l.length * unfixL m := by
  intro l m
  induction l with
  | nil => simp [unfixL]
  | cons b l ih => simp only [List.cons_append, unfixL, ih, List.length_cons, Nat.pow_succ, Nat.mul_add]; rw [← Nat.mul_assoc, Nat.mul_comm 256 (256 ^ l.length)]; omega
end
section
def rotR (x : UInt32) (n : Nat) : UInt32 := x >>> UInt32.ofNat n ||| x <<< UInt32.ofNat (32 - n)
def sig0 (x : UInt32) : UInt32 := rotR x 7 ^^^ rotR x 18 ^^^ x >>> 3
def sig1 (x : UInt32) : UInt32 := rotR x 17 ^^^ rotR x 19 ^^^ x >>> 10
def big0 (x : UInt32) : UInt32 := rotR x 2 ^^^ rotR x 13 ^^^ rotR x 22
def big1 (x : UInt32) : UInt32 := rotR x 6 ^^^ rotR x 11 ^^^ rotR x 25
def chL (x y z : UInt32) : UInt32 := (x &&& y) ^^^ ((x ^^^ 4294967295) &&& z)
def majL (x y z : UInt32) : UInt32 := (x &&& y) ^^^ (x &&& z) ^^^ (y &&& z)
def wordL (a b c d : UInt8) : UInt32 := a.toUInt32 <<< 24 ||| b.toUInt32 <<< 16 ||| c.toUInt32 <<< 8 ||| d.toUInt32
def schedW (B : List UInt8) (W : List UInt32) (k : Nat) : UInt32 :=
  if k < 16 then wordL (B.getD (4 * k) 0) (B.getD (4 * k + 1) 0) (B.getD (4 * k + 2) 0) (B.getD (4 * k + 3) 0)
  else W.getD (k - 16) 0 + sig0 (W.getD (k - 15) 0) + W.getD (k - 7) 0 + sig1 (W.getD (k - 2) 0)
def schedK (B : List UInt8) : Nat → List UInt32
  | 0 => []
  | k + 1 => schedK B k ++ [schedW B (schedK B k) k]
theorem schedK_length (B : List UInt8) : ∀ k, (schedK B k).length = k := by
  intro k
  induction k with
  | zero => rfl
  | succ k ih => simp [schedK, ih]
structure S8 where
  a : UInt32
  b : UInt32
  c : UInt32
  d : UInt32
  e : UInt32
  f : UInt32
  g : UInt32
  h : UInt32
def S8.list (s : S8) : List UInt32 := [s.a, s.b, s.c, s.d, s.e, s.f, s.g, s.h]
def kL : List UInt32 := [
  1116352408, 1899447441, 3049323471, 3921009573, 961987163, 1508970993, 2453635748, 2870763221,
  3624381080, 310598401, 607225278, 1426881987, 1925078388, 2162078206, 2614888103, 3248222580,
  3835390401, 4022224774, 264347078, 604807628, 770255983, 1249150122, 1555081692, 1996064986,
  2554220882, 2821834349, 2952996808, 3210313671, 3336571891, 3584528711, 113926993, 338241895,
  666307205, 773529912, 1294757372, 1396182291, 1695183700, 1986661051, 2177026350, 2456956037,
  2730485921, 2820302411, 3259730800, 3345764771, 3516065817, 3600352804, 4094571909, 275423344,
  430227734, 506948616, 659060556, 883997877, 958139571, 1322822218, 1537002063, 1747873779,
  1955562222, 2024104815, 2227730452, 2361852424, 2428436474, 2756734187, 3204031479, 3329325298]
def s0 : S8 := ⟨1779033703, 3144134277, 1013904242, 2773480762, 1359893119, 2600822924, 528734635, 1541459225⟩
def roundL (s : S8) (k w : UInt32) : S8 :=
  ⟨s.h + big1 s.e + chL s.e s.f s.g + k + w + (big0 s.a + majL s.a s.b s.c), s.a, s.b, s.c, s.d + (s.h + big1 s.e + chL s.e s.f s.g + k + w), s.e, s.f, s.g⟩
def roundsK (W : List UInt32) (s : S8) : Nat → S8
  | 0 => s
  | n + 1 => roundL (roundsK W s n) (kL.getD n 0) (W.getD n 0)
def addS (s t : S8) : S8 := ⟨s.a + t.a, s.b + t.b, s.c + t.c, s.d + t.d, s.e + t.e, s.f + t.f, s.g + t.g, s.h + t.h⟩
def blockL (s : S8) (B : List UInt8) : S8 := addS s (roundsK (schedK B 64) s 64)
def blocksK (s : S8) (P : List UInt8) : Nat → S8
  | 0 => s
  | k + 1 => blockL (blocksK s P k) ((P.drop (64 * k)).take 64)
def noughts (n : Nat) : Nat := (119 - n % 64) % 64
def lenL (n : Nat) : List UInt8 := [0, 0, 0, UInt8.ofNat (n / 4294967296), UInt8.ofNat (n / 16777216), UInt8.ofNat (n / 65536), UInt8.ofNat (n / 256), UInt8.ofNat n]
def padL (L : List UInt8) : List UInt8 := L ++ [128] ++ List.replicate (noughts L.length) 0 ++ lenL (8 * L.length)
def bytesW (x : UInt32) : List UInt8 := [(x >>> 24).toUInt8, (x >>> 16).toUInt8, (x >>> 8).toUInt8, x.toUInt8]
def idL (L : List UInt8) : List UInt8 := (blocksK s0 (padL L) ((padL L).length / 64)).list.flatMap bytesW
theorem noughts_spec (n : Nat) : (n + 1 + noughts n) % 64 = 56 := by unfold noughts; omega
theorem padL_length (L : List UInt8) : (padL L).length % 64 = 0 := by
  have := noughts_spec L.length
  simp [padL, lenL]; omega
end
section
open Go.RowKit Go.WideShapes Go.ChangeShapes
theorem block_of_add (a : Addr) (n : Nat) : (a.add n).block = a.block := by unfold Addr.add; split <;> rfl
theorem add_of_add (a : Addr) (i j : Nat) : (a.add i).add j = a.add (i + j) := by
  unfold Addr.add
  by_cases hi : i = 0 <;> by_cases hj : j = 0 <;> simp [hi, hj, Nat.add_assoc]
def Reads (w : World) (B size : Nat) (A : Option Addr) (n : Nat) (xs : List Value) : Prop :=
  xs.length = n * size ∧ (0 < n → ∃ ad, A = some ad ∧ ad.block < B ∧ ∀ j u, xs[j]? = some u → w.cell? (ad.add j) = some u)
section
variable {w w' : World} {B B' size n : Nat} {A : Option Addr} {xs : List Value}
theorem Reads.none_ : Reads w B size A 0 [] := ⟨by simp, fun h => absurd h (by omega)⟩
theorem Reads.at_ {k : Nat} (h : Reads w B 1 A n xs) (hk : k < n) : ∃ ad u, A = some ad ∧ ad.block < B ∧ xs[k]? = some u ∧ w.cell? (ad.add k) = some u := by
  obtain ⟨ad, e, hb, hc⟩ := h.2 (by omega)
  have hl : k < xs.length := by have := h.1; omega
  exact ⟨ad, xs[k], e, hb, List.getElem?_eq_getElem hl, hc k _ (List.getElem?_eq_getElem hl)⟩
theorem Reads.keep (h : Reads w B size A n xs) (hk : ∀ p : Addr, p.block < B → w'.cell? p = w.cell? p) : Reads w' B size A n xs :=
  ⟨h.1, fun hn => by
    obtain ⟨ad, e, hb, hc⟩ := h.2 hn
    exact ⟨ad, e, hb, fun j u hu => (hk _ (by rw [block_of_add]; exact hb)).trans (hc j u hu)⟩⟩
theorem Reads.more (h : Reads w B size A n xs) (hB : B ≤ B') : Reads w B' size A n xs :=
  ⟨h.1, fun hn => by
    obtain ⟨ad, e, hb, hc⟩ := h.2 hn
    exact ⟨ad, e, by omega, hc⟩⟩
theorem Reads.below (h : Reads w B size A n xs) (hb : Below B w w') : Reads w' B size A n xs := h.keep fun _ hp => hb.cell hp
theorem Reads.drew (h : Reads w B size A n xs) : Reads w.drew B size A n xs := h
theorem Reads.drewN (h : Reads w B size A n xs) (k : Nat) : Reads (w.drewN k) B size A n xs := h
theorem Reads.alloc (h : Reads w B size A n xs) (hB : B ≤ w.heap.size) (o : Obj) : Reads (w.alloc o) B size A n xs := h.keep fun p hp => World.cell?_alloc_lt w o p (by omega)
theorem Reads.setCell (h : Reads w B size A n xs) {p : Addr} (hB : B ≤ p.block) (u : Value) : Reads (w.setCell p u) B size A n xs :=
  h.keep fun q hq => World.cell?_setCell_other w p q u (fun e => by subst e; omega)
theorem Reads.grown (h : Reads w B size A n xs) {row : Option Nat} (hg : w.grownBy w' row) (hB : B ≤ w.heap.size) (hr : ∀ g, row = some g → B ≤ g) : Reads w' B size A n xs :=
  h.keep fun p hp => World.cell?_of_block (hg.block p.block (by omega) (fun e => by have := hr _ e.symm; omega))
theorem Reads.cut (h : Reads w B size A n xs) {k cap : Nat} (hk : k ≤ n) (hc : n ≤ cap) :
    Reads w B size (if cap = k then A else A.map (·.add (k * size))) (n - k) (xs.drop (k * size)) := by
  refine ⟨by rw [List.length_drop, h.1, Nat.sub_mul], fun hn => ?_⟩
  obtain ⟨ad, rfl, hb, hcell⟩ := h.2 (by omega)
  rw [if_neg (by omega)]
  refine ⟨ad.add (k * size), rfl, by rw [block_of_add]; exact hb, fun j u hu => ?_⟩
  rw [add_of_add]
  exact hcell _ u (by rw [← hu, List.getElem?_drop])
theorem Reads.of_own {base : Nat} {e : TypeId} {c : Nat} (h : w.ownsRow base e size (.slice A n c) n xs) : Reads w w.heap.size size A n xs := by
  refine ⟨h.1, fun hn => ?_⟩
  obtain ⟨g, cap, hv, _, hlt⟩ := h.form hn
  have hA : A = some ⟨g, 0, none⟩ := by injection hv
  subst hA
  exact ⟨_, rfl, hlt, h.cells (g := g) rfl⟩
end
section
variable {P : Program} (w : World)
theorem run_append_of_nil (base : Nat) (t ty e : TypeId) (i : TypeInfo) (size : Nat) (ht : P.underlying t = some (.slice e)) (hi : P.info? e = some i)
    (v : Value) (n : Nat) (xs : List Value) (hown : w.ownsRow base e size v n xs) (c : Nat) : (Builtin.append_ #[t, t] ty #[v, .slice none 0 c]).run P w = .ok v w := by
  rcases hown.2 with ⟨rfl, rfl⟩ | ⟨g, cap, cur, rfl, _, _, hnc, _⟩
  · simp [Builtin.append_, run_underlying ht, sizeOf, typeInfo, hi, Builtin.lenOf, Builtin.firstCells]
  · simp [Builtin.append_, run_underlying ht, sizeOf, typeInfo, hi, Builtin.lenOf, Builtin.firstCells, hnc, storeCells]
theorem run_append_any (base : Nat) (t ty e : TypeId) (i : TypeInfo) (z : Value) (size bytes : Nat) (ht : P.underlying t = some (.slice e)) (hi : P.info? e = some i) (hz : i.zero = some z)
    (hsize : i.size = size) (hby : i.bytes = bytes) (hzs : z.cells.size = size) (hsz : 0 < size)
    (v : Value) (n : Nat) (xs : List Value) (hown : w.ownsRow base e size v n xs)
    (B : Nat) (A : Option Addr) (m c : Nat) (news : List Value) (hr : Reads w B size A m news) (h1 : ∀ u ∈ news, u.oneCell' = true)
    (h63 : n + m ≤ maxLen) (hbytes : (n + m) * bytes ≤ 140737488355328) (hbase : base ≤ w.heap.size) :
    ∃ v' w', (Builtin.append_ #[t, t] ty #[v, .slice A m c]).run P w = .ok v' w' ∧ w'.ownsRow base e size v' (n + m) (xs ++ news) ∧ w.grownBy w' v.ownBlock ∧
      (v'.ownBlock = v.ownBlock ∨ v'.ownBlock = some w.heap.size) := by
  rcases A with _ | ad
  · have hm : m = 0 := by
      rcases Nat.eq_zero_or_pos m with h0 | h0
      · exact h0
      · obtain ⟨ad, h, _⟩ := hr.2 h0
        cases h
    subst hm
    have hn : news = [] := List.eq_nil_of_length_eq_zero (by simpa using hr.1)
    subst hn
    exact ⟨v, w, run_append_of_nil w base t ty e i size ht hi v n xs hown c, by simpa using hown, World.grownBy.refl w _, .inl rfl⟩
  · have hcells : ∀ j u, news[j]? = some u → w.cell? (ad.add j) = some u := by
      intro j u hu
      rcases Nat.eq_zero_or_pos m with h0 | h0
      · subst h0
        have hn : news = [] := List.eq_nil_of_length_eq_zero (by simpa using hr.1)
        subst hn
        simp at hu
      · obtain ⟨ad', h, _, hc⟩ := hr.2 h0
        injection h with h
        subst h
        exact hc j u hu
    obtain ⟨v', w', hrun, h2, h3, _, h5⟩ := run_append_own_at (P := P) w base t ty e i z size bytes ht hi hz hsize hby hzs hsz v n xs hown ad m c news hr.1 hcells h1 h63 hbytes hbase
    exact ⟨v', w', hrun, h2, h3, h5⟩
theorem wp_append_any {o : Oper} {a : Act} {K : Act → World → Prop} {Q : Exit → Act → World → Prop} (s x : Operand) (t : TypeId)
    (ho : o.op = .call { callee := .builtin .append, args := #[s, x], argTypes := #[t, t] })
    (base : Nat) (e : TypeId) (i : TypeInfo) (z : Value) (size bytes : Nat) (ht : P.underlying t = some (.slice e)) (hi : P.info? e = some i) (hz : i.zero = some z)
    (hsize : i.size = size) (hby : i.bytes = bytes) (hzs : z.cells.size = size) (hsz : 0 < size)
    (v : Value) (n : Nat) (xs : List Value) (hs : a.eval s = v) (hown : w.ownsRow base e size v n xs)
    (B : Nat) (A : Option Addr) (m c : Nat) (news : List Value) (hx : a.eval x = .slice A m c) (hr : Reads w B size A m news) (h1 : ∀ u ∈ news, u.oneCell' = true)
    (h63 : n + m ≤ maxLen) (hbytes : (n + m) * bytes ≤ 140737488355328) (hbase : base ≤ w.heap.size)
    (h : ∀ v' w', w'.ownsRow base e size v' (n + m) (xs ++ news) → w.grownBy w' v.ownBlock → (v'.ownBlock = v.ownBlock ∨ v'.ownBlock = some w.heap.size) → K (a.put o.dst v') w') : o.wp P a w K Q := by
  obtain ⟨v', w', hrun, h2, h3, h4⟩ := run_append_any (P := P) w base t o.type e i z size bytes ht hi hz hsize hby hzs hsz v n xs hown B A m c news hr h1 h63 hbytes hbase
  unfold Oper.wp execOp
  simp only [ho, resolve, invoke, builtin, Sem.run_bind, Sem.run_pure, Result.andThen_ok, List.map_toArray, List.map_cons, List.map_nil, hs, hx, hrun]
  exact h v' w' h2 h3 h4
theorem wpList_append_any {ops : Array Oper} {rest : List Oper} {o : Oper} {a : Act} {Q : Exit → Act → World → Prop} (hgd : o.guard = none) (s x : Operand) (t : TypeId)
    (ho : o.op = .call { callee := .builtin .append, args := #[s, x], argTypes := #[t, t] })
    (base : Nat) (e : TypeId) (i : TypeInfo) (z : Value) (size bytes : Nat) (ht : P.underlying t = some (.slice e)) (hi : P.info? e = some i) (hz : i.zero = some z)
    (hsize : i.size = size) (hby : i.bytes = bytes) (hzs : z.cells.size = size) (hsz : 0 < size)
    (v : Value) (n : Nat) (xs : List Value) (hs : a.eval s = v) (hown : w.ownsRow base e size v n xs)
    (B : Nat) (A : Option Addr) (m c : Nat) (news : List Value) (hx : a.eval x = .slice A m c) (hr : Reads w B size A m news) (h1 : ∀ u ∈ news, u.oneCell' = true)
    (h63 : n + m ≤ maxLen) (hbytes : (n + m) * bytes ≤ 140737488355328) (hbase : base ≤ w.heap.size)
    (h : ∀ v' w', w'.ownsRow base e size v' (n + m) (xs ++ news) → w.grownBy w' v.ownBlock → (v'.ownBlock = v.ownBlock ∨ v'.ownBlock = some w.heap.size) → wpList P ops Q rest (a.put o.dst v') w') : wpList P ops Q (o :: rest) a w :=
  wpList_plain hgd fun _ hK => wp_append_any w s x t ho base e i z size bytes ht hi hz hsize hby hzs hsz v n xs hs hown B A m c news hx hr h1 h63 hbytes hbase fun v' w' h2 h3 h4 => hK _ _ (h v' w' h2 h3 h4)
theorem step_append_any {ops : Array Oper} {o : Oper} {a : Act} {K : Act → World → Prop} {Q : Exit → Act → World → Prop} {E : Prop} (hgd : o.guard = none) (s x : Operand) (t : TypeId)
    (ho : o.op = .call { callee := .builtin .append, args := #[s, x], argTypes := #[t, t] })
    (base : Nat) (e : TypeId) (i : TypeInfo) (z : Value) (size bytes : Nat) (ht : P.underlying t = some (.slice e)) (hi : P.info? e = some i) (hz : i.zero = some z)
    (hsize : i.size = size) (hby : i.bytes = bytes) (hzs : z.cells.size = size) (hsz : 0 < size)
    (v : Value) (n : Nat) (xs : List Value) (hs : a.eval s = v) (hown : w.ownsRow base e size v n xs)
    (B : Nat) (A : Option Addr) (m c : Nat) (news : List Value) (hx : a.eval x = .slice A m c) (hr : Reads w B size A m news) (h1 : ∀ u ∈ news, u.oneCell' = true)
    (h63 : n + m ≤ maxLen) (hbytes : (n + m) * bytes ≤ 140737488355328) (hbase : base ≤ w.heap.size)
    (h : ∀ v' w', w'.ownsRow base e size v' (n + m) (xs ++ news) → w.grownBy w' v.ownBlock → (v'.ownBlock = v.ownBlock ∨ v'.ownBlock = some w.heap.size) → K (a.put o.dst v') w') :
    if Region.wanted o (yielded ops a.tmps) = true then Oper.wp P o a w K Q else E := by
  have hw : Region.wanted o (yielded ops a.tmps) = true := by simp [Region.wanted, hgd]
  rw [if_pos hw]
  exact wp_append_any w s x t ho base e i z size bytes ht hi hz hsize hby hzs hsz v n xs hs hown B A m c news hx hr h1 h63 hbytes hbase h
end
section
variable {H : Type} {enc : TypeId × Value → H} {P : Program}
theorem post_of_below {f : Func} {s : ChangeSpec} {apart fresh handsOn again : Bool} {W W' : World} {args : Array Value} {v : Value} {ds gs : List (DataW H)} {before pa pv : List MemPlace}
    (hW : DataW.Whole enc P f.params.toList s.vars apart W args.toList ds gs before)
    (hres : ∀ (b : Nat) (sp : Nat → Bool) (hd : Bool), DataW.TrodAll enc P W' b sp hd f.resultTypes.toList (v.resultList f.resultTypes.size) (s.fn H (ds ++ gs)).results [])
    (hargs : ∀ sp : Nat → Bool, (∀ p ∈ before, sp p.block = true) → DataW.TrodAll enc P W' 0 sp true f.params.toList args.toList (s.fn H (ds ++ gs)).args pa)
    (hvars : ∀ sp : Nat → Bool, (∀ p ∈ before, sp p.block = true) → DataW.TrodVars enc P W' sp s.vars (s.fn H (ds ++ gs)).vars pv)
    (hps : before = pa ++ pv) (hb : Below W.heap.size W W')
    (hok : ∀ (j : Nat) (t : TypeId) (r : Value), f.resultTypes[j]? = some t → (v.resultList f.resultTypes.size)[j]? = some r → Value.okWide P W' .any 0 t r) :
    s.post enc P f apart fresh handsOn again W args v W' := by
  have hlt : ∀ p ∈ before, p.block < W.heap.size := fun p hp => hW.lt p hp
  have hold : ∀ p ∈ before, (fun b => decide (b < W.heap.size)) p.block = true := fun p hp => by simpa using hlt p hp
  refine ⟨ds, gs, before, [], pa, pv, hW, hres _ _ _, hargs _ hold, hvars _ hold, World.keptBut_mono (fun p hp => ⟨hp, ?_⟩) (hb.frame (· ∈ before)), fun _ => ?_⟩
  · rw [hps, List.mem_append] at hp
    exact Or.inr hp
  · obtain ⟨_, _, _, _, _, hz, hn⟩ := hW
    refine ⟨hok, _, _, ([] ++ pa) ++ pv, ⟨[] ++ pa, pv, trodAll_append (hargs _ (fun _ _ => rfl)) (hres _ _ _), hvars _ (fun _ _ => rfl), rfl, ?_, ?_⟩, ?_⟩
    · intro b off hp
      have hin : MemPlace.cell b off ∈ before := by rw [hps]; simpa using hp
      rw [hb.frozen (hlt _ hin)]
      exact hz b off hin
    · intro ha
      have := hn ha
      rw [hps] at this
      simpa using this
    · intro p hp _
      rw [hps]
      simpa using hp
end
def Blk (w : World) (g : Nat) (t : TypeId) (cs : Array Value) : Prop := w.heap[g]? = some (.cells cs t (0, 0))
section
variable {w w' : World} {g : Nat} {t : TypeId} {cs : Array Value}
theorem Blk.lt (h : Blk w g t cs) : g < w.heap.size := by
  rcases Nat.lt_or_ge g w.heap.size with hlt | hge
  · exact hlt
  · unfold Blk at h; rw [Array.getElem?_eq_none hge] at h; cases h
theorem Blk.cell (h : Blk w g t cs) (i : Nat) : w.cell? ⟨g, i, none⟩ = cs[i]? := cell_of_row w g i cs t (0, 0) h
theorem Blk.frozen (h : Blk w g t cs) (i : Nat) : w.frozen? ⟨g, i, none⟩ = false := by
  unfold Blk at h
  simp [World.frozen?, h]
theorem Blk.new (w : World) (t : TypeId) (cs : Array Value) : Blk (w.alloc (.cells cs t)) w.heap.size t cs := heap_alloc_new w _
theorem Blk.drew (h : Blk w g t cs) : Blk w.drew g t cs := h
theorem Blk.drewN (h : Blk w g t cs) (n : Nat) : Blk (w.drewN n) g t cs := h
theorem Blk.alloc (h : Blk w g t cs) (o : Obj) : Blk (w.alloc o) g t cs := (Below.heap_alloc w o g h.lt).trans h
theorem Blk.set_ (h : Blk w g t cs) (i : Nat) (u : Value) : Blk (w.setCell ⟨g, i, none⟩ u) g t (cs.setIfInBounds i u) := by
  unfold Blk at h ⊢
  simp [World.setCell, Array.getElem?_modify, h]
theorem Blk.far (h : Blk w g t cs) {p : Addr} (hp : g ≠ p.block) (u : Value) : Blk (w.setCell p u) g t cs := (Below.heap_setCell w p u g hp).trans h
theorem Blk.below {B : Nat} (h : Blk w g t cs) (hb : Below B w w') (hg : g < B) : Blk w' g t cs := (hb.block g hg).trans h
theorem Blk.grown {row : Option Nat} (h : Blk w g t cs) (hb : w.grownBy w' row) (hg : some g ≠ row) : Blk w' g t cs := (hb.block g h.lt hg).trans h
end
def cells (L : List UInt8) : List Value := L.map fun b => .int .u8 (b.toNat : Int)
theorem cells_length (L : List UInt8) : (cells L).length = L.length := by simp [cells]
theorem cells_one (L : List UInt8) : ∀ u ∈ cells L, u.oneCell' = true := by
  intro u hu
  simp only [cells, List.mem_map] at hu
  obtain ⟨b, _, rfl⟩ := hu
  rfl
theorem cells_append (L M : List UInt8) : cells (L ++ M) = cells L ++ cells M := by simp [cells]
theorem cells_get (L : List UInt8) (k : Nat) (h : k < L.length) : (cells L)[k]? = some (.int .u8 (L[k].toNat : Int)) := by
  simp [cells, List.getElem?_eq_getElem h]
theorem cells_drop (L : List UInt8) (k : Nat) : (cells L).drop k = cells (L.drop k) := by simp [cells]
theorem cells_take (L : List UInt8) (k : Nat) : (cells L).take k = cells (L.take k) := by simp [cells]
def text (L : List UInt8) : ByteArray := ⟨L.toArray⟩
def RB (w : World) (B : Nat) (A : Option Addr) (L : List UInt8) : Prop := Reads w B 1 A L.length (cells L)
section
variable {w w' : World} {B B' : Nat} {A : Option Addr} {L : List UInt8}
theorem RB.below (h : RB w B A L) (hb : Below B w w') : RB w' B A L := Reads.below h hb
theorem RB.more (h : RB w B A L) (hB : B ≤ B') : RB w B' A L := Reads.more h hB
theorem RB.alloc (h : RB w B A L) (hB : B ≤ w.heap.size) (o : Obj) : RB (w.alloc o) B A L := Reads.alloc h hB o
theorem RB.drew (h : RB w B A L) : RB w.drew B A L := h
theorem RB.drewN (h : RB w B A L) (k : Nat) : RB (w.drewN k) B A L := h
theorem RB.none_ (w : World) (B : Nat) : RB w B none [] := Reads.none_
theorem RB.at_ (h : RB w B A L) (hn : 0 < L.length) : ∃ b off, A = some ⟨b, off, none⟩ ∧ b < B ∧ ∀ k (hk : k < L.length), w.cell? ⟨b, off + k, none⟩ = some (.int .u8 (L[k].toNat : Int)) := by
  obtain ⟨ad, e, hb, hc⟩ := h.2 hn
  have h0 := hc 0 _ (cells_get L 0 hn)
  obtain ⟨b, off, p⟩ := ad
  have e0 : (⟨b, off, p⟩ : Addr).add 0 = ⟨b, off, p⟩ := by simp [Addr.add]
  rw [e0] at h0
  have hp : p = none := World.cell?_spot h0
  subst hp
  refine ⟨b, off, e, hb, fun k hk => ?_⟩
  have := hc k _ (cells_get L k hk)
  have ea : (⟨b, off, none⟩ : Addr).add k = ⟨b, off + k, none⟩ := by unfold Addr.add; split <;> simp_all
  rwa [ea] at this
end
end
end Go.Proofs.YtinphkflfdpaeaaDoor
