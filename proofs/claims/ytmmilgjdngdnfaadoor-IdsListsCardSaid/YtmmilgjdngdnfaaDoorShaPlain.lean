/- Plain mathematics of SHA-256: words, the schedule, the rounds, blocks, padding, the ID. Nothing of the program. -/
import Init.Data.List.Lemmas
import Init.Data.UInt.Lemmas
set_option linter.unusedVariables false
namespace Go.Proofs.YtmmilgjdngdnfaaDoor

/-- A word's bits, so many places to the right, those that fall out at the left. -/
def rotR (x : UInt32) (n : Nat) : UInt32 := x >>> UInt32.ofNat n ||| x <<< UInt32.ofNat (32 - n)
def sig0 (x : UInt32) : UInt32 := rotR x 7 ^^^ rotR x 18 ^^^ x >>> 3
def sig1 (x : UInt32) : UInt32 := rotR x 17 ^^^ rotR x 19 ^^^ x >>> 10
def big0 (x : UInt32) : UInt32 := rotR x 2 ^^^ rotR x 13 ^^^ rotR x 22
def big1 (x : UInt32) : UInt32 := rotR x 6 ^^^ rotR x 11 ^^^ rotR x 25
def chL (x y z : UInt32) : UInt32 := (x &&& y) ^^^ ((x ^^^ 4294967295) &&& z)
def majL (x y z : UInt32) : UInt32 := (x &&& y) ^^^ (x &&& z) ^^^ (y &&& z)
/-- Four bytes as one. -/
def wordL (a b c d : UInt8) : UInt32 := a.toUInt32 <<< 24 ||| b.toUInt32 <<< 16 ||| c.toUInt32 <<< 8 ||| d.toUInt32
/-- Word k of a block's schedule, of the words ahead. -/
def schedW (B : List UInt8) (W : List UInt32) (k : Nat) : UInt32 :=
  if k < 16 then wordL (B.getD (4 * k) 0) (B.getD (4 * k + 1) 0) (B.getD (4 * k + 2) 0) (B.getD (4 * k + 3) 0)
  else W.getD (k - 16) 0 + sig0 (W.getD (k - 15) 0) + W.getD (k - 7) 0 + sig1 (W.getD (k - 2) 0)
def schedK (B : List UInt8) : Nat → List UInt32
  | 0 => []
  | k + 1 => schedK B k ++ [schedW B (schedK B k) k]
theorem schedK_length (B : List UInt8) : ∀ k, (schedK B k).length = k := by
  intro k
  induction k with
  | zero => rfl
  | succ k ih => simp [schedK, ih]
/-- Eight words. -/
structure S8 where
  a : UInt32
  b : UInt32
  c : UInt32
  d : UInt32
  e : UInt32
  f : UInt32
  g : UInt32
  h : UInt32
def S8.list (s : S8) : List UInt32 := [s.a, s.b, s.c, s.d, s.e, s.f, s.g, s.h]
def kL : List UInt32 := [
  1116352408, 1899447441, 3049323471, 3921009573, 961987163, 1508970993, 2453635748, 2870763221,
  3624381080, 310598401, 607225278, 1426881987, 1925078388, 2162078206, 2614888103, 3248222580,
  3835390401, 4022224774, 264347078, 604807628, 770255983, 1249150122, 1555081692, 1996064986,
  2554220882, 2821834349, 2952996808, 3210313671, 3336571891, 3584528711, 113926993, 338241895,
  666307205, 773529912, 1294757372, 1396182291, 1695183700, 1986661051, 2177026350, 2456956037,
  2730485921, 2820302411, 3259730800, 3345764771, 3516065817, 3600352804, 4094571909, 275423344,
  430227734, 506948616, 659060556, 883997877, 958139571, 1322822218, 1537002063, 1747873779,
  1955562222, 2024104815, 2227730452, 2361852424, 2428436474, 2756734187, 3204031479, 3329325298]
def s0 : S8 := ⟨1779033703, 3144134277, 1013904242, 2773480762, 1359893119, 2600822924, 528734635, 1541459225⟩
/-- One round. -/
def roundL (s : S8) (k w : UInt32) : S8 :=
  ⟨s.h + big1 s.e + chL s.e s.f s.g + k + w + (big0 s.a + majL s.a s.b s.c), s.a, s.b, s.c, s.d + (s.h + big1 s.e + chL s.e s.f s.g + k + w), s.e, s.f, s.g⟩
def roundsK (W : List UInt32) (s : S8) : Nat → S8
  | 0 => s
  | n + 1 => roundL (roundsK W s n) (kL.getD n 0) (W.getD n 0)
def addS (s t : S8) : S8 := ⟨s.a + t.a, s.b + t.b, s.c + t.c, s.d + t.d, s.e + t.e, s.f + t.f, s.g + t.g, s.h + t.h⟩
/-- What a state becomes by a block. -/
def blockL (s : S8) (B : List UInt8) : S8 := addS s (roundsK (schedK B 64) s 64)
/-- What it becomes by so many blocks. -/
def blocksK (s : S8) (P : List UInt8) : Nat → S8
  | 0 => s
  | k + 1 => blockL (blocksK s P k) ((P.drop (64 * k)).take 64)
/-- How many noughts. -/
def noughts (n : Nat) : Nat := (119 - n % 64) % 64
def lenL (n : Nat) : List UInt8 := [0, 0, 0, UInt8.ofNat (n / 4294967296), UInt8.ofNat (n / 16777216), UInt8.ofNat (n / 65536), UInt8.ofNat (n / 256), UInt8.ofNat n]
def padL (L : List UInt8) : List UInt8 := L ++ [128] ++ List.replicate (noughts L.length) 0 ++ lenL (8 * L.length)
def bytesW (x : UInt32) : List UInt8 := [(x >>> 24).toUInt8, (x >>> 16).toUInt8, (x >>> 8).toUInt8, x.toUInt8]
def idL (L : List UInt8) : List UInt8 := (blocksK s0 (padL L) ((padL L).length / 64)).list.flatMap bytesW

theorem noughts_spec (n : Nat) : (n + 1 + noughts n) % 64 = 56 := by unfold noughts; omega
theorem padL_length (L : List UInt8) : (padL L).length % 64 = 0 := by
  have := noughts_spec L.length
  simp [padL, lenL]; omega

end Go.Proofs.YtmmilgjdngdnfaaDoor
