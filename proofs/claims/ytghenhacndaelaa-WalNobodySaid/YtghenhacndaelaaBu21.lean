/- Lemmas under the proofs of this place: WalFit, DiskPWrite. No statement is proved here. -/
import Derived.Test.YtghenhacndaelaaBu19
import Derived.Test.YtghenhacndaelaaBu10
import Derived.Test.YtghenhacndaelaaBu11
set_option linter.unusedVariables false
set_option maxRecDepth 100000
set_option maxHeartbeats 16000000
namespace Go.Proofs.Ytghenhacndaelaa
section
open Wal
structure Lg.fit (l : Lg) (len : Nat) : Prop where
  used : l.b.length ≤ 64 * l.n
  whole : l.b.length % 64 = 0
  few : l.n ≤ 1000
  four : l.n % 4 = 0
  area : l.frm + l.n / 4 ≤ len
  epoch : 1 ≤ l.epoch ∧ l.epoch ≤ 2147483647
namespace Wal
theorem deed_load13 (D : Dk) : (Dk.deed D).1.load = D.load := by
  unfold Dk.deed
  split
  · rfl
  · split
    · rfl
    · rfl
def Keep (d d' : Dk) (n : Nat) : Prop := d'.safe.length = d.safe.length ∧ d'.load ≤ d.load + n
theorem Keep.refl (d : Dk) : Keep d d 0 := ⟨rfl, Nat.le_refl _⟩
theorem Keep.trans {a b c : Dk} {m n : Nat} (h : Keep a b m) (k : Keep b c n) : Keep a c (m + n) := ⟨k.1.trans h.1, by have := h.2; have := k.2; omega⟩
theorem Keep.more {a b : Dk} {m n : Nat} (h : Keep a b m) (hn : m ≤ n) : Keep a b n := ⟨h.1, by have := h.2; omega⟩
theorem keep_write (d : Dk) (i : Int) (b : List UInt8) : Keep d (d.write i b).1 2 := by
  have h1 := deed_load13 { d with waits := d.waits ++ [(i.toNat, b)] }
  have h2 : ({ d with waits := d.waits ++ [(i.toNat, b)] } : Dk).load = d.load + 1 := by unfold Dk.load; simp; omega
  have h3 := Dk.deed_same { d with waits := d.waits ++ [(i.toNat, b)] }
  unfold Dk.write
  split
  · exact (Keep.refl d).more (by omega)
  split
  · exact (Keep.refl d).more (by omega)
  split
  · exact (Keep.refl d).more (by omega)
  split
  · rename_i e he
    rw [he] at h1 h3
    simp only at h1 h3
    exact ⟨by rw [h3.1], by show e.load ≤ _; omega⟩
  · rename_i e he
    rw [he] at h1 h3
    simp only at h1 h3
    refine ⟨by show e.safe.length = _; rw [h3.1], ?_⟩
    show e.reads + (e.writes + 1) + e.flushes + e.waits.length ≤ _
    unfold Dk.load at h1 h2 ⊢
    omega
theorem keep_flush (d : Dk) : Keep d d.flush.1 1 := by
  have h1 := deed_load13 d
  have h3 := Dk.deed_same d
  unfold Dk.flush
  split
  · exact (Keep.refl d).more (by omega)
  split
  · rename_i e he
    rw [he] at h1 h3
    simp only at h1 h3
    exact ⟨by rw [h3.1], by show e.load ≤ _; omega⟩
  · rename_i e he
    rw [he] at h1 h3
    simp only at h1 h3
    refine ⟨by show (Dk.laid e.safe e.waits).length = _; rw [Dk.laid_length, h3.1], ?_⟩
    show e.reads + e.writes + (e.flushes + 1) + 0 ≤ _
    unfold Dk.load at h1 ⊢
    omega
theorem keep_stop (d : Dk) (i : Int) : Keep d (d.stop i).1 0 := by
  unfold Dk.stop
  split
  · exact Keep.refl d
  · exact ⟨rfl, Nat.le_refl _⟩
theorem keep_crash (d : Dk) (masks : List Int) : Keep d (d.crash masks) 0 :=
  ⟨by show (Dk.crashed _ _ _ _).length = _; rw [Dk.crashed_length], by show d.reads + d.writes + d.flushes + 0 ≤ d.reads + d.writes + d.flushes + d.waits.length + 0; omega⟩
theorem keep_writes (frm : Nat) (all : List UInt8) : ∀ (m k : Nat) (d : Dk), Keep d (writesW frm all m k d).1 (2 * m)
  | 0, k, d => Keep.refl d
  | m + 1, k, d => by
    have h1 := keep_write d ((frm + k : Nat) : Int) (blkW all k)
    rw [writesW]
    split
    · exact (h1.trans (keep_writes frm all m (k + 1) _)).more (by omega)
    · exact h1.more (by omega)
end Wal
end
section
open Go.RowKit
def Dk.wrote : Dk × Bool → Dk × Int
  | (e, false) => (e, 9)
  | (e, true) => ({ e with writes := e.writes + 1 }, 0)
theorem Dk.write_yes {d : Dk} {i : Int} {b : List UInt8} (ho : d.off = false) (ht : d.there i = true) (hb : b.length = 256) : d.write i b = Dk.wrote (Dk.deed { d with waits := d.waits ++ [(i.toNat, b)] }) := by
  unfold Dk.write
  rw [ho, ht]
  simp only [Bool.false_eq_true, Bool.not_true, if_false, hb]
  generalize Dk.deed _ = r
  obtain ⟨e, q⟩ := r
  cases q <;> simp [Dk.wrote]
def oneWait (k : Nat) (L : List UInt8) : List Value := .int .i64 (k : Int) :: cells L
theorem oneWait_one (k : Nat) (L : List UInt8) : ∀ u ∈ oneWait k L, u.oneCell' = true := fun u hu => by
  rcases List.mem_cons.1 hu with rfl | h
  · rfl
  · exact cells_one _ u h
theorem Try.builtWrite (k : Int) : Try.prog.built 69 [(0, .int .i64 k)] = some ((Value.int .i64 k :: cells (List.replicate 256 0)).toArray) := by kernel_rfl
theorem Try.writeZero : (Try.prog.info? 69).map (fun i => (i.zero, i.size)) = some (some (.agg (oneWait 0 (List.replicate 256 0)).toArray), (oneWait 0 (List.replicate 256 0)).toArray.size) := by kernel_rfl
theorem Try.writeSize : (Try.prog.info? 69).map (·.size) = some 257 := by kernel_rfl
theorem Try.writeInfo : (Try.prog.info? 69).map (fun i => (i.zero, i.size, i.bytes)) = some (some (.agg (oneWait 0 (List.replicate 256 0)).toArray), 257, 264) := by kernel_rfl
theorem splice_wait (k : Nat) (Z L : List UInt8) (h : Z.length = L.length) : splice (oneWait k Z) 1 (cells L) = oneWait k L := by
  unfold splice oneWait
  rw [List.take_succ_cons, List.take_zero, List.drop_eq_nil_of_le (by simp [cells_length]; omega)]
  simp
theorem Try.writeDesc_ : (match Try.prog.underlying 69 with | some d => d.isRow | none => false) = true := by kernel_rfl
theorem oneWait_length (k : Nat) (L : List UInt8) : (oneWait k L).length = L.length + 1 := by simp [oneWait, cells_length]
theorem wait_range {W : World} {g8 : Nat} {t : TypeId} {k : Nat} {L : List UInt8} (h : Blk W g8 t (oneWait k L).toArray) : W.rangeAt g8 0 (oneWait k L) := fun j v hv => by
  rw [h.cell]; simpa using hv
theorem wait_new (W : World) (WA : Array Value) (t : TypeId) {k : Nat} {L : List UInt8} (hWA : WA = (oneWait k L).toArray) (s : (oneWait k L).length = 257) : Reads (W.alloc (.cells WA t)) (W.heap.size + 1) 257 (some ⟨W.heap.size, 0, none⟩) 1 (oneWait k L) := by
  subst hWA
  refine ⟨by rw [s], fun h0 => ⟨_, rfl, by simp, fun j u hu => ?_⟩⟩
  have h := heap_alloc_new W (.cells (oneWait k L).toArray t)
  have e : (⟨W.heap.size, 0, none⟩ : Addr).add j = ⟨W.heap.size, j, none⟩ := by unfold Addr.add; split <;> simp_all
  rw [e, (blk_cell h j).1]
  simpa using hu
section
variable {w W : World} {g : Nat} {F : Nat → Prop} {d : Dk} {a ca b cb n : Nat} {V : Value} {ends : Bool} {lf : Int}
theorem write_pre (h : PD w g F d a ca b cb n V ends lf) (hb : Below w.heap.size w W) (g8 : Nat) (k : Nat) (L : List UInt8) (hB : Blk W g8 69 (oneWait k L).toArray) (WA : Array Value) :
    W.cell? ⟨g, 2, none⟩ = some V ∧ (W.alloc (.cells WA 69)).cell? ⟨g, 2, none⟩ = some V ∧ Blk (W.alloc (.cells WA 69)) g8 69 (oneWait k L).toArray ∧
      (W.alloc (.cells WA 69)).ownsRow 0 69 257 V d.waits.length (waitCells d.waits) := by
  have hp : PD W g F d a ca b cb n V ends lf := h.turns (Turns.of_below hb (fun _ => False)) (fun _ _ h => h)
  have hq : PD (W.alloc (.cells WA 69)) g F d a ca b cb n V ends lf := hp.turns (Turns.alloc _ (fun _ => False)) (fun _ _ h => h)
  exact ⟨hp.c2, hq.c2, hB.alloc _, hq.wait⟩
theorem write_mid (h : PD w g F d a ca b cb n V ends lf) (hb : Below w.heap.size w W) (g8 : Nat) (hg8 : w.heap.size ≤ g8) (k : Nat) (hk : k < d.safe.length) (L : List UInt8) (h256 : L.length = 256) (hB : Blk W g8 69 (oneWait k L).toArray) (WA : Array Value)
    {A : Option Addr} (hr : RB w w.heap.size A L) (hA : ∀ ad, A = some ad → ¬ F ad.block)
    {V' : Value} {w5 : World} (ho : w5.ownsRow 0 69 257 V' (d.waits.length + 1) (waitCells d.waits ++ oneWait k L)) (hg : (W.alloc (.cells WA 69)).grownBy w5 V.ownBlock)
    (hat : V'.ownBlock = V.ownBlock ∨ V'.ownBlock = some (W.alloc (.cells WA 69)).heap.size) :
    (w5.cell? ⟨g, 2, none⟩ = some V ∧ Blk w5 g8 69 (oneWait k L).toArray) ∧ w5.frozen? ⟨g, 2, none⟩ = false ∧ (w5.setCell ⟨g, 2, none⟩ V').cell? ⟨g, 1, none⟩ = some (.slice (some ⟨b, 0, none⟩) n cb) ∧
    RB (w5.setCell ⟨g, 2, none⟩ V') w.heap.size A L ∧
    ∃ sp, Blk (w5.setCell ⟨g, 2, none⟩ V') b 5 (cells d.image ++ sp).toArray ∧ ∀ w7, Hid (Blk w7 b 5 (splice (cells d.image ++ sp) (256 * k) (cells L)).toArray) → Hid (Turns (w5.setCell ⟨g, 2, none⟩ V') w7 (fun k => k = b) (fun k => k = b)) →
      ∃ F', PDisk w7 g F' { d with waits := d.waits ++ [(k, L)] } ∧ Turns w w7 F F' := by
  have hp : PD W g F d a ca b cb n V ends lf := h.turns (Turns.of_below hb (fun _ => False)) (fun _ _ h => h)
  have hq : PD (W.alloc (.cells WA 69)) g F d a ca b cb n V ends lf := hp.turns (Turns.alloc _ (fun _ => False)) (fun _ _ h => h)
  have hf := h.good.fit
  have hqs : W.heap.size ≤ (W.alloc (.cells WA 69)).heap.size := by simp
  have t1 : Turns w (W.alloc (.cells WA 69)) F F := (Turns.of_below hb F).trans (Turns.alloc _ F)
  have hBZ : Blk (W.alloc (.cells WA 69)) g8 69 (oneWait k L).toArray := hB.alloc _
  generalize W.alloc (.cells WA 69) = Z at hq hg hat hqs t1 hBZ
  have hF : ∀ k, F k → k < w.heap.size := h.flt
  obtain ⟨n1, n2, n3, n4, n5⟩ := hq.ne
  have hl : (waitCells d.waits ++ oneWait k L) = waitCells (d.waits ++ [(k, L)]) := by rw [waitCells_append]; simp [waitCells, oneWait]
  have hVg : V.ownBlock ≠ some g8 := fun e => by have := hF _ (h.fv _ e); omega
  have b5 : Blk w5 g 65 (diskCells a ca b cb n V ends lf d) := hq.blk.grown hg (fun e => n3 e.symm)
  have b8 : Blk w5 g8 69 (oneWait k L).toArray := hBZ.grown hg (fun e => hVg e.symm)
  obtain ⟨sa, hsa⟩ := hq.safe
  obtain ⟨sb, hsb⟩ := hq.last
  have ba := hsa.grown hg (fun e => n4 e.symm)
  have bb := hsb.grown hg (fun e => n5 e.symm)
  have hV'g : V'.ownBlock ≠ some g := own_blk_ne ho b5 (by decide)
  have hV'b : V'.ownBlock ≠ some b := own_blk_ne ho bb (by decide)
  have hV'lt := fun {k : Nat} (hk : V'.ownBlock = some k) => (own_lt ho hk).1
  have hnew : ∀ k, V'.ownBlock = some k → F k ∨ w.heap.size ≤ k := fun j hj => by
    rcases hat with e | e
    · exact .inl (h.fv _ (e ▸ hj))
    · rw [e] at hj
      injection hj with hj
      have := hb.size
      exact .inr (by omega)
  have t5 : Turns w w5 F F := t1.trans (Turns.grown hg (fun k hk => h.fv k hk))
  have t6 : Turns w (w5.setCell ⟨g, 2, none⟩ V') F F := t5.trans (Turns.set_ h.fg 2 V')
  refine ⟨⟨by rw [b5.cell]; rfl, b8⟩, b5.frozen 2, ?_, ?_, sb, bb.far (p := ⟨g, 2, none⟩) (fun e => n2 e.symm) V', fun w7 h7 ht7 => ?_⟩
  · rw [(b5.set_ 2 V').cell]; rfl
  · exact Reads.turns hr (Nat.le_refl _) t6 hA
  · have h7 := h7.out
    have ht7 := ht7.out
    have hib : 256 * k + L.length ≤ d.image.length := by rw [Dk.image_length hf]; omega
    rw [splice_cells _ _ _ _ hib, ← Dk.image_write hf k L hk h256] at h7
    refine ⟨fun j => F j ∨ V'.ownBlock = some j, ⟨a, ca, b, cb, n, V', ends, lf, ?_⟩, (t6.trans (ht7.wide (E := F) (E' := F) (fun k hk => by rw [hk]; exact h.fb) (fun k hk => .inl hk))).foot_ (fun j hj => by
      rcases hj with h1 | h1
      · exact .inl h1
      · rcases hnew j h1 with h2 | h2
        · exact .inl h2
        · exact .inr h2)⟩
    refine ⟨((b5.set_ 2 V').turns ht7 n2), h.size, h.capa, h.capb, ?_, ⟨sb, h7⟩, ?_, h.ab, .inl h.fg, .inl h.fa, .inl h.fb, fun k hk => .inr hk, fun j hj => ?_, ⟨⟨hf.1, fun x hx => ?_⟩, h.good.few, h.good.many, h.good.left⟩, h.ends_, h.left_⟩
    · exact Arr.turns ⟨sa, ba.far (p := ⟨g, 2, none⟩) (fun e => n1 e.symm) V'⟩ ht7 h.ab
    · rw [hl] at ho
      have h6 : (w5.setCell ⟨g, 2, none⟩ V').ownsRow 0 69 257 V' (d.waits.length + 1) (waitCells (d.waits ++ [(k, L)])) := own_turns ho (turns_own _ g 2 V') (fun k hk e => hV'g (by rw [hk, e]))
      have := own_turns h6 ht7 (fun k hk e => hV'b (by rw [hk, e]))
      simpa using this
    · rcases hj with h1 | h1
      · exact Nat.lt_of_lt_of_le (hF j h1) (Nat.le_trans t6.size ht7.size)
      · exact Nat.lt_of_lt_of_le (hV'lt h1) (Nat.le_trans (by simp [World.setCell]) ht7.size)
    · rcases List.mem_append.1 hx with h1 | h1
      · exact hf.2 x h1
      · rw [List.mem_singleton] at h1; subst h1; exact ⟨hk, h256⟩
end
theorem write_in {w : World} {g : Nat} {F : Nat → Prop} {d : Dk} {a ca b cb n : Nat} {V : Value} {ends : Bool} {lf : Int} (h : PD w g F d a ca b cb n V ends lf) (k : Nat) (hk : k < d.safe.length) (ho : d.off = false) (hl : d.load ≤ 100000)
    (L : List UInt8) (A : Option Addr) (c : Nat) (hr : RB w w.heap.size A L) (hA : ∀ ad, A = some ad → ¬ F ad.block) (h256 : L.length = 256) (hc : 256 ≤ c) (hcm : c ≤ 9223372036854775807) :
    Calls Try.prog 46 #[.pointer (some ⟨g, 0, none⟩), .int .i64 (k : Int), .slice A 256 c] w fun e w' => ∃ F', e = .returned (.int .i64 (d.write (k : Int) L).2) ∧ PDisk w' g F' (d.write (k : Int) L).1 ∧ Turns w w' F F' := by
  have HR := Lib.hid (reach_any ⟨a, ca, b, cb, n, V, ends, lf, h⟩ (k : Int))
  have ht : d.there (k : Int) = true := by unfold Dk.there; exact decide_eq_true (by omega)
  have er : d.reach (k : Int) = 0 := by unfold Dk.reach; rw [ho, ht]; rfl
  rw [er] at HR
  have HS := fun g8 W => sa_all g8 1 W
  obtain ⟨ZA, hZA⟩ : ∃ ZA, ZA = (oneWait 0 (List.replicate 256 0)).toArray := ⟨_, rfl⟩
  obtain ⟨HA, hHA⟩ : ∃ HA, HA = (oneWait k (List.replicate 256 0)).toArray := ⟨_, rfl⟩
  have sH : HA.size = 257 := by rw [hHA]; simp [oneWait, cells_length]
  have sZ : ZA.size = 257 := by rw [hZA]; simp [oneWait, cells_length]
  have hz : (Try.prog.info? 69).map (fun i => (i.zero, i.size)) = some (some (.agg ZA), ZA.size) := by rw [hZA]; exact Try.writeZero
  have h1 : HA.all (·.oneCell') = true := by rw [hHA]; exact all_oneCell_toArray (oneWait_one _ _)
  have HBd : Hid (Try.prog.built 69 [(0, .int .i64 (k : Int))] = some HA) := by
    show _ = _
    rw [Try.builtWrite, hHA]; rfl
  have hgw := h.flt g h.fg
  obtain ⟨WA, hWA⟩ : ∃ WA, WA = (oneWait k L).toArray := ⟨_, rfl⟩
  have sW : (oneWait k L).length = 257 := by rw [oneWait_length, h256]
  have sWA : WA.size = 257 := by rw [hWA]; simp [sW]
  have HSW := Lib.hid sW
  have HWA := Lib.hid hWA
  obtain ⟨i0, hi0, hz0, hz1, hz2⟩ := info_parts Try.writeInfo
  have H := Lib.hid h
  have HK := Lib.hid hk
  obtain ⟨e1, q, hq⟩ : ∃ e1 q, Dk.deed { d with waits := d.waits ++ [(k, L)] } = (e1, q) := ⟨_, _, rfl⟩
  have HW : Hid (d.write (k : Int) L = Dk.wrote (e1, q)) := by
    show _ = _
    rw [← hq]; exact Dk.write_yes ho ht h256
  have HFa : Hid (∀ (W : World) (F' : Nat → Prop), PDisk W g F' { d with waits := d.waits ++ [(k, L)] } → Calls Try.prog 63 #[.pointer (some ⟨g, 0, none⟩)] W fun e w' => e = .returned (.bool (!q)) ∧ Deeds e1 F' W w' g) := fun W F' hp => by
    have := falls_any hp ho
    rwa [hq] at this
  have HWr : Hid (e1.writes < 1000000) := by
    have e : e1.writes = d.writes := by
      have : (Dk.deed { d with waits := d.waits ++ [(k, L)] }).1.writes = d.writes := by
        unfold Dk.deed
        split
        · rfl
        · split <;> rfl
      rwa [hq] at this
    show e1.writes < 1000000
    unfold Dk.load at hl
    omega
  have HBl : Hid (∀ W, Calls Try.prog 48 #[.slice (some ⟨b, 0, none⟩) n cb, .int .i64 (k : Int)] W fun e w' => e = .returned (.slice (some ⟨b, 256 * k, none⟩) 256 (cb - 256 * k)) ∧ W = w') := fun W =>
    block_of b n cb k W (by have := h.size; omega) (by have := h.size; have := h.good.many; omega) h.capb.1 h.capb.2
  have Hfit : Hid (256 * k + 256 ≤ d.image.length) := by show _ ≤ _; rw [Dk.image_length h.good.fit]; omega
  have u1 : d.waits.length ≤ 100000 := by unfold Dk.load at hl; omega
  clear hWA sW
  have HStep : Hid (∀ (g8 : Nat) (w1 : World), Hid (w1 = w.alloc (.cells ZA 69)) → Hid (g8 = w.heap.size) → Below w.heap.size w (w1.setRow g8 HA) ∧ Blk (w1.setRow g8 HA) g8 69 (oneWait k (List.replicate 256 0)).toArray) := by
    intro g8 w1 hw1 hg8
    have b1 : Below w.heap.size w w1 := letter_below hw1 (Below.refl _ _) (Nat.le_refl _)
    refine ⟨below_setRow b1 (by have := hg8.out; omega) _, ?_⟩
    rw [← hHA]; exact setRow_heap _ _ _ _ _ _ (letter_blk hw1 hg8)
  have HStep3 : Hid (∀ (g8 : Nat) (w2 w3 : World), Hid (g8 = w.heap.size) → Below w.heap.size w w2 → Hid (Blk w3 g8 69 (splice (oneWait k (List.replicate 256 0)) 1 (cells L)).toArray) → Hid (Turns w2 w3 (fun k => k = g8) (fun k => k = g8)) → Below w.heap.size w w3 ∧ Blk w3 g8 69 (oneWait k L).toArray) := by
    intro g8 w2 w3 hg8 hb2 hB3 hT3
    refine ⟨hb2.trans (hT3.out.below (fun k hk => by rw [hk, hg8.out]; exact Nat.le_refl _) hb2.size), ?_⟩
    have := hB3.out
    rwa [splice_wait k _ L (by rw [h256]; simp)] at this
  have Hcp : Hid ((cells L).length = 256) := by show _ = _; rw [cells_length]; exact h256
  obtain ⟨d8, hd8, hd8r⟩ : ∃ d, Try.prog.underlying 69 = some d ∧ d.isRow = true := by
    have := Try.writeDesc_
    cases hq : Try.prog.underlying 69 with
    | none => simp [hq] at this
    | some d => exact ⟨d, rfl, by simpa [hq] using this⟩
  have HHA := Lib.hid hHA
  have H256 := Lib.hid h256
  have Hr := Lib.hid hr
  have HAF := Lib.hid hA
  clear hHA hZA er h256 hr hA hq ht ho hl hk h hgw
  rcases q with _ | _
  all_goals
    go_enter Try.func46, Try.ntmps46
    go_wp2_with (first
      | (go_at_call 49; (with_reducible refine HR.out.mono ?_); rintro e w1 ⟨rfl, rfl⟩)
      | (refine wpList_buildTo rfl 69 _ rfl (some 19) rfl HA (Eq.trans (b := Try.prog.built 69 [(0, .int .i64 (k : Int))]) (by kernel_rfl) HBd.out) ?_)
      | (refine wpList_alloc_letter rfl 69 rfl (some 8) rfl ZA hz ?_; intro g8 w1 hw1 hg8)
      | (refine wpList_store_rowTo rfl 69 _ _ rfl rfl g8 HA rfl rfl _ _ (letter_blk hw1 hg8) (by rw [sH]; exact Try.writeSize) (by rw [sZ, sH]) h1 ?_; obtain ⟨hb2, hB2⟩ := HStep.out g8 w1 hw1 hg8; generalize w1.setRow g8 HA = w2 at hb2 hB2 ⊢)
      | (refine wpList_copy_foot rfl (.tmp 21) (.tmp 22) _ _ rfl 5 Try.underlying38 Try.size5 (some ⟨g8, 1, none⟩) A 256 256 256 c rfl rfl g8 1 (oneWait k (List.replicate 256 0)) 69 hB2 (cells L) Hcp.out (rb_src (Hr.out.below hb2) _) (by rw [Hcp.out]; simp [oneWait, cells_length]) (cells_one _) ?_; intro w3 hB3 hT3; obtain ⟨hb3, hB3⟩ := HStep3.out g8 w2 w3 hg8 hb2 hB3 hT3))
    have hb4 : Below w.heap.size w w3.drew := hb3.drew
    have hB4 : Blk w3.drew g8 69 (oneWait k L).toArray := hB3.drew
    clear hb3 hB3
    refine region_T (fun W => W.cell? ⟨g, 2, none⟩ = some V ∧ Blk W g8 69 (oneWait k L).toArray) (fun j => decide (8 ≤ j)) (by kernel_rfl) ?_
    generalize w3.drew = W at hb4 hB4 ⊢
    have hB3 := hB4
    obtain ⟨c2, c2a, hB3a, hown⟩ := write_pre H.out hb4 g8 k L hB4 WA
    refine any_asT (a' := ⟨#[.pointer (some ⟨g, 0, none⟩), .int .i64 (k : Int), .slice A 256 c, undef, undef, undef, .int .i64 0, .int .i64 0, .pointer (some ⟨g8, 0, none⟩), .pointer (some ⟨g, 0, none⟩), .int .i64 (k : Int), .int .i64 0, .int .i64 0, .bool false, undef, .slice A 256 c, .int .i64 256, .bool false, .int .i64 (k : Int), .agg HA, .pointer (some ⟨g8, 1, none⟩), .slice (some ⟨g8, 1, none⟩) 256 256, .slice A 256 c, goInt ((cells L).length : Int), undef, undef, undef, undef, undef, undef, undef, undef, undef, undef, undef, undef, undef, undef, undef, undef, undef, undef, undef, undef, undef, undef, undef, undef], []⟩) (by kernel_rfl) (listed' := #[false, false, false, false, false, false, false, false, false, false, false]) (by kernel_rfl) ?_
    refine any_take (i := 0) (.pointer (some ⟨g, 0, none⟩)) rfl (by kernel_rfl) (by kernel_rfl) (by kernel_rfl) rfl (by kernel_rfl) (by kernel_rfl) (fun W hW => by kernel_rfl) ⟨c2, hB3⟩ (listed' := #[true, false, false, false, false, false, false, false, false, false, false]) (a' := ⟨#[.pointer (some ⟨g, 0, none⟩), .int .i64 (k : Int), .slice A 256 c, undef, undef, undef, .int .i64 0, .int .i64 0, .pointer (some ⟨g8, 0, none⟩), .pointer (some ⟨g, 0, none⟩), .int .i64 (k : Int), .int .i64 0, .int .i64 0, .bool false, undef, .slice A 256 c, .int .i64 256, .bool false, .int .i64 (k : Int), .agg HA, .pointer (some ⟨g8, 1, none⟩), .slice (some ⟨g8, 1, none⟩) 256 256, .slice A 256 c, goInt ((cells L).length : Int), .pointer (some ⟨g, 0, none⟩), undef, undef, undef, undef, undef, undef, undef, undef, undef, undef, undef, undef, undef, undef, undef, undef, undef, undef, undef, undef, undef, undef, undef], []⟩) (by kernel_rfl) (by kernel_rfl) (fun _ _ _ h => h) ?_
    refine any_take (i := 1) (.pointer (some ⟨g, 0, none⟩)) rfl (by kernel_rfl) (by kernel_rfl) (by kernel_rfl) rfl (by kernel_rfl) (by kernel_rfl) (fun W hW => by kernel_rfl) ⟨c2, hB3⟩ (listed' := #[true, true, false, false, false, false, false, false, false, false, false]) (a' := ⟨#[.pointer (some ⟨g, 0, none⟩), .int .i64 (k : Int), .slice A 256 c, undef, undef, undef, .int .i64 0, .int .i64 0, .pointer (some ⟨g8, 0, none⟩), .pointer (some ⟨g, 0, none⟩), .int .i64 (k : Int), .int .i64 0, .int .i64 0, .bool false, undef, .slice A 256 c, .int .i64 256, .bool false, .int .i64 (k : Int), .agg HA, .pointer (some ⟨g8, 1, none⟩), .slice (some ⟨g8, 1, none⟩) 256 256, .slice A 256 c, goInt ((cells L).length : Int), .pointer (some ⟨g, 0, none⟩), .pointer (some ⟨g, 0, none⟩), undef, undef, undef, undef, undef, undef, undef, undef, undef, undef, undef, undef, undef, undef, undef, undef, undef, undef, undef, undef, undef, undef], []⟩) (by kernel_rfl) (by kernel_rfl) (fun _ _ _ h => h) ?_
    refine any_take (i := 2) (.pointer (some ⟨g, 0, none⟩)) rfl (by kernel_rfl) (by kernel_rfl) (by kernel_rfl) rfl (by kernel_rfl) (by kernel_rfl) (fun W hW => by kernel_rfl) ⟨c2, hB3⟩ (listed' := #[true, true, true, false, false, false, false, false, false, false, false]) (a' := ⟨#[.pointer (some ⟨g, 0, none⟩), .int .i64 (k : Int), .slice A 256 c, undef, undef, undef, .int .i64 0, .int .i64 0, .pointer (some ⟨g8, 0, none⟩), .pointer (some ⟨g, 0, none⟩), .int .i64 (k : Int), .int .i64 0, .int .i64 0, .bool false, undef, .slice A 256 c, .int .i64 256, .bool false, .int .i64 (k : Int), .agg HA, .pointer (some ⟨g8, 1, none⟩), .slice (some ⟨g8, 1, none⟩) 256 256, .slice A 256 c, goInt ((cells L).length : Int), .pointer (some ⟨g, 0, none⟩), .pointer (some ⟨g, 0, none⟩), .pointer (some ⟨g, 0, none⟩), undef, undef, undef, undef, undef, undef, undef, undef, undef, undef, undef, undef, undef, undef, undef, undef, undef, undef, undef, undef, undef], []⟩) (by kernel_rfl) (by kernel_rfl) (fun _ _ _ h => h) ?_
    refine any_take (i := 3) (.pointer (some ⟨g, 2, none⟩)) rfl (by kernel_rfl) (by kernel_rfl) (by kernel_rfl) rfl (by kernel_rfl) (by kernel_rfl) (fun W hW => by kernel_rfl) ⟨c2, hB3⟩ (listed' := #[true, true, true, true, false, false, false, false, false, false, false]) (a' := ⟨#[.pointer (some ⟨g, 0, none⟩), .int .i64 (k : Int), .slice A 256 c, undef, undef, undef, .int .i64 0, .int .i64 0, .pointer (some ⟨g8, 0, none⟩), .pointer (some ⟨g, 0, none⟩), .int .i64 (k : Int), .int .i64 0, .int .i64 0, .bool false, undef, .slice A 256 c, .int .i64 256, .bool false, .int .i64 (k : Int), .agg HA, .pointer (some ⟨g8, 1, none⟩), .slice (some ⟨g8, 1, none⟩) 256 256, .slice A 256 c, goInt ((cells L).length : Int), .pointer (some ⟨g, 0, none⟩), .pointer (some ⟨g, 0, none⟩), .pointer (some ⟨g, 0, none⟩), .pointer (some ⟨g, 2, none⟩), undef, undef, undef, undef, undef, undef, undef, undef, undef, undef, undef, undef, undef, undef, undef, undef, undef, undef, undef, undef], []⟩) (by kernel_rfl) (by kernel_rfl) (fun _ _ _ h => h) ?_
    refine any_take (i := 4) (V) rfl (by kernel_rfl) (by kernel_rfl) (by kernel_rfl) rfl (by kernel_rfl) (by kernel_rfl) (fun W hW => cell_run 58 (.tmp 27) ⟨g, 2, none⟩ V _ (by kernel_rfl) (by kernel_rfl) hW.1 Try.underlying58 rfl (by kernel_rfl)) ⟨c2, hB3⟩ (listed' := #[true, true, true, true, true, false, false, false, false, false, false]) (a' := ⟨#[.pointer (some ⟨g, 0, none⟩), .int .i64 (k : Int), .slice A 256 c, undef, undef, undef, .int .i64 0, .int .i64 0, .pointer (some ⟨g8, 0, none⟩), .pointer (some ⟨g, 0, none⟩), .int .i64 (k : Int), .int .i64 0, .int .i64 0, .bool false, undef, .slice A 256 c, .int .i64 256, .bool false, .int .i64 (k : Int), .agg HA, .pointer (some ⟨g8, 1, none⟩), .slice (some ⟨g8, 1, none⟩) 256 256, .slice A 256 c, goInt ((cells L).length : Int), .pointer (some ⟨g, 0, none⟩), .pointer (some ⟨g, 0, none⟩), .pointer (some ⟨g, 0, none⟩), .pointer (some ⟨g, 2, none⟩), V, undef, undef, undef, undef, undef, undef, undef, undef, undef, undef, undef, undef, undef, undef, undef, undef, undef, undef, undef], []⟩) (by kernel_rfl) (by kernel_rfl) (fun _ _ _ h => h) ?_
    refine any_take (i := 5) (.agg WA) rfl (by kernel_rfl) (by kernel_rfl) (by kernel_rfl) rfl (by kernel_rfl) (by kernel_rfl) (fun W hW => load_run 69 (.tmp 8) g8 0 (oneWait k L) _ (by kernel_rfl) (by kernel_rfl) (wait_range hW.2) hd8 hd8r (by rw [HSW.out]; exact Try.writeSize) WA HWA.out.symm) ⟨c2, hB3⟩ (listed' := #[true, true, true, true, true, true, false, false, false, false, false]) (a' := ⟨#[.pointer (some ⟨g, 0, none⟩), .int .i64 (k : Int), .slice A 256 c, undef, undef, undef, .int .i64 0, .int .i64 0, .pointer (some ⟨g8, 0, none⟩), .pointer (some ⟨g, 0, none⟩), .int .i64 (k : Int), .int .i64 0, .int .i64 0, .bool false, undef, .slice A 256 c, .int .i64 256, .bool false, .int .i64 (k : Int), .agg HA, .pointer (some ⟨g8, 1, none⟩), .slice (some ⟨g8, 1, none⟩) 256 256, .slice A 256 c, goInt ((cells L).length : Int), .pointer (some ⟨g, 0, none⟩), .pointer (some ⟨g, 0, none⟩), .pointer (some ⟨g, 0, none⟩), .pointer (some ⟨g, 2, none⟩), V, .agg WA, undef, undef, undef, undef, undef, undef, undef, undef, undef, undef, undef, undef, undef, undef, undef, undef, undef, undef], []⟩) (by kernel_rfl) (by kernel_rfl) (fun _ _ _ h => h) ?_
    refine any_comes (i := 6) (by kernel_rfl) (op_value (a' := ⟨#[.pointer (some ⟨g, 0, none⟩), .int .i64 (k : Int), .slice A 256 c, undef, undef, undef, .int .i64 0, .int .i64 0, .pointer (some ⟨g8, 0, none⟩), .pointer (some ⟨g, 0, none⟩), .int .i64 (k : Int), .int .i64 0, .int .i64 0, .bool false, undef, .slice A 256 c, .int .i64 256, .bool false, .int .i64 (k : Int), .agg HA, .pointer (some ⟨g8, 1, none⟩), .slice (some ⟨g8, 1, none⟩) 256 256, .slice A 256 c, goInt ((cells L).length : Int), .pointer (some ⟨g, 0, none⟩), .pointer (some ⟨g, 0, none⟩), .pointer (some ⟨g, 0, none⟩), .pointer (some ⟨g, 2, none⟩), V, .agg WA, .slice (some ⟨W.heap.size, 0, none⟩) 1 1, undef, undef, undef, undef, undef, undef, undef, undef, undef, undef, undef, undef, undef, undef, undef, undef, undef], []⟩) (.slice (some ⟨W.heap.size, 0, none⟩) 1 1) rfl (by kernel_rfl) (build_run 58 69 (.tmp 29) (by kernel_rfl) WA (by kernel_rfl) Try.underlying58 257 Try.writeSize (by kernel_rfl) (by omega) (by omega) sWA) (by kernel_rfl) ⟨⟨c2a, hB3a⟩, ?_⟩)
    refine any_comes (i := 7) (by kernel_rfl) (op_append rfl (by kernel_rfl) (.tmp 28) (.tmp 30) 58 rfl 0 69 i0 _ 257 264 Try.underlying58 hi0 hz0 hz1 hz2 (by simp [Value.cells, oneWait, cells_length]) (by omega) V d.waits.length (waitCells d.waits) (by kernel_rfl) hown (W.heap.size + 1) (some ⟨W.heap.size, 0, none⟩) 1 1 (oneWait k L) (by kernel_rfl) (wait_new W WA _ HWA.out HSW.out) (oneWait_one _ _) (by unfold maxLen; omega) (by omega) (Nat.zero_le _) ?_)
    intro V' w5 ho5 hg5 hat5
    obtain ⟨gv, cv, hv, _⟩ := ho5.form (by omega)
    subst hv
    obtain ⟨hS5, f5, c6, r6, sp, bb6, HF6⟩ := write_mid H.out hb4 g8 (by rw [hg8.out]; exact Nat.le_refl _) k HK.out L H256.out hB4 WA Hr.out HAF.out ho5 hg5 hat5
    refine ⟨hS5, ?_⟩
    refine any_asT (a' := ⟨#[.pointer (some ⟨g, 0, none⟩), .int .i64 (k : Int), .slice A 256 c, undef, undef, undef, .int .i64 0, .int .i64 0, .pointer (some ⟨g8, 0, none⟩), .pointer (some ⟨g, 0, none⟩), .int .i64 (k : Int), .int .i64 0, .int .i64 0, .bool false, undef, .slice A 256 c, .int .i64 256, .bool false, .int .i64 (k : Int), .agg HA, .pointer (some ⟨g8, 1, none⟩), .slice (some ⟨g8, 1, none⟩) 256 256, .slice A 256 c, goInt ((cells L).length : Int), .pointer (some ⟨g, 0, none⟩), .pointer (some ⟨g, 0, none⟩), .pointer (some ⟨g, 0, none⟩), .pointer (some ⟨g, 2, none⟩), V, .agg WA, .slice (some ⟨W.heap.size, 0, none⟩) 1 1, .slice (some ⟨gv, 0, none⟩) (d.waits.length + 1) cv, undef, undef, undef, undef, undef, undef, undef, undef, undef, undef, undef, undef, undef, undef, undef, undef], []⟩) (by kernel_rfl) (listed' := #[true, true, true, true, true, true, true, true, false, false, false]) (by kernel_rfl) ?_
    refine any_left (by kernel_rfl) ?_
    refine wpAny_tail 8 (by kernel_rfl) (by kernel_rfl) ?_
    simp only [List.drop_succ_cons, List.drop_zero]
    have c5 := hS5.1
    have HF7 := Lib.hid HF6
    have Hbb := Lib.hid bb6
    have Hr6 := Lib.hid r6
    clear hS5 HF6 bb6 r6 hB4 hb4 c2 c2a hB3a hown hB3 ho5 hg5 hat5 hB2 hb2 hi0 hz0 hz1 hz2 h1 hz sH sZ sWA hd8 hd8r
    go_wp2_with (first
      | (go_at_call 48; (with_reducible refine (HBl.out _).mono ?_); rintro e w6 ⟨rfl, rfl⟩)
      | (refine wpList_copy_foot rfl (.tmp 39) (.tmp 40) _ _ rfl 5 Try.underlying38 Try.size5 (some ⟨b, 256 * k, none⟩) A 256 (cb - 256 * k) 256 c rfl rfl b (256 * k) (cells d.image ++ sp) 5 Hbb.out (cells L) Hcp.out (rb_src Hr6.out _) (by rw [Hcp.out, List.length_append, cells_length]; have := Hfit.out; omega) (cells_one _) ?_; intro w7 h7 ht7; obtain ⟨F', hP7, hT7⟩ := HF7.out w7 h7 ht7; clear h7 ht7)
      | (go_at_call 63; (with_reducible refine (HFa.out _ _ hP7).mono ?_); rintro e w8 ⟨rfl, hP8, hT8⟩; obtain ⟨a8, ca8, b8, cb8, n8, V8, ends8, lf8, hP8⟩ := hP8; have HA8 := Lib.hid (aadd_any g 7 _ w8 HWr.out hP8.c7 (hP8.fz 7)))
      | (go_at_call 50; (with_reducible refine HA8.out.mono ?_); rintro e w9 ⟨rfl, rfl⟩))
  · go_ret
    rw [HW.out]
    simp only [Dk.wrote]
    exact ⟨F', rfl, ⟨_, _, _, _, _, _, _, _, hP8⟩, hT7.trans hT8⟩
  · go_ret
    rw [HW.out]
    simp only [Dk.wrote]
    exact ⟨F', rfl, ⟨_, _, _, _, _, _, _, _, hP8.count7⟩, (hT7.trans hT8).trans (Turns.set_ hP8.fg 7 _)⟩
def WritePost (d : Dk) (i : Int) (L : List UInt8) (g : Nat) (F : Nat → Prop) (w : World) (e : Ending) (w' : World) : Prop :=
  ∃ F', e = .returned (.int .i64 (d.write i L).2) ∧ PDisk w' g F' (d.write i L).1 ∧ Turns w w' F F'
theorem write_any {w : World} {g : Nat} {F : Nat → Prop} {d : Dk} (h : PDisk w g F d) (i : Int) (hl : d.load ≤ 100000)
    (L : List UInt8) (A : Option Addr) (m c : Nat) (hm : m = L.length) (hr : RB w w.heap.size A L) (hA : ∀ ad, A = some ad → ¬ F ad.block) (hc : m ≤ c) (hcm : c ≤ 9223372036854775807) :
    Calls Try.prog 46 #[.pointer (some ⟨g, 0, none⟩), .int .i64 i, .slice A m c] w (WritePost d i L g F w) := by
  have HR := Lib.hid (reach_any h i)
  cases ho : d.off with
  | true =>
    have HV : Hid (d.write i L = (d, 9)) := by show _ = _; unfold Dk.write; rw [if_pos ho]
    have e1 : d.reach i = 9 := by unfold Dk.reach; rw [if_pos ho]
    rw [e1] at HR
    clear ho e1 hm hr hA hl
    go_enter Try.func46, Try.ntmps46
    go_wp2_with (go_at_call 49; (with_reducible refine HR.out.mono ?_); rintro e w1 ⟨rfl, rfl⟩)
    go_ret
    unfold WritePost
    rw [HV.out]
    exact ⟨F, rfl, h, Turns.refl _ _⟩
  | false =>
    cases ht : d.there i with
    | false =>
      have HV : Hid (d.write i L = (d, 10)) := by show _ = _; unfold Dk.write; rw [ho, ht]; rfl
      have e1 : d.reach i = 10 := by unfold Dk.reach; rw [ho, ht]; rfl
      rw [e1] at HR
      clear ho ht e1 hm hr hA hl
      go_enter Try.func46, Try.ntmps46
      go_wp2_with (go_at_call 49; (with_reducible refine HR.out.mono ?_); rintro e w1 ⟨rfl, rfl⟩)
      go_ret
      unfold WritePost
      rw [HV.out]
      exact ⟨F, rfl, h, Turns.refl _ _⟩
    | true =>
      by_cases h256 : m = 256
      · subst h256
        obtain ⟨k, rfl, hk⟩ := there_nat ht
        obtain ⟨a, ca, b, cb, n, V, ends, lf, h⟩ := h
        exact write_in h k hk ho hl L A c hr hA hm.symm hc hcm
      · have HV : Hid (d.write i L = (d, 11)) := by
          show _ = _; unfold Dk.write; rw [ho, ht]
          simp only [Bool.false_eq_true, Bool.not_true, if_false]
          rw [if_pos (by omega)]
        have e1 : d.reach i = 0 := by unfold Dk.reach; rw [ho, ht]; rfl
        rw [e1] at HR
        have d0 : (((m : Int) != 256)) = true := by simp; omega
        have d1 : ((m : Int) == 256) = false := by simp; omega
        clear ho ht e1 hm hr hA hl h256
        go_enter Try.func46, Try.ntmps46
        go_wp2_with (go_at_call 49; (with_reducible refine HR.out.mono ?_); rintro e w1 ⟨rfl, rfl⟩)
        go_ret
        unfold WritePost
        rw [HV.out]
        exact ⟨F, rfl, h, Turns.refl _ _⟩
end
end Go.Proofs.Ytghenhacndaelaa
