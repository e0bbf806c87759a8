/- Lemmas under the proofs of this place: WalFit, DiskPWrite, SectPTaken, CrcRV, DiskRSmall, DiskPImage. No statement is proved here. -/
import Derived.Test.YtghenhacndaelaaGreatBu14
import Derived.Test.YtghenhacndaelaaGreatBu07
import Derived.Test.YtghenhacndaelaaGreatBu10
import Derived.Test.YtghenhacndaelaaGreatBu12
import Derived.Test.YtghenhacndaelaaGreatBu15
import Derived.Test.YtghenhacndaelaaGreatBu11
set_option linter.unusedSimpArgs false
set_option linter.unusedVariables false
set_option maxRecDepth 100000
set_option maxHeartbeats 16000000
namespace Go.Proofs.YtghenhacndaelaaGreat
section
open Wal
structure Lg.fit (l : Lg) (len : Nat) : Prop where
  used : l.b.length ≤ 64 * l.n
  whole : l.b.length % 64 = 0
  few : l.n ≤ 1000
  four : l.n % 4 = 0
  area : l.frm + l.n / 4 ≤ len
  epoch : 1 ≤ l.epoch ∧ l.epoch ≤ 2147483647
namespace Wal
theorem deed_load13 (D : Dk) : (Dk.deed D).1.load = D.load := by
  unfold Dk.deed
  split
  · rfl
  · split
    · rfl
    · rfl
def Keep (d d' : Dk) (n : Nat) : Prop := d'.safe.length = d.safe.length ∧ d'.load ≤ d.load + n
theorem Keep.refl (d : Dk) : Keep d d 0 := ⟨rfl, Nat.le_refl _⟩
theorem Keep.trans {a b c : Dk} {m n : Nat} (h : Keep a b m) (k : Keep b c n) : Keep a c (m + n) := ⟨k.1.trans h.1, by have := h.2; have := k.2; omega⟩
theorem Keep.more {a b : Dk} {m n : Nat} (h : Keep a b m) (hn : m ≤ n) : Keep a b n := ⟨h.1, by have := h.2; omega⟩
theorem keep_write (d : Dk) (i : Int) (b : List UInt8) : Keep d (d.write i b).1 2 := by
  have h1 := deed_load13 { d with waits := d.waits ++ [(i.toNat, b)] }
  have h2 : ({ d with waits := d.waits ++ [(i.toNat, b)] } : Dk).load = d.load + 1 := by unfold Dk.load; simp; omega
  have h3 := Dk.deed_same { d with waits := d.waits ++ [(i.toNat, b)] }
  unfold Dk.write
  split
  · exact (Keep.refl d).more (by omega)
  split
  · exact (Keep.refl d).more (by omega)
  split
  · exact (Keep.refl d).more (by omega)
  split
  · rename_i e he
    rw [he] at h1 h3
    simp only at h1 h3
    exact ⟨by rw [h3.1], by show e.load ≤ _; omega⟩
  · rename_i e he
    rw [he] at h1 h3
    simp only at h1 h3
    refine ⟨by show e.safe.length = _; rw [h3.1], ?_⟩
    show e.reads + (e.writes + 1) + e.flushes + e.waits.length ≤ _
    unfold Dk.load at h1 h2 ⊢
    omega
theorem keep_flush (d : Dk) : Keep d d.flush.1 1 := by
  have h1 := deed_load13 d
  have h3 := Dk.deed_same d
  unfold Dk.flush
  split
  · exact (Keep.refl d).more (by omega)
  split
  · rename_i e he
    rw [he] at h1 h3
    simp only at h1 h3
    exact ⟨by rw [h3.1], by show e.load ≤ _; omega⟩
  · rename_i e he
    rw [he] at h1 h3
    simp only at h1 h3
    refine ⟨by show (Dk.laid e.safe e.waits).length = _; rw [Dk.laid_length, h3.1], ?_⟩
    show e.reads + e.writes + (e.flushes + 1) + 0 ≤ _
    unfold Dk.load at h1 ⊢
    omega
theorem keep_stop (d : Dk) (i : Int) : Keep d (d.stop i).1 0 := by
  unfold Dk.stop
  split
  · exact Keep.refl d
  · exact ⟨rfl, Nat.le_refl _⟩
theorem keep_crash (d : Dk) (masks : List Int) : Keep d (d.crash masks) 0 :=
  ⟨by show (Dk.crashed _ _ _ _).length = _; rw [Dk.crashed_length], by show d.reads + d.writes + d.flushes + 0 ≤ d.reads + d.writes + d.flushes + d.waits.length + 0; omega⟩
theorem keep_writes (frm : Nat) (all : List UInt8) : ∀ (m k : Nat) (d : Dk), Keep d (writesW frm all m k d).1 (2 * m)
  | 0, k, d => Keep.refl d
  | m + 1, k, d => by
    have h1 := keep_write d ((frm + k : Nat) : Int) (blkW all k)
    rw [writesW]
    split
    · exact (h1.trans (keep_writes frm all m (k + 1) _)).more (by omega)
    · exact h1.more (by omega)
section
variable {d : Dk} {l : Lg} {len : Nat} {t : List UInt8}
theorem keep_append (hf : l.fit len) : Keep d (appendW d l t).1 1100 ∧ (appendW d l t).2.1.fit len := by
  unfold appendW
  split
  · exact ⟨(Keep.refl d).more (by omega), hf⟩
  split
  · exact ⟨(Keep.refl d).more (by omega), hf⟩
  split
  · exact ⟨(Keep.refl d).more (by omega), hf⟩
  rename_i h1 h2 h3
  have hu : used l = l.b.length / 64 := rfl
  obtain ⟨f1, f2, f3, f4, f5, f6⟩ := hf
  have hr := (rec_bytes (used l) l.epoch t).1
  have hl := all_length l.b (recBytes (used l) l.epoch t)
  have hp := pad_lt (l.b.length + (recBytes (used l) l.epoch t).length)
  have hm : (allW l.b (recBytes (used l) l.epoch t)).length / 256 - used l / 4 ≤ 501 := by omega
  have hk := keep_writes l.frm (allW l.b (recBytes (used l) l.epoch t)) ((allW l.b (recBytes (used l) l.epoch t)).length / 256 - used l / 4) (used l / 4) d
  have hw := hk.more (show 2 * _ ≤ 1002 by omega)
  simp only []
  split
  · exact ⟨hw.more (by omega), f1, f2, f3, f4, f5, f6⟩
  split
  · exact ⟨(hw.trans (keep_flush _)).more (by omega), f1, f2, f3, f4, f5, f6⟩
  · exact ⟨(hw.trans (keep_flush _)).more (by omega), by show (l.b ++ _).length ≤ 64 * l.n; rw [List.length_append]; omega, by show (l.b ++ _).length % 64 = 0; rw [List.length_append]; omega, f3, f4, f5, f6⟩
theorem turn_fit (hf : l.fit len) (e : Int) : (turnW l e).1.fit len := by
  obtain ⟨f1, f2, f3, f4, f5, f6⟩ := hf
  unfold turnW
  split
  · exact ⟨f1, f2, f3, f4, f5, f6⟩
  split
  · exact ⟨f1, f2, f3, f4, f5, f6⟩
  · rename_i h
    exact ⟨f1, f2, f3, f4, f5, by show 1 ≤ e ∧ e ≤ _; omega⟩
theorem reset_fit (hf : l.fit len) (e : Int) : (resetW l e).1.fit len := by
  have h := turn_fit hf e
  obtain ⟨f1, f2, f3, f4, f5, f6⟩ := h
  unfold resetW
  split
  · exact ⟨Nat.zero_le _, rfl, f3, f4, f5, f6⟩
  · exact ⟨f1, f2, f3, f4, f5, f6⟩
theorem records_le {sec : Sec} {N : Nat} {least most : Int} : ∀ (f a : Nat), a ≤ N → (recordsW sec N least most f a).2 ≤ N
  | 0, a, h => h
  | f + 1, a, h => by
    rw [recordsW]
    cases hr : recordW sec N a least most with
    | none => exact h
    | some x =>
      obtain ⟨t, n⟩ := x
      obtain ⟨e, _, _, h3, h4⟩ := rec_only hr
      exact records_le f (a + n) (by rw [h4]; exact h3.2.2.1)
theorem keep_open (hfit : Dk.fit d) (frm blocks least most : Int) (hs : d.safe.length ≤ 200) : Keep d (openW d frm blocks least most).1 200 ∧ ∀ l', (openW d frm blocks least most).2.1 = some l' → l'.fit d.safe.length := by
  unfold openW
  split
  · exact ⟨(Keep.refl d).more (by omega), fun l' h => by cases h⟩
  split
  · exact ⟨(Keep.refl d).more (by omega), fun l' h => by cases h⟩
  rename_i h1 h2
  have h1' : openOk d frm blocks least most = true := by simpa using h1
  unfold openOk at h1'
  simp only [Bool.and_eq_true, decide_eq_true_eq] at h1'
  have hlen : (areaW d frm.toNat blocks.toNat).length = 256 * blocks.toNat := by
    have h5 : ∀ n, n ≤ blocks.toNat → ((List.range n).flatMap fun i => d.now (frm.toNat + i)).length = 256 * n := fun n hn => by
      induction n with
      | zero => rfl
      | succ n ih =>
        rw [List.range_succ, List.flatMap_append, List.length_append, ih (by omega)]
        simp only [List.flatMap_cons, List.flatMap_nil, List.append_nil]
        rw [Dk.fit_now hfit (by omega)]
        omega
    exact h5 _ (Nat.le_refl _)
  have hrec : (recordsA (areaW d frm.toNat blocks.toNat) least most).2 ≤ 4 * blocks.toNat := by
    have := records_le (sec := secA (areaW d frm.toNat blocks.toNat)) (N := (areaW d frm.toNat blocks.toNat).length / 64) (least := least) (most := most) ((areaW d frm.toNat blocks.toNat).length / 64 + 1) 0 (Nat.zero_le _)
    have h6 : (recordsA (areaW d frm.toNat blocks.toNat) least most).2 ≤ (areaW d frm.toNat blocks.toNat).length / 64 := this
    omega
  refine ⟨⟨rfl, by show d.reads + blocks.toNat + d.writes + d.flushes + d.waits.length ≤ d.reads + d.writes + d.flushes + d.waits.length + 200; omega⟩, fun l' h => ?_⟩
  injection h with h
  rw [← h]
  have hl2 : ((areaW d frm.toNat blocks.toNat).take (64 * (recordsA (areaW d frm.toNat blocks.toNat) least most).2)).length = 64 * (recordsA (areaW d frm.toNat blocks.toNat) least most).2 := by
    rw [List.length_take]; omega
  refine ⟨by show (List.take _ _).length ≤ 64 * (4 * blocks.toNat); omega, by show (List.take _ _).length % 64 = 0; omega, by show 4 * blocks.toNat ≤ 1000; omega, by show 4 * blocks.toNat % 4 = 0; omega, by show frm.toNat + 4 * blocks.toNat / 4 ≤ _; omega, by show 1 ≤ most ∧ most ≤ _; omega⟩
end
end Wal
end
section
open Go.RowKit
def Dk.wrote : Dk × Bool → Dk × Int
  | (e, false) => (e, 9)
  | (e, true) => ({ e with writes := e.writes + 1 }, 0)
theorem Dk.write_yes {d : Dk} {i : Int} {b : List UInt8} (ho : d.off = false) (ht : d.there i = true) (hb : b.length = 256) : d.write i b = Dk.wrote (Dk.deed { d with waits := d.waits ++ [(i.toNat, b)] }) := by
  unfold Dk.write
  rw [ho, ht]
  simp only [Bool.false_eq_true, Bool.not_true, if_false, hb]
  generalize Dk.deed _ = r
  obtain ⟨e, q⟩ := r
  cases q <;> simp [Dk.wrote]
def oneWait (k : Nat) (L : List UInt8) : List Value := .int .i64 (k : Int) :: cells L
theorem oneWait_one (k : Nat) (L : List UInt8) : ∀ u ∈ oneWait k L, u.oneCell' = true := fun u hu => by
  rcases List.mem_cons.1 hu with rfl | h
  · rfl
  · exact cells_one _ u h
theorem Tryz.builtWrite (k : Int) : Tryz.prog.built 99 [(0, .int .i64 k)] = some ((Value.int .i64 k :: cells (List.replicate 256 0)).toArray) := by kernel_rfl
theorem Tryz.writeZero : (Tryz.prog.info? 99).map (fun i => (i.zero, i.size)) = some (some (.agg (oneWait 0 (List.replicate 256 0)).toArray), (oneWait 0 (List.replicate 256 0)).toArray.size) := by kernel_rfl
theorem Tryz.writeSize : (Tryz.prog.info? 99).map (·.size) = some 257 := by kernel_rfl
theorem Tryz.writeInfo : (Tryz.prog.info? 99).map (fun i => (i.zero, i.size, i.bytes)) = some (some (.agg (oneWait 0 (List.replicate 256 0)).toArray), 257, 264) := by kernel_rfl
theorem splice_wait (k : Nat) (Z L : List UInt8) (h : Z.length = L.length) : splice (oneWait k Z) 1 (cells L) = oneWait k L := by
  unfold splice oneWait
  rw [List.take_succ_cons, List.take_zero, List.drop_eq_nil_of_le (by simp [cells_length]; omega)]
  simp
theorem Tryz.writeDesc_ : (match Tryz.prog.underlying 99 with | some d => d.isRow | none => false) = true := by kernel_rfl
theorem oneWait_length (k : Nat) (L : List UInt8) : (oneWait k L).length = L.length + 1 := by simp [oneWait, cells_length]
theorem wait_range {W : World} {g8 : Nat} {t : TypeId} {k : Nat} {L : List UInt8} (h : Blk W g8 t (oneWait k L).toArray) : W.rangeAt g8 0 (oneWait k L) := fun j v hv => by
  rw [h.cell]; simpa using hv
theorem wait_new (W : World) (WA : Array Value) (t : TypeId) {k : Nat} {L : List UInt8} (hWA : WA = (oneWait k L).toArray) (s : (oneWait k L).length = 257) : Reads (W.alloc (.cells WA t)) (W.heap.size + 1) 257 (some ⟨W.heap.size, 0, none⟩) 1 (oneWait k L) := by
  subst hWA
  refine ⟨by rw [s], fun h0 => ⟨_, rfl, by simp, fun j u hu => ?_⟩⟩
  have h := heap_alloc_new W (.cells (oneWait k L).toArray t)
  have e : (⟨W.heap.size, 0, none⟩ : Addr).add j = ⟨W.heap.size, j, none⟩ := by unfold Addr.add; split <;> simp_all
  rw [e, (blk_cell h j).1]
  simpa using hu
section
variable {w W : World} {g : Nat} {F : Nat → Prop} {d : Dk} {a ca b cb n : Nat} {V : Value} {ends : Bool} {lf : Int}
theorem write_pre (h : PD w g F d a ca b cb n V ends lf) (hb : Below w.heap.size w W) (g8 : Nat) (k : Nat) (L : List UInt8) (hB : Blk W g8 99 (oneWait k L).toArray) (WA : Array Value) :
    W.cell? ⟨g, 2, none⟩ = some V ∧ (W.alloc (.cells WA 99)).cell? ⟨g, 2, none⟩ = some V ∧ Blk (W.alloc (.cells WA 99)) g8 99 (oneWait k L).toArray ∧
      (W.alloc (.cells WA 99)).ownsRow 0 99 257 V d.waits.length (waitCells d.waits) := by
  have hp : PD W g F d a ca b cb n V ends lf := h.turns (Turns.of_below hb (fun _ => False)) (fun _ _ h => h)
  have hq : PD (W.alloc (.cells WA 99)) g F d a ca b cb n V ends lf := hp.turns (Turns.alloc _ (fun _ => False)) (fun _ _ h => h)
  exact ⟨hp.c2, hq.c2, hB.alloc _, hq.wait⟩
theorem write_mid (h : PD w g F d a ca b cb n V ends lf) (hb : Below w.heap.size w W) (g8 : Nat) (hg8 : w.heap.size ≤ g8) (k : Nat) (hk : k < d.safe.length) (L : List UInt8) (h256 : L.length = 256) (hB : Blk W g8 99 (oneWait k L).toArray) (WA : Array Value)
    {A : Option Addr} (hr : RB w w.heap.size A L) (hA : ∀ ad, A = some ad → ¬ F ad.block)
    {V' : Value} {w5 : World} (ho : w5.ownsRow 0 99 257 V' (d.waits.length + 1) (waitCells d.waits ++ oneWait k L)) (hg : (W.alloc (.cells WA 99)).grownBy w5 V.ownBlock)
    (hat : V'.ownBlock = V.ownBlock ∨ V'.ownBlock = some (W.alloc (.cells WA 99)).heap.size) :
    (w5.cell? ⟨g, 2, none⟩ = some V ∧ Blk w5 g8 99 (oneWait k L).toArray) ∧ w5.frozen? ⟨g, 2, none⟩ = false ∧ (w5.setCell ⟨g, 2, none⟩ V').cell? ⟨g, 1, none⟩ = some (.slice (some ⟨b, 0, none⟩) n cb) ∧
    RB (w5.setCell ⟨g, 2, none⟩ V') w.heap.size A L ∧
    ∃ sp, Blk (w5.setCell ⟨g, 2, none⟩ V') b 5 (cells d.image ++ sp).toArray ∧ ∀ w7, Hid (Blk w7 b 5 (splice (cells d.image ++ sp) (256 * k) (cells L)).toArray) → Hid (Turns (w5.setCell ⟨g, 2, none⟩ V') w7 (fun k => k = b) (fun k => k = b)) →
      ∃ F', PDisk w7 g F' { d with waits := d.waits ++ [(k, L)] } ∧ Turns w w7 F F' := by
  have hp : PD W g F d a ca b cb n V ends lf := h.turns (Turns.of_below hb (fun _ => False)) (fun _ _ h => h)
  have hq : PD (W.alloc (.cells WA 99)) g F d a ca b cb n V ends lf := hp.turns (Turns.alloc _ (fun _ => False)) (fun _ _ h => h)
  have hf := h.good.fit
  have hqs : W.heap.size ≤ (W.alloc (.cells WA 99)).heap.size := by simp
  have t1 : Turns w (W.alloc (.cells WA 99)) F F := (Turns.of_below hb F).trans (Turns.alloc _ F)
  have hBZ : Blk (W.alloc (.cells WA 99)) g8 99 (oneWait k L).toArray := hB.alloc _
  generalize W.alloc (.cells WA 99) = Z at hq hg hat hqs t1 hBZ
  have hF : ∀ k, F k → k < w.heap.size := h.flt
  obtain ⟨n1, n2, n3, n4, n5⟩ := hq.ne
  have hl : (waitCells d.waits ++ oneWait k L) = waitCells (d.waits ++ [(k, L)]) := by rw [waitCells_append]; simp [waitCells, oneWait]
  have hVg : V.ownBlock ≠ some g8 := fun e => by have := hF _ (h.fv _ e); omega
  have b5 : Blk w5 g 94 (diskCells a ca b cb n V ends lf d) := hq.blk.grown hg (fun e => n3 e.symm)
  have b8 : Blk w5 g8 99 (oneWait k L).toArray := hBZ.grown hg (fun e => hVg e.symm)
  obtain ⟨sa, hsa⟩ := hq.safe
  obtain ⟨sb, hsb⟩ := hq.last
  have ba := hsa.grown hg (fun e => n4 e.symm)
  have bb := hsb.grown hg (fun e => n5 e.symm)
  have hV'g : V'.ownBlock ≠ some g := own_blk_ne ho b5 (by decide)
  have hV'b : V'.ownBlock ≠ some b := own_blk_ne ho bb (by decide)
  have hV'lt := fun {k : Nat} (hk : V'.ownBlock = some k) => (own_lt ho hk).1
  have hnew : ∀ k, V'.ownBlock = some k → F k ∨ w.heap.size ≤ k := fun j hj => by
    rcases hat with e | e
    · exact .inl (h.fv _ (e ▸ hj))
    · rw [e] at hj
      injection hj with hj
      have := hb.size
      exact .inr (by omega)
  have t5 : Turns w w5 F F := t1.trans (Turns.grown hg (fun k hk => h.fv k hk))
  have t6 : Turns w (w5.setCell ⟨g, 2, none⟩ V') F F := t5.trans (Turns.set_ h.fg 2 V')
  refine ⟨⟨by rw [b5.cell]; rfl, b8⟩, b5.frozen 2, ?_, ?_, sb, bb.far (p := ⟨g, 2, none⟩) (fun e => n2 e.symm) V', fun w7 h7 ht7 => ?_⟩
  · rw [(b5.set_ 2 V').cell]; rfl
  · exact Reads.turns hr (Nat.le_refl _) t6 hA
  · have h7 := h7.out
    have ht7 := ht7.out
    have hib : 256 * k + L.length ≤ d.image.length := by rw [Dk.image_length hf]; omega
    rw [splice_cells _ _ _ _ hib, ← Dk.image_write hf k L hk h256] at h7
    refine ⟨fun j => F j ∨ V'.ownBlock = some j, ⟨a, ca, b, cb, n, V', ends, lf, ?_⟩, (t6.trans (ht7.wide (E := F) (E' := F) (fun k hk => by rw [hk]; exact h.fb) (fun k hk => .inl hk))).foot_ (fun j hj => by
      rcases hj with h1 | h1
      · exact .inl h1
      · rcases hnew j h1 with h2 | h2
        · exact .inl h2
        · exact .inr h2)⟩
    refine ⟨((b5.set_ 2 V').turns ht7 n2), h.size, h.capa, h.capb, ?_, ⟨sb, h7⟩, ?_, h.ab, .inl h.fg, .inl h.fa, .inl h.fb, fun k hk => .inr hk, fun j hj => ?_, ⟨⟨hf.1, fun x hx => ?_⟩, h.good.few, h.good.many, h.good.left⟩, h.ends_, h.left_⟩
    · exact Arr.turns ⟨sa, ba.far (p := ⟨g, 2, none⟩) (fun e => n1 e.symm) V'⟩ ht7 h.ab
    · rw [hl] at ho
      have h6 : (w5.setCell ⟨g, 2, none⟩ V').ownsRow 0 99 257 V' (d.waits.length + 1) (waitCells (d.waits ++ [(k, L)])) := own_turns ho (turns_own _ g 2 V') (fun k hk e => hV'g (by rw [hk, e]))
      have := own_turns h6 ht7 (fun k hk e => hV'b (by rw [hk, e]))
      simpa using this
    · rcases hj with h1 | h1
      · exact Nat.lt_of_lt_of_le (hF j h1) (Nat.le_trans t6.size ht7.size)
      · exact Nat.lt_of_lt_of_le (hV'lt h1) (Nat.le_trans (by simp [World.setCell]) ht7.size)
    · rcases List.mem_append.1 hx with h1 | h1
      · exact hf.2 x h1
      · rw [List.mem_singleton] at h1; subst h1; exact ⟨hk, h256⟩
end
theorem write_in {w : World} {g : Nat} {F : Nat → Prop} {d : Dk} {a ca b cb n : Nat} {V : Value} {ends : Bool} {lf : Int} (h : PD w g F d a ca b cb n V ends lf) (k : Nat) (hk : k < d.safe.length) (ho : d.off = false) (hl : d.load ≤ 100000)
    (L : List UInt8) (A : Option Addr) (c : Nat) (hr : RB w w.heap.size A L) (hA : ∀ ad, A = some ad → ¬ F ad.block) (h256 : L.length = 256) (hc : 256 ≤ c) (hcm : c ≤ 9223372036854775807) :
    Calls Tryz.prog 73 #[.pointer (some ⟨g, 0, none⟩), .int .i64 (k : Int), .slice A 256 c] w fun e w' => ∃ F', e = .returned (.int .i64 (d.write (k : Int) L).2) ∧ PDisk w' g F' (d.write (k : Int) L).1 ∧ Turns w w' F F' := by
  have HR := Lib.hid (reach_any ⟨a, ca, b, cb, n, V, ends, lf, h⟩ (k : Int))
  have ht : d.there (k : Int) = true := by unfold Dk.there; exact decide_eq_true (by omega)
  have er : d.reach (k : Int) = 0 := by unfold Dk.reach; rw [ho, ht]; rfl
  rw [er] at HR
  have HS := fun g8 W => sa_all g8 1 W
  obtain ⟨ZA, hZA⟩ : ∃ ZA, ZA = (oneWait 0 (List.replicate 256 0)).toArray := ⟨_, rfl⟩
  obtain ⟨HA, hHA⟩ : ∃ HA, HA = (oneWait k (List.replicate 256 0)).toArray := ⟨_, rfl⟩
  have sH : HA.size = 257 := by rw [hHA]; simp [oneWait, cells_length]
  have sZ : ZA.size = 257 := by rw [hZA]; simp [oneWait, cells_length]
  have hz : (Tryz.prog.info? 99).map (fun i => (i.zero, i.size)) = some (some (.agg ZA), ZA.size) := by rw [hZA]; exact Tryz.writeZero
  have h1 : HA.all (·.oneCell') = true := by rw [hHA]; exact all_oneCell_toArray (oneWait_one _ _)
  have HBd : Hid (Tryz.prog.built 99 [(0, .int .i64 (k : Int))] = some HA) := by
    show _ = _
    rw [Tryz.builtWrite, hHA]; rfl
  have hgw := h.flt g h.fg
  obtain ⟨WA, hWA⟩ : ∃ WA, WA = (oneWait k L).toArray := ⟨_, rfl⟩
  have sW : (oneWait k L).length = 257 := by rw [oneWait_length, h256]
  have sWA : WA.size = 257 := by rw [hWA]; simp [sW]
  have HSW := Lib.hid sW
  have HWA := Lib.hid hWA
  obtain ⟨i0, hi0, hz0, hz1, hz2⟩ := info_parts Tryz.writeInfo
  have H := Lib.hid h
  have HK := Lib.hid hk
  obtain ⟨e1, q, hq⟩ : ∃ e1 q, Dk.deed { d with waits := d.waits ++ [(k, L)] } = (e1, q) := ⟨_, _, rfl⟩
  have HW : Hid (d.write (k : Int) L = Dk.wrote (e1, q)) := by
    show _ = _
    rw [← hq]; exact Dk.write_yes ho ht h256
  have HFa : Hid (∀ (W : World) (F' : Nat → Prop), PDisk W g F' { d with waits := d.waits ++ [(k, L)] } → Calls Tryz.prog 95 #[.pointer (some ⟨g, 0, none⟩)] W fun e w' => e = .returned (.bool (!q)) ∧ Deeds e1 F' W w' g) := fun W F' hp => by
    have := falls_any hp ho
    rwa [hq] at this
  have HWr : Hid (e1.writes < 1000000) := by
    have e : e1.writes = d.writes := by
      have : (Dk.deed { d with waits := d.waits ++ [(k, L)] }).1.writes = d.writes := by
        unfold Dk.deed
        split
        · rfl
        · split <;> rfl
      rwa [hq] at this
    show e1.writes < 1000000
    unfold Dk.load at hl
    omega
  have HBl : Hid (∀ W, Calls Tryz.prog 75 #[.slice (some ⟨b, 0, none⟩) n cb, .int .i64 (k : Int)] W fun e w' => e = .returned (.slice (some ⟨b, 256 * k, none⟩) 256 (cb - 256 * k)) ∧ W = w') := fun W =>
    block_of b n cb k W (by have := h.size; omega) (by have := h.size; have := h.good.many; omega) h.capb.1 h.capb.2
  have Hfit : Hid (256 * k + 256 ≤ d.image.length) := by show _ ≤ _; rw [Dk.image_length h.good.fit]; omega
  have u1 : d.waits.length ≤ 100000 := by unfold Dk.load at hl; omega
  clear hWA sW
  have HStep : Hid (∀ (g8 : Nat) (w1 : World), Hid (w1 = w.alloc (.cells ZA 99)) → Hid (g8 = w.heap.size) → Below w.heap.size w (w1.setRow g8 HA) ∧ Blk (w1.setRow g8 HA) g8 99 (oneWait k (List.replicate 256 0)).toArray) := by
    intro g8 w1 hw1 hg8
    have b1 : Below w.heap.size w w1 := letter_below hw1 (Below.refl _ _) (Nat.le_refl _)
    refine ⟨below_setRow b1 (by have := hg8.out; omega) _, ?_⟩
    rw [← hHA]; exact setRow_heap _ _ _ _ _ _ (letter_blk hw1 hg8)
  have HStep3 : Hid (∀ (g8 : Nat) (w2 w3 : World), Hid (g8 = w.heap.size) → Below w.heap.size w w2 → Hid (Blk w3 g8 99 (splice (oneWait k (List.replicate 256 0)) 1 (cells L)).toArray) → Hid (Turns w2 w3 (fun k => k = g8) (fun k => k = g8)) → Below w.heap.size w w3 ∧ Blk w3 g8 99 (oneWait k L).toArray) := by
    intro g8 w2 w3 hg8 hb2 hB3 hT3
    refine ⟨hb2.trans (hT3.out.below (fun k hk => by rw [hk, hg8.out]; exact Nat.le_refl _) hb2.size), ?_⟩
    have := hB3.out
    rwa [splice_wait k _ L (by rw [h256]; simp)] at this
  have Hcp : Hid ((cells L).length = 256) := by show _ = _; rw [cells_length]; exact h256
  obtain ⟨d8, hd8, hd8r⟩ : ∃ d, Tryz.prog.underlying 99 = some d ∧ d.isRow = true := by
    have := Tryz.writeDesc_
    cases hq : Tryz.prog.underlying 99 with
    | none => simp [hq] at this
    | some d => exact ⟨d, rfl, by simpa [hq] using this⟩
  have HHA := Lib.hid hHA
  have H256 := Lib.hid h256
  have Hr := Lib.hid hr
  have HAF := Lib.hid hA
  clear hHA hZA er h256 hr hA hq ht ho hl hk h hgw
  rcases q with _ | _
  all_goals
    go_enter Tryz.func73, Tryz.ntmps73
    go_wp2_with (first
      | (go_at_call 81; (with_reducible refine HR.out.mono ?_); rintro e w1 ⟨rfl, rfl⟩)
      | (refine wpList_buildTo rfl 99 _ rfl (some 19) rfl HA (Eq.trans (b := Tryz.prog.built 99 [(0, .int .i64 (k : Int))]) (by kernel_rfl) HBd.out) ?_)
      | (refine wpList_alloc_letter rfl 99 rfl (some 8) rfl ZA hz ?_; intro g8 w1 hw1 hg8)
      | (refine wpList_store_rowTo rfl 99 _ _ rfl rfl g8 HA rfl rfl _ _ (letter_blk hw1 hg8) (by rw [sH]; exact Tryz.writeSize) (by rw [sZ, sH]) h1 ?_; obtain ⟨hb2, hB2⟩ := HStep.out g8 w1 hw1 hg8; generalize w1.setRow g8 HA = w2 at hb2 hB2 ⊢)
      | (refine wpList_copy_foot rfl (.tmp 21) (.tmp 22) _ _ rfl 5 Tryz.underlying39 Tryz.size5 (some ⟨g8, 1, none⟩) A 256 256 256 c rfl rfl g8 1 (oneWait k (List.replicate 256 0)) 99 hB2 (cells L) Hcp.out (rb_src (Hr.out.below hb2) _) (by rw [Hcp.out]; simp [oneWait, cells_length]) (cells_one _) ?_; intro w3 hB3 hT3; obtain ⟨hb3, hB3⟩ := HStep3.out g8 w2 w3 hg8 hb2 hB3 hT3))
    have hb4 : Below w.heap.size w w3.drew := hb3.drew
    have hB4 : Blk w3.drew g8 99 (oneWait k L).toArray := hB3.drew
    clear hb3 hB3
    refine region_T (fun W => W.cell? ⟨g, 2, none⟩ = some V ∧ Blk W g8 99 (oneWait k L).toArray) (fun j => decide (8 ≤ j)) (by kernel_rfl) ?_
    generalize w3.drew = W at hb4 hB4 ⊢
    have hB3 := hB4
    obtain ⟨c2, c2a, hB3a, hown⟩ := write_pre H.out hb4 g8 k L hB4 WA
    refine any_asT (a' := ⟨#[.pointer (some ⟨g, 0, none⟩), .int .i64 (k : Int), .slice A 256 c, undef, undef, undef, .int .i64 0, .int .i64 0, .pointer (some ⟨g8, 0, none⟩), .pointer (some ⟨g, 0, none⟩), .int .i64 (k : Int), .int .i64 0, .int .i64 0, .bool false, undef, .slice A 256 c, .int .i64 256, .bool false, .int .i64 (k : Int), .agg HA, .pointer (some ⟨g8, 1, none⟩), .slice (some ⟨g8, 1, none⟩) 256 256, .slice A 256 c, goInt ((cells L).length : Int), undef, undef, undef, undef, undef, undef, undef, undef, undef, undef, undef, undef, undef, undef, undef, undef, undef, undef, undef, undef, undef, undef, undef, undef], []⟩) (by kernel_rfl) (listed' := #[false, false, false, false, false, false, false, false, false, false, false]) (by kernel_rfl) ?_
    refine any_take (i := 0) (.pointer (some ⟨g, 0, none⟩)) rfl (by kernel_rfl) (by kernel_rfl) (by kernel_rfl) rfl (by kernel_rfl) (by kernel_rfl) (fun W hW => by kernel_rfl) ⟨c2, hB3⟩ (listed' := #[true, false, false, false, false, false, false, false, false, false, false]) (a' := ⟨#[.pointer (some ⟨g, 0, none⟩), .int .i64 (k : Int), .slice A 256 c, undef, undef, undef, .int .i64 0, .int .i64 0, .pointer (some ⟨g8, 0, none⟩), .pointer (some ⟨g, 0, none⟩), .int .i64 (k : Int), .int .i64 0, .int .i64 0, .bool false, undef, .slice A 256 c, .int .i64 256, .bool false, .int .i64 (k : Int), .agg HA, .pointer (some ⟨g8, 1, none⟩), .slice (some ⟨g8, 1, none⟩) 256 256, .slice A 256 c, goInt ((cells L).length : Int), .pointer (some ⟨g, 0, none⟩), undef, undef, undef, undef, undef, undef, undef, undef, undef, undef, undef, undef, undef, undef, undef, undef, undef, undef, undef, undef, undef, undef, undef], []⟩) (by kernel_rfl) (by kernel_rfl) (fun _ _ _ h => h) ?_
    refine any_take (i := 1) (.pointer (some ⟨g, 0, none⟩)) rfl (by kernel_rfl) (by kernel_rfl) (by kernel_rfl) rfl (by kernel_rfl) (by kernel_rfl) (fun W hW => by kernel_rfl) ⟨c2, hB3⟩ (listed' := #[true, true, false, false, false, false, false, false, false, false, false]) (a' := ⟨#[.pointer (some ⟨g, 0, none⟩), .int .i64 (k : Int), .slice A 256 c, undef, undef, undef, .int .i64 0, .int .i64 0, .pointer (some ⟨g8, 0, none⟩), .pointer (some ⟨g, 0, none⟩), .int .i64 (k : Int), .int .i64 0, .int .i64 0, .bool false, undef, .slice A 256 c, .int .i64 256, .bool false, .int .i64 (k : Int), .agg HA, .pointer (some ⟨g8, 1, none⟩), .slice (some ⟨g8, 1, none⟩) 256 256, .slice A 256 c, goInt ((cells L).length : Int), .pointer (some ⟨g, 0, none⟩), .pointer (some ⟨g, 0, none⟩), undef, undef, undef, undef, undef, undef, undef, undef, undef, undef, undef, undef, undef, undef, undef, undef, undef, undef, undef, undef, undef, undef], []⟩) (by kernel_rfl) (by kernel_rfl) (fun _ _ _ h => h) ?_
    refine any_take (i := 2) (.pointer (some ⟨g, 0, none⟩)) rfl (by kernel_rfl) (by kernel_rfl) (by kernel_rfl) rfl (by kernel_rfl) (by kernel_rfl) (fun W hW => by kernel_rfl) ⟨c2, hB3⟩ (listed' := #[true, true, true, false, false, false, false, false, false, false, false]) (a' := ⟨#[.pointer (some ⟨g, 0, none⟩), .int .i64 (k : Int), .slice A 256 c, undef, undef, undef, .int .i64 0, .int .i64 0, .pointer (some ⟨g8, 0, none⟩), .pointer (some ⟨g, 0, none⟩), .int .i64 (k : Int), .int .i64 0, .int .i64 0, .bool false, undef, .slice A 256 c, .int .i64 256, .bool false, .int .i64 (k : Int), .agg HA, .pointer (some ⟨g8, 1, none⟩), .slice (some ⟨g8, 1, none⟩) 256 256, .slice A 256 c, goInt ((cells L).length : Int), .pointer (some ⟨g, 0, none⟩), .pointer (some ⟨g, 0, none⟩), .pointer (some ⟨g, 0, none⟩), undef, undef, undef, undef, undef, undef, undef, undef, undef, undef, undef, undef, undef, undef, undef, undef, undef, undef, undef, undef, undef], []⟩) (by kernel_rfl) (by kernel_rfl) (fun _ _ _ h => h) ?_
    refine any_take (i := 3) (.pointer (some ⟨g, 2, none⟩)) rfl (by kernel_rfl) (by kernel_rfl) (by kernel_rfl) rfl (by kernel_rfl) (by kernel_rfl) (fun W hW => by kernel_rfl) ⟨c2, hB3⟩ (listed' := #[true, true, true, true, false, false, false, false, false, false, false]) (a' := ⟨#[.pointer (some ⟨g, 0, none⟩), .int .i64 (k : Int), .slice A 256 c, undef, undef, undef, .int .i64 0, .int .i64 0, .pointer (some ⟨g8, 0, none⟩), .pointer (some ⟨g, 0, none⟩), .int .i64 (k : Int), .int .i64 0, .int .i64 0, .bool false, undef, .slice A 256 c, .int .i64 256, .bool false, .int .i64 (k : Int), .agg HA, .pointer (some ⟨g8, 1, none⟩), .slice (some ⟨g8, 1, none⟩) 256 256, .slice A 256 c, goInt ((cells L).length : Int), .pointer (some ⟨g, 0, none⟩), .pointer (some ⟨g, 0, none⟩), .pointer (some ⟨g, 0, none⟩), .pointer (some ⟨g, 2, none⟩), undef, undef, undef, undef, undef, undef, undef, undef, undef, undef, undef, undef, undef, undef, undef, undef, undef, undef, undef, undef], []⟩) (by kernel_rfl) (by kernel_rfl) (fun _ _ _ h => h) ?_
    refine any_take (i := 4) (V) rfl (by kernel_rfl) (by kernel_rfl) (by kernel_rfl) rfl (by kernel_rfl) (by kernel_rfl) (fun W hW => cell_run 87 (.tmp 27) ⟨g, 2, none⟩ V _ (by kernel_rfl) (by kernel_rfl) hW.1 Tryz.underlying87 rfl (by kernel_rfl)) ⟨c2, hB3⟩ (listed' := #[true, true, true, true, true, false, false, false, false, false, false]) (a' := ⟨#[.pointer (some ⟨g, 0, none⟩), .int .i64 (k : Int), .slice A 256 c, undef, undef, undef, .int .i64 0, .int .i64 0, .pointer (some ⟨g8, 0, none⟩), .pointer (some ⟨g, 0, none⟩), .int .i64 (k : Int), .int .i64 0, .int .i64 0, .bool false, undef, .slice A 256 c, .int .i64 256, .bool false, .int .i64 (k : Int), .agg HA, .pointer (some ⟨g8, 1, none⟩), .slice (some ⟨g8, 1, none⟩) 256 256, .slice A 256 c, goInt ((cells L).length : Int), .pointer (some ⟨g, 0, none⟩), .pointer (some ⟨g, 0, none⟩), .pointer (some ⟨g, 0, none⟩), .pointer (some ⟨g, 2, none⟩), V, undef, undef, undef, undef, undef, undef, undef, undef, undef, undef, undef, undef, undef, undef, undef, undef, undef, undef, undef], []⟩) (by kernel_rfl) (by kernel_rfl) (fun _ _ _ h => h) ?_
    refine any_take (i := 5) (.agg WA) rfl (by kernel_rfl) (by kernel_rfl) (by kernel_rfl) rfl (by kernel_rfl) (by kernel_rfl) (fun W hW => load_run 99 (.tmp 8) g8 0 (oneWait k L) _ (by kernel_rfl) (by kernel_rfl) (wait_range hW.2) hd8 hd8r (by rw [HSW.out]; exact Tryz.writeSize) WA HWA.out.symm) ⟨c2, hB3⟩ (listed' := #[true, true, true, true, true, true, false, false, false, false, false]) (a' := ⟨#[.pointer (some ⟨g, 0, none⟩), .int .i64 (k : Int), .slice A 256 c, undef, undef, undef, .int .i64 0, .int .i64 0, .pointer (some ⟨g8, 0, none⟩), .pointer (some ⟨g, 0, none⟩), .int .i64 (k : Int), .int .i64 0, .int .i64 0, .bool false, undef, .slice A 256 c, .int .i64 256, .bool false, .int .i64 (k : Int), .agg HA, .pointer (some ⟨g8, 1, none⟩), .slice (some ⟨g8, 1, none⟩) 256 256, .slice A 256 c, goInt ((cells L).length : Int), .pointer (some ⟨g, 0, none⟩), .pointer (some ⟨g, 0, none⟩), .pointer (some ⟨g, 0, none⟩), .pointer (some ⟨g, 2, none⟩), V, .agg WA, undef, undef, undef, undef, undef, undef, undef, undef, undef, undef, undef, undef, undef, undef, undef, undef, undef, undef], []⟩) (by kernel_rfl) (by kernel_rfl) (fun _ _ _ h => h) ?_
    refine any_comes (i := 6) (by kernel_rfl) (op_value (a' := ⟨#[.pointer (some ⟨g, 0, none⟩), .int .i64 (k : Int), .slice A 256 c, undef, undef, undef, .int .i64 0, .int .i64 0, .pointer (some ⟨g8, 0, none⟩), .pointer (some ⟨g, 0, none⟩), .int .i64 (k : Int), .int .i64 0, .int .i64 0, .bool false, undef, .slice A 256 c, .int .i64 256, .bool false, .int .i64 (k : Int), .agg HA, .pointer (some ⟨g8, 1, none⟩), .slice (some ⟨g8, 1, none⟩) 256 256, .slice A 256 c, goInt ((cells L).length : Int), .pointer (some ⟨g, 0, none⟩), .pointer (some ⟨g, 0, none⟩), .pointer (some ⟨g, 0, none⟩), .pointer (some ⟨g, 2, none⟩), V, .agg WA, .slice (some ⟨W.heap.size, 0, none⟩) 1 1, undef, undef, undef, undef, undef, undef, undef, undef, undef, undef, undef, undef, undef, undef, undef, undef, undef], []⟩) (.slice (some ⟨W.heap.size, 0, none⟩) 1 1) rfl (by kernel_rfl) (build_run 87 99 (.tmp 29) (by kernel_rfl) WA (by kernel_rfl) Tryz.underlying87 257 Tryz.writeSize (by kernel_rfl) (by omega) (by omega) sWA) (by kernel_rfl) ⟨⟨c2a, hB3a⟩, ?_⟩)
    refine any_comes (i := 7) (by kernel_rfl) (op_append rfl (by kernel_rfl) (.tmp 28) (.tmp 30) 87 rfl 0 99 i0 _ 257 264 Tryz.underlying87 hi0 hz0 hz1 hz2 (by simp [Value.cells, oneWait, cells_length]) (by omega) V d.waits.length (waitCells d.waits) (by kernel_rfl) hown (W.heap.size + 1) (some ⟨W.heap.size, 0, none⟩) 1 1 (oneWait k L) (by kernel_rfl) (wait_new W WA _ HWA.out HSW.out) (oneWait_one _ _) (by unfold maxLen; omega) (by omega) (Nat.zero_le _) ?_)
    intro V' w5 ho5 hg5 hat5
    obtain ⟨gv, cv, hv, _⟩ := ho5.form (by omega)
    subst hv
    obtain ⟨hS5, f5, c6, r6, sp, bb6, HF6⟩ := write_mid H.out hb4 g8 (by rw [hg8.out]; exact Nat.le_refl _) k HK.out L H256.out hB4 WA Hr.out HAF.out ho5 hg5 hat5
    refine ⟨hS5, ?_⟩
    refine any_asT (a' := ⟨#[.pointer (some ⟨g, 0, none⟩), .int .i64 (k : Int), .slice A 256 c, undef, undef, undef, .int .i64 0, .int .i64 0, .pointer (some ⟨g8, 0, none⟩), .pointer (some ⟨g, 0, none⟩), .int .i64 (k : Int), .int .i64 0, .int .i64 0, .bool false, undef, .slice A 256 c, .int .i64 256, .bool false, .int .i64 (k : Int), .agg HA, .pointer (some ⟨g8, 1, none⟩), .slice (some ⟨g8, 1, none⟩) 256 256, .slice A 256 c, goInt ((cells L).length : Int), .pointer (some ⟨g, 0, none⟩), .pointer (some ⟨g, 0, none⟩), .pointer (some ⟨g, 0, none⟩), .pointer (some ⟨g, 2, none⟩), V, .agg WA, .slice (some ⟨W.heap.size, 0, none⟩) 1 1, .slice (some ⟨gv, 0, none⟩) (d.waits.length + 1) cv, undef, undef, undef, undef, undef, undef, undef, undef, undef, undef, undef, undef, undef, undef, undef, undef], []⟩) (by kernel_rfl) (listed' := #[true, true, true, true, true, true, true, true, false, false, false]) (by kernel_rfl) ?_
    refine any_left (by kernel_rfl) ?_
    refine wpAny_tail 8 (by kernel_rfl) (by kernel_rfl) ?_
    simp only [List.drop_succ_cons, List.drop_zero]
    have c5 := hS5.1
    have HF7 := Lib.hid HF6
    have Hbb := Lib.hid bb6
    have Hr6 := Lib.hid r6
    clear hS5 HF6 bb6 r6 hB4 hb4 c2 c2a hB3a hown hB3 ho5 hg5 hat5 hB2 hb2 hi0 hz0 hz1 hz2 h1 hz sH sZ sWA hd8 hd8r
    go_wp2_with (first
      | (go_at_call 75; (with_reducible refine (HBl.out _).mono ?_); rintro e w6 ⟨rfl, rfl⟩)
      | (refine wpList_copy_foot rfl (.tmp 39) (.tmp 40) _ _ rfl 5 Tryz.underlying39 Tryz.size5 (some ⟨b, 256 * k, none⟩) A 256 (cb - 256 * k) 256 c rfl rfl b (256 * k) (cells d.image ++ sp) 5 Hbb.out (cells L) Hcp.out (rb_src Hr6.out _) (by rw [Hcp.out, List.length_append, cells_length]; have := Hfit.out; omega) (cells_one _) ?_; intro w7 h7 ht7; obtain ⟨F', hP7, hT7⟩ := HF7.out w7 h7 ht7; clear h7 ht7)
      | (go_at_call 95; (with_reducible refine (HFa.out _ _ hP7).mono ?_); rintro e w8 ⟨rfl, hP8, hT8⟩; obtain ⟨a8, ca8, b8, cb8, n8, V8, ends8, lf8, hP8⟩ := hP8; have HA8 := Lib.hid (aadd_any g 7 _ w8 HWr.out hP8.c7 (hP8.fz 7)))
      | (go_at_call 82; (with_reducible refine HA8.out.mono ?_); rintro e w9 ⟨rfl, rfl⟩))
  · go_ret
    rw [HW.out]
    simp only [Dk.wrote]
    exact ⟨F', rfl, ⟨_, _, _, _, _, _, _, _, hP8⟩, hT7.trans hT8⟩
  · go_ret
    rw [HW.out]
    simp only [Dk.wrote]
    exact ⟨F', rfl, ⟨_, _, _, _, _, _, _, _, hP8.count7⟩, (hT7.trans hT8).trans (Turns.set_ hP8.fg 7 _)⟩
def WritePost (d : Dk) (i : Int) (L : List UInt8) (g : Nat) (F : Nat → Prop) (w : World) (e : Ending) (w' : World) : Prop :=
  ∃ F', e = .returned (.int .i64 (d.write i L).2) ∧ PDisk w' g F' (d.write i L).1 ∧ Turns w w' F F'
theorem write_any {w : World} {g : Nat} {F : Nat → Prop} {d : Dk} (h : PDisk w g F d) (i : Int) (hl : d.load ≤ 100000)
    (L : List UInt8) (A : Option Addr) (m c : Nat) (hm : m = L.length) (hr : RB w w.heap.size A L) (hA : ∀ ad, A = some ad → ¬ F ad.block) (hc : m ≤ c) (hcm : c ≤ 9223372036854775807) :
    Calls Tryz.prog 73 #[.pointer (some ⟨g, 0, none⟩), .int .i64 i, .slice A m c] w (WritePost d i L g F w) := by
  have HR := Lib.hid (reach_any h i)
  cases ho : d.off with
  | true =>
    have HV : Hid (d.write i L = (d, 9)) := by show _ = _; unfold Dk.write; rw [if_pos ho]
    have e1 : d.reach i = 9 := by unfold Dk.reach; rw [if_pos ho]
    rw [e1] at HR
    clear ho e1 hm hr hA hl
    go_enter Tryz.func73, Tryz.ntmps73
    go_wp2_with (go_at_call 81; (with_reducible refine HR.out.mono ?_); rintro e w1 ⟨rfl, rfl⟩)
    go_ret
    unfold WritePost
    rw [HV.out]
    exact ⟨F, rfl, h, Turns.refl _ _⟩
  | false =>
    cases ht : d.there i with
    | false =>
      have HV : Hid (d.write i L = (d, 10)) := by show _ = _; unfold Dk.write; rw [ho, ht]; rfl
      have e1 : d.reach i = 10 := by unfold Dk.reach; rw [ho, ht]; rfl
      rw [e1] at HR
      clear ho ht e1 hm hr hA hl
      go_enter Tryz.func73, Tryz.ntmps73
      go_wp2_with (go_at_call 81; (with_reducible refine HR.out.mono ?_); rintro e w1 ⟨rfl, rfl⟩)
      go_ret
      unfold WritePost
      rw [HV.out]
      exact ⟨F, rfl, h, Turns.refl _ _⟩
    | true =>
      by_cases h256 : m = 256
      · subst h256
        obtain ⟨k, rfl, hk⟩ := there_nat ht
        obtain ⟨a, ca, b, cb, n, V, ends, lf, h⟩ := h
        exact write_in h k hk ho hl L A c hr hA hm.symm hc hcm
      · have HV : Hid (d.write i L = (d, 11)) := by
          show _ = _; unfold Dk.write; rw [ho, ht]
          simp only [Bool.false_eq_true, Bool.not_true, if_false]
          rw [if_pos (by omega)]
        have e1 : d.reach i = 0 := by unfold Dk.reach; rw [ho, ht]; rfl
        rw [e1] at HR
        have d0 : (((m : Int) != 256)) = true := by simp; omega
        have d1 : ((m : Int) == 256) = false := by simp; omega
        clear ho ht e1 hm hr hA hl h256
        go_enter Tryz.func73, Tryz.ntmps73
        go_wp2_with (go_at_call 81; (with_reducible refine HR.out.mono ?_); rintro e w1 ⟨rfl, rfl⟩)
        go_ret
        unfold WritePost
        rw [HV.out]
        exact ⟨F, rfl, h, Turns.refl _ _⟩
end
section
open Go.RowKit
theorem only_five {a w : World} {g gs : Nat} (h : Only a w g) (hg : a.heap.size ≤ gs) (v0 v1 v2 v3 v4 : Value) : Only a (((((w.setCell ⟨gs, 0, none⟩ v0).setCell ⟨gs, 1, none⟩ v1).setCell ⟨gs, 2, none⟩ v2).setCell ⟨gs, 3, none⟩ v3).setCell ⟨gs, 4, none⟩ v4) g :=
  only_new (only_new (only_new (only_new (only_new h hg _) hg _) hg _) hg _) hg _
theorem rb_five {w : World} {g : Nat} {A : Option Addr} {L : List UInt8} {t : TypeId} {cs : Array Value} (h : RB w w.heap.size A L) (hg : Blk w g t cs) (hcs : No8 cs) (v0 v1 v2 v3 v4 : Value) : RB (((((w.setCell ⟨g, 0, none⟩ v0).setCell ⟨g, 1, none⟩ v1).setCell ⟨g, 2, none⟩ v2).setCell ⟨g, 3, none⟩ v3).setCell ⟨g, 4, none⟩ v4) (((((w.setCell ⟨g, 0, none⟩ v0).setCell ⟨g, 1, none⟩ v1).setCell ⟨g, 2, none⟩ v2).setCell ⟨g, 3, none⟩ v3).setCell ⟨g, 4, none⟩ v4).heap.size A L :=
  rb_only8 h hg hcs (only_trans (only_trans (only_trans (only_trans (only_set _ _ _ _) (only_set _ _ _ _)) (only_set _ _ _ _)) (only_set _ _ _ _)) (only_set _ _ _ _))
def GivesT (r : Sd × Bool) (g : Nat) (w : World) (e : Ending) (w' : World) : Prop :=
  ∃ A c, e = .returned (.tuple #[secV r.1 A c, .bool r.2]) ∧ RB w' w'.heap.size A r.1.data ∧ Only w w' g
def GivesTn (r : Sd × Bool) (g : Nat) (w : World) (e : Ending) (w' : World) : Prop :=
  ∃ A c, e = .returned (.tuple #[secV r.1 A c, .bool r.2]) ∧ RB w' w'.heap.size A r.1.data ∧ Only w w' g ∧ ∀ ad, A = some ad → w.heap.size ≤ ad.block
theorem taken_long (M : List UInt8) (hM : M.length = 60) (g : Nat) (w : World) (h : Cur w g (some M)) (h48 : 48 < (M.getD 1 0).toNat) :
    Calls Tryz.prog 85 #[.pointer (some ⟨g, 0, none⟩)] w (GivesT (.zero, false) g w) := by
  obtain ⟨k, hk⟩ : ∃ x, x = (M.getD 0 0).toNat := ⟨_, rfl⟩
  obtain ⟨sz, hsz⟩ : ∃ x, x = (M.getD 1 0).toNat := ⟨_, rfl⟩
  obtain ⟨lf, hlf⟩ : ∃ x, x = unfixL ((M.drop 2).take 2) := ⟨_, rfl⟩
  obtain ⟨ez, hez⟩ : ∃ x, x = capZ (unfixL ((M.drop 4).take 4)) := ⟨_, rfl⟩
  obtain ⟨nz, hnz⟩ : ∃ x, x = capZ (unfixL ((M.drop 8).take 4)) := ⟨_, rfl⟩
  obtain ⟨M1, hM1⟩ : ∃ x, x = M.drop 1 := ⟨_, rfl⟩
  obtain ⟨M2, hM2⟩ : ∃ x, x = M.drop 2 := ⟨_, rfl⟩
  obtain ⟨M3, hM3⟩ : ∃ x, x = M.drop 4 := ⟨_, rfl⟩
  obtain ⟨M4, hM4⟩ : ∃ x, x = M.drop 8 := ⟨_, rfl⟩
  obtain ⟨M5, hM5⟩ : ∃ x, x = M.drop 12 := ⟨_, rfl⟩
  have HF1 : Hid (∀ W, Hid (Cur W g (some M)) → Calls Tryz.prog 105 #[(.func (.func 88) #[.pointer (some ⟨g, 0, none⟩)] #[]), .int .i64 1] W fun e w' => e = .returned (.int .i64 (k : Int)) ∧ Hid (Cur w' g (some M1)) ∧ Hid (Only W w' g)) := fun W h => by
    have h1 := field_any g 1 (some M) W h.out
    have hl : 1 ≤ M.length := by omega
    have h2 : stepTake 1 (some M) = (some M1, M.take 1) := by rw [show (1 : Int) = ((1 : Nat) : Int) from rfl, step_ok hl, show M.drop 1 = M1 from by rw [hM1]]
    have h3 : fieldZ (M.take 1) = (k : Int) := by rw [fieldZ_small (by simp; omega) (by simp; omega), hk, ← unfix_one M 0 (by omega)]; rfl
    rw [h2] at h1
    simp only [h3] at h1
    exact h1
  have HF2 : Hid (∀ W, Hid (Cur W g (some M1)) → Calls Tryz.prog 105 #[(.func (.func 88) #[.pointer (some ⟨g, 0, none⟩)] #[]), .int .i64 1] W fun e w' => e = .returned (.int .i64 (sz : Int)) ∧ Hid (Cur w' g (some M2)) ∧ Hid (Only W w' g)) := fun W h => by
    have h1 := field_any g 1 (some M1) W h.out
    have hl : 1 ≤ M1.length := by rw [hM1, List.length_drop]; omega
    have h2 : stepTake 1 (some M1) = (some M2, M1.take 1) := by rw [show (1 : Int) = ((1 : Nat) : Int) from rfl, step_ok hl, show M1.drop 1 = M2 from by rw [hM2, hM1, List.drop_drop]]
    have h3 : fieldZ (M1.take 1) = (sz : Int) := by rw [hM1, fieldZ_small (by simp; omega) (by simp; omega), hsz, ← unfix_one M 1 (by omega)]
    rw [h2] at h1
    simp only [h3] at h1
    exact h1
  have HF3 : Hid (∀ W, Hid (Cur W g (some M2)) → Calls Tryz.prog 105 #[(.func (.func 88) #[.pointer (some ⟨g, 0, none⟩)] #[]), .int .i64 2] W fun e w' => e = .returned (.int .i64 (lf : Int)) ∧ Hid (Cur w' g (some M3)) ∧ Hid (Only W w' g)) := fun W h => by
    have h1 := field_any g 2 (some M2) W h.out
    have hl : 2 ≤ M2.length := by rw [hM2, List.length_drop]; omega
    have h2 : stepTake 2 (some M2) = (some M3, M2.take 2) := by rw [show (2 : Int) = ((2 : Nat) : Int) from rfl, step_ok hl, show M2.drop 2 = M3 from by rw [hM3, hM2, List.drop_drop]]
    have h3 : fieldZ (M2.take 2) = (lf : Int) := by rw [hM2, fieldZ_small (by simp; omega) (by simp; omega), hlf]
    rw [h2] at h1
    simp only [h3] at h1
    exact h1
  have HF4 : Hid (∀ W, Hid (Cur W g (some M3)) → Calls Tryz.prog 105 #[(.func (.func 88) #[.pointer (some ⟨g, 0, none⟩)] #[]), .int .i64 4] W fun e w' => e = .returned (.int .i64 ez) ∧ Hid (Cur w' g (some M4)) ∧ Hid (Only W w' g)) := fun W h => by
    have h1 := field_any g 4 (some M3) W h.out
    have hl : 4 ≤ M3.length := by rw [hM3, List.length_drop]; omega
    have h2 : stepTake 4 (some M3) = (some M4, M3.take 4) := by rw [show (4 : Int) = ((4 : Nat) : Int) from rfl, step_ok hl, show M3.drop 4 = M4 from by rw [hM4, hM3, List.drop_drop]]
    have h3 : fieldZ (M3.take 4) = ez := by rw [hM3, fieldZ_cap (by simp; omega) (by simp; omega), hez]
    rw [h2] at h1
    simp only [h3] at h1
    exact h1
  have HF5 : Hid (∀ W, Hid (Cur W g (some M4)) → Calls Tryz.prog 105 #[(.func (.func 88) #[.pointer (some ⟨g, 0, none⟩)] #[]), .int .i64 4] W fun e w' => e = .returned (.int .i64 nz) ∧ Hid (Cur w' g (some M5)) ∧ Hid (Only W w' g)) := fun W h => by
    have h1 := field_any g 4 (some M4) W h.out
    have hl : 4 ≤ M4.length := by rw [hM4, List.length_drop]; omega
    have h2 : stepTake 4 (some M4) = (some M5, M4.take 4) := by rw [show (4 : Int) = ((4 : Nat) : Int) from rfl, step_ok hl, show M4.drop 4 = M5 from by rw [hM5, hM4, List.drop_drop]]
    have h3 : fieldZ (M4.take 4) = nz := by rw [hM4, fieldZ_cap (by simp; omega) (by simp; omega), hnz]
    rw [h2] at h1
    simp only [h3] at h1
    exact h1
  have HT6 : Hid (∀ W, Hid (Cur W g (some M5)) → Calls Tryz.prog 88 #[.pointer (some ⟨g, 0, none⟩), .int .i64 (sz : Int)] W fun e w' => ∃ A c, e = .returned (.slice A 0 c) ∧ Hid (RB w' w'.heap.size A []) ∧ Hid (Cur w' g none) ∧ Hid (Only W w' g)) := fun W h => by
    have h1 := take_any g (sz : Int) (some M5) W h.out
    rw [step_no (by rw [hM5, List.length_drop]; omega)] at h1
    exact h1
  have HT7 : Hid (∀ W, Hid (Cur W g none) → Calls Tryz.prog 88 #[.pointer (some ⟨g, 0, none⟩), .int .i64 0] W fun e w' => ∃ A c, e = .returned (.slice A 0 c) ∧ Hid (RB w' w'.heap.size A []) ∧ Hid (Cur w' g none) ∧ Hid (Only W w' g)) := fun W h => by
    have h1 := take_any g 0 none W h.out
    exact h1
  have HL : Hid (∀ W, Hid (Cur W g none) → Calls Tryz.prog 89 #[.pointer (some ⟨g, 0, none⟩)] W fun e w' => e = .returned (.int .i64 0) ∧ W = w') := fun W h => left_any g none W h.out
  have HB : Hid (∀ W, Hid (Cur W g none) → Calls Tryz.prog 106 #[.pointer (some ⟨g, 0, none⟩)] W fun e w' => e = .returned (.bool true) ∧ W = w') := fun W h => bad_any g none W h.out
  have HN : Hid (w.heap.size + 1 ≠ g ∧ w.heap.size ≠ g ∧ w.heap.size ≠ w.heap.size + 1 ∧ g ≠ w.heap.size + 1) := by
    obtain ⟨_, _, _, _, hb⟩ := cur_blk h
    have := hb.lt
    exact ⟨by omega, by omega, by omega, by omega⟩
  have p0 : Hid (Cur ((w.alloc (.cells #[.int .i64 0, .int .i64 0, .int .i64 0, .int .i64 0, .slice none 0 0] 49)).alloc (.cells #[.int .i64 0, .int .i64 0, .int .i64 0, .int .i64 0, .slice none 0 0] 49)) g (some M)) := cur_alloc (cur_alloc h _) _
  have bk0 : Hid (Blk ((w.alloc (.cells #[.int .i64 0, .int .i64 0, .int .i64 0, .int .i64 0, .slice none 0 0] 49)).alloc (.cells #[.int .i64 0, .int .i64 0, .int .i64 0, .int .i64 0, .slice none 0 0] 49)) (w.heap.size + 1) 49 #[.int .i64 0, .int .i64 0, .int .i64 0, .int .i64 0, .slice none 0 0]) := by have := Blk.new (w.alloc (.cells #[.int .i64 0, .int .i64 0, .int .i64 0, .int .i64 0, .slice none 0 0] 49)) 49 #[.int .i64 0, .int .i64 0, .int .i64 0, .int .i64 0, .slice none 0 0]; rwa [show (w.alloc (.cells #[.int .i64 0, .int .i64 0, .int .i64 0, .int .i64 0, .slice none 0 0] 49)).heap.size = w.heap.size + 1 by simp] at this
  have rk0 : Hid (Blk ((w.alloc (.cells #[.int .i64 0, .int .i64 0, .int .i64 0, .int .i64 0, .slice none 0 0] 49)).alloc (.cells #[.int .i64 0, .int .i64 0, .int .i64 0, .int .i64 0, .slice none 0 0] 49)) w.heap.size 49 #[.int .i64 0, .int .i64 0, .int .i64 0, .int .i64 0, .slice none 0 0]) := (Blk.new w _ _).alloc _
  have O0 : Hid (Only w ((w.alloc (.cells #[.int .i64 0, .int .i64 0, .int .i64 0, .int .i64 0, .slice none 0 0] 49)).alloc (.cells #[.int .i64 0, .int .i64 0, .int .i64 0, .int .i64 0, .slice none 0 0] 49)) g) := only_alloc (only_alloc (only_refl _ _) _) _
  have nb := fun w' => Tryz.secBuild0 w'
  have a24 := fun w' => Tryz.aggSec w'
  have s24 := fun w' => Tryz.sizeSec w'
  have hmf : ∀ (fn : Fn) (first cap : Array Value) (w : World), (Instr.makeFunc fn first cap).run Tryz.prog w = .ok (.func fn first cap) w := fun _ _ _ _ => rfl
  clear hk hsz hlf hez hnz hM1 hM2 hM3 hM4 hM5 h hM h48
  go_enter Tryz.func85, Tryz.ntmps85
  go_wp2_with (first
    | (go_at_call 105; (with_reducible refine (HF1.out _ p0).mono ?_); rintro e w1 ⟨rfl, c1, o1⟩; have bk1 := Blk.only bk0.out o1.out HN.out.1; have rk1 := Blk.only rk0.out o1.out HN.out.2.1; have on1 := only_trans O0.out o1.out; have t1 := bk1.cell 0; have s1 := bk1.frozen 0; have BK1 : Hid (Blk (w1.setCell ⟨w.heap.size + 1, 0, none⟩ (.int .i64 (k : Int))) (w.heap.size + 1) 49 #[.int .i64 (k : Int), .int .i64 0, .int .i64 0, .int .i64 0, .slice none 0 0]) := bk1.set_ 0 _; have RK1 : Hid (Blk (w1.setCell ⟨w.heap.size + 1, 0, none⟩ (.int .i64 (k : Int))) w.heap.size 49 #[.int .i64 0, .int .i64 0, .int .i64 0, .int .i64 0, .slice none 0 0]) := Blk.far rk1 HN.out.2.2.1 _; have p1 : Hid (Cur (w1.setCell ⟨w.heap.size + 1, 0, none⟩ (.int .i64 (k : Int))) g (some M1)) := cur_set8 c1.out bk1 (no8_sec _ _ _ _ _ _ _) HN.out.2.2.2 _; have O1 : Hid (Only w (w1.setCell ⟨w.heap.size + 1, 0, none⟩ (.int .i64 (k : Int))) g) := only_new on1 (by omega) _)
    | (go_at_call 105; (with_reducible refine (HF2.out _ p1).mono ?_); rintro e w2 ⟨rfl, c2, o2⟩; have bk2 := Blk.only BK1.out o2.out HN.out.1; have rk2 := Blk.only RK1.out o2.out HN.out.2.1; have on2 := only_trans O1.out o2.out; have BK2 := Lib.hid bk2; have RK2 := Lib.hid rk2; have p2 := c2; have O2 := Lib.hid on2)
    | (go_at_call 105; (with_reducible refine (HF3.out _ p2).mono ?_); rintro e w3 ⟨rfl, c3, o3⟩; have bk3 := Blk.only BK2.out o3.out HN.out.1; have rk3 := Blk.only RK2.out o3.out HN.out.2.1; have on3 := only_trans O2.out o3.out; have t3 := bk3.cell 3; have s3 := bk3.frozen 3; have BK3 : Hid (Blk (w3.setCell ⟨w.heap.size + 1, 3, none⟩ (.int .i64 (lf : Int))) (w.heap.size + 1) 49 #[.int .i64 (k : Int), .int .i64 0, .int .i64 0, .int .i64 (lf : Int), .slice none 0 0]) := bk3.set_ 3 _; have RK3 : Hid (Blk (w3.setCell ⟨w.heap.size + 1, 3, none⟩ (.int .i64 (lf : Int))) w.heap.size 49 #[.int .i64 0, .int .i64 0, .int .i64 0, .int .i64 0, .slice none 0 0]) := Blk.far rk3 HN.out.2.2.1 _; have p3 : Hid (Cur (w3.setCell ⟨w.heap.size + 1, 3, none⟩ (.int .i64 (lf : Int))) g (some M3)) := cur_set8 c3.out bk3 (no8_sec _ _ _ _ _ _ _) HN.out.2.2.2 _; have O3 : Hid (Only w (w3.setCell ⟨w.heap.size + 1, 3, none⟩ (.int .i64 (lf : Int))) g) := only_new on3 (by omega) _)
    | (go_at_call 105; (with_reducible refine (HF4.out _ p3).mono ?_); rintro e w4 ⟨rfl, c4, o4⟩; have bk4 := Blk.only BK3.out o4.out HN.out.1; have rk4 := Blk.only RK3.out o4.out HN.out.2.1; have on4 := only_trans O3.out o4.out; have t4 := bk4.cell 1; have s4 := bk4.frozen 1; have BK4 : Hid (Blk (w4.setCell ⟨w.heap.size + 1, 1, none⟩ (.int .i64 ez)) (w.heap.size + 1) 49 #[.int .i64 (k : Int), .int .i64 ez, .int .i64 0, .int .i64 (lf : Int), .slice none 0 0]) := bk4.set_ 1 _; have RK4 : Hid (Blk (w4.setCell ⟨w.heap.size + 1, 1, none⟩ (.int .i64 ez)) w.heap.size 49 #[.int .i64 0, .int .i64 0, .int .i64 0, .int .i64 0, .slice none 0 0]) := Blk.far rk4 HN.out.2.2.1 _; have p4 : Hid (Cur (w4.setCell ⟨w.heap.size + 1, 1, none⟩ (.int .i64 ez)) g (some M4)) := cur_set8 c4.out bk4 (no8_sec _ _ _ _ _ _ _) HN.out.2.2.2 _; have O4 : Hid (Only w (w4.setCell ⟨w.heap.size + 1, 1, none⟩ (.int .i64 ez)) g) := only_new on4 (by omega) _)
    | (go_at_call 105; (with_reducible refine (HF5.out _ p4).mono ?_); rintro e w5 ⟨rfl, c5, o5⟩; have bk5 := Blk.only BK4.out o5.out HN.out.1; have rk5 := Blk.only RK4.out o5.out HN.out.2.1; have on5 := only_trans O4.out o5.out; have t5 := bk5.cell 2; have s5 := bk5.frozen 2; have BK5 : Hid (Blk (w5.setCell ⟨w.heap.size + 1, 2, none⟩ (.int .i64 nz)) (w.heap.size + 1) 49 #[.int .i64 (k : Int), .int .i64 ez, .int .i64 nz, .int .i64 (lf : Int), .slice none 0 0]) := bk5.set_ 2 _; have RK5 : Hid (Blk (w5.setCell ⟨w.heap.size + 1, 2, none⟩ (.int .i64 nz)) w.heap.size 49 #[.int .i64 0, .int .i64 0, .int .i64 0, .int .i64 0, .slice none 0 0]) := Blk.far rk5 HN.out.2.2.1 _; have p5 : Hid (Cur (w5.setCell ⟨w.heap.size + 1, 2, none⟩ (.int .i64 nz)) g (some M5)) := cur_set8 c5.out bk5 (no8_sec _ _ _ _ _ _ _) HN.out.2.2.2 _; have O5 : Hid (Only w (w5.setCell ⟨w.heap.size + 1, 2, none⟩ (.int .i64 nz)) g) := only_new on5 (by omega) _)
    | (go_at_call 88; (with_reducible refine (HT6.out _ p5).mono ?_); rintro e w6 ⟨A6, c6, rfl, r6, c6', o6⟩; have bk6 := Blk.only BK5.out o6.out HN.out.1; have rk6 := Blk.only RK5.out o6.out HN.out.2.1; have on6 := only_trans O5.out o6.out; have t6 := bk6.cell 4; have s6 := bk6.frozen 4; have BK6 : Hid (Blk (w6.setCell ⟨w.heap.size + 1, 4, none⟩ (.slice A6 0 c6)) (w.heap.size + 1) 49 #[.int .i64 (k : Int), .int .i64 ez, .int .i64 nz, .int .i64 (lf : Int), .slice A6 0 c6]) := bk6.set_ 4 _; have RK6 : Hid (Blk (w6.setCell ⟨w.heap.size + 1, 4, none⟩ (.slice A6 0 c6)) w.heap.size 49 #[.int .i64 0, .int .i64 0, .int .i64 0, .int .i64 0, .slice none 0 0]) := Blk.far rk6 HN.out.2.2.1 _; have p6 : Hid (Cur (w6.setCell ⟨w.heap.size + 1, 4, none⟩ (.slice A6 0 c6)) g none) := cur_set8 c6'.out bk6 (no8_sec _ _ _ _ _ _ _) HN.out.2.2.2 _; have O6 : Hid (Only w (w6.setCell ⟨w.heap.size + 1, 4, none⟩ (.slice A6 0 c6)) g) := only_new on6 (by omega) _)
    | (go_at_call 89; (with_reducible refine (HL.out _ p6).mono ?_); rintro e w' ⟨rfl, rfl⟩)
    | (go_at_call 88; (with_reducible refine (HT7.out _ p6).mono ?_); rintro e w7 ⟨A7, c7, rfl, r7, c7', o7⟩; have bk7 := Blk.only BK6.out o7.out HN.out.1; have rk7 := Blk.only RK6.out o7.out HN.out.2.1; have on7 := only_trans O6.out o7.out; have p7 := c7'; have z0 := rk7.cell 0; have y0 := rk7.frozen 0; have z1 := rk7.cell 1; have y1 := rk7.frozen 1; have z2 := rk7.cell 2; have y2 := rk7.frozen 2; have z3 := rk7.cell 3; have y3 := rk7.frozen 3; have z4 := rk7.cell 4; have y4 := rk7.frozen 4)
    | (go_at_call 106; (with_reducible refine (HB.out _ p7).mono ?_); rintro e w' ⟨rfl, rfl⟩))
  refine bodyPost_ret (v := .tuple #[.agg #[.int .i64 0, .int .i64 0, .int .i64 0, .int .i64 0, .slice none 0 0], .bool false]) (by simp [results, Tryz.results85, go_sem, z0, z1, z2, z3, z4]) rfl ⟨none, 0, rfl, RB.none_ _ _, ?_⟩
  exact only_five on7 (Nat.le_refl _) _ _ _ _ _
theorem taken_no (M : List UInt8) (hM : M.length = 60) (g : Nat) (w : World) (h : Cur w g (some M)) (h48 : (M.getD 1 0).toNat ≤ 48) (hm : Sd.may ⟨((M.getD 0 0).toNat : Int), capZ (unfixL ((M.drop 4).take 4)), capZ (unfixL ((M.drop 8).take 4)), (unfixL ((M.drop 2).take 2) : Int), (M.drop 12).take (M.getD 1 0).toNat⟩ = false) :
    Calls Tryz.prog 85 #[.pointer (some ⟨g, 0, none⟩)] w (GivesT (.zero, false) g w) := by
  obtain ⟨k, hk⟩ : ∃ x, x = (M.getD 0 0).toNat := ⟨_, rfl⟩
  obtain ⟨sz, hsz⟩ : ∃ x, x = (M.getD 1 0).toNat := ⟨_, rfl⟩
  obtain ⟨lf, hlf⟩ : ∃ x, x = unfixL ((M.drop 2).take 2) := ⟨_, rfl⟩
  obtain ⟨ez, hez⟩ : ∃ x, x = capZ (unfixL ((M.drop 4).take 4)) := ⟨_, rfl⟩
  obtain ⟨nz, hnz⟩ : ∃ x, x = capZ (unfixL ((M.drop 8).take 4)) := ⟨_, rfl⟩
  obtain ⟨M1, hM1⟩ : ∃ x, x = M.drop 1 := ⟨_, rfl⟩
  obtain ⟨M2, hM2⟩ : ∃ x, x = M.drop 2 := ⟨_, rfl⟩
  obtain ⟨M3, hM3⟩ : ∃ x, x = M.drop 4 := ⟨_, rfl⟩
  obtain ⟨M4, hM4⟩ : ∃ x, x = M.drop 8 := ⟨_, rfl⟩
  obtain ⟨M5, hM5⟩ : ∃ x, x = M.drop 12 := ⟨_, rfl⟩
  have HF1 : Hid (∀ W, Hid (Cur W g (some M)) → Calls Tryz.prog 105 #[(.func (.func 88) #[.pointer (some ⟨g, 0, none⟩)] #[]), .int .i64 1] W fun e w' => e = .returned (.int .i64 (k : Int)) ∧ Hid (Cur w' g (some M1)) ∧ Hid (Only W w' g)) := fun W h => by
    have h1 := field_any g 1 (some M) W h.out
    have hl : 1 ≤ M.length := by omega
    have h2 : stepTake 1 (some M) = (some M1, M.take 1) := by rw [show (1 : Int) = ((1 : Nat) : Int) from rfl, step_ok hl, show M.drop 1 = M1 from by rw [hM1]]
    have h3 : fieldZ (M.take 1) = (k : Int) := by rw [fieldZ_small (by simp; omega) (by simp; omega), hk, ← unfix_one M 0 (by omega)]; rfl
    rw [h2] at h1
    simp only [h3] at h1
    exact h1
  have HF2 : Hid (∀ W, Hid (Cur W g (some M1)) → Calls Tryz.prog 105 #[(.func (.func 88) #[.pointer (some ⟨g, 0, none⟩)] #[]), .int .i64 1] W fun e w' => e = .returned (.int .i64 (sz : Int)) ∧ Hid (Cur w' g (some M2)) ∧ Hid (Only W w' g)) := fun W h => by
    have h1 := field_any g 1 (some M1) W h.out
    have hl : 1 ≤ M1.length := by rw [hM1, List.length_drop]; omega
    have h2 : stepTake 1 (some M1) = (some M2, M1.take 1) := by rw [show (1 : Int) = ((1 : Nat) : Int) from rfl, step_ok hl, show M1.drop 1 = M2 from by rw [hM2, hM1, List.drop_drop]]
    have h3 : fieldZ (M1.take 1) = (sz : Int) := by rw [hM1, fieldZ_small (by simp; omega) (by simp; omega), hsz, ← unfix_one M 1 (by omega)]
    rw [h2] at h1
    simp only [h3] at h1
    exact h1
  have HF3 : Hid (∀ W, Hid (Cur W g (some M2)) → Calls Tryz.prog 105 #[(.func (.func 88) #[.pointer (some ⟨g, 0, none⟩)] #[]), .int .i64 2] W fun e w' => e = .returned (.int .i64 (lf : Int)) ∧ Hid (Cur w' g (some M3)) ∧ Hid (Only W w' g)) := fun W h => by
    have h1 := field_any g 2 (some M2) W h.out
    have hl : 2 ≤ M2.length := by rw [hM2, List.length_drop]; omega
    have h2 : stepTake 2 (some M2) = (some M3, M2.take 2) := by rw [show (2 : Int) = ((2 : Nat) : Int) from rfl, step_ok hl, show M2.drop 2 = M3 from by rw [hM3, hM2, List.drop_drop]]
    have h3 : fieldZ (M2.take 2) = (lf : Int) := by rw [hM2, fieldZ_small (by simp; omega) (by simp; omega), hlf]
    rw [h2] at h1
    simp only [h3] at h1
    exact h1
  have HF4 : Hid (∀ W, Hid (Cur W g (some M3)) → Calls Tryz.prog 105 #[(.func (.func 88) #[.pointer (some ⟨g, 0, none⟩)] #[]), .int .i64 4] W fun e w' => e = .returned (.int .i64 ez) ∧ Hid (Cur w' g (some M4)) ∧ Hid (Only W w' g)) := fun W h => by
    have h1 := field_any g 4 (some M3) W h.out
    have hl : 4 ≤ M3.length := by rw [hM3, List.length_drop]; omega
    have h2 : stepTake 4 (some M3) = (some M4, M3.take 4) := by rw [show (4 : Int) = ((4 : Nat) : Int) from rfl, step_ok hl, show M3.drop 4 = M4 from by rw [hM4, hM3, List.drop_drop]]
    have h3 : fieldZ (M3.take 4) = ez := by rw [hM3, fieldZ_cap (by simp; omega) (by simp; omega), hez]
    rw [h2] at h1
    simp only [h3] at h1
    exact h1
  have HF5 : Hid (∀ W, Hid (Cur W g (some M4)) → Calls Tryz.prog 105 #[(.func (.func 88) #[.pointer (some ⟨g, 0, none⟩)] #[]), .int .i64 4] W fun e w' => e = .returned (.int .i64 nz) ∧ Hid (Cur w' g (some M5)) ∧ Hid (Only W w' g)) := fun W h => by
    have h1 := field_any g 4 (some M4) W h.out
    have hl : 4 ≤ M4.length := by rw [hM4, List.length_drop]; omega
    have h2 : stepTake 4 (some M4) = (some M5, M4.take 4) := by rw [show (4 : Int) = ((4 : Nat) : Int) from rfl, step_ok hl, show M4.drop 4 = M5 from by rw [hM5, hM4, List.drop_drop]]
    have h3 : fieldZ (M4.take 4) = nz := by rw [hM4, fieldZ_cap (by simp; omega) (by simp; omega), hnz]
    rw [h2] at h1
    simp only [h3] at h1
    exact h1
  obtain ⟨r, hr⟩ : ∃ x, x = 48 - sz := ⟨_, rfl⟩
  obtain ⟨D, hD⟩ : ∃ x, x = M5.take sz := ⟨_, rfl⟩
  obtain ⟨R, hR⟩ : ∃ x, x = M5.drop sz := ⟨_, rfl⟩
  rw [← hsz] at h48
  have hm : Sd.may ⟨(k : Int), ez, nz, (lf : Int), D⟩ = false := by rw [hk, hez, hnz, hlf, hD, hM5, hsz]; exact hm
  have l5 : M5.length = 48 := by rw [hM5, List.length_drop, hM]
  have lD : D.length = sz := by rw [hD, List.length_take]; omega
  have lR : R.length = r := by rw [hR, List.length_drop]; omega
  have HT6 : Hid (∀ W, Hid (Cur W g (some M5)) → Calls Tryz.prog 88 #[.pointer (some ⟨g, 0, none⟩), .int .i64 (sz : Int)] W fun e w' => ∃ A c, e = .returned (.slice A sz c) ∧ Hid (RB w' w'.heap.size A D) ∧ Hid (Cur w' g (some R)) ∧ Hid (Only W w' g)) := fun W h => by
    have h1 := take_any g (sz : Int) (some M5) W h.out
    rw [step_ok (by omega), ← hD, ← hR] at h1
    refine h1.mono fun e w' hh => ?_
    obtain ⟨A, c, he, h2, h3, h4⟩ := hh
    simp only [lD] at he
    exact ⟨A, c, he, h2, h3, h4⟩
  have HT7 : Hid (∀ W, Hid (Cur W g (some R)) → Calls Tryz.prog 88 #[.pointer (some ⟨g, 0, none⟩), .int .i64 (r : Int)] W fun e w' => ∃ A c, e = .returned (.slice A r c) ∧ Hid (RB w' w'.heap.size A R) ∧ Hid (Cur w' g (some [])) ∧ Hid (Only W w' g)) := fun W h => by
    have h1 := take_any g (r : Int) (some R) W h.out
    rw [step_ok (by omega), List.take_of_length_le (by omega), List.drop_of_length_le (by omega)] at h1
    refine h1.mono fun e w' hh => ?_
    obtain ⟨A, c, he, h2, h3, h4⟩ := hh
    simp only [lR] at he
    exact ⟨A, c, he, h2, h3, h4⟩
  have HL : Hid (∀ W, Hid (Cur W g (some R)) → Calls Tryz.prog 89 #[.pointer (some ⟨g, 0, none⟩)] W fun e w' => e = .returned (.int .i64 (r : Int)) ∧ W = w') := fun W h => by
    have h1 := left_any g (some R) W h.out
    simp only [leftN, lR] at h1
    exact h1
  have HB : Hid (∀ W, Hid (Cur W g (some [])) → Calls Tryz.prog 106 #[.pointer (some ⟨g, 0, none⟩)] W fun e w' => e = .returned (.bool false) ∧ W = w') := fun W h => bad_any g (some []) W h.out
  have HMy : Hid (∀ W (A : Option Addr) (c : Nat), Calls Tryz.prog 90 #[.agg #[.int .i64 (k : Int), .int .i64 ez, .int .i64 nz, .int .i64 (lf : Int), .slice A sz c]] W fun e w' => e = .returned (.bool false) ∧ Below W.heap.size W w') := fun W A c => by
    have h1 := maybe_any ⟨(k : Int), ez, nz, (lf : Int), D⟩ A c W
    rw [hm] at h1
    unfold secV at h1
    simp only [lD] at h1
    exact h1
  have HN : Hid (w.heap.size + 1 ≠ g ∧ w.heap.size ≠ g ∧ w.heap.size ≠ w.heap.size + 1 ∧ g ≠ w.heap.size + 1) := by
    obtain ⟨_, _, _, _, hb⟩ := cur_blk h
    have := hb.lt
    exact ⟨by omega, by omega, by omega, by omega⟩
  have p0 : Hid (Cur ((w.alloc (.cells #[.int .i64 0, .int .i64 0, .int .i64 0, .int .i64 0, .slice none 0 0] 49)).alloc (.cells #[.int .i64 0, .int .i64 0, .int .i64 0, .int .i64 0, .slice none 0 0] 49)) g (some M)) := cur_alloc (cur_alloc h _) _
  have bk0 : Hid (Blk ((w.alloc (.cells #[.int .i64 0, .int .i64 0, .int .i64 0, .int .i64 0, .slice none 0 0] 49)).alloc (.cells #[.int .i64 0, .int .i64 0, .int .i64 0, .int .i64 0, .slice none 0 0] 49)) (w.heap.size + 1) 49 #[.int .i64 0, .int .i64 0, .int .i64 0, .int .i64 0, .slice none 0 0]) := by have := Blk.new (w.alloc (.cells #[.int .i64 0, .int .i64 0, .int .i64 0, .int .i64 0, .slice none 0 0] 49)) 49 #[.int .i64 0, .int .i64 0, .int .i64 0, .int .i64 0, .slice none 0 0]; rwa [show (w.alloc (.cells #[.int .i64 0, .int .i64 0, .int .i64 0, .int .i64 0, .slice none 0 0] 49)).heap.size = w.heap.size + 1 by simp] at this
  have rk0 : Hid (Blk ((w.alloc (.cells #[.int .i64 0, .int .i64 0, .int .i64 0, .int .i64 0, .slice none 0 0] 49)).alloc (.cells #[.int .i64 0, .int .i64 0, .int .i64 0, .int .i64 0, .slice none 0 0] 49)) w.heap.size 49 #[.int .i64 0, .int .i64 0, .int .i64 0, .int .i64 0, .slice none 0 0]) := (Blk.new w _ _).alloc _
  have O0 : Hid (Only w ((w.alloc (.cells #[.int .i64 0, .int .i64 0, .int .i64 0, .int .i64 0, .slice none 0 0] 49)).alloc (.cells #[.int .i64 0, .int .i64 0, .int .i64 0, .int .i64 0, .slice none 0 0] 49)) g) := only_alloc (only_alloc (only_refl _ _) _) _
  have nb := fun w' => Tryz.secBuild0 w'
  have a24 := fun w' => Tryz.aggSec w'
  have s24 := fun w' => Tryz.sizeSec w'
  have hmf : ∀ (fn : Fn) (first cap : Array Value) (w : World), (Instr.makeFunc fn first cap).run Tryz.prog w = .ok (.func fn first cap) w := fun _ _ _ _ => rfl
  clear hk hsz hlf hez hnz hM1 hM2 hM3 hM4 hM5 h hM h48 hm hr hD hR l5 lD lR
  go_enter Tryz.func85, Tryz.ntmps85
  go_wp2_with (first
    | (go_at_call 105; (with_reducible refine (HF1.out _ p0).mono ?_); rintro e w1 ⟨rfl, c1, o1⟩; have bk1 := Blk.only bk0.out o1.out HN.out.1; have rk1 := Blk.only rk0.out o1.out HN.out.2.1; have on1 := only_trans O0.out o1.out; have t1 := bk1.cell 0; have s1 := bk1.frozen 0; have BK1 : Hid (Blk (w1.setCell ⟨w.heap.size + 1, 0, none⟩ (.int .i64 (k : Int))) (w.heap.size + 1) 49 #[.int .i64 (k : Int), .int .i64 0, .int .i64 0, .int .i64 0, .slice none 0 0]) := bk1.set_ 0 _; have RK1 : Hid (Blk (w1.setCell ⟨w.heap.size + 1, 0, none⟩ (.int .i64 (k : Int))) w.heap.size 49 #[.int .i64 0, .int .i64 0, .int .i64 0, .int .i64 0, .slice none 0 0]) := Blk.far rk1 HN.out.2.2.1 _; have p1 : Hid (Cur (w1.setCell ⟨w.heap.size + 1, 0, none⟩ (.int .i64 (k : Int))) g (some M1)) := cur_set8 c1.out bk1 (no8_sec _ _ _ _ _ _ _) HN.out.2.2.2 _; have O1 : Hid (Only w (w1.setCell ⟨w.heap.size + 1, 0, none⟩ (.int .i64 (k : Int))) g) := only_new on1 (by omega) _)
    | (go_at_call 105; (with_reducible refine (HF2.out _ p1).mono ?_); rintro e w2 ⟨rfl, c2, o2⟩; have bk2 := Blk.only BK1.out o2.out HN.out.1; have rk2 := Blk.only RK1.out o2.out HN.out.2.1; have on2 := only_trans O1.out o2.out; have BK2 := Lib.hid bk2; have RK2 := Lib.hid rk2; have p2 := c2; have O2 := Lib.hid on2)
    | (go_at_call 105; (with_reducible refine (HF3.out _ p2).mono ?_); rintro e w3 ⟨rfl, c3, o3⟩; have bk3 := Blk.only BK2.out o3.out HN.out.1; have rk3 := Blk.only RK2.out o3.out HN.out.2.1; have on3 := only_trans O2.out o3.out; have t3 := bk3.cell 3; have s3 := bk3.frozen 3; have BK3 : Hid (Blk (w3.setCell ⟨w.heap.size + 1, 3, none⟩ (.int .i64 (lf : Int))) (w.heap.size + 1) 49 #[.int .i64 (k : Int), .int .i64 0, .int .i64 0, .int .i64 (lf : Int), .slice none 0 0]) := bk3.set_ 3 _; have RK3 : Hid (Blk (w3.setCell ⟨w.heap.size + 1, 3, none⟩ (.int .i64 (lf : Int))) w.heap.size 49 #[.int .i64 0, .int .i64 0, .int .i64 0, .int .i64 0, .slice none 0 0]) := Blk.far rk3 HN.out.2.2.1 _; have p3 : Hid (Cur (w3.setCell ⟨w.heap.size + 1, 3, none⟩ (.int .i64 (lf : Int))) g (some M3)) := cur_set8 c3.out bk3 (no8_sec _ _ _ _ _ _ _) HN.out.2.2.2 _; have O3 : Hid (Only w (w3.setCell ⟨w.heap.size + 1, 3, none⟩ (.int .i64 (lf : Int))) g) := only_new on3 (by omega) _)
    | (go_at_call 105; (with_reducible refine (HF4.out _ p3).mono ?_); rintro e w4 ⟨rfl, c4, o4⟩; have bk4 := Blk.only BK3.out o4.out HN.out.1; have rk4 := Blk.only RK3.out o4.out HN.out.2.1; have on4 := only_trans O3.out o4.out; have t4 := bk4.cell 1; have s4 := bk4.frozen 1; have BK4 : Hid (Blk (w4.setCell ⟨w.heap.size + 1, 1, none⟩ (.int .i64 ez)) (w.heap.size + 1) 49 #[.int .i64 (k : Int), .int .i64 ez, .int .i64 0, .int .i64 (lf : Int), .slice none 0 0]) := bk4.set_ 1 _; have RK4 : Hid (Blk (w4.setCell ⟨w.heap.size + 1, 1, none⟩ (.int .i64 ez)) w.heap.size 49 #[.int .i64 0, .int .i64 0, .int .i64 0, .int .i64 0, .slice none 0 0]) := Blk.far rk4 HN.out.2.2.1 _; have p4 : Hid (Cur (w4.setCell ⟨w.heap.size + 1, 1, none⟩ (.int .i64 ez)) g (some M4)) := cur_set8 c4.out bk4 (no8_sec _ _ _ _ _ _ _) HN.out.2.2.2 _; have O4 : Hid (Only w (w4.setCell ⟨w.heap.size + 1, 1, none⟩ (.int .i64 ez)) g) := only_new on4 (by omega) _)
    | (go_at_call 105; (with_reducible refine (HF5.out _ p4).mono ?_); rintro e w5 ⟨rfl, c5, o5⟩; have bk5 := Blk.only BK4.out o5.out HN.out.1; have rk5 := Blk.only RK4.out o5.out HN.out.2.1; have on5 := only_trans O4.out o5.out; have t5 := bk5.cell 2; have s5 := bk5.frozen 2; have BK5 : Hid (Blk (w5.setCell ⟨w.heap.size + 1, 2, none⟩ (.int .i64 nz)) (w.heap.size + 1) 49 #[.int .i64 (k : Int), .int .i64 ez, .int .i64 nz, .int .i64 (lf : Int), .slice none 0 0]) := bk5.set_ 2 _; have RK5 : Hid (Blk (w5.setCell ⟨w.heap.size + 1, 2, none⟩ (.int .i64 nz)) w.heap.size 49 #[.int .i64 0, .int .i64 0, .int .i64 0, .int .i64 0, .slice none 0 0]) := Blk.far rk5 HN.out.2.2.1 _; have p5 : Hid (Cur (w5.setCell ⟨w.heap.size + 1, 2, none⟩ (.int .i64 nz)) g (some M5)) := cur_set8 c5.out bk5 (no8_sec _ _ _ _ _ _ _) HN.out.2.2.2 _; have O5 : Hid (Only w (w5.setCell ⟨w.heap.size + 1, 2, none⟩ (.int .i64 nz)) g) := only_new on5 (by omega) _)
    | (go_at_call 88; (with_reducible refine (HT6.out _ p5).mono ?_); rintro e w6 ⟨A6, c6, rfl, r6, c6', o6⟩; have bk6 := Blk.only BK5.out o6.out HN.out.1; have rk6 := Blk.only RK5.out o6.out HN.out.2.1; have on6 := only_trans O5.out o6.out; have t6 := bk6.cell 4; have s6 := bk6.frozen 4; have BK6 : Hid (Blk (w6.setCell ⟨w.heap.size + 1, 4, none⟩ (.slice A6 sz c6)) (w.heap.size + 1) 49 #[.int .i64 (k : Int), .int .i64 ez, .int .i64 nz, .int .i64 (lf : Int), .slice A6 sz c6]) := bk6.set_ 4 _; have RK6 : Hid (Blk (w6.setCell ⟨w.heap.size + 1, 4, none⟩ (.slice A6 sz c6)) w.heap.size 49 #[.int .i64 0, .int .i64 0, .int .i64 0, .int .i64 0, .slice none 0 0]) := Blk.far rk6 HN.out.2.2.1 _; have p6 : Hid (Cur (w6.setCell ⟨w.heap.size + 1, 4, none⟩ (.slice A6 sz c6)) g (some R)) := cur_set8 c6'.out bk6 (no8_sec _ _ _ _ _ _ _) HN.out.2.2.2 _; have O6 : Hid (Only w (w6.setCell ⟨w.heap.size + 1, 4, none⟩ (.slice A6 sz c6)) g) := only_new on6 (by omega) _)
    | (go_at_call 89; (with_reducible refine (HL.out _ p6).mono ?_); rintro e w' ⟨rfl, rfl⟩)
    | (go_at_call 88; (with_reducible refine (HT7.out _ p6).mono ?_); rintro e w7 ⟨A7, c7, rfl, r7, c7', o7⟩; have bk7 := Blk.only BK6.out o7.out HN.out.1; have rk7 := Blk.only RK6.out o7.out HN.out.2.1; have on7 := only_trans O6.out o7.out; have p7 := c7'; have v0 := bk7.cell 0; have v1 := bk7.cell 1; have v2 := bk7.cell 2; have v3 := bk7.cell 3; have v4 := bk7.cell 4)
    | (go_at_call 106; (with_reducible refine (HB.out _ p7).mono ?_); rintro e w' ⟨rfl, rfl⟩)
    | (go_at_call 90; (with_reducible refine (HMy.out _ _ _).mono ?_); rintro e w8 ⟨rfl, hb8⟩; have bk8 := bk7.below hb8 bk7.lt; have rk8 := rk7.below hb8 rk7.lt; have on8 := only_more on7 hb8; have z0 := rk8.cell 0; have y0 := rk8.frozen 0; have z1 := rk8.cell 1; have y1 := rk8.frozen 1; have z2 := rk8.cell 2; have y2 := rk8.frozen 2; have z3 := rk8.cell 3; have y3 := rk8.frozen 3; have z4 := rk8.cell 4; have y4 := rk8.frozen 4))
  refine bodyPost_ret (v := .tuple #[.agg #[.int .i64 0, .int .i64 0, .int .i64 0, .int .i64 0, .slice none 0 0], .bool false]) (by simp [results, Tryz.results85, go_sem, z0, z1, z2, z3, z4]) rfl ⟨none, 0, rfl, RB.none_ _ _, ?_⟩
  exact only_five on8 (Nat.le_refl _) _ _ _ _ _
theorem taken_odd (M : List UInt8) (hM : M.length = 60) (g : Nat) (w : World) (h : Cur w g (some M)) (h48 : (M.getD 1 0).toNat ≤ 48) (hm : Sd.may ⟨((M.getD 0 0).toNat : Int), capZ (unfixL ((M.drop 4).take 4)), capZ (unfixL ((M.drop 8).take 4)), (unfixL ((M.drop 2).take 2) : Int), (M.drop 12).take (M.getD 1 0).toNat⟩ = true) (hz : ¬ (M.drop 12).drop (M.getD 1 0).toNat = List.replicate (48 - (M.getD 1 0).toNat) 0) :
    Calls Tryz.prog 85 #[.pointer (some ⟨g, 0, none⟩)] w (GivesT (.zero, false) g w) := by
  obtain ⟨i0, hi0, hz0, hz1, hz2⟩ := info_parts Tryz.info5
  obtain ⟨k, hk⟩ : ∃ x, x = (M.getD 0 0).toNat := ⟨_, rfl⟩
  obtain ⟨sz, hsz⟩ : ∃ x, x = (M.getD 1 0).toNat := ⟨_, rfl⟩
  obtain ⟨lf, hlf⟩ : ∃ x, x = unfixL ((M.drop 2).take 2) := ⟨_, rfl⟩
  obtain ⟨ez, hez⟩ : ∃ x, x = capZ (unfixL ((M.drop 4).take 4)) := ⟨_, rfl⟩
  obtain ⟨nz, hnz⟩ : ∃ x, x = capZ (unfixL ((M.drop 8).take 4)) := ⟨_, rfl⟩
  obtain ⟨M1, hM1⟩ : ∃ x, x = M.drop 1 := ⟨_, rfl⟩
  obtain ⟨M2, hM2⟩ : ∃ x, x = M.drop 2 := ⟨_, rfl⟩
  obtain ⟨M3, hM3⟩ : ∃ x, x = M.drop 4 := ⟨_, rfl⟩
  obtain ⟨M4, hM4⟩ : ∃ x, x = M.drop 8 := ⟨_, rfl⟩
  obtain ⟨M5, hM5⟩ : ∃ x, x = M.drop 12 := ⟨_, rfl⟩
  have HF1 : Hid (∀ W, Hid (Cur W g (some M)) → Calls Tryz.prog 105 #[(.func (.func 88) #[.pointer (some ⟨g, 0, none⟩)] #[]), .int .i64 1] W fun e w' => e = .returned (.int .i64 (k : Int)) ∧ Hid (Cur w' g (some M1)) ∧ Hid (Only W w' g)) := fun W h => by
    have h1 := field_any g 1 (some M) W h.out
    have hl : 1 ≤ M.length := by omega
    have h2 : stepTake 1 (some M) = (some M1, M.take 1) := by rw [show (1 : Int) = ((1 : Nat) : Int) from rfl, step_ok hl, show M.drop 1 = M1 from by rw [hM1]]
    have h3 : fieldZ (M.take 1) = (k : Int) := by rw [fieldZ_small (by simp; omega) (by simp; omega), hk, ← unfix_one M 0 (by omega)]; rfl
    rw [h2] at h1
    simp only [h3] at h1
    exact h1
  have HF2 : Hid (∀ W, Hid (Cur W g (some M1)) → Calls Tryz.prog 105 #[(.func (.func 88) #[.pointer (some ⟨g, 0, none⟩)] #[]), .int .i64 1] W fun e w' => e = .returned (.int .i64 (sz : Int)) ∧ Hid (Cur w' g (some M2)) ∧ Hid (Only W w' g)) := fun W h => by
    have h1 := field_any g 1 (some M1) W h.out
    have hl : 1 ≤ M1.length := by rw [hM1, List.length_drop]; omega
    have h2 : stepTake 1 (some M1) = (some M2, M1.take 1) := by rw [show (1 : Int) = ((1 : Nat) : Int) from rfl, step_ok hl, show M1.drop 1 = M2 from by rw [hM2, hM1, List.drop_drop]]
    have h3 : fieldZ (M1.take 1) = (sz : Int) := by rw [hM1, fieldZ_small (by simp; omega) (by simp; omega), hsz, ← unfix_one M 1 (by omega)]
    rw [h2] at h1
    simp only [h3] at h1
    exact h1
  have HF3 : Hid (∀ W, Hid (Cur W g (some M2)) → Calls Tryz.prog 105 #[(.func (.func 88) #[.pointer (some ⟨g, 0, none⟩)] #[]), .int .i64 2] W fun e w' => e = .returned (.int .i64 (lf : Int)) ∧ Hid (Cur w' g (some M3)) ∧ Hid (Only W w' g)) := fun W h => by
    have h1 := field_any g 2 (some M2) W h.out
    have hl : 2 ≤ M2.length := by rw [hM2, List.length_drop]; omega
    have h2 : stepTake 2 (some M2) = (some M3, M2.take 2) := by rw [show (2 : Int) = ((2 : Nat) : Int) from rfl, step_ok hl, show M2.drop 2 = M3 from by rw [hM3, hM2, List.drop_drop]]
    have h3 : fieldZ (M2.take 2) = (lf : Int) := by rw [hM2, fieldZ_small (by simp; omega) (by simp; omega), hlf]
    rw [h2] at h1
    simp only [h3] at h1
    exact h1
  have HF4 : Hid (∀ W, Hid (Cur W g (some M3)) → Calls Tryz.prog 105 #[(.func (.func 88) #[.pointer (some ⟨g, 0, none⟩)] #[]), .int .i64 4] W fun e w' => e = .returned (.int .i64 ez) ∧ Hid (Cur w' g (some M4)) ∧ Hid (Only W w' g)) := fun W h => by
    have h1 := field_any g 4 (some M3) W h.out
    have hl : 4 ≤ M3.length := by rw [hM3, List.length_drop]; omega
    have h2 : stepTake 4 (some M3) = (some M4, M3.take 4) := by rw [show (4 : Int) = ((4 : Nat) : Int) from rfl, step_ok hl, show M3.drop 4 = M4 from by rw [hM4, hM3, List.drop_drop]]
    have h3 : fieldZ (M3.take 4) = ez := by rw [hM3, fieldZ_cap (by simp; omega) (by simp; omega), hez]
    rw [h2] at h1
    simp only [h3] at h1
    exact h1
  have HF5 : Hid (∀ W, Hid (Cur W g (some M4)) → Calls Tryz.prog 105 #[(.func (.func 88) #[.pointer (some ⟨g, 0, none⟩)] #[]), .int .i64 4] W fun e w' => e = .returned (.int .i64 nz) ∧ Hid (Cur w' g (some M5)) ∧ Hid (Only W w' g)) := fun W h => by
    have h1 := field_any g 4 (some M4) W h.out
    have hl : 4 ≤ M4.length := by rw [hM4, List.length_drop]; omega
    have h2 : stepTake 4 (some M4) = (some M5, M4.take 4) := by rw [show (4 : Int) = ((4 : Nat) : Int) from rfl, step_ok hl, show M4.drop 4 = M5 from by rw [hM5, hM4, List.drop_drop]]
    have h3 : fieldZ (M4.take 4) = nz := by rw [hM4, fieldZ_cap (by simp; omega) (by simp; omega), hnz]
    rw [h2] at h1
    simp only [h3] at h1
    exact h1
  obtain ⟨r, hr⟩ : ∃ x, x = 48 - sz := ⟨_, rfl⟩
  obtain ⟨D, hD⟩ : ∃ x, x = M5.take sz := ⟨_, rfl⟩
  obtain ⟨R, hR⟩ : ∃ x, x = M5.drop sz := ⟨_, rfl⟩
  rw [← hsz] at h48
  have hm : Sd.may ⟨(k : Int), ez, nz, (lf : Int), D⟩ = true := by rw [hk, hez, hnz, hlf, hD, hM5, hsz]; exact hm
  have hze : decide (R = List.replicate r 0) = false := by rw [hR, hr, hM5, hsz]; exact decide_eq_false hz
  have l5 : M5.length = 48 := by rw [hM5, List.length_drop, hM]
  have lD : D.length = sz := by rw [hD, List.length_take]; omega
  have lR : R.length = r := by rw [hR, List.length_drop]; omega
  have HT6 : Hid (∀ W, Hid (Cur W g (some M5)) → Calls Tryz.prog 88 #[.pointer (some ⟨g, 0, none⟩), .int .i64 (sz : Int)] W fun e w' => ∃ A c, e = .returned (.slice A sz c) ∧ Hid (RB w' w'.heap.size A D) ∧ Hid (Cur w' g (some R)) ∧ Hid (Only W w' g)) := fun W h => by
    have h1 := take_any g (sz : Int) (some M5) W h.out
    rw [step_ok (by omega), ← hD, ← hR] at h1
    refine h1.mono fun e w' hh => ?_
    obtain ⟨A, c, he, h2, h3, h4⟩ := hh
    simp only [lD] at he
    exact ⟨A, c, he, h2, h3, h4⟩
  have HT7 : Hid (∀ W, Hid (Cur W g (some R)) → Calls Tryz.prog 88 #[.pointer (some ⟨g, 0, none⟩), .int .i64 (r : Int)] W fun e w' => ∃ A c, e = .returned (.slice A r c) ∧ Hid (RB w' w'.heap.size A R) ∧ Hid (Cur w' g (some [])) ∧ Hid (Only W w' g)) := fun W h => by
    have h1 := take_any g (r : Int) (some R) W h.out
    rw [step_ok (by omega), List.take_of_length_le (by omega), List.drop_of_length_le (by omega)] at h1
    refine h1.mono fun e w' hh => ?_
    obtain ⟨A, c, he, h2, h3, h4⟩ := hh
    simp only [lR] at he
    exact ⟨A, c, he, h2, h3, h4⟩
  have HL : Hid (∀ W, Hid (Cur W g (some R)) → Calls Tryz.prog 89 #[.pointer (some ⟨g, 0, none⟩)] W fun e w' => e = .returned (.int .i64 (r : Int)) ∧ W = w') := fun W h => by
    have h1 := left_any g (some R) W h.out
    simp only [leftN, lR] at h1
    exact h1
  have HB : Hid (∀ W, Hid (Cur W g (some [])) → Calls Tryz.prog 106 #[.pointer (some ⟨g, 0, none⟩)] W fun e w' => e = .returned (.bool false) ∧ W = w') := fun W h => bad_any g (some []) W h.out
  have HMy : Hid (∀ W (A : Option Addr) (c : Nat), Calls Tryz.prog 90 #[.agg #[.int .i64 (k : Int), .int .i64 ez, .int .i64 nz, .int .i64 (lf : Int), .slice A sz c]] W fun e w' => e = .returned (.bool true) ∧ Below W.heap.size W w') := fun W A c => by
    have h1 := maybe_any ⟨(k : Int), ez, nz, (lf : Int), D⟩ A c W
    rw [hm] at h1
    unfold secV at h1
    simp only [lD] at h1
    exact h1
  have HEq : Hid (∀ W (A A' : Option Addr) (c c' : Nat), RB W W.heap.size A R → RB W W.heap.size A' (List.replicate r 0) → Calls Tryz.prog 101 #[.slice A r c, .slice A' r c'] W fun e w' => e = .returned (.bool false) ∧ W = w') := fun W A A' c c' h1 h2 => by
    have h3 := equal_any R (List.replicate r 0) A A' c c' _ _ W h1 h2
    rw [List.length_replicate, lR, hze] at h3
    exact h3
  have HN : Hid (w.heap.size + 1 ≠ g ∧ w.heap.size ≠ g ∧ w.heap.size ≠ w.heap.size + 1 ∧ g ≠ w.heap.size + 1) := by
    obtain ⟨_, _, _, _, hb⟩ := cur_blk h
    have := hb.lt
    exact ⟨by omega, by omega, by omega, by omega⟩
  have p0 : Hid (Cur ((w.alloc (.cells #[.int .i64 0, .int .i64 0, .int .i64 0, .int .i64 0, .slice none 0 0] 49)).alloc (.cells #[.int .i64 0, .int .i64 0, .int .i64 0, .int .i64 0, .slice none 0 0] 49)) g (some M)) := cur_alloc (cur_alloc h _) _
  have bk0 : Hid (Blk ((w.alloc (.cells #[.int .i64 0, .int .i64 0, .int .i64 0, .int .i64 0, .slice none 0 0] 49)).alloc (.cells #[.int .i64 0, .int .i64 0, .int .i64 0, .int .i64 0, .slice none 0 0] 49)) (w.heap.size + 1) 49 #[.int .i64 0, .int .i64 0, .int .i64 0, .int .i64 0, .slice none 0 0]) := by have := Blk.new (w.alloc (.cells #[.int .i64 0, .int .i64 0, .int .i64 0, .int .i64 0, .slice none 0 0] 49)) 49 #[.int .i64 0, .int .i64 0, .int .i64 0, .int .i64 0, .slice none 0 0]; rwa [show (w.alloc (.cells #[.int .i64 0, .int .i64 0, .int .i64 0, .int .i64 0, .slice none 0 0] 49)).heap.size = w.heap.size + 1 by simp] at this
  have rk0 : Hid (Blk ((w.alloc (.cells #[.int .i64 0, .int .i64 0, .int .i64 0, .int .i64 0, .slice none 0 0] 49)).alloc (.cells #[.int .i64 0, .int .i64 0, .int .i64 0, .int .i64 0, .slice none 0 0] 49)) w.heap.size 49 #[.int .i64 0, .int .i64 0, .int .i64 0, .int .i64 0, .slice none 0 0]) := (Blk.new w _ _).alloc _
  have O0 : Hid (Only w ((w.alloc (.cells #[.int .i64 0, .int .i64 0, .int .i64 0, .int .i64 0, .slice none 0 0] 49)).alloc (.cells #[.int .i64 0, .int .i64 0, .int .i64 0, .int .i64 0, .slice none 0 0] 49)) g) := only_alloc (only_alloc (only_refl _ _) _) _
  have nb := fun w' => Tryz.secBuild0 w'
  have a24 := fun w' => Tryz.aggSec w'
  have s24 := fun w' => Tryz.sizeSec w'
  have hmf : ∀ (fn : Fn) (first cap : Array Value) (w : World), (Instr.makeFunc fn first cap).run Tryz.prog w = .ok (.func fn first cap) w := fun _ _ _ _ => rfl
  have HR48 : Hid (r ≤ 48) := by show r ≤ 48; omega
  clear hk hsz hlf hez hnz hM1 hM2 hM3 hM4 hM5 h hM h48 hm hr hD hR l5 lD lR hz hze
  go_enter Tryz.func85, Tryz.ntmps85
  go_wp2_with (first
    | (go_at_call 105; (with_reducible refine (HF1.out _ p0).mono ?_); rintro e w1 ⟨rfl, c1, o1⟩; have bk1 := Blk.only bk0.out o1.out HN.out.1; have rk1 := Blk.only rk0.out o1.out HN.out.2.1; have on1 := only_trans O0.out o1.out; have t1 := bk1.cell 0; have s1 := bk1.frozen 0; have BK1 : Hid (Blk (w1.setCell ⟨w.heap.size + 1, 0, none⟩ (.int .i64 (k : Int))) (w.heap.size + 1) 49 #[.int .i64 (k : Int), .int .i64 0, .int .i64 0, .int .i64 0, .slice none 0 0]) := bk1.set_ 0 _; have RK1 : Hid (Blk (w1.setCell ⟨w.heap.size + 1, 0, none⟩ (.int .i64 (k : Int))) w.heap.size 49 #[.int .i64 0, .int .i64 0, .int .i64 0, .int .i64 0, .slice none 0 0]) := Blk.far rk1 HN.out.2.2.1 _; have p1 : Hid (Cur (w1.setCell ⟨w.heap.size + 1, 0, none⟩ (.int .i64 (k : Int))) g (some M1)) := cur_set8 c1.out bk1 (no8_sec _ _ _ _ _ _ _) HN.out.2.2.2 _; have O1 : Hid (Only w (w1.setCell ⟨w.heap.size + 1, 0, none⟩ (.int .i64 (k : Int))) g) := only_new on1 (by omega) _)
    | (go_at_call 105; (with_reducible refine (HF2.out _ p1).mono ?_); rintro e w2 ⟨rfl, c2, o2⟩; have bk2 := Blk.only BK1.out o2.out HN.out.1; have rk2 := Blk.only RK1.out o2.out HN.out.2.1; have on2 := only_trans O1.out o2.out; have BK2 := Lib.hid bk2; have RK2 := Lib.hid rk2; have p2 := c2; have O2 := Lib.hid on2)
    | (go_at_call 105; (with_reducible refine (HF3.out _ p2).mono ?_); rintro e w3 ⟨rfl, c3, o3⟩; have bk3 := Blk.only BK2.out o3.out HN.out.1; have rk3 := Blk.only RK2.out o3.out HN.out.2.1; have on3 := only_trans O2.out o3.out; have t3 := bk3.cell 3; have s3 := bk3.frozen 3; have BK3 : Hid (Blk (w3.setCell ⟨w.heap.size + 1, 3, none⟩ (.int .i64 (lf : Int))) (w.heap.size + 1) 49 #[.int .i64 (k : Int), .int .i64 0, .int .i64 0, .int .i64 (lf : Int), .slice none 0 0]) := bk3.set_ 3 _; have RK3 : Hid (Blk (w3.setCell ⟨w.heap.size + 1, 3, none⟩ (.int .i64 (lf : Int))) w.heap.size 49 #[.int .i64 0, .int .i64 0, .int .i64 0, .int .i64 0, .slice none 0 0]) := Blk.far rk3 HN.out.2.2.1 _; have p3 : Hid (Cur (w3.setCell ⟨w.heap.size + 1, 3, none⟩ (.int .i64 (lf : Int))) g (some M3)) := cur_set8 c3.out bk3 (no8_sec _ _ _ _ _ _ _) HN.out.2.2.2 _; have O3 : Hid (Only w (w3.setCell ⟨w.heap.size + 1, 3, none⟩ (.int .i64 (lf : Int))) g) := only_new on3 (by omega) _)
    | (go_at_call 105; (with_reducible refine (HF4.out _ p3).mono ?_); rintro e w4 ⟨rfl, c4, o4⟩; have bk4 := Blk.only BK3.out o4.out HN.out.1; have rk4 := Blk.only RK3.out o4.out HN.out.2.1; have on4 := only_trans O3.out o4.out; have t4 := bk4.cell 1; have s4 := bk4.frozen 1; have BK4 : Hid (Blk (w4.setCell ⟨w.heap.size + 1, 1, none⟩ (.int .i64 ez)) (w.heap.size + 1) 49 #[.int .i64 (k : Int), .int .i64 ez, .int .i64 0, .int .i64 (lf : Int), .slice none 0 0]) := bk4.set_ 1 _; have RK4 : Hid (Blk (w4.setCell ⟨w.heap.size + 1, 1, none⟩ (.int .i64 ez)) w.heap.size 49 #[.int .i64 0, .int .i64 0, .int .i64 0, .int .i64 0, .slice none 0 0]) := Blk.far rk4 HN.out.2.2.1 _; have p4 : Hid (Cur (w4.setCell ⟨w.heap.size + 1, 1, none⟩ (.int .i64 ez)) g (some M4)) := cur_set8 c4.out bk4 (no8_sec _ _ _ _ _ _ _) HN.out.2.2.2 _; have O4 : Hid (Only w (w4.setCell ⟨w.heap.size + 1, 1, none⟩ (.int .i64 ez)) g) := only_new on4 (by omega) _)
    | (go_at_call 105; (with_reducible refine (HF5.out _ p4).mono ?_); rintro e w5 ⟨rfl, c5, o5⟩; have bk5 := Blk.only BK4.out o5.out HN.out.1; have rk5 := Blk.only RK4.out o5.out HN.out.2.1; have on5 := only_trans O4.out o5.out; have t5 := bk5.cell 2; have s5 := bk5.frozen 2; have BK5 : Hid (Blk (w5.setCell ⟨w.heap.size + 1, 2, none⟩ (.int .i64 nz)) (w.heap.size + 1) 49 #[.int .i64 (k : Int), .int .i64 ez, .int .i64 nz, .int .i64 (lf : Int), .slice none 0 0]) := bk5.set_ 2 _; have RK5 : Hid (Blk (w5.setCell ⟨w.heap.size + 1, 2, none⟩ (.int .i64 nz)) w.heap.size 49 #[.int .i64 0, .int .i64 0, .int .i64 0, .int .i64 0, .slice none 0 0]) := Blk.far rk5 HN.out.2.2.1 _; have p5 : Hid (Cur (w5.setCell ⟨w.heap.size + 1, 2, none⟩ (.int .i64 nz)) g (some M5)) := cur_set8 c5.out bk5 (no8_sec _ _ _ _ _ _ _) HN.out.2.2.2 _; have O5 : Hid (Only w (w5.setCell ⟨w.heap.size + 1, 2, none⟩ (.int .i64 nz)) g) := only_new on5 (by omega) _)
    | (go_at_call 88; (with_reducible refine (HT6.out _ p5).mono ?_); rintro e w6 ⟨A6, c6, rfl, r6, c6', o6⟩; have bk6 := Blk.only BK5.out o6.out HN.out.1; have rk6 := Blk.only RK5.out o6.out HN.out.2.1; have on6 := only_trans O5.out o6.out; have t6 := bk6.cell 4; have s6 := bk6.frozen 4; have BK6 : Hid (Blk (w6.setCell ⟨w.heap.size + 1, 4, none⟩ (.slice A6 sz c6)) (w.heap.size + 1) 49 #[.int .i64 (k : Int), .int .i64 ez, .int .i64 nz, .int .i64 (lf : Int), .slice A6 sz c6]) := bk6.set_ 4 _; have RK6 : Hid (Blk (w6.setCell ⟨w.heap.size + 1, 4, none⟩ (.slice A6 sz c6)) w.heap.size 49 #[.int .i64 0, .int .i64 0, .int .i64 0, .int .i64 0, .slice none 0 0]) := Blk.far rk6 HN.out.2.2.1 _; have p6 : Hid (Cur (w6.setCell ⟨w.heap.size + 1, 4, none⟩ (.slice A6 sz c6)) g (some R)) := cur_set8 c6'.out bk6 (no8_sec _ _ _ _ _ _ _) HN.out.2.2.2 _; have O6 : Hid (Only w (w6.setCell ⟨w.heap.size + 1, 4, none⟩ (.slice A6 sz c6)) g) := only_new on6 (by omega) _; have R6 := Lib.hid (rb_set8 (i := 4) r6.out bk6 (no8_sec _ _ _ _ _ _ _) (.slice A6 sz c6)))
    | (go_at_call 89; (with_reducible refine (HL.out _ p6).mono ?_); rintro e w' ⟨rfl, rfl⟩)
    | (go_at_call 88; (with_reducible refine (HT7.out _ p6).mono ?_); rintro e w7 ⟨A7, c7, rfl, r7, c7', o7⟩; have bk7 := Blk.only BK6.out o7.out HN.out.1; have rk7 := Blk.only RK6.out o7.out HN.out.2.1; have on7 := only_trans O6.out o7.out; have p7 := c7'; have v0 := bk7.cell 0; have v1 := bk7.cell 1; have v2 := bk7.cell 2; have v3 := bk7.cell 3; have v4 := bk7.cell 4; obtain ⟨_, _, _, _, gk7⟩ := cur_blk p6.out; have R7 := Lib.hid (rb_only8 R6.out gk7 (no8_cur _ _ _ _) o7.out))
    | (go_at_call 106; (with_reducible refine (HB.out _ p7).mono ?_); rintro e w' ⟨rfl, rfl⟩)
    | (go_at_call 90; (with_reducible refine (HMy.out _ _ _).mono ?_); rintro e w8 ⟨rfl, hb8⟩; have bk8 := bk7.below hb8 bk7.lt; have rk8 := rk7.below hb8 rk7.lt; have on8 := only_more on7 hb8)
    | (at_make; refine wpList_make_yes _ rfl (.tmp 42) (.tmp 42) 39 rfl w8.heap.size 5 i0 _ 1 Tryz.underlying39 hi0 hz0 hz1 .i64 .i64 _ _ r rfl rfl rfl rfl (by rw [hz2]; have := HR48.out; omega) (by have := HR48.out; unfold maxLen; omega) (Nat.le_refl _) ?_; intro w9 hown9 hg9; have hb9 := (Below.refl w8.heap.size w8).grown hg9 (Nat.le_refl _) (by simp); have ra9 := ((r7.out.below hb8).more hb8.size).below hb9 |>.more hb9.size; have rb9 := made_rb7 hown9; have bk9 := bk8.below hb9 bk8.lt; have rk9 := rk8.below hb9 rk8.lt; have on9 := only_more on8 hb9; clear hown9 hg9)
    | (go_at_call 101; (with_reducible refine (HEq.out _ _ _ _ _ ra9 rb9).mono ?_); rintro e w' ⟨rfl, rfl⟩; have z0 := rk9.cell 0; have y0 := rk9.frozen 0; have z1 := rk9.cell 1; have y1 := rk9.frozen 1; have z2 := rk9.cell 2; have y2 := rk9.frozen 2; have z3 := rk9.cell 3; have y3 := rk9.frozen 3; have z4 := rk9.cell 4; have y4 := rk9.frozen 4; have x0 := bk9.cell 0; have x1 := bk9.cell 1; have x2 := bk9.cell 2; have x3 := bk9.cell 3; have x4 := bk9.cell 4))
  refine bodyPost_ret (v := .tuple #[.agg #[.int .i64 0, .int .i64 0, .int .i64 0, .int .i64 0, .slice none 0 0], .bool false]) (by simp [results, Tryz.results85, go_sem, z0, z1, z2, z3, z4]) rfl ⟨none, 0, rfl, RB.none_ _ _, ?_⟩
  exact only_five on9 (Nat.le_refl _) _ _ _ _ _
theorem taken_ok (M : List UInt8) (hM : M.length = 60) (g : Nat) (w : World) (h : Cur w g (some M)) (h48 : (M.getD 1 0).toNat ≤ 48) (hm : Sd.may ⟨((M.getD 0 0).toNat : Int), capZ (unfixL ((M.drop 4).take 4)), capZ (unfixL ((M.drop 8).take 4)), (unfixL ((M.drop 2).take 2) : Int), (M.drop 12).take (M.getD 1 0).toNat⟩ = true) (hz : (M.drop 12).drop (M.getD 1 0).toNat = List.replicate (48 - (M.getD 1 0).toNat) 0) :
    Calls Tryz.prog 85 #[.pointer (some ⟨g, 0, none⟩)] w (GivesTn (⟨((M.getD 0 0).toNat : Int), capZ (unfixL ((M.drop 4).take 4)), capZ (unfixL ((M.drop 8).take 4)), (unfixL ((M.drop 2).take 2) : Int), (M.drop 12).take (M.getD 1 0).toNat⟩, true) g w) := by
  obtain ⟨i0, hi0, hz0, hz1, hz2⟩ := info_parts Tryz.info5
  obtain ⟨k, hk⟩ : ∃ x, x = (M.getD 0 0).toNat := ⟨_, rfl⟩
  obtain ⟨sz, hsz⟩ : ∃ x, x = (M.getD 1 0).toNat := ⟨_, rfl⟩
  obtain ⟨lf, hlf⟩ : ∃ x, x = unfixL ((M.drop 2).take 2) := ⟨_, rfl⟩
  obtain ⟨ez, hez⟩ : ∃ x, x = capZ (unfixL ((M.drop 4).take 4)) := ⟨_, rfl⟩
  obtain ⟨nz, hnz⟩ : ∃ x, x = capZ (unfixL ((M.drop 8).take 4)) := ⟨_, rfl⟩
  obtain ⟨M1, hM1⟩ : ∃ x, x = M.drop 1 := ⟨_, rfl⟩
  obtain ⟨M2, hM2⟩ : ∃ x, x = M.drop 2 := ⟨_, rfl⟩
  obtain ⟨M3, hM3⟩ : ∃ x, x = M.drop 4 := ⟨_, rfl⟩
  obtain ⟨M4, hM4⟩ : ∃ x, x = M.drop 8 := ⟨_, rfl⟩
  obtain ⟨M5, hM5⟩ : ∃ x, x = M.drop 12 := ⟨_, rfl⟩
  have HF1 : Hid (∀ W, Hid (Cur W g (some M)) → Calls Tryz.prog 105 #[(.func (.func 88) #[.pointer (some ⟨g, 0, none⟩)] #[]), .int .i64 1] W fun e w' => e = .returned (.int .i64 (k : Int)) ∧ Hid (Cur w' g (some M1)) ∧ Hid (Only W w' g)) := fun W h => by
    have h1 := field_any g 1 (some M) W h.out
    have hl : 1 ≤ M.length := by omega
    have h2 : stepTake 1 (some M) = (some M1, M.take 1) := by rw [show (1 : Int) = ((1 : Nat) : Int) from rfl, step_ok hl, show M.drop 1 = M1 from by rw [hM1]]
    have h3 : fieldZ (M.take 1) = (k : Int) := by rw [fieldZ_small (by simp; omega) (by simp; omega), hk, ← unfix_one M 0 (by omega)]; rfl
    rw [h2] at h1
    simp only [h3] at h1
    exact h1
  have HF2 : Hid (∀ W, Hid (Cur W g (some M1)) → Calls Tryz.prog 105 #[(.func (.func 88) #[.pointer (some ⟨g, 0, none⟩)] #[]), .int .i64 1] W fun e w' => e = .returned (.int .i64 (sz : Int)) ∧ Hid (Cur w' g (some M2)) ∧ Hid (Only W w' g)) := fun W h => by
    have h1 := field_any g 1 (some M1) W h.out
    have hl : 1 ≤ M1.length := by rw [hM1, List.length_drop]; omega
    have h2 : stepTake 1 (some M1) = (some M2, M1.take 1) := by rw [show (1 : Int) = ((1 : Nat) : Int) from rfl, step_ok hl, show M1.drop 1 = M2 from by rw [hM2, hM1, List.drop_drop]]
    have h3 : fieldZ (M1.take 1) = (sz : Int) := by rw [hM1, fieldZ_small (by simp; omega) (by simp; omega), hsz, ← unfix_one M 1 (by omega)]
    rw [h2] at h1
    simp only [h3] at h1
    exact h1
  have HF3 : Hid (∀ W, Hid (Cur W g (some M2)) → Calls Tryz.prog 105 #[(.func (.func 88) #[.pointer (some ⟨g, 0, none⟩)] #[]), .int .i64 2] W fun e w' => e = .returned (.int .i64 (lf : Int)) ∧ Hid (Cur w' g (some M3)) ∧ Hid (Only W w' g)) := fun W h => by
    have h1 := field_any g 2 (some M2) W h.out
    have hl : 2 ≤ M2.length := by rw [hM2, List.length_drop]; omega
    have h2 : stepTake 2 (some M2) = (some M3, M2.take 2) := by rw [show (2 : Int) = ((2 : Nat) : Int) from rfl, step_ok hl, show M2.drop 2 = M3 from by rw [hM3, hM2, List.drop_drop]]
    have h3 : fieldZ (M2.take 2) = (lf : Int) := by rw [hM2, fieldZ_small (by simp; omega) (by simp; omega), hlf]
    rw [h2] at h1
    simp only [h3] at h1
    exact h1
  have HF4 : Hid (∀ W, Hid (Cur W g (some M3)) → Calls Tryz.prog 105 #[(.func (.func 88) #[.pointer (some ⟨g, 0, none⟩)] #[]), .int .i64 4] W fun e w' => e = .returned (.int .i64 ez) ∧ Hid (Cur w' g (some M4)) ∧ Hid (Only W w' g)) := fun W h => by
    have h1 := field_any g 4 (some M3) W h.out
    have hl : 4 ≤ M3.length := by rw [hM3, List.length_drop]; omega
    have h2 : stepTake 4 (some M3) = (some M4, M3.take 4) := by rw [show (4 : Int) = ((4 : Nat) : Int) from rfl, step_ok hl, show M3.drop 4 = M4 from by rw [hM4, hM3, List.drop_drop]]
    have h3 : fieldZ (M3.take 4) = ez := by rw [hM3, fieldZ_cap (by simp; omega) (by simp; omega), hez]
    rw [h2] at h1
    simp only [h3] at h1
    exact h1
  have HF5 : Hid (∀ W, Hid (Cur W g (some M4)) → Calls Tryz.prog 105 #[(.func (.func 88) #[.pointer (some ⟨g, 0, none⟩)] #[]), .int .i64 4] W fun e w' => e = .returned (.int .i64 nz) ∧ Hid (Cur w' g (some M5)) ∧ Hid (Only W w' g)) := fun W h => by
    have h1 := field_any g 4 (some M4) W h.out
    have hl : 4 ≤ M4.length := by rw [hM4, List.length_drop]; omega
    have h2 : stepTake 4 (some M4) = (some M5, M4.take 4) := by rw [show (4 : Int) = ((4 : Nat) : Int) from rfl, step_ok hl, show M4.drop 4 = M5 from by rw [hM5, hM4, List.drop_drop]]
    have h3 : fieldZ (M4.take 4) = nz := by rw [hM4, fieldZ_cap (by simp; omega) (by simp; omega), hnz]
    rw [h2] at h1
    simp only [h3] at h1
    exact h1
  obtain ⟨r, hr⟩ : ∃ x, x = 48 - sz := ⟨_, rfl⟩
  obtain ⟨D, hD⟩ : ∃ x, x = M5.take sz := ⟨_, rfl⟩
  obtain ⟨R, hR⟩ : ∃ x, x = M5.drop sz := ⟨_, rfl⟩
  rw [← hsz] at h48
  have hm : Sd.may ⟨(k : Int), ez, nz, (lf : Int), D⟩ = true := by rw [hk, hez, hnz, hlf, hD, hM5, hsz]; exact hm
  have hze : decide (R = List.replicate r 0) = true := by rw [hR, hr, hM5, hsz]; exact decide_eq_true hz
  have l5 : M5.length = 48 := by rw [hM5, List.length_drop, hM]
  have lD : D.length = sz := by rw [hD, List.length_take]; omega
  have lR : R.length = r := by rw [hR, List.length_drop]; omega
  have HT6 : Hid (∀ W, Hid (Cur W g (some M5)) → Calls Tryz.prog 88 #[.pointer (some ⟨g, 0, none⟩), .int .i64 (sz : Int)] W fun e w' => ∃ A c, e = .returned (.slice A sz c) ∧ Hid (RB w' w'.heap.size A D) ∧ Hid (Cur w' g (some R)) ∧ Hid (Only W w' g) ∧ Hid (∀ ad, A = some ad → W.heap.size ≤ ad.block)) := fun W h => by
    have h1 := take_at W.heap.size g (sz : Int) (some M5) W h.out.at_ (Nat.le_refl _)
    rw [step_ok (by omega), ← hD, ← hR] at h1
    refine h1.mono fun e w' hh => ?_
    obtain ⟨A, c, he, h2, h5, h3, h4⟩ := hh
    simp only [lD] at he
    exact ⟨A, c, he, h2, h3.cur h4.size, h4, h5⟩
  have HT7 : Hid (∀ W, Hid (Cur W g (some R)) → Calls Tryz.prog 88 #[.pointer (some ⟨g, 0, none⟩), .int .i64 (r : Int)] W fun e w' => ∃ A c, e = .returned (.slice A r c) ∧ Hid (RB w' w'.heap.size A R) ∧ Hid (Cur w' g (some [])) ∧ Hid (Only W w' g)) := fun W h => by
    have h1 := take_any g (r : Int) (some R) W h.out
    rw [step_ok (by omega), List.take_of_length_le (by omega), List.drop_of_length_le (by omega)] at h1
    refine h1.mono fun e w' hh => ?_
    obtain ⟨A, c, he, h2, h3, h4⟩ := hh
    simp only [lR] at he
    exact ⟨A, c, he, h2, h3, h4⟩
  have HL : Hid (∀ W, Hid (Cur W g (some R)) → Calls Tryz.prog 89 #[.pointer (some ⟨g, 0, none⟩)] W fun e w' => e = .returned (.int .i64 (r : Int)) ∧ W = w') := fun W h => by
    have h1 := left_any g (some R) W h.out
    simp only [leftN, lR] at h1
    exact h1
  have HB : Hid (∀ W, Hid (Cur W g (some [])) → Calls Tryz.prog 106 #[.pointer (some ⟨g, 0, none⟩)] W fun e w' => e = .returned (.bool false) ∧ W = w') := fun W h => bad_any g (some []) W h.out
  have HV : Hid ((⟨((M.getD 0 0).toNat : Int), capZ (unfixL ((M.drop 4).take 4)), capZ (unfixL ((M.drop 8).take 4)), (unfixL ((M.drop 2).take 2) : Int), (M.drop 12).take (M.getD 1 0).toNat⟩ : Sd) = ⟨(k : Int), ez, nz, (lf : Int), D⟩ ∧ D.length = sz) := ⟨by rw [hk, hez, hnz, hlf, hD, hM5, hsz], lD⟩
  have HMy : Hid (∀ W (A : Option Addr) (c : Nat), Calls Tryz.prog 90 #[.agg #[.int .i64 (k : Int), .int .i64 ez, .int .i64 nz, .int .i64 (lf : Int), .slice A sz c]] W fun e w' => e = .returned (.bool true) ∧ Below W.heap.size W w') := fun W A c => by
    have h1 := maybe_any ⟨(k : Int), ez, nz, (lf : Int), D⟩ A c W
    rw [hm] at h1
    unfold secV at h1
    simp only [lD] at h1
    exact h1
  have HEq : Hid (∀ W (A A' : Option Addr) (c c' : Nat), RB W W.heap.size A R → RB W W.heap.size A' (List.replicate r 0) → Calls Tryz.prog 101 #[.slice A r c, .slice A' r c'] W fun e w' => e = .returned (.bool true) ∧ W = w') := fun W A A' c c' h1 h2 => by
    have h3 := equal_any R (List.replicate r 0) A A' c c' _ _ W h1 h2
    rw [List.length_replicate, lR, hze] at h3
    exact h3
  have HN : Hid (w.heap.size + 1 ≠ g ∧ w.heap.size ≠ g ∧ w.heap.size ≠ w.heap.size + 1 ∧ g ≠ w.heap.size + 1) := by
    obtain ⟨_, _, _, _, hb⟩ := cur_blk h
    have := hb.lt
    exact ⟨by omega, by omega, by omega, by omega⟩
  have p0 : Hid (Cur ((w.alloc (.cells #[.int .i64 0, .int .i64 0, .int .i64 0, .int .i64 0, .slice none 0 0] 49)).alloc (.cells #[.int .i64 0, .int .i64 0, .int .i64 0, .int .i64 0, .slice none 0 0] 49)) g (some M)) := cur_alloc (cur_alloc h _) _
  have bk0 : Hid (Blk ((w.alloc (.cells #[.int .i64 0, .int .i64 0, .int .i64 0, .int .i64 0, .slice none 0 0] 49)).alloc (.cells #[.int .i64 0, .int .i64 0, .int .i64 0, .int .i64 0, .slice none 0 0] 49)) (w.heap.size + 1) 49 #[.int .i64 0, .int .i64 0, .int .i64 0, .int .i64 0, .slice none 0 0]) := by have := Blk.new (w.alloc (.cells #[.int .i64 0, .int .i64 0, .int .i64 0, .int .i64 0, .slice none 0 0] 49)) 49 #[.int .i64 0, .int .i64 0, .int .i64 0, .int .i64 0, .slice none 0 0]; rwa [show (w.alloc (.cells #[.int .i64 0, .int .i64 0, .int .i64 0, .int .i64 0, .slice none 0 0] 49)).heap.size = w.heap.size + 1 by simp] at this
  have rk0 : Hid (Blk ((w.alloc (.cells #[.int .i64 0, .int .i64 0, .int .i64 0, .int .i64 0, .slice none 0 0] 49)).alloc (.cells #[.int .i64 0, .int .i64 0, .int .i64 0, .int .i64 0, .slice none 0 0] 49)) w.heap.size 49 #[.int .i64 0, .int .i64 0, .int .i64 0, .int .i64 0, .slice none 0 0]) := (Blk.new w _ _).alloc _
  have O0 : Hid (Only w ((w.alloc (.cells #[.int .i64 0, .int .i64 0, .int .i64 0, .int .i64 0, .slice none 0 0] 49)).alloc (.cells #[.int .i64 0, .int .i64 0, .int .i64 0, .int .i64 0, .slice none 0 0] 49)) g) := only_alloc (only_alloc (only_refl _ _) _) _
  have nb := fun w' => Tryz.secBuild0 w'
  have a24 := fun w' => Tryz.aggSec w'
  have s24 := fun w' => Tryz.sizeSec w'
  have hmf : ∀ (fn : Fn) (first cap : Array Value) (w : World), (Instr.makeFunc fn first cap).run Tryz.prog w = .ok (.func fn first cap) w := fun _ _ _ _ => rfl
  have HR48 : Hid (r ≤ 48) := by show r ≤ 48; omega
  clear hk hsz hlf hez hnz hM1 hM2 hM3 hM4 hM5 h hM h48 hm hr hD hR l5 lD lR hz hze
  go_enter Tryz.func85, Tryz.ntmps85
  go_wp2_with (first
    | (go_at_call 105; (with_reducible refine (HF1.out _ p0).mono ?_); rintro e w1 ⟨rfl, c1, o1⟩; have bk1 := Blk.only bk0.out o1.out HN.out.1; have rk1 := Blk.only rk0.out o1.out HN.out.2.1; have on1 := only_trans O0.out o1.out; have t1 := bk1.cell 0; have s1 := bk1.frozen 0; have BK1 : Hid (Blk (w1.setCell ⟨w.heap.size + 1, 0, none⟩ (.int .i64 (k : Int))) (w.heap.size + 1) 49 #[.int .i64 (k : Int), .int .i64 0, .int .i64 0, .int .i64 0, .slice none 0 0]) := bk1.set_ 0 _; have RK1 : Hid (Blk (w1.setCell ⟨w.heap.size + 1, 0, none⟩ (.int .i64 (k : Int))) w.heap.size 49 #[.int .i64 0, .int .i64 0, .int .i64 0, .int .i64 0, .slice none 0 0]) := Blk.far rk1 HN.out.2.2.1 _; have p1 : Hid (Cur (w1.setCell ⟨w.heap.size + 1, 0, none⟩ (.int .i64 (k : Int))) g (some M1)) := cur_set8 c1.out bk1 (no8_sec _ _ _ _ _ _ _) HN.out.2.2.2 _; have O1 : Hid (Only w (w1.setCell ⟨w.heap.size + 1, 0, none⟩ (.int .i64 (k : Int))) g) := only_new on1 (by omega) _)
    | (go_at_call 105; (with_reducible refine (HF2.out _ p1).mono ?_); rintro e w2 ⟨rfl, c2, o2⟩; have bk2 := Blk.only BK1.out o2.out HN.out.1; have rk2 := Blk.only RK1.out o2.out HN.out.2.1; have on2 := only_trans O1.out o2.out; have BK2 := Lib.hid bk2; have RK2 := Lib.hid rk2; have p2 := c2; have O2 := Lib.hid on2)
    | (go_at_call 105; (with_reducible refine (HF3.out _ p2).mono ?_); rintro e w3 ⟨rfl, c3, o3⟩; have bk3 := Blk.only BK2.out o3.out HN.out.1; have rk3 := Blk.only RK2.out o3.out HN.out.2.1; have on3 := only_trans O2.out o3.out; have t3 := bk3.cell 3; have s3 := bk3.frozen 3; have BK3 : Hid (Blk (w3.setCell ⟨w.heap.size + 1, 3, none⟩ (.int .i64 (lf : Int))) (w.heap.size + 1) 49 #[.int .i64 (k : Int), .int .i64 0, .int .i64 0, .int .i64 (lf : Int), .slice none 0 0]) := bk3.set_ 3 _; have RK3 : Hid (Blk (w3.setCell ⟨w.heap.size + 1, 3, none⟩ (.int .i64 (lf : Int))) w.heap.size 49 #[.int .i64 0, .int .i64 0, .int .i64 0, .int .i64 0, .slice none 0 0]) := Blk.far rk3 HN.out.2.2.1 _; have p3 : Hid (Cur (w3.setCell ⟨w.heap.size + 1, 3, none⟩ (.int .i64 (lf : Int))) g (some M3)) := cur_set8 c3.out bk3 (no8_sec _ _ _ _ _ _ _) HN.out.2.2.2 _; have O3 : Hid (Only w (w3.setCell ⟨w.heap.size + 1, 3, none⟩ (.int .i64 (lf : Int))) g) := only_new on3 (by omega) _)
    | (go_at_call 105; (with_reducible refine (HF4.out _ p3).mono ?_); rintro e w4 ⟨rfl, c4, o4⟩; have bk4 := Blk.only BK3.out o4.out HN.out.1; have rk4 := Blk.only RK3.out o4.out HN.out.2.1; have on4 := only_trans O3.out o4.out; have t4 := bk4.cell 1; have s4 := bk4.frozen 1; have BK4 : Hid (Blk (w4.setCell ⟨w.heap.size + 1, 1, none⟩ (.int .i64 ez)) (w.heap.size + 1) 49 #[.int .i64 (k : Int), .int .i64 ez, .int .i64 0, .int .i64 (lf : Int), .slice none 0 0]) := bk4.set_ 1 _; have RK4 : Hid (Blk (w4.setCell ⟨w.heap.size + 1, 1, none⟩ (.int .i64 ez)) w.heap.size 49 #[.int .i64 0, .int .i64 0, .int .i64 0, .int .i64 0, .slice none 0 0]) := Blk.far rk4 HN.out.2.2.1 _; have p4 : Hid (Cur (w4.setCell ⟨w.heap.size + 1, 1, none⟩ (.int .i64 ez)) g (some M4)) := cur_set8 c4.out bk4 (no8_sec _ _ _ _ _ _ _) HN.out.2.2.2 _; have O4 : Hid (Only w (w4.setCell ⟨w.heap.size + 1, 1, none⟩ (.int .i64 ez)) g) := only_new on4 (by omega) _)
    | (go_at_call 105; (with_reducible refine (HF5.out _ p4).mono ?_); rintro e w5 ⟨rfl, c5, o5⟩; have bk5 := Blk.only BK4.out o5.out HN.out.1; have rk5 := Blk.only RK4.out o5.out HN.out.2.1; have on5 := only_trans O4.out o5.out; have t5 := bk5.cell 2; have s5 := bk5.frozen 2; have BK5 : Hid (Blk (w5.setCell ⟨w.heap.size + 1, 2, none⟩ (.int .i64 nz)) (w.heap.size + 1) 49 #[.int .i64 (k : Int), .int .i64 ez, .int .i64 nz, .int .i64 (lf : Int), .slice none 0 0]) := bk5.set_ 2 _; have RK5 : Hid (Blk (w5.setCell ⟨w.heap.size + 1, 2, none⟩ (.int .i64 nz)) w.heap.size 49 #[.int .i64 0, .int .i64 0, .int .i64 0, .int .i64 0, .slice none 0 0]) := Blk.far rk5 HN.out.2.2.1 _; have p5 : Hid (Cur (w5.setCell ⟨w.heap.size + 1, 2, none⟩ (.int .i64 nz)) g (some M5)) := cur_set8 c5.out bk5 (no8_sec _ _ _ _ _ _ _) HN.out.2.2.2 _; have O5 : Hid (Only w (w5.setCell ⟨w.heap.size + 1, 2, none⟩ (.int .i64 nz)) g) := only_new on5 (by omega) _)
    | (go_at_call 88; (with_reducible refine (HT6.out _ p5).mono ?_); rintro e w6 ⟨A6, c6, rfl, r6, c6', o6, nw6⟩; have NW6 : Hid (∀ ad, A6 = some ad → w.heap.size ≤ ad.block) := fun ad e => Nat.le_trans O5.out.size (nw6.out ad e); have bk6 := Blk.only BK5.out o6.out HN.out.1; have rk6 := Blk.only RK5.out o6.out HN.out.2.1; have on6 := only_trans O5.out o6.out; have t6 := bk6.cell 4; have s6 := bk6.frozen 4; have BK6 : Hid (Blk (w6.setCell ⟨w.heap.size + 1, 4, none⟩ (.slice A6 sz c6)) (w.heap.size + 1) 49 #[.int .i64 (k : Int), .int .i64 ez, .int .i64 nz, .int .i64 (lf : Int), .slice A6 sz c6]) := bk6.set_ 4 _; have RK6 : Hid (Blk (w6.setCell ⟨w.heap.size + 1, 4, none⟩ (.slice A6 sz c6)) w.heap.size 49 #[.int .i64 0, .int .i64 0, .int .i64 0, .int .i64 0, .slice none 0 0]) := Blk.far rk6 HN.out.2.2.1 _; have p6 : Hid (Cur (w6.setCell ⟨w.heap.size + 1, 4, none⟩ (.slice A6 sz c6)) g (some R)) := cur_set8 c6'.out bk6 (no8_sec _ _ _ _ _ _ _) HN.out.2.2.2 _; have O6 : Hid (Only w (w6.setCell ⟨w.heap.size + 1, 4, none⟩ (.slice A6 sz c6)) g) := only_new on6 (by omega) _; have R6 := Lib.hid (rb_set8 (i := 4) r6.out bk6 (no8_sec _ _ _ _ _ _ _) (.slice A6 sz c6)))
    | (go_at_call 89; (with_reducible refine (HL.out _ p6).mono ?_); rintro e w' ⟨rfl, rfl⟩)
    | (go_at_call 88; (with_reducible refine (HT7.out _ p6).mono ?_); rintro e w7 ⟨A7, c7, rfl, r7, c7', o7⟩; have bk7 := Blk.only BK6.out o7.out HN.out.1; have rk7 := Blk.only RK6.out o7.out HN.out.2.1; have on7 := only_trans O6.out o7.out; have p7 := c7'; have v0 := bk7.cell 0; have v1 := bk7.cell 1; have v2 := bk7.cell 2; have v3 := bk7.cell 3; have v4 := bk7.cell 4; obtain ⟨_, _, _, _, gk7⟩ := cur_blk p6.out; have R7 := Lib.hid (rb_only8 R6.out gk7 (no8_cur _ _ _ _) o7.out))
    | (go_at_call 106; (with_reducible refine (HB.out _ p7).mono ?_); rintro e w' ⟨rfl, rfl⟩)
    | (go_at_call 90; (with_reducible refine (HMy.out _ _ _).mono ?_); rintro e w8 ⟨rfl, hb8⟩; have bk8 := bk7.below hb8 bk7.lt; have rk8 := rk7.below hb8 rk7.lt; have on8 := only_more on7 hb8)
    | (at_make; refine wpList_make_yes _ rfl (.tmp 42) (.tmp 42) 39 rfl w8.heap.size 5 i0 _ 1 Tryz.underlying39 hi0 hz0 hz1 .i64 .i64 _ _ r rfl rfl rfl rfl (by rw [hz2]; have := HR48.out; omega) (by have := HR48.out; unfold maxLen; omega) (Nat.le_refl _) ?_; intro w9 hown9 hg9; have hb9 := (Below.refl w8.heap.size w8).grown hg9 (Nat.le_refl _) (by simp); have ra9 := ((r7.out.below hb8).more hb8.size).below hb9 |>.more hb9.size; have rb9 := made_rb7 hown9; have bk9 := bk8.below hb9 bk8.lt; have rk9 := rk8.below hb9 rk8.lt; have on9 := only_more on8 hb9; clear hown9 hg9)
    | (go_at_call 101; (with_reducible refine (HEq.out _ _ _ _ _ ra9 rb9).mono ?_); rintro e w' ⟨rfl, rfl⟩; have z0 := rk9.cell 0; have y0 := rk9.frozen 0; have z1 := rk9.cell 1; have y1 := rk9.frozen 1; have z2 := rk9.cell 2; have y2 := rk9.frozen 2; have z3 := rk9.cell 3; have y3 := rk9.frozen 3; have z4 := rk9.cell 4; have y4 := rk9.frozen 4; have x0 := bk9.cell 0; have x1 := bk9.cell 1; have x2 := bk9.cell 2; have x3 := bk9.cell 3; have x4 := bk9.cell 4))
  refine bodyPost_ret (v := .tuple #[.agg #[.int .i64 (k : Int), .int .i64 ez, .int .i64 nz, .int .i64 (lf : Int), .slice A6 sz c6], .bool true]) (by simp [results, Tryz.results85, go_sem, z0, z1, z2, z3, z4]) rfl ⟨A6, c6, ?_, ?_, ?_, NW6.out⟩
  · rw [HV.out.1]
    show _ = Ending.returned (.tuple #[.agg #[_, _, _, _, .slice A6 D.length c6], _])
    rw [HV.out.2]
  · rw [HV.out.1]
    have r9 := rb_up7 (rb_up7 R7.out hb8) hb9
    have q := rk9
    exact rb_five r9 rk9 (no8_sec _ _ _ _ _ _ _) _ _ _ _ _
  · exact only_five on9 (Nat.le_refl _) _ _ _ _ _
end
section
open Go.RowKit
theorem refOpen_view (L M : List UInt8) (A : Option Addr) (c : Nat) (w : World) (hr : RB w w.heap.size A L) (hlc : L.length ≤ c) (hc : c ≤ 9223372036854775807) (hl : L.length ≤ 1048576) (ho : openL L = some M) :
    Calls Tryz.prog 111 #[.slice A L.length c] w fun e w' => e = .returned (.tuple #[.slice A M.length c, .int .i64 0]) ∧ Below w.heap.size w w' := by
  have h4 : ¬ L.length < 4 := fun h => by unfold openL at ho; rw [if_neg (by omega)] at ho; cases ho
  obtain ⟨n, hn⟩ : ∃ n, n = L.length - 4 := ⟨_, rfl⟩
  have hn4 : L.length = n + 4 := by omega
  have hp : (L.take n).length = n := by rw [List.length_take]; omega
  have hrp : RB w w.heap.size A (L.take n) := rb_take hr n (by omega)
  have hM : M.length = n := by have := (openL_some ho).2; omega
  have hse : sealL (L.take n) = L := by
    unfold openL at ho
    rw [← hn] at ho
    split at ho
    · rename_i h; exact h.2
    · cases ho
  rw [hn4, hM]
  refine refOpen_core n A c L (sealL (L.take n)) w (by omega) hc (sealL (L.take n) == L) hr hn4.symm (fun w e w' => e = .returned (.tuple #[.slice A n c, .int .i64 0]) ∧ Below w.heap.size w w') (fun W hb => ?_) rfl (fun hb w' h => ⟨rfl, h⟩) (fun hb w' h => ?_)
  · have := refSeal_any (L.take n) A c _ W (hrp.below hb) (by omega)
    rwa [hp] at this
  · rw [hse] at hb; simp at hb
end
section
open Go.RowKit
theorem there_any {w : World} {g : Nat} {G B : Nat → Prop} {d : Dk} (h : RDisk w g G B d) (i : Int) :
    Calls Tryz.prog 76 #[.pointer (some ⟨g, 0, none⟩), .int .i64 i] w fun e w' => e = .returned (.bool (d.there i)) ∧ w = w' := by
  obtain ⟨s, cs, V, hs, hv, h⟩ := h
  have r0 := h.r0
  obtain ⟨m, hm⟩ : ∃ m, m = d.safe.length := ⟨_, rfl⟩
  have HT : Hid (d.there i = decide (0 ≤ i ∧ i < (m : Int))) := by show _ = _; rw [hm]; rfl
  rw [← hm] at r0
  clear h hm
  by_cases h0 : 0 ≤ i
  · have d0 : decide (i ≥ 0) = true := decide_eq_true h0
    by_cases h1 : i < (m : Int)
    · have HV : Hid (d.there i = true) := by rw [HT.out]; exact decide_eq_true ⟨h0, h1⟩
      have d1 : decide (i < (m : Int)) = true := decide_eq_true h1
      go_enter Tryz.func76, Tryz.ntmps76
      go_wp2
      go_ret
      exact ⟨by rw [HV.out]; rfl, rfl⟩
    · have HV : Hid (d.there i = false) := by rw [HT.out]; exact decide_eq_false (fun h => h1 h.2)
      have d1 : decide (i < (m : Int)) = false := decide_eq_false h1
      go_enter Tryz.func76, Tryz.ntmps76
      go_wp2
      go_ret
      exact ⟨by rw [HV.out]; rfl, rfl⟩
  · have HV : Hid (d.there i = false) := by rw [HT.out]; exact decide_eq_false (fun h => h0 h.1)
    have d0 : decide (i ≥ 0) = false := decide_eq_false h0
    have d1 : decide ((0 : Int) ≤ i) = false := decide_eq_false h0
    go_enter Tryz.func76, Tryz.ntmps76
    go_wp2
    go_ret
    exact ⟨by rw [HV.out]; rfl, rfl⟩
theorem deed_any {w : World} {g : Nat} {G B : Nat → Prop} {d : Dk} (h : RDisk w g G B d) :
    Calls Tryz.prog 79 #[.pointer (some ⟨g, 0, none⟩)] w fun e w' => e = .returned (.bool d.deed.2) ∧ RSame d.deed.1 G B w w' g := by
  obtain ⟨s, cs, V, hs, hv, h⟩ := h
  have r2 := h.r2
  have r3 := h.r3
  have f2 := h.fz 2
  have f3 := h.fz 3
  have hl := h.good.left
  by_cases h0 : d.left = 0
  · have hd : Hid (d.deed = ({ d with off := true }, false)) := by show _ = _; unfold Dk.deed; rw [if_pos h0]
    have HP : Hid (RD (w.setCell ⟨g, 3, none⟩ (.bool true)) g G B { d with off := true } s cs V hs hv) :=
      h.retell (turns_own w g 3 _) rfl rfl hl (h.blk.set_ 3 (.bool true))
    have HG := Lib.hid h.gg
    rw [h0] at r2
    clear h h0 hl
    go_enter Tryz.func79, Tryz.ntmps79
    go_wp2
    go_ret
    rw [hd.out]
    exact ⟨rfl, ⟨_, _, _, _, _, HP.out⟩, Turns.set_ HG.out 3 _⟩
  · obtain ⟨l, hl2⟩ : ∃ l, l = d.left := ⟨_, rfl⟩
    rw [← hl2] at r2
    have e0 : (l == 0) = false := by rw [hl2]; simpa using h0
    by_cases h1 : 0 < d.left
    · have hd : Hid (d.deed = ({ d with left := d.left - 1 }, true)) := by show _ = _; unfold Dk.deed; rw [if_neg h0, if_pos h1]
      obtain ⟨l2, hl3⟩ : ∃ l2, l2 = l - 1 := ⟨_, rfl⟩
      have e1 : IntKind.i64.wrap (l - 1) = l2 := by rw [hl3]; exact IntWalk.i64_in _ (by omega)
      have e2 : decide (l > 0) = true := decide_eq_true (by omega)
      have HP : Hid (RD (w.setCell ⟨g, 2, none⟩ (.int .i64 l2)) g G B { d with left := d.left - 1 } s cs V hs hv) := by
        refine h.retell (turns_own w g 2 _) rfl rfl ⟨by show -1 ≤ d.left - 1; omega, by show d.left - 1 ≤ _; omega⟩ ?_
        have := h.blk.set_ 2 (.int .i64 l2)
        rw [hl3, hl2] at this ⊢
        exact this
      have HG := Lib.hid h.gg
      clear h h0 h1 hl hl2 hl3
      go_enter Tryz.func79, Tryz.ntmps79
      go_wp2
      go_ret
      rw [hd.out]
      exact ⟨rfl, ⟨_, _, _, _, _, HP.out⟩, Turns.set_ HG.out 2 _⟩
    · have hd : Hid (d.deed = (d, true)) := by show _ = _; unfold Dk.deed; rw [if_neg h0, if_neg h1]
      have e2 : decide (l > 0) = false := decide_eq_false (by omega)
      have e3 : decide (0 < l) = false := decide_eq_false (by omega)
      have H := Lib.hid h
      clear h h0 h1 hl hl2
      go_enter Tryz.func79, Tryz.ntmps79
      go_wp2
      go_ret
      rw [hd.out]
      exact ⟨rfl, ⟨_, _, _, _, _, H.out⟩, Turns.refl _ _⟩
theorem rstop_any {w : World} {g : Nat} {G B : Nat → Prop} {d : Dk} (h : RDisk w g G B d) (i : Int) (hi : InI i) :
    Calls Tryz.prog 34 #[.pointer (some ⟨g, 0, none⟩), .int .i64 i] w fun e w' => e = .returned (.int .i64 (d.stop i).2) ∧ RSame (d.stop i).1 G B w w' g := by
  obtain ⟨hi1, hi2⟩ := hi
  by_cases h0 : i < 0
  · have d0 : decide (i < 0) = true := decide_eq_true h0
    have HV : Hid (d.stop i = (d, 1)) := by show _ = _; unfold Dk.stop; rw [if_pos h0]
    go_enter Tryz.func34, Tryz.ntmps34
    go_wp2
    go_ret
    rw [HV.out]
    exact ⟨rfl, h, Turns.refl _ _⟩
  · have d0 : decide (i < 0) = false := decide_eq_false h0
    have HV : Hid (d.stop i = ({ d with left := i }, 0)) := by show _ = _; unfold Dk.stop; rw [if_neg h0]
    obtain ⟨s, cs, V, hs, hv, h⟩ := h
    have r2 := h.r2
    have f2 := h.fz 2
    have HP : Hid (RD (w.setCell ⟨g, 2, none⟩ (.int .i64 i)) g G B { d with left := i } s cs V hs hv) :=
      h.retell (turns_own w g 2 _) rfl rfl ⟨by show (-1 : Int) ≤ i; omega, hi2⟩ (h.blk.set_ 2 (.int .i64 i))
    have HG := Lib.hid h.gg
    clear h h0 hi1 hi2
    go_enter Tryz.func34, Tryz.ntmps34
    go_wp2
    go_ret
    rw [HV.out]
    exact ⟨rfl, ⟨_, _, _, _, _, HP.out⟩, Turns.set_ HG.out 2 _⟩
theorem lastOf_at (n : Nat) : ∀ (l : List (Nat × List UInt8)) (q : Nat) (hq : q < l.length), (l[q]).1 = n → (∀ p (hp : p < l.length), q < p → (l[p]).1 ≠ n) → Dk.lastOf n l = some (l[q]).2
  | x :: l, 0, _, h, hn => by
    rw [Dk.lastOf, Dk.lastOf_none n l (fun y hy => by
      obtain ⟨i, hi, rfl⟩ := List.getElem_of_mem hy
      exact hn (i + 1) (by simpa using hi) (by omega))]
    simp at h
    simp [h]
  | x :: l, q + 1, hq, h, hn => by
    rw [Dk.lastOf, lastOf_at n l q (by simpa using hq) (by simpa using h) (fun p hp hlt => by have := hn (p + 1) (by simpa using hp) (by omega); simpa using this)]
    simp
theorem now_any {w : World} {g : Nat} {G B : Nat → Prop} {d : Dk} (h : RDisk w g G B d) (k : Nat) (hk : k < d.safe.length) (hl : d.waits.length ≤ 1000000) :
    Calls Tryz.prog 77 #[.pointer (some ⟨g, 0, none⟩), .int .i64 (k : Int)] w fun e w' => (∃ v, e = .returned v ∧ Hdr w B v (d.now k)) ∧ w = w' := by
  obtain ⟨s, cs, V, hs, hv, h⟩ := h
  obtain ⟨A, c, rfl, hc1, hc2⟩ := h.vform
  have r1 := h.r1
  obtain ⟨m, hm⟩ : ∃ m, m = d.waits.length := ⟨_, rfl⟩
  rw [← hm] at r1 hc1 hl
  have H := Lib.hid h
  have Hm := Lib.hid hm
  have HK := Lib.hid hk
  have e0 : IntKind.i64.wrap ((m : Int) - 1) = (m : Int) - 1 := IntWalk.i64_in _ (by omega)
  clear h hm hk
  go_enter Tryz.func77, Tryz.ntmps77
  go_wp2
  clear e0
  go_loop [5] (fun x => ∃ j : Nat, j ≤ m ∧ x = .int .i64 ((j : Int) - 1) ∧ Hid (∀ p (hp : p < d.waits.length), j ≤ p → (d.waits[p]).1 ≠ k)) (fun x => (intOf x + 1).toNat)
  case atStart => exact ⟨m, by omega, rfl, fun p hp hj => absurd hp (by have := Hm.out; omega)⟩
  case round =>
    obtain ⟨j, hj, rfl, HN⟩ := hrel
    by_cases h0 : 0 < j
    · obtain ⟨q, rfl⟩ : ∃ q, j = q + 1 := ⟨j - 1, by omega⟩
      have eq1 : (((q + 1 : Nat) : Int) - 1) = (q : Int) := by omega
      rw [eq1]
      obtain ⟨gv, cv, hV, hvs, hvg, hvG, hm1, hm2, hcell⟩ := H.out.row (by have := Hm.out; omega)
      obtain ⟨rfl, -, rfl⟩ : A = some ⟨gv, 0, none⟩ ∧ m = d.waits.length ∧ c = cv := by
        have := Hm.out
        simp only [Value.slice.injEq] at hV
        exact ⟨hV.1, this, hV.2.2⟩
      have hq : q < d.waits.length := by have := Hm.out; omega
      obtain ⟨c1, v, c2, hh⟩ := hcell q hq
      obtain ⟨xn, hxn⟩ : ∃ xn, xn = (d.waits[q]).1 := ⟨_, rfl⟩
      rw [← hxn] at c1
      have u0 : (0 : Int) ≤ (q : Int) := by omega
      have u1 : (q : Int) < (m : Int) := by omega
      have d0 : decide ((q : Int) ≥ 0) = true := decide_eq_true (by omega)
      by_cases hx : xn = k
      · have HV : Hid (d.now k = (d.waits[q]).2) := by
          show _ = _
          unfold Dk.now
          rw [lastOf_at k d.waits q hq (by rw [← hxn]; exact hx) (fun p hp hlt => HN.out p hp (by omega))]
          rfl
        have Hh : Hid (Hdr w B v (d.waits[q]).2) := hh
        obtain ⟨_, b1, o1, cc1, rfl, _⟩ := hh
        subst hx
        have d1 : ((xn : Int) == (xn : Int)) = true := by simp
        clear hV hcell hxn
        go_wp2
        go_ret
        refine ⟨⟨_, rfl, ?_⟩, rfl⟩
        rw [HV.out]; exact Hh.out
      · have HN2 : Hid (∀ p (hp : p < d.waits.length), q ≤ p → (d.waits[p]).1 ≠ k) := fun p hp hqp => by
          by_cases hpq : p = q
          · subst hpq; rw [← hxn]; exact hx
          · exact HN.out p hp (by omega)
        have d1 : ((xn : Int) == (k : Int)) = false := by simp; omega
        have d2 : (xn == k) = false := by simpa using hx
        clear hV hcell hxn hh hx HN
        go_wp2
        refine ⟨⟨q, by omega, rfl, HN2⟩, ?_⟩
        simp [intOf]
    · have hj0 : j = 0 := by omega
      subst hj0
      obtain ⟨v, _, c3, hh⟩ := H.out.at_ HK.out
      have HV : Hid (d.now k = d.safe[k]'HK.out) := by
        show _ = _
        unfold Dk.now
        rw [Dk.lastOf_none k d.waits (fun x hx => by obtain ⟨p, hp, rfl⟩ := List.getElem_of_mem hx; exact HN.out p hp (by omega))]
        have := HK.out
        simp [List.getD, this]
      have Hh : Hid (Hdr w B v (d.safe[k]'HK.out)) := hh
      obtain ⟨_, b1, o1, cc1, rfl, _⟩ := hh
      have r0 := H.out.r0
      obtain ⟨n, hn⟩ : ∃ n, n = d.safe.length := ⟨_, rfl⟩
      rw [← hn] at r0
      have u0 : (0 : Int) ≤ (k : Int) := by omega
      have u1 : (k : Int) < (n : Int) := by have := HK.out; omega
      clear hn HN
      go_wp2
      go_ret
      refine ⟨⟨_, rfl, ?_⟩, rfl⟩
      rw [HV.out]; exact Hh.out
end
section
open Go.ChangeShapes Go.WideShapes Go.ChangeAt Go.RowKit
theorem image_any {w : World} {g : Nat} {F : Nat → Prop} {d : Dk} (h : PDisk w g F d) :
    Calls Tryz.prog 56 #[.pointer (some ⟨g, 0, none⟩)] w (GivesOne d.image w) := by
  have z0 := fun w' => Tryz.dIsNil g w'
  obtain ⟨a, ca, b, cb, n, V, ends, lf, h⟩ := h
  have c1 := h.c1
  have hl : n = d.image.length := by rw [Dk.image_length h.good.fit, h.size]
  have hm := h.good.many
  have hs := h.size
  have HC := Lib.hid (sclone_any d.image _ cb _ w h.last.all (by omega))
  rw [← hl] at HC
  clear h hl hm hs
  go_enter Tryz.func56, Tryz.ntmps56
  go_wp2_with (go_at_call 51; (with_reducible refine HC.out.mono ?_); rintro e w1 ⟨A1, c2, rfl, ho1, hb1⟩)
  go_ret
  exact ⟨A1, c2, rfl, ho1, hb1⟩
theorem safe_any {w : World} {g : Nat} {F : Nat → Prop} {d : Dk} (h : PDisk w g F d) :
    Calls Tryz.prog 58 #[.pointer (some ⟨g, 0, none⟩)] w (GivesOne d.sure w) := by
  have z0 := fun w' => Tryz.dIsNil g w'
  obtain ⟨a, ca, b, cb, n, V, ends, lf, h⟩ := h
  have c0 := h.c0
  have hl : n = d.sure.length := h.len.symm
  have hm := h.good.many
  have hs := h.size
  have HC := Lib.hid (sclone_any d.sure _ ca _ w h.safe.all (by omega))
  rw [← hl] at HC
  clear h hl hm hs
  go_enter Tryz.func58, Tryz.ntmps58
  go_wp2_with (go_at_call 51; (with_reducible refine HC.out.mono ?_); rintro e w1 ⟨A1, c2, rfl, ho1, hb1⟩)
  go_ret
  exact ⟨A1, c2, rfl, ho1, hb1⟩
end
end Go.Proofs.YtghenhacndaelaaGreat
