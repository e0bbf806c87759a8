/- Lemmas under the proofs of this place: WalLives, DiskPAt, WalOpen, DiskPOf. No statement is proved here. -/
import Derived.Test.YtghenhacndaelaaBu14
import Derived.Test.YtghenhacndaelaaBu15
import Derived.Test.YtghenhacndaelaaBu05
import Derived.Test.YtghenhacndaelaaBu02
set_option linter.unusedVariables false
set_option maxRecDepth 100000
set_option maxHeartbeats 16000000
namespace Go.Proofs.Ytghenhacndaelaa
section
open Go.ChangeShapes Go.WideShapes Go.ChangeAt Go.RowKit
structure Lf where
  stop : Int
  texts : List (List UInt8)
  masks : List Int
instance : Inhabited Lf := ⟨⟨0, [], []⟩⟩
def LV (w : World) (x : Lf) (tA : Option Addr) (tc : Nat) (mA : Option Addr) : Prop := Parts w w.heap.size tA x.texts ∧ RI w w.heap.size mA x.masks ∧ InI x.stop ∧ x.texts.length ≤ tc ∧ tc ≤ maxLen
def LL13 (w : World) (B : Nat) (A : Option Addr) (l : List Lf) : Prop :=
  0 < l.length → ∃ b off, A = some ⟨b, off, none⟩ ∧ b < B ∧ ∀ i (hi : i < l.length), ∃ tA tc mA mc, LV w l[i] tA tc mA ∧
    w.cell? ⟨b, off + i * 3, none⟩ = some (.int .i64 l[i].stop) ∧ w.cell? ⟨b, off + i * 3 + 1, none⟩ = some (.slice tA l[i].texts.length tc) ∧ w.cell? ⟨b, off + i * 3 + 2, none⟩ = some (.slice mA l[i].masks.length mc)
section
variable {H : Type} {enc : TypeId × Value → H} {P : Program}
theorem parts_of {W : World} {t e q : TypeId} {fuel : Nat} {v : Value} {x : DataW H × List MemPlace} (ht : P.underlying t = some (.slice e)) (he : P.underlying e = some (.slice q)) (hq : P.underlying q = some (.int .u8)) (ce : P.cellsOf e = 1) (cq : P.cellsOf q = 1)
    (hf : DataW.trod enc P W 0 (fun _ => true) true fuel t [v] = some x) :
    ∃ (A : Option Addr) (Ls : List (List UInt8)) (c : Nat), v = .slice A Ls.length c ∧ Parts W W.heap.size A Ls ∧ Ls.length ≤ c ∧ c ≤ maxLen := by
  rcases Deep.open_int_rows ht he hq ce cq hf with ⟨hcs, hx⟩ | ⟨a, len, cap, A, L, C, Z, hcs, _, hl, hm, hx, hr⟩
  · simp at hcs
    exact ⟨none, [], 0, hcs, fun h => absurd h (by simp), Nat.le_refl _, Nat.zero_le _⟩
  · simp at hcs
    refine ⟨some a, (List.range len).map fun r => bytesOfInts ((Z r).take (L r)), cap, by simpa using hcs, fun hn => ?_, by simpa using hl, hm⟩
    simp only [List.length_map, List.length_range] at hn
    obtain ⟨b, off, p⟩ := a
    have h0 := (hr 0 (by omega)).1
    have e0 : (⟨b, off, p⟩ : Addr).add 0 = ⟨b, off, p⟩ := by simp [Addr.add]
    rw [e0] at h0
    have hp : p = none := World.cell?_spot h0
    subst hp
    have hblk := World.block_lt_of_cell? W _ h0
    refine ⟨b, off, rfl, hblk, fun i hi => ?_⟩
    simp only [List.length_map, List.length_range] at hi
    obtain ⟨hc, hlc, hcm, hz, hw, hA, hcell⟩ := hr i (by omega)
    rw [addr_add6] at hc
    have hgi : ((List.range len).map fun r => bytesOfInts ((Z r).take (L r)))[i]'(by simpa using hi) = bytesOfInts ((Z i).take (L i)) := by simp
    have hll : (bytesOfInts ((Z i).take (L i))).length = L i := by simp [bytesOfInts]; omega
    refine ⟨A i, C i, ?_, ?_, ?_, hcm⟩
    · rw [hgi, hll]; exact hc
    · rw [hgi]
      exact rb_of_ints (L i) (by omega) hw (fun h => by have := hA h; omega) (fun a' ha c' hc' => (hcell a' ha).2 c' (by omega))
    · rw [hgi, hll]; exact hlc
theorem open_lives {W : World} {fuel : Nat} {t e : TypeId} {f0 f1 f2 : Field} {q q2 r : TypeId} {v : Value} {x : DataW H × List MemPlace} (ht : P.underlying t = some (.slice e)) (he : P.underlying e = some (.struct #[f0, f1, f2]))
    (ce : P.cellsOf e = 3) (o0 : f0.offset = 0) (o1 : f1.offset = 1) (o2 : f2.offset = 2)
    (c0 : P.cellsOf f0.type = 1) (c1 : P.cellsOf f1.type = 1) (c2 : P.cellsOf f2.type = 1)
    (k0 : P.underlying f0.type = some (.int .i64)) (k1 : P.underlying f1.type = some (.slice q)) (k2 : P.underlying f2.type = some (.slice r))
    (hq : P.underlying q = some (.slice q2)) (cq : P.cellsOf q = 1) (hq2 : P.underlying q2 = some (.int .u8)) (cq2 : P.cellsOf q2 = 1) (hr : P.underlying r = some (.int .i64)) (cr : P.cellsOf r = 1)
    (hf : DataW.trod enc P W 0 (fun _ => true) true fuel t [v] = some x) :
    ∃ (A : Option Addr) (D : List Lf) (c : Nat), v = .slice A D.length c ∧ LL13 W W.heap.size A D ∧ D.length ≤ c ∧ c ≤ 9223372036854775807 := by
  rcases Deep.open_slice ht hf with ⟨hcs, hx⟩ | ⟨a, len, cap, m, n, D, Pl, hcs, _, hl, hm, hmm, hx, hel⟩
  · simp at hcs
    exact ⟨none, [], 0, hcs, fun h => absurd h (by simp), Nat.le_refl _, by omega⟩
  · simp at hcs
    have hml : len ≤ m := by rw [hmm]; split <;> omega
    have each : ∀ i, i < len → ∃ z : Lf × (Option Addr × Nat) × (Option Addr × Nat), LV W z.1 z.2.1.1 z.2.1.2 z.2.2.1 ∧
        W.cell? (a.add (i * 3)) = some (.int .i64 z.1.stop) ∧ W.cell? (a.add (i * 3 + 1)) = some (.slice z.2.1.1 z.1.texts.length z.2.1.2) ∧ W.cell? (a.add (i * 3 + 2)) = some (.slice z.2.2.1 z.1.masks.length z.2.2.2) := by
      intro i hi
      obtain ⟨cs', h1, h2⟩ := hel i (by omega)
      rw [ce] at h1
      obtain ⟨_, hlen, hcell⟩ := World.cells?_some h1
      obtain ⟨xs, k, hk, hxy, _, hxl, hff⟩ := DataW.trod_struct he h2
      match xs, hxl, cs', hlen with
      | [y0, y1, y2], _, [v0, v1, v2], _ =>
        have g0 := hff 0 f0 rfl
        have g1 := hff 1 f1 rfl
        have g2 := hff 2 f2 rfl
        simp [o0, o1, o2, c0, c1, c2] at g0 g1 g2
        have e0 := hcell 0 (by omega)
        have e1 := hcell 1 (by omega)
        have e2 := hcell 2 (by omega)
        rw [Deep.add_add] at e0 e1 e2
        obtain ⟨z0, hz0, _, w0⟩ := DataW.trod_int k0 g0
        obtain ⟨tA, tL, tc, rfl, ht1, ht2, ht3⟩ := parts_of k1 hq hq2 cq cq2 g1
        obtain ⟨mA, mL, mc, rfl, hm1⟩ := intl_of k2 hr cr g2
        simp only [List.cons.injEq, and_true] at hz0
        subst hz0
        refine ⟨(⟨z0, tL, mL⟩, (tA, tc), (mA, mc)), ⟨ht1, hm1, ini_wf6 w0, ht2, ht3⟩, ?_, ?_, ?_⟩
        · simpa using e0
        · simpa using e1
        · simpa using e2
    obtain ⟨z, hz⟩ := Deep.choose_lt each
    refine ⟨some a, (List.range len).map fun i => (z i).1, cap, by simpa using hcs, fun hn => ?_, by simpa using hl, hm⟩
    simp only [List.length_map, List.length_range] at hn
    obtain ⟨b, off, p⟩ := a
    have h0 := (hz 0 (by omega)).2.1
    have e00 : (⟨b, off, p⟩ : Addr).add (0 * 3) = ⟨b, off, p⟩ := by simp [Addr.add]
    rw [e00] at h0
    have hp : p = none := World.cell?_spot h0
    subst hp
    have hblk := World.block_lt_of_cell? W _ h0
    refine ⟨b, off, rfl, hblk, fun k hk => ?_⟩
    simp only [List.length_map, List.length_range] at hk
    have ea := addr_add6 b off
    have hc := hz k (by omega)
    simp only [ea] at hc
    have eg : ((List.range len).map fun i => (z i).1)[k]'(by simpa using hk) = (z k).1 := by simp
    rw [eg]
    exact ⟨_, _, _, _, hc⟩
end
end
section
open Go.RowKit
theorem Try.loadInt64 (a : Addr) (x : Int) (w : World) (hc : w.cell? a = some (.int .i64 x)) :
    (callFunc 41 #[.pointer (some a)]).run Try.prog w = .ok (.value (.int .i64 x)) w :=
  run_call_load Try.func41 (by kernel_rfl) (by kernel_rfl) (by kernel_rfl) .i64 (by kernel_rfl) hc
theorem Try.storeInt64 (a : Addr) (y : Int) (u : Value) (w : World) (hc : w.cell? a = some u) (hz : w.frozen? a = false) :
    (callFunc 40 #[.pointer (some a), .int .i64 y]).run Try.prog w = .ok (.value (.tuple #[])) (w.setCell a (.int .i64 y)) :=
  run_call_store Try.func40 (by kernel_rfl) (by kernel_rfl) (by kernel_rfl) (by kernel_rfl) hc hz
theorem aload_any (g k : Nat) (x : Int) (w : World) (hc : w.cell? ⟨g, k, none⟩ = some (.int .i64 x)) :
    Calls Try.prog 32 #[.pointer (some ⟨g, k, none⟩)] w fun e w' => e = .returned (.int .i64 x) ∧ w = w' := by
  have HA := Try.loadInt64 ⟨g, k, none⟩ x w hc
  clear hc
  go_enter Try.func32, Try.ntmps32
  go_wp2
  go_ret
  exact ⟨rfl, rfl⟩
end
section
namespace Wal
def areaW (d : Dk) (frm blocks : Nat) : List UInt8 := (List.range blocks).flatMap fun i => d.now (frm + i)
def secA (area : List UInt8) : Sec := fun j => getS (secL area j)
def recordsA (area : List UInt8) (least most : Int) : List (List UInt8) × Nat := recordsW (secA area) (area.length / 64) least most (area.length / 64 + 1) 0
def openOk (d : Dk) (frm blocks least most : Int) : Bool := decide (0 ≤ frm) && (decide (frm ≤ (d.safe.length : Int)) && (decide (1 ≤ blocks) && (decide (blocks ≤ (d.safe.length : Int) - frm) && (decide (1 ≤ least) && (decide (least ≤ most) && decide (most ≤ 2147483647))))))
def openW (d : Dk) (frm blocks least most : Int) : Dk × Option Lg × List (List UInt8) × Int :=
  if openOk d frm blocks least most = false then (d, none, [], 1) else if d.off = true then (d, none, [], 9) else
  let area := areaW d frm.toNat blocks.toNat
  let r := recordsA area least most
  ({ d with reads := d.reads + blocks.toNat }, some ⟨frm.toNat, 4 * blocks.toNat, most, area.take (64 * r.2), false⟩, r.1, 0)
section
variable {sec sec' : Sec} {N at_ u : Nat} {e least most : Int} {t : List UInt8} {R : List (List UInt8)}
theorem scan_same (h : ∀ j, j < N → sec' j = sec j) : ∀ (f k : Nat) (l : List Sd), at_ + k + f ≤ N → scanR sec' at_ least most f k l = scanR sec at_ least most f k l
  | 0, _, _, _ => rfl
  | f + 1, k, l, hk => by
    rw [scanR, scanR, h (at_ + k) (by omega), scan_same h f (k + 1) _ (by omega)]
theorem record_same (h : ∀ j, j < N → sec' j = sec j) : recordW sec' N at_ least most = recordW sec N at_ least most := by
  unfold recordW
  by_cases ha : at_ ≤ N
  · rw [scan_same h _ 0 [] (by omega)]
  · rw [show N - at_ = 0 by omega]
    rfl
theorem records_same (h : ∀ j, j < N → sec' j = sec j) : ∀ (f a : Nat), recordsW sec' N least most f a = recordsW sec N least most f a
  | 0, _ => rfl
  | f + 1, a => by
    rw [recordsW, recordsW, record_same h]
    cases recordW sec N a least most with
    | none => rfl
    | some x => obtain ⟨t, n⟩ := x; simp only [records_same h f (a + n)]
theorem chain_length : ∀ (R : List (List UInt8)) (a : Nat), Chain sec N least most a R u → a + R.length ≤ u
  | [], a, h => by have h' : a = u := h; simp; omega
  | t :: R, a, h => by
    obtain ⟨⟨e, _, _, h3⟩, h4⟩ := h
    have ih := chain_length R _ h4
    have := h3.1
    simp only [List.length_cons]
    omega
end
theorem flat_block (f : Nat → List UInt8) : ∀ n, (∀ i, i < n → (f i).length = 256) → ((List.range n).flatMap f).length = 256 * n ∧ ∀ j, j < 4 * n → secL ((List.range n).flatMap f) j = Dk.sector (f (j / 4)) (j % 4)
  | 0, _ => ⟨rfl, fun j hj => by omega⟩
  | n + 1, h => by
    obtain ⟨h1, h2⟩ := flat_block f n fun i hi => h i (by omega)
    rw [List.range_succ, List.flatMap_append]
    simp only [List.flatMap_cons, List.flatMap_nil, List.append_nil]
    have hn := h n (by omega)
    refine ⟨by rw [List.length_append, h1, hn]; omega, fun j hj => ?_⟩
    by_cases hjn : j < 4 * n
    · rw [← h2 j hjn]
      unfold secL
      rw [List.drop_append_of_le_length (by omega), List.take_append_of_le_length (by rw [List.length_drop]; omega)]
    · unfold secL Dk.sector
      rw [show 64 * j = ((List.range n).flatMap f).length + 64 * (j - 4 * n) by omega, ← List.drop_drop, List.drop_left, show j / 4 = n by omega, show j % 4 = j - 4 * n by omega]
theorem now_calm {d : Dk} (h : d.waits = []) (n : Nat) : d.now n = blkOf d.safe n := by
  unfold Dk.now blkOf
  rw [h]
  rfl
theorem open_left {d : Dk} {frm n len : Nat} {e : Int} {R : List (List UInt8)} (h : Left d frm n len e R) (hn : n % 4 = 0 ∧ n ≤ 65536 ∧ 0 < n) (hl : frm + n / 4 ≤ len) (he : 1 ≤ e ∧ e ≤ 2147483646) :
    ∃ l u, openW d (frm : Int) ((n / 4 : Nat) : Int) 1 e = ({ d with reads := d.reads + n / 4 }, some l, R, 0) ∧ Live { d with reads := d.reads + n / 4 } l u R ∧ l.frm = frm ∧ l.n = n ∧ l.epoch = e ∧ Left { d with reads := d.reads + n / 4 } frm n len e R := by
  obtain ⟨h1, h2, h3, h4, h5, u, ha⟩ := h
  obtain ⟨f1, f2, f3⟩ := hn
  have hblk : ∀ i, i < n / 4 → (d.now (frm + i)).length = 256 := fun i hi => Dk.fit_now h1 (by omega)
  obtain ⟨a1, a2⟩ := flat_block (fun i => d.now (frm + i)) (n / 4) hblk
  obtain ⟨area, har⟩ : ∃ a, a = areaW d frm (n / 4) := ⟨_, rfl⟩
  have b1 : area.length = 64 * n := by rw [har]; show _ = _; unfold areaW; rw [a1]; omega
  have hsec : ∀ j, j < n → secL area j = bytesAt (blkOf d.safe) frm j := fun j hj => by
    rw [har]
    unfold areaW bytesAt
    rw [a2 j (by omega), now_calm h2]
  have hs2 : ∀ j, j < n → secA area j = secD (blkOf d.safe) frm j := fun j hj => by
    unfold secA secD
    rw [hsec j hj]
  have hcl := chain_length R 0 ha.chain
  have hce := chain_end R 0 ha.chain
  have hun : u ≤ n := by
    rcases Nat.eq_zero_or_pos R.length with h6 | h6
    · have h7 : R = [] := List.eq_nil_of_length_eq_zero h6
      have h8 := ha.chain
      rw [h7] at h8
      have h9 : 0 = u := h8
      omega
    · exact hce.2 h6
  have hrec : recordsA area 1 e = (R, u) := by
    unfold recordsA
    rw [b1, show 64 * n / 64 = n by omega, records_same hs2]
    exact records_chain ha.sane ha.none R (n + 1) 0 ha.chain (by omega)
  have hok : openOk d (frm : Int) ((n / 4 : Nat) : Int) 1 e = true := by
    unfold openOk
    rw [h5]
    simp only [Bool.and_eq_true, decide_eq_true_eq]
    omega
  refine ⟨⟨frm, n, e, area.take (64 * u), false⟩, u, ?_, ⟨h1, h2, h3, rfl, he, ha, ?_, ?_, ⟨f1, f2⟩, by show frm + n / 4 ≤ d.safe.length; omega, hun⟩, rfl, rfl, rfl, ⟨h1, h2, h3, h4, h5, u, ha⟩⟩
  · unfold openW
    rw [if_neg (by rw [hok]; decide), if_neg (by rw [h3]; decide)]
    simp only [Int.toNat_natCast]
    rw [← har, hrec]
    simp only []
    rw [show 4 * (n / 4) = n by omega]
  · show (area.take (64 * u)).length = _
    rw [List.length_take, b1]
    omega
  · intro j hj
    show secL (area.take (64 * u)) j = _
    rw [← hsec j (by omega)]
    unfold secL
    rw [List.drop_take, List.take_take]
    congr 1
    omega
theorem Live.stop {d : Dk} {l : Lg} {u : Nat} {R : List (List UInt8)} (h : Live d l u R) (i : Int) : Live (d.stop i).1 l u R := by
  unfold Dk.stop
  split
  · exact h
  · exact ⟨h.fit, h.calm, h.on, h.alive, h.epoch, h.area, h.len, h.old, h.four, h.room, h.top⟩
theorem left_blank (len frm n : Nat) : Left (Dk.blank len) frm n len 1 [] := by
  refine ⟨Dk.fit_blank len, rfl, rfl, rfl, ?_, 0, sane_d _ _, rfl, fun j hj h1 h2 => ?_, ?_⟩
  · show (List.replicate len _).length = len
    rw [List.length_replicate]
  · exfalso
    have hz : ∃ m, bytesAt (blkOf (Dk.blank len).safe) frm j = List.replicate m 0 := by
      unfold bytesAt blkOf Dk.blank Dk.sector
      simp only []
      by_cases hj2 : frm + j / 4 < len
      · rw [List.getD_eq_getElem?_getD, List.getElem?_replicate, if_pos hj2]
        simp only [Option.getD_some]
        rw [List.drop_replicate, List.take_replicate]
        exact ⟨_, rfl⟩
      · rw [List.getD_eq_getElem?_getD, List.getElem?_replicate, if_neg hj2]
        exact ⟨0, by simp⟩
    obtain ⟨m, hm⟩ := hz
    unfold secD at h1
    rw [hm] at h1
    exact zero_bad m h1
  · refine no_rec fun h1 _ => ?_
    exfalso
    have hz : ∃ m, bytesAt (blkOf (Dk.blank len).safe) frm 0 = List.replicate m 0 := by
      unfold bytesAt blkOf Dk.blank Dk.sector
      simp only []
      by_cases hj2 : frm + 0 / 4 < len
      · rw [List.getD_eq_getElem?_getD, List.getElem?_replicate, if_pos hj2]
        simp only [Option.getD_some]
        rw [List.drop_replicate, List.take_replicate]
        exact ⟨_, rfl⟩
      · rw [List.getD_eq_getElem?_getD, List.getElem?_replicate, if_neg hj2]
        exact ⟨0, by simp⟩
    obtain ⟨m, hm⟩ := hz
    unfold secD at h1
    rw [hm] at h1
    exact zero_bad m h1
def turnW (l : Lg) (e : Int) : Lg × Int := if l.gone = true then (l, 8) else if e < l.epoch ∨ 2147483647 < e then (l, 1) else ({ l with epoch := e }, 0)
def resetW (l : Lg) (e : Int) : Lg × Int := if (turnW l e).2 = 0 then ({ (turnW l e).1 with b := [] }, 0) else (turnW l e).1 |> fun x => (x, (turnW l e).2)
end Wal
end
section
open Go.RowKit
def GivesDisk (D : Dk) (w w' : World) (g : Nat) (F : Nat → Prop) : Prop := PDisk w' g F D ∧ Below w.heap.size w w' ∧ ∀ k, F k → w.heap.size ≤ k
theorem newDisk {w0 w1 w2 w3 : World} {L : List UInt8} {a b ca cb m g : Nat} (hm : L.length = 256 * m) (hf : 16 ≤ m) (hm2 : m ≤ 1024) (h1 : Arr w1 a L) (ha : w0.heap.size ≤ a) (hb1 : Below w0.heap.size w0 w1) (hca : L.length ≤ ca ∧ ca ≤ 9223372036854775807)
    (h2 : Arr w2 b L) (hb : w1.heap.size ≤ b) (hb2 : Below w1.heap.size w1 w2) (hcb : L.length ≤ cb ∧ cb ≤ 9223372036854775807)
    (hw : Hid (w3 = w2.alloc (.cells #[.slice (some ⟨a, 0, none⟩) L.length ca, .slice (some ⟨b, 0, none⟩) L.length cb, .slice none 0 0, .bool false, .bool false, .int .i64 0, .int .i64 0, .int .i64 0, .int .i64 0] 65))) (hg : Hid (g = w2.heap.size)) :
    GivesDisk (Dk.ofImage L) w0 w3 g (fun k => k = g ∨ k = a ∨ k = b) := by
  have e1 : L.length / 256 = m := by omega
  have hl : (Dk.ofImage L).safe = Dk.chunks m L := by unfold Dk.ofImage; rw [e1]
  have hfl : (Dk.ofImage L).safe.flatten = L := by rw [hl]; exact Dk.chunks_flatten m L hm
  have hlt1 := h1.lt
  have hlt2 := h2.lt
  have hs1 := hb1.size
  have hs2 := hb2.size
  have hs3 := letter_size hw
  have hg' := hg.out
  have hb3 : Below w2.heap.size w2 w3 := letter_below hw (Below.refl _ _) (Nat.le_refl _)
  refine ⟨⟨a, ca, b, cb, L.length, .slice none 0 0, false, 0, ?_⟩, (hb1.trans (hb2.mono hs1)).trans (hb3.mono (by omega)), fun k hk => by rcases hk with rfl | rfl | rfl <;> omega⟩
  refine ⟨letter_blk hw hg, ?_, hca, hcb, ?_, ?_, World.ownsRow_nil _ _ _ _, by omega, .inl rfl, .inr (.inl rfl), .inr (.inr rfl), fun k hk => by simp [Value.ownBlock] at hk, fun k hk => by rcases hk with rfl | rfl | rfl <;> omega, ?_, fun _ => rfl, fun _ h => absurd h (by show ¬ (0 : Int) ≤ -1; omega)⟩
  · rw [hl, Dk.chunks_length]; exact hm
  · rw [hfl]
    exact (h1.turns (Turns.of_below hb2 (fun _ => False)) (fun h => h)).turns (Turns.of_below hb3 (fun _ => False)) (fun h => h)
  · rw [Dk.image_calm _ rfl, hfl]
    exact h2.turns (Turns.of_below hb3 (fun _ => False)) (fun h => h)
  · refine ⟨⟨?_, fun x hx => by cases hx⟩, by rw [hl, Dk.chunks_length]; exact hf, by rw [hl, Dk.chunks_length]; exact hm2, ⟨Int.le_refl _, by show (-1 : Int) ≤ _; omega⟩⟩
    rw [hl]; exact Dk.chunks_fit m L hm
theorem of_any (L : List UInt8) (m : Nat) (A : Option Addr) (n c : Nat) (w : World) (hr : RB w w.heap.size A L) (hn : n = L.length) (hm : L.length = 256 * m) (hf : 16 ≤ m) (hm2 : m ≤ 1024) :
    Calls Try.prog 20 #[.slice A n c] w fun e w' => ∃ g F, e = .returned (.pointer (some ⟨g, 0, none⟩)) ∧ GivesDisk (Dk.ofImage L) w w' g F := by
  subst hn
  have HM : Hid (L.length = 256 * m ∧ 16 ≤ m ∧ m ≤ 1024) := ⟨hm, hf, hm2⟩
  have HC := Lib.hid (sclone_any L A c _ w hr (by omega))
  have HC2 : Hid (∀ w1, Below w.heap.size w w1 → Calls Try.prog 29 #[.slice A L.length c] w1 (GivesOne L w1)) := fun w1 hb => sclone_any L A c _ w1 (hr.below hb) (by omega)
  have u0 : 0 < L.length := by omega
  clear hr hm hf hm2
  go_enter Try.func20, Try.ntmps20
  go_wp2_with (first
    | (go_at_call 29; (with_reducible refine HC.out.mono ?_); rintro e w1 ⟨A1, c1, rfl, ho1, hb1⟩; obtain ⟨a, rfl, hA1, hl1, hm1, hg1⟩ := own_arr ho1 u0; clear HC)
    | (go_at_call 29; (with_reducible refine (HC2.out w1 hb1).mono ?_); rintro e w2 ⟨A2, c2, rfl, ho2, hb2⟩; obtain ⟨b, rfl, hA2, hl2, hm2, hg2⟩ := own_arr ho2 u0)
    | (refine wpList_buildTo rfl 65 _ rfl (some 7) rfl _ (Try.builtDisk _ _ a b L.length c1 c2 rfl rfl) ?_)
    | (refine wpList_box_letter rfl 65 _ rfl (some 8) rfl _ rfl ?_; intro g3 w3 hw3 hg3))
  go_ret
  exact ⟨g3, _, rfl, newDisk HM.out.1 HM.out.2.1 HM.out.2.2 hA1 hg1 hb1 ⟨hl1, hm1⟩ hA2 hg2 hb2 ⟨hl2, hm2⟩ hw3 hg3⟩
theorem blank_any (m : Nat) (w : World) (h1 : 16 ≤ m) (h2 : m ≤ 1024) :
    Calls Try.prog 5 #[.int .i64 (m : Int)] w fun e w' => ∃ g F, e = .returned (.tuple #[.pointer (some ⟨g, 0, none⟩), .int .i64 0]) ∧ GivesDisk (Dk.blank m) w w' g F := by
  obtain ⟨i0, hi0, hz0, hz1, hz2⟩ := info_parts Try.info5
  have hby : i0.bytes = 1 := hz2
  have HF : Hid (∀ W, Calls Try.prog 19 #[.int .i64 (m : Int)] W fun e w' => e = .returned (.bool true) ∧ W = w') := fun W => by
    have := fits_any (m : Int) W
    rwa [decide_eq_true (by omega)] at this
  obtain ⟨n, hn⟩ : ∃ n, n = 256 * m := ⟨_, rfl⟩
  have HN := Lib.hid hn
  have n0 := fun w' => Try.notTrue w'
  have e1 : (m : Int) * 256 = (n : Int) := by omega
  have u0 : (0 : Int) ≤ (n : Int) := by omega
  have u1 : n ≤ 1000000 := by omega
  have u4 : IntKind.i64.wrap (n : Int) = (n : Int) := IntWalk.i64_in _ (by omega)
  have HO : Hid (∀ W A, RB W W.heap.size A (List.replicate n 0) → Calls Try.prog 20 #[.slice A n n] W fun e w' => ∃ g F, e = .returned (.pointer (some ⟨g, 0, none⟩)) ∧ GivesDisk (Dk.blank m) W w' g F) := fun W A hr => by
    have h := of_any (List.replicate n 0) m A n n W hr (by simp) (by simp [hn]) h1 h2
    rw [hn] at h ⊢
    rwa [Dk.ofImage_zero] at h
  clear hn h1 h2
  go_enter Try.func5, Try.ntmps5
  go_wp2_with (first
    | (go_at_call 19; (with_reducible refine (HF.out _).mono ?_); rintro e w1 ⟨rfl, rfl⟩)
    | (at_make; refine wpList_make_full _ rfl _ _ 38 rfl w.heap.size 5 i0 _ 1 Try.underlying38 hi0 hz0 hz1 .i64 .i64 _ _ n rfl rfl rfl rfl (by rw [hby]; omega) (by unfold maxLen; omega) (Nat.le_refl _) ?_; intro w2 ho2 hg2)
    | (go_at_call 20; (with_reducible refine (HO.out _ _ (made_rb ho2)).mono ?_); rintro e w3 ⟨g, F, rfl, hG⟩))
  go_ret2
  have b2 : Below w.heap.size w w2 := (Below.refl _ _).grown hg2 (Nat.le_refl _) (by simp)
  exact ⟨g, F, rfl, hG.1, b2.trans (hG.2.1.mono b2.size), fun k hk => Nat.le_trans b2.size (hG.2.2 k hk)⟩
end
end Go.Proofs.Ytghenhacndaelaa
