/- Lemmas under the proofs of this place: DagPPut. No statement is proved here. -/
import Derived.Test.YtbeihiokjhfepaaBu16
import Derived.Test.YtbeihiokjhfepaaBu19
import Derived.Shelf.SlMaps.Clone
set_option linter.unusedSimpArgs false
set_option linter.unusedVariables false
set_option maxRecDepth 100000
set_option maxHeartbeats 16000000
namespace Go.Proofs.Ytbeihiokjhfepaa
open Go.RowKit Go.Maps Go.ChangeMaps
theorem grown_of_alloc {w w1 : World} {o : Obj} {row : Option Nat} (h : (w.alloc o).grownBy w1 row) : w.grownBy w1 row :=
  ⟨h.os, h.tape, h.output, Nat.le_trans (by simp) h.size, fun k hk hne => (h.block k (by simp; omega) hne).trans (Below.heap_alloc w o k hk)⟩
theorem new_reads (w : World) (e : TypeId) (cs : Array Value) (m size : Nat) (h : cs.size = m * size) : Reads (w.alloc (.cells cs e)) (w.heap.size + 1) size (some ⟨w.heap.size, 0, none⟩) m cs.toList :=
  ⟨by simpa using h, fun _ => ⟨_, rfl, by simp, fun j u hu => by
    rw [add_none, Nat.zero_add, (Blk.new w e cs).cell j]
    simpa using hu⟩⟩
theorem append_kid {ops : Array Oper} {rest : List Oper} {o : Oper} {a : Act} {Q : Exit → Act → World → Prop} (hgd : o.guard = none) (s x : Operand)
    (ho : o.op = .call { callee := .builtin .append, args := #[s, x], argTypes := #[64, 64] })
    {wr : World} {A : Option Addr} {n c z : Nat} {l : List Nat} {v : Int} (hs : a.eval s = .slice A n c) (hS : wr.ownsRow 0 3 1 (.slice A n c) n (icells l)) (ht : v = (z : Int)) (hx : a.eval x = .slice (some ⟨wr.heap.size, 0, none⟩) 1 1) (hlen : n + 1 ≤ 100000)
    (h : ∀ A' c' w1, Hid (w1.ownsRow 0 3 1 (.slice A' (n + 1) c') (n + 1) (icells (l ++ [z]))) → Hid (wr.grownBy w1 (Value.slice A n c).ownBlock) → Hid ((Value.slice A' (n + 1) c').ownBlock = (Value.slice A n c).ownBlock ∨ ∃ k, (Value.slice A' (n + 1) c').ownBlock = some k ∧ wr.heap.size ≤ k) → wpList Try.prog ops Q rest (a.put o.dst (.slice A' (n + 1) c')) w1) :
    wpList Try.prog ops Q (o :: rest) a (wr.alloc (.cells #[.int .i64 v] 3)) := by
  obtain ⟨i0, hi0, hz0, hz1, hz2⟩ := info_parts Try.infoI16
  subst ht
  refine wpList_append_any _ hgd s x 64 ho 0 3 i0 _ 1 8 Try.underlying64 hi0 hz0 hz1 hz2 rfl (by omega) _ n (icells l) hs (hS.alloc _) (wr.heap.size + 1) (some ⟨wr.heap.size, 0, none⟩) 1 1 (icells [z]) hx (new_reads wr 3 #[.int .i64 (z : Int)] 1 1 rfl) (by intro u hu; rw [show icells [z] = [Value.int .i64 (z : Int)] from rfl, List.mem_singleton] at hu; subst hu; rfl) (by simp only [maxLen]; omega) (by omega) (Nat.zero_le _) ?_
  intro v' w1 ho1 hg1 hat
  obtain ⟨A', c', rfl⟩ := iown_form ho1
  refine h A' c' w1 (by show w1.ownsRow _ _ _ _ _ _; rw [icells_append]; exact ho1) (grown_of_alloc hg1) ?_
  rcases hat with h1 | h1
  · exact .inl h1
  · exact .inr ⟨_, h1, by simp⟩
theorem Try.infoPNode : (Try.prog.info? 71).map (fun i => (i.zero, i.size, i.bytes)) = some (some (.agg #[.string ⟨#[]⟩, .slice none 0 0, .slice none 0 0, .int .i64 0]), 4, 72) := by kernel_rfl
theorem pnown_form {w : World} {base : Nat} {v : Value} {n : Nat} {xs : List Value} (h : w.ownsRow base 71 4 v n xs) : ∃ A c, v = .slice A n c := by
  rcases h.2 with ⟨rfl, rfl⟩ | ⟨g, cap, cur, rfl, _⟩
  · exact ⟨none, 0, rfl⟩
  · exact ⟨_, _, rfl⟩
theorem append_node {ops : Array Oper} {rest : List Oper} {o : Oper} {a : Act} {Q : Exit → Act → World → Prop} (hgd : o.guard = none) (s x : Operand)
    (ho : o.op = .call { callee := .builtin .append, args := #[s, x], argTypes := #[58, 58] })
    {wr : World} {A : Option Addr} {n c : Nat} {r : List NdP} {y : NdP} {v1 v2 v3 v4 : Value} (hs : a.eval s = .slice A n c) (hS : wr.ownsRow 0 71 4 (.slice A n c) n (rowP r)) (ht : ndp y = [v1, v2, v3, v4]) (hx : a.eval x = .slice (some ⟨wr.heap.size, 0, none⟩) 1 1) (hlen : n + 1 ≤ 100000)
    (h : ∀ A' c' w1, Hid (w1.ownsRow 0 71 4 (.slice A' (n + 1) c') (n + 1) (rowP (r ++ [y]))) → Hid (wr.grownBy w1 (Value.slice A n c).ownBlock) → Hid ((Value.slice A' (n + 1) c').ownBlock = (Value.slice A n c).ownBlock ∨ ∃ k, (Value.slice A' (n + 1) c').ownBlock = some k ∧ wr.heap.size ≤ k) → wpList Try.prog ops Q rest (a.put o.dst (.slice A' (n + 1) c')) w1) :
    wpList Try.prog ops Q (o :: rest) a (wr.alloc (.cells #[v1, v2, v3, v4] 71)) := by
  obtain ⟨i0, hi0, hz0, hz1, hz2⟩ := info_parts Try.infoPNode
  refine wpList_append_any _ hgd s x 58 ho 0 71 i0 _ 4 72 Try.underlying58 hi0 hz0 hz1 hz2 rfl (by omega) _ n (rowP r) hs (hS.alloc _) (wr.heap.size + 1) (some ⟨wr.heap.size, 0, none⟩) 1 1 (ndp y) hx (by rw [ht]; exact new_reads wr 71 #[v1, v2, v3, v4] 1 4 rfl) (fun u hu => rowP_one [y] u (by simpa [rowP] using hu)) (by simp only [maxLen]; omega) (by omega) (Nat.zero_le _) ?_
  intro v' w1 ho1 hg1 hat
  obtain ⟨A', c', rfl⟩ := pnown_form ho1
  refine h A' c' w1 (by show w1.ownsRow _ _ _ _ _ _; rw [rowP_snoc]; exact ho1) (grown_of_alloc hg1) ?_
  rcases hat with h1 | h1
  · exact .inl h1
  · exact .inr ⟨_, h1, by simp⟩
theorem wpList_mapNew {ops : Array Oper} {rest : List Oper} {o : Oper} {a : Act} {Q : Exit → Act → World → Prop} (hg : o.guard = none) (m x v : Operand) (hop : o.op = .mapUpdate 59 m x v)
    {w : World} {b : Nat} {I : List Bs} {L : Bs} {t : ByteArray} {z : Int} (h : MapAt w b I) (hn : L ∉ I) (ht : t = text L) (hz : z = (I.length : Int)) (hm : a.eval m = .map (some b)) (hx : a.eval x = .string t) (hv : a.eval v = .int .i64 z)
    (hK : ∀ w', Hid (MapAt w' b (I ++ [L])) → Hid (Only w w' b) → wpList Try.prog ops Q rest (a.put o.dst undef) w') : wpList Try.prog ops Q (o :: rest) a w := by
  refine wpList_plain hg fun K' hK' => ?_
  subst ht hz
  obtain ⟨w', hrun, r1, r2⟩ := map_new h L hn
  unfold Oper.wp
  simp [execOp, hop, hm, hx, hv, hrun, Result.andThen]
  exact hK' _ _ (hK w' r1 r2)
def topP (r : List NdP) (qs : List Nat) : Nat → Nat
  | 0 => 0
  | k + 1 => max (topP r qs k) (r.getD (qs.getD k 0) nP).d
structure KR (r r' : List NdP) (s : List Nat) (z : Nat) : Prop where
  len : r'.length = r.length
  same : ∀ i, i < r.length → (r'.getD i nP).id = (r.getD i nP).id ∧ (r'.getD i nP).pA = (r.getD i nP).pA ∧ (r'.getD i nP).pc = (r.getD i nP).pc ∧ (r'.getD i nP).ps = (r.getD i nP).ps ∧ (r'.getD i nP).d = (r.getD i nP).d
  ks : ∀ i, i < r.length → (r'.getD i nP).ks = (r.getD i nP).ks ++ if i ∈ s then [z] else []
theorem KR.start (r : List NdP) (z : Nat) : KR r r [] z := ⟨rfl, fun i hi => ⟨rfl, rfl, rfl, rfl, rfl⟩, fun i hi => by simp⟩
theorem KR.step {r r' : List NdP} {s : List Nat} {z q kc : Nat} {kA : Option Addr} (h : KR r r' s z) (hq : q < r.length) (hs : q ∉ s) : KR r (r'.set q ((r'.getD q nP).kid kA kc ((r'.getD q nP).ks ++ [z]))) (s ++ [q]) z := by
  refine ⟨by rw [List.length_set]; exact h.len, fun i hi => ?_, fun i hi => ?_⟩
  · rw [getD_set _ _ _ (by rw [h.len]; exact hi)]
    split
    · rename_i e
      subst e
      exact h.same _ hi
    · exact h.same _ hi
  · rw [getD_set _ _ _ (by rw [h.len]; exact hi)]
    have h1 := h.ks i hi
    split
    · rename_i e
      subst e
      rw [if_neg hs, List.append_nil] at h1
      rw [if_pos (by simp)]
      show (r'.getD q nP).ks ++ [z] = _
      rw [h1]
    · rename_i e
      rw [h1]
      congr 1
      have e2 : (i ∈ s ++ [q]) ↔ i ∈ s := by
        rw [List.mem_append, List.mem_singleton]
        exact ⟨fun hh => hh.elim id (fun e3 => absurd e3.symm e), .inl⟩
      by_cases h2 : i ∈ s
      · rw [if_pos h2, if_pos (e2.2 h2)]
      · rw [if_neg h2, if_neg (fun hh => h2 (e2.1 hh))]
theorem PMI.kid2 {w w1 : World} {p : Nat} {F : Nat → Prop} {A : Option Addr} {n c : Nat} {mv : Value} {I : List Bs} {r : List NdP} (h : PMI w p F A n c mv I r) {q : Nat} (hq : q < r.length) {b off z m kc : Nat} {kA A' : Option Addr} {c' : Nat} {ks : List Nat} (hA : A = some ⟨b, off, none⟩) (hz : off = 0)
    (h1 : (r.getD q nP).kA = kA) (h2 : (r.getD q nP).kc = kc) (h3 : (r.getD q nP).ks = ks) (h4 : m = ks.length)
    (ho : w1.ownsRow 0 3 1 (.slice A' (m + 1) c') (m + 1) (icells (ks ++ [z]))) (hg : w.grownBy w1 (Value.slice kA m kc).ownBlock)
    (hat : (Value.slice A' (m + 1) c').ownBlock = (Value.slice kA m kc).ownBlock ∨ ∃ k, (Value.slice A' (m + 1) c').ownBlock = some k ∧ w.heap.size ≤ k) :
    ∃ F', PMI (w1.setCell ⟨b, off + q * 4 + 2, none⟩ (.slice A' (m + 1) c')) p F' A n c mv I (r.set q ((r.getD q nP).kid A' c' ((r.getD q nP).ks ++ [z]))) ∧ Turns w (w1.setCell ⟨b, off + q * 4 + 2, none⟩ (.slice A' (m + 1) c')) F F' := by
  subst h1 h2 h3 h4 hz
  rw [Nat.zero_add]
  exact ⟨_, h.kid hq hA ho hg hat⟩
theorem PMI.mapNew2 {w : World} {p n c k : Nat} {F : Nat → Prop} {A : Option Addr} {mv : Value} {I : List Bs} {r : List NdP} (h : PMI w p F A n c mv I r) (hmv : mv = .map none) (hk : k = w.heap.size) :
    ∃ F', PMI ((w.setCell ⟨p, 1, none⟩ (.map (some k))).alloc (.map #[] 0)) p F' A n c (.map (some k)) [] r ∧ Turns w ((w.setCell ⟨p, 1, none⟩ (.map (some k))).alloc (.map #[] 0)) F F' := by
  subst hk
  have h1 := h.mapNew hmv
  rw [World.setCell_alloc_past _ _ _ _ h.blk.lt] at h1
  exact ⟨_, h1⟩
theorem put_any {w : World} {p n c : Nat} {F : Nat → Prop} {A : Option Addr} {mv : Value} {r : List NdP} (h : PM w p F A n c mv r) (x : Bs) (qs : List Nat) (X : Option Addr) (m d : Nat) (hm : m = qs.length) (hq : ∀ q ∈ qs, q < r.length) (hnd : qs.Nodup)
    (hX : NS w w.heap.size X qs) (hXF : ∀ ad, X = some ad → ¬ F ad.block ∧ ad.block < w.heap.size) (hx : x ∉ r.map (·.id)) (hn : n ≤ 5000) (hkl : ∀ y ∈ r, y.ks.length ≤ 5000) (hml : m ≤ 5000) (hd : ∀ k, topP r qs k ≤ 5000) :
    Calls Try.prog 40 #[.pointer (some ⟨p, 0, none⟩), .string (text x), .slice X m d] w fun e w' => e = .returned (.tuple #[]) ∧ ∃ F' A' c' mv' r', Hid (PM w' p F' A' (n + 1) c' mv' (r' ++ [⟨x, X, d, qs, none, 0, [], topP r qs m + 1⟩])) ∧ Hid (KR r r' qs n) ∧ Hid (Turns w w' F F') := by
  have c0 := h.blk.cell 0
  simp only [List.getElem?_toArray, List.getElem?_cons_zero] at c0
  obtain ⟨I, hI⟩ : ∃ I, I = r.map (·.id) := ⟨_, rfl⟩
  have hP : PMI w p F A n c mv I r := by rw [hI]; exact h
  have HI := Lib.hid hI
  have HX : Hid (0 < qs.length → ∃ b off, X = some ⟨b, off, none⟩ ∧ (¬ F b ∧ b < w.heap.size) ∧ ∀ k, k < qs.length → w.cell? ⟨b, off + k, none⟩ = some (.int .i64 (qs.getD k 0 : Nat))) := fun hh => by
    obtain ⟨b, off, e, _, hc⟩ := hX.at_ hh
    exact ⟨b, off, e, hXF _ e, hc⟩
  have HM := Lib.hid hm
  have HQ : Hid (∀ k, k < qs.length → qs.getD k 0 < r.length ∧ qs.getD k 0 ∉ qs.take k) := fun k hk => by
    have e : qs.getD k 0 = qs[k] := by rw [List.getD, List.getElem?_eq_getElem hk]; rfl
    rw [e]
    refine ⟨hq _ (List.getElem_mem hk), fun hh => ?_⟩
    rw [List.mem_take_iff_getElem] at hh
    obtain ⟨j, hj, e2⟩ := hh
    have hjk : j < k := by omega
    exact (List.pairwise_iff_getElem.1 (List.nodup_iff_pairwise_ne.1 hnd) j k (by omega) hk hjk) e2
  have HXN := Lib.hid hX
  have HXF := Lib.hid hXF
  have HP := Lib.hid hP
  have HL := Lib.hid h.len
  have HKL : Hid (∀ i, i < r.length → (r.getD i nP).ks.length ≤ 5000) := fun i hi => hkl _ (getD_mem hi)
  have HD := Lib.hid hd
  have HNx := Lib.hid hx
  clear hP hI hX hXF hm hq hnd h hkl hd hx
  obtain ⟨t, ht⟩ : ∃ t, t = text x := ⟨_, rfl⟩
  rw [← ht]
  have HT := Lib.hid ht
  clear ht
  go_enter Try.func40, Try.ntmps40
  go_wp2
  go_loopw [7, 9, 10, 18] (fun v v9 v10 i wr => ∃ (k y : Nat) (rk : List NdP) (Fk : Nat → Prop), k ≤ m ∧ v = .int .i64 (y : Int) ∧ i = .int .i64 (k : Int) ∧ Hid (y = topP r qs k) ∧ Hid (PMI wr p Fk A n c mv I rk) ∧ Hid (KR r rk (qs.take k) n) ∧ Hid (Turns w wr F Fk)) (fun _ _ _ i _ => m - (intOf i).toNat)
  case atStart => exact ⟨0, 0, r, F, Nat.zero_le _, rfl, rfl, rfl, HP.out, KR.start r n, Turns.refl _ _⟩
  case round =>
    obtain ⟨k, y, rk, Fk, hk, rfl, rfl, HY, HPk, HK, HTu⟩ := hrel
    by_cases hlt : k < m
    · have hkl : k < qs.length := by have := HM.out; omega
      obtain ⟨xb, xo, rfl, hxb, hxc⟩ := HX.out (by omega)
      obtain ⟨hqr, hqn⟩ := HQ.out k hkl
      have cx := (HTu.out.cell (p := ⟨xb, xo + k, none⟩) hxb.2 hxb.1).trans (hxc k hkl)
      have HTk : Hid (qs.take (k + 1) = qs.take k ++ [qs.getD k 0]) := by
        show _ = _
        rw [List.take_succ_eq_append_getElem hkl, List.getD, List.getElem?_eq_getElem hkl]
        rfl
      have HY1 : Hid (max y (r.getD (qs.getD k 0) nP).d = topP r qs (k + 1)) := by show _ = max _ _; rw [HY.out]
      obtain ⟨q, hq⟩ : ∃ q, q = qs.getD k 0 := ⟨_, rfl⟩
      rw [← hq] at cx hqr hqn HTk HY1
      have hqk : q < rk.length := by rw [HK.out.len]; exact hqr
      have HQK := Lib.hid hqk
      have HSt := Lib.hid (fun kA kc => HK.out.step (kA := kA) (kc := kc) hqr hqn)
      have c0k := HPk.out.blk.cell 0
      simp only [List.getElem?_toArray, List.getElem?_cons_zero] at c0k
      obtain ⟨nb, noff, hA, hz0, hnb, hnc⟩ := HPk.out.at_ (by omega)
      obtain ⟨-, -, c2, c3⟩ := hnc q hqk
      have hown := HPk.out.kids _ (getD_mem hqk)
      have hdk : (rk.getD q nP).d = (r.getD q nP).d := (HK.out.same q hqr).2.2.2.2
      have hks : (rk.getD q nP).ks = (r.getD q nP).ks := by
        have := HK.out.ks q hqr
        rwa [if_neg hqn, List.append_nil] at this
      have hkl2 := HKL.out q hqr
      rw [hdk] at c3
      obtain ⟨dd, hdd⟩ : ∃ dd, dd = (r.getD q nP).d := ⟨_, rfl⟩
      rw [← hdd] at c3 HY1
      have hnfr : wr.frozen? ⟨nb, noff + q * 4 + 2, none⟩ = false := by
        have hrow := HPk.out.row
        rw [hA, hz0] at hrow
        obtain ⟨_, csb, hcb⟩ := own_lt hrow (k := nb) rfl
        exact hcb.frozen _
      have hne : (Value.slice (rk.getD q nP).kA (rk.getD q nP).ks.length (rk.getD q nP).kc).ownBlock ≠ some nb := fun e => by
        have hrow := HPk.out.row
        rw [hA, hz0] at hrow
        exact own_ne2 hown hrow (by decide) e rfl
      obtain ⟨kA, hkA⟩ : ∃ kA, (rk.getD q nP).kA = kA := ⟨_, rfl⟩
      obtain ⟨kc, hkc⟩ : ∃ kc, (rk.getD q nP).kc = kc := ⟨_, rfl⟩
      obtain ⟨ks, hks2⟩ : ∃ ks, (rk.getD q nP).ks = ks := ⟨_, rfl⟩
      rw [← hks, hks2] at hkl2
      rw [hkA, hkc, hks2] at c2 hown hne
      obtain ⟨kl, hkl3⟩ : ∃ kl, kl = ks.length := ⟨_, rfl⟩
      rw [← hkl3] at c2 hown hne hkl2
      have HPf := Lib.hid (fun (w1 : World) (A' : Option Addr) (c' : Nat) => HPk.out.kid2 (w1 := w1) (A' := A') (c' := c') (z := n) hqk hA hz0 hkA hkc hks2 hkl3)
      have u0 : (0 : Int) ≤ (k : Int) := by omega
      have u1 : (k : Int) < (m : Int) := by omega
      have u2 : (0 : Int) ≤ (q : Int) := by omega
      have u3 : (q : Int) < (n : Int) := by have := HL.out; omega
      have HOw := Lib.hid hown
      have HNe := Lib.hid hne
      have HAd := Lib.hid hA
      have hyb : y ≤ 5000 := by have := HD.out k; rw [← HY.out] at this; exact this
      subst hA
      clear hkl3 hks2 hkc hkA hdd hdk hks hnc hnb hz0 hqk hqr hqn hq hxc hxb hkl hown hne c0 HX HQ HP
      go_wp2_with (at_builtin; refine append_kid rfl (.tmp 32) (.tmp 34) rfl rfl HOw.out rfl rfl (by omega) ?_; intro A7 c7 w7 ho7 hg7 hat7; have e2 := (hg7.out.cell c2 (fun e => HNe.out e.symm)); have e3 := (hg7.out.cell c3 (fun e => HNe.out e.symm)); have e4 : w7.frozen? ⟨nb, noff + q * 4 + 2, none⟩ = false := (World.frozen?_of_block (hg7.out.block nb (World.block_lt_of_cell? _ _ c2) (fun e => HNe.out e.symm))).trans hnfr)
      obtain ⟨F2, hP2, hT2⟩ := HPf.out w7 A7 c7 ho7.out hg7.out hat7.out
      go_roundw
      case rel => exact ⟨k + 1, max y dd, _, F2, by omega, by congr 1; omega, by go_num, HY1.out, hP2, by rw [HTk.out]; exact HSt.out A7 c7, HTu.out.trans hT2⟩
      case measure => simp [intOf]; omega
    · have hkm : k = m := by omega
      subst hkm
      have hqt : qs.take k = qs := by rw [HM.out, List.take_length]
      rw [hqt] at HK
      have c0k := HPk.out.blk.cell 0
      have c1k := HPk.out.blk.cell 1
      simp only [List.getElem?_toArray, List.getElem?_cons_zero, List.getElem?_cons_succ] at c0k c1k
      have HIr : Hid (I ++ [x] = (rk ++ [(⟨x, X, d, qs, none, 0, [], topP r qs k + 1⟩ : NdP)]).map (·.id)) := by
        show _ = _
        rw [List.map_append, HI.out]
        congr 1
        refine List.ext_getElem (by rw [List.length_map, List.length_map, HK.out.len]) fun i h1 h2 => ?_
        rw [List.length_map] at h1 h2
        have h3 := (HK.out.same i h1).1
        rw [List.getD, List.getD, List.getElem?_eq_getElem h1, List.getElem?_eq_getElem h2] at h3
        rw [List.getElem_map, List.getElem_map]
        exact h3.symm
      have HIl : Hid ((n : Int) = (I.length : Int)) := by show _ = _; rw [HI.out, List.length_map, HL.out]
      have HNI : Hid (x ∉ I) := by show ¬ _; rw [HI.out]; exact HNx.out
      have hND : ndp ⟨x, X, d, qs, none, 0, [], topP r qs k + 1⟩ = [.string t, .slice X k d, .slice none 0 0, .int .i64 ((y : Int) + 1)] := by
        unfold ndp
        rw [HT.out, HM.out, HY.out, ← HM.out]
        simp
      have HND := Lib.hid hND
      have hXr : NS wr wr.heap.size X qs := (Reads.turns HXN.out (Nat.le_refl _) HTu.out (fun ad e => (HXF.out ad e).1)).more HTu.out.size
      have hXf : ∀ ad, X = some ad → ¬ Fk ad.block ∧ ad.block < wr.heap.size := fun ad e => ⟨fun hk => by
        rcases HTu.out.foot _ hk with h1 | h1
        · exact (HXF.out ad e).1 h1
        · have := (HXF.out ad e).2
          omega, Nat.lt_of_lt_of_le (HXF.out ad e).2 HTu.out.size⟩
      have HNd := Lib.hid (fun (w1 : World) (A' : Option Addr) (c' : Nat) => HPk.out.node (w1 := w1) (A' := A') (c' := c') ⟨x, X, d, qs, none, 0, [], topP r qs k + 1⟩ ⟨rfl, rfl, rfl⟩ hXr hXf)
      have HBp := Lib.hid (fun (w1 : World) (hg : wr.grownBy w1 (Value.slice A n c).ownBlock) => (show Blk w1 p 61 #[.slice A n c, mv] from HPk.out.blk.grown hg (fun e => own_blk_ne HPk.out.row HPk.out.blk (by decide) e.symm)))
      have HRow := Lib.hid HPk.out.row
      have hyb : y ≤ 5000 := by have := HD.out k; rw [← HY.out] at this; exact this
      have hmm := @run_makeMap Try.prog
      have hmn := fun (W : World) (o : Option Nat) => run_eql_map_nil_sl (P := Try.prog) W 59 _ _ o Try.underlying59
      have HMp := Lib.hid HPk.out.map
      clear hXr hXf hND hqt HX HQ HP c0
      rcases HMp.out with ⟨rfl, hIn⟩ | ⟨mb, rfl, hMA⟩
      · have HIn := Lib.hid hIn
        have HIz : Hid ((n : Int) = (([] : List Bs).length : Int)) := by have := HIl.out; rw [hIn] at this; exact this
        clear hIn
        go_wp2_with (first
          | (at_builtin; refine append_node rfl (.tmp 49) (.tmp 55) rfl rfl HRow.out HND.out rfl (by omega) ?_; intro A7 c7 w7 ho7 hg7 hat7; have hB7 := HBp.out w7 hg7.out; have e0 := hB7.cell 0; have e1 := hB7.cell 1; have ef := hB7.frozen; have el := hB7.lt; simp only [List.getElem?_toArray, List.getElem?_cons_zero, List.getElem?_cons_succ] at e0 e1; have HN7 := Lib.hid (HNd.out w7 A7 c7 ho7.out hg7.out hat7.out); clear hB7)
          | (at_mapUpdate; have HN8 := HN7.out.1.mapNew2 rfl (k := w7.heap.size) (by simp [World.setCell]); obtain ⟨F8, HN8, HT8⟩ := HN8; refine wpList_mapNew rfl (.tmp 71) (.tmp 72) (.tmp 73) rfl (HN8.map.block rfl) (I := []) (List.not_mem_nil) HT.out HIz.out rfl rfl rfl ?_; intro w9 hm9 ho9))
        go_end0
        obtain ⟨hQ, hQT⟩ := HN8.mapPut hm9.out ho9.out
        have hIx : [] ++ [x] = I ++ [x] := by rw [HIn.out]
        rw [hIx, HIr.out] at hQ
        exact ⟨rfl, _, A7, c7, _, rk, hQ, HK, ((HTu.out.trans HN7.out.2).trans HT8).trans hQT⟩
      · clear hMA
        go_wp2_with (first
          | (at_builtin; refine append_node rfl (.tmp 49) (.tmp 55) rfl rfl HRow.out HND.out rfl (by omega) ?_; intro A7 c7 w7 ho7 hg7 hat7; have hB7 := HBp.out w7 hg7.out; have e0 := hB7.cell 0; have e1 := hB7.cell 1; have ef := hB7.frozen; have el := hB7.lt; simp only [List.getElem?_toArray, List.getElem?_cons_zero, List.getElem?_cons_succ] at e0 e1; have HN7 := Lib.hid (HNd.out w7 A7 c7 ho7.out hg7.out hat7.out); clear hB7)
          | (at_mapUpdate; refine wpList_mapNew rfl (.tmp 71) (.tmp 72) (.tmp 73) rfl (HN7.out.1.map.block rfl) HNI.out HT.out HIl.out rfl rfl rfl ?_; intro w9 hm9 ho9))
        go_end0
        obtain ⟨hN, hNT⟩ := HN7.out
        obtain ⟨hQ, hQT⟩ := hN.mapPut hm9.out ho9.out
        rw [HIr.out] at hQ
        exact ⟨rfl, _, A7, c7, _, rk, hQ, HK, (HTu.out.trans hNT).trans hQT⟩
end Go.Proofs.Ytbeihiokjhfepaa
