/- Lemmas under the proofs of this place: WalMem, WalLive, DiskPSmall, SectBoth, Gen9, CurAt. No statement is proved here. -/
import Derived.Test.YtghenhacndaelaaGreatBu07
import Derived.Test.YtghenhacndaelaaGreatBu03
import Derived.Test.YtghenhacndaelaaGreatBu01
import Derived.Test.YtghenhacndaelaaGreatBu05
import Derived.Test.YtghenhacndaelaaGreatBu02
import Derived.Laws.LoneSync
import Derived.IntWalk
import Derived.Deep.QuietTactic
import Derived.BigQuiet
import Derived.Lib.SliceRun
import Derived.Lib.SmallJoins
import Derived.Laws.OwnMore
set_option linter.unusedSimpArgs false
set_option linter.unusedVariables false
set_option maxRecDepth 100000
set_option maxHeartbeats 16000000
namespace Go.Proofs.YtghenhacndaelaaGreat
section
open Go.RowKit
def BL (w : World) (P : Nat → Prop) (A : Option Addr) (l : List (List UInt8)) : Prop :=
  0 < l.length → ∃ b off, A = some ⟨b, off, none⟩ ∧ b < w.heap.size ∧ P b ∧ ∀ i (hi : i < l.length), ∃ dA dc, RB w w.heap.size dA l[i] ∧ (∀ ad, dA = some ad → P ad.block ∧ ad.block < w.heap.size) ∧ w.cell? ⟨b, off + i, none⟩ = some (.slice dA l[i].length dc)
section
variable {w w' : World} {P P' : Nat → Prop} {A : Option Addr} {l : List (List UInt8)}
theorem BL.turns {E E' : Nat → Prop} (h : BL w P A l) (ht : Turns w w' E E') (hn : ∀ k, P k → k < w.heap.size → ¬ E k) : BL w' P A l := fun h0 => by
  obtain ⟨b, off, e, hlt, hp, hc⟩ := h h0
  refine ⟨b, off, e, Nat.lt_of_lt_of_le hlt ht.size, hp, fun i hi => ?_⟩
  obtain ⟨dA, dc, h1, h2, h3⟩ := hc i hi
  exact ⟨dA, dc, (Reads.turns h1 (Nat.le_refl _) ht fun ad e => hn _ (h2 ad e).1 (h2 ad e).2).more ht.size, fun ad e => ⟨(h2 ad e).1, Nat.lt_of_lt_of_le (h2 ad e).2 ht.size⟩, (ht.cell (p := ⟨b, off + i, none⟩) hlt (hn b hp hlt)).trans h3⟩
theorem BL.wide (h : BL w P A l) (hP : ∀ k, P k → P' k) : BL w P' A l := fun h0 => by
  obtain ⟨b, off, e, hlt, hp, hc⟩ := h h0
  refine ⟨b, off, e, hlt, hP b hp, fun i hi => ?_⟩
  obtain ⟨dA, dc, h1, h2, h3⟩ := hc i hi
  exact ⟨dA, dc, h1, fun ad e => ⟨hP _ (h2 ad e).1, (h2 ad e).2⟩, h3⟩
theorem BL.up (h : BL w P A l) (hb : Below w.heap.size w w') : BL w' P A l := h.turns (Turns.of_below hb (fun _ => False)) (fun _ _ _ h => h)
theorem BL.nil : BL w P A [] := fun h => absurd h (by simp)
end
def rowT (r : List (List UInt8 × Option Addr × Nat)) : List Value := r.map fun x => .slice x.2.1 x.1.length x.2.2
theorem rowT_snoc (r : List (List UInt8 × Option Addr × Nat)) (x : List UInt8 × Option Addr × Nat) : rowT (r ++ [x]) = rowT r ++ [.slice x.2.1 x.1.length x.2.2] := by simp [rowT]
theorem rowT_one (A : Option Addr) (n c : Nat) : ∀ u ∈ [Value.slice A n c], u.oneCell' = true := fun u hu => by
  rw [List.mem_singleton] at hu; subst hu; rfl
theorem own_blk13 {w : World} {base : Nat} {A : Option Addr} {L : List UInt8} {c : Nat} (h : Own w base A L c) : ∀ ad, A = some ad → base ≤ ad.block ∧ ad.block < w.heap.size := fun ad e => by
  rcases h.2 with ⟨h1, _⟩ | ⟨g, cap, cur, h1, hb, hg, _⟩
  · simp only [Value.slice.injEq] at h1
    rw [h1.1] at e; cases e
  · simp only [Value.slice.injEq] at h1
    rw [h1.1] at e
    injection e with e
    subst e
    exact ⟨hb, Blk.lt (t := 5) hg⟩
theorem BL.of_own {w : World} {base n c : Nat} {A : Option Addr} {r : List (List UInt8 × Option Addr × Nat)} (h : w.ownsRow base 39 1 (.slice A n c) n (rowT r)) (hn : n = r.length) (hr : ∀ x ∈ r, Own w base x.2.1 x.1 x.2.2) : BL w (fun k => base ≤ k) A (r.map (·.1)) := fun h0 => by
  subst hn
  rw [List.length_map] at h0
  rcases h.2 with ⟨_, h1⟩ | ⟨k, cap, cur, he, h2, h3, _⟩
  · omega
  · simp only [Value.slice.injEq] at he
    obtain ⟨rfl, -, rfl⟩ := he
    have hc := World.ownsRow.cells h (g := k) rfl
    have ea : ∀ j, (⟨k, 0, none⟩ : Addr).add j = ⟨k, j, none⟩ := fun j => by unfold Addr.add; split <;> simp_all
    refine ⟨k, 0, rfl, Blk.lt (t := 39) h3, h2, fun i hi => ?_⟩
    rw [List.length_map] at hi
    have g0 : (rowT r)[i]? = some (.slice (r[i]).2.1 (r[i]).1.length (r[i]).2.2) := by unfold rowT; rw [List.getElem?_map, List.getElem?_eq_getElem hi]; rfl
    have c0 := hc _ _ g0
    rw [ea] at c0
    simp only [Nat.zero_add, List.getElem_map]
    exact ⟨r[i].2.1, r[i].2.2, own_rb (hr _ (List.getElem_mem hi)), own_blk13 (hr _ (List.getElem_mem hi)), c0⟩
theorem text_src (w : World) (v0 : Value) (t : TypeId) : Reads (w.alloc (.cells #[v0] t)) (w.heap.size + 1) 1 (some ⟨w.heap.size, 0, none⟩) 1 [v0] := by
  refine ⟨rfl, fun _ => ⟨_, rfl, by simp, fun j u hu => ?_⟩⟩
  rw [add_at]
  have h0 : Blk (w.alloc (.cells #[v0] t)) w.heap.size t #[v0] := Blk.new w t _
  rw [Nat.zero_add, h0.cell]
  simpa using hu
theorem own_apart13 {w : World} {b1 b2 n1 n2 s1 s2 : Nat} {t1 t2 : TypeId} {v1 v2 : Value} {x1 x2 : List Value} (h1 : w.ownsRow b1 t1 s1 v1 n1 x1) (h2 : w.ownsRow b2 t2 s2 v2 n2 x2) (ht : t1 ≠ t2) : v1.ownBlock = none ∨ v1.ownBlock ≠ v2.ownBlock := by
  rcases h1.2 with ⟨rfl, _⟩ | ⟨g, cap, cur, rfl, hb, hg, _⟩
  · exact .inl rfl
  · rcases h2.2 with ⟨rfl, _⟩ | ⟨g2, cap2, cur2, rfl, hb2, hg2, _⟩
    · exact .inr (by simp [Value.ownBlock])
    · refine .inr (fun e => ?_)
      have e2 : g = g2 := by simpa [Value.ownBlock] using e
      subst e2
      rw [hg] at hg2
      injection hg2 with h3
      injection h3 with _ h4
      exact ht h4
end
section
structure Lg where
  frm : Nat
  n : Nat
  epoch : Int
  b : List UInt8
  gone : Bool
namespace Wal
def used (l : Lg) : Nat := l.b.length / 64
def writesW (frm : Nat) (all : List UInt8) : Nat → Nat → Dk → Dk × Int
  | 0, _, d => (d, 0)
  | m + 1, k, d => if (d.write ((frm + k : Nat) : Int) (blkW all k)).2 = 0 then writesW frm all m (k + 1) (d.write ((frm + k : Nat) : Int) (blkW all k)).1 else d.write ((frm + k : Nat) : Int) (blkW all k)
def appendW (d : Dk) (l : Lg) (t : List UInt8) : Dk × Lg × Int :=
  if l.gone = true then (d, l, 8) else if needN t.length = 0 then (d, l, 1) else if l.n - used l < needN t.length then (d, l, 2) else
  let all := allW l.b (recBytes (used l) l.epoch t)
  let w := writesW l.frm all (all.length / 256 - used l / 4) (used l / 4) d
  if w.2 ≠ 0 then (w.1, { l with gone := true }, w.2) else
  if w.1.flush.2 ≠ 0 then (w.1.flush.1, { l with gone := true }, w.1.flush.2) else (w.1.flush.1, { l with b := l.b ++ recBytes (used l) l.epoch t }, 0)
end Wal
end
section
open Go.RowKit
theorem Tryz.dIsNil (g : Nat) (w : World) : Sem.run Tryz.prog (binOp BinOp.eql 25 (Value.pointer (some ⟨g, 0, none⟩)) (Value.pointer none)) w = Result.ok (Value.bool false) w := by kernel_rfl
theorem Tryz.dNilIs (w : World) : Sem.run Tryz.prog (binOp BinOp.eql 25 (Value.pointer none) (Value.pointer none)) w = Result.ok (Value.bool true) w := by kernel_rfl
section
variable {w w' : World} {g : Nat} {F F' : Nat → Prop} {d : Dk} {a ca b cb n : Nat} {V : Value} {ends : Bool} {lf : Int}
theorem PD.c0 (h : PD w g F d a ca b cb n V ends lf) : w.cell? ⟨g, 0, none⟩ = some (.slice (some ⟨a, 0, none⟩) n ca) := by rw [h.blk.cell]; rfl
theorem PD.c1 (h : PD w g F d a ca b cb n V ends lf) : w.cell? ⟨g, 1, none⟩ = some (.slice (some ⟨b, 0, none⟩) n cb) := by rw [h.blk.cell]; rfl
theorem PD.c2 (h : PD w g F d a ca b cb n V ends lf) : w.cell? ⟨g, 2, none⟩ = some V := by rw [h.blk.cell]; rfl
theorem PD.c3 (h : PD w g F d a ca b cb n V ends lf) : w.cell? ⟨g, 3, none⟩ = some (.bool d.off) := by rw [h.blk.cell]; rfl
theorem PD.c4 (h : PD w g F d a ca b cb n V ends lf) : w.cell? ⟨g, 4, none⟩ = some (.bool ends) := by rw [h.blk.cell]; rfl
theorem PD.c5 (h : PD w g F d a ca b cb n V ends lf) : w.cell? ⟨g, 5, none⟩ = some (.int .i64 lf) := by rw [h.blk.cell]; rfl
theorem PD.c6 (h : PD w g F d a ca b cb n V ends lf) : w.cell? ⟨g, 6, none⟩ = some (.int .i64 (d.reads : Int)) := by rw [h.blk.cell]; rfl
theorem PD.c7 (h : PD w g F d a ca b cb n V ends lf) : w.cell? ⟨g, 7, none⟩ = some (.int .i64 (d.writes : Int)) := by rw [h.blk.cell]; rfl
theorem PD.c8 (h : PD w g F d a ca b cb n V ends lf) : w.cell? ⟨g, 8, none⟩ = some (.int .i64 (d.flushes : Int)) := by rw [h.blk.cell]; rfl
theorem PD.fz (h : PD w g F d a ca b cb n V ends lf) (k : Nat) : w.frozen? ⟨g, k, none⟩ = false := h.blk.frozen k
theorem PD.vform (h : PD w g F d a ca b cb n V ends lf) : ∃ A c, V = .slice A d.waits.length c ∧ d.waits.length ≤ c ∧ c ≤ 9223372036854775807 := by
  rcases h.wait.2 with ⟨rfl, h0⟩ | ⟨k, cap, cur, rfl, h2, h3, h4, h5, _⟩
  · exact ⟨none, 0, by rw [h0], by omega, by omega⟩
  · exact ⟨_, _, rfl, h4, h5⟩
end
theorem fits_any (i : Int) (w : World) : Calls Tryz.prog 24 #[.int .i64 i] w fun e w' => e = .returned (.bool (decide (16 ≤ i ∧ i ≤ 1024))) ∧ w = w' := by
  by_cases h1 : 16 ≤ i
  · by_cases h2 : i ≤ 1024
    · have HV : Hid (decide (16 ≤ i ∧ i ≤ 1024) = true) := decide_eq_true ⟨h1, h2⟩
      have d1 : decide (i ≥ 16) = true := decide_eq_true h1
      have d2 : decide (i ≤ 1024) = true := decide_eq_true h2
      go_enter Tryz.func24, Tryz.ntmps24
      go_wp2
      go_ret
      exact ⟨by first | rfl | (rw [HV.out]; rfl), rfl⟩
    · have HV : Hid (decide (16 ≤ i ∧ i ≤ 1024) = false) := decide_eq_false fun h => h2 h.2
      have d1 : decide (i ≥ 16) = true := decide_eq_true h1
      have d2 : decide (i ≤ 1024) = false := decide_eq_false h2
      go_enter Tryz.func24, Tryz.ntmps24
      go_wp2
      go_ret
      exact ⟨by first | rfl | (rw [HV.out]; rfl), rfl⟩
  · have HV : Hid (decide (16 ≤ i ∧ i ≤ 1024) = false) := decide_eq_false fun h => h1 h.1
    have d1 : decide (i ≥ 16) = false := decide_eq_false h1
    have d2 : decide ((16 : Int) ≤ i) = false := decide_eq_false h1
    go_enter Tryz.func24, Tryz.ntmps24
    go_wp2
    go_ret
    exact ⟨by first | rfl | (rw [HV.out]; rfl), rfl⟩
theorem sclone_some (L : List UInt8) (ad : Addr) (c B : Nat) (w : World) (hr : RB w B (some ad) L) (hl : L.length ≤ 140737488351232) :
    Calls Tryz.prog 51 #[.slice (some ad) L.length c] w (GivesOne L w) := by
  obtain ⟨i0, hi0, hz0, hz1, hz2⟩ := info_parts Tryz.info5
  have hr := rb_lt hr
  have hn : (binOp .eql 39 (.slice (some ad) L.length c) (.slice none 0 0)).run Tryz.prog w = .ok (.bool false) w := Lib.run_eql_slice_nil w 39 5 (some ad) L.length c 0 0 Tryz.underlying39
  go_enter Tryz.func51, Tryz.ntmps51
  go_wp2_with (at_builtin; refine wpList_append_any _ rfl (.tmp 5) (.tmp 6) _ rfl w.heap.size 5 i0 _ 1 1 Tryz.underlying39 hi0 hz0 hz1 hz2 rfl (by omega) (.slice (some ⟨w.heap.size, 0, none⟩) 0 0) 0 [] rfl (World.ownsRow_made w #[] 0 (Nat.le_refl _) (by decide) rfl) w.heap.size (some ad) L.length c (cells L) rfl (hr.alloc (Nat.le_refl _) _) (cells_one _) (by simp only [maxLen]; omega) (by omega) (by simp) ?_; intro v5 w5 ho5 hg5 hat5; simp only [Nat.zero_add, List.nil_append] at ho5; have hb5 : Below w.heap.size w w5 := ((Below.refl _ _).alloc (Nat.le_refl _) _).grown hg5 (by simp) (by simp [Value.ownBlock]))
  obtain ⟨A3, c3, hv⟩ := own_form ho5
  go_ret
  exact ⟨A3, c3, by rw [hv]; rfl, by rw [hv] at ho5; exact ho5, hb5⟩
theorem sclone_none (n c : Nat) (w : World) : Calls Tryz.prog 51 #[.slice none n c] w fun e w' => e = .returned (.slice none 0 0) ∧ w = w' := by
  have hn : (binOp .eql 39 (.slice none n c) (.slice none 0 0)).run Tryz.prog w = .ok (.bool true) w := Lib.run_eql_slice_nil w 39 5 none n c 0 0 Tryz.underlying39
  go_enter Tryz.func51, Tryz.ntmps51
  go_wp2
  go_ret
  exact ⟨rfl, rfl⟩
theorem sclone_any (L : List UInt8) (A : Option Addr) (c B : Nat) (w : World) (hr : RB w B A L) (hl : L.length ≤ 140737488351232) :
    Calls Tryz.prog 51 #[.slice A L.length c] w (GivesOne L w) := by
  rcases A with _ | ad
  · have hL : L = [] := by
      rcases L with _ | ⟨x, L⟩
      · rfl
      · obtain ⟨ad, h, _⟩ := hr.2 (by simp)
        cases h
    subst hL
    refine (sclone_none _ c w).mono fun e w' h => ?_
    obtain ⟨he, rfl⟩ := h
    exact ⟨none, 0, he, World.ownsRow_nil _ _ _ _, Below.refl _ _⟩
  · exact sclone_some L ad c B w hr hl
theorem blocks_core (g a n ca m : Nat) (w : World) (h0 : w.cell? ⟨g, 0, none⟩ = some (.slice (some ⟨a, 0, none⟩) n ca)) (hm : n = 256 * m) (hm2 : m ≤ 1024) :
    Calls Tryz.prog 40 #[.pointer (some ⟨g, 0, none⟩)] w fun e w' => e = .returned (.int .i64 (m : Int)) ∧ w = w' := by
  have z0 := fun w' => Tryz.dIsNil g w'
  have u0 : (0 : Int) ≤ (n : Int) := by omega
  have u1 : (n : Int) ≤ 1000000 := by omega
  have e1 : (n : Int) / 256 = (m : Int) := by omega
  have e2 : (n : Int).tdiv 256 = (m : Int) := by rw [Int.tdiv_eq_ediv_of_nonneg u0]; exact e1
  clear hm
  go_enter Tryz.func40, Tryz.ntmps40
  go_wp2
  go_ret
  exact ⟨rfl, rfl⟩
theorem blocks_any {w : World} {g : Nat} {F : Nat → Prop} {d : Dk} (h : PDisk w g F d) :
    Calls Tryz.prog 40 #[.pointer (some ⟨g, 0, none⟩)] w fun e w' => e = .returned (.int .i64 (d.safe.length : Int)) ∧ w = w' := by
  obtain ⟨a, ca, b, cb, n, V, ends, lf, h⟩ := h
  exact blocks_core g a n ca d.safe.length w h.c0 h.size h.good.many
theorem block_of (a n c k : Nat) (w : World) (hk : 256 * k + 256 ≤ n) (hn : n ≤ 1000000) (hc : n ≤ c) (hcm : c ≤ 9223372036854775807) :
    Calls Tryz.prog 75 #[.slice (some ⟨a, 0, none⟩) n c, .int .i64 (k : Int)] w fun e w' => e = .returned (.slice (some ⟨a, 256 * k, none⟩) 256 (c - 256 * k)) ∧ w = w' := by
  obtain ⟨s, hs⟩ : ∃ s, s = 256 * k := ⟨_, rfl⟩
  have e1 : (k : Int) * 256 = (s : Int) := by omega
  have u0 : (0 : Int) ≤ (s : Int) := by omega
  have u1 : (s : Int) ≤ (n : Int) := by omega
  have u4 : IntKind.i64.wrap (s : Int) = (s : Int) := IntWalk.i64_in _ (by omega)
  have HS1 := fun W => sl_from a 0 n c s (s : Int) rfl (by omega) (by omega) W
  have HS2 := fun W => sl_to a (0 + s) (n - s) (c - s) 256 256 rfl (by omega) (by omega) W
  rw [Nat.zero_add] at HS1 HS2
  have HE := Lib.hid hs
  clear hk hs
  rw [← HE.out]
  go_enter Tryz.func75, Tryz.ntmps75
  go_wp2
  go_ret
  exact ⟨rfl, rfl⟩
theorem Tryz.addInt64 (a : Addr) (x y s : Int) (w : World) (hc : w.cell? a = some (.int .i64 x)) (hz : w.frozen? a = false) (hs : IntKind.i64.wrap (x + y) = s) :
    (callFunc 98 #[.pointer (some a), .int .i64 y]).run Tryz.prog w = .ok (.value (.int .i64 s)) (w.setCell a (.int .i64 s)) :=
  run_call_add Tryz.func98 (by kernel_rfl) (by kernel_rfl) (by kernel_rfl) .i64 (by kernel_rfl) hc hz (by simp [go_sem, hs])
theorem aadd_any (g k x : Nat) (w : World) (hx : x < 1000000) (hc : w.cell? ⟨g, k, none⟩ = some (.int .i64 (x : Int))) (hz : w.frozen? ⟨g, k, none⟩ = false) :
    Calls Tryz.prog 82 #[.pointer (some ⟨g, k, none⟩), .int .i64 1] w fun e w' => w' = w.setCell ⟨g, k, none⟩ (.int .i64 ((x + 1 : Nat) : Int)) ∧ e = .returned (.int .i64 ((x + 1 : Nat) : Int)) := by
  have HA := Tryz.addInt64 ⟨g, k, none⟩ (x : Int) 1 ((x + 1 : Nat) : Int) w hc hz (by rw [IntWalk.i64_in _ (by omega)]; omega)
  clear hc hz hx
  obtain ⟨y, hy⟩ : ∃ y : Int, y = ((x + 1 : Nat) : Int) := ⟨_, rfl⟩
  rw [← hy] at HA ⊢
  clear hy
  go_enter Tryz.func82, Tryz.ntmps82
  go_wp2
  go_ret
  exact ⟨rfl, rfl⟩
theorem falls_no (g : Nat) (w : World) (h4 : w.cell? ⟨g, 4, none⟩ = some (.bool false)) :
    Calls Tryz.prog 95 #[.pointer (some ⟨g, 0, none⟩)] w fun e w' => e = .returned (.bool false) ∧ w = w' := by
  have n0 := fun w' => Tryz.notFalse w'
  go_enter Tryz.func95, Tryz.ntmps95
  go_wp2
  go_ret
  exact ⟨rfl, rfl⟩
theorem falls_yes (g : Nat) (lf : Int) (o : Bool) (w : World) (hl : 0 ≤ lf ∧ lf ≤ 9223372036854775807) (h3 : w.cell? ⟨g, 3, none⟩ = some (.bool o)) (h4 : w.cell? ⟨g, 4, none⟩ = some (.bool true)) (h5 : w.cell? ⟨g, 5, none⟩ = some (.int .i64 lf))
    (f3 : w.frozen? ⟨g, 3, none⟩ = false) (f5 : w.frozen? ⟨g, 5, none⟩ = false) :
    Calls Tryz.prog 95 #[.pointer (some ⟨g, 0, none⟩)] w fun e w' => e = .returned (.bool (decide (lf = 0))) ∧ w' = (w.setCell ⟨g, 3, none⟩ (.bool (decide (lf = 0)))).setCell ⟨g, 5, none⟩ (.int .i64 (lf - 1)) := by
  have n0 := fun w' => Tryz.notTrue w'
  obtain ⟨r, hr⟩ : ∃ r, r = decide (lf = 0) := ⟨_, rfl⟩
  have e0 : (lf == 0) = r := by rw [hr]; by_cases h : lf = 0 <;> simp [h]
  obtain ⟨y, hy⟩ : ∃ y, y = lf - 1 := ⟨_, rfl⟩
  have e1 : IntKind.i64.wrap (lf - 1) = y := by rw [hy]; exact IntWalk.i64_in _ (by omega)
  rw [← hr, ← hy]
  clear hr hy hl
  go_enter Tryz.func95, Tryz.ntmps95
  go_wp2
  go_ret
  exact ⟨rfl, rfl⟩
def Dk.reach (d : Dk) (i : Int) : Int := if d.off = true then 9 else if d.there i = true then 0 else 10
theorem reach_any {w : World} {g : Nat} {F : Nat → Prop} {d : Dk} (h : PDisk w g F d) (i : Int) :
    Calls Tryz.prog 81 #[.pointer (some ⟨g, 0, none⟩), .int .i64 i] w fun e w' => e = .returned (.int .i64 (d.reach i)) ∧ w = w' := by
  have HB := Lib.hid (blocks_any h)
  obtain ⟨a, ca, b, cb, n, V, ends, lf, h⟩ := h
  have z0 := fun w' => Tryz.dIsNil g w'
  have c3 := h.c3
  obtain ⟨m, hm⟩ : ∃ m, m = d.safe.length := ⟨_, rfl⟩
  have HT : Hid (d.there i = decide (0 ≤ i ∧ i < (m : Int))) := by show _ = _; rw [hm]; rfl
  rw [← hm] at HB
  clear h hm
  cases ho : d.off with
  | true =>
    rw [ho] at c3
    have HR : Hid (d.reach i = 9) := by show _ = _; unfold Dk.reach; rw [if_pos ho]
    clear ho
    go_enter Tryz.func81, Tryz.ntmps81
    go_wp2
    go_ret
    exact ⟨by rw [HR.out]; rfl, rfl⟩
  | false =>
    rw [ho] at c3
    have HR : Hid (d.reach i = if d.there i = true then 0 else 10) := by show _ = _; unfold Dk.reach; rw [ho]; rfl
    clear ho
    by_cases h0 : i < 0
    · have HV : Hid (d.there i = false) := by rw [HT.out]; exact decide_eq_false (by omega)
      have d0 : decide (i < 0) = true := decide_eq_true h0
      go_enter Tryz.func81, Tryz.ntmps81
      go_wp2
      go_ret
      exact ⟨by rw [HR.out, HV.out]; rfl, rfl⟩
    · have d0 : decide (i < 0) = false := decide_eq_false h0
      by_cases h1 : (m : Int) ≤ i
      · have HV : Hid (d.there i = false) := by rw [HT.out]; exact decide_eq_false (by omega)
        have d1 : decide (i ≥ (m : Int)) = true := decide_eq_true h1
        have d2 : decide ((m : Int) ≤ i) = true := decide_eq_true h1
        go_enter Tryz.func81, Tryz.ntmps81
        go_wp2_with (go_at_call 40; (with_reducible refine HB.out.mono ?_); rintro e w1 ⟨rfl, rfl⟩)
        go_ret
        exact ⟨by rw [HR.out, HV.out]; rfl, rfl⟩
      · have HV : Hid (d.there i = true) := by rw [HT.out]; exact decide_eq_true (by omega)
        have d1 : decide (i ≥ (m : Int)) = false := decide_eq_false h1
        have d2 : decide ((m : Int) ≤ i) = false := decide_eq_false h1
        go_enter Tryz.func81, Tryz.ntmps81
        go_wp2_with (go_at_call 40; (with_reducible refine HB.out.mono ?_); rintro e w1 ⟨rfl, rfl⟩)
        go_ret
        exact ⟨by rw [HR.out, HV.out]; rfl, rfl⟩
end
section
open Go.RowKit
def secV (s : Sd) (A : Option Addr) (c : Nat) : Value := .agg #[.int .i64 s.kind, .int .i64 s.epoch, .int .i64 s.number, .int .i64 s.left, .slice A s.data.length c]
theorem Tryz.aggSec (w : World) : (isAgg 49).run Tryz.prog w = .ok true w := by kernel_rfl
theorem Tryz.sizeSec (w : World) : (sizeOf 49).run Tryz.prog w = .ok 5 w := by kernel_rfl
def SecAt (W : World) (g : Nat) (s : Sd) (A : Option Addr) (c : Nat) : Prop := Blk W g 49 #[.int .i64 s.kind, .int .i64 s.epoch, .int .i64 s.number, .int .i64 s.left, .slice A s.data.length c]
theorem SecAt.all {W : World} {g : Nat} {s : Sd} {A : Option Addr} {c : Nat} (h : SecAt W g s A c) : W.cell? ⟨g, 0, none⟩ = some (.int .i64 s.kind) ∧ W.cell? ⟨g, 1, none⟩ = some (.int .i64 s.epoch) ∧ W.cell? ⟨g, 2, none⟩ = some (.int .i64 s.number) ∧ W.cell? ⟨g, 3, none⟩ = some (.int .i64 s.left) ∧ W.cell? ⟨g, 4, none⟩ = some (.slice A s.data.length c) :=
  ⟨by rw [Blk.cell h]; rfl, by rw [Blk.cell h]; rfl, by rw [Blk.cell h]; rfl, by rw [Blk.cell h]; rfl, by rw [Blk.cell h]; rfl⟩
theorem SecAt.below {W W' : World} {g : Nat} {s : Sd} {A : Option Addr} {c : Nat} (h : SecAt W g s A c) (hb : Below W.heap.size W W') : SecAt W' g s A c := Blk.below h hb (Blk.lt h)
theorem Tryz.secBuild0 (w : World) : Sem.run Tryz.prog (Instr.build 49 #[]) w = .ok (.agg #[.int .i64 0, .int .i64 0, .int .i64 0, .int .i64 0, .slice none 0 0]) w := by kernel_rfl
theorem below_five {w0 W : World} {B g : Nat} (h : Below B w0 W) (hg : B ≤ g) (v0 v1 v2 v3 v4 : Value) : Below B w0 (((((W.setCell ⟨g, 0, none⟩ v0).setCell ⟨g, 1, none⟩ v1).setCell ⟨g, 2, none⟩ v2).setCell ⟨g, 3, none⟩ v3).setCell ⟨g, 4, none⟩ v4) :=
  ((((h.setCell hg _).setCell hg _).setCell hg _).setCell hg _).setCell hg _
def ResAt (W : World) (g : Nat) : Prop := (W.cell? ⟨g, 0, none⟩ = some (.int .i64 0) ∧ W.cell? ⟨g, 1, none⟩ = some (.int .i64 0) ∧ W.cell? ⟨g, 2, none⟩ = some (.int .i64 0) ∧ W.cell? ⟨g, 3, none⟩ = some (.int .i64 0) ∧ W.cell? ⟨g, 4, none⟩ = some (.slice none 0 0)) ∧ W.frozen? ⟨g, 0, none⟩ = false ∧ W.frozen? ⟨g, 1, none⟩ = false ∧ W.frozen? ⟨g, 2, none⟩ = false ∧ W.frozen? ⟨g, 3, none⟩ = false ∧ W.frozen? ⟨g, 4, none⟩ = false
theorem res_at (w W : World) (hb : Below (w.alloc (.cells #[.int .i64 0, .int .i64 0, .int .i64 0, .int .i64 0, .slice none 0 0] 49)).heap.size (w.alloc (.cells #[.int .i64 0, .int .i64 0, .int .i64 0, .int .i64 0, .slice none 0 0] 49)) W) : ResAt W w.heap.size := by
  have h0 : Blk W w.heap.size 49 #[.int .i64 0, .int .i64 0, .int .i64 0, .int .i64 0, .slice none 0 0] := Blk.below (Blk.new w _ _) hb (by simp)
  exact ⟨⟨by rw [h0.cell]; rfl, by rw [h0.cell]; rfl, by rw [h0.cell]; rfl, by rw [h0.cell]; rfl, by rw [h0.cell]; rfl⟩, h0.frozen 0, h0.frozen 1, h0.frozen 2, h0.frozen 3, h0.frozen 4⟩
theorem Tryz.secInfo : (Tryz.prog.info? 49).map (fun i => (i.zero, i.size, i.bytes)) = some (some (.agg #[.int .i64 0, .int .i64 0, .int .i64 0, .int .i64 0, .slice none 0 0]), 5, 56) := by kernel_rfl
theorem split_none {s : Sd} {t : List UInt8} (h : needN t.length = 0) : splitS s t = ([], 1) := by unfold splitS; rw [if_pos h]
theorem split_bad {s : Sd} {t : List UInt8} (hl : t.length ≤ 1000000) {i : Nat} (hi : i < needN t.length) (h : (s.part t (needN t.length) i).may = false) : splitS s t = ([], 1) := by
  have e : needN t.length = (t.length + 47) / 48 := rfl
  unfold splitS
  rw [if_neg (by omega), if_neg (by omega), if_neg]
  intro hh
  have := List.all_eq_true.1 hh i (List.mem_range.2 hi)
  rw [h] at this
  cases this
theorem split_ok {s : Sd} {t : List UInt8} (hl : t.length ≤ 1000000) (h0 : needN t.length ≠ 0) (h : ∀ i, i < needN t.length → (s.part t (needN t.length) i).may = true) : splitS s t = ((List.range (needN t.length)).map (s.part t (needN t.length)), 0) := by
  have e : needN t.length = (t.length + 47) / 48 := rfl
  unfold splitS
  rw [if_neg h0, if_neg (by omega), if_pos]
  exact List.all_eq_true.2 fun i hi => h i (List.mem_range.1 hi)
theorem rowC_five (k e n l : Int) (A : Option Addr) (m c : Nat) : ∀ u ∈ [Value.int .i64 k, .int .i64 e, .int .i64 n, .int .i64 l, .slice A m c], u.oneCell' = true := fun u hu => by
  simp only [List.mem_cons, List.not_mem_nil, or_false] at hu
  rcases hu with rfl | rfl | rfl | rfl | rfl <;> rfl
def Cut (W : World) (s : Sd) (t : List UInt8) (i : Nat) (rows : List (Sd × Option Addr × Nat)) : Prop :=
  rows.length = i ∧ rows.map (·.1) = (List.range i).map (s.part t (needN t.length)) ∧ (∀ j, j < i → (s.part t (needN t.length) j).may = true) ∧ ∀ x ∈ rows, RB W W.heap.size x.2.1 x.1.data
theorem Cut.snoc {W : World} {s : Sd} {t : List UInt8} {i : Nat} {rows : List (Sd × Option Addr × Nat)} (h : Cut W s t i rows) (hm : (s.part t (needN t.length) i).may = true) {A : Option Addr} {c : Nat} (hr : RB W W.heap.size A (s.part t (needN t.length) i).data) : Cut W s t (i + 1) (rows ++ [(s.part t (needN t.length) i, A, c)]) := by
  refine ⟨by simp [h.1], by rw [List.map_append, h.2.1, List.range_succ, List.map_append]; rfl, fun j hj => ?_, fun x hx => ?_⟩
  · by_cases h1 : j < i
    · exact h.2.2.1 j h1
    · have : j = i := by omega
      rw [this]; exact hm
  · rcases List.mem_append.1 hx with h1 | h1
    · exact h.2.2.2 x h1
    · rw [List.mem_singleton] at h1
      subst h1
      exact hr
end
section
open Go.RowKit
def No8 (cs : Array Value) : Prop := ∀ (j : Nat) (z : Int), cs[j]? ≠ some (.int .u8 z)
theorem no8_cur (A : Option Addr) (n c : Nat) (b : Bool) : No8 #[.slice A n c, .bool b] := fun j z => cur_cells A n c b j _ z
theorem rb_ne8 {w : World} {B g : Nat} {t : TypeId} {A : Option Addr} {L : List UInt8} {cs : Array Value} (h : RB w B A L) (hg : Blk w g t cs) (hcs : No8 cs) (hn : 0 < L.length) : ∀ ad, A = some ad → ad.block ≠ g := fun ad e => by
  obtain ⟨b, off, rfl, hb, hc⟩ := RB.at_ h hn
  injection e with e
  subst e
  rintro rfl
  have h0 := hc 0 hn
  rw [Nat.add_zero, (blk_cell hg off).1] at h0
  exact hcs _ _ h0
theorem rb_only8 {w w' : World} {g : Nat} {t : TypeId} {A : Option Addr} {L : List UInt8} {cs : Array Value} (h : RB w w.heap.size A L) (hg : Blk w g t cs) (hcs : No8 cs) (ho : Only w w' g) : RB w' w'.heap.size A L := by
  refine ⟨h.1, fun hn => ?_⟩
  obtain ⟨ad, e, hb, hc⟩ := h.2 hn
  have hne := rb_ne8 h hg hcs hn ad e
  refine ⟨ad, e, Nat.lt_of_lt_of_le hb ho.size, fun j u hu => ?_⟩
  rw [World.cell?_of_block (ho.block (ad.add j).block (by rw [block_of_add]; exact hb) (by rw [block_of_add]; simp; exact hne))]
  exact hc j u hu
theorem rb_set8 {w : World} {g i : Nat} {t : TypeId} {A : Option Addr} {L : List UInt8} {cs : Array Value} (h : RB w w.heap.size A L) (hg : Blk w g t cs) (hcs : No8 cs) (u : Value) : RB (w.setCell ⟨g, i, none⟩ u) (w.setCell ⟨g, i, none⟩ u).heap.size A L := rb_only8 h hg hcs (only_set _ _ _ _)
theorem cur_blk {w : World} {g : Nat} {st : Option (List UInt8)} (h : Cur w g st) : ∃ A n c b, Blk w g 143 #[.slice A n c, .bool b] := by
  rcases st with _ | L
  · exact ⟨_, _, _, _, h⟩
  · obtain ⟨A, c, h, _⟩ := h
    exact ⟨_, _, _, _, h⟩
theorem cur_only8 {w w' : World} {g k : Nat} {t : TypeId} {cs : Array Value} {st : Option (List UInt8)} (h : Cur w g st) (hk : Blk w k t cs) (hcs : No8 cs) (hne : g ≠ k) (ho : Only w w' k) : Cur w' g st := by
  rcases st with _ | L
  · exact Blk.only (t := 143) h ho hne
  · obtain ⟨A, c, hb, hr, hc, hl⟩ := h
    exact ⟨A, c, Blk.only (t := 143) hb ho hne, rb_only8 hr hk hcs ho, hc, hl⟩
theorem cur_set8 {w : World} {g k i : Nat} {t : TypeId} {cs : Array Value} {st : Option (List UInt8)} (h : Cur w g st) (hk : Blk w k t cs) (hcs : No8 cs) (hne : g ≠ k) (u : Value) : Cur (w.setCell ⟨k, i, none⟩ u) g st := cur_only8 h hk hcs hne (only_set _ _ _ _)
theorem cur_below {w w' : World} {g : Nat} {st : Option (List UInt8)} (h : Cur w g st) (hb : Below w.heap.size w w') : Cur w' g st := by
  rcases st with _ | L
  · exact Blk.below (t := 143) h hb (Blk.lt (t := 143) h)
  · obtain ⟨A, c, hk, hr, hc, hl⟩ := h
    exact ⟨A, c, Blk.below (t := 143) hk hb (Blk.lt (t := 143) hk), (hr.below hb).more hb.size, hc, hl⟩
theorem cur_alloc {w : World} {g : Nat} {st : Option (List UInt8)} (h : Cur w g st) (o : Obj) : Cur (w.alloc o) g st := cur_below h ((Below.refl _ _).alloc (Nat.le_refl _) o)
def fieldZ (L : List UInt8) : Int := if (unfixR L).2 = 0 then ((unfixR L).1 : Int) else -1
theorem step_ok {n : Nat} {L : List UInt8} (h : n ≤ L.length) : stepTake (n : Int) (some L) = (some (L.drop n), L.take n) := by
  simp only [stepTake]
  rw [if_neg (by omega)]
  simp
theorem step_no {n : Nat} {L : List UInt8} (h : L.length < n) : stepTake (n : Int) (some L) = (none, []) := by
  simp only [stepTake]
  rw [if_pos (by omega)]
def capZ (n : Nat) : Int := if n ≤ 2147483647 then (n : Int) else -1
theorem fieldZ_cap {L : List UInt8} (h1 : 1 ≤ L.length) (h4 : L.length ≤ 4) : fieldZ L = capZ (unfixL L) := by
  unfold fieldZ capZ
  by_cases h : unfixL L ≤ 2147483647
  · rw [unfix_ok rfl h1 h4 h, if_pos rfl, if_pos h]
  · rw [unfix_bad rfl h1 h4 h, if_neg (by decide), if_neg h]
theorem fieldZ_small {L : List UInt8} (h1 : 1 ≤ L.length) (h2 : L.length ≤ 2) : fieldZ L = (unfixL L : Int) := by
  have h := unfixL_lt L
  have h3 : (256 : Nat) ^ L.length ≤ 256 ^ 2 := Nat.pow_le_pow_right (by omega) h2
  rw [fieldZ_cap h1 (by omega)]
  unfold capZ
  rw [if_pos (by omega)]
theorem unfix_one (M : List UInt8) (i : Nat) (h : i < M.length) : unfixL ((M.drop i).take 1) = (M.getD i 0).toNat := by
  have e : (M.drop i).take 1 = [M[i]] := by
    rw [List.drop_eq_getElem_cons h]
    rfl
  have e2 : M.getD i 0 = M[i] := by simp [h]
  rw [e, e2]
  show M[i].toNat + 256 * 0 = _
  omega
theorem only_new {a w : World} {g gs i : Nat} (h : Only a w g) (hg : a.heap.size ≤ gs) (u : Value) : Only a (w.setCell ⟨gs, i, none⟩ u) g :=
  ⟨h.os, h.tape, h.output, by simpa [World.setCell] using h.size, fun k hk hn => (heap_setCell_other w ⟨gs, i, none⟩ k u (by show k ≠ gs; omega)).trans (h.block k hk hn)⟩
theorem only_more {a b w : World} {g : Nat} (h : Only a b g) (hb : Below b.heap.size b w) : Only a w g := only_trans h (only_below hb g)
theorem wpList_make_yes {P : Program} (w : World) {ops : Array Oper} {rest : List Oper} {o : Oper} {a : Act} {Q : Exit → Act → World → Prop}
    (hw : Region.wanted o (yielded ops a.tmps) = true) (l c : Operand) (t : TypeId) (hop : o.op = Op.makeSlice t l c)
    (base : Nat) (e : TypeId) (i : TypeInfo) (z : Value) (size : Nat) (h1 : P.underlying t = some (.slice e)) (h2 : P.info? e = some i) (h3 : i.zero = some z) (h4 : i.size = size)
    (kl kc : IntKind) (L C : Int) (n : Nat) (hl : a.eval l = .int kl L) (hc : a.eval c = .int kc C) (hL : L = (n : Int)) (hC : C = (n : Int)) (b2 : i.bytes * n ≤ 281474976710656) (b3 : n ≤ maxLen) (b4 : base ≤ w.heap.size)
    (hK : ∀ w', w'.ownsRow base e size (.slice (some ⟨w.heap.size, 0, none⟩) n n) n (madeCells z.cells (n * size)).toList → w.grownBy w' none → wpList P ops Q rest (a.put o.dst (.slice (some ⟨w.heap.size, 0, none⟩) n n)) w') :
    wpList P ops Q (o :: rest) a w := by
  refine wpList_wanted hw fun K hK' => ?_
  obtain ⟨w', hrun, r1, r2⟩ := run_make_full (P := P) w base t e i z size h1 h2 h3 h4 kl kc n b2 b3 b4
  subst hL
  subst hC
  unfold Oper.wp
  simp [execOp, hop, hl, hc, hrun, Result.andThen]
  exact hK' _ _ (hK w' r1 r2)
theorem made_rb7 {w w' : World} {r : Nat} (h : w'.ownsRow w.heap.size 5 1 (.slice (some ⟨w.heap.size, 0, none⟩) r r) r (madeCells (Value.int .u8 0).cells (r * 1)).toList) : RB w' w'.heap.size (some ⟨w.heap.size, 0, none⟩) (List.replicate r 0) := by
  simp only [Nat.mul_one, show (Value.int IntKind.u8 0).cells = #[Value.int IntKind.u8 0] from rfl, toList_madeCells_one] at h
  have h2 := Reads.of_own h
  unfold RB
  rw [List.length_replicate]
  have e : cells (List.replicate r 0) = List.replicate r (Value.int .u8 0) := by simp [cells]
  rw [e]
  exact h2
def PutAt (w : World) (gb : Nat) (L : List UInt8) : Prop := ∃ A c, Blk w gb 39 #[.slice A L.length c] ∧ w.ownsRow gb 5 1 (.slice A L.length c) L.length (cells L)
theorem ne_row {w : World} {gb base n : Nat} {cs : Array Value} {v : Value} {xs : List Value} (h : Blk w gb 39 cs) (ho : w.ownsRow base 5 1 v n xs) : some gb ≠ v.ownBlock := fun e => by
  obtain ⟨_, cs', h'⟩ := own_lt ho e.symm
  exact Blk.ne_ h h' (by decide) rfl
theorem put_new (w : World) : PutAt (w.alloc (.cells #[.slice none 0 0] 39)) w.heap.size [] := ⟨none, 0, Blk.new w _ _, World.ownsRow_nil _ _ _ _⟩
theorem rb_only {w w' : World} {B g : Nat} {A : Option Addr} {L : List UInt8} (h : RB w B A L) (hB : B ≤ w.heap.size) (ho : Only w w' g) (hn : ∀ ad, A = some ad → ad.block ≠ g) : RB w' B A L := Reads.only h hB ho hn
theorem own_only {w w' : World} {base g n : Nat} {e : TypeId} {size : Nat} {v : Value} {xs : List Value} (h : w.ownsRow base e size v n xs) (ho : Only w w' g) (hn : v.ownBlock ≠ some g) : w'.ownsRow base e size v n xs :=
  own_turns h (Turns.grown (F := fun k => k = g) ho (fun k e => by injection e with e; exact e.symm)) (fun k hk e => hn (by rw [hk, e]))
end
section
open Go.RowKit
def CurB (B : Nat) (w : World) (g : Nat) : Option (List UInt8) → Prop
  | none => w.heap[g]? = some (.cells #[.slice none 0 0, .bool true] 143 (0, 0))
  | some L => ∃ A c, w.heap[g]? = some (.cells #[.slice A L.length c, .bool false] 143 (0, 0)) ∧ RB w B A L ∧ L.length ≤ c ∧ L.length ≤ 1048576
theorem CurB.cur {B : Nat} {w : World} {g : Nat} {st : Option (List UInt8)} (h : CurB B w g st) (hB : B ≤ w.heap.size) : Cur w g st := by
  rcases st with _ | L
  · exact h
  · obtain ⟨A, c, h1, h2, h3, h4⟩ := h
    exact ⟨A, c, h1, h2.more hB, h3, h4⟩
theorem Cur.at_ {w : World} {g : Nat} {st : Option (List UInt8)} (h : Cur w g st) : CurB w.heap.size w g st := by
  rcases st with _ | L
  · exact h
  · obtain ⟨A, c, h1, h2, h3, h4⟩ := h
    exact ⟨A, c, h1, h2, h3, h4⟩
theorem CurB.lt {B : Nat} {w : World} {g : Nat} {st : Option (List UInt8)} (h : CurB B w g st) : g < w.heap.size := by
  rcases st with _ | L
  · exact Blk.lt (t := 143) h
  · obtain ⟨A, c, h1, _⟩ := h
    exact Blk.lt (t := 143) h1
theorem CurB.keep {B : Nat} {w w' : World} {g : Nat} {st : Option (List UInt8)} (h : CurB B w g st) (hg : w'.heap[g]? = w.heap[g]?) (hk : ∀ p : Addr, p.block < B → w'.cell? p = w.cell? p) : CurB B w' g st := by
  rcases st with _ | L
  · exact hg.trans h
  · obtain ⟨A, c, h1, h2, h3, h4⟩ := h
    exact ⟨A, c, hg.trans h1, Reads.keep h2 hk, h3, h4⟩
theorem cur_cutB {w : World} {B g : Nat} {A : Option Addr} {L : List UInt8} {c k : Nat} (HG : Hid (w.heap[g]? = some (.cells #[.slice A L.length c, .bool false] 143 (0, 0)))) (hr : RB w B A L) (hc : L.length ≤ c) (hl : L.length ≤ 1048576)
    (hk : k ≤ L.length) (A' : Option Addr) (c' : Nat) (h1 : c = k → A' = A) (h2 : c ≠ k → A' = A.map (·.add k)) (hc' : c' = c - k) :
    CurB B (w.setCell ⟨g, 0, none⟩ (.slice A' (L.length - k) c')) g (some (L.drop k)) := by
  subst hc'
  have hA : A' = if c = k then A else A.map (·.add (k * 1)) := by
    rw [Nat.mul_one]
    by_cases h : c = k
    · rw [if_pos h]; exact h1 h
    · rw [if_neg h]; exact h2 h
  refine ⟨A', c - k, ?_, ?_, by rw [List.length_drop]; omega, by rw [List.length_drop]; omega⟩
  · rw [List.length_drop]
    exact Blk.set_ HG.out 0 (.slice A' (L.length - k) (c - k))
  · rw [hA]
    exact rb_far (rb_cut hr hk hc) HG.out (cur_cells _ _ _ _) _
theorem own_new {w : World} {base c : Nat} {A : Option Addr} {L : List UInt8} (h : Own w base A L c) : ∀ ad, A = some ad → base ≤ ad.block := fun ad e => by
  subst e
  rcases h.2 with ⟨h1, _⟩ | ⟨k, cap, cur, h1, h2, _⟩
  · simp at h1
  · simp only [Value.slice.injEq, Option.some.injEq] at h1
    rw [h1.1]
    exact h2
def GivesAt (B g : Nat) (r : St × List UInt8) (w : World) (e : Ending) (w' : World) : Prop :=
  ∃ A c, e = .returned (.slice A r.2.length c) ∧ RB w' w'.heap.size A r.2 ∧ (∀ ad, A = some ad → w.heap.size ≤ ad.block) ∧ CurB B w' g r.1 ∧ Only w w' g
theorem take_at (B g : Nat) (n : Int) (st : St) (w : World) (h0 : CurB B w g st) (hB : B ≤ w.heap.size) :
    Calls Tryz.prog 88 #[.pointer (some ⟨g, 0, none⟩), .int .i64 n] w (GivesAt B g (stepTake n st) w) := by
  have h := h0.cur hB
  have hb := bad_any g _ w h
  have hfl := fail_any g _ w h
  rcases st with _ | L
  · have h' := Lib.hid h0
    clear h h0
    go_enter Tryz.func88, Tryz.ntmps88
    go_wp2_with (go_at_call 106; refine hb.mono ?_; rintro e w' ⟨rfl, rfl⟩)
    go_ret
    exact ⟨none, 0, rfl, RB.none_ _ _, (fun _ e => nomatch e), h'.out, only_refl _ _⟩
  · obtain ⟨A, c, hg, hrB, hc, hl⟩ := h0
    have hr := hrB.more hB
    have HrB := Lib.hid hrB
    clear h hrB
    have hc0 : w.cell? ⟨g, 0, none⟩ = some (.slice A L.length c) := (blk_cell hg 0).1
    have hf0 : w.frozen? ⟨g, 0, none⟩ = false := (blk_cell hg 0).2
    have HG := Lib.hid hg
    clear hg
    by_cases hn : n < 0 ∨ (L.length : Int) < n
    · have HS : Hid (stepTake n (some L) = (none, [])) := by show _ = _; simp only [stepTake]; rw [if_pos hn]
      rcases hn with hn | hn
      · have hd : decide (n < 0) = true := by simp [hn]
        go_enter Tryz.func88, Tryz.ntmps88
        go_wp2_with (first
          | (go_at_call 106; refine hb.mono ?_; rintro e w' ⟨rfl, rfl⟩)
          | (go_at_call 108; refine hfl.mono ?_; rintro e w' ⟨rfl, hcur, honly, hsz⟩))
        go_ret
        rw [HS.out]
        exact ⟨none, 0, rfl, RB.none_ _ _, (fun _ e => nomatch e), hcur, honly⟩
      · have hd : decide (n < 0) = false := by simp; omega
        have hd2 : decide ((L.length : Int) < n) = true := by simp [hn]
        go_enter Tryz.func88, Tryz.ntmps88
        go_wp2_with (first
          | (go_at_call 106; refine hb.mono ?_; rintro e w' ⟨rfl, rfl⟩)
          | (go_at_call 108; refine hfl.mono ?_; rintro e w' ⟨rfl, hcur, honly, hsz⟩))
        go_ret
        rw [HS.out]
        exact ⟨none, 0, rfl, RB.none_ _ _, (fun _ e => nomatch e), hcur, honly⟩
    · have hd : decide (n < 0) = false := by simp; omega
      have hd2 : decide ((L.length : Int) < n) = false := by simp; omega
      obtain ⟨k, rfl⟩ : ∃ k : Nat, n = (k : Int) := ⟨n.toNat, by omega⟩
      have hkl : k ≤ L.length := by omega
      have HS : Hid (stepTake (k : Int) (some L) = (some (L.drop k), L.take k)) := by show _ = _; simp only [stepTake]; rw [if_neg hn]; simp
      clear hn
      go_enter Tryz.func88, Tryz.ntmps88
      have hlt : g < w.heap.size := Blk.lt HG.out
      have HLK : Hid ((L.take k).length = k) := by show _ = _; rw [List.length_take]; omega
      have hrt : RB w w.heap.size A (L.take k) := by
        refine ⟨by rw [cells_length]; simp, fun h0 => ?_⟩
        obtain ⟨ad, e, hb', hcc⟩ := hr.2 (by rw [List.length_take] at h0; omega)
        refine ⟨ad, e, hb', fun j u hu => hcc j u ?_⟩
        rw [← cells_take, List.getElem?_take] at hu
        split at hu
        · exact hu
        · cases hu
      go_wp2_with (first
        | (go_at_call 106; refine hb.mono ?_; rintro e w' ⟨rfl, rfl⟩)
        | (go_at_call 107; refine (copied_any (L.take k) k _ _ _ (by rw [List.length_take]; omega) hrt (by rw [List.length_take]; omega)).mono ?_; rintro e w1 ⟨A1, c1, he1, hown1, hb1⟩; rw [HLK.out] at he1; subst he1; have hc1 := (hb1.cell (p := ⟨g, 0, none⟩) hlt).trans hc0; have hf1 := (hb1.frozen (p := ⟨g, 0, none⟩) hlt).trans hf0))
      all_goals
        have HG1 : Hid (w1.heap[g]? = some (.cells #[.slice A L.length c, .bool false] 143 (0, 0))) := Blk.below HG.out hb1 hlt
        have hr1 : RB w1 B A L := HrB.out.below (hb1.mono hB)
        have hcur := fun A' c' a b d => cur_cutB HG1 hr1 hc hl hkl A' c' a b d
        have ho1 : RB w1 w1.heap.size A1 (L.take k) := own_rb hown1
        go_ret
        rw [HS.out]
        refine ⟨A1, c1, by show _ = Ending.returned (.slice A1 (L.take k).length c1); rw [HLK.out]; rfl, ?_, (fun ad e => own_new hown1 ad e), hcur _ _ (fun hx => by first | rfl | (exact absurd hx (by assumption))) (fun hx => by first | rfl | (exact absurd (by assumption) hx)) (by omega), only_trans (only_below hb1 g) (only_set _ _ _ _)⟩
        have hz : ∀ u, (w1.setCell ⟨g, 0, none⟩ u).heap.size = w1.heap.size := fun u => by simp [World.setCell]
        rw [hz]
        exact rb_far ho1 HG1.out (cur_cells _ _ _ _) _
end
end Go.Proofs.YtghenhacndaelaaGreat
