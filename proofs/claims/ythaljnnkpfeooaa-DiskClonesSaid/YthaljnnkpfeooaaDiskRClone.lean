/- The walk of the reference's Clone (layer 6). -/
import Derived.Test.YthaljnnkpfeooaaDiskRWrite
import Derived.Test.YthaljnnkpfeooaaDiskRLdM
set_option linter.unusedVariables false
namespace Go.Proofs.Ythaljnnkpfeooaa
open Go.RowKit

theorem Try.refBuild3 (l x1 x2 x3 : Int) (x : Bool) (w : World) : Sem.run Try.prog (Instr.build 44 #[(2, .int .i64 l), (3, .bool x), (4, .agg #[.int .i64 x1, .int .i64 x2, .int .i64 x3])]) w = .ok (.agg #[.slice none 0 0, .slice none 0 0, .int .i64 l, .bool x, .int .i64 x1, .int .i64 x2, .int .i64 x3]) w := by
  kernel_rfl
theorem Try.agg39r (w : World) : (isAgg 39).run Try.prog w = .ok true w := by kernel_rfl
theorem Try.size39r (w : World) : (sizeOf 39).run Try.prog w = .ok 3 w := by kernel_rfl
/-- A clone that is being made in block y. -/
structure CL (w W : World) (y : Nat) (d : Dk) (S V : Value) : Prop where
  blk : Blk W y 44 (refCells S V d)
  below : Below w.heap.size w W
  new : w.heap.size ≤ y
section
variable {w W w9 : World} {q y : Nat} {G B : Nat → Prop} {d : Dk} {s cs : Nat} {V S Z v9 : Value} {hs hv : List Value}
theorem CL.drew (h : CL w W y d S Z) : CL w W.drew y d S Z := ⟨h.blk, h.below.drew, h.new⟩
theorem CL.c0 (h : CL w W y d S Z) : W.cell? ⟨y, 0, none⟩ = some S ∧ W.frozen? ⟨y, 0, none⟩ = false := ⟨by rw [h.blk.cell]; rfl, h.blk.frozen 0⟩
theorem CL.c1 (h : CL w W y d S Z) : W.cell? ⟨y, 1, none⟩ = some Z ∧ W.frozen? ⟨y, 1, none⟩ = false := ⟨by rw [h.blk.cell]; rfl, h.blk.frozen 1⟩
theorem CL.grown (h : CL w W y d S Z) (hg : W.grownBy w9 none) : CL w w9 y d S Z := ⟨h.blk.grown hg (by simp), h.below.grown hg h.below.size (by simp), h.new⟩
theorem hdrs_one {B : Nat → Prop} {Ls : List (List UInt8)} (h : Hdrs w B hs Ls) : ∀ u ∈ hs, u.oneCell' = true := fun u hu => by
  obtain ⟨i, hi, rfl⟩ := List.mem_iff_getElem.1 hu
  obtain ⟨v, h1, _, b, off, c, h2, _⟩ := h.at_ (i := i) (by rw [← h.1]; exact hi)
  rw [List.getElem?_eq_getElem hi] at h1
  injection h1 with h1
  rw [h1, h2]
  rfl
theorem rwc_one {B : Nat → Prop} {ws : List (Nat × List UInt8)} (h : Hdrs w B hv (ws.map (·.2))) : ∀ u ∈ rwc ws hv, u.oneCell' = true := fun u hu => by
  unfold rwc at hu
  obtain ⟨x, hx, hu⟩ := List.mem_flatMap.1 hu
  have h2 := (List.of_mem_zip hx).2
  simp only [List.mem_cons, List.not_mem_nil, or_false] at hu
  rcases hu with rfl | rfl
  · rfl
  · exact hdrs_one h _ h2
theorem own_slice {base : Nat} {e : TypeId} {size n : Nat} {v : Value} {xs : List Value} (h : w.ownsRow base e size v n xs) : ∃ A c, v = .slice A n c := by
  rcases h.2 with ⟨rfl, h0⟩ | ⟨g, cap, cur, rfl, h2, _⟩
  · exact ⟨none, 0, by rw [h0]⟩
  · exact ⟨_, _, rfl⟩
theorem own_base {base : Nat} {e : TypeId} {size n : Nat} {v : Value} {xs : List Value} (h : w.ownsRow base e size v n xs) {k : Nat} (hk : v.ownBlock = some k) : base ≤ k := by
  rcases h.2 with ⟨rfl, _⟩ | ⟨g, cap, cur, rfl, h2, _⟩
  · cases hk
  · have : g = k := by simpa [Value.ownBlock] using hk
    omega
/-- A clone of the reference's disk: what is its own is new, its bytes are the old one's. -/
def GivesCl (d : Dk) (w w' : World) (y : Nat) (G' B : Nat → Prop) : Prop := RDisk w' y G' B d ∧ Below w.heap.size w w' ∧ ∀ k, G' k → w.heap.size ≤ k
/-- Behind the second statement. -/
theorem CL.safe_ (h : CL w W y d S Z) (hg : W.grownBy w9 none) (ho : w9.ownsRow w.heap.size 33 1 v9 (0 + d.safe.length) ([] ++ hs)) :
    CL w (w9.setCell ⟨y, 0, none⟩ v9) y d v9 Z ∧ (w9.setCell ⟨y, 0, none⟩ v9).ownsRow w.heap.size 33 1 v9 d.safe.length hs := by
  have h9 := h.grown hg
  rw [Nat.zero_add, List.nil_append] at ho
  have hy : v9.ownBlock ≠ some y := own_blk_ne ho h9.blk (by decide)
  have hlt := h9.blk.lt
  exact ⟨⟨h9.blk.set_ 0 v9, h9.below.trans ((turns_own w9 y 0 v9).below (fun k hk => by rw [hk]; exact h.new) h9.below.size), h.new⟩, own_turns ho (turns_own w9 y 0 v9) (fun k hk e => hy (by rw [hk, e]))⟩
/-- Behind the third one. -/
theorem CL.waits_ (h : CL w W y d S Z) (hs0 : W.ownsRow w.heap.size 33 1 S d.safe.length hs) (hg : W.grownBy w9 none) (ho : w9.ownsRow w.heap.size 88 2 v9 (0 + d.waits.length) ([] ++ rwc d.waits hv)) :
    CL w (w9.setCell ⟨y, 1, none⟩ v9) y d S v9 ∧ (w9.setCell ⟨y, 1, none⟩ v9).ownsRow w.heap.size 33 1 S d.safe.length hs ∧ (w9.setCell ⟨y, 1, none⟩ v9).ownsRow w.heap.size 88 2 v9 d.waits.length (rwc d.waits hv) := by
  have h9 := h.grown hg
  rw [Nat.zero_add, List.nil_append] at ho
  have hy : v9.ownBlock ≠ some y := own_blk_ne ho h9.blk (by decide)
  have hz : S.ownBlock ≠ some y := own_blk_ne hs0 h.blk (by decide)
  have h1 := own_turns hs0 (Turns.grown (F := fun _ => False) hg (fun k hk => by cases hk)) (fun _ _ h => h)
  exact ⟨⟨h9.blk.set_ 1 v9, h9.below.trans ((turns_own w9 y 1 v9).below (fun k hk => by rw [hk]; exact h.new) h9.below.size), h.new⟩, own_turns h1 (turns_own w9 y 1 v9) (fun k hk e => hz (by rw [hk, e])), own_turns ho (turns_own w9 y 1 v9) (fun k hk e => hy (by rw [hk, e]))⟩
theorem CL.fin (h : RD w q G B d s cs V hs hv) {s2 c2 : Nat} (hC : CL w W y d (.slice (some ⟨s2, 0, none⟩) d.safe.length c2) Z) (hS : W.ownsRow w.heap.size 33 1 (.slice (some ⟨s2, 0, none⟩) d.safe.length c2) d.safe.length hs) (hV : W.ownsRow w.heap.size 88 2 Z d.waits.length (rwc d.waits hv)) : ∃ G', GivesCl d w W y G' B := by
  have ht := Turns.of_below hC.below (fun _ => False)
  have hlt := hC.blk.lt
  have hn := hC.new
  have hsz := hC.below.size
  have l1 := own_lt hS (k := s2) rfl
  have b1 := own_base hS (k := s2) rfl
  have hnew : ∀ k, (k = y ∨ k = s2 ∨ Z.ownBlock = some k) → w.heap.size ≤ k := fun k hk => by
    rcases hk with rfl | rfl | hk
    · exact hn
    · exact b1
    · exact own_base hV hk
  refine ⟨fun k => k = y ∨ k = s2 ∨ Z.ownBlock = some k, ⟨s2, c2, Z, hs, hv, ⟨hC.blk, Joins.ownsRow_le hS (Nat.zero_le _), h.hsafe.turns ht (fun _ _ h => h), Joins.ownsRow_le hV (Nat.zero_le _), h.hwait.turns ht (fun _ _ h => h), .inl rfl, .inr (.inl rfl), fun k hk => .inr (.inr hk), fun k hk => ?_, fun k hk => Nat.lt_of_lt_of_le (h.blt k hk) hsz, fun k hk hb => ?_, h.good⟩⟩, hC.below, hnew⟩
  · rcases hk with rfl | rfl | hk
    · exact hlt
    · exact l1.1
    · exact (own_lt hV hk).1
  · have := hnew k hk; have := h.blt k hb; omega
end
set_option maxRecDepth 100000 in
set_option maxHeartbeats 4000000 in
theorem rclone_any {w : World} {q : Nat} {G B : Nat → Prop} {d : Dk} (h0 : RDisk w q G B d) (hl : d.load ≤ 100000) :
    Calls Try.prog 26 #[.pointer (some ⟨q, 0, none⟩)] w fun e w' => ∃ y G', e = .returned (.pointer (some ⟨y, 0, none⟩)) ∧ GivesCl d w w' y G' B := by
  obtain ⟨i0, hi0, hz0, hz1, hz2⟩ := info_parts Try.hdrInfo
  obtain ⟨i1, hi1, hy0, hy1, hy2⟩ := info_parts Try.waitInfo
  obtain ⟨s, cs, V, hs, hv, h⟩ := h0
  obtain ⟨A, cv, rfl, hcv, hcm⟩ := h.vform
  have H := Lib.hid h
  have hwt := h.wait
  obtain ⟨n, hn⟩ : ∃ n, n = d.safe.length := ⟨_, rfl⟩
  obtain ⟨m, hm⟩ : ∃ m, m = d.waits.length := ⟨_, rfl⟩
  obtain ⟨lf, hlf⟩ : ∃ x : Int, x = d.left := ⟨_, rfl⟩
  obtain ⟨x, hx⟩ : ∃ x, x = d.off := ⟨_, rfl⟩
  obtain ⟨x1, hx1⟩ : ∃ x : Int, x = (d.reads : Int) := ⟨_, rfl⟩
  obtain ⟨x2, hx2⟩ : ∃ x : Int, x = (d.writes : Int) := ⟨_, rfl⟩
  obtain ⟨x3, hx3⟩ : ∃ x : Int, x = (d.flushes : Int) := ⟨_, rfl⟩
  have hR0 := Reads.of_own h.safe
  have hR1 := Reads.of_own h.wait
  have hn0 : 16 ≤ n := by have := h.good.few; omega
  have hn1 : n ≤ 100000 := by have := h.good.many; omega
  have hm1 : m ≤ 100000 := by unfold Dk.load at hl; omega
  have r2 : w.cell? ⟨q, 2, none⟩ = some (.int .i64 lf) := by rw [hlf]; exact h.r2
  have r3 : w.cell? ⟨q, 3, none⟩ = some (.bool x) := by rw [hx]; exact h.r3
  have r4 : w.cell? ⟨q, 4, none⟩ = some (.int .i64 x1) := by rw [hx1]; exact h.r4
  have r5 : w.cell? ⟨q, 5, none⟩ = some (.int .i64 x2) := by rw [hx2]; exact h.r5
  have r6 : w.cell? ⟨q, 6, none⟩ = some (.int .i64 x3) := by rw [hx3]; exact h.r6
  rw [← hn] at hR0
  rw [← hm] at hR1
  have HQ : Hid (∀ W, Below w.heap.size w W → W.cell? ⟨q, 0, none⟩ = some (.slice (some ⟨s, 0, none⟩) n cs) ∧ W.cell? ⟨q, 1, none⟩ = some (.slice A m cv)) := fun W hb => by
    have h1 := h.under hb
    exact ⟨by rw [hn]; exact h1.r0, by rw [hm]; exact h1.r1⟩
  have HR0 : Hid (∀ W, Below w.heap.size w W → Reads W w.heap.size 1 (some ⟨s, 0, none⟩) n hs) := fun W hb => Reads.turns hR0 (Nat.le_refl _) (Turns.of_below hb (fun _ => False)) (fun _ _ h => h)
  have HR1 : Hid (∀ W, Below w.heap.size w W → Reads W w.heap.size 2 A m (rwc d.waits hv)) := fun W hb => Reads.turns hR1 (Nat.le_refl _) (Turns.of_below hb (fun _ => False)) (fun _ _ h => h)
  have H1 := Lib.hid (hdrs_one h.hsafe)
  have H2 := Lib.hid (rwc_one h.hwait)
  have HN : Hid (n = d.safe.length ∧ m = d.waits.length) := ⟨hn, hm⟩
  have a39 := fun w' => Try.agg39r w'
  have s39 := fun w' => Try.size39r w'
  have nb := fun w' => Try.refBuild3 lf x1 x2 x3 x w'
  have HB1 : Hid (∀ W, Below w.heap.size w W → CL w (W.alloc (.cells #[.slice none 0 0, .slice none 0 0, .int .i64 lf, .bool x, .int .i64 x1, .int .i64 x2, .int .i64 x3] 44)) W.heap.size d (.slice none 0 0) (.slice none 0 0)) := fun W hb => by
    rw [hlf, hx, hx1, hx2, hx3]
    exact ⟨Blk.new W _ _, hb.alloc hb.size _, hb.size⟩
  clear hlf hx hx1 hx2 hx3 hn hm hl hwt hcv hcm hR0 hR1 h
  go_enter Try.func26, Try.ntmps26
  go_wp2
  go_region
  have C1 := (HB1.out w (Below.refl _ _)).drew
  generalize (w.alloc (.cells #[.slice none 0 0, .slice none 0 0, .int .i64 lf, .bool x, .int .i64 x1, .int .i64 x2, .int .i64 x3] 44)).drew = W1 at C1 ⊢
  obtain ⟨y, hy⟩ : ∃ y, y = w.heap.size := ⟨_, rfl⟩
  rw [← hy] at C1 ⊢
  obtain ⟨p0, p1⟩ := HQ.out _ C1.below
  obtain ⟨t0, t1⟩ := C1.c0
  have D1 := C1.drew
  have R1 := HR0.out _ D1.below
  clear hy r2 r3 r4 r5 r6 a39 s39 nb HB1 p1
  go_wp2
  go_region_law (refine step_append_any _ rfl (.tmp 22) (.tmp 26) _ rfl w.heap.size 33 i0 _ 1 24 Try.underlying41 hi0 hz0 hz1 hz2 rfl (by omega) (.slice none 0 0) 0 [] rfl (World.ownsRow_nil _ _ _ _) w.heap.size (some ⟨s, 0, none⟩) n cs hs rfl R1 H1.out (by simp only [maxLen]; omega) (by omega) D1.below.size ?_; intro v9 w9 ho9 hg9 hat9; have C9 := Lib.hid (D1.grown hg9); obtain ⟨t9, u9⟩ := C9.out.c0; have S9 := Lib.hid (D1.safe_ hg9 (by rw [← HN.out.1]; exact ho9)); obtain ⟨g9, e9, rfl, _⟩ := ho9.form (by omega))
  all_goals
    have S9 := S9.out
    rw [Nat.zero_add] at S9
    obtain ⟨C2, O2⟩ := S9
    clear C9 hg9 hat9 t9 u9 D1 R1 C1 p0 t0 t1
    generalize w9.setCell ⟨y, 0, none⟩ (.slice (some ⟨g9, 0, none⟩) n e9) = W2 at C2 O2 ⊢
    obtain ⟨_, p1⟩ := HQ.out _ C2.below
    obtain ⟨t0, t1⟩ := C2.c1
    have D2 := C2.drew
    have R2 := HR1.out _ D2.below
    have O2d := O2.drew
    go_wp2
    go_region_law (refine step_append_any _ rfl (.tmp 34) (.tmp 38) _ rfl w.heap.size 88 i1 _ 2 32 Try.underlying42 hi1 hy0 hy1 hy2 rfl (by omega) (.slice none 0 0) 0 [] rfl (World.ownsRow_nil _ _ _ _) w.heap.size A m cv (rwc d.waits hv) rfl R2 H2.out (by simp only [maxLen]; omega) (by omega) D2.below.size ?_; intro vb wb hob hgb hatb; have Cb := Lib.hid (D2.grown hgb); obtain ⟨tb, ub⟩ := Cb.out.c1; have Sb := Lib.hid (D2.waits_ O2d hgb (by rw [← HN.out.2]; exact hob)); obtain ⟨Ab, eb, rfl⟩ := own_slice hob)
    all_goals
      have Sb := Sb.out
      rw [Nat.zero_add] at Sb
      obtain ⟨Cc, Oc, Vc⟩ := Sb
      clear Cb hgb hatb tb ub D2 R2 C2 p1 t0 t1 O2 O2d
      generalize wb.setCell ⟨y, 1, none⟩ (.slice Ab m eb) = W3 at Cc Oc Vc ⊢
      go_wp2
      go_ret
      obtain ⟨hn, hm⟩ := HN.out
      subst hn hm
      obtain ⟨G', hG⟩ := CL.fin H.out Cc Oc Vc
      exact ⟨y, G', rfl, hG⟩
end Go.Proofs.Ythaljnnkpfeooaa
