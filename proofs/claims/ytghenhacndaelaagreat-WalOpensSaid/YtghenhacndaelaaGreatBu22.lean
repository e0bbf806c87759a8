/- Lemmas under the proofs of this place: DiskRLdM. No statement is proved here. -/
import Derived.Test.YtghenhacndaelaaGreatBu20
import Derived.Test.YtghenhacndaelaaGreatBu19
set_option linter.unusedVariables false
namespace Go.Proofs.YtghenhacndaelaaGreat
open Go.RowKit
theorem Tryz.hdrInfo : (Tryz.prog.info? 39).map (fun i => (i.zero, i.size, i.bytes)) = some (some (.slice none 0 0), 1, 24) := by kernel_rfl
theorem one_new (W : World) (x : Value) (t : TypeId) : Reads (W.alloc (.cells #[x] t)) (W.heap.size + 1) 1 (some ⟨W.heap.size, 0, none⟩) 1 [x] := by
  refine ⟨by simp, fun h0 => ⟨_, rfl, by simp, fun j u hu => ?_⟩⟩
  have h := heap_alloc_new W (.cells #[x] t)
  have e : (⟨W.heap.size, 0, none⟩ : Addr).add j = ⟨W.heap.size, j, none⟩ := by unfold Addr.add; split <;> simp_all
  rw [e, (blk_cell h j).1]
  simpa using hu
structure LD (w0 w : World) (g : Nat) (B : Nat → Prop) (SV : Value) (hs : List Value) (Ls : List (List UInt8)) : Prop where
  blk : Blk w g 75 #[SV, .slice none 0 0, .int .i64 (-1), .bool false, .int .i64 0, .int .i64 0, .int .i64 0]
  own : w.ownsRow 0 39 1 SV Ls.length hs
  hdr : Hdrs w B hs Ls
  gge : w0.heap.size ≤ g
  sge : ∀ k, SV.ownBlock = some k → w0.heap.size ≤ k
  b : ∀ k, B k → w0.heap.size ≤ k ∧ k < w.heap.size ∧ k ≠ g ∧ SV.ownBlock ≠ some k
  below : Below w0.heap.size w0 w
section
variable {w0 w W : World} {g : Nat} {B : Nat → Prop} {SV : Value} {hs : List Value} {Ls : List (List UInt8)}
theorem LD.under (h : LD w0 w g B SV hs Ls) (hb : Below w.heap.size w W) : LD w0 W g B SV hs Ls :=
  ⟨h.blk.below hb h.blk.lt, own_turns h.own (Turns.of_below hb (fun _ => False)) (fun _ _ h => h), h.hdr.turns (Turns.of_below hb (fun _ => False)) (fun _ _ h => h), h.gge, h.sge, fun k hk => ⟨(h.b k hk).1, Nat.lt_of_lt_of_le (h.b k hk).2.1 hb.size, (h.b k hk).2.2⟩, chain6 h.below hb⟩
theorem LD.c0 (h : LD w0 w g B SV hs Ls) : w.cell? ⟨g, 0, none⟩ = some SV := by rw [h.blk.cell]; rfl
theorem load_new (h : LD w0 w g B SV hs Ls) (hb : Below w.heap.size w W) {L : List UInt8} (h256 : L.length = 256) {o : Obj} {v1 : Value} {w1 : World} (ho : w1.ownsRow W.heap.size 5 1 v1 (0 + 256) ([] ++ cells L)) (hg : (W.alloc o).grownBy w1 (Value.slice (some ⟨W.heap.size, 0, none⟩) 0 0).ownBlock) :
    ∃ q cq, v1 = .slice (some ⟨q, 0, none⟩) 256 cq ∧ Below w.heap.size w w1 ∧ w1.cell? ⟨g, 0, none⟩ = some SV ∧ Hdr w1 (fun k => k = q) (.slice (some ⟨q, 0, none⟩) 256 cq) L ∧ w.heap.size ≤ q ∧ q < w1.heap.size := by
  simp only [Nat.zero_add, List.nil_append] at ho
  obtain ⟨A3, c3, rfl⟩ := own_form ho
  have hO : Own w1 W.heap.size A3 L c3 := by unfold Own; rw [h256]; exact ho
  obtain ⟨q, rfl, hA, hl1, hl2, hl3⟩ := own_arr hO (by omega)
  have hb1 : Below w.heap.size w w1 := (hb.alloc hb.size o).grown hg (by have := hb.size; simp; omega) (by have := hb.size; simp [Value.ownBlock]; omega)
  exact ⟨q, c3, rfl, hb1, (h.under hb1).c0, ⟨h256, q, 0, c3, rfl, by omega, hl2, rfl, hA.all⟩, by have := hb.size; omega, hA.lt⟩
theorem load_mid (h : LD w0 w g B SV hs Ls) (hb : Below w.heap.size w W) {q cq : Nat} {L : List UInt8} (hH : Hdr W (fun k => k = q) (.slice (some ⟨q, 0, none⟩) 256 cq) L) (hq1 : w.heap.size ≤ q) (hq2 : q < W.heap.size)
    {o : Obj} {V' : Value} {w5 : World} (ho : w5.ownsRow 0 39 1 V' (Ls.length + 1) (hs ++ [.slice (some ⟨q, 0, none⟩) 256 cq])) (hg : (W.alloc o).grownBy w5 SV.ownBlock) (hat : V'.ownBlock = SV.ownBlock ∨ V'.ownBlock = some (W.alloc o).heap.size) :
    w5.cell? ⟨g, 0, none⟩ = some SV ∧ w5.frozen? ⟨g, 0, none⟩ = false ∧ Hid (∃ B', LD w0 (w5.setCell ⟨g, 0, none⟩ V') g B' V' (hs ++ [.slice (some ⟨q, 0, none⟩) 256 cq]) (Ls ++ [L])) := by
  have hZ := h.under (hb.alloc hb.size o)
  have hHZ : Hdr (W.alloc o) (fun k => k = q) (.slice (some ⟨q, 0, none⟩) 256 cq) L := hH.turns (Turns.alloc o (fun _ => False)) (fun _ _ h => h)
  have hqz : q < (W.alloc o).heap.size := by simp; omega
  have hwz : w.heap.size ≤ (W.alloc o).heap.size := by have := hb.size; simp; omega
  generalize W.alloc o = Z at hZ hHZ hg hat hqz hwz
  have hSg : SV.ownBlock ≠ some g := own_blk_ne hZ.own hZ.blk (by decide)
  have b5 : Blk w5 g 75 #[SV, .slice none 0 0, .int .i64 (-1), .bool false, .int .i64 0, .int .i64 0, .int .i64 0] := hZ.blk.grown hg (fun e => hSg e.symm)
  have hV'g : V'.ownBlock ≠ some g := own_blk_ne ho b5 (by decide)
  have tz : Turns Z (w5.setCell ⟨g, 0, none⟩ V') (fun k => k = g ∨ SV.ownBlock = some k) (fun k => k = g ∨ SV.ownBlock = some k) := (Turns.grown (F := fun k => k = g ∨ SV.ownBlock = some k) hg (fun k hk => .inr hk)).trans (Turns.set_ (F := fun k => k = g ∨ SV.ownBlock = some k) (.inl rfl) 0 V')
  have hlt := h.blk.lt
  have hw0 := h.below.size
  have hSlt : ∀ k, SV.ownBlock = some k → k < w.heap.size := fun k hk => (own_lt h.own hk).1
  have hBn : ∀ k, B k → ¬ (k = g ∨ SV.ownBlock = some k) := fun k hk e => by
    rcases e with e | e
    · exact (h.b k hk).2.2.1 e
    · exact (h.b k hk).2.2.2 e
  have hqn : ¬ (q = g ∨ SV.ownBlock = some q) := fun e => by
    rcases e with e | e
    · omega
    · have := hSlt q e; omega
  have hsz : (w5.setCell ⟨g, 0, none⟩ V').heap.size = w5.heap.size := by simp [World.setCell]
  refine ⟨by rw [b5.cell]; rfl, b5.frozen 0, (fun k => B k ∨ k = q), b5.set_ 0 V', ?_, ?_, h.gge, fun k hk => ?_, fun k hk => ?_, ?_⟩
  · have h1 := own_turns ho (turns_own w5 g 0 V') (fun k hk e => hV'g (by rw [hk, e]))
    simpa using h1
  · exact ((hZ.hdr.turns tz hBn).wide (fun _ h => .inl h)).snoc ((hHZ.turns tz (fun k hk e => hqn (hk ▸ e))).wide (fun _ h => .inr h))
  · rcases hat with e | e
    · exact h.sge k (e ▸ hk)
    · rw [e] at hk; injection hk with hk; omega
  · have hk2 : w0.heap.size ≤ k ∧ k < Z.heap.size ∧ k ≠ g ∧ SV.ownBlock ≠ some k := by
      rcases hk with h1 | h1
      · exact ⟨(h.b k h1).1, Nat.lt_of_lt_of_le (h.b k h1).2.1 hwz, (h.b k h1).2.2⟩
      · subst h1
        exact ⟨by omega, hqz, fun e => hqn (.inl e), fun e => hqn (.inr e)⟩
    refine ⟨hk2.1, Nat.lt_of_lt_of_le hk2.2.1 tz.size, hk2.2.2.1, fun e => ?_⟩
    rcases hat with e' | e'
    · exact hk2.2.2.2 (e' ▸ e)
    · rw [e'] at e; injection e with e; have := hk2.2.1; omega
  · exact hZ.below.trans (tz.below (fun k hk => by
      rcases hk with rfl | hk
      · exact h.gge
      · exact h.sge k hk) (by omega))
end
def GivesRef (D : Dk) (w w' : World) (g : Nat) (G B : Nat → Prop) : Prop := RDisk w' g G B D ∧ Below w.heap.size w w' ∧ (∀ k, G k → w.heap.size ≤ k) ∧ ∀ k, B k → w.heap.size ≤ k
theorem LD.end_ {w0 w : World} {g : Nat} {B : Nat → Prop} {SV : Value} {hs : List Value} {L : List UInt8} {m : Nat} (h : LD w0 w g B SV hs (Dk.chunks m L)) (hm : L.length = 256 * m) (h1 : 16 ≤ m) (h2 : m ≤ 1024) : ∃ G B, GivesRef (Dk.ofImage L) w0 w g G B := by
  have e1 : L.length / 256 = m := by omega
  have hl : (Dk.ofImage L).safe = Dk.chunks m L := by unfold Dk.ofImage; rw [e1]
  have hlen : (Dk.chunks m L).length = m := Dk.chunks_length m L
  obtain ⟨s, cs, hv, hs0, _⟩ := h.own.form (by omega)
  subst hv
  refine ⟨fun k => k = g ∨ k = s, B, ⟨s, cs, .slice none 0 0, hs, [], ?_⟩, h.below, fun k hk => ?_, fun k hk => (h.b k hk).1⟩
  · refine ⟨by have := h.blk; rw [← hl] at this; exact this, by have := h.own; rw [← hl] at this; exact this, by rw [hl]; exact h.hdr, World.ownsRow_nil _ _ _ _, Hdrs.none_, .inl rfl, .inr rfl, fun k hk => by simp [Value.ownBlock] at hk, fun k hk => ?_, fun k hk => (h.b k hk).2.1, fun k hk hb => ?_, ⟨⟨by rw [hl]; exact Dk.chunks_fit m L hm, fun x hx => by cases hx⟩, by rw [hl, hlen]; exact h1, by rw [hl, hlen]; exact h2, ⟨Int.le_refl _, by show (-1 : Int) ≤ _; omega⟩⟩⟩
    · rcases hk with rfl | rfl
      · exact h.blk.lt
      · exact (own_lt h.own (k := k) rfl).1
    · rcases hk with rfl | rfl
      · exact (h.b k hb).2.2.1 rfl
      · exact (h.b k hb).2.2.2 rfl
  · rcases hk with rfl | rfl
    · exact h.gge
    · exact h.sge k rfl
end Go.Proofs.YtghenhacndaelaaGreat
