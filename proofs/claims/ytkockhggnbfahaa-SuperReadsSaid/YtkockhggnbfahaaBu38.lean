/- Lemmas under the proofs of this place: SupTwo. No statement is proved here. -/
import Derived.Test.YtkockhggnbfahaaBu32
import Derived.Test.YtkockhggnbfahaaBu29
import Derived.Test.YtkockhggnbfahaaBu36
import Derived.Test.YtkockhggnbfahaaBu23
import Derived.Test.YtkockhggnbfahaaBu34
set_option linter.unusedVariables false
namespace Go.Proofs.Ytkockhggnbfahaa
open Go.RowKit
def TwoV (w W : World) (g q : Nat) (d e : Dk) (vs : List (Nat × Pu)) : Prop := ∃ F G B, Two [] w W g F d q G B e ∧ ∀ v ∈ vs, Blk W v.1 25 (supC v.2) ∧ ¬ F v.1 ∧ ¬ G v.1
section
variable {w W W' : World} {g q : Nat} {d e d' e' : Dk} {vs : List (Nat × Pu)}
theorem TwoV.prog {F F' G B : Nat → Prop} (h : Two [] w W g F d q G B e) (hv : ∀ v ∈ vs, Blk W v.1 25 (supC v.2) ∧ ¬ F v.1 ∧ ¬ G v.1) (h1 : PDisk W' g F' d') (h2 : Turns W W' F F') : TwoV w W' g q d' e vs := by
  refine ⟨F', G, B, h.prog h1 h2, fun v hvv => ?_⟩
  obtain ⟨hb, hn, hm⟩ := hv v hvv
  refine ⟨hb.turns h2 hn, fun hf => ?_, hm⟩
  rcases h2.foot _ hf with h3 | h3
  · exact hn h3
  · exact absurd hb.lt (by omega)
theorem TwoV.ref {F G B : Nat → Prop} (h : Two [] w W g F d q G B e) (hv : ∀ v ∈ vs, Blk W v.1 25 (supC v.2) ∧ ¬ F v.1 ∧ ¬ G v.1) (hd : RDeeds e' G B W W' q) : TwoV w W' g q d e' vs := by
  obtain ⟨G', B', hr, ht, hb⟩ := hd
  have hs := h.p.below.size
  refine ⟨F, G', B', ⟨⟨h.p.disk.turns ht (fun k hk hg => h.fg k hk hg), h.p.below.trans (ht.below h.go hs), h.p.own⟩, hr, fun k hk => ?_, fun k hk hg => ?_, fun k hk hg => ?_, fun x hx => by cases hx⟩, fun v hvv => ?_⟩
  · rcases ht.foot k hk with h1 | h1
    · exact h.go k h1
    · omega
  · rcases ht.foot k hg with h1 | h1
    · exact h.fg k hk h1
    · have := h.p.flt k hk; omega
  · rcases hb k hg with h1 | h1
    · exact h.fb k hk h1
    · have := h.p.flt k hk; omega
  · obtain ⟨hbk, hn, hm⟩ := hv v hvv
    refine ⟨hbk.turns ht hm, hn, fun hf => ?_⟩
    rcases ht.foot _ hf with h3 | h3
    · exact hm h3
    · exact absurd hbk.lt (by omega)
theorem TwoV.more (h : TwoV w W g q d e vs) (hb : Below W.heap.size W W') : TwoV w W' g q d e vs := by
  obtain ⟨F, G, B, hT, hv⟩ := h
  exact ⟨F, G, B, hT.more hb, fun v hvv => ⟨(hv v hvv).1.below hb (hv v hvv).1.lt, (hv v hvv).2⟩⟩
theorem TwoV.put (h : TwoV w W g q d e vs) (s : Pu) {b : Nat} (hb : b = W.heap.size) : TwoV w (W.alloc (.cells (supC s) 25)) g q d e ((b, s) :: vs) := by
  subst hb
  obtain ⟨F, G, B, hT, hv⟩ := h
  have hbl : Below W.heap.size W (W.alloc (.cells (supC s) 25)) := (Below.refl _ _).alloc (Nat.le_refl _) _
  refine ⟨F, G, B, hT.more hbl, fun v hvv => ?_⟩
  rcases List.mem_cons.1 hvv with rfl | hvv
  · exact ⟨Blk.new W _ _, fun hf => by have := hT.p.flt _ hf; simp only at this; omega, fun hf => by have := hT.r.glt _ hf; simp only at this; omega⟩
  · exact ⟨(hv v hvv).1.below hbl (hv v hvv).1.lt, (hv v hvv).2⟩
theorem TwoV.below (h : TwoV w W g q d e vs) : Below w.heap.size w W := by obtain ⟨F, G, B, hT, _⟩ := h; exact hT.p.below
theorem TwoV.var (h : TwoV w W g q d e vs) {b : Nat} {s : Pu} (hv : (b, s) ∈ vs) : W.cell? ⟨b, 0, none⟩ = some (.int .i64 s.gen) ∧ W.cell? ⟨b, 1, none⟩ = some (.int .i64 s.blocks) ∧ W.cell? ⟨b, 2, none⟩ = some (.int .i64 s.log) ∧ W.cell? ⟨b, 3, none⟩ = some (.int .i64 s.first) ∧ W.cell? ⟨b, 4, none⟩ = some (.int .i64 s.size) ∧ W.cell? ⟨b, 5, none⟩ = some (.int .i64 s.owner) := by
  obtain ⟨F, G, B, hT, hvs⟩ := h
  have hb := (hvs _ hv).1
  exact ⟨by rw [hb.cell]; rfl, by rw [hb.cell]; rfl, by rw [hb.cell]; rfl, by rw [hb.cell]; rfl, by rw [hb.cell]; rfl, by rw [hb.cell]; rfl⟩
theorem tw_read (hl : d.load ≤ 90000) (h : TwoV w W g q d e vs) : Calls Try.prog 18 #[.pointer (some ⟨g, 0, none⟩)] W fun r w' => r = .returned (.tuple #[supV (readU d).2.1, .int .i64 (readU d).2.2]) ∧ Hid (TwoV w w' g q (readU d).1 e vs) := by
  obtain ⟨F, G, B, hT, hvs⟩ := h
  exact (supread_any hT.p.disk hl).mono fun r w' hh => ⟨hh.1, TwoV.prog hT hvs hh.2.1 hh.2.2⟩
theorem tw_rread (hl : e.load ≤ 90000) (h : TwoV w W g q d e vs) : Calls Try.prog 19 #[.pointer (some ⟨q, 0, none⟩)] W fun r w' => r = .returned (.tuple #[supV (readU e).2.1, .int .i64 (readU e).2.2]) ∧ Hid (TwoV w w' g q d (readU e).1 vs) := by
  obtain ⟨F, G, B, hT, hvs⟩ := h
  exact (rsread_any hT.r hl).mono fun r w' hh => ⟨hh.1, TwoV.ref hT hvs hh.2.deeds⟩
theorem tw_write (s : Pu) (hl : d.load ≤ 90000) (h : TwoV w W g q d e vs) : Calls Try.prog 20 #[.pointer (some ⟨g, 0, none⟩), supV s] W fun r w' => r = .returned (.int .i64 (writeU d s).2) ∧ Hid (TwoV w w' g q (writeU d s).1 e vs) := by
  obtain ⟨F, G, B, hT, hvs⟩ := h
  refine (supwrite_any hT.p.disk s hl).mono fun r w' hh => ?_
  obtain ⟨he, F', h1, h2⟩ := hh
  exact ⟨he, TwoV.prog hT hvs h1 h2⟩
theorem tw_rwrite (s : Pu) (hl : e.load ≤ 90000) (h : TwoV w W g q d e vs) : Calls Try.prog 21 #[.pointer (some ⟨q, 0, none⟩), supV s] W fun r w' => r = .returned (.int .i64 (writeU e s).2) ∧ Hid (TwoV w w' g q d (writeU e s).1 vs) := by
  obtain ⟨F, G, B, hT, hvs⟩ := h
  exact (rswrite_any s hT.r hl).mono fun r w' hh => ⟨hh.1, TwoV.ref hT hvs hh.2⟩
theorem tw_alike (hl : d.load ≤ 90000) (h : TwoV w W g q d d vs) : Calls Try.prog 22 #[.pointer (some ⟨g, 0, none⟩), .pointer (some ⟨q, 0, none⟩)] W fun r w' => r = .returned (.bool true) ∧ Below W.heap.size W w' := by
  obtain ⟨F, G, B, hT, hvs⟩ := h
  exact (alike_any hT (by omega)).mono fun r w' hh => ⟨hh.1, hh.2.2⟩
theorem readU_load8 (d : Dk) : (readU d).1.load ≤ d.load + 2 := by
  have h1 := read_load d 0
  have h2 := read_load (d.read 0).1 1
  unfold readU
  split
  · show (d.read 0).1.load ≤ _; omega
  split
  · show ((d.read 0).1.read 1).1.load ≤ _; omega
  · show ((d.read 0).1.read 1).1.load ≤ _; omega
end
theorem may_4096 {L : List UInt8} (h : L.length = 4096) : Dk.mayL L := by
  unfold Dk.mayL
  rw [h]
  decide
end Go.Proofs.Ytkockhggnbfahaa
