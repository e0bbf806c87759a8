/- Lemmas under the proofs of this place: DagProg. No statement is proved here. -/
import Derived.Test.YtbeihiokjhfepaaBu24
import Derived.Test.YtbeihiokjhfepaaBu28
import Derived.Test.YtbeihiokjhfepaaBu26
set_option linter.unusedSimpArgs false
set_option linter.unusedVariables false
namespace Go.Proofs.Ytbeihiokjhfepaa
open Go.RowKit
theorem preds_le {g : Gr} (ok : GrOk g) (i : Nat) (hi : i < g.length) : (g.getD i nd0).preds.length ≤ g.length := by
  have h1 := (up_nodup (preds_up ok hi)).length_le_of_subset (l₂ := idsG g) (fun x hx => pred_in ok hi hx)
  rwa [idsG_len] at h1
theorem dagempty_any (w : World) : Calls Try.prog 8 #[] w fun e w' => ∃ (p : Nat) (F : Nat → Prop), e = .returned (.pointer (some ⟨p, 0, none⟩)) ∧ Hid (PDag w' p F []) ∧ Hid (∀ k, F k → w.heap.size ≤ k) ∧ Hid (Below w.heap.size w w') := pempty_any w
section
variable {w : World} {p : Nat} {F : Nat → Prop} {g : Gr}
theorem dagadd_any (h : PDag w p F g) (ok : GrOk g) (hg : g.length ≤ 1000) (x : Bs) (l : List Bs) (A : Option Addr) (n c : Nat) (hx : x.length ≤ 1000) (hn : n = l.length) (hs : SS w w.heap.size A l) (hA : 0 < n → ∀ ad, A = some ad → ¬ F ad.block) (hl : n ≤ 1000) (hc : n ≤ c) (hcm : c ≤ 9223372036854775807) :
    Calls Try.prog 12 #[.pointer (some ⟨p, 0, none⟩), .string (text x), .slice A n c] w fun e w' => e = .returned (.int .i64 (addG g x l).2) ∧ ∃ F' : Nat → Prop, Hid (PDagN w w' p F' (addG g x l).1) ∧ Hid (Turns w w' F F') := padd_any h ok hg x l A n c hn hs hl
theorem daghas_any (h : PDag w p F g) (ok : GrOk g) (hg : g.length ≤ 1000) (x : Bs) (hx : x.length ≤ 1000) : Calls Try.prog 18 #[.pointer (some ⟨p, 0, none⟩), .string (text x)] w fun e w' => e = .returned (.bool (hasG g x)) ∧ Below w.heap.size w w' := by
  obtain ⟨GA, gn, gc, mv, hV⟩ := h.view
  exact phas_any hV x
theorem daglen_any (h : PDag w p F g) (ok : GrOk g) (hg : g.length ≤ 1000) : Calls Try.prog 30 #[.pointer (some ⟨p, 0, none⟩)] w fun e w' => e = .returned (.int .i64 ((g.length : Nat) : Int)) ∧ Below w.heap.size w w' := by
  obtain ⟨GA, gn, gc, mv, hV⟩ := h.view
  exact plen_any hV
theorem dagpreds_any (h : PDag w p F g) (ok : GrOk g) (hg : g.length ≤ 1000) (x : Bs) (hx : x.length ≤ 1000) : Calls Try.prog 22 #[.pointer (some ⟨p, 0, none⟩), .string (text x)] w (GivesStrs (predsG g x) w) := by
  obtain ⟨GA, gn, gc, mv, hV⟩ := h.view
  exact ppreds_any ok hV (fun i hi => by have := preds_le ok i hi; omega) x
theorem dagkids_any (h : PDag w p F g) (ok : GrOk g) (hg : g.length ≤ 1000) (x : Bs) (hx : x.length ≤ 1000) : Calls Try.prog 24 #[.pointer (some ⟨p, 0, none⟩), .string (text x)] w (GivesStrs (kidsG g x) w) := by
  obtain ⟨GA, gn, gc, mv, hV⟩ := h.view
  exact pkids_any ok hV (by omega) x
theorem dagheads_any (h : PDag w p F g) (ok : GrOk g) (hg : g.length ≤ 1000) : Calls Try.prog 34 #[.pointer (some ⟨p, 0, none⟩)] w (GivesStrs (headsG g) w) := by
  obtain ⟨GA, gn, gc, mv, hV⟩ := h.view
  exact pheads_any ok hV (by omega)
theorem dagdepth_any (h : PDag w p F g) (ok : GrOk g) (hg : g.length ≤ 1000) (x : Bs) (hx : x.length ≤ 1000) : Calls Try.prog 20 #[.pointer (some ⟨p, 0, none⟩), .string (text x)] w fun e w' => e = .returned (.int .i64 ((depthG g x : Nat) : Int)) ∧ Below w.heap.size w w' := by
  obtain ⟨GA, gn, gc, mv, hV⟩ := h.view
  exact pdepth_any hV x
theorem dagorder_any (h : PDag w p F g) (ok : GrOk g) (hg : g.length ≤ 1000) : Calls Try.prog 28 #[.pointer (some ⟨p, 0, none⟩)] w (GivesStrs (orderG g) w) := by
  obtain ⟨GA, gn, gc, mv, hV⟩ := h.view
  exact porder_any ok hV (by omega)
theorem dagahead_any (h : PDag w p F g) (ok : GrOk g) (hg : g.length ≤ 1000) (x y : Bs) (hx : x.length ≤ 1000) (hy : y.length ≤ 1000) : Calls Try.prog 26 #[.pointer (some ⟨p, 0, none⟩), .string (text x), .string (text y)] w fun e w' => e = .returned (.bool (aheadG g x y)) ∧ Below w.heap.size w w' := by
  obtain ⟨GA, gn, gc, mv, hV⟩ := h.view
  exact pahead_any ok hV (fun i hi => by have := preds_le ok i hi; omega) (by omega) x y
theorem dagpast_any (h : PDag w p F g) (ok : GrOk g) (hg : g.length ≤ 1000) (l : List Bs) (A : Option Addr) (n c : Nat) (hn : n = l.length) (hs : SS w w.heap.size A l) (hl : n ≤ 1000) (hc : n ≤ c) (hcm : c ≤ 9223372036854775807) : Calls Try.prog 16 #[.pointer (some ⟨p, 0, none⟩), .slice A n c] w (GivesStrs (pastG g l) w) := by
  obtain ⟨GA, gn, gc, mv, hV⟩ := h.view
  exact ppast_any ok hV (fun i hi => by have := preds_le ok i hi; omega) (by omega) l A n c hn hs hl
theorem dagclone_any (h : PDag w p F g) (ok : GrOk g) (hg : g.length ≤ 1000) : Calls Try.prog 32 #[.pointer (some ⟨p, 0, none⟩)] w fun e w' => ∃ (q : Nat) (F' : Nat → Prop), e = .returned (.pointer (some ⟨q, 0, none⟩)) ∧ Hid (PDagC w p w' q F' g) ∧ Hid (∀ k, F' k → w.heap.size ≤ k) ∧ Hid (Below w.heap.size w w') := pclone_any h hg
end
theorem dagadd_none (x : ByteArray) (A : Option Addr) (n c : Nat) (w : World) : Calls Try.prog 12 #[.pointer none, .string x, .slice A n c] w fun e w' => e = .returned (.int .i64 8) ∧ Below w.heap.size w w' := padd_none x A n c w
theorem daghas_none (x : ByteArray) (w : World) : Calls Try.prog 18 #[.pointer none, .string x] w fun e w' => e = .returned (.bool false) ∧ Below w.heap.size w w' := phas_none x w
theorem daglen_none (w : World) : Calls Try.prog 30 #[.pointer none] w fun e w' => e = .returned (.int .i64 0) ∧ Below w.heap.size w w' := plen_none w
theorem dagpreds_none (x : ByteArray) (w : World) : Calls Try.prog 22 #[.pointer none, .string x] w (GivesStrs [] w) := ppreds_none x w
theorem dagkids_none (x : ByteArray) (w : World) : Calls Try.prog 24 #[.pointer none, .string x] w (GivesStrs [] w) := pkids_none x w
theorem dagheads_none (w : World) : Calls Try.prog 34 #[.pointer none] w (GivesStrs [] w) := pheads_none w
theorem dagdepth_none (x : ByteArray) (w : World) : Calls Try.prog 20 #[.pointer none, .string x] w fun e w' => e = .returned (.int .i64 0) ∧ Below w.heap.size w w' := pdepth_none x w
theorem dagorder_none (w : World) : Calls Try.prog 28 #[.pointer none] w (GivesStrs [] w) := porder_none w
theorem dagahead_none (x y : ByteArray) (w : World) : Calls Try.prog 26 #[.pointer none, .string x, .string y] w fun e w' => e = .returned (.bool false) ∧ Below w.heap.size w w' := pahead_none x y w
theorem dagpast_none (A : Option Addr) (n c : Nat) (w : World) : Calls Try.prog 16 #[.pointer none, .slice A n c] w (GivesStrs [] w) := ppast_none A n c w
theorem dagclone_none (w : World) : Calls Try.prog 32 #[.pointer none] w fun e w' => e = .returned (.pointer none) ∧ Below w.heap.size w w' := pclone_none w
end Go.Proofs.Ytbeihiokjhfepaa
