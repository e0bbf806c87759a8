/- The walks of num.Text and of the reference's Text; bytes as a text. -/
import Derived.Test.YtdiihnpnjgadeaaPut
import Derived.Lib.Hide
namespace Go.Proofs.Ytdiihnpnjgadeaa
open Go.RowKit

/-- 'string(b)'. -/
theorem run_str {P : Program} {w : World} {B : Nat} {A : Option Addr} {L : List UInt8} (src e dst : TypeId) (hs : P.underlying src = some (.slice e)) (he : P.underlying e = some (.int .u8)) (hd : P.underlying dst = some .string)
    (h : RB w B A L) (n c : Nat) (hn : n = L.length) : (convert src dst (.slice A n c)).run P w = .ok (.string (text L)) w := by
  subst hn
  rcases A with _ | ad
  · have hL : L = [] := by
      rcases L with _ | ⟨x, L⟩
      · rfl
      · obtain ⟨ad, h, _⟩ := h.2 (by simp)
        cases h
    subst hL
    exact run_convert_bytes_nil w src e hs he 0 c dst hd
  · have hl : (loadCells ad L.length).run P w = .ok ((L.map fun b => (b.toNat : Int)).map (Value.int .u8)).toArray w := by
      have := run_loadCells_list (P := P) w ad (cells L) (fun j v hj => by
        rcases Nat.eq_zero_or_pos L.length with h0 | h0
        · have hL : L = [] := List.eq_nil_of_length_eq_zero h0
          subst hL; simp [cells] at hj
        · obtain ⟨ad', h1, _, hc⟩ := h.2 h0
          injection h1 with h1
          subst h1
          exact hc j v hj)
      have e : (L.map fun b => (b.toNat : Int)).map (Value.int .u8) = cells L := by simp [cells]
      rw [e]
      simpa [cells_length] using this
    rw [run_convert_bytes_string w src dst e _ _ c hs he hd, run_bytesToString w ad _ c _ hl, foldl_push_bytes]
    have e2 : (L.map fun b => (b.toNat : Int)).map (fun n => UInt8.ofNat n.toNat) = L := by
      rw [List.map_map]
      conv => rhs; rw [← List.map_id L]
      apply List.map_congr_left
      intro b _
      simp
    rw [e2]
    simp [text, ByteArray.empty, ByteArray.emptyWithCapacity]
    rfl

theorem own_rb {w : World} {base : Nat} {A : Option Addr} {L : List UInt8} {c : Nat} (h : Own w base A L c) : RB w w.heap.size A L := Reads.of_own h

set_option maxRecDepth 100000 in
set_option maxHeartbeats 1000000 in
theorem text_yes (L : List UInt8) (A : Option Addr) (c B : Nat) (w : World) (hr : RB w w.heap.size A L) (hl : L.length ≤ 262144) :
    Calls Try.prog 16 #[.slice A L.length c] w (GivesBytes (putL L.length ++ L) w) := by
  obtain ⟨i0, hi0, hz0, hz1, hz2⟩ := info_parts Try.info5
  have hp5 := putL_len5 L.length (by omega)
  go_enter Try.func16, Try.ntmps16
  go_wp2_with (first
    | (go_at_call 8; refine (put_yes L.length _ (by omega)).mono ?_; rintro e w1 ⟨A1, c1, rfl, hown1, hb1⟩)
    | (at_builtin; refine wpList_append_any _ rfl (.tmp 15) (.tmp 16) _ rfl w.heap.size 5 i0 _ 1 1 Try.underlying22 hi0 hz0 hz1 hz2 rfl (by omega) _ (putL L.length).length (cells (putL L.length)) rfl hown1 w.heap.size A L.length c (cells L) rfl (hr.below hb1) (cells_one _) (by simp only [maxLen]; omega) (by omega) hb1.size ?_; intro v2 w2 hown2 hg2 hat2))
  have hb2 : Below w.heap.size w w2 := hb1.grown hg2 hb1.size (fun k hk => (World.ownsRow.lt hown1 k hk).1)
  rw [← cells_append, ← List.length_append] at hown2
  obtain ⟨A2, c2, hv⟩ := own_form hown2
  go_ret2
  exact ⟨A2, c2, by rw [hv]; rfl, by rw [hv] at hown2; exact hown2, hb2⟩

theorem text_no (L : List UInt8) (n : Nat) (A : Option Addr) (c : Nat) (w : World) (hl : 262144 < n) : Calls Try.prog 16 #[.slice A n c] w (GivesErr 3 w) := by
  go_enter Try.func16, Try.ntmps16
  go_wp2
  go_ret2
  exact ⟨rfl, rfl⟩

set_option maxRecDepth 100000 in
set_option maxHeartbeats 1000000 in
theorem refText_yes (L : List UInt8) (A : Option Addr) (c B : Nat) (w : World) (hr : RB w w.heap.size A L) (hl : L.length ≤ 262144) :
    Calls Try.prog 17 #[.slice A L.length c] w (GivesBytes (putL L.length ++ L) w) := by
  obtain ⟨i0, hi0, hz0, hz1, hz2⟩ := info_parts Try.info5
  have hp5 := putL_len5 L.length (by omega)
  go_enter Try.func17, Try.ntmps17
  go_wp2_with (first
    | (go_at_call 9; refine (refPut_yes L.length _ (by omega)).mono ?_; rintro e w1 ⟨A1, c1, rfl, hown1, hb1⟩)
    | (at_builtin; refine wpList_append_any _ rfl (.tmp 15) (.tmp 16) _ rfl w.heap.size 5 i0 _ 1 1 Try.underlying22 hi0 hz0 hz1 hz2 rfl (by omega) _ (putL L.length).length (cells (putL L.length)) rfl hown1 w.heap.size A L.length c (cells L) rfl (hr.below hb1) (cells_one _) (by simp only [maxLen]; omega) (by omega) hb1.size ?_; intro v2 w2 hown2 hg2 hat2))
  have hb2 : Below w.heap.size w w2 := hb1.grown hg2 hb1.size (fun k hk => (World.ownsRow.lt hown1 k hk).1)
  rw [← cells_append, ← List.length_append] at hown2
  obtain ⟨A2, c2, hv⟩ := own_form hown2
  go_ret2
  exact ⟨A2, c2, by rw [hv]; rfl, by rw [hv] at hown2; exact hown2, hb2⟩

end Go.Proofs.Ytdiihnpnjgadeaa
