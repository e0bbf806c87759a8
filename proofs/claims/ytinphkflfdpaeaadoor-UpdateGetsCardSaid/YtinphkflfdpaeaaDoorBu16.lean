/- Lemmas under the proofs of this place: ShaRBlock. No statement is proved here. -/
import Derived.Test.YtinphkflfdpaeaaDoorBu11
import Derived.StillTailTactics
set_option linter.unusedVariables false
set_option maxRecDepth 100000
set_option maxHeartbeats 16000000
namespace Go.Proofs.YtinphkflfdpaeaaDoor
open Go.RowKit
theorem rw_cells {w : World} {B : Nat} {A : Option Addr} {L : List UInt32} (h : RW w B A L) (hn : 0 < L.length) : ∃ b off, A = some ⟨b, off, none⟩ ∧ b < B ∧ ∀ k, k < L.length → w.cell? ⟨b, off + k, none⟩ = some (.int .u32 ((L.getD k 0).toNat : Int)) := by
  obtain ⟨b, off, hA, hb, hc⟩ := h.at_ hn
  refine ⟨b, off, hA, hb, fun k hk => ?_⟩
  rw [hc k hk]
  simp [List.getD, List.getElem?_eq_getElem hk]
theorem kL_length : kL.length = 64 := rfl
theorem list_S8 (s : S8) : s.list.length = 8 := rfl
theorem w_ch (x y z : UInt32) : bits .xor .u32 (bits .and .u32 (x.toNat : Int) (y.toNat : Int)) (bits .and .u32 (bits .xor .u32 (x.toNat : Int) 4294967295) (z.toNat : Int)) = ((chL x y z).toNat : Int) := by
  rw [w_and, w_not, w_and, w_xor]; rfl
theorem w_maj (x y z : UInt32) : bits .xor .u32 (bits .xor .u32 (bits .and .u32 (x.toNat : Int) (y.toNat : Int)) (bits .and .u32 (x.toNat : Int) (z.toNat : Int))) (bits .and .u32 (y.toNat : Int) (z.toNat : Int)) = ((majL x y z).toNat : Int) := by
  rw [w_and, w_and, w_and, w_xor, w_xor]; rfl
theorem refBlock_any (s : S8) (B : List UInt8) (A C K : Option Addr) (c d e0 : Nat) (w : World) (hh : RW w w.heap.size A s.list) (hr : RB w w.heap.size C B) (hk : RW w w.heap.size K kL) (hl : B.length = 64) (hd : 64 ≤ d) (hdm : d ≤ 9223372036854775807) :
    Calls Tryd.prog 42 #[.slice A 8 c, .slice C 64 d, .slice K 64 e0] w fun e w' => ∃ A' c', e = .returned (.slice A' 8 c') ∧ RW w' w'.heap.size A' (blockL s B).list ∧ Below w.heap.size w w' := by
  obtain ⟨gh, oh, rfl, hgh, hch⟩ := rw_cells hh (by rw [list_S8]; omega)
  obtain ⟨gk, ok, rfl, hgk, hck⟩ := rw_cells hk (by rw [kL_length]; omega)
  have HSch : Hid (∀ W, RB W W.heap.size C B → Calls Tryd.prog 68 #[.slice C 64 d] W fun e w' => ∃ A' c', e = .returned (.slice A' 64 c') ∧ RW w' w'.heap.size A' (schedK B 64) ∧ Below W.heap.size W w') :=
    fun W h => refSchedule_any B C d _ W h hl hd hdm
  obtain ⟨a0, ha0⟩ : ∃ x, x = s.a := ⟨_, rfl⟩
  obtain ⟨b0, hb0⟩ : ∃ x, x = s.b := ⟨_, rfl⟩
  obtain ⟨c0, hc0⟩ : ∃ x, x = s.c := ⟨_, rfl⟩
  obtain ⟨d0, hd0⟩ : ∃ x, x = s.d := ⟨_, rfl⟩
  obtain ⟨e1, he1⟩ : ∃ x, x = s.e := ⟨_, rfl⟩
  obtain ⟨f0, hf0⟩ : ∃ x, x = s.f := ⟨_, rfl⟩
  obtain ⟨g0, hg0⟩ : ∃ x, x = s.g := ⟨_, rfl⟩
  obtain ⟨h0, hh0⟩ : ∃ x, x = s.h := ⟨_, rfl⟩
  have HS : Hid (s = ⟨a0, b0, c0, d0, e1, f0, g0, h0⟩) := by show _ = _; rw [ha0, hb0, hc0, hd0, he1, hf0, hg0, hh0]
  have q0 : w.cell? ⟨gh, oh, none⟩ = some (.int .u32 (a0.toNat : Int)) := by rw [ha0]; exact hch 0 (by rw [list_S8]; omega)
  have q1 : w.cell? ⟨gh, oh + 1, none⟩ = some (.int .u32 (b0.toNat : Int)) := by rw [hb0]; exact hch 1 (by rw [list_S8]; omega)
  have q2 : w.cell? ⟨gh, oh + 2, none⟩ = some (.int .u32 (c0.toNat : Int)) := by rw [hc0]; exact hch 2 (by rw [list_S8]; omega)
  have q3 : w.cell? ⟨gh, oh + 3, none⟩ = some (.int .u32 (d0.toNat : Int)) := by rw [hd0]; exact hch 3 (by rw [list_S8]; omega)
  have q4 : w.cell? ⟨gh, oh + 4, none⟩ = some (.int .u32 (e1.toNat : Int)) := by rw [he1]; exact hch 4 (by rw [list_S8]; omega)
  have q5 : w.cell? ⟨gh, oh + 5, none⟩ = some (.int .u32 (f0.toNat : Int)) := by rw [hf0]; exact hch 5 (by rw [list_S8]; omega)
  have q6 : w.cell? ⟨gh, oh + 6, none⟩ = some (.int .u32 (g0.toNat : Int)) := by rw [hg0]; exact hch 6 (by rw [list_S8]; omega)
  have q7 : w.cell? ⟨gh, oh + 7, none⟩ = some (.int .u32 (h0.toNat : Int)) := by rw [hh0]; exact hch 7 (by rw [list_S8]; omega)
  have HQ : Hid (∀ W, Below w.heap.size w W → W.cell? ⟨gh, oh, none⟩ = some (.int .u32 (a0.toNat : Int)) ∧ W.cell? ⟨gh, oh + 1, none⟩ = some (.int .u32 (b0.toNat : Int)) ∧ W.cell? ⟨gh, oh + 2, none⟩ = some (.int .u32 (c0.toNat : Int)) ∧ W.cell? ⟨gh, oh + 3, none⟩ = some (.int .u32 (d0.toNat : Int)) ∧
      W.cell? ⟨gh, oh + 4, none⟩ = some (.int .u32 (e1.toNat : Int)) ∧ W.cell? ⟨gh, oh + 5, none⟩ = some (.int .u32 (f0.toNat : Int)) ∧ W.cell? ⟨gh, oh + 6, none⟩ = some (.int .u32 (g0.toNat : Int)) ∧ W.cell? ⟨gh, oh + 7, none⟩ = some (.int .u32 (h0.toNat : Int))) := by
    intro W hb
    have t : ∀ o, W.cell? ⟨gh, o, none⟩ = w.cell? ⟨gh, o, none⟩ := fun o => hb.cell (p := ⟨gh, o, none⟩) hgh
    simp only [t]
    exact ⟨q0, q1, q2, q3, q4, q5, q6, q7⟩
  have HK : Hid (∀ n, n < 64 → w.cell? ⟨gk, ok + n, none⟩ = some (.int .u32 ((kL.getD n 0).toNat : Int))) := fun n hn => hck n (by rw [kL_length]; exact hn)
  clear ha0 hb0 hc0 hd0 he1 hf0 hg0 hh0 q0 q1 q2 q3 q4 q5 q6 q7 hch hck hh hk hl hd hdm
  go_enter Tryd.func42, Tryd.ntmps42
  go_wp2_with (go_at_call 68; (with_reducible refine (HSch.out _ hr).mono ?_); rintro e w1 ⟨A1, c1, rfl, hw1, hb1⟩)
  obtain ⟨q0, q1, q2, q3, q4, q5, q6, q7⟩ := HQ.out _ hb1
  go_quiet (fail)
  clear q0 q1 q2 q3 q4 q5 q6 q7
  have hsl := schedK_length B 64
  obtain ⟨gw, ow, rfl, hgw, hcw⟩ := rw_cells hw1 (by omega)
  have HW : Hid (∀ n, n < 64 → w1.cell? ⟨gw, ow + n, none⟩ = some (.int .u32 (((schedK B 64).getD n 0).toNat : Int))) := fun n hn => hcw n (by omega)
  clear hcw hw1 hsl
  have hbd : Below w1.heap.size w1 (w1.drewN nq) := ⟨rfl, rfl, rfl, Nat.le_refl _, fun _ _ => rfl⟩
  generalize w1.drewN nq = w2 at hbd ⊢
  go_wp2
  go_loopw [8, 9, 10, 11, 12, 13, 14, 15, 16] (fun v8 v9 v10 v11 v12 v13 v14 v15 i wr => ∃ (n : Nat) (r : S8), n ≤ 64 ∧ i = .int .i64 (n : Int) ∧ Hid (r = roundsK (schedK B 64) s n) ∧ v8 = .int .u32 (r.a.toNat : Int) ∧ v9 = .int .u32 (r.b.toNat : Int) ∧ v10 = .int .u32 (r.c.toNat : Int) ∧ v11 = .int .u32 (r.d.toNat : Int) ∧ v12 = .int .u32 (r.e.toNat : Int) ∧ v13 = .int .u32 (r.f.toNat : Int) ∧ v14 = .int .u32 (r.g.toNat : Int) ∧ v15 = .int .u32 (r.h.toNat : Int) ∧ Below w1.heap.size w1 wr) (fun _ _ _ _ _ _ _ _ i _ => 64 - (intOf i).toNat)
  case atStart => exact ⟨0, ⟨a0, b0, c0, d0, e1, f0, g0, h0⟩, by omega, rfl, HS.out.symm, rfl, rfl, rfl, rfl, rfl, rfl, rfl, rfl, hbd⟩
  case round =>
    obtain ⟨n, r, hn, rfl, HR, rfl, rfl, rfl, rfl, rfl, rfl, rfl, rfl, hbr⟩ := hrel
    have hbw : Below w.heap.size w wr := hb1.trans (hbr.mono hb1.size)
    by_cases hlt : n < 64
    · obtain ⟨kk, hkk⟩ : ∃ x, x = kL.getD n 0 := ⟨_, rfl⟩
      obtain ⟨ww, hww⟩ : ∃ x, x = (schedK B 64).getD n 0 := ⟨_, rfl⟩
      have ck : wr.cell? ⟨gk, ok + n, none⟩ = some (.int .u32 (kk.toNat : Int)) := by rw [hbw.cell (p := ⟨gk, ok + n, none⟩) hgk, HK.out _ hlt, hkk]
      have cw : wr.cell? ⟨gw, ow + n, none⟩ = some (.int .u32 (ww.toNat : Int)) := by rw [hbr.cell (p := ⟨gw, ow + n, none⟩) hgw, HW.out _ hlt, hww]
      have HN : Hid (roundsK (schedK B 64) s (n + 1) = roundL r kk ww) := by show _ = _; rw [roundsK, ← HR.out, hkk, hww]
      obtain ⟨va, vb, vc, vd, ve, vf, vg, vh⟩ := r
      clear hkk hww HR
      dsimp only
      obtain ⟨s1, hs1⟩ : ∃ x, x = big1 ve := ⟨_, rfl⟩
      obtain ⟨s2, hs2⟩ : ∃ x, x = big0 va := ⟨_, rfl⟩
      obtain ⟨ch, hch⟩ : ∃ x, x = chL ve vf vg := ⟨_, rfl⟩
      obtain ⟨mj, hmj⟩ : ∃ x, x = majL va vb vc := ⟨_, rfl⟩
      obtain ⟨p1, hp1⟩ : ∃ x, x = vh + s1 := ⟨_, rfl⟩
      obtain ⟨p2, hp2⟩ : ∃ x, x = p1 + ch := ⟨_, rfl⟩
      obtain ⟨p3, hp3⟩ : ∃ x, x = p2 + kk := ⟨_, rfl⟩
      obtain ⟨xx, hxx⟩ : ∃ x, x = p3 + ww := ⟨_, rfl⟩
      obtain ⟨yy, hyy⟩ : ∃ x, x = s2 + mj := ⟨_, rfl⟩
      obtain ⟨na, hna⟩ : ∃ x, x = xx + yy := ⟨_, rfl⟩
      obtain ⟨ne, hne⟩ : ∃ x, x = vd + xx := ⟨_, rfl⟩
      have HX : Hid (roundL ⟨va, vb, vc, vd, ve, vf, vg, vh⟩ kk ww = ⟨na, va, vb, vc, ne, ve, vf, vg⟩) := by
        show _ = _
        unfold roundL
        rw [hna, hne, hyy, hxx, hp3, hp2, hp1, hch, hmj, hs1, hs2]
      have F1 : bits .xor .u32 (bits .xor .u32 ((rotR ve 6).toNat : Int) ((rotR ve 11).toNat : Int)) ((rotR ve 25).toNat : Int) = (s1.toNat : Int) := by rw [w_xor, w_xor, hs1]; rfl
      have F2 : bits .xor .u32 (bits .xor .u32 ((rotR va 2).toNat : Int) ((rotR va 13).toNat : Int)) ((rotR va 22).toNat : Int) = (s2.toNat : Int) := by rw [w_xor, w_xor, hs2]; rfl
      have F3 : bits .xor .u32 (bits .and .u32 (ve.toNat : Int) (vf.toNat : Int)) (bits .and .u32 (bits .xor .u32 (ve.toNat : Int) 4294967295) (vg.toNat : Int)) = (ch.toNat : Int) := by rw [w_ch, hch]
      have F4 : bits .xor .u32 (bits .xor .u32 (bits .and .u32 (va.toNat : Int) (vb.toNat : Int)) (bits .and .u32 (va.toNat : Int) (vc.toNat : Int))) (bits .and .u32 (vb.toNat : Int) (vc.toNat : Int)) = (mj.toNat : Int) := by rw [w_maj, hmj]
      have A1 : ((vh.toNat : Int) + (s1.toNat : Int)) % 4294967296 = (p1.toNat : Int) := by rw [w_add, hp1]
      have A2 : ((p1.toNat : Int) + (ch.toNat : Int)) % 4294967296 = (p2.toNat : Int) := by rw [w_add, hp2]
      have A3 : ((p2.toNat : Int) + (kk.toNat : Int)) % 4294967296 = (p3.toNat : Int) := by rw [w_add, hp3]
      have A4 : ((p3.toNat : Int) + (ww.toNat : Int)) % 4294967296 = (xx.toNat : Int) := by rw [w_add, hxx]
      have A5 : ((s2.toNat : Int) + (mj.toNat : Int)) % 4294967296 = (yy.toNat : Int) := by rw [w_add, hyy]
      have A6 : ((xx.toNat : Int) + (yy.toNat : Int)) % 4294967296 = (na.toNat : Int) := by rw [w_add, hna]
      have A7 : ((vd.toNat : Int) + (xx.toNat : Int)) % 4294967296 = (ne.toNat : Int) := by rw [w_add, hne]
      have T6 : Hid (∀ W, Calls Tryd.prog 69 #[.int .u32 (ve.toNat : Int), .int .u32 6] W fun e w' => e = .returned (.int .u32 ((rotR ve 6).toNat : Int)) ∧ W = w') := fun W => refTurn_any ve 6 W (by decide) (by decide)
      have T11 : Hid (∀ W, Calls Tryd.prog 69 #[.int .u32 (ve.toNat : Int), .int .u32 11] W fun e w' => e = .returned (.int .u32 ((rotR ve 11).toNat : Int)) ∧ W = w') := fun W => refTurn_any ve 11 W (by decide) (by decide)
      have T25 : Hid (∀ W, Calls Tryd.prog 69 #[.int .u32 (ve.toNat : Int), .int .u32 25] W fun e w' => e = .returned (.int .u32 ((rotR ve 25).toNat : Int)) ∧ W = w') := fun W => refTurn_any ve 25 W (by decide) (by decide)
      have T2 : Hid (∀ W, Calls Tryd.prog 69 #[.int .u32 (va.toNat : Int), .int .u32 2] W fun e w' => e = .returned (.int .u32 ((rotR va 2).toNat : Int)) ∧ W = w') := fun W => refTurn_any va 2 W (by decide) (by decide)
      have T13 : Hid (∀ W, Calls Tryd.prog 69 #[.int .u32 (va.toNat : Int), .int .u32 13] W fun e w' => e = .returned (.int .u32 ((rotR va 13).toNat : Int)) ∧ W = w') := fun W => refTurn_any va 13 W (by decide) (by decide)
      have T22 : Hid (∀ W, Calls Tryd.prog 69 #[.int .u32 (va.toNat : Int), .int .u32 22] W fun e w' => e = .returned (.int .u32 ((rotR va 22).toNat : Int)) ∧ W = w') := fun W => refTurn_any va 22 W (by decide) (by decide)
      clear hs1 hs2 hch hmj hp1 hp2 hp3 hxx hyy hna hne
      have u1 : (0 : Int) ≤ (n : Int) := by omega
      have u2 : (n : Int) < 64 := by omega
      go_wp2_with (first
        | (go_at_call 69; (with_reducible refine (T6.out _).mono ?_); rintro e w' ⟨rfl, rfl⟩)
        | (go_at_call 69; (with_reducible refine (T11.out _).mono ?_); rintro e w' ⟨rfl, rfl⟩)
        | (go_at_call 69; (with_reducible refine (T25.out _).mono ?_); rintro e w' ⟨rfl, rfl⟩)
        | (go_at_call 69; (with_reducible refine (T2.out _).mono ?_); rintro e w' ⟨rfl, rfl⟩)
        | (go_at_call 69; (with_reducible refine (T13.out _).mono ?_); rintro e w' ⟨rfl, rfl⟩)
        | (go_at_call 69; (with_reducible refine (T22.out _).mono ?_); rintro e w' ⟨rfl, rfl⟩))
      go_quiet (fail)
      have hbq : Below w1.heap.size w1 (wr.drewN nq) := ⟨hbr.os, hbr.tape, hbr.output, hbr.size, hbr.block⟩
      go_wp2_with (first
        | (go_at_call 69; (with_reducible refine (T6.out _).mono ?_); rintro e w' ⟨rfl, rfl⟩)
        | (go_at_call 69; (with_reducible refine (T11.out _).mono ?_); rintro e w' ⟨rfl, rfl⟩)
        | (go_at_call 69; (with_reducible refine (T25.out _).mono ?_); rintro e w' ⟨rfl, rfl⟩)
        | (go_at_call 69; (with_reducible refine (T2.out _).mono ?_); rintro e w' ⟨rfl, rfl⟩)
        | (go_at_call 69; (with_reducible refine (T13.out _).mono ?_); rintro e w' ⟨rfl, rfl⟩)
        | (go_at_call 69; (with_reducible refine (T22.out _).mono ?_); rintro e w' ⟨rfl, rfl⟩))
      go_roundw
      case rel => exact ⟨n + 1, ⟨na, va, vb, vc, ne, ve, vf, vg⟩, by omega, by go_num, by show _ = _; rw [HN.out, HX.out], by first | rfl | exact congrArg (Value.int .u32) A6, rfl, rfl, rfl, by first | rfl | exact congrArg (Value.int .u32) A7, rfl, rfl, rfl, hbq⟩
      case measure => simp [intOf]; omega
    · have hn64 : n = 64 := by omega
      have HE : Hid (blockL s B = addS ⟨a0, b0, c0, d0, e1, f0, g0, h0⟩ r) := by show _ = _; have hx := HR.out; rw [hn64] at hx; unfold blockL; rw [← hx, ← HS.out]
      obtain ⟨va, vb, vc, vd, ve, vf, vg, vh⟩ := r
      clear hn64 HR
      dsimp only
      obtain ⟨z0, hz0⟩ : ∃ x, x = a0 + va := ⟨_, rfl⟩
      obtain ⟨z1, hz1⟩ : ∃ x, x = b0 + vb := ⟨_, rfl⟩
      obtain ⟨z2, hz2⟩ : ∃ x, x = c0 + vc := ⟨_, rfl⟩
      obtain ⟨z3, hz3⟩ : ∃ x, x = d0 + vd := ⟨_, rfl⟩
      obtain ⟨z4, hz4⟩ : ∃ x, x = e1 + ve := ⟨_, rfl⟩
      obtain ⟨z5, hz5⟩ : ∃ x, x = f0 + vf := ⟨_, rfl⟩
      obtain ⟨z6, hz6⟩ : ∃ x, x = g0 + vg := ⟨_, rfl⟩
      obtain ⟨z7, hz7⟩ : ∃ x, x = h0 + vh := ⟨_, rfl⟩
      have HZ : Hid ((blockL s B).list = [z0, z1, z2, z3, z4, z5, z6, z7]) := by show _ = _; rw [HE.out, hz0, hz1, hz2, hz3, hz4, hz5, hz6, hz7]; rfl
      have Z0 : ((a0.toNat : Int) + (va.toNat : Int)) % 4294967296 = (z0.toNat : Int) := by rw [w_add, hz0]
      have Z1 : ((b0.toNat : Int) + (vb.toNat : Int)) % 4294967296 = (z1.toNat : Int) := by rw [w_add, hz1]
      have Z2 : ((c0.toNat : Int) + (vc.toNat : Int)) % 4294967296 = (z2.toNat : Int) := by rw [w_add, hz2]
      have Z3 : ((d0.toNat : Int) + (vd.toNat : Int)) % 4294967296 = (z3.toNat : Int) := by rw [w_add, hz3]
      have Z4 : ((e1.toNat : Int) + (ve.toNat : Int)) % 4294967296 = (z4.toNat : Int) := by rw [w_add, hz4]
      have Z5 : ((f0.toNat : Int) + (vf.toNat : Int)) % 4294967296 = (z5.toNat : Int) := by rw [w_add, hz5]
      have Z6 : ((g0.toNat : Int) + (vg.toNat : Int)) % 4294967296 = (z6.toNat : Int) := by rw [w_add, hz6]
      have Z7 : ((h0.toNat : Int) + (vh.toNat : Int)) % 4294967296 = (z7.toNat : Int) := by rw [w_add, hz7]
      clear hz0 hz1 hz2 hz3 hz4 hz5 hz6 hz7
      obtain ⟨q0, q1, q2, q3, q4, q5, q6, q7⟩ := HQ.out _ hbw
      go_wp2
      go_still_tail 40, (by kernel_rfl)
      change wpList _ _ _ _ _ wr.drew
      go_wp2
      go_ret
      have hnew : RW (wr.alloc (.cells #[.int .u32 (((a0.toNat : Int) + (va.toNat : Int)) % 4294967296), .int .u32 (((b0.toNat : Int) + (vb.toNat : Int)) % 4294967296), .int .u32 (((c0.toNat : Int) + (vc.toNat : Int)) % 4294967296), .int .u32 (((d0.toNat : Int) + (vd.toNat : Int)) % 4294967296), .int .u32 (((e1.toNat : Int) + (ve.toNat : Int)) % 4294967296), .int .u32 (((f0.toNat : Int) + (vf.toNat : Int)) % 4294967296), .int .u32 (((g0.toNat : Int) + (vg.toNat : Int)) % 4294967296), .int .u32 (((h0.toNat : Int) + (vh.toNat : Int)) % 4294967296)] 66)) (wr.heap.size + 1) (some ⟨wr.heap.size, 0, none⟩) [z0, z1, z2, z3, z4, z5, z6, z7] := by
        rw [Z0, Z1, Z2, Z3, Z4, Z5, Z6, Z7]
        exact rw_new wr [z0, z1, z2, z3, z4, z5, z6, z7]
      exact ⟨some ⟨wr.heap.size, 0, none⟩, 8, rfl, by rw [HZ.out]; exact RW.more hnew (by show _ ≤ (wr.alloc _).heap.size; simp), (hbw.alloc hbw.size _).drew⟩
end Go.Proofs.YtinphkflfdpaeaaDoor
