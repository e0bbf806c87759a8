/- Lemmas under the proofs of this place: ShaPID, UpPSame, UpRSame. No statement is proved here. -/
import Derived.Test.YtinphkflfdpaeaaDoorBu30
import Derived.Test.YtinphkflfdpaeaaDoorBu29
import Derived.Test.YtinphkflfdpaeaaDoorBu25
import Derived.Test.YtinphkflfdpaeaaDoorBu21
set_option linter.unusedSimpArgs false
set_option linter.unusedVariables false
set_option maxRecDepth 100000
set_option maxHeartbeats 16000000
namespace Go.Proofs.YtinphkflfdpaeaaDoor
section
open Go.RowKit
theorem id_any (L : List UInt8) (A : Option Addr) (n c B : Nat) (w : World) (hr : RB w B A L) (hBw : B ≤ w.heap.size) (hT : Tab w) (HL : Hid (n = L.length)) (hl : L.length ≤ 100000) (hc : L.length ≤ c) (hcm : c ≤ 9223372036854775807) :
    Calls Tryd.prog 39 #[.slice A n c] w fun e w' => e = .returned (.string (text (idL L))) ∧ Below w.heap.size w w' := by
  have e := HL.out
  subst e
  have hT0 := hT.lt
  have HTb : Hid (Tab w) := hT
  have HBg := Lib.hid (begin_any w)
  clear hT
  go_enter Tryd.func39, Tryd.ntmps39
  go_wp2_with (first
    | (go_at_call 65; (with_reducible refine HBg.out.mono ?_); rintro e w1 ⟨rfl, hk1, hb1⟩; have HK1 := Lib.hid hk1; clear hk1)
    | (go_at_call 66; (with_reducible refine (add_below [] L w.heap.size B A c w1 HK1.out (by omega) (HTb.out.below hb1) ((hr.below (hb1.mono hBw))) hBw (by simp; omega) hc hcm).mono ?_); rintro e w2 ⟨rfl, hk2, ho2⟩; have b2 : Below w.heap.size w w2 := below_only hb1 ho2 (Nat.le_refl _) hb1.size; have HK2 := Lib.hid (show HashAt w2 w.heap.size L from by simpa using hk2); clear hk2; have HSm := Lib.hid (sum_any L w.heap.size w2 HK2.out (HTb.out.below b2) hl))
    | (go_at_call 67; (with_reducible refine HSm.out.mono ?_); rintro e w3 ⟨rfl, hb3⟩))
  go_ret
  exact ⟨rfl, b2.trans (hb3.mono b2.size)⟩
end
section
open Go.RowKit
theorem upsame_any (u v : Upd) (A C : Option Addr) (c d : Nat) (w : World) (hr : SS w w.heap.size A u.preds) (hs : SS w w.heap.size C v.preds) (hn : u.preds.length ≤ 1000) (hm : v.preds.length ≤ 1000) (hc : u.preds.length ≤ c) (hcm : c ≤ 9223372036854775807) (hd : v.preds.length ≤ d) (hdm : d ≤ 9223372036854775807) :
    Calls Tryd.prog 15 #[updV u A c, updV v C d] w fun e w' => e = .returned (.bool (decide (u = v))) ∧ Below w.heap.size w w' := by
  have HT : Hid (∀ W, Below w.heap.size w W → Calls Tryd.prog 33 #[.slice A u.preds.length c, .slice C v.preds.length d] W fun e w' => e = .returned (.bool (decide (u.preds = v.preds))) ∧ Below W.heap.size W w') := fun W hW => equalS_any _ _ A C _ c _ d w.heap.size W rfl rfl (hr.below hW) (hs.below hW) hn hm
  have HO : ∀ W, (binOp .eql 24 (opV u.op) (opV v.op)).run Tryd.prog W = .ok (.bool (decide (u.op = v.op))) W := fun W => eq_opn _ _ W
  obtain ⟨R, hR⟩ : ∃ R, R = decide (u = v) := ⟨_, rfl⟩
  have HR : Hid (R = (decide (u.author = v.author) && decide (u.preds = v.preds) && decide (u.op = v.op))) := by show _ = _; rw [hR, upd_eq]
  rw [← hR]
  clear hR
  obtain ⟨a, p, k, nm, tx, z, x⟩ := u
  obtain ⟨b, q, k', nm', tx', z', x'⟩ := v
  simp only at HT HR hn hm
  obtain ⟨n, hnn⟩ : ∃ n, n = p.length := ⟨_, rfl⟩
  obtain ⟨m, hmm⟩ : ∃ n, n = q.length := ⟨_, rfl⟩
  obtain ⟨r1, hr1⟩ : ∃ r, r = decide (p = q) := ⟨_, rfl⟩
  obtain ⟨r2, hr2⟩ : ∃ r, r = decide ((⟨k, nm, tx, z, x⟩ : Opn) = ⟨k', nm', tx', z', x'⟩) := ⟨_, rfl⟩
  rw [← hnn, ← hmm, ← hr1] at HT
  rw [← hr1, ← hr2] at HR
  simp only at HO
  rw [← hr2] at HO
  obtain ⟨t1, h1⟩ : ∃ t, t = text nm := ⟨_, rfl⟩
  obtain ⟨t2, h2⟩ : ∃ t, t = text tx := ⟨_, rfl⟩
  obtain ⟨t3, h3⟩ : ∃ t, t = text x := ⟨_, rfl⟩
  obtain ⟨t1', h1'⟩ : ∃ t, t = text nm' := ⟨_, rfl⟩
  obtain ⟨t2', h2'⟩ : ∃ t, t = text tx' := ⟨_, rfl⟩
  obtain ⟨t3', h3'⟩ : ∃ t, t = text x' := ⟨_, rfl⟩
  have eV : opV ⟨k, nm, tx, z, x⟩ = .agg #[.int .i64 k, .string t1, .string t2, .int .i64 z, .string t3] := by rw [h1, h2, h3]; rfl
  have eV' : opV ⟨k', nm', tx', z', x'⟩ = .agg #[.int .i64 k', .string t1', .string t2', .int .i64 z', .string t3'] := by rw [h1', h2', h3']; rfl
  rw [eV, eV'] at HO
  show Calls Tryd.prog 15 #[.agg #[.int .i64 a, .slice A p.length c, .int .i64 k, .string (text nm), .string (text tx), .int .i64 z, .string (text x)], .agg #[.int .i64 b, .slice C q.length d, .int .i64 k', .string (text nm'), .string (text tx'), .int .i64 z', .string (text x')]] w _
  rw [← h1, ← h2, ← h3, ← h1', ← h2', ← h3', ← hnn, ← hmm]
  clear h1 h2 h3 h1' h2' h3' hnn hmm eV eV' hr hs hn hm hc hcm hd hdm hr1 hr2
  have hb0 : Below w.heap.size w (w.alloc (.cells #[.int .i64 a, .slice A n c, .int .i64 k, .string t1, .string t2, .int .i64 z, .string t3] 26)) := (Below.refl _ _).alloc (Nat.le_refl _) _
  have hK := Lib.hid (Blk.new w 26 #[.int .i64 a, .slice A n c, .int .i64 k, .string t1, .string t2, .int .i64 z, .string t3])
  have s0 : (w.alloc (.cells #[.int .i64 a, .slice A n c, .int .i64 k, .string t1, .string t2, .int .i64 z, .string t3] 26)).heap.size = w.heap.size + 1 := by simp
  obtain ⟨W1, hW1⟩ : ∃ W1, W1 = w.alloc (.cells #[.int .i64 a, .slice A n c, .int .i64 k, .string t1, .string t2, .int .i64 z, .string t3] 26) := ⟨_, rfl⟩
  have hb1 : Below w.heap.size w (W1.alloc (.cells #[.int .i64 b, .slice C m d, .int .i64 k', .string t1', .string t2', .int .i64 z', .string t3'] 26)) := by rw [hW1]; exact hb0.alloc hb0.size _
  have hL := Lib.hid (Blk.new W1 26 #[.int .i64 b, .slice C m d, .int .i64 k', .string t1', .string t2', .int .i64 z', .string t3'])
  have hK1 := Lib.hid (hK.out.alloc (.cells #[.int .i64 b, .slice C m d, .int .i64 k', .string t1', .string t2', .int .i64 z', .string t3'] 26))
  rw [← hW1] at hK1 s0
  rw [s0] at hL
  clear hK hb0
  subst hW1
  have HB0 := Lib.hid hb1
  clear hb1
  obtain ⟨kl, k0, k1, k2, k3, k4, k5, k6, kf⟩ := updC_of hK1.out
  obtain ⟨ll, l0, l1, l2, l3, l4, l5, l6, lf⟩ := updC_of hL.out
  have a23 := fun w' => Tryd.opAgg w'
  have s23 := fun w' => Tryd.opSize w'
  by_cases hab : a = b
  · subst hab
    go_enter Tryd.func15, Tryd.ntmps15
    go_wp2_with (first
      | (go_at_call 33; (with_reducible refine (HT.out _ HB0.out).mono ?_); rintro e w1 ⟨rfl, b1⟩; have hK2 := Lib.hid (hK1.out.below b1 kl); have hL2 := Lib.hid (hL.out.below b1 ll); obtain ⟨ml, m0, m1, m2, m3, m4, m5, m6, mf⟩ := updC_of hK2.out; obtain ⟨nl, n0, n1, n2, n3, n4, n5, n6, nf⟩ := updC_of hL2.out))
    all_goals go_ret
    all_goals
      refine ⟨?_, HB0.out.trans (b1.mono HB0.out.size)⟩
      show Ending.returned (Value.bool _) = Ending.returned (Value.bool _)
      have hr := HR.out
      clear HR HT HB0 hK1 hL k0 k1 k2 k3 k4 k5 k6 kf kl l0 l1 l2 l3 l4 l5 l6 lf ll a23 s23 b1 hK2 hL2 m0 m1 m2 m3 m4 m5 m6 ml mf n0 n1 n2 n3 n4 n5 n6 nl nf HO
      simp_all
  · have hab' : decide (a = b) = false := decide_eq_false hab
    go_enter Tryd.func15, Tryd.ntmps15
    go_wp2
    go_ret
    refine ⟨?_, HB0.out⟩
    show Ending.returned (Value.bool _) = Ending.returned (Value.bool _)
    rw [HR.out, hab']
    rfl
end
section
open Go.RowKit
theorem rusame_any (u v : Upd) (A C : Option Addr) (c d B : Nat) (w : World) (hr : SS w B A u.preds) (hs : SS w B C v.preds) (hB : B ≤ w.heap.size) (hn : u.preds.length ≤ 1000000) (hm : v.preds.length ≤ 1000000) :
    Calls Tryd.prog 14 #[updV u A c, updV v C d] w fun e w' => e = .returned (.bool (decide (u = v))) ∧ Below w.heap.size w w' := by
  have HT : Hid (∀ W, Below w.heap.size w W → Calls Tryd.prog 32 #[.slice A u.preds.length c, .slice C v.preds.length d] W fun e w' => e = .returned (.bool (decide (u.preds = v.preds))) ∧ Below W.heap.size W w') := fun W hW => texts_any _ _ A C _ c _ d B W rfl rfl (hr.below (hW.mono hB)) (hs.below (hW.mono hB)) hn hm
  have HO : ∀ W, (binOp .eql 24 (opV u.op) (opV v.op)).run Tryd.prog W = .ok (.bool (decide (u.op = v.op))) W := fun W => eq_opn _ _ W
  obtain ⟨R, hR⟩ : ∃ R, R = decide (u = v) := ⟨_, rfl⟩
  have HR : Hid (R = (decide (u.author = v.author) && decide (u.preds = v.preds) && decide (u.op = v.op))) := by show _ = _; rw [hR, upd_eq]
  rw [← hR]
  clear hR
  obtain ⟨a, p, k, nm, tx, z, x⟩ := u
  obtain ⟨b, q, k', nm', tx', z', x'⟩ := v
  simp only at HT HR hn hm
  obtain ⟨n, hnn⟩ : ∃ n, n = p.length := ⟨_, rfl⟩
  obtain ⟨m, hmm⟩ : ∃ n, n = q.length := ⟨_, rfl⟩
  obtain ⟨r1, hr1⟩ : ∃ r, r = decide (p = q) := ⟨_, rfl⟩
  obtain ⟨r2, hr2⟩ : ∃ r, r = decide ((⟨k, nm, tx, z, x⟩ : Opn) = ⟨k', nm', tx', z', x'⟩) := ⟨_, rfl⟩
  rw [← hnn, ← hmm, ← hr1] at HT
  rw [← hr1, ← hr2] at HR
  simp only at HO
  rw [← hr2] at HO
  obtain ⟨t1, h1⟩ : ∃ t, t = text nm := ⟨_, rfl⟩
  obtain ⟨t2, h2⟩ : ∃ t, t = text tx := ⟨_, rfl⟩
  obtain ⟨t3, h3⟩ : ∃ t, t = text x := ⟨_, rfl⟩
  obtain ⟨t1', h1'⟩ : ∃ t, t = text nm' := ⟨_, rfl⟩
  obtain ⟨t2', h2'⟩ : ∃ t, t = text tx' := ⟨_, rfl⟩
  obtain ⟨t3', h3'⟩ : ∃ t, t = text x' := ⟨_, rfl⟩
  have eV : opV ⟨k, nm, tx, z, x⟩ = .agg #[.int .i64 k, .string t1, .string t2, .int .i64 z, .string t3] := by rw [h1, h2, h3]; rfl
  have eV' : opV ⟨k', nm', tx', z', x'⟩ = .agg #[.int .i64 k', .string t1', .string t2', .int .i64 z', .string t3'] := by rw [h1', h2', h3']; rfl
  rw [eV, eV'] at HO
  show Calls Tryd.prog 14 #[.agg #[.int .i64 a, .slice A p.length c, .int .i64 k, .string (text nm), .string (text tx), .int .i64 z, .string (text x)], .agg #[.int .i64 b, .slice C q.length d, .int .i64 k', .string (text nm'), .string (text tx'), .int .i64 z', .string (text x')]] w _
  rw [← h1, ← h2, ← h3, ← h1', ← h2', ← h3', ← hnn, ← hmm]
  clear h1 h2 h3 h1' h2' h3' hnn hmm eV eV' hr hs hn hm hr1 hr2
  have hb0 : Below w.heap.size w (w.alloc (.cells #[.int .i64 a, .slice A n c, .int .i64 k, .string t1, .string t2, .int .i64 z, .string t3] 26)) := (Below.refl _ _).alloc (Nat.le_refl _) _
  have hK := Lib.hid (Blk.new w 26 #[.int .i64 a, .slice A n c, .int .i64 k, .string t1, .string t2, .int .i64 z, .string t3])
  have s0 : (w.alloc (.cells #[.int .i64 a, .slice A n c, .int .i64 k, .string t1, .string t2, .int .i64 z, .string t3] 26)).heap.size = w.heap.size + 1 := by simp
  obtain ⟨W1, hW1⟩ : ∃ W1, W1 = w.alloc (.cells #[.int .i64 a, .slice A n c, .int .i64 k, .string t1, .string t2, .int .i64 z, .string t3] 26) := ⟨_, rfl⟩
  have hb1 : Below w.heap.size w (W1.alloc (.cells #[.int .i64 b, .slice C m d, .int .i64 k', .string t1', .string t2', .int .i64 z', .string t3'] 26)) := by rw [hW1]; exact hb0.alloc hb0.size _
  have hL := Lib.hid (Blk.new W1 26 #[.int .i64 b, .slice C m d, .int .i64 k', .string t1', .string t2', .int .i64 z', .string t3'])
  have hK1 := Lib.hid (hK.out.alloc (.cells #[.int .i64 b, .slice C m d, .int .i64 k', .string t1', .string t2', .int .i64 z', .string t3'] 26))
  rw [← hW1] at hK1 s0
  rw [s0] at hL
  clear hK hb0
  subst hW1
  have HB0 := Lib.hid hb1
  clear hb1
  obtain ⟨kl, k0, k1, k2, k3, k4, k5, k6, kf⟩ := updC_of hK1.out
  obtain ⟨ll, l0, l1, l2, l3, l4, l5, l6, lf⟩ := updC_of hL.out
  have a23 := fun w' => Tryd.opAgg w'
  have s23 := fun w' => Tryd.opSize w'
  by_cases hab : a = b
  · subst hab
    go_enter Tryd.func14, Tryd.ntmps14
    go_wp2_with (first
      | (go_at_call 32; (with_reducible refine (HT.out _ HB0.out).mono ?_); rintro e w1 ⟨rfl, b1⟩; have hK2 := Lib.hid (hK1.out.below b1 kl); have hL2 := Lib.hid (hL.out.below b1 ll); obtain ⟨ml, m0, m1, m2, m3, m4, m5, m6, mf⟩ := updC_of hK2.out; obtain ⟨nl, n0, n1, n2, n3, n4, n5, n6, nf⟩ := updC_of hL2.out))
    all_goals go_ret
    all_goals
      refine ⟨?_, HB0.out.trans (b1.mono HB0.out.size)⟩
      show Ending.returned (Value.bool _) = Ending.returned (Value.bool _)
      have hr := HR.out
      clear HR HT HB0 hK1 hL k0 k1 k2 k3 k4 k5 k6 kf kl l0 l1 l2 l3 l4 l5 l6 lf ll a23 s23 b1 hK2 hL2 m0 m1 m2 m3 m4 m5 m6 ml mf n0 n1 n2 n3 n4 n5 n6 nl nf HO
      simp_all
  · have hab' : decide (a = b) = false := decide_eq_false hab
    go_enter Tryd.func14, Tryd.ntmps14
    go_wp2
    go_ret
    refine ⟨?_, HB0.out⟩
    show Ending.returned (Value.bool _) = Ending.returned (Value.bool _)
    rw [HR.out, hab']
    rfl
end
end Go.Proofs.YtinphkflfdpaeaaDoor
