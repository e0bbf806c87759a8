/- Lemmas under the proofs of this place: ShaRID. No statement is proved here. -/
import Derived.Test.YtinphkflfdpaeaaDoorBu16
import Derived.Deep.RegionHeldLaw
set_option linter.unusedVariables false
set_option maxRecDepth 100000
set_option maxHeartbeats 16000000
namespace Go.Proofs.YtinphkflfdpaeaaDoor
open Go.RowKit
theorem refRounds_any (w : World) : Calls Tryd.prog 41 #[] w fun e w' => ∃ A c, e = .returned (.slice A 64 c) ∧ RW w' w'.heap.size A kL ∧ Below w.heap.size w w' := by
  have hnew := rw_new w kL
  go_enter Tryd.func41, Tryd.ntmps41
  go_wp2
  go_ret
  exact ⟨some ⟨w.heap.size, 0, none⟩, 64, rfl, RW.more hnew (by simp), (Below.refl _ _).alloc (Nat.le_refl _) _⟩
def lenOf : Value → Nat | .slice _ n _ => n | _ => 0
theorem append_byten {ops : Array Oper} {rest : List Oper} {o : Oper} {a : Act} {Q : Exit → Act → World → Prop} (hgd : o.guard = none) (s x : Operand)
    (ho : o.op = .call { callee := .builtin .append, args := #[s, x], argTypes := #[29, 29] })
    {B : Nat} {w0 wr : World} {v : Value} {P : List UInt8} {z : Int} (b : UInt8) (n : Nat) (hs : a.eval s = v) (hown : wr.ownsRow B 5 1 v n (cells P)) (hb : Below B w0 wr) (hB : B ≤ w0.heap.size)
    (hz : z = (b.toNat : Int)) (hx : a.eval x = .slice (some ⟨wr.heap.size, 0, none⟩) 1 1) (hlen : n + 1 ≤ 1048576)
    (h : ∀ v' w1, w1.ownsRow B 5 1 v' (n + 1) (cells (P ++ [b])) → Below B w0 w1 → wpList Tryd.prog ops Q rest (a.put o.dst v') w1) :
    wpList Tryd.prog ops Q (o :: rest) a (wr.alloc (.cells #[.int .u8 z] 5)) := by
  have hn : n = P.length := by have := hown.1; rw [cells_length] at this; omega
  subst hn
  refine append_byte hgd s x ho b hs hown hb hB hz hx hlen fun v' w1 h1 h2 => ?_
  refine h v' w1 ?_ h2
  rw [List.length_append] at h1
  exact h1
theorem noughts_no (n j : Nat) (h : j < noughts n) : ¬ (n + 1 + j) % 64 = 56 := by unfold noughts at h; omega
theorem noughts_lt (n : Nat) : noughts n < 64 := by unfold noughts; omega
theorem len_cells (n : Nat) (h : n ≤ 100000) : (#[.int .u8 0, .int .u8 0, .int .u8 0, .int .u8 (8 * (n : Int) / 4294967296), .int .u8 (8 * (n : Int) / 16777216), .int .u8 (8 * (n : Int) / 65536), .int .u8 (8 * (n : Int) / 256 % 256), .int .u8 (8 * (n : Int) % 256)] : Array Value) = (cells (lenL (8 * n))).toArray := by
  have e : ∀ k : Nat, ((UInt8.ofNat k).toNat : Int) = (k : Int) % 256 := fun k => by simp [UInt8.toNat_ofNat']
  simp only [lenL, cells, List.map_cons, List.map_nil, e]
  have e3 : (((8 * n / 4294967296 : Nat) : Int) % 256) = 8 * (n : Int) / 4294967296 := by omega
  have e4 : (((8 * n / 16777216 : Nat) : Int) % 256) = 8 * (n : Int) / 16777216 := by omega
  have e5 : (((8 * n / 65536 : Nat) : Int) % 256) = 8 * (n : Int) / 65536 := by omega
  have e6 : (((8 * n / 256 : Nat) : Int) % 256) = 8 * (n : Int) / 256 % 256 := by omega
  have e7 : (((8 * n : Nat) : Int) % 256) = 8 * (n : Int) % 256 := by omega
  rw [e3, e4, e5, e6, e7]
  rfl
theorem bytes_cells (x : UInt32) : (#[.int .u8 (IntKind.u8.wrap ((x.toNat : Int) / 16777216)), .int .u8 (IntKind.u8.wrap ((x.toNat : Int) / 65536)), .int .u8 (IntKind.u8.wrap ((x.toNat : Int) / 256)), .int .u8 (IntKind.u8.wrap (x.toNat : Int))] : Array Value) = (cells (bytesW x)).toArray := by
  have hx := w_lt x
  have e : ∀ k : Nat, k < 32 → (((x >>> UInt32.ofNat k).toUInt8).toNat : Int) = (x.toNat : Int) / 2 ^ k % 256 := fun k hk => by
    rw [w_shr x k hk]; simp
  have e24 := e 24 (by omega)
  have e16 := e 16 (by omega)
  have e8 := e 8 (by omega)
  have e0 : ((x.toUInt8).toNat : Int) = (x.toNat : Int) % 256 := by simp
  simp only [bytesW, cells, List.map_cons, List.map_nil]
  have f24 : (((x >>> 24).toUInt8).toNat : Int) = (x.toNat : Int) / 16777216 := by rw [show (24 : UInt32) = UInt32.ofNat 24 from rfl, e24]; omega
  have f16 : (((x >>> 16).toUInt8).toNat : Int) = (x.toNat : Int) / 65536 % 256 := by rw [show (16 : UInt32) = UInt32.ofNat 16 from rfl, e16]; rfl
  have f8 : (((x >>> 8).toUInt8).toNat : Int) = (x.toNat : Int) / 256 % 256 := by rw [show (8 : UInt32) = UInt32.ofNat 8 from rfl, e8]; rfl
  rw [f24, f16, f8, e0, IntKind.wrap_u8', IntKind.wrap_u8', IntKind.wrap_u8', IntKind.wrap_u8', Int.emod_eq_of_lt (a := (x.toNat : Int) / 16777216) (by omega) (by omega)]
theorem add_atI (g t : Nat) : (⟨g, 0, none⟩ : Addr).add t = ⟨g, t, none⟩ := by unfold Addr.add; split <;> simp_all
theorem rb_part {w : World} {B g q c : Nat} {P : List UInt8} (h : RB w B (some ⟨g, 0, none⟩) P) (hq : P.length = q) (hc : q ≤ c) (t : Nat) (ht : t + 64 ≤ q) : RB w B (some ⟨g, t, none⟩) ((P.drop t).take 64) := by
  have h1 := rb_cut1 h (k := t) (c := c) (by omega) (by omega) (by omega)
  have h2 := rb_take h1 64 (by rw [List.length_drop]; omega)
  simp only [Option.map_some, add_atI] at h2
  exact h2
theorem refID_any (L : List UInt8) (A : Option Addr) (c E : Nat) (w : World) (hr : RB w E A L) (n : Nat) (HL : Hid (L.length = n)) (hn : n ≤ 100000) :
    Calls Tryd.prog 18 #[.slice A n c] w fun e w' => e = .returned (.string ⟨(idL L).toArray⟩) ∧ Below w.heap.size w w' := by
  obtain ⟨i0, hi0, hz0, hz1, hz2⟩ := info_parts Tryd.info5
  have hr := rb_lt hr
  have hlr : Reads w w.heap.size 1 A n (cells L) := by have h := hr; unfold RB at h; rw [HL.out] at h; exact h
  go_enter Tryd.func18, Tryd.ntmps18
  go_wp2_with (first
    | (at_builtin; refine wpList_append_any _ rfl (.tmp 10) (.tmp 11) _ rfl w.heap.size 5 i0 _ 1 1 Tryd.underlying29 hi0 hz0 hz1 hz2 rfl (by omega) (.slice (some ⟨w.heap.size, 0, none⟩) 0 0) 0 [] rfl (World.ownsRow_made w #[] 0 (Nat.le_refl _) (by decide) rfl) w.heap.size A n c (cells L) rfl (hlr.alloc (Nat.le_refl _) _) (cells_one _) (by simp only [maxLen]; omega) (by omega) (by simp) ?_; intro v1 w1 ho1 hg1 hat1; simp only [Nat.zero_add, List.nil_append] at ho1; have hb1 : Below w.heap.size w w1 := ((Below.refl _ _).alloc (Nat.le_refl _) _).grown hg1 (by simp) (by simp [Value.ownBlock]))
    | (at_builtin; refine append_byten rfl _ _ rfl 128 n rfl ho1 hb1 (Nat.le_refl _) rfl rfl (by omega) ?_; intro v2 w2 ho2 hb2))
  obtain ⟨A2, c2, rfl⟩ := own_form ho2
  have hnn := noughts_lt n
  go_loopw [3] (fun v wr => ∃ (j l : Nat) (X : List UInt8) (AA : Option Addr) (cc : Nat), j ≤ noughts n ∧ Hid (l = n + 1 + j) ∧ Hid (X = L ++ [128] ++ List.replicate j 0) ∧ v = .slice AA l cc ∧ wr.ownsRow w.heap.size 5 1 v l (cells X) ∧ Below w.heap.size w wr) (fun v _ => n + 1 + noughts n - lenOf v)
  case atStart => exact ⟨0, n + 1, L ++ [128], A2, c2, Nat.zero_le _, rfl, by show _ = _; simp, rfl, ho2, hb2⟩
  case round =>
    obtain ⟨j, l, X, AA, cc, hj, HJ, HX, rfl, hown, hbr⟩ := hrel
    have hlx : l ≤ 200000 := by have := HJ.out; omega
    clear ho1 hb1 hg1 hat1 ho2 hb2
    by_cases hlt : j < noughts n
    · have ht : ((l : Int) % 64 != 56) = true := by
        have h1 := noughts_no n j hlt
        have h2 := HJ.out
        rw [bne_iff_ne]
        omega
      have hl1 : l + 1 ≤ 1048576 := by omega
      go_wp2_with (at_builtin; refine append_byten rfl _ _ rfl 0 l rfl hown hbr (Nat.le_refl _) rfl rfl hl1 ?_; intro v3 w3 ho3 hb3)
      obtain ⟨A3, c3, rfl⟩ := own_form ho3
      go_roundw
      case rel => exact ⟨j + 1, l + 1, X ++ [0], A3, c3, by omega, by show _ = _; rw [HJ.out]; omega, by show _ = _; rw [HX.out, List.append_assoc, ← List.replicate_succ'], rfl, ho3, hb3⟩
      case measure => have h2 := HJ.out; simp only [lenOf]; simp; omega
    · have hjn : j = noughts n := by omega
      have ht : ((l : Int) % 64 != 56) = false := by
        have h1 := noughts_spec n
        have h2 := HJ.out
        rw [hjn] at h2
        simp
        omega
      have hnew : RB (wr.alloc (.cells #[.int .u8 0, .int .u8 0, .int .u8 0, .int .u8 (8 * (n : Int) / 4294967296), .int .u8 (8 * (n : Int) / 16777216), .int .u8 (8 * (n : Int) / 65536), .int .u8 (8 * (n : Int) / 256 % 256), .int .u8 (8 * (n : Int) % 256)] 5)) (wr.heap.size + 1) (some ⟨wr.heap.size, 0, none⟩) (lenL (8 * n)) := by
        rw [len_cells n hn]
        exact rb_new wr (lenL (8 * n))
      have hnew8 : Reads (wr.alloc (.cells #[.int .u8 0, .int .u8 0, .int .u8 0, .int .u8 (8 * (n : Int) / 4294967296), .int .u8 (8 * (n : Int) / 16777216), .int .u8 (8 * (n : Int) / 65536), .int .u8 (8 * (n : Int) / 256 % 256), .int .u8 (8 * (n : Int) % 256)] 5)) (wr.heap.size + 1) 1 (some ⟨wr.heap.size, 0, none⟩) 8 (cells (lenL (8 * n))) := hnew
      have HNew := Lib.hid hnew8
      clear hnew hnew8
      obtain ⟨wo, rfl⟩ : ∃ wo : World, wo = wr := ⟨_, rfl⟩
      go_wp2_with (first
        | (at_builtin; refine wpList_append_any _ rfl (.tmp 26) (.tmp 41) _ rfl w.heap.size 5 i0 _ 1 1 Tryd.underlying29 hi0 hz0 hz1 hz2 rfl (by omega) (.slice AA l cc) l (cells X) rfl (hown.alloc _) (wo.heap.size + 1) (some ⟨wo.heap.size, 0, none⟩) 8 8 (cells (lenL (8 * n))) rfl HNew.out (cells_one _) (by simp only [maxLen]; omega) (by omega) (by have := hbr.size; simp; omega) ?_; intro v4 w4 ho4 hg4 hat4; have hb4 : Below w.heap.size w w4 := (hbr.alloc hbr.size _).grown hg4 (by have := hbr.size; simp; omega) (fun k hk => (hown.lt k hk).1); clear hg4 hat4)
        | (go_at_call 41; (with_reducible refine (refRounds_any _).mono ?_); rintro e w5 ⟨A5, c5, rfl, hk5, hb5⟩))
      obtain ⟨P, hP⟩ : ∃ P, P = X ++ lenL (8 * n) := ⟨_, rfl⟩
      have HP : Hid (P = padL L) := by
        show _ = _
        have h1 := HX.out
        rw [hP, h1, hjn, ← HL.out]
        rfl
      obtain ⟨q, hq⟩ : ∃ q, q = l + 8 := ⟨_, rfl⟩
      obtain ⟨m, hm⟩ : ∃ m, m = (padL L).length / 64 := ⟨_, rfl⟩
      rw [← cells_append, ← hP, ← hq] at ho4
      have hPq : P.length = q := by have := ho4.1; rw [cells_length] at this; omega
      have HM : Hid (q = 64 * m) := by
        show _ = _
        have h1 := padL_length L
        rw [← HP.out, hPq] at h1
        rw [hm, ← HP.out, hPq]
        omega
      have hqx : q ≤ 300000 := by omega
      have hq0 : 0 < q := by omega
      obtain ⟨g4, c4, rfl, hg4, hlt4⟩ := ho4.form hq0
      have hqc : q ≤ c4 := by
        rcases ho4.2 with ⟨h', _⟩ | ⟨_, _, _, h', _, _, hnc, _⟩
        · simp at h'
        · simp only [Value.slice.injEq] at h'; omega
      have hcm : c4 ≤ 9223372036854775807 := by
        rcases ho4.2 with ⟨h', _⟩ | ⟨_, _, _, h', _, _, _, hcm, _⟩
        · simp at h'
        · simp only [Value.slice.injEq] at h'
          have h9 : _ ≤ 9223372036854775807 := hcm
          omega
      have fP : RB w4 w4.heap.size (some ⟨g4, 0, none⟩) P := by refine Reads.of_own (base := w.heap.size) (e := 5) (c := c4) ?_; rw [hPq]; exact ho4
      have hnewh : RW (w4.alloc (.cells (wcells s0.list).toArray 66)) (w4.heap.size + 1) (some ⟨w4.heap.size, 0, none⟩) s0.list := rw_new w4 s0.list
      have z45 : w4.heap.size + 1 ≤ w5.heap.size := by have := hb5.size; simpa using this
      have hb45 : Below w4.heap.size w4 w5 := ((Below.refl _ _).alloc (Nat.le_refl _) _).trans (hb5.mono (by simp))
      have fh5 : RW w5 w5.heap.size (some ⟨w4.heap.size, 0, none⟩) s0.list := (RW.below hnewh (hb5.mono (by simp))).more z45
      have fP5 : RB w5 w5.heap.size (some ⟨g4, 0, none⟩) P := (fP.below hb45).more (by omega)
      have hbw5 : Below w.heap.size w w5 := hb4.trans (hb45.mono hb4.size)
      clear hb5 hb45 hnewh fP ho4 hP hq hm hb4 hown hbr HX HJ hlx hjn hlt ht HNew
      go_loopw [5, 7] (fun v i wr => ∃ (k t : Nat) (A6 : Option Addr) (c6 : Nat), k ≤ m ∧ Hid (t = 64 * k) ∧ i = .int .i64 (t : Int) ∧ v = .slice A6 8 c6 ∧ RW wr wr.heap.size A6 (blocksK s0 P k).list ∧ Below w5.heap.size w5 wr) (fun _ i _ => q - (intOf i).toNat)
      case atStart => exact ⟨0, 0, _, 8, Nat.zero_le _, rfl, rfl, rfl, fh5, Below.refl _ _⟩
      case round =>
        obtain ⟨k, t, A6, c6, hkm, HT, rfl, rfl, hw6, hb6⟩ := hrel
        have hbw6 : Below w.heap.size w wr := hbw5.trans (hb6.mono hbw5.size)
        by_cases hltk : k < m
        · have ht1 : t + 64 ≤ q := by have h1 := HT.out; have h2 := HM.out; omega
          have HB : Hid (∀ cx e0, 64 ≤ cx → cx ≤ 9223372036854775807 → Calls Tryd.prog 42 #[.slice A6 8 c6, .slice (some ⟨g4, t, none⟩) 64 cx, .slice A5 64 e0] wr fun e w' => ∃ A' c', e = .returned (.slice A' 8 c') ∧ RW w' w'.heap.size A' (blocksK s0 P (k + 1)).list ∧ Below wr.heap.size wr w') := by
            intro cx e0 h1 h2
            have hpart := rb_part ((fP5.below hb6).more hb6.size) hPq hqc t ht1
            have h3 := refBlock_any (blocksK s0 P k) ((P.drop t).take 64) A6 (some ⟨g4, t, none⟩) A5 c6 cx e0 wr hw6 hpart ((RW.below hk5 hb6).more hb6.size) (by rw [List.length_take, List.length_drop]; omega) h1 h2
            have h4 : blocksK s0 P (k + 1) = blockL (blocksK s0 P k) ((P.drop t).take 64) := by rw [blocksK, HT.out]
            rw [h4]
            exact h3
          clear hw6
          have i1 : (t : Int) < (q : Int) := by omega
          have i2 : (t : Int) + 64 ≤ (q : Int) := by omega
          have i3 : (t : Int) + 64 ≤ (c4 : Int) := by omega
          have i4 : (t : Int) ≤ (t : Int) + 64 := by omega
          have i5 : ¬ c4 = t := by omega
          have i6 : 64 ≤ c4 - t := by omega
          have i7 : c4 - t ≤ 9223372036854775807 := by omega
          go_wp2_with (go_at_call 42; (with_reducible refine (HB.out _ _ i6 i7).mono ?_); rintro e w7 ⟨A7, c7, rfl, hw7, hb7⟩)
          go_roundw
          case rel => exact ⟨k + 1, t + 64, A7, c7, by omega, by show _ = _; rw [HT.out]; omega, by go_num, rfl, hw7, hb6.trans (hb7.mono hb6.size)⟩
          case measure => simp [intOf]; omega
        · have hkm' : k = m := by omega
          have i1 : ¬ (t : Int) < (q : Int) := by have h1 := HT.out; have h2 := HM.out; omega
          have HR : Hid (idL L = (blocksK s0 P k).list.flatMap bytesW) := by
            show _ = _
            unfold idL
            rw [← HP.out, hPq, HM.out, hkm', Nat.mul_div_cancel_left _ (by omega)]
          clear hkm' fh5 fP5 hk5
          go_wp2
          obtain ⟨H, hH⟩ : ∃ H, H = (blocksK s0 P k).list := ⟨_, rfl⟩
          have hH8 : H.length = 8 := by rw [hH]; rfl
          rw [← hH] at hw6 HR
          obtain ⟨g6, o6, rfl, hg6, hc6⟩ := rw_cells hw6 (by omega)
          have HC : Hid (∀ j, j < 8 → wr.cell? ⟨g6, o6 + j, none⟩ = some (.int .u32 ((H.getD j 0).toNat : Int))) := fun j hj => hc6 j (by omega)
          clear hc6 hw6 hH
          obtain ⟨wo2, rfl⟩ : ∃ wo2 : World, wo2 = wr := ⟨_, rfl⟩
          go_loopw [8, 9] (fun v i wr => ∃ (j y : Nat), j ≤ 8 ∧ Hid (y = 4 * j) ∧ i = .int .i64 (j : Int) ∧ wr.ownsRow wo2.heap.size 5 1 v y (cells ((H.take j).flatMap bytesW)) ∧ Below wo2.heap.size wo2 wr) (fun _ i _ => 8 - (intOf i).toNat)
          case atStart => exact ⟨0, 0, by omega, rfl, rfl, World.ownsRow_nil _ _ _ _, Below.refl _ _⟩
          case round =>
            obtain ⟨j, y, hj, HY, rfl, hown8, hb8⟩ := hrel
            have hyx : y ≤ 32 := by have := HY.out; omega
            by_cases hlt8 : j < 8
            · obtain ⟨x, hx⟩ : ∃ x, x = H.getD j 0 := ⟨_, rfl⟩
              have hcx : wr.cell? ⟨g6, o6 + j, none⟩ = some (.int .u32 (x.toNat : Int)) := by rw [hb8.cell (p := ⟨g6, o6 + j, none⟩) hg6, HC.out _ hlt8, ← hx]
              have hcx0 : wo2.cell? ⟨g6, o6 + j, none⟩ = some (.int .u32 (x.toNat : Int)) := by rw [HC.out _ hlt8, ← hx]
              have HT8 : Hid ((H.take (j + 1)).flatMap bytesW = (H.take j).flatMap bytesW ++ bytesW x) := by
                show _ = _
                rw [List.take_succ_eq_append_getElem (by omega : j < H.length), List.flatMap_append, hx]
                simp [List.getD, List.getElem?_eq_getElem (by omega : j < H.length)]
              have hxl := w_lt x
              have hnw : RB (wr.alloc (.cells #[.int .u8 (IntKind.u8.wrap ((x.toNat : Int) / 16777216)), .int .u8 (IntKind.u8.wrap ((x.toNat : Int) / 65536)), .int .u8 (IntKind.u8.wrap ((x.toNat : Int) / 256)), .int .u8 (IntKind.u8.wrap (x.toNat : Int))] 5)) (wr.heap.size + 1) (some ⟨wr.heap.size, 0, none⟩) (bytesW x) := by
                rw [bytes_cells x]; exact rb_new wr (bytesW x)
              have hnw4 : Reads (wr.alloc (.cells #[.int .u8 (IntKind.u8.wrap ((x.toNat : Int) / 16777216)), .int .u8 (IntKind.u8.wrap ((x.toNat : Int) / 65536)), .int .u8 (IntKind.u8.wrap ((x.toNat : Int) / 256)), .int .u8 (IntKind.u8.wrap (x.toNat : Int))] 5)) (wr.heap.size + 1) 1 (some ⟨wr.heap.size, 0, none⟩) 4 (cells (bytesW x)) := hnw
              clear hx hnw
              have HNW := Lib.hid hnw4
              clear hnw4
              have hz8 := hb8.size
              have k1 : (j : Int) < 8 := by omega
              have k0 : (0 : Int) ≤ (j : Int) := by omega
              go_wp2
              go_region_held_law (fun w' => w'.cell? ⟨g6, o6 + j, none⟩ = some (.int .u32 (x.toNat : Int)))
                (first | go_keep | exact (hb9.cell (p := ⟨g6, o6 + j, none⟩) hg6).trans hcx0)
                (first | (refine step_append_any _ rfl (.tmp 63) (.tmp 87) _ rfl wo2.heap.size 5 i0 _ 1 1 Tryd.underlying29 hi0 hz0 hz1 hz2 rfl (by omega) _ y (cells ((H.take j).flatMap bytesW)) rfl (World.ownsRow.drew (World.ownsRow.alloc hown8 _)) (wr.heap.size + 1) (some ⟨wr.heap.size, 0, none⟩) 4 4 (cells (bytesW x)) rfl (Reads.drew HNW.out) (cells_one _) (by simp only [maxLen]; omega) (by omega) (by show wo2.heap.size ≤ (wr.alloc _).heap.size; simp; omega) ?_; intro v9 w9 hown9 hg9 hat9; have hb9 : Below wo2.heap.size wo2 w9 := (Below.drew (hb8.alloc hz8 _)).grown hg9 (by show wo2.heap.size ≤ (wr.alloc _).heap.size; simp; omega) (fun q hq => (hown8.lt q hq).1)))
              have HO : Hid (w9.ownsRow wo2.heap.size 5 1 v9 (y + 4) (cells ((H.take (j + 1)).flatMap bytesW))) := by show World.ownsRow _ _ _ _ _ _ _; rw [HT8.out, cells_append]; exact hown9
              clear hown9 hg9 hat9 hown8 hb8
              go_wp2
              go_roundw
              case rel => exact ⟨j + 1, y + 4, by omega, by show _ = _; rw [HY.out]; omega, by go_num, HO.out, hb9⟩
              case measure => simp [intOf]; omega
            · have hj8 : j = 8 := by omega
              have hfin : (H.take j).flatMap bytesW = idL L := by rw [HR.out, List.take_of_length_le (by omega)]
              rw [hfin] at hown8
              have hlen : (idL L).length = y := by have := hown8.1; rw [cells_length] at this; omega
              obtain ⟨A8, c8, rfl⟩ := own_form hown8
              have hfr : RB wr wr.heap.size A8 (idL L) := by refine Reads.of_own (base := wo2.heap.size) (e := 5) (c := c8) ?_; rw [hlen]; exact hown8
              have est := aw_str hfr y c8 hlen.symm
              clear hfin hlen hown8 hfr
              go_wp2
              go_ret
              exact ⟨rfl, hbw6.trans (hb8.mono hbw6.size)⟩
end Go.Proofs.YtinphkflfdpaeaaDoor
