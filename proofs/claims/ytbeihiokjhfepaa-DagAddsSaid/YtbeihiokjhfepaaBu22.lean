/- Lemmas under the proofs of this place: DagPAdd, DagPCopy. No statement is proved here. -/
import Derived.Test.YtbeihiokjhfepaaBu21
import Derived.Test.YtbeihiokjhfepaaBu11
import Derived.Shelf.SlMaps.Clone
set_option linter.unusedSimpArgs false
set_option linter.unusedVariables false
set_option maxRecDepth 100000
set_option maxHeartbeats 16000000
namespace Go.Proofs.Ytbeihiokjhfepaa
section
open Go.RowKit Go.Maps Go.ChangeMaps
def PDagN (w w' : World) (p : Nat) (F : Nat → Prop) (g : Gr) : Prop := PDag w' p F g ∧ ∀ k, GP w' p k → GP w p k ∨ w.heap.size ≤ k
theorem PDagN.same {w w' : World} {p : Nat} {F : Nat → Prop} {g : Gr} (h : PDag w p F g) (hb : Below w.heap.size w w') : PDagN w w' p F g :=
  ⟨h.turns (Turns.of_below hb (fun _ => False)) (fun _ _ h => h) (fun _ _ h => h), fun k hk => .inl (h.gp_same (Turns.of_below hb (fun _ => False)) (fun _ _ h => h) (fun _ _ h => h) hk)⟩
theorem topP_le {r : List NdP} {M : Nat} (h : ∀ i, (r.getD i nP).d ≤ M) (qs : List Nat) : ∀ k, topP r qs k ≤ M
  | 0 => Nat.zero_le _
  | k + 1 => by
    have h1 := topP_le h qs k
    have h2 := h (qs.getD k 0)
    show max _ _ ≤ M
    omega
theorem topP_is {g : Gr} {r : List NdP} (h : RG g r) {qs : List Nat} (hq : ∀ q ∈ qs, q < g.length) : ∀ k, k ≤ qs.length → topP r qs k = topI g qs k
  | 0, _ => rfl
  | k + 1, hk => by
    show max _ _ = max _ _
    rw [topP_is h hq k (by omega), h.d _ (hq _ (by rw [List.getD, List.getElem?_eq_getElem (by omega)]; exact List.getElem_mem _))]
theorem RG.d_le {g : Gr} {r : List NdP} (h : RG g r) (i : Nat) : (r.getD i nP).d ≤ g.length := by
  rcases Nat.lt_or_ge i g.length with hi | hi
  · rw [h.d i hi]
    exact depth_le g i
  · rw [List.getD, List.getElem?_eq_none (by rw [h.len]; exact hi)]
    exact Nat.zero_le _
theorem RG.add {g : Gr} {r r' : List NdP} {x : Bs} {ps : List Bs} {qs : List Nat} {X : Option Addr} {d n t : Nat} (ok : GrOk g) (hx : x ∉ idsG g) (hp : ∀ p ∈ ps, p ∈ idsG g) (h : RG g r) (hqs : qs = ps.map (idxG g)) (hn : n = g.length) (hk : KR r r' qs n) (ht : t = topP r qs qs.length) :
    RG (g ++ [⟨x, ps⟩]) (r' ++ [⟨x, X, d, qs, none, 0, [], t + 1⟩]) := by
  have hl : r'.length = g.length := hk.len.trans h.len
  have hc : ∀ i, i < (g ++ [(⟨x, ps⟩ : Nd)]).length → i < g.length ∨ i = g.length := fun i hi => by
    rw [List.length_append, List.length_singleton] at hi
    omega
  have ho : ∀ i, i < g.length → (r' ++ [(⟨x, X, d, qs, none, 0, [], t + 1⟩ : NdP)]).getD i nP = r'.getD i nP := fun i hi => by rw [List.getD, List.getElem?_append_left (by rw [hl]; exact hi), List.getD]
  have hz : (r' ++ [(⟨x, X, d, qs, none, 0, [], t + 1⟩ : NdP)]).getD g.length nP = ⟨x, X, d, qs, none, 0, [], t + 1⟩ := by
    rw [List.getD, List.getElem?_append_right (by rw [hl]; exact Nat.le_refl _), hl, Nat.sub_self]
    rfl
  have hql : ∀ q ∈ qs, q < g.length := fun q hq => by
    rw [hqs] at hq
    obtain ⟨p, h1, rfl⟩ := List.mem_map.1 hq
    exact idx_lt.2 (hp p h1)
  refine ⟨by rw [List.length_append, List.length_append, hl]; rfl, fun i hi => ?_, fun i hi => ?_, fun i hi => ?_, fun i hi => ?_⟩
  · rcases hc i hi with hi | rfl
    · rw [ho i hi, (hk.same i (by rw [h.len]; exact hi)).1, h.id i hi, idAt, idAt, app_at hi]
    · rw [hz, idAt, app_new]
  · rcases hc i hi with hi | rfl
    · rw [ho i hi, (hk.same i (by rw [h.len]; exact hi)).2.2.2.1, h.ps i hi, predI_app ok hi]
    · rw [hz, predI_new hp]
      exact hqs
  · rcases hc i hi with hi | rfl
    · rw [ho i hi, hk.ks i (by rw [h.len]; exact hi), h.ks i hi, kidI_app ok hp hi, hqs, hn]
    · rw [hz, kidI_new ok hx hp]
  · rcases hc i hi with hi | rfl
    · rw [ho i hi, (hk.same i (by rw [h.len]; exact hi)).2.2.2.2, h.d i hi, depI_app ok hi]
    · rw [hz, depI_new ok hp]
      show t + 1 = _
      rw [ht, topP_is h hql _ (Nat.le_refl _), hqs, List.length_map]
def GivesAdd (w : World) (p : Nat) (F : Nat → Prop) (g : Gr) (x : Bs) (l : List Bs) (e : Ending) (w' : World) : Prop :=
  e = .returned (.int .i64 (addG g x l).2) ∧ ∃ F' : Nat → Prop, Hid (PDagN w w' p F' (addG g x l).1) ∧ Hid (Turns w w' F F')
theorem GivesAdd.no {w w' : World} {p : Nat} {F : Nat → Prop} {g : Gr} {x : Bs} {l : List Bs} (h : PDag w p F g) {y : Int} (hy : addG g x l = (g, y)) (hb : Below w.heap.size w w') : GivesAdd w p F g x l (.returned (.int .i64 y)) w' := by
  unfold GivesAdd
  rw [hy]
  exact ⟨rfl, F, PDagN.same h hb, Turns.of_below hb F⟩
theorem addG_cases (g : Gr) (x : Bs) (l : List Bs) : (rightB x = false ∨ risesL l = false → addG g x l = (g, 1)) ∧ (rightB x = true → risesL l = true → hasG g x = true → addG g x l = (g, 7)) ∧
    (rightB x = true → risesL l = true → hasG g x = false → l.all (hasG g) = false → addG g x l = (g, 14)) ∧ (rightB x = true → risesL l = true → hasG g x = false → l.all (hasG g) = true → g.length ≤ 4095 → addG g x l = (g ++ [⟨x, l⟩], 0)) := by
  unfold addG
  refine ⟨fun h => ?_, fun h1 h2 h3 => ?_, fun h1 h2 h3 h4 => ?_, fun h1 h2 h3 h4 h5 => ?_⟩
  · rw [if_neg (fun hh => by rcases h with h | h <;> simp [h] at hh)]
  · rw [if_pos ⟨h1, h2⟩, if_pos h3]
  · rw [if_pos ⟨h1, h2⟩, if_neg (by rw [h3]; decide), if_neg (by rw [h4]; decide)]
  · rw [if_pos ⟨h1, h2⟩, if_neg (by rw [h3]; decide), if_pos h4, if_neg (by omega)]
theorem padd_any {w : World} {p : Nat} {F : Nat → Prop} {g : Gr} (h : PDag w p F g) (ok : GrOk g) (hg : g.length ≤ 1000) (x : Bs) (l : List Bs) (A : Option Addr) (n c : Nat) (hn : n = l.length) (hs : SS w w.heap.size A l) (hl : n ≤ 1000) :
    Calls Try.prog 12 #[.pointer (some ⟨p, 0, none⟩), .string (text x), .slice A n c] w (GivesAdd w p F g x l) := by
  obtain ⟨PR, hPR⟩ : ∃ P, P = GivesAdd w p F g x l := ⟨_, rfl⟩
  obtain ⟨cA, cB, cC, cD⟩ := addG_cases g x l
  have HNo : Hid (∀ {y : Int} {w' : World}, addG g x l = (g, y) → Below w.heap.size w w' → PR (.returned (.int .i64 y)) w') := fun hy hb => by rw [hPR]; exact GivesAdd.no h hy hb
  have HRt : Hid (∀ W, Calls Try.prog 37 #[.string (text x)] W fun e w' => e = .returned (.bool (rightB x)) ∧ W = w') := fun W => idsRight_at x W
  have HRs : Hid (∀ W, Below w.heap.size w W → Calls Try.prog 38 #[.slice A n c] W fun e w' => e = .returned (.bool (risesL l)) ∧ Below W.heap.size W w') := fun W hW => idsRising_at l A n c w.heap.size W hn (hs.below hW) (by omega)
  obtain ⟨GA, gn, gc, mv, r, hP, hR⟩ := h
  have hV := hP.view hR
  have HHs : Hid (∀ W, Below w.heap.size w W → Calls Try.prog 18 #[.pointer (some ⟨p, 0, none⟩), .string (text x)] W fun e w' => e = .returned (.bool (hasG g x)) ∧ Below W.heap.size W w') := fun W hW => phas_any (hV.up hW) x
  have HFo : Hid (∀ W, Below w.heap.size w W → Calls Try.prog 39 #[.pointer (some ⟨p, 0, none⟩), .slice A n c] W (GivesOwnI (foundL g l) W)) := fun W hW => found_any (hV.up hW) l A n c hn ((hs.below hW).more hW.size) hl
  have HC0 : Hid (∀ W, Below w.heap.size w W → W.cell? ⟨p, 0, none⟩ = some (.slice GA gn gc)) := fun W hW => (hV.up hW).c0
  have hgn : gn = g.length := hV.len
  have HPut : Hid (rightB x = true → risesL l = true → hasG g x = false → l.all (hasG g) = true → ∀ W X d m, Below w.heap.size w W → m = (foundL g l).length → NS W W.heap.size X (foundL g l) → (∀ ad, X = some ad → w.heap.size ≤ ad.block ∧ ad.block < W.heap.size) →
      Calls Try.prog 40 #[.pointer (some ⟨p, 0, none⟩), .string (text x), .slice X m d] W fun e w' => e = .returned (.tuple #[]) ∧ Hid (PR (.returned (.int .i64 0)) w')) := fun h1 h2 h3 h4 W X d m hW hm hX hXb => by
    have hx : x ∉ idsG g := fun e => by rw [hasG_iff.2 e] at h3; cases h3
    have hp : ∀ q ∈ l, q ∈ idsG g := fun q hq => hasG_iff.1 (List.all_eq_true.1 h4 q hq)
    have hqs : foundL g l = l.map (idxG g) := found_all hp
    have tW := Turns.of_below hW (fun _ => False)
    have hPW : PM W p F GA gn gc mv r := hP.turns tW (fun _ _ h => h) (fun _ _ _ _ _ h => h)
    have hfl := found_lt g l
    have hfe := found_len g l
    refine (put_any hPW x (foundL g l) X m d hm (fun q hq => by rw [hR.len]; exact hfl q hq) (by rw [hqs]; exact places_nodup ok ((risesL_iff l).1 h2).2 hp) hX (fun ad e => ⟨fun hf => ?_, (hXb ad e).2⟩) (by rw [hR.ids]; exact hx) (by omega) (fun y hy => ?_) (by omega) (fun k => Nat.le_trans (topP_le hR.d_le _ k) (by omega))).mono ?_
    · have := hP.flt _ hf
      have := (hXb ad e).1
      omega
    · obtain ⟨i, hi, rfl⟩ := mem_getD hy
      rw [hR.len] at hi
      rw [hR.ks i hi]
      have := kidI_le g i
      omega
    · rintro e w' ⟨rfl, F', A', c', mv', r', q1, q2, q3⟩
      refine ⟨rfl, ?_⟩
      show PR _ _
      rw [hPR]
      unfold GivesAdd
      rw [cD h1 h2 h3 h4 (by omega)]
      have hRG := RG.add (X := X) (d := d) (x := x) ok hx hp hR hqs hgn q2.out (t := topP r (foundL g l) m) (by rw [hm])
      refine ⟨rfl, F', ⟨⟨A', gn + 1, c', mv', _, q1.out, hRG⟩, fun k hk => ?_⟩, (Turns.of_below hW F).trans q3.out⟩
      obtain ⟨y, hy, e0, ad, e1, e2⟩ := q1.out.gp.1 hk
      rcases List.mem_append.1 hy with hy | hy
      · obtain ⟨i, hi, rfl⟩ := mem_getD hy
        have hir : i < r.length := by rw [← q2.out.len]; exact hi
        rw [(q2.out.same i hir).2.1] at e1
        rw [(q2.out.same i hir).2.2.2.1] at e0
        exact .inl (hP.gp.2 ⟨_, getD_mem hir, e0, ad, e1, e2⟩)
      · rw [List.mem_singleton] at hy
        subst hy
        rw [← e2]
        exact .inr (hXb ad e1).1
  have hfw : (foundL g l).length < l.length ↔ l.all (hasG g) = false := found_few g l
  have hfe := found_len g l
  rw [← hPR]
  obtain ⟨bx, hbx⟩ : ∃ b, b = rightB x := ⟨_, rfl⟩
  obtain ⟨bs, hbs⟩ : ∃ b, b = risesL l := ⟨_, rfl⟩
  obtain ⟨bh, hbh⟩ : ∃ b, b = hasG g x := ⟨_, rfl⟩
  obtain ⟨ba, hba⟩ : ∃ b, b = l.all (hasG g) := ⟨_, rfl⟩
  obtain ⟨m, hm⟩ : ∃ m, m = (foundL g l).length := ⟨_, rfl⟩
  obtain ⟨fl, hfl⟩ : ∃ fl, fl = foundL g l := ⟨_, rfl⟩
  rw [← hbx] at HRt cA cB cC cD HPut
  rw [← hbs] at HRs cA cB cC cD HPut
  rw [← hbh] at HHs cB cC cD HPut
  rw [← hba] at cC cD HPut hfw
  have HFo2 : Hid (∀ W, Below w.heap.size w W → Calls Try.prog 39 #[.pointer (some ⟨p, 0, none⟩), .slice A n c] W fun e w' => ∃ X d, e = .returned (.slice X m d) ∧ Hid (NS w' w'.heap.size X fl) ∧ Hid (∀ ad, X = some ad → W.heap.size ≤ ad.block ∧ ad.block < w'.heap.size) ∧ Hid (Below W.heap.size W w')) := fun W hW => (HFo.out W hW).mono fun e w' hh => by
    obtain ⟨X, d, q1, q2, q3⟩ := hh
    rw [hfl, hm]
    refine ⟨X, d, q1, own_ns q2.out, fun ad e => ?_, q3⟩
    have h1 := q2.out.lt ad.block (by rw [e]; rfl)
    exact h1
  rw [← hfl] at HPut
  rw [← hm, ← hn] at hfw
  have HM : Hid (m = fl.length) := by show _ = _; rw [hfl]; exact hm
  obtain ⟨t, ht⟩ : ∃ t, t = text x := ⟨_, rfl⟩
  rw [← ht] at HRt HHs HPut ⊢
  have HA := Lib.hid cA
  have HBb := Lib.hid cB
  have HCc := Lib.hid cC
  have hgl : gn ≤ 1000 := by omega
  have c0 := HC0.out w (Below.refl _ _)
  clear cA cB cC cD HFo hP hR hV hs ok hfe ht hfl hm hba hbh hbs hbx hPR hgn hn
  go_enter Try.func12, Try.ntmps12
  cases bx with
  | false =>
    go_wp2_with (go_at_call 37; (with_reducible refine (HRt.out _).mono ?_); rintro e w1 ⟨rfl, rfl⟩)
    skip
    exact HNo.out (HA.out (by simp)) (Below.refl _ _)
  | true =>
    cases bs with
    | false =>
      go_wp2_with (first
        | (go_at_call 38; (with_reducible refine (HRs.out _ (Below.refl _ _)).mono ?_); rintro e w2 ⟨rfl, b2⟩)
        | (go_at_call 37; (with_reducible refine (HRt.out _).mono ?_); rintro e w1 ⟨rfl, rfl⟩))
      skip
      exact HNo.out (HA.out (by simp)) b2
    | true =>
      cases bh with
      | true =>
        go_wp2_with (first
          | (go_at_call 18; (with_reducible refine (HHs.out _ b2).mono ?_); rintro e w3 ⟨rfl, b3⟩; have B3 := Lib.hid (below16 b2 b3))
          | (go_at_call 38; (with_reducible refine (HRs.out _ (Below.refl _ _)).mono ?_); rintro e w2 ⟨rfl, b2⟩)
          | (go_at_call 37; (with_reducible refine (HRt.out _).mono ?_); rintro e w1 ⟨rfl, rfl⟩))
        skip
        exact HNo.out (HBb.out (by simp) (by simp) (by simp)) B3.out
      | false =>
        cases ba with
        | false =>
          have hlt := hfw.2 rfl
          have d0 : decide ((m : Int) < (n : Int)) = true := decide_eq_true (by omega)
          have d1 : decide (m < n) = true := decide_eq_true hlt
          have HC := Lib.hid (HCc.out rfl rfl rfl rfl)
          clear hfw hlt HPut
          go_wp2_with (first
            | (go_at_call 39; (with_reducible refine (HFo2.out _ B3.out).mono ?_); rintro e w4 ⟨X, d, rfl, hX, hXb, b4⟩; have B4 := Lib.hid (below16 B3.out b4.out))
            | (go_at_call 18; (with_reducible refine (HHs.out _ b2).mono ?_); rintro e w3 ⟨rfl, b3⟩; have B3 := Lib.hid (below16 b2 b3))
            | (go_at_call 38; (with_reducible refine (HRs.out _ (Below.refl _ _)).mono ?_); rintro e w2 ⟨rfl, b2⟩)
            | (go_at_call 37; (with_reducible refine (HRt.out _).mono ?_); rintro e w1 ⟨rfl, rfl⟩))
          skip
          exact HNo.out HC.out B4.out
        | true =>
          have hlt : ¬ m < n := fun e => by have := hfw.1 e; cases this
          have d0 : decide ((m : Int) < (n : Int)) = false := decide_eq_false (by omega)
          have d1 : decide (m < n) = false := decide_eq_false hlt
          have HPu := Lib.hid (HPut.out rfl rfl rfl rfl)
          have d2 : decide (4096 ≤ gn) = false := decide_eq_false (by omega)
          have d3 : decide ((4096 : Int) ≤ (gn : Int)) = false := decide_eq_false (by omega)
          clear hfw hlt HPut
          go_wp2_with (first
            | (go_at_call 40; (with_reducible refine (HPu.out _ _ _ _ B4.out HM.out hX.out HXb.out).mono ?_); rintro e w5 ⟨rfl, hE⟩)
            | (go_at_call 39; (with_reducible refine (HFo2.out _ B3.out).mono ?_); rintro e w4 ⟨X, d, rfl, hX, hXb, b4⟩; have B4 := Lib.hid (below16 B3.out b4.out); have c4 := HC0.out _ B4.out; have HXb : Hid (∀ ad, X = some ad → w.heap.size ≤ ad.block ∧ ad.block < w4.heap.size) := fun ad e => ⟨Nat.le_trans B3.out.size (hXb.out ad e).1, (hXb.out ad e).2⟩)
            | (go_at_call 18; (with_reducible refine (HHs.out _ b2).mono ?_); rintro e w3 ⟨rfl, b3⟩; have B3 := Lib.hid (below16 b2 b3))
            | (go_at_call 38; (with_reducible refine (HRs.out _ (Below.refl _ _)).mono ?_); rintro e w2 ⟨rfl, b2⟩)
            | (go_at_call 37; (with_reducible refine (HRt.out _).mono ?_); rintro e w1 ⟨rfl, rfl⟩))
          skip
          exact hE.out
theorem padd_none (x : ByteArray) (A : Option Addr) (n c : Nat) (w : World) : Calls Try.prog 12 #[.pointer none, .string x, .slice A n c] w fun e w' => e = .returned (.int .i64 8) ∧ Below w.heap.size w w' := by
  go_enter Try.func12, Try.ntmps12
  go_wp2
  go_ret
  exact ⟨rfl, Below.refl _ _⟩
end
section
open Go.RowKit Go.Maps Go.ChangeMaps
theorem cloneI_any (l : List Nat) (A : Option Addr) (n c : Nat) (w : World) (hn : n = l.length) (hR : Reads w w.heap.size 1 A n (icells l)) (hl : n ≤ 1000000) :
    Calls Try.prog 61 #[.slice A n c] w fun e w' => ∃ A' c', e = .returned (.slice A' n c') ∧ w'.ownsRow w.heap.size 3 1 (.slice A' n c') n (icells l) ∧ Below w.heap.size w w' := by
  obtain ⟨i0, hi0, hz0, hz1, hz2⟩ := info_parts Try.infoI16
  have HK := Lib.hid hn
  have h1c : ∀ u ∈ icells l, u.oneCell' = true := fun u hu => by
    obtain ⟨x, _, rfl⟩ := List.mem_map.1 (show u ∈ l.map _ from hu)
    rfl
  cases A with
  | none =>
    have h0 : n = 0 := by
      rcases Nat.eq_zero_or_pos n with h | h
      · exact h
      · obtain ⟨ad, e, _⟩ := hR.2 h
        cases e
    have hn1 : (binOp .eql 64 (.slice none n c) (.slice none 0 0)).run Try.prog w = .ok (.bool true) w := Lib.run_eql_slice_nil w 64 3 none n c 0 0 Try.underlying64
    have H0 := Lib.hid h0
    clear hn h0 hR
    go_enter Try.func61, Try.ntmps61
    go_wp2
    go_ret
    have h0 := H0.out
    subst h0
    obtain rfl : l = [] := List.eq_nil_of_length_eq_zero HK.out.symm
    exact ⟨none, 0, rfl, World.ownsRow_nil _ _ _ _, Below.refl _ _⟩
  | some a =>
    have hn1 : (binOp .eql 64 (.slice (some a) n c) (.slice none 0 0)).run Try.prog w = .ok (.bool false) w := Lib.run_eql_slice_nil w 64 3 (some a) n c 0 0 Try.underlying64
    clear hn
    go_enter Try.func61, Try.ntmps61
    go_wp2_with (at_builtin; refine wpList_append_any _ rfl (.tmp 5) (.tmp 6) _ rfl w.heap.size 3 i0 _ 1 8 Try.underlying64 hi0 hz0 hz1 hz2 rfl (by omega) (.slice (some ⟨w.heap.size, 0, none⟩) 0 0) 0 [] rfl (World.ownsRow_made w #[] 0 (Nat.le_refl _) (by decide) rfl) w.heap.size (some a) n c (icells l) rfl (hR.alloc (Nat.le_refl _) _) h1c (by simp only [maxLen]; omega) (by omega) (by simp) ?_; intro v5 w5 ho5 hg5 hat5; obtain ⟨A5, c5, rfl⟩ := own_slice7 ho5; simp only [Nat.zero_add, List.nil_append] at ho5)
    have hb5 : Below w.heap.size w w5 := ((Below.refl _ _).alloc (Nat.le_refl _) _).grown hg5 (by simp) (fun j hj => by simp [Value.ownBlock] at hj; omega)
    go_ret
    exact ⟨A5, c5, by simp, ho5, hb5⟩
theorem cloneN_any (r : List NdP) (A : Option Addr) (n c : Nat) (w : World) (hn : n = r.length) (hR : Reads w w.heap.size 4 A n (rowP r)) (hl : n ≤ 1000000) :
    Calls Try.prog 59 #[.slice A n c] w fun e w' => ∃ A' c', e = .returned (.slice A' n c') ∧ w'.ownsRow w.heap.size 71 4 (.slice A' n c') n (rowP r) ∧ Below w.heap.size w w' := by
  obtain ⟨i0, hi0, hz0, hz1, hz2⟩ := info_parts Try.infoPNode
  have HK := Lib.hid hn
  cases A with
  | none =>
    have h0 : n = 0 := by
      rcases Nat.eq_zero_or_pos n with h | h
      · exact h
      · obtain ⟨ad, e, _⟩ := hR.2 h
        cases e
    have hn1 : (binOp .eql 58 (.slice none n c) (.slice none 0 0)).run Try.prog w = .ok (.bool true) w := Lib.run_eql_slice_nil w 58 71 none n c 0 0 Try.underlying58
    have H0 := Lib.hid h0
    clear hn h0 hR
    go_enter Try.func59, Try.ntmps59
    go_wp2
    go_ret
    have h0 := H0.out
    subst h0
    obtain rfl : r = [] := List.eq_nil_of_length_eq_zero HK.out.symm
    exact ⟨none, 0, rfl, World.ownsRow_nil _ _ _ _, Below.refl _ _⟩
  | some a =>
    have hn1 : (binOp .eql 58 (.slice (some a) n c) (.slice none 0 0)).run Try.prog w = .ok (.bool false) w := Lib.run_eql_slice_nil w 58 71 (some a) n c 0 0 Try.underlying58
    clear hn
    go_enter Try.func59, Try.ntmps59
    go_wp2_with (at_builtin; refine wpList_append_any _ rfl (.tmp 5) (.tmp 6) _ rfl w.heap.size 71 i0 _ 4 72 Try.underlying58 hi0 hz0 hz1 hz2 rfl (by omega) (.slice (some ⟨w.heap.size, 0, none⟩) 0 0) 0 [] rfl (World.ownsRow_made w #[] 0 (Nat.le_refl _) (by decide) rfl) w.heap.size (some a) n c (rowP r) rfl (hR.alloc (Nat.le_refl _) _) (rowP_one r) (by simp only [maxLen]; omega) (by omega) (by simp) ?_; intro v5 w5 ho5 hg5 hat5; obtain ⟨A5, c5, rfl⟩ := own_slice7 ho5; simp only [Nat.zero_add, List.nil_append] at ho5)
    have hb5 : Below w.heap.size w w5 := ((Below.refl _ _).alloc (Nat.le_refl _) _).grown hg5 (by simp) (fun j hj => by simp [Value.ownBlock] at hj; omega)
    go_ret
    exact ⟨A5, c5, by simp, ho5, hb5⟩
theorem cloneM_any {w : World} {mv : Value} {I : List Bs} (h : MapV w mv I) :
    Calls Try.prog 60 #[mv] w fun e w' => ∃ mv', e = .returned mv' ∧ MapV w' mv' I ∧ (∀ b, mv' = .map (some b) → w.heap.size ≤ b ∧ b < w'.heap.size) ∧ Below w.heap.size w w' := by
  have hq := fun (W : World) (o : Option Nat) => run_eql_map_nil_sl (P := Try.prog) W 59 _ _ o Try.underlying59
  rcases h with ⟨rfl, rfl⟩ | ⟨b, rfl, es, clock, hb, he⟩
  · go_enter Try.func60, Try.ntmps60
    go_wp2
    go_ret
    exact ⟨.map none, rfl, .inl ⟨rfl, rfl⟩, (fun b e => by cases e), Below.refl _ _⟩
  · go_enter Try.func60, Try.ntmps60
    go_wp2
    rw [run_callFunc_extern Try.func69 (by kernel_rfl) (by kernel_rfl) (by kernel_rfl) (e := Extern.MapsClone.clone) (by kernel_rfl), run_maps_clone_sl w 59 hb]
    simp only [Result.andThen]
    rw [Oper.upon_value]
    go_wp2
    rw [run_typeAssert_map_sl _ 59 20 _ _ _ Try.underlying59]
    simp only [Result.andThen]
    rw [Oper.upon_value]
    go_wp2
    go_ret
    refine ⟨.map (some w.heap.size), rfl, .inr ⟨_, rfl, es, clock, (MapKept.heap_alloc w _).1, he⟩, (fun b e => ?_), (Below.refl _ _).alloc (Nat.le_refl _) _⟩
    injection e with e
    injection e with e
    rw [← e]
    exact ⟨Nat.le_refl _, by simp⟩
end
end Go.Proofs.Ytbeihiokjhfepaa
