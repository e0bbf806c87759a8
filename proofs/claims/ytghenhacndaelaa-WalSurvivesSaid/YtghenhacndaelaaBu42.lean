/- Lemmas under the proofs of this place: WalLifeM. No statement is proved here. -/
import Derived.Test.YtghenhacndaelaaBu40
import Derived.Test.YtghenhacndaelaaBu23
import Derived.Test.YtghenhacndaelaaBu17
import Derived.Test.YtghenhacndaelaaBu41
import Derived.Test.YtghenhacndaelaaBu27
set_option linter.unusedSimpArgs false
set_option linter.unusedVariables false
namespace Go.Proofs.Ytghenhacndaelaa
open Go.ChangeShapes Go.WideShapes Go.ChangeAt Go.RowKit
open Wal
structure SvAt (w W : World) (g i n5 : Nat) (A5 : Option Addr) (n6 : Nat) (A6 : Option Addr) (F : Nat → Prop) (d : Dk) (all last R : List (List UInt8)) : Prop where
  has : Has w W g F d
  load : d.load ≤ 100 * i
  left : Wal.Left d 2 16 16 ((i + 1 : Nat) : Int) R
  b5 : BLw W (fun k => ¬ F k) A5 all
  b6 : BLw W (fun k => ¬ F k) A6 last
  e5 : n5 = all.length
  e6 : n6 = last.length
def SvA (w W : World) (g i n5 : Nat) (A5 : Option Addr) (n6 : Nat) (A6 : Option Addr) : Prop := ∃ F d all last R, SvAt w W g i n5 A5 n6 A6 F d all last R ∧ (R = all ∨ ∃ t, R = all ++ [t] ∧ last = R)
def SvI (w W : World) (g lg i k n : Nat) (A : Option Addr) (c : Nat) : Prop := ∃ F E d l all, Aw w W g lg F E d l ∧ Sv d l i all ∧ d.load ≤ 100 * i + 4 + 9 * k ∧ BLw W (fun x => ¬ (F x ∨ E x)) A all ∧ n = all.length ∧ CapN A n c
def SvO (w W : World) (g lg i n : Nat) (A : Option Addr) (c : Nat) (R : List (List UInt8)) : Prop := ∃ F E d l, Aw w W g lg F E d l ∧ Sv d l i R ∧ d.load ≤ 100 * i + 4 ∧ BLw W (fun x => ¬ (F x ∨ E x)) A R ∧ n = R.length ∧ CapN A n c ∧ Wal.Left d 2 16 16 ((i + 1 : Nat) : Int) R
def SvC (w W : World) (g lg g2 i n : Nat) (A : Option Addr) (c : Nat) (R : List (List UInt8)) : Prop := ∃ F E d l F2, Aw w W g lg F E d l ∧ Sv d l i R ∧ d.load ≤ 100 * i + 4 ∧ BLw W (fun x => ¬ ((F x ∨ E x) ∨ F2 x)) A R ∧ n = R.length ∧ CapN A n c ∧ Wal.Left d 2 16 16 ((i + 1 : Nat) : Int) R ∧ PDisk W g2 F2 d ∧ ∀ k, F2 k → ¬ (F k ∨ E k) ∧ w.heap.size ≤ k
def SvL (w W : World) (g lg i k n : Nat) (A : Option Addr) (c : Nat) (A6 : Option Addr) (c6 : Nat) (t : List UInt8) : Prop := ∃ F E d l all, Aw w W g lg F E d l ∧ Sv d l i all ∧ d.load ≤ 100 * i + 4 + 9 * k ∧ BLw W (fun x => ¬ (F x ∨ E x)) A all ∧ BLw W (fun x => ¬ (F x ∨ E x)) A6 (all ++ [t]) ∧ n = all.length ∧ CapN A n c ∧ CapN A6 (n + 1) c6
def SvE (w W : World) (g i n5 : Nat) (A5 : Option Addr) (n6 : Nat) (A6 : Option Addr) : Prop := ∃ F d all last, Has w W g F d ∧ SvOut d i all last ∧ d.load ≤ 100 * (i + 1) ∧ BLw W (fun k => ¬ F k) A5 all ∧ BLw W (fun k => ¬ F k) A6 last ∧ n5 = all.length ∧ n6 = last.length ∧ (last = all ∨ ∃ t, last = all ++ [t])
theorem left_few {d : Dk} {e : Int} {R : List (List UInt8)} (h : Wal.Left d 2 16 16 e R) (hi : e ≤ 1000 ∧ 1 ≤ e) : R.length ≤ 16 := by
  obtain ⟨l, u, _, h2, h3, h4, _⟩ := open_left (frm := 2) (n := 16) (len := 16) h ⟨by omega, by omega, by omega⟩ (by omega) ⟨by omega, by omega⟩
  have h5 := chain_length R 0 h2.area.chain
  have h6 := h2.top
  omega
theorem left_load {d : Dk} {n : Nat} : ({ d with reads := d.reads + n } : Dk).load = d.load + n := by
  unfold Dk.load
  show d.reads + n + d.writes + d.flushes + d.waits.length = _
  omega
theorem svA_start {w W : World} {g : Nat} {F : Nat → Prop} (h : GivesDisk (Dk.blank 16) w W g F) : SvA w W g 0 0 none 0 none :=
  ⟨F, Dk.blank 16, [], [], [], ⟨Has.gives (Below.refl _ _) h, by decide +kernel, left_blank 16 2 16, BLw.nil, BLw.nil, rfl, rfl⟩, .inl rfl⟩
theorem sv_open {w W : World} {g i n5 n6 : Nat} {A5 A6 : Option Addr} {F : Nat → Prop} {d : Dk} {all last R : List (List UInt8)} (h : SvAt w W g i n5 A5 n6 A6 F d all last R) (hi : i ≤ 12) :
    Calls Try.prog 7 #[.pointer (some ⟨g, 0, none⟩), .int .i64 2, .int .i64 4, .int .i64 1, .int .i64 ((i + 1 : Nat) : Int)] W fun e w' => ∃ (lg : Nat) (A : Option Addr) (c : Nat), e = .returned (.tuple #[.pointer (some ⟨lg, 0, none⟩), .slice A R.length c, .int .i64 0]) ∧ Hid (SvO w w' g lg i R.length A c R ∧ BLw w' (fun _ => True) A R ∧ BLw w' (fun _ => True) A5 all ∧ BLw w' (fun _ => True) A6 last) := by
  have ii : ∀ z : Int, 0 ≤ z → z ≤ 100 → InI z := fun z h1 h2 => by unfold InI; omega
  have hl := h.load
  have hlen := h.left.2.2.2.2.1
  obtain ⟨l, h1, h2, h3⟩ := Sv.begin_ h.left (by omega)
  refine (wopen_any h.has.disk 2 4 1 ((i + 1 : Nat) : Int) ⟨⟨ii 2 (by omega) (by omega), ii 4 (by omega) (by omega)⟩, ii 1 (by omega) (by omega), ii _ (by omega) (by omega)⟩ (by omega) (by omega)).mono fun e w' hp => ?_
  rw [h1] at hp
  obtain ⟨hd, lg, E, A, c, p1, p2, p3, p5, p4⟩ := hp
  refine ⟨lg, A, c, p4, ⟨F, E, _, l, ⟨h.has.deeds hd, p1, fun k hk => ⟨fun hf => by have := h.has.flt k hf; have := p2 k hk; omega, Nat.le_trans h.has.below.size (p2 k hk)⟩⟩, h2, by rw [left_load]; omega, p3.weak.wide fun k hk hx => ?_, rfl, p5, h3⟩, p3.weak.wide (fun _ _ => trivial), (h.b5.keep hd.2).wide (fun _ _ => trivial), (h.b6.keep hd.2).wide (fun _ _ => trivial)⟩
  rcases hx with hx | hx
  · have := h.has.flt k hx; omega
  · exact hk.2 hx
theorem Aw.past {w0 w w' : World} {g lg : Nat} {F E X X' : Nat → Prop} {d : Dk} {l : Lg} (h : Aw w0 w g lg F E d l) (ht : Turns w w' X X') (hX : ∀ k, X k → ¬ (F k ∨ E k) ∧ w0.heap.size ≤ k) : Aw w0 w' g lg F E d l :=
  ⟨⟨h.has.disk.turns ht (fun k hk hx => (hX k hx).1 (.inl hk)), h.has.below.trans (ht.below (fun k hk => (hX k hk).2) h.has.below.size), h.has.own⟩, h.log.turns ht (fun k hk hx => (hX k hx).1 (.inr hk)), h.ef⟩
theorem sv_clone {w W : World} {g lg i n : Nat} {A : Option Addr} {c : Nat} {R : List (List UInt8)} (h : SvO w W g lg i n A c R) (hi : i ≤ 12) :
    Calls Try.prog 10 #[.pointer (some ⟨g, 0, none⟩)] W fun e w' => ∃ g2, e = .returned (.pointer (some ⟨g2, 0, none⟩)) ∧ Hid (SvC w w' g lg g2 i n A c R) := by
  obtain ⟨F, E, d, l, h1, h2, h3, h4, h5, h6, h7⟩ := h
  refine (pclone_any h1.has.disk (by omega)).mono fun e w' hh => ?_
  obtain ⟨g2, F2, he, k1, k2, k3⟩ := hh
  refine ⟨g2, he, F, E, d, l, F2, h1.up k2, h2, h3, ?_, h5, h6, h7, k1, fun k hk => ⟨fun hx => by have := h1.lt k hx; have := k3 k hk; omega, Nat.le_trans h1.has.below.size (k3 k hk)⟩⟩
  refine (h4.lt.up k2).wide fun k hk hy => ?_
  rcases hy with hy | hy
  · exact hk.1 hy
  · have := k3 k hy
    have := hk.2
    omega
theorem sv_open2 {w W : World} {g lg g2 i n : Nat} {A : Option Addr} {c : Nat} {R : List (List UInt8)} (h : SvC w W g lg g2 i n A c R) (hi : i ≤ 12) :
    Calls Try.prog 7 #[.pointer (some ⟨g2, 0, none⟩), .int .i64 2, .int .i64 4, .int .i64 1, .int .i64 ((i + 1 : Nat) : Int)] W fun e w' => ∃ (lg2 : Nat) (A2 : Option Addr) (c2 : Nat), e = .returned (.tuple #[.pointer (some ⟨lg2, 0, none⟩), .slice A2 n c2, .int .i64 0]) ∧ Hid (SvI w w' g lg i 0 n A c ∧ BLw w' (fun _ => True) A R ∧ BLw w' (fun _ => True) A2 R) := by
  have ii : ∀ z : Int, 0 ≤ z → z ≤ 100 → InI z := fun z h1 h2 => by unfold InI; omega
  obtain ⟨F, E, d, l, F2, h1, h2, h3, h4, h5, h6, h7, h8, h9⟩ := h
  have hlen := h7.2.2.2.2.1
  obtain ⟨l2, k1, k2, k3⟩ := Sv.begin_ h7 (by omega)
  refine (wopen_any h8 2 4 1 ((i + 1 : Nat) : Int) ⟨⟨ii 2 (by omega) (by omega), ii 4 (by omega) (by omega)⟩, ii 1 (by omega) (by omega), ii _ (by omega) (by omega)⟩ (by omega) (by omega)).mono fun e w' hp => ?_
  rw [k1] at hp
  obtain ⟨hd, lg2, E2, A2, c2, p1, p2, p3, p5, p4⟩ := hp
  have hb := h4.turns hd.2 (fun k hk _ hf => hk (.inr hf))
  subst h5
  exact ⟨lg2, A2, c2, p4, ⟨F, E, d, l, R, h1.past hd.2 h9, h2, by omega, hb.wide (fun k hk hx => hk (.inl hx)), rfl, h6⟩, hb.wide (fun _ _ => trivial), p3.weak.wide (fun _ _ => trivial)⟩
theorem sv_stop {w W : World} {g lg i k n : Nat} {A : Option Addr} {c : Nat} (h : SvI w W g lg i k n A c) (z : Int) (hz : InI z) :
    Calls Try.prog 11 #[.pointer (some ⟨g, 0, none⟩), .int .i64 z] W fun e w' => ∃ x, e = .returned (.int .i64 x) ∧ Hid (SvI w w' g lg i k n A c) := by
  obtain ⟨F, E, d, l, all, h1, h2, h3, h4, h5, h6⟩ := h
  refine (stop_any h1.has.disk z hz).mono fun e w' hh => ⟨_, hh.1, ?_⟩
  have h7 := h1.disk hh.2
  exact ⟨F, E, _, l, all, h7.1, h2.stop z, by have := (keep_stop d z).2; omega, h4.keep h7.2, h5, h6⟩
theorem SvI.end_ {w W : World} {g lg i k n : Nat} {A : Option Addr} {c : Nat} (h : SvI w W g lg i k n A c) (hk : k ≤ 10) : SvE w W g i n A n A := by
  obtain ⟨F, E, d, l, all, h1, h2, h3, h4, h5, h6⟩ := h
  have hb : BLw W (fun k => ¬ F k) A all := h4.wide fun k hk hx => hk (.inl hx)
  exact ⟨F, d, all, all, h1.has, h2.out, by omega, hb, hb, h5, h5, .inl rfl⟩
theorem sv_append {w W : World} {g lg i k n : Nat} {A A6 : Option Addr} {c c6 : Nat} {t : List UInt8} (h : SvL w W g lg i k n A c A6 c6 t) (hi : i ≤ 12) (hk : k < 10) (T : Option Addr) (nt cT : Nat) (hn : nt = t.length) (hl : nt ≤ 900) (hr : RB w w.heap.size T t) (hc : nt ≤ cT) (hcm : cT ≤ 9223372036854775807) :
    Calls Try.prog 12 #[.pointer (some ⟨lg, 0, none⟩), .slice T nt cT] W fun e w' =>
      ((∃ code : Int, (code = 1 ∨ code = 2) ∧ e = .returned (.int .i64 code)) ∧ Hid (SvI w w' g lg i (k + 1) n A c)) ∨ (e = .returned (.int .i64 0) ∧ Hid (SvI w w' g lg i (k + 1) (n + 1) A6 c6)) ∨ (e = .returned (.int .i64 9) ∧ Hid (SvE w w' g i n A (n + 1) A6)) := by
  obtain ⟨F, E, d, l, all, h1, h2, h3, h4, h5, h6, h7, h8⟩ := h
  have hall := h1.all
  have hr2 : RB W W.heap.size T t := (hr.below h1.has.below).more h1.has.below.size
  have hfar : 0 < nt → ∀ ad, T = some ad → ¬ F ad.block ∧ ¬ E ad.block := fun h0 ad e => by
    obtain ⟨ad', e', hb, _⟩ := hr.2 (by omega)
    rw [e] at e'
    injection e' with e'
    subst e'
    exact ⟨fun hx => by have := hall _ (.inl hx); omega, fun hx => by have := hall _ (.inr hx); omega⟩
  have hld := append_load (d := d) (t := t) h2.fit
  rw [h2.n] at hld
  refine (wappend_any h1.has.disk h1.log (fun k hk => (h1.ef k hk).1) t nt T cT hn (by omega) hr2 hfar hc hcm (by omega) h2.fit (by omega) h2.len).mono fun e w' hh => ?_
  obtain ⟨F', E', k1, k2⟩ := h1.next hh.2
  rcases h2.append t with ⟨q1, q2⟩ | ⟨q1, q2⟩ | ⟨q1, q2⟩
  · exact .inl ⟨⟨_, q1, hh.1⟩, F', E', _, _, all, k1, q2, by omega, h4.keep k2, h6, h7⟩
  · refine .inr (.inl ⟨by rw [hh.1, q1], F', E', _, _, all ++ [t], k1, q2, by omega, h5.keep k2, by rw [List.length_append]; simp [h6], h8⟩)
  · refine .inr (.inr ⟨by rw [hh.1, q1], F', _, all, all ++ [t], k1.has, q2, by omega, (h4.keep k2).wide fun k hk hx => hk (.inl hx), (h5.keep k2).wide fun k hk hx => hk (.inl hx), h6, by rw [List.length_append]; simp [h6], .inr ⟨t, rfl⟩⟩)
theorem sv_crash {w W : World} {g i n5 n6 : Nat} {A5 A6 : Option Addr} (h : SvE w W g i n5 A5 n6 A6) (mA : Option Addr) (masks : List Int) (mn mc : Nat) (hm : mn = masks.length) (hr : RI w w.heap.size mA masks) :
    Calls Try.prog 13 #[.pointer (some ⟨g, 0, none⟩), .slice mA mn mc] W fun e w' => e = .returned (.tuple #[]) ∧ Hid (SvA w w' g (i + 1) n5 A5 n6 A6) := by
  obtain ⟨F, d, all, last, h1, h2, h3, h4, h5, h6, h7, h8⟩ := h
  have hfar : 0 < masks.length → ∀ ad, mA = some ad → ¬ F ad.block := fun h0 ad e hx => by
    obtain ⟨b, off, e', hb, _⟩ := hr h0
    rw [e] at e'
    injection e' with e'
    subst e'
    have := h1.own _ hx
    simp only at this
    omega
  have hr2 : RI W W.heap.size mA masks := fun h0 => by
    obtain ⟨b, off, e', hb, hc⟩ := hr h0
    exact ⟨b, off, e', Nat.lt_of_lt_of_le hb h1.below.size, fun j hj => (h1.below.cell (p := ⟨b, off + j, none⟩) hb).trans (hc j hj)⟩
  refine (crash_any h1.disk masks mA mn mc hm hr2 hfar).mono fun e w' hh => ⟨hh.1, ?_⟩
  have k1 := h1.deeds hh.2
  have k2 := (keep_crash d masks).2
  rcases h2.2 masks with q | q
  · exact ⟨F, _, all, last, all, ⟨k1, by omega, q, h4.keep hh.2.2, h5.keep hh.2.2, h6, h7⟩, .inl rfl⟩
  · refine ⟨F, _, all, last, last, ⟨k1, by omega, q, h4.keep hh.2.2, h5.keep hh.2.2, h6, h7⟩, ?_⟩
    rcases h8 with h8 | ⟨t, h8⟩
    · exact .inl h8
    · exact .inr ⟨t, h8, rfl⟩
theorem SvO.up {w W W' : World} {g lg i n : Nat} {A : Option Addr} {c : Nat} {R : List (List UInt8)} (h : SvO w W g lg i n A c R) (hb : Below W.heap.size W W') : SvO w W' g lg i n A c R := by
  obtain ⟨F, E, d, l, h1, h2, h3, h4, h5⟩ := h
  exact ⟨F, E, d, l, h1.up hb, h2, h3, h4.up hb, h5⟩
theorem SvO.cap {w W : World} {g lg i n : Nat} {A : Option Addr} {c : Nat} {R : List (List UInt8)} (h : SvO w W g lg i n A c R) : n ≤ c := by
  obtain ⟨F, E, d, l, h1, h2, h3, h4, h5, h6, h7⟩ := h
  exact h6.1
theorem SvI.up {w W W' : World} {g lg i k n : Nat} {A : Option Addr} {c : Nat} (h : SvI w W g lg i k n A c) (hb : Below W.heap.size W W') : SvI w W' g lg i k n A c := by
  obtain ⟨F, E, d, l, all, h1, h2, h3, h4, h5, h6⟩ := h
  exact ⟨F, E, d, l, all, h1.up hb, h2, h3, h4.up hb, h5, h6⟩
theorem SvI.below {w W : World} {g lg i k n : Nat} {A : Option Addr} {c : Nat} (h : SvI w W g lg i k n A c) : Below w.heap.size w W := by
  obtain ⟨F, E, d, l, all, h1, _⟩ := h
  exact h1.has.below
theorem SvE.below {w W : World} {g i n5 n6 : Nat} {A5 A6 : Option Addr} (h : SvE w W g i n5 A5 n6 A6) : Below w.heap.size w W := by
  obtain ⟨F, d, all, last, h1, _⟩ := h
  exact h1.below
theorem sv_begins {W : World} {R : List (List UInt8)} {n cA c5 : Nat} {A A5 : Option Addr} (hn : n = R.length) (h16 : R.length ≤ 16) (hc : n ≤ cA) (h1 : BLw W (fun _ => True) A R) (h2 : BLw W (fun _ => True) A5 R) :
    Calls Try.prog 8 #[.slice A n cA, .slice A5 n c5] W fun e w' => e = .returned (.bool true) ∧ Below W.heap.size W w' :=
  beginsw_any R [] n n A A5 cA c5 W _ _ hn (by simp [hn]) (by omega) hc (by rw [List.append_nil]; exact h1) h2
theorem sv_begins1 {W : World} {R : List (List UInt8)} {t : List UInt8} {m n cA c5 : Nat} {A A5 : Option Addr} (hn : n = R.length) (hm : m = (R ++ [t]).length) (h16 : (R ++ [t]).length ≤ 16) (hc : m ≤ cA) (h1 : BLw W (fun _ => True) A (R ++ [t])) (h2 : BLw W (fun _ => True) A5 R) :
    Calls Try.prog 8 #[.slice A m cA, .slice A5 n c5] W fun e w' => e = .returned (.bool true) ∧ Below W.heap.size W w' :=
  beginsw_any R [t] m n A A5 cA c5 W _ _ hn (by simp [hm]) (by omega) hc h1 h2
theorem SvI.few {w W : World} {g lg i k n : Nat} {A : Option Addr} {c : Nat} (h : SvI w W g lg i k n A c) : n ≤ 16 ∧ n ≤ c ∧ c ≤ 9223372036854775807 := by
  obtain ⟨F, E, d, l, all, h1, h2, h3, h4, h5, h6⟩ := h
  obtain ⟨u, hu⟩ := h2.live
  have h7 := chain_length all 0 hu.area.chain
  have h8 := hu.top
  have h9 := h2.n
  exact ⟨by omega, h6⟩
end Go.Proofs.Ytghenhacndaelaa
