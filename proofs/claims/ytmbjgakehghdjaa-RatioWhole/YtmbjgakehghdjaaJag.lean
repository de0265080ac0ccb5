/-
  OWN TEXT: package parts: signs turned (parts.turned, Conj, Neg, Mirror, Times), for every number.
-/
import Derived.Test.YtmbjgakehghdjaaJaf
import Derived.Test.YtmbjgakehghdjaaJac
namespace Go.Proofs.Ytmbjgakehghdjaa
open Go.ChangeShapes Go.WideShapes Go.ChangeAt Go.RowKit
set_option linter.unusedVariables false
attribute [local go_sem] frombits_call tobits_call run_neg
theorem xor_sign {x : Nat} (h : x < 18446744073709551616) : bits .xor .u64 (x : Int) 9223372036854775808 = ((Fl.ng x : Nat) : Int) := by
  have e := u64_xor_nat x 9223372036854775808 h (by omega)
  rw [show ((9223372036854775808 : Nat) : Int) = 9223372036854775808 from rfl] at e
  rw [e, ← Fl.neg_eq h]
  rfl
theorem turned_any (x : Nat) (w : World) (hx : x < 18446744073709551616) : Calls Try.prog 77 #[.float .f64 x] w fun e w' => e = .returned (.float .f64 (Fl.ng x)) ∧ w' = w := by
  have k := xor_sign hx
  go_enter Try.func77, Try.ntmps77
  go_wp2
  go_ret
  exact ⟨rfl, rfl⟩
theorem neg2_any (x y : Nat) (w : World) (hx : x < 18446744073709551616) (hy : y < 18446744073709551616) : Calls Try.prog 64 #[.complex .f64 x y] w fun e w' => e = .returned (.complex .f64 (Fl.ng x) (Fl.ng y)) ∧ w' = w := by
  have T : Hid (∀ wz, Calls Try.prog 77 #[.float .f64 x] wz fun e w' => e = .returned (.float .f64 (Fl.ng x)) ∧ w' = wz) := fun wz => turned_any x wz hx
  have U : Hid (∀ wz, Calls Try.prog 77 #[.float .f64 y] wz fun e w' => e = .returned (.float .f64 (Fl.ng y)) ∧ w' = wz) := fun wz => turned_any y wz hy
  generalize Fl.ng x = z at *
  generalize Fl.ng y = v at *
  go_enter Try.func64, Try.ntmps64
  go_wp2_with fail
  refine (T.out _).mono ?_
  rintro e' w ⟨rfl, rfl⟩
  go_wp2_with fail
  refine (U.out _).mono ?_
  rintro e' w ⟨rfl, rfl⟩
  go_wp2
  go_ret
  exact ⟨rfl, rfl⟩
end Go.Proofs.Ytmbjgakehghdjaa
/-
  OWN TEXT: whole complex numbers as the program has them: signs, quotients by 1, tests; package poly's tests of one number.
-/
namespace Go.Proofs.Ytmbjgakehghdjaa
open Go.ChangeShapes Go.WideShapes Go.ChangeAt Go.RowKit
set_option linter.unusedVariables false
attribute [local go_sem] frombits_call tobits_call run_neg
theorem pneg8 {c x y : Nat} {g : Py.G} (hg : wC c x y g) : ∃ r s, wC c r s (Py.gn g) ∧ ∀ w, Calls Try.prog 64 #[.complex .f64 x y] w fun e w' => e = .returned (.complex .f64 r s) ∧ w' = w :=
  ⟨_, _, ⟨hg.1.ng, hg.2.ng⟩, fun w => neg2_any x y w hg.1.1 hg.2.1⟩
/-- like, of two floats -/
theorem wI.like {c a b : Nat} {m n : Int} (ha : wI c a m) (hb : wI c b n) (h : Fl.eqF a b = false) : Fl.sameB a b = false := by
  rw [ha.eq hb] at h
  have hne := of_decide_eq_false h
  unfold Fl.sameB
  rw [ha.nan, hb.nan]
  simp only [Bool.and_false, Bool.false_or]
  have : a ≠ b := by
    rintro rfl
    have h1 := ha.2.2
    rw [hb.2.2] at h1
    have hp : (0 : Int) < ((2 ^ c : Nat) : Int) := by have := Nat.two_pow_pos c; omega
    exact hne (Int.eq_of_mul_eq_mul_right (by omega) h1).symm
  simp [this]
theorem alike8 {c a b : Nat} {m n : Int} (ha : wI c a m) (hb : wI c b n) (w : World) : Calls Try.prog 67 #[.float .f64 a, .float .f64 b] w fun e w' => e = .returned (.bool (decide (m = n))) ∧ w' = w := by
  have o := Fl.o_eq a b
  rw [ha.eq hb] at o
  by_cases k : m = n
  · rw [decide_eq_true k] at o ⊢
    clear k ha hb
    go_enter Try.func67, Try.ntmps67
    go_wp2
    go_ret
    exact ⟨rfl, rfl⟩
  · have s := ha.like hb (by rw [ha.eq hb]; exact decide_eq_false k)
    rw [decide_eq_false k] at o ⊢
    have S : Hid (∀ wz, Calls Try.prog 55 #[.float .f64 a, .float .f64 b] wz fun e w' => e = .returned (.bool false) ∧ w' = wz) := fun wz => by have q := same_any a b wz; rw [s] at q; exact q
    clear k ha hb s
    go_enter Try.func67, Try.ntmps67
    go_wp2_with fail
    refine (S.out _).mono ?_
    rintro e' w ⟨rfl, rfl⟩
    go_wp2
    go_ret
    exact ⟨rfl, rfl⟩
theorem g_eq (g h : Py.G) : decide (g = h) = (decide (g.1 = h.1) && decide (g.2 = h.2)) := by
  by_cases k : g = h
  · subst k; simp
  · rw [decide_eq_false k]
    by_cases k1 : g.1 = h.1
    · by_cases k2 : g.2 = h.2
      · exact absurd (Py.gext k1 k2) k
      · simp [k2]
    · simp [k1]
theorem plike8 {c x y u v : Nat} {g h : Py.G} (hg : wC c x y g) (hh : wC c u v h) (w : World) : Calls Try.prog 48 #[.complex .f64 x y, .complex .f64 u v] w fun e w' => e = .returned (.bool (decide (g = h))) ∧ w' = w := by
  rw [g_eq]
  have A1 : Hid (∀ wz, Calls Try.prog 67 #[.float .f64 x, .float .f64 u] wz fun e w' => e = .returned (.bool (decide (g.1 = h.1))) ∧ w' = wz) := fun wz => alike8 hg.1 hh.1 wz
  have A2 : Hid (∀ wz, Calls Try.prog 67 #[.float .f64 y, .float .f64 v] wz fun e w' => e = .returned (.bool (decide (g.2 = h.2))) ∧ w' = wz) := fun wz => alike8 hg.2 hh.2 wz
  generalize decide (g.1 = h.1) = p at *
  generalize decide (g.2 = h.2) = q at *
  clear hg hh
  cases p
  · go_enter Try.func48, Try.ntmps48
    go_wp2_with fail
    refine (A1.out _).mono ?_
    rintro e' w ⟨rfl, rfl⟩
    go_wp2
    go_ret
    exact ⟨rfl, rfl⟩
  · go_enter Try.func48, Try.ntmps48
    go_wp2_with fail
    refine (A1.out _).mono ?_
    rintro e' w ⟨rfl, rfl⟩
    go_wp2_with fail
    refine (A2.out _).mono ?_
    rintro e' w ⟨rfl, rfl⟩
    go_wp2
    go_ret
    exact ⟨by cases q <;> rfl, rfl⟩
theorem pwithin8 {c x y : Nat} {g : Py.G} (hc : c = 1074) (hg : wC c x y g) (hl : Py.Le g 1099511627776) (w : World) : Calls Try.prog 72 #[.complex .f64 x y] w fun e w' => e = .returned (.bool true) ∧ w' = w := by
  have A1 : Hid (∀ wz, Calls Try.prog 82 #[.float .f64 x, .float .f64 4787326403894837248] wz fun e w' => e = .returned (.bool true) ∧ w' = wz) := fun wz => by have q := within_any x 4787326403894837248 wz hg.1.1; rw [hg.1.within hc hl.one.1] at q; exact q
  have A2 : Hid (∀ wz, Calls Try.prog 82 #[.float .f64 y, .float .f64 4787326403894837248] wz fun e w' => e = .returned (.bool true) ∧ w' = wz) := fun wz => by have q := within_any y 4787326403894837248 wz hg.2.1; rw [hg.2.within hc hl.one.2] at q; exact q
  clear hg hl
  have P : Hid (∀ wz, Calls Try.prog 78 #[.complex .f64 x y, .float .f64 4787326403894837248] wz fun e w' => e = .returned (.bool true) ∧ w' = wz) := by
    intro wz
    go_enter Try.func78, Try.ntmps78
    go_wp2_with fail
    refine (A1.out _).mono ?_
    rintro e' w ⟨rfl, rfl⟩
    go_wp2_with fail
    refine (A2.out _).mono ?_
    rintro e' w ⟨rfl, rfl⟩
    go_wp2
    go_ret
    exact ⟨rfl, rfl⟩
  clear A1 A2
  go_enter Try.func72, Try.ntmps72
  go_wp2_with fail
  refine (P.out _).mono ?_
  rintro e' w ⟨rfl, rfl⟩
  go_wp2
  go_ret
  exact ⟨rfl, rfl⟩
theorem pfinite8 {c x y : Nat} {g : Py.G} (hg : wC c x y g) (w : World) : Calls Try.prog 61 #[.complex .f64 x y] w fun e w' => e = .returned (.bool true) ∧ w' = w := by
  have A1 : Hid (∀ wz, Calls Try.prog 73 #[.float .f64 x] wz fun e w' => e = .returned (.bool true) ∧ w' = wz) := fun wz => by have q := finite_any x wz hg.1.1; rw [hg.1.fin] at q; exact q
  have A2 : Hid (∀ wz, Calls Try.prog 73 #[.float .f64 y] wz fun e w' => e = .returned (.bool true) ∧ w' = wz) := fun wz => by have q := finite_any y wz hg.2.1; rw [hg.2.fin] at q; exact q
  clear hg
  go_enter Try.func61, Try.ntmps61
  go_wp2_with fail
  refine (A1.out _).mono ?_
  rintro e' w ⟨rfl, rfl⟩
  go_wp2_with fail
  refine (A2.out _).mono ?_
  rintro e' w ⟨rfl, rfl⟩
  go_wp2
  go_ret
  exact ⟨rfl, rfl⟩
theorem isnought8 {c x y : Nat} {g : Py.G} (hg : wC c x y g) (w : World) : Calls Try.prog 57 #[.complex .f64 x y] w fun e w' => e = .returned (.bool (decide (g = (0, 0)))) ∧ w' = w := by
  have P : Hid (∀ wz, Calls Try.prog 48 #[.complex .f64 x y, .complex .f64 0 0] wz fun e w' => e = .returned (.bool (decide (g = (0, 0)))) ∧ w' = wz) := fun wz => plike8 hg (wC.nought c) wz
  clear hg
  generalize decide (g = (0, 0)) = p at *
  go_enter Try.func57, Try.ntmps57
  go_wp2_with fail
  refine (P.out _).mono ?_
  rintro e' w ⟨rfl, rfl⟩
  go_wp2
  go_ret
  exact ⟨rfl, rfl⟩
/-- by 1, with a nought of either sign beside it -/
theorem pdiv8 {c x y u v M : Nat} {g : Py.G} (hc : c = 1074) (hg : wC c x y g) (hh : wC c u v (1, 0)) (lg : Py.Le g M) (hs : M ≤ 9007199254740992) : ∃ r s, wC c r s g ∧ ∀ w, Calls Try.prog 26 #[.complex .f64 x y, .complex .f64 u v] w fun e w' => e = .returned (.complex .f64 r s) ∧ w' = w := by
  have hu := w_one hc hh.1
  subst hu
  obtain ⟨b1, b2⟩ := lg.one
  have hv := hh.2
  obtain ⟨k, hk, e1⟩ := w_quo hc hv (by decide)
  obtain ⟨t0, h2, e2⟩ := w_mul hc hv hk (by decide)
  obtain ⟨t, h3, e3⟩ := w_add hc hh.1 h2 (by decide)
  have ht := w_one hc h3
  subst ht
  obtain ⟨q1, h4, e4⟩ := w_mul hc hg.2 hk (by rw [Int.mul_zero]; decide)
  obtain ⟨q2, h5, e5⟩ := w_add hc hg.1 h4 (by rw [Int.mul_zero, Int.add_zero]; omega)
  obtain ⟨q3, h6, e6⟩ := w_mul hc hg.1 hk (by rw [Int.mul_zero]; decide)
  obtain ⟨q4, h7, e7⟩ := w_sub hc hg.2 h6 (by rw [Int.mul_zero, Int.sub_zero]; omega)
  rw [Int.mul_zero, Int.add_zero] at h5
  rw [Int.mul_zero, Int.sub_zero] at h7
  obtain ⟨r, h8, e8⟩ := w_quo hc h5 (by omega)
  obtain ⟨s, h9, e9⟩ := w_quo hc h7 (by omega)
  refine ⟨r, s, ⟨h8, h9⟩, fun w => ?_⟩
  have A1 : Hid (∀ wz, Calls Try.prog 27 #[.float .f64 4607182418800017408] wz fun e w' => e = .returned (.float .f64 4607182418800017408) ∧ w' = wz) := fun wz => abs_any 4607182418800017408 wz (by decide)
  have hz : Fl.rg v = 0 := by
    have h := hv.vl
    simp only [Int.natAbs_zero, Nat.zero_mul] at h
    exact Fl.vl_inj.1 (h.trans (show 0 = Fl.vl 0 by decide))
  have A2 : Hid (∀ wz, Calls Try.prog 27 #[.float .f64 v] wz fun e w' => e = .returned (.float .f64 0) ∧ w' = wz) := fun wz => by have q := abs_any v wz hv.1; rw [hz] at q; exact q
  clear hg hh lg hs hv hk h2 h3 h4 h5 h6 h7 h8 h9 b1 b2 hz
  go_enter Try.func26, Try.ntmps26
  go_wp2_with fail
  refine (A1.out _).mono ?_
  rintro e' w ⟨rfl, rfl⟩
  go_wp2_with fail
  refine (A2.out _).mono ?_
  rintro e' w ⟨rfl, rfl⟩
  go_wp2
  go_ret
  exact ⟨rfl, rfl⟩
end Go.Proofs.Ytmbjgakehghdjaa
/-
  OWN TEXT: lists of whole complex numbers in memory; package poly's tests of lists.
-/
namespace Go.Proofs.Ytmbjgakehghdjaa
open Go.ChangeShapes Go.WideShapes Go.ChangeAt Go.RowKit
set_option linter.unusedVariables false
attribute [local go_sem] frombits_call tobits_call run_neg
/-- the list l lies at block b, from o on -/
def Gl (c : Nat) (w : World) (b o : Nat) (l : List Py.G) : Prop := b < w.heap.size ∧ ∀ i, i < l.length → ∃ x y, w.cell? ⟨b, o + i, none⟩ = some (.complex .f64 x y) ∧ wC c x y (Py.co l i)
theorem Gl.bw {c : Nat} {w w' : World} {b o : Nat} {l : List Py.G} (h : Gl c w b o l) (k : Bw w w') : Gl c w' b o l := by
  obtain ⟨h1, h2⟩ := h
  have hs : w.heap.size ≤ w'.heap.size := Below.size k
  refine ⟨by omega, fun i hi => ?_⟩
  obtain ⟨x, y, e, q⟩ := h2 i hi
  exact ⟨x, y, (Below.cell k (p := ⟨b, o + i, none⟩) h1).trans e, q⟩
/-- the same, and it may be written -/
def Gw (c : Nat) (w : World) (B : Nat) (l : List Py.G) : Prop := Gl c w B 0 l ∧ ∀ i, w.frozen? ⟨B, i, none⟩ = false
theorem Gw.set {c : Nat} {w : World} {B : Nat} {l : List Py.G} (h : Gw c w B l) (i x y : Nat) (g : Py.G) (hi : i < l.length) (hg : wC c x y g) : Gw c (w.setCell ⟨B, i, none⟩ (.complex .f64 x y)) B (l.set i g) := by
  obtain ⟨⟨h1, h2⟩, h3⟩ := h
  refine ⟨⟨by simpa [World.setCell] using h1, fun j hj => ?_⟩, fun j => (World.frozen?_setCell _ _ _ _).trans (h3 j)⟩
  rw [List.length_set] at hj
  rw [Py.co_set _ _ _ _ hi]
  obtain ⟨x', y', e, q⟩ := h2 j hj
  by_cases k : j = i
  · subst k
    rw [if_pos rfl]
    exact ⟨x, y, by rw [Nat.zero_add] at e ⊢; exact World.cell?_setCell_same _ _ _ e, hg⟩
  · rw [if_neg k]
    refine ⟨x', y', ?_, q⟩
    rw [World.cell?_setCell_other]
    · exact e
    · intro e'; cases e'; omega
theorem last8 {c : Nat} {w : World} {b o cap : Nat} {l : List Py.G} (n : Nat) (hn : l.length = n + 1) (hm : n < 1000000) (h : Gl c w b o l) : ∃ x y, wC c x y (Py.co l n) ∧ Calls Try.prog 58 #[.slice (some ⟨b, o, none⟩) (n + 1) cap] w fun e w' => e = .returned (.complex .f64 x y) ∧ w' = w := by
  obtain ⟨x, y, e, q⟩ := h.2 n (by omega)
  refine ⟨x, y, q, ?_⟩
  clear q h hn
  go_enter Try.func58, Try.ntmps58
  go_wp2
  go_ret
  exact ⟨rfl, rfl⟩
theorem places8 {c : Nat} (hc : c = 1074) {w : World} {b o cap : Nat} {l : List Py.G} (n : Nat) (hn : l.length = n) (hm : n < 1000000) (h : Gl c w b o l) (hl : ∀ i, i < n → Py.Le (Py.co l i) 1099511627776) : Calls Try.prog 59 #[.slice (some ⟨b, o, none⟩) n cap] w fun e w' => e = .returned (.bool true) ∧ Bw w w' := by
  have HL : Hid (∀ i, i < n → Py.Le (Py.co l i) 1099511627776) := hl
  have HG : Hid (Gl c w b o l) := h
  have HN : Hid (l.length = n) := hn
  clear hl h hn
  go_enter Try.func59, Try.ntmps59
  go_wp2
  go_loopw [7] (fun i wr => ∃ k : Nat, k ≤ n ∧ i = .int .i64 k ∧ Bw w wr) (fun i _ => n - (intOf i).toNat)
  case atStart => exact ⟨0, Nat.zero_le _, rfl, Bw.refl _⟩
  case round =>
    obtain ⟨k, hk, rfl, hbw⟩ := hrel
    by_cases hk1 : k < n
    · obtain ⟨x, y, e, q⟩ := (HG.out.bw hbw).2 k (by have := HN.out; omega)
      have P : Hid (∀ wz, Calls Try.prog 72 #[.complex .f64 x y] wz fun e w' => e = .returned (.bool true) ∧ w' = wz) := fun wz => pwithin8 hc q (HL.out k hk1) wz
      clear q
      have hk2 : (k : Int) < n := by omega
      go_wp2_with fail
      refine (P.out _).mono ?_
      rintro e' w1 ⟨rfl, rfl⟩
      clear P e
      go_wp2
      go_roundw
      case rel => exact ⟨k + 1, by omega, by simp, hbw⟩
      case measure => simp [intOf]; omega
    · have hk3 : k = n := by omega
      subst hk3
      go_wp2
      go_ret
      exact ⟨rfl, hbw⟩
end Go.Proofs.Ytmbjgakehghdjaa
