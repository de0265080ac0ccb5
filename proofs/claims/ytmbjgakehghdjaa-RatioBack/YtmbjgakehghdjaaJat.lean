/-
  OWN TEXT: whole complex numbers as the program has them: signs, quotients by 1, tests; package poly's tests of one number.
-/
import Derived.Test.YtmbjgakehghdjaaJas
import Derived.Test.YtmbjgakehghdjaaJaq
import Derived.Test.YtmbjgakehghdjaaJar
namespace Go.Proofs.Ytmbjgakehghdjaa
open Go.ChangeShapes Go.WideShapes Go.ChangeAt Go.RowKit
set_option linter.unusedVariables false
attribute [local go_sem] frombits_call tobits_call run_neg
theorem pneg8 {c x y : Nat} {g : Py.G} (hg : wC c x y g) : ∃ r s, wC c r s (Py.gn g) ∧ ∀ w, Calls Try.prog 64 #[.complex .f64 x y] w fun e w' => e = .returned (.complex .f64 r s) ∧ w' = w :=
  ⟨_, _, ⟨hg.1.ng, hg.2.ng⟩, fun w => neg2_any x y w hg.1.1 hg.2.1⟩
/-- like, of two floats -/
theorem wI.like {c a b : Nat} {m n : Int} (ha : wI c a m) (hb : wI c b n) (h : Fl.eqF a b = false) : Fl.sameB a b = false := by
  rw [ha.eq hb] at h
  have hne := of_decide_eq_false h
  unfold Fl.sameB
  rw [ha.nan, hb.nan]
  simp only [Bool.and_false, Bool.false_or]
  have : a ≠ b := by
    rintro rfl
    have h1 := ha.2.2
    rw [hb.2.2] at h1
    have hp : (0 : Int) < ((2 ^ c : Nat) : Int) := by have := Nat.two_pow_pos c; omega
    exact hne (Int.eq_of_mul_eq_mul_right (by omega) h1).symm
  simp [this]
theorem alike8 {c a b : Nat} {m n : Int} (ha : wI c a m) (hb : wI c b n) (w : World) : Calls Try.prog 67 #[.float .f64 a, .float .f64 b] w fun e w' => e = .returned (.bool (decide (m = n))) ∧ w' = w := by
  have o := Fl.o_eq a b
  rw [ha.eq hb] at o
  by_cases k : m = n
  · rw [decide_eq_true k] at o ⊢
    clear k ha hb
    go_enter Try.func67, Try.ntmps67
    go_wp2
    go_ret
    exact ⟨rfl, rfl⟩
  · have s := ha.like hb (by rw [ha.eq hb]; exact decide_eq_false k)
    rw [decide_eq_false k] at o ⊢
    have S : Hid (∀ wz, Calls Try.prog 55 #[.float .f64 a, .float .f64 b] wz fun e w' => e = .returned (.bool false) ∧ w' = wz) := fun wz => by have q := same_any a b wz; rw [s] at q; exact q
    clear k ha hb s
    go_enter Try.func67, Try.ntmps67
    go_wp2_with fail
    refine (S.out _).mono ?_
    rintro e' w ⟨rfl, rfl⟩
    go_wp2
    go_ret
    exact ⟨rfl, rfl⟩
theorem g_eq (g h : Py.G) : decide (g = h) = (decide (g.1 = h.1) && decide (g.2 = h.2)) := by
  by_cases k : g = h
  · subst k; simp
  · rw [decide_eq_false k]
    by_cases k1 : g.1 = h.1
    · by_cases k2 : g.2 = h.2
      · exact absurd (Py.gext k1 k2) k
      · simp [k2]
    · simp [k1]
theorem plike8 {c x y u v : Nat} {g h : Py.G} (hg : wC c x y g) (hh : wC c u v h) (w : World) : Calls Try.prog 48 #[.complex .f64 x y, .complex .f64 u v] w fun e w' => e = .returned (.bool (decide (g = h))) ∧ w' = w := by
  rw [g_eq]
  have A1 : Hid (∀ wz, Calls Try.prog 67 #[.float .f64 x, .float .f64 u] wz fun e w' => e = .returned (.bool (decide (g.1 = h.1))) ∧ w' = wz) := fun wz => alike8 hg.1 hh.1 wz
  have A2 : Hid (∀ wz, Calls Try.prog 67 #[.float .f64 y, .float .f64 v] wz fun e w' => e = .returned (.bool (decide (g.2 = h.2))) ∧ w' = wz) := fun wz => alike8 hg.2 hh.2 wz
  generalize decide (g.1 = h.1) = p at *
  generalize decide (g.2 = h.2) = q at *
  clear hg hh
  cases p
  · go_enter Try.func48, Try.ntmps48
    go_wp2_with fail
    refine (A1.out _).mono ?_
    rintro e' w ⟨rfl, rfl⟩
    go_wp2
    go_ret
    exact ⟨rfl, rfl⟩
  · go_enter Try.func48, Try.ntmps48
    go_wp2_with fail
    refine (A1.out _).mono ?_
    rintro e' w ⟨rfl, rfl⟩
    go_wp2_with fail
    refine (A2.out _).mono ?_
    rintro e' w ⟨rfl, rfl⟩
    go_wp2
    go_ret
    exact ⟨by cases q <;> rfl, rfl⟩
theorem pwithin8 {c x y : Nat} {g : Py.G} (hc : c = 1074) (hg : wC c x y g) (hl : Py.Le g 1099511627776) (w : World) : Calls Try.prog 72 #[.complex .f64 x y] w fun e w' => e = .returned (.bool true) ∧ w' = w := by
  have A1 : Hid (∀ wz, Calls Try.prog 82 #[.float .f64 x, .float .f64 4787326403894837248] wz fun e w' => e = .returned (.bool true) ∧ w' = wz) := fun wz => by have q := within_any x 4787326403894837248 wz hg.1.1; rw [hg.1.within hc hl.one.1] at q; exact q
  have A2 : Hid (∀ wz, Calls Try.prog 82 #[.float .f64 y, .float .f64 4787326403894837248] wz fun e w' => e = .returned (.bool true) ∧ w' = wz) := fun wz => by have q := within_any y 4787326403894837248 wz hg.2.1; rw [hg.2.within hc hl.one.2] at q; exact q
  clear hg hl
  have P : Hid (∀ wz, Calls Try.prog 78 #[.complex .f64 x y, .float .f64 4787326403894837248] wz fun e w' => e = .returned (.bool true) ∧ w' = wz) := by
    intro wz
    go_enter Try.func78, Try.ntmps78
    go_wp2_with fail
    refine (A1.out _).mono ?_
    rintro e' w ⟨rfl, rfl⟩
    go_wp2_with fail
    refine (A2.out _).mono ?_
    rintro e' w ⟨rfl, rfl⟩
    go_wp2
    go_ret
    exact ⟨rfl, rfl⟩
  clear A1 A2
  go_enter Try.func72, Try.ntmps72
  go_wp2_with fail
  refine (P.out _).mono ?_
  rintro e' w ⟨rfl, rfl⟩
  go_wp2
  go_ret
  exact ⟨rfl, rfl⟩
theorem pfinite8 {c x y : Nat} {g : Py.G} (hg : wC c x y g) (w : World) : Calls Try.prog 61 #[.complex .f64 x y] w fun e w' => e = .returned (.bool true) ∧ w' = w := by
  have A1 : Hid (∀ wz, Calls Try.prog 73 #[.float .f64 x] wz fun e w' => e = .returned (.bool true) ∧ w' = wz) := fun wz => by have q := finite_any x wz hg.1.1; rw [hg.1.fin] at q; exact q
  have A2 : Hid (∀ wz, Calls Try.prog 73 #[.float .f64 y] wz fun e w' => e = .returned (.bool true) ∧ w' = wz) := fun wz => by have q := finite_any y wz hg.2.1; rw [hg.2.fin] at q; exact q
  clear hg
  go_enter Try.func61, Try.ntmps61
  go_wp2_with fail
  refine (A1.out _).mono ?_
  rintro e' w ⟨rfl, rfl⟩
  go_wp2_with fail
  refine (A2.out _).mono ?_
  rintro e' w ⟨rfl, rfl⟩
  go_wp2
  go_ret
  exact ⟨rfl, rfl⟩
theorem isnought8 {c x y : Nat} {g : Py.G} (hg : wC c x y g) (w : World) : Calls Try.prog 57 #[.complex .f64 x y] w fun e w' => e = .returned (.bool (decide (g = (0, 0)))) ∧ w' = w := by
  have P : Hid (∀ wz, Calls Try.prog 48 #[.complex .f64 x y, .complex .f64 0 0] wz fun e w' => e = .returned (.bool (decide (g = (0, 0)))) ∧ w' = wz) := fun wz => plike8 hg (wC.nought c) wz
  clear hg
  generalize decide (g = (0, 0)) = p at *
  go_enter Try.func57, Try.ntmps57
  go_wp2_with fail
  refine (P.out _).mono ?_
  rintro e' w ⟨rfl, rfl⟩
  go_wp2
  go_ret
  exact ⟨rfl, rfl⟩
/-- by 1, with a nought of either sign beside it -/
theorem pdiv8 {c x y u v M : Nat} {g : Py.G} (hc : c = 1074) (hg : wC c x y g) (hh : wC c u v (1, 0)) (lg : Py.Le g M) (hs : M ≤ 9007199254740992) : ∃ r s, wC c r s g ∧ ∀ w, Calls Try.prog 26 #[.complex .f64 x y, .complex .f64 u v] w fun e w' => e = .returned (.complex .f64 r s) ∧ w' = w := by
  have hu := w_one hc hh.1
  subst hu
  obtain ⟨b1, b2⟩ := lg.one
  have hv := hh.2
  obtain ⟨k, hk, e1⟩ := w_quo hc hv (by decide)
  obtain ⟨t0, h2, e2⟩ := w_mul hc hv hk (by decide)
  obtain ⟨t, h3, e3⟩ := w_add hc hh.1 h2 (by decide)
  have ht := w_one hc h3
  subst ht
  obtain ⟨q1, h4, e4⟩ := w_mul hc hg.2 hk (by rw [Int.mul_zero]; decide)
  obtain ⟨q2, h5, e5⟩ := w_add hc hg.1 h4 (by rw [Int.mul_zero, Int.add_zero]; omega)
  obtain ⟨q3, h6, e6⟩ := w_mul hc hg.1 hk (by rw [Int.mul_zero]; decide)
  obtain ⟨q4, h7, e7⟩ := w_sub hc hg.2 h6 (by rw [Int.mul_zero, Int.sub_zero]; omega)
  rw [Int.mul_zero, Int.add_zero] at h5
  rw [Int.mul_zero, Int.sub_zero] at h7
  obtain ⟨r, h8, e8⟩ := w_quo hc h5 (by omega)
  obtain ⟨s, h9, e9⟩ := w_quo hc h7 (by omega)
  refine ⟨r, s, ⟨h8, h9⟩, fun w => ?_⟩
  have A1 : Hid (∀ wz, Calls Try.prog 27 #[.float .f64 4607182418800017408] wz fun e w' => e = .returned (.float .f64 4607182418800017408) ∧ w' = wz) := fun wz => abs_any 4607182418800017408 wz (by decide)
  have hz : Fl.rg v = 0 := by
    have h := hv.vl
    simp only [Int.natAbs_zero, Nat.zero_mul] at h
    exact Fl.vl_inj.1 (h.trans (show 0 = Fl.vl 0 by decide))
  have A2 : Hid (∀ wz, Calls Try.prog 27 #[.float .f64 v] wz fun e w' => e = .returned (.float .f64 0) ∧ w' = wz) := fun wz => by have q := abs_any v wz hv.1; rw [hz] at q; exact q
  clear hg hh lg hs hv hk h2 h3 h4 h5 h6 h7 h8 h9 b1 b2 hz
  go_enter Try.func26, Try.ntmps26
  go_wp2_with fail
  refine (A1.out _).mono ?_
  rintro e' w ⟨rfl, rfl⟩
  go_wp2_with fail
  refine (A2.out _).mono ?_
  rintro e' w ⟨rfl, rfl⟩
  go_wp2
  go_ret
  exact ⟨rfl, rfl⟩
end Go.Proofs.Ytmbjgakehghdjaa
/-
  OWN TEXT: a quotient of floats: how far it is from the true one; that it is exact where it can be.
-/
namespace Go.Proofs.Ytmbjgakehghdjaa.Fl
set_option linter.unusedVariables false
theorem quo_parts (m n a b c M q r st : Nat) (hn : 0 < n) (hdm : n * q + r = m * 2 ^ M) (hr : r ≤ n * st) :
    n * 2 ^ b * ((2 * q + st) * 2 ^ (a + c)) ≤ m * 2 ^ a * 2 ^ c * 2 ^ (b + M + 1) + n * 2 ^ b * (st * 2 ^ (a + c)) ∧
    m * 2 ^ a * 2 ^ c * 2 ^ (b + M + 1) ≤ n * 2 ^ b * ((2 * q + st) * 2 ^ (a + c)) + n * 2 ^ b * (st * 2 ^ (a + c)) := by
  obtain ⟨W, hW⟩ : ∃ W, W = 2 ^ b * 2 ^ (a + c) := ⟨_, rfl⟩
  have e1 : n * 2 ^ b * ((2 * q + st) * 2 ^ (a + c)) = (2 * (n * q) + n * st) * W := by rw [hW]; grind
  have e2 : m * 2 ^ a * 2 ^ c * 2 ^ (b + M + 1) = (2 * (n * q) + 2 * r) * W := by
    rw [← Nat.mul_add, hdm, hW, Nat.pow_add, Nat.pow_add, Nat.pow_add]
    grind
  have e3 : n * 2 ^ b * (st * 2 ^ (a + c)) = n * st * W := by rw [hW]; grind
  rw [e1, e2, e3, ← Nat.add_mul, ← Nat.add_mul]
  exact ⟨Nat.mul_le_mul_right W (by omega), Nat.mul_le_mul_right W (by omega)⟩
theorem quo_whole (m n a b M K : Nat) (hm : m ≠ 0) (hn : n ≠ 0) (hM : 54 + n.log2 - m.log2 = M) (hK : K ≤ 9007199254740992) (h : m * 2 ^ a = K * (n * 2 ^ b)) : m * 2 ^ M % n = 0 := by
  rcases Nat.lt_or_ge b a with k | k
  · obtain ⟨t, ht⟩ : ∃ t, a = b + t := ⟨a - b, by omega⟩
    subst ht
    have h2 : m * 2 ^ t = K * n := by
      refine Nat.eq_of_mul_eq_mul_right (Nat.two_pow_pos b) ?_
      rw [Nat.pow_add, Nat.mul_comm (2 ^ b), ← Nat.mul_assoc] at h
      rw [h, Nat.mul_assoc]
    have l1 := log2_le m hm
    have l2 := log2_lt n hn
    have l3 : 2 ^ (m.log2 + t) < 2 ^ (54 + n.log2) := by
      rw [Nat.pow_add, show 54 + n.log2 = 53 + (n.log2 + 1) by omega, Nat.pow_add 2 53, show (2 : Nat) ^ 53 = 9007199254740992 by decide]
      refine Nat.lt_of_le_of_lt (Nat.mul_le_mul_right _ l1) ?_
      rw [h2]
      refine Nat.lt_of_le_of_lt (Nat.mul_le_mul_right n hK) ?_
      exact Nat.mul_lt_mul_of_pos_left l2 (by decide)
    have l4 := (Nat.pow_lt_pow_iff_right (a := 2) (by decide)).1 l3
    obtain ⟨s, hs⟩ : ∃ s, M = t + s := ⟨M - t, by omega⟩
    rw [hs, Nat.pow_add, ← Nat.mul_assoc, h2, Nat.mul_right_comm, Nat.mul_comm]
    exact Nat.mul_mod_right _ _
  · obtain ⟨t, ht⟩ : ∃ t, b = a + t := ⟨b - a, by omega⟩
    subst ht
    have h2 : m = K * (n * 2 ^ t) := by
      refine Nat.eq_of_mul_eq_mul_right (Nat.two_pow_pos a) ?_
      rw [h, Nat.pow_add]
      grind
    rw [h2, show K * (n * 2 ^ t) * 2 ^ M = n * (K * 2 ^ t * 2 ^ M) by grind]
    exact Nat.mul_mod_right _ _
theorem div_form {x y : Nat} (c : Nat) (hc : c = 1074) (hx : rg x < 9218868437227405312) (hy : rg y < 9218868437227405312) (h0 : ¬ rg y = 0) :
    ∃ Q e S, Ieee.double.div x y = some (wd (sg x ^^ sg y) (rq Q e)) ∧ vl (rg y) * Q ≤ vl (rg x) * 2 ^ c * 2 ^ e + vl (rg y) * S ∧ vl (rg x) * 2 ^ c * 2 ^ e ≤ vl (rg y) * Q + vl (rg y) * S ∧
      9007199254740992 * S ≤ Q ∧ ∀ K, K ≤ 9007199254740992 → vl (rg x) = K * vl (rg y) → rq Q e = rq (K * 2 ^ c) 0 := by
  obtain ⟨m, a, hm, em⟩ := read_fin hx
  obtain ⟨n, b, hn, en⟩ := read_fin hy
  have hn0 : n ≠ 0 := by
    intro e
    rw [e, Nat.zero_mul] at en
    exact vl_pos h0 en.symm
  have hY : 0 < vl (rg y) := by have := vl_pos h0; omega
  obtain ⟨M, hM⟩ : ∃ M, 52 + 2 + n.log2 - m.log2 = M := ⟨_, rfl⟩
  have hdm := Nat.div_add_mod (m * 2 ^ M) n
  obtain ⟨q, hq⟩ : ∃ q, m * 2 ^ M / n = q := ⟨_, rfl⟩
  obtain ⟨r, hr⟩ : ∃ r, m * 2 ^ M % n = r := ⟨_, rfl⟩
  have hrn : r < n := by rw [← hr]; exact Nat.mod_lt _ (by omega)
  rw [hq, hr] at hdm
  obtain ⟨st, hst⟩ : ∃ st, (r != 0).toNat = st := ⟨_, rfl⟩
  have hst0 : r = 0 → st = 0 := by intro e; rw [← hst, e]; rfl
  have hst1 : r ≠ 0 → st = 1 := by intro e; rw [← hst, show (r != 0) = true by simp [e]]; rfl
  have hrs : r ≤ n * st := by
    by_cases z : r = 0
    · omega
    · rw [hst1 z]; omega
  have hs2 : 9007199254740992 * st ≤ 2 * q + st := by
    by_cases z : m = 0
    · have : r = 0 := by rw [← hr, z, Nat.zero_mul, Nat.zero_mod]
      rw [hst0 this]; omega
    · have l1 := log2_le m z
      have l2 := log2_lt n hn0
      have l3 : 2 ^ (n.log2 + 1 + 53) ≤ 2 ^ (m.log2 + M) := Nat.pow_le_pow_right (by decide) (by omega)
      have l4 : 2 ^ (m.log2 + M) ≤ m * 2 ^ M := by rw [Nat.pow_add]; exact Nat.mul_le_mul_right _ l1
      have l5 : n * 9007199254740992 ≤ m * 2 ^ M := by
        refine Nat.le_trans ?_ (Nat.le_trans l3 l4)
        rw [Nat.pow_add, show (2 : Nat) ^ 53 = 9007199254740992 by decide]
        exact Nat.mul_le_mul_right _ (by omega)
      have l6 : 9007199254740992 ≤ q := by
        rw [← hq]
        exact (Nat.le_div_iff_mul_le (by omega)).2 (by rw [Nat.mul_comm]; exact l5)
      have : st ≤ 1 := by
        by_cases y : r = 0
        · rw [hst0 y]; omega
        · rw [hst1 y]; omega
      omega
  have hdiv : Ieee.double.div x y = some (wd (sg x ^^ sg y) (rq ((2 * q + st) * 2 ^ (a + c)) (b + M + 1))) := by
    have hne := nearest_eq (sg x ^^ sg y) (2 * q + st) (a + c) (b + M + 1)
    rw [show -1074 + ((a + c : Nat) : Int) - ((b + M + 1 : Nat) : Int) = -1074 + (a : Int) - (-1074 + (b : Int)) - (M : Int) - 1 by omega] at hne
    unfold Ieee.Format.div
    rw [hm, hn]
    unfold Ieee.Datum.quotient
    simp only []
    rw [if_neg hn0, show Ieee.double.fractionBits = 52 from rfl, hM, Nat.shiftLeft_eq, hq, hr, hst, ← hne]
    rfl
  obtain ⟨p1, p2⟩ := quo_parts m n a b c M q r st (by omega) hdm hrs
  rw [em, en] at p1 p2
  refine ⟨(2 * q + st) * 2 ^ (a + c), b + M + 1, st * 2 ^ (a + c), hdiv, p1, p2, ?_, ?_⟩
  · rw [← Nat.mul_assoc]
    exact Nat.mul_le_mul_right _ hs2
  · intro K hK hX
    have hr0 : r = 0 := by
      by_cases z : m = 0
      · rw [← hr, z, Nat.zero_mul, Nat.zero_mod]
      · rw [← hr]
        exact quo_whole m n a b M K z hn0 hM hK (by rw [em, en]; exact hX)
    rw [hst0 hr0] at p1 p2 ⊢
    rw [Nat.zero_mul, Nat.mul_zero, Nat.add_zero, hX] at p1 p2
    have he : vl (rg y) * ((2 * q + 0) * 2 ^ (a + c)) = vl (rg y) * (K * 2 ^ c * 2 ^ (b + M + 1)) := by
      have : K * vl (rg y) * 2 ^ c * 2 ^ (b + M + 1) = vl (rg y) * (K * 2 ^ c * 2 ^ (b + M + 1)) := by grind
      rw [← this]
      exact Nat.le_antisymm p1 p2
    rw [Nat.eq_of_mul_eq_mul_left hY he]
    have k := rq_mul (K * 2 ^ c) (b + M + 1) 0
    rw [Nat.zero_add] at k
    exact k
theorem err_lin (v1 v2 v3 v4 v5 v6 : Nat) (h1 : v1 ≤ v4 + v2) (h2 : v4 ≤ v1 + v2) (h3 : 9007199254740992 * v2 ≤ v1) (h4 : v5 ≤ v1 + v3) (h5 : v1 ≤ v5 + v3) (h6 : 4503599627370496 * v3 ≤ v1 + 4503599627370496 * v6) :
    2251799813685248 * v5 ≤ 2251799813685248 * v4 + (v4 + 4503599627370496 * v6) ∧ 2251799813685248 * v4 ≤ 2251799813685248 * v5 + (v4 + 4503599627370496 * v6) := by
  constructor <;> omega
/-- how far a quotient is -/
theorem div_err {x y : Nat} (c : Nat) (hc : c = 1074) (hx : rg x < 9218868437227405312) (hy : rg y < 9218868437227405312) (h0 : ¬ rg y = 0) (hb : vl (rg x) ≤ 1099511627776 * vl (rg y)) :
    ∃ R, Ieee.double.div x y = some (wd (sg x ^^ sg y) R) ∧ R < 9218868437227405312 ∧
      2251799813685248 * (vl R * vl (rg y)) ≤ 2251799813685248 * (vl (rg x) * 2 ^ c) + (vl (rg x) * 2 ^ c + 4503599627370496 * vl (rg y)) ∧
      2251799813685248 * (vl (rg x) * 2 ^ c) ≤ 2251799813685248 * (vl R * vl (rg y)) + (vl (rg x) * 2 ^ c + 4503599627370496 * vl (rg y)) := by
  obtain ⟨Q, e, S, h1, h2, h3, h4, h5⟩ := div_form c hc hx hy h0
  have hY : 0 < vl (rg y) := by have := vl_pos h0; omega
  generalize vl (rg y) = Y at *
  generalize vl (rg x) = X at *
  have hYS : 9007199254740992 * (Y * S) ≤ Y * Q := by rw [Nat.mul_left_comm]; exact Nat.mul_le_mul_left Y h4
  have hQ : Q ≤ 2199023255552 * 2 ^ c * 2 ^ e := by
    refine Nat.le_of_mul_le_mul_left (c := Y) ?_ hY
    have k1 : X * 2 ^ c * 2 ^ e ≤ 1099511627776 * Y * 2 ^ c * 2 ^ e := Nat.mul_le_mul_right _ (Nat.mul_le_mul_right _ hb)
    have k2 : Y * (2199023255552 * 2 ^ c * 2 ^ e) = 2 * (1099511627776 * Y * 2 ^ c * 2 ^ e) := by grind
    rw [k2]
    generalize 1099511627776 * Y * 2 ^ c * 2 ^ e = u at *
    generalize X * 2 ^ c * 2 ^ e = v at *
    generalize Y * Q = s at *
    generalize Y * S = t at *
    omega
  have hfin : rq Q e < 9218868437227405312 := by
    have k1 := rq_mono Q (2199023255552 * 2 ^ c * 2 ^ e) e hQ
    have k2 := rq_mul (2199023255552 * 2 ^ c) e 0
    rw [Nat.zero_add] at k2
    rw [k2] at k1
    have k3 := (rq_rep (2199023255552 * 2 ^ c) ⟨2199023255552, c, rfl, by omega⟩ (by rw [log2_mul _ _ (by omega), hc]; decide)).2
    omega
  refine ⟨rq Q e, h1, hfin, ?_⟩
  obtain ⟨d, d1, d2, d3⟩ := rq_err Q e hfin
  generalize vl (rq Q e) = Z at *
  have m1 := Nat.mul_le_mul_left Y d1
  have m2 := Nat.mul_le_mul_left Y d2
  have m3 := Nat.mul_le_mul_left Y d3
  rw [Nat.mul_add] at m1 m2 m3
  rw [Nat.mul_left_comm Y 4503599627370496, Nat.mul_left_comm Y 4503599627370496] at m3
  obtain ⟨g1, g2⟩ := err_lin _ _ _ _ _ _ h2 h3 hYS m1 m2 m3
  have hE := Nat.two_pow_pos e
  generalize 2 ^ e = E at *
  have f1 : 2251799813685248 * (Y * (Z * E)) = 2251799813685248 * (Z * Y) * E := by grind
  have f2 : 2251799813685248 * (X * 2 ^ c * E) = 2251799813685248 * (X * 2 ^ c) * E := by grind
  have f3 : X * 2 ^ c * E + 4503599627370496 * (Y * E) = (X * 2 ^ c + 4503599627370496 * Y) * E := by grind
  rw [f1, f2, f3, ← Nat.add_mul] at g1 g2
  exact ⟨Nat.le_of_mul_le_mul_right g1 hE, Nat.le_of_mul_le_mul_right g2 hE⟩
end Go.Proofs.Ytmbjgakehghdjaa.Fl
/-
  OWN TEXT: the root of a square of whole parts is that number, or that number with its signs turned: exactly.
-/
namespace Go.Proofs.Ytmbjgakehghdjaa
set_option linter.unusedVariables false
theorem wI.abs {c x : Nat} {n : Int} (h : wI c x n) : uJ c (Fl.rg x) n.natAbs := by
  have h2 := h.2.1
  exact ⟨sg_rg6 x, by rw [rg_rg6]; exact h2, by omega, by rw [rg_rg6]; exact h.vl⟩
theorem uJ.wI {c x n : Nat} (h : uJ c x n) : wI c x (n : Int) := by
  refine ⟨h.2.2.1, h.2.1, ?_⟩
  unfold Fl.val
  rw [h.1, if_neg (by decide), h.2.2.2, Int.natCast_mul]
theorem wI.signed {c x : Nat} {n : Int} (h : wI c x n) (s : Bool) : wI c (Fl.wd s (Fl.rg x)) (if s then -(n.natAbs : Int) else n.natAbs) := by
  have h2 := h.2.1
  have hl : Fl.rg x < 9223372036854775808 := by omega
  refine ⟨Fl.wd_lt _ _ hl, by rw [Fl.rg_wd _ _ hl]; exact h2, ?_⟩
  rw [Fl.val_wd _ _ hl, h.vl]
  cases s
  · simp
  · simp [Int.neg_mul]
/-- a quotient that is whole -/
theorem wI.quo {c a b r : Nat} {m n k : Int} (hc : c = 1074) (ha : wI c a m) (hb : wI c b n) (hn : n ≠ 0) (hk : m = k * n) (hs : k.natAbs ≤ 9007199254740992) (h : opR .quo a b r) : wI c r k := by
  have h0 : ¬ Fl.rg b = 0 := by
    intro e
    have := hb.vl
    rw [e, show Fl.vl 0 = 0 by decide] at this
    have h1 := Nat.mul_pos (show 0 < n.natAbs by omega) (Nat.two_pow_pos c)
    omega
  obtain ⟨Q, e, S, d1, _, _, _, d5⟩ := Fl.div_form c hc ha.2.1 hb.2.1 h0
  have hr := op_some h d1
  rw [d5 k.natAbs hs (by rw [ha.vl, hb.vl, hk, Int.natAbs_mul, Nat.mul_assoc])] at hr
  rw [hr]
  refine wI_of hc hs fun z => ?_
  have hm : m ≠ 0 := by rw [hk]; intro q; rcases Int.mul_eq_zero.1 q with q | q; exact z q; exact hn q
  rw [ha.sign hm, hb.sign hn]
  by_cases q1 : k < 0 <;> by_cases q2 : n < 0
  · rw [decide_eq_true q1, decide_eq_true q2, decide_eq_false (by have := Int.mul_pos_of_neg_of_neg q1 q2; omega)]; rfl
  · rw [decide_eq_true q1, decide_eq_false q2, decide_eq_true (by have := Int.mul_neg_of_neg_of_pos q1 (show 0 < n by omega); omega)]; rfl
  · rw [decide_eq_false q1, decide_eq_true q2, decide_eq_true (by have := Int.mul_neg_of_pos_of_neg (show 0 < k by omega) q2; omega)]; rfl
  · rw [decide_eq_false q1, decide_eq_false q2, decide_eq_false (by have := Int.mul_pos (show 0 < k by omega) (show 0 < n by omega); omega)]; rfl
theorem big_vl : ∀ c, c = 1074 → Fl.vl 4742290407621132288 = 1073741824 * 2 ^ c := by rintro _ rfl; decide +kernel
/-- the order of a whole number -/
theorem paE_whole {c x n : Nat} (hc : c = 1074) (h : uJ c x n) (h1 : 1 ≤ n) (h2 : n ≤ 1073741824) : 1 ≤ paE x ∧ paE x ≤ 31 := by
  have k1 : 4607182418800017408 ≤ Fl.rg x := by
    rcases Nat.lt_or_ge (Fl.rg x) 4607182418800017408 with q | q
    · have := Fl.vl_mono q
      rw [h.2.2.2, one_vl c hc] at this
      have := Nat.le_mul_of_pos_left (2 ^ c) (show 0 < n by omega)
      omega
    · exact q
  have k2 : Fl.rg x ≤ 4742290407621132288 := by
    rcases Nat.lt_or_ge 4742290407621132288 (Fl.rg x) with q | q
    · have := Fl.vl_mono q
      rw [h.2.2.2, big_vl c hc] at this
      have := Nat.mul_le_mul_right (2 ^ c) h2
      omega
    · exact q
  unfold paE
  rw [if_neg (by omega)]
  unfold ptE nmE nmF
  rw [if_neg (by omega), if_neg (by omega)]
  omega
theorem vl_le9 {r s : Nat} (h : r ≤ s) : Fl.vl r ≤ Fl.vl s := by
  rcases Nat.lt_or_ge r s with c | c
  · exact Nat.le_of_lt (Fl.vl_mono c)
  · rw [show r = s by omega]; exact Nat.le_refl _
theorem wI.leF {c a b : Nat} {m n : Int} (ha : wI c a m) (hb : wI c b n) : Fl.leF a b = decide (m ≤ n) := by
  rw [Fl.leF_of ha.nan hb.nan]
  refine decide_eq_decide.2 ?_
  have hp : (0 : Int) < ((2 ^ c : Nat) : Int) := by have := Nat.two_pow_pos c; omega
  have hv : m ≤ n ↔ Fl.val a ≤ Fl.val b := by
    rw [ha.2.2, hb.2.2]
    exact ⟨fun h => Int.mul_le_mul_of_nonneg_right h (by omega), fun h => Int.le_of_mul_le_mul_right h hp⟩
  rw [hv]
  have v1 : Fl.rg a ≤ Fl.rg b ↔ Fl.vl (Fl.rg a) ≤ Fl.vl (Fl.rg b) := by
    constructor
    · exact vl_le9
    · intro q
      rcases Nat.lt_or_ge (Fl.rg b) (Fl.rg a) with k | k
      · have := Fl.vl_mono k; omega
      · exact k
  have v2 : Fl.rg b ≤ Fl.rg a ↔ Fl.vl (Fl.rg b) ≤ Fl.vl (Fl.rg a) := by
    constructor
    · exact vl_le9
    · intro q
      rcases Nat.lt_or_ge (Fl.rg a) (Fl.rg b) with k | k
      · have := Fl.vl_mono k; omega
      · exact k
  have z1 : Fl.vl (Fl.rg a) = 0 ↔ Fl.rg a = 0 := by
    have := @Fl.vl_inj (Fl.rg a) 0
    rwa [show Fl.vl 0 = 0 by decide] at this
  have z2 : Fl.vl (Fl.rg b) = 0 ↔ Fl.rg b = 0 := by
    have := @Fl.vl_inj (Fl.rg b) 0
    rwa [show Fl.vl 0 = 0 by decide] at this
  unfold Fl.key Fl.val
  generalize Fl.vl (Fl.rg a) = va at *
  generalize Fl.vl (Fl.rg b) = vb at *
  cases Fl.sg a <;> cases Fl.sg b <;> simp <;> omega
theorem two_vl : ∀ c, c = 1074 → Fl.vl 4611686018427387904 = 2 * 2 ^ c := by rintro _ rfl; decide +kernel
theorem w_two {c : Nat} (hc : c = 1074) : wI c 4611686018427387904 2 := by
  refine ⟨by decide, by decide, ?_⟩
  have h := two_vl c hc
  have e : Fl.val 4611686018427387904 = (Fl.vl 4611686018427387904 : Nat) := by
    unfold Fl.val
    rw [show Fl.sg 4611686018427387904 = false by decide, if_neg (by decide), show Fl.rg 4611686018427387904 = 4611686018427387904 by decide]
  rw [e, h, Int.natCast_mul]; rfl
/-- the greater part of a root: of the parts A, B, with A * A + B * B = N * N, A + N = 2 * m * m -/
theorem gra_whole {c a b j A B N m l s0 q t : Nat} (hc : c = 1074) (hj : j ≤ 20) (ha : uJ c a A) (hb : uJ c b B) (hA : A ≤ 67108864) (hB : B ≤ 67108864) (hN : N ≤ 67108864) (hn : A * A + B * B = N * N) (hm : A + N = 2 * (m * m))
    (h1 : togR (scF a (-(2 * (j : Int)))) (scF b (-(2 * (j : Int)))) l) (h2 : opR .add (scF a (-(2 * (j : Int)))) l s0) (h3 : opR .quo s0 4611686018427387904 q) (h4 : sqtR q t) : uJ c (scF t (j : Int)) m := by
  have sa := ha.scale (d := 1074 - 2 * j) (k := -(2 * (j : Int))) (by omega) (by omega) (by omega) (by omega)
  have sb := hb.scale (d := 1074 - 2 * j) (k := -(2 * (j : Int))) (by omega) (by omega) (by omega) (by omega)
  generalize scF a (-(2 * (j : Int))) = u at *
  generalize scF b (-(2 * (j : Int))) = v at *
  have sq : ∀ X : Nat, X ≤ 67108864 → X * X ≤ 4503599627370496 := by
    intro X hX
    have := Nat.mul_le_mul hX hX
    omega
  have qA := sq A hA
  have qB := sq B hB
  have qN := sq N hN
  obtain ⟨s, ⟨p1, p2, o1, o2, o3⟩, o4⟩ := h1
  have t1 := sa.mul sa (e := 1074 - 4 * j) (by omega) (by omega) (by omega) o1
  have t2 := sb.mul sb (e := 1074 - 4 * j) (by omega) (by omega) (by omega) o2
  have t3 := t1.add t2 (by omega) (by omega) o3
  rw [hn] at t3
  have t4 := t3.root (f := 1074 - 2 * j) (by omega) (by omega) (by omega) (by omega) o4
  have t5 := sa.add t4 (by omega) (by omega) h2
  rw [hm] at t5
  have t6 := t5.half (by omega) (by omega) h3
  have t7 := t6.root (f := 1074 - j) (by omega) (by omega) (by omega) (by omega) h4
  have hmm : m ≤ m * m := by
    by_cases z : m = 0
    · omega
    · exact Nat.le_mul_of_pos_right m (by omega)
  exact t7.scale (by omega) (by omega) (by omega) (by omega)
theorem square_sum (A S T : Nat) (h : A + T = S) : A * A + 4 * (S * T) = (S + T) * (S + T) := by subst h; grind
theorem four_prod (P Q : Nat) : 2 * (P * Q) * (2 * (P * Q)) = 4 * (P * P * (Q * Q)) := by grind
theorem nsq (p : Int) : p * p = ((p.natAbs * p.natAbs : Nat) : Int) := Int.natAbs_mul_self.symm
theorem roo_whole {c a b re im : Nat} {p q : Int} (hc : c = 1074) (ha : wI c a (p * p - q * q)) (hb : wI c b (2 * (p * q))) (hp : p.natAbs ≤ 2048) (hq : q.natAbs ≤ 2048) (h : rooR a b re im) :
    (wI c re p ∧ wI c im q) ∨ (wI c re (-p) ∧ wI c im (-q)) := by
  have na := ha.nan
  have nb := hb.nan
  have fa := ha.2.1
  have fb := hb.2.1
  unfold rooR at h
  rw [if_neg (by omega), if_neg (by omega), if_neg (by omega), if_neg (by rw [na, nb]; simp)] at h
  obtain ⟨P, hP⟩ : ∃ P, P = p.natAbs := ⟨_, rfl⟩
  obtain ⟨Q, hQ⟩ : ∃ Q, Q = q.natAbs := ⟨_, rfl⟩
  have hPP : P * P ≤ 2048 * 2048 := Nat.mul_le_mul (by omega) (by omega)
  have hQQ : Q * Q ≤ 2048 * 2048 := Nat.mul_le_mul (by omega) (by omega)
  have hPQ : P * Q ≤ 2048 * 2048 := Nat.mul_le_mul (by omega) (by omega)
  have ep : p * p = ((P * P : Nat) : Int) := by rw [hP]; exact nsq p
  have eq : q * q = ((Q * Q : Nat) : Int) := by rw [hQ]; exact nsq q
  have epq : (2 * (p * q)).natAbs = 2 * (P * Q) := by rw [Int.natAbs_mul, Int.natAbs_mul, hP, hQ]; rfl
  have zr : ∀ x : Nat, ∀ n : Int, wI c x n → (Fl.rg x = 0 ↔ n = 0) := by
    intro x n hx
    have k1 := hx.vl
    have := @Fl.vl_inj (Fl.rg x) 0
    rw [show Fl.vl 0 = 0 by decide] at this
    rw [← this, k1]
    constructor
    · intro k; rcases Nat.mul_eq_zero.1 k with k | k
      · omega
      · have := Nat.two_pow_pos c; omega
    · intro k; subst k; simp
  by_cases z : Fl.rg a = 0 ∧ Fl.rg b = 0
  · rw [if_pos z] at h
    have z1 := (zr a _ ha).1 z.1
    have z2 := (zr b _ hb).1 z.2
    have z3 : (2 * (p * q)).natAbs = 0 := by rw [z2]; rfl
    rw [epq] at z3
    have z4 : P * P = Q * Q := by omega
    have z5 : P = 0 ∧ Q = 0 := by
      rcases Nat.mul_eq_zero.1 (show P * Q = 0 by omega) with k | k
      · subst k; rw [Nat.zero_mul] at z4; rcases Nat.mul_eq_zero.1 z4.symm with k | k <;> exact ⟨rfl, k⟩
      · subst k; rw [Nat.zero_mul] at z4; rcases Nat.mul_eq_zero.1 z4 with k | k <;> exact ⟨k, rfl⟩
    have p0 : p = 0 := by omega
    have q0 : q = 0 := by omega
    subst p0
    subst q0
    left
    rw [h.1, h.2]
    exact ⟨w_nought c, hb⟩
  · rw [if_neg z] at h
    have hbg : ∃ n, uJ c (bigF a b) n ∧ n ≤ 1073741824 ∧ 1 ≤ n := by
      have hz : ¬ bigF a b = 0 := fun k => z ((big_zero6 na nb).1 k)
      have h1 : (p * p - q * q).natAbs ≤ 8388608 := by omega
      have h2 : (2 * (p * q)).natAbs ≤ 8388608 := by omega
      unfold bigF at hz ⊢
      by_cases k : Fl.ltF (Fl.rg a) (Fl.rg b) = true
      · rw [if_pos k] at hz ⊢
        refine ⟨_, hb.abs, by omega, ?_⟩
        have := (zr b _ hb)
        omega
      · rw [if_neg k] at hz ⊢
        refine ⟨_, ha.abs, by omega, ?_⟩
        have := (zr a _ ha)
        omega
    obtain ⟨n, hn, hn2, hn1⟩ := hbg
    obtain ⟨e1, e2⟩ := paE_whole hc hn hn1 hn2
    obtain ⟨l, s0, hh, t, d, r1, r2, r3, r4, r5, r6⟩ := h
    obtain ⟨j, hj⟩ : ∃ j : Nat, paE (bigF a b) / 2 = (j : Int) := ⟨(paE (bigF a b) / 2).toNat, by omega⟩
    have hj2 : j ≤ 20 := by omega
    rw [hj] at r1 r2 r5 r6
    have ua := ha.abs
    have ub := hb.abs
    rw [epq] at ub
    have hle : Fl.leF 0 a = decide (0 ≤ p * p - q * q) := (w_nought c).leF ha
    by_cases k : 0 ≤ p * p - q * q
    · rw [hle, decide_eq_true k, if_pos rfl] at r6
      have hA : (p * p - q * q).natAbs + Q * Q = P * P := by omega
      have hg := gra_whole (m := P) (N := P * P + Q * Q) hc hj2 ua ub (by omega) (by omega) (by omega) (by rw [four_prod]; exact square_sum _ _ _ hA) (by omega) r1 r2 r3 r4
      have hd := (w_two hc).mul hc hg.wI (by omega) r5
      have hP0 : P ≠ 0 := by
        intro k0
        subst k0
        have : Q * Q = 0 := by omega
        have hQ0 : Q = 0 := by rcases Nat.mul_eq_zero.1 this with k | k <;> exact k
        have p0 : p = 0 := by omega
        have q0 : q = 0 := by omega
        subst p0
        subst q0
        exact z ⟨(zr a _ ha).2 (by decide), (zr b _ hb).2 (by decide)⟩
      rcases Int.lt_or_le p 0 with ps | ps
      · right
        refine ⟨?_, ?_⟩
        · rw [r6.1, show -p = (P : Int) by omega]; exact hg.wI
        · refine hb.quo hc hd (by omega) ?_ (by omega) r6.2
          rw [show (P : Int) = -p by omega]; grind
      · left
        refine ⟨?_, ?_⟩
        · rw [r6.1, show p = (P : Int) by omega]; exact hg.wI
        · refine hb.quo hc hd (by omega) ?_ (by omega) r6.2
          rw [show (P : Int) = p by omega]; grind
    · rw [hle, decide_eq_false k, if_neg (by decide)] at r6
      have hA : (p * p - q * q).natAbs + P * P = Q * Q := by omega
      have hg := gra_whole (m := Q) (N := Q * Q + P * P) hc hj2 ua ub (by omega) (by omega) (by omega) (by rw [four_prod, Nat.mul_comm (P * P)]; exact square_sum _ _ _ hA) (by omega) r1 r2 r3 r4
      have hd := (w_two hc).mul hc hg.wI (by omega) r5
      have hQ0 : Q ≠ 0 := by
        intro k0
        subst k0
        omega
      have hre : wI c re (P : Int) := by
        refine ub.wI.quo hc hd (by omega) ?_ (by omega) r6.1
        rw [Int.natCast_mul, Int.natCast_mul]; grind
      have him := hg.wI.signed (Fl.sg b)
      rw [← r6.2, Int.natAbs_natCast] at him
      by_cases p0 : p = 0
      · have hP0 : P = 0 := by omega
        rw [p0]
        rw [hP0] at hre
        cases s : Fl.sg b
        · rw [s] at him
          rcases Int.lt_or_le q 0 with qs | qs
          · right; refine ⟨hre, ?_⟩; rw [show -q = (Q : Int) by omega]; exact him
          · left; refine ⟨hre, ?_⟩; rw [show q = (Q : Int) by omega]; exact him
        · rw [s] at him
          rcases Int.lt_or_le q 0 with qs | qs
          · left; refine ⟨hre, ?_⟩; rw [show q = -(Q : Int) by omega]; exact him
          · right; refine ⟨hre, ?_⟩; rw [show -q = -(Q : Int) by omega]; exact him
      · have q0 : q ≠ 0 := by omega
        have hs := hb.sign (by intro k0; rcases Int.mul_eq_zero.1 (show p * q = 0 by omega) with k1 | k1; exact p0 k1; exact q0 k1)
        rcases Int.lt_or_le p 0 with ps | ps <;> rcases Int.lt_or_le q 0 with qs | qs
        · have := Int.mul_pos_of_neg_of_neg ps qs
          rw [hs, decide_eq_false (by omega)] at him
          right; rw [show -p = (P : Int) by omega, show -q = (Q : Int) by omega]; exact ⟨hre, him⟩
        · have := Int.mul_neg_of_neg_of_pos ps (show 0 < q by omega)
          rw [hs, decide_eq_true (by omega)] at him
          right; rw [show -p = (P : Int) by omega, show -q = -(Q : Int) by omega]; exact ⟨hre, him⟩
        · have := Int.mul_neg_of_pos_of_neg (show 0 < p by omega) qs
          rw [hs, decide_eq_true (by omega)] at him
          left; rw [show p = (P : Int) by omega, show q = -(Q : Int) by omega]; exact ⟨hre, him⟩
        · have := Int.mul_pos (show 0 < p by omega) (show 0 < q by omega)
          rw [hs, decide_eq_false (by omega)] at him
          left; rw [show p = (P : Int) by omega, show q = (Q : Int) by omega]; exact ⟨hre, him⟩
end Go.Proofs.Ytmbjgakehghdjaa
