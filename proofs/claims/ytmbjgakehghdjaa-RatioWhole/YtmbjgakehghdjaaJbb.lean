/-
  OWN TEXT: package roots, as it landed: roots, polar forms, places, units, nearness, for every number.
-/
import Derived.Test.YtmbjgakehghdjaaJba
import Derived.Test.YtmbjgakehghdjaaJav
import Derived.Test.YtmbjgakehghdjaaJae
namespace Go.Proofs.Ytmbjgakehghdjaa
open Go.ChangeShapes Go.WideShapes Go.ChangeAt Go.RowKit
set_option linter.unusedVariables false
attribute [local go_sem] frombits_call tobits_call run_neg
theorem rq_nought : Fl.rq 0 1074 = 0 := by decide +kernel
theorem mul_nought {b p : Nat} (fb : Fl.rg b < 9218868437227405312) (h : opR .mul b 0 p) : p = Fl.wd (Fl.sg b) 0 := by
  have hr : Fl.rg 0 = 0 := by decide
  have hv : Fl.vl 0 = 0 := by decide
  have hs : Fl.sg 0 = false := by decide
  have e : ∀ c v, v = 0 → c = 1074 → Fl.rq v c = 0 := by rintro _ _ rfl rfl; exact rq_nought
  obtain ⟨c, hc⟩ : ∃ c, c = 1074 := ⟨_, rfl⟩
  have m := Fl.mul_fin fb (show Fl.rg 0 < 9218868437227405312 by decide)
  rw [← hc, e c _ (by rw [hr, hv, Nat.mul_zero]) hc, hs, Bool.xor_false] at m
  have m' : floatBits .mul .f64 b 0 = some (Fl.wd (Fl.sg b) 0) := m
  rcases h.2 with q | q
  · rw [m'] at q; exact (Option.some.inj q).symm
  · rw [m'] at q; cases q.1
theorem signed_wd {s b : Nat} (nb : Fl.nan b = false) : signedF s b = Fl.wd (Fl.sg b) (Fl.rg s) := by
  unfold signedF Fl.minusB
  rw [nb]
  have k := Fl.ng_wd false (Fl.rg s) (Fl.rg_lt s)
  generalize Fl.rg s = r at *
  cases Fl.sg b
  · rw [Bool.and_false, if_neg (by decide), wd_false6]
  · rw [Bool.not_false, Bool.and_true, if_pos rfl]
    rw [wd_false6, Bool.not_false] at k
    exact k.symm
/-- what greaterPart tells: s -/
def graR (a b s : Nat) : Prop := ∃ l s0 h t, togR (scF (Fl.rg a) (-(2 * (paE (bigF a b) / 2)))) (scF (Fl.rg b) (-(2 * (paE (bigF a b) / 2)))) l ∧
  opR .add (scF (Fl.rg a) (-(2 * (paE (bigF a b) / 2)))) l s0 ∧ opR .quo s0 4611686018427387904 h ∧ sqtR h t ∧ s = scF t (paE (bigF a b) / 2)
theorem gra_lt {a b s : Nat} (h : graR a b s) : s < 18446744073709551616 := by
  obtain ⟨l, s0, q, t, _, _, _, h4, h5⟩ := h
  rw [h5]; exact scF_lt h4.1 _
theorem lt_le6 {a : Nat} (na : Fl.nan a = false) : Fl.ltF a 0 = !Fl.leF 0 a := by
  unfold Fl.ltF Fl.leF
  rw [na, show Fl.nan 0 = false by decide, show Fl.key 0 = 0 by decide]
  simp only [Bool.not_false, Bool.true_and]
  rw [← decide_not]
  exact decide_eq_decide.mpr (by omega)
theorem pfinite_any (a b : Nat) (w : World) (ha : a < 18446744073709551616) (hb : b < 18446744073709551616) : Calls Try.prog 61 #[.complex .f64 a b] w fun e w' => e = .returned (.bool (Fl.finB a && Fl.finB b)) ∧ w' = w := by
  have NA : Hid (∀ wz, Calls Try.prog 73 #[.float .f64 a] wz fun e w' => e = .returned (.bool (Fl.finB a)) ∧ w' = wz) := fun wz => finite_any a wz ha
  have NB : Hid (∀ wz, Calls Try.prog 73 #[.float .f64 b] wz fun e w' => e = .returned (.bool (Fl.finB b)) ∧ w' = wz) := fun wz => finite_any b wz hb
  generalize Fl.finB a = x at *
  generalize Fl.finB b = y at *
  cases x
  · go_enter Try.func61, Try.ntmps61
    go_wp2_with fail
    refine (NA.out _).mono ?_
    rintro e' w ⟨rfl, rfl⟩
    go_wp2
    go_ret
    exact ⟨rfl, rfl⟩
  · go_enter Try.func61, Try.ntmps61
    go_wp2_with fail
    refine (NA.out _).mono ?_
    rintro e' w ⟨rfl, rfl⟩
    go_wp2_with fail
    refine (NB.out _).mono ?_
    rintro e' w ⟨rfl, rfl⟩
    go_wp2
    go_ret
    exact ⟨by cases y <;> rfl, rfl⟩
theorem csum_run {op : BinOp} (hop : op = .add ∨ op = .sub) {a b c d x y : Nat} {P : Program} {w w1 w2 : World} (e1 : ∀ t, (binOp op t (.float .f64 a) (.float .f64 c)).run P w = .ok (.float .f64 x) w1) (e2 : ∀ t, (binOp op t (.float .f64 b) (.float .f64 d)).run P w1 = .ok (.float .f64 y) w2) (t : TypeId) : (binOp op t (.complex .f64 a b) (.complex .f64 c d)).run P w = .ok (.complex .f64 x y) w2 := by
  rcases hop with rfl | rfl
  · have k1 : (Op.floatArith .add .f64 a c).run P w = .ok (.float .f64 x) w1 := e1 0
    have k2 : (Op.floatArith .add .f64 b d).run P w1 = .ok (.float .f64 y) w2 := e2 0
    simp [binOp, Op.complexOp, Op.Complex.arith, k1, k2]
  · have k1 : (Op.floatArith .sub .f64 a c).run P w = .ok (.float .f64 x) w1 := e1 0
    have k2 : (Op.floatArith .sub .f64 b d).run P w1 = .ok (.float .f64 y) w2 := e2 0
    simp [binOp, Op.complexOp, Op.Complex.arith, k1, k2]
end Go.Proofs.Ytmbjgakehghdjaa
/-
  OWN TEXT: numbers that are exact: so many units of a power of two, none below nought.
-/
namespace Go.Proofs.Ytmbjgakehghdjaa
set_option linter.unusedVariables false
/-- the word x is n units of 2^c (in units of the least place) -/
def uJ (c x n : Nat) : Prop := Fl.sg x = false ∧ Fl.rg x < 9218868437227405312 ∧ x < 18446744073709551616 ∧ Fl.vl (Fl.rg x) = n * 2 ^ c
theorem uJ.self {c x n : Nat} (h : uJ c x n) : Fl.rg x = x := by
  have h1 := h.1
  have h3 := h.2.2.1
  have := Fl.wd_self h3
  rw [h1, wd_false] at this
  exact this
theorem fit_log {k c : Nat} (hc : c ≤ 2000) (hk : k ≤ 9007199254740992) : (k * 2 ^ c).log2 < 2098 := by
  by_cases z : k = 0
  · subst z; rw [Nat.zero_mul]; decide
  · rw [Fl.log2_mul k c z]
    have : k.log2 < 54 := (Nat.log2_lt z).2 (by omega)
    omega
/-- rounded, it is itself -/
theorem uJ_rq {c n x : Nat} (hc : c ≤ 2000) (hn : n ≤ 9007199254740992) (hx : x = Fl.rq (n * 2 ^ c) 0) : uJ c x n := by
  obtain ⟨h1, h2⟩ := Fl.rq_rep (n * 2 ^ c) ⟨n, c, rfl, hn⟩ (fit_log hc hn)
  obtain ⟨r1, r2⟩ := rg_rung (r := Fl.rq (n * 2 ^ c) 0) (by omega)
  subst hx
  exact ⟨r2, by rw [r1]; exact h2, by omega, by rw [r1]; exact h1⟩
theorem uJ.mul {c d e a b r m n : Nat} (ha : uJ c a m) (hb : uJ d b n) (he : c + d = e + 1074) (he2 : e ≤ 2000) (hs : m * n ≤ 9007199254740992) (h : opR .mul a b r) : uJ e r (m * n) := by
  have hw := mul_word ha.2.1 hb.2.1 h
  rw [ha.1, hb.1, Bool.xor_self, wd_false, ha.2.2.2, hb.2.2.2, Nat.mul_mul_mul_comm, ← Nat.pow_add, he, Nat.pow_add, ← Nat.mul_assoc] at hw
  have k := Fl.rq_mul (m * n * 2 ^ e) 1074 0
  rw [Nat.zero_add] at k
  rw [k] at hw
  exact uJ_rq he2 hs hw
theorem uJ.add {c a b r m n : Nat} (ha : uJ c a m) (hb : uJ c b n) (he2 : c ≤ 2000) (hs : m + n ≤ 9007199254740992) (h : opR .add a b r) : uJ c r (m + n) := by
  have hw := add_word ha.1 hb.1 ha.2.1 hb.2.1 h
  rw [ha.2.2.2, hb.2.2.2, ← Nat.add_mul] at hw
  exact uJ_rq he2 hs hw
theorem uJ.half {c a r n : Nat} (ha : uJ c a (2 * n)) (he2 : c ≤ 2000) (hs : n ≤ 9007199254740992) (h : opR .quo a 4611686018427387904 r) : uJ c r n := by
  have hm := Fl.div_two (x := a) ha.2.1
  have e : r = Fl.wd (Fl.sg a) (Fl.rq (Fl.vl (Fl.rg a)) 1) := by
    rcases h.2 with k | k
    · exact (Option.some.inj (hm.symm.trans k)).symm
    · exact absurd (hm.symm.trans k.1) (by intro c; cases c)
  rw [ha.1, wd_false, ha.2.2.2, show 2 * n * 2 ^ c = n * 2 ^ c * 2 ^ 1 by rw [Nat.pow_one, Nat.mul_comm 2 n, Nat.mul_assoc, Nat.mul_comm 2 (2 ^ c), ← Nat.mul_assoc]] at e
  have k := Fl.rq_mul (n * 2 ^ c) 1 0
  rw [Nat.zero_add] at k
  rw [k] at e
  exact uJ_rq he2 hs e
/-- powers of two taken out, or put in -/
theorem uJ.scale {c d x n : Nat} {k : Int} (hx : uJ c x n) (hk : (d : Int) = c + k) (hc : c ≤ 2000) (hd : d ≤ 2000) (hs : n ≤ 9007199254740992) : uJ d (scF x k) n := by
  by_cases z : Fl.rg x = 0
  · have hv := hx.2.2.2
    rw [z] at hv
    have hz : n = 0 := by
      have : Fl.vl 0 = 0 := rfl
      rw [this] at hv
      rcases Nat.mul_eq_zero.1 hv.symm with q | q
      · exact q
      · exact absurd q (by have := Nat.two_pow_pos c; omega)
    subst hz
    have e : scF x k = x := by
      unfold scF
      rw [decide_eq_true z]
      simp
    rw [e]
    exact ⟨hx.1, hx.2.1, hx.2.2.1, by rw [z]; simp; rfl⟩
  · have e : scF x k = Fl.wd (Fl.sg x) (Fl.rz (Fl.vl (Fl.rg x)) k) := by
      unfold scF
      have hfin : Fl.finB x = true := decide_eq_true hx.2.1
      rw [hfin, decide_eq_false z]
      rfl
    rw [hx.1, wd_false, hx.2.2.2] at e
    have e2 : Fl.rz (n * 2 ^ c) k = Fl.rq (n * 2 ^ d) 0 := by
      unfold Fl.rz
      rcases Int.lt_or_le k 0 with q | q
      · obtain ⟨j, hj⟩ : ∃ j : Nat, k = -(j : Int) := ⟨k.natAbs, by omega⟩
        subst hj
        rw [show (-(j : Int)).toNat = 0 by omega, show (-(-(j : Int))).toNat = j by omega, Nat.pow_zero, Nat.mul_one, show c = d + j by omega, Nat.pow_add, ← Nat.mul_assoc]
        have k := Fl.rq_mul (n * 2 ^ d) j 0
        rw [Nat.zero_add] at k
        exact k
      · obtain ⟨j, hj⟩ : ∃ j : Nat, k = (j : Int) := ⟨k.natAbs, by omega⟩
        subst hj
        rw [show ((j : Int)).toNat = j by omega, show (-(j : Int)).toNat = 0 by omega, Nat.mul_assoc, ← Nat.pow_add, show c + j = d by omega]
    rw [e2] at e
    exact uJ_rq hd hs e
theorem norm_pow (n : Nat) (h1 : 1 ≤ n) (h2 : n < 9007199254740992) : ∃ j, j ≤ 52 ∧ 4503599627370496 ≤ n * 2 ^ j ∧ n * 2 ^ j < 9007199254740992 := by
  have hz : n ≠ 0 := by omega
  have k1 := Fl.log2_le n hz
  have k2 := Fl.log2_lt n hz
  have k3 : n.log2 < 53 := (Nat.log2_lt hz).2 (by omega)
  refine ⟨52 - n.log2, by omega, ?_, ?_⟩
  · have : 2 ^ n.log2 * 2 ^ (52 - n.log2) = 4503599627370496 := by rw [← Nat.pow_add, show n.log2 + (52 - n.log2) = 52 by omega]
    have := Nat.mul_le_mul_right (2 ^ (52 - n.log2)) k1
    omega
  · have : 2 ^ (n.log2 + 1) * 2 ^ (52 - n.log2) = 9007199254740992 := by rw [← Nat.pow_add, show n.log2 + 1 + (52 - n.log2) = 53 by omega]
    have := Nat.mul_lt_mul_of_pos_right k2 (Nat.two_pow_pos (52 - n.log2))
    omega
/-- the root of a square -/
theorem uJ.root {c f x y n : Nat} (hx : uJ c x (n * n)) (hf : c + 1074 = 2 * f) (hc : c ≤ 2000) (hf0 : 600 ≤ f) (hn : n * n ≤ 9007199254740992) (h : sqtR x y) : uJ f y n := by
  by_cases z : n = 0
  · subst z
    have hv := hx.2.2.2
    rw [Nat.mul_zero, Nat.zero_mul] at hv
    have hr : Fl.rg x = 0 := by
      by_cases q : Fl.rg x = 0
      · exact q
      · exact absurd hv (Fl.vl_pos q)
    have hx0 : x = 0 := by rw [← hx.self]; exact hr
    subst hx0
    have e : Ieee.double.sqrt 0 = some 0 := by decide +kernel
    have hy : y = 0 := by
      rcases h.2 with q | q
      · rw [e] at q; exact (Option.some.inj q).symm
      · rw [e] at q; cases q.1
    subst hy
    exact ⟨by decide, by decide, by decide, by rw [Nat.zero_mul]; decide⟩
  · have hn1 : n ≤ n * n := Nat.le_mul_of_pos_right n (by omega)
    have hnl : n < 9007199254740992 := by
      rcases Nat.lt_or_ge n 9007199254740992 with q | q
      · exact q
      · exfalso
        have : 9007199254740992 * 2 ≤ n * n := Nat.mul_le_mul q (by omega)
        omega
    obtain ⟨j, j1, j2, j3⟩ := norm_pow n (by omega) hnl
    obtain ⟨g, hg⟩ : ∃ g, g + j = f := ⟨f - j, by omega⟩
    have hb : n * 2 ^ j * 2 ^ g = n * 2 ^ f := by rw [Nat.mul_assoc, ← Nat.pow_add, Nat.add_comm j g, hg]
    obtain ⟨G, hG⟩ : ∃ G, g + g = G + 1074 ∨ (g + g < 1074 ∧ G = 0) := by
      rcases Nat.lt_or_ge (g + g) 1074 with q | q
      · exact ⟨0, Or.inr ⟨q, rfl⟩⟩
      · exact ⟨g + g - 1074, Or.inl (by omega)⟩
    have hself := hx.self
    have hsq : Fl.rq ((n * 2 ^ j * 2 ^ g) * (n * 2 ^ j * 2 ^ g)) 1074 = Fl.rg x := by
      rw [hb, Nat.mul_mul_mul_comm, ← Nat.pow_add, show f + f = c + 1074 by omega, Nat.pow_add, ← Nat.mul_assoc]
      have k := Fl.rq_mul (n * n * 2 ^ c) 1074 0
      rw [Nat.zero_add] at k
      rw [k]
      have := (uJ_rq hc hn rfl).self
      have hv := hx.2.2.2
      rw [← hv, Fl.rq_vl _ (by have := hx.2.1; omega)]
    have hz : ¬ Fl.rg x = 0 := by
      intro q
      have hv := hx.2.2.2
      rw [q] at hv
      have : Fl.vl 0 = 0 := rfl
      rw [this] at hv
      have := Nat.mul_pos (Nat.mul_pos (show 0 < n by omega) (show 0 < n by omega)) (Nat.two_pow_pos c)
      omega
    rcases hG with hG | ⟨hG, _⟩
    · obtain ⟨r, s1, s2, s3⟩ := Fl.sqrt_ge (x := x) 1074 rfl hG (by omega) j2 j3 hx.2.1 hx.1 (by rw [hsq]; exact Nat.le_refl _)
      obtain ⟨r', t1, t2⟩ := Fl.sqrt_le (x := x) 1074 rfl hG (by omega) j2 j3 hx.1 hz (by rw [hsq]; exact hx.2.1) (by rw [hsq]; exact Nat.le_refl _)
      rw [s1] at t1
      have : r = r' := by have := Option.some.inj t1; rw [wd_false, wd_false] at this; exact this
      subst this
      have hr : r = Fl.rq (n * 2 ^ j * 2 ^ g) 0 := by omega
      have hy := sqt_word h s1
      rw [hy, hr, hb]
      exact uJ_rq (by omega) (by omega) rfl
    · exfalso
      omega
end Go.Proofs.Ytmbjgakehghdjaa
/-
  OWN TEXT: how far a quotient by parts is from a whole number that it should be: plain integers.
-/
namespace Go.Proofs.Ytmbjgakehghdjaa.Zq
set_option linter.unusedVariables false
theorem nabs_add (x y : Int) : (x + y).natAbs ≤ x.natAbs + y.natAbs := Int.natAbs_add_le x y
theorem nabs_sub (x y : Int) : (x - y).natAbs ≤ x.natAbs + y.natAbs := by omega
theorem cancel {G x y : Nat} (hG : 0 < G) (h : G * x ≤ G * y) : x ≤ y := Nat.le_of_mul_le_mul_left h hG
theorem s1 {a1 lU X G : Nat} (h1 : 2251799813685248 * a1 ≤ lU + 4503599627370496 * G) (h2 : lU ≤ X) (h3 : G * 1267650600228229401496703205376 ≤ X) : 1125899906842624 * a1 ≤ X := by omega
theorem s2 {X a1 gk lU : Nat} (h1 : gk ≤ lU + a1) (h2 : lU ≤ X) (h3 : 1125899906842624 * a1 ≤ X) : gk ≤ 2 * X := by omega
theorem s3 {f lk X n : Nat} (h : 4503599627370496 * f ≤ lk + 4503599627370496) (h1 : lk ≤ n * X) (hX : 4503599627370496 ≤ X) : 4503599627370496 * f ≤ n * X + X := by omega
theorem s4 {m lk f X n : Nat} (h : m ≤ lk + f) (h1 : lk ≤ n * X) (h2 : 4503599627370496 * f ≤ (n + 1) * X) (hn : n ≤ 20000) : m ≤ (n + 1) * X := by
  have : (n + 1) * X ≤ 20001 * X := Nat.mul_le_mul_right X (by omega)
  rw [Nat.add_mul, Nat.one_mul] at *
  omega
/-- how great the steps get -/
theorem bounds {U X G : Nat} {g l k m2 t : Int} (hU : 1267650600228229401496703205376 ≤ U) (hG : G = g.natAbs) (hG1 : 1 ≤ G) (hX : X = G * U) (hl : l.natAbs ≤ G)
    (h1 : 2251799813685248 * (g * k - l * (U : Int)).natAbs ≤ l.natAbs * U + 4503599627370496 * G) : 1125899906842624 * (g * k - l * (U : Int)).natAbs ≤ X ∧ k.natAbs ≤ 2 * U := by
  have hGX : G * 1267650600228229401496703205376 ≤ X := by rw [hX]; exact Nat.mul_le_mul_left G hU
  have hlU : l.natAbs * U ≤ X := by rw [hX]; exact Nat.mul_le_mul_right U hl
  have ba1 := s1 h1 hlU hGX
  refine ⟨ba1, cancel hG1 ?_⟩
  have q1 := nabs_add (l * (U : Int)) (g * k - l * (U : Int))
  rw [show l * (U : Int) + (g * k - l * (U : Int)) = g * k by rw [Int.add_comm, Int.sub_add_cancel], Int.natAbs_mul, Int.natAbs_mul l, Int.natAbs_natCast, ← hG] at q1
  rw [show G * (2 * U) = 2 * (G * U) by rw [Nat.mul_left_comm], ← hX]
  exact s2 q1 hlU ba1
/-- a product of a step, rounded: the loss, and how great it is -/
theorem prod_step {U X G n : Nat} {b k m : Int} (hX : X = G * U) (hXU : 4503599627370496 ≤ X) (hb : b.natAbs ≤ n * G) (hk : k.natAbs ≤ 2 * U) (hn : 2 * n ≤ 20000)
    (h : 4503599627370496 * (m - b * k).natAbs ≤ (b * k).natAbs + 4503599627370496) : 4503599627370496 * (m - b * k).natAbs ≤ (2 * n + 1) * X ∧ m.natAbs ≤ (2 * n + 1) * X := by
  have hbk : (b * k).natAbs ≤ 2 * n * X := by
    rw [Int.natAbs_mul, hX]
    refine Nat.le_trans (Nat.mul_le_mul hb hk) ?_
    rw [Nat.mul_mul_mul_comm, Nat.mul_comm n 2]
    exact Nat.le_refl _
  have r1 := s3 h hbk hXU
  rw [show 2 * n * X + X = (2 * n + 1) * X by rw [Nat.add_mul, Nat.one_mul]] at r1
  refine ⟨r1, ?_⟩
  have q := nabs_add (b * k) (m - b * k)
  rw [show b * k + (m - b * k) = m by rw [Int.add_comm, Int.sub_add_cancel]] at q
  exact s4 q hbk r1 hn
/-- a sum of a step, rounded -/
theorem sum_step {U X G n k : Nat} {a m t : Int} (hX : X = G * U) (hXU : 4503599627370496 ≤ X) (ha : a.natAbs ≤ n * G) (hm : m.natAbs ≤ k * X) (hn : n + k ≤ 20000)
    (h : 4503599627370496 * (t - (a * (U : Int) + m)).natAbs ≤ (a * (U : Int) + m).natAbs + 4503599627370496) : 4503599627370496 * (t - (a * (U : Int) + m)).natAbs ≤ (n + k + 1) * X ∧ t.natAbs ≤ (n + k + 1) * X := by
  have haU : (a * (U : Int)).natAbs ≤ n * X := by
    rw [Int.natAbs_mul, Int.natAbs_natCast, hX, ← Nat.mul_assoc]
    exact Nat.mul_le_mul_right U ha
  have hs : (a * (U : Int) + m).natAbs ≤ (n + k) * X := by
    rw [Nat.add_mul]
    exact Nat.le_trans (nabs_add _ _) (Nat.add_le_add haU hm)
  have r1 := s3 h hs hXU
  rw [show (n + k) * X + X = (n + k + 1) * X by rw [Nat.add_mul (n + k) 1, Nat.one_mul]] at r1
  refine ⟨r1, ?_⟩
  have q := nabs_add (a * (U : Int) + m) (t - (a * (U : Int) + m))
  rw [show a * (U : Int) + m + (t - (a * (U : Int) + m)) = t by rw [Int.add_comm, Int.sub_add_cancel]] at q
  exact s4 q hs r1 hn
theorem s5 {Z Bn Cn Dn Y E F : Nat} (h0 : Bn ≤ Y + Cn + Dn) (h1 : Z ≤ Bn) (h2 : Cn ≤ E) (h3 : Dn ≤ F) (h4 : 1125899906842624 * E ≤ Z) (h5 : 4503599627370496 * F ≤ 8 * Z) : Z ≤ 2 * Y := by omega
theorem t_low {U X G : Nat} {g l k m2 t a1 f2 f3 : Int} (hG : G = g.natAbs) (hG1 : 1 ≤ G) (hX : X = G * U) (hl : l.natAbs ≤ G) (e1 : g * k = l * (U : Int) + a1) (e2 : m2 = l * k + f2) (e3 : t = g * (U : Int) + m2 + f3)
    (ba1 : 1125899906842624 * a1.natAbs ≤ X) (bf2 : 4503599627370496 * f2.natAbs ≤ 3 * X) (bf3 : 4503599627370496 * f3.natAbs ≤ 5 * X) : X ≤ 2 * t.natAbs := by
  refine cancel hG1 ?_
  have q1 : (g * g + l * l) * (U : Int) = g * t + (-(l * a1)) + (-(g * (f2 + f3))) := by
    rw [e3, e2]
    have : g * (l * k) = l * (l * (U : Int) + a1) := by rw [← e1]; grind
    grind
  have q0 := nabs_add (g * t + (-(l * a1))) (-(g * (f2 + f3)))
  have q0' := nabs_add (g * t) (-(l * a1))
  rw [← q1] at q0
  have q2 : (g * t).natAbs = G * t.natAbs := by rw [Int.natAbs_mul, ← hG]
  have q3 : (-(l * a1)).natAbs ≤ G * a1.natAbs := by rw [Int.natAbs_neg, Int.natAbs_mul]; exact Nat.mul_le_mul_right _ hl
  have q4 : (-(g * (f2 + f3))).natAbs ≤ G * (f2.natAbs + f3.natAbs) := by rw [Int.natAbs_neg, Int.natAbs_mul, ← hG]; exact Nat.mul_le_mul_left _ (nabs_add f2 f3)
  have q5 : G * X ≤ ((g * g + l * l) * (U : Int)).natAbs := by
    rw [Int.natAbs_mul, Int.natAbs_natCast]
    have s1 : (g * g + l * l).natAbs = G * G + l.natAbs * l.natAbs := by
      have u1 : g * g = ((G * G : Nat) : Int) := by rw [hG]; exact (Int.natAbs_mul_self (a := g)).symm
      have u2 : l * l = ((l.natAbs * l.natAbs : Nat) : Int) := (Int.natAbs_mul_self (a := l)).symm
      rw [u1, u2, ← Int.natCast_add, Int.natAbs_natCast]
    rw [s1, hX, ← Nat.mul_assoc]
    exact Nat.mul_le_mul_right U (Nat.le_add_right _ _)
  have q6 : G * (1125899906842624 * a1.natAbs) ≤ G * X := Nat.mul_le_mul_left G ba1
  have q7 : G * (4503599627370496 * (f2.natAbs + f3.natAbs)) ≤ G * (8 * X) := Nat.mul_le_mul_left G (by rw [Nat.mul_add]; generalize f2.natAbs = x at *; generalize f3.natAbs = y at *; clear q1 q0 q0' q2 q3 q4 q5 q6 e1 e2 e3 ba1 hX hG; omega)
  rw [Nat.mul_left_comm] at q6 q7
  rw [Nat.mul_left_comm G 8 X] at q7
  rw [Nat.mul_left_comm G 2 t.natAbs, ← q2]
  exact s5 (Nat.le_trans q0 (Nat.add_le_add_right q0' _)) q5 q3 q4 q6 q7
theorem s6 {X a1 x2 x3 x4 x5 y : Nat} (h : y ≤ 5000 * a1 + (x4 + x5 + 1000 * x2 + 1000 * x3)) (b1 : 1125899906842624 * a1 ≤ X) (b2 : 4503599627370496 * x2 ≤ 3 * X) (b3 : 4503599627370496 * x3 ≤ 5 * X) (b4 : 4503599627370496 * x4 ≤ 8001 * X) (b5 : 4503599627370496 * x5 ≤ 12002 * X) : 68719476736 * y ≤ X := by omega
theorem ident (g l a b v k U a1 f2 f3 f4 f5 : Int) (he : a * g + b * l = v * (g * g + l * l)) (e1 : g * k = l * U + a1) :
    g * (a * U + (b * k + f4) + f5 - v * (g * U + (l * k + f2) + f3)) = (b - v * l) * a1 + g * (f4 + f5 + -(v * f2) + -(v * f3)) := by
  have t1 : g * (a * U + (b * k + f4) + f5 - v * (g * U + (l * k + f2) + f3)) = (a * g - v * (g * g)) * U + (b - v * l) * (g * k) + g * (f4 + f5 + -(v * f2) + -(v * f3)) := by grind
  have t2 : a * g - v * (g * g) = v * (l * l) - b * l := by rw [Int.mul_add] at he; omega
  rw [t1, e1, t2]
  grind
/-- how far the dividend is -/
theorem d_far {U X G : Nat} {g l a b v k m2 t m4 A a1 f2 f3 f4 f5 : Int} (hG : G = g.natAbs) (hG1 : 1 ≤ G) (hl : l.natAbs ≤ G) (hv : v.natAbs ≤ 1000) (hb : b.natAbs ≤ 4000 * G) (he : a * g + b * l = v * (g * g + l * l))
    (e1 : g * k = l * (U : Int) + a1) (e2 : m2 = l * k + f2) (e3 : t = g * (U : Int) + m2 + f3) (e4 : m4 = b * k + f4) (e5 : A = a * (U : Int) + m4 + f5)
    (ba1 : 1125899906842624 * a1.natAbs ≤ X) (bf2 : 4503599627370496 * f2.natAbs ≤ 3 * X) (bf3 : 4503599627370496 * f3.natAbs ≤ 5 * X) (bf4 : 4503599627370496 * f4.natAbs ≤ 8001 * X) (bf5 : 4503599627370496 * f5.natAbs ≤ 12002 * X) : 68719476736 * (A - v * t).natAbs ≤ X := by
  have q1 : g * (A - v * t) = (b - v * l) * a1 + g * (f4 + f5 + -(v * f2) + -(v * f3)) := by
    rw [e5, e4, e3, e2]
    exact ident g l a b v k U a1 f2 f3 f4 f5 he e1
  have q2 : (g * (A - v * t)).natAbs = G * (A - v * t).natAbs := by rw [Int.natAbs_mul, ← hG]
  have q3 : ((b - v * l) * a1).natAbs ≤ G * (5000 * a1.natAbs) := by
    rw [Int.natAbs_mul]
    have s1 : (v * l).natAbs ≤ 1000 * G := by rw [Int.natAbs_mul]; exact Nat.mul_le_mul hv hl
    have s2 := nabs_sub b (v * l)
    have s3 : (b - v * l).natAbs ≤ 5000 * G := Nat.le_trans s2 (by rw [show 5000 * G = 4000 * G + 1000 * G by rw [← Nat.add_mul]]; exact Nat.add_le_add hb s1)
    refine Nat.le_trans (Nat.mul_le_mul_right _ s3) ?_
    rw [Nat.mul_comm 5000 G, Nat.mul_assoc]
    exact Nat.le_refl _
  have vf : ∀ f : Int, (-(v * f)).natAbs ≤ 1000 * f.natAbs := fun f => by rw [Int.natAbs_neg, Int.natAbs_mul]; exact Nat.mul_le_mul_right _ hv
  have q4 : (f4 + f5 + -(v * f2) + -(v * f3)).natAbs ≤ f4.natAbs + f5.natAbs + 1000 * f2.natAbs + 1000 * f3.natAbs :=
    Nat.le_trans (nabs_add _ _) (Nat.add_le_add (Nat.le_trans (nabs_add _ _) (Nat.add_le_add (nabs_add _ _) (vf f2))) (vf f3))
  have q5 : (g * (f4 + f5 + -(v * f2) + -(v * f3))).natAbs ≤ G * (f4.natAbs + f5.natAbs + 1000 * f2.natAbs + 1000 * f3.natAbs) := by rw [Int.natAbs_mul, ← hG]; exact Nat.mul_le_mul_left _ q4
  have q6 := nabs_add ((b - v * l) * a1) (g * (f4 + f5 + -(v * f2) + -(v * f3)))
  rw [← q1, q2] at q6
  have q7 : G * (A - v * t).natAbs ≤ G * (5000 * a1.natAbs + (f4.natAbs + f5.natAbs + 1000 * f2.natAbs + 1000 * f3.natAbs)) := by
    rw [Nat.mul_add]
    exact Nat.le_trans q6 (Nat.add_le_add q3 q5)
  exact s6 (cancel hG1 q7) ba1 bf2 bf3 bf4 bf5
theorem s7 {W Y Z F f6 B T : Nat} (h1 : Y ≤ F + f6) (h2 : 68719476736 * F ≤ W) (h3 : 2251799813685248 * f6 ≤ B + 4503599627370496 * T) (h4 : B ≤ 12002 * W) (h5 : 1267650600228229401496703205376 * T ≤ 9 * W) (h6 : Z ≤ 2 * Y) : 8589934592 * Z ≤ W := by omega
/-- g the greater part of the divisor, l the lesser; k their quotient, t the divisor; a, b the dividend's parts; z the answer, v what it should be; U units -/
theorem comp_core {U : Nat} {g l a b v k m2 t m4 A z : Int} (hU : 1267650600228229401496703205376 ≤ U) (hg : g ≠ 0) (hl : l.natAbs ≤ g.natAbs) (hv : v.natAbs ≤ 1000) (ha : a.natAbs ≤ 4000 * g.natAbs) (hb : b.natAbs ≤ 4000 * g.natAbs)
    (he : a * g + b * l = v * (g * g + l * l))
    (h1 : 2251799813685248 * (g * k - l * (U : Int)).natAbs ≤ l.natAbs * U + 4503599627370496 * g.natAbs)
    (h2 : 4503599627370496 * (m2 - l * k).natAbs ≤ (l * k).natAbs + 4503599627370496)
    (h3 : 4503599627370496 * (t - (g * (U : Int) + m2)).natAbs ≤ (g * (U : Int) + m2).natAbs + 4503599627370496)
    (h4 : 4503599627370496 * (m4 - b * k).natAbs ≤ (b * k).natAbs + 4503599627370496)
    (h5 : 4503599627370496 * (A - (a * (U : Int) + m4)).natAbs ≤ (a * (U : Int) + m4).natAbs + 4503599627370496)
    (h6 : 2251799813685248 * (z * t - A * (U : Int)).natAbs ≤ A.natAbs * U + 4503599627370496 * t.natAbs) :
    8589934592 * (z - v * (U : Int)).natAbs ≤ U := by
  obtain ⟨G, hG⟩ : ∃ G, G = g.natAbs := ⟨_, rfl⟩
  have hG1 : 1 ≤ G := by rw [hG]; exact Int.natAbs_pos.2 hg
  obtain ⟨X, hX⟩ : ∃ X, X = G * U := ⟨_, rfl⟩
  have hXU : U ≤ X := by rw [hX]; exact Nat.le_mul_of_pos_left U hG1
  have hX5 : 4503599627370496 ≤ X := Nat.le_trans (by decide) (Nat.le_trans hU hXU)
  rw [← hG] at hl ha hb h1
  obtain ⟨b1, bk⟩ := bounds (m2 := m2) (t := t) hU hG hG1 hX hl h1
  obtain ⟨b2, c2⟩ := prod_step (n := 1) hX hX5 (by rw [Nat.one_mul]; exact hl) bk (by decide) h2
  obtain ⟨b3, c3⟩ := sum_step (n := 1) (k := 3) hX hX5 (by rw [Nat.one_mul, ← hG]; exact Nat.le_refl _) c2 (by decide) h3
  obtain ⟨b4, c4⟩ := prod_step (n := 4000) hX hX5 hb bk (by decide) h4
  obtain ⟨b5, c5⟩ := sum_step (n := 4000) (k := 8001) hX hX5 ha c4 (by decide) h5
  have e1 : g * k = l * (U : Int) + (g * k - l * (U : Int)) := by rw [Int.add_comm, Int.sub_add_cancel]
  have e2 : m2 = l * k + (m2 - l * k) := by rw [Int.add_comm, Int.sub_add_cancel]
  have e3 : t = g * (U : Int) + m2 + (t - (g * (U : Int) + m2)) := by rw [Int.add_comm, Int.sub_add_cancel]
  have e4 : m4 = b * k + (m4 - b * k) := by rw [Int.add_comm, Int.sub_add_cancel]
  have e5 : A = a * (U : Int) + m4 + (A - (a * (U : Int) + m4)) := by rw [Int.add_comm, Int.sub_add_cancel]
  have lt := t_low hG hG1 hX hl e1 e2 e3 b1 b2 b3
  have fd := d_far hG hG1 hl hv hb he e1 e2 e3 e4 e5 b1 b2 b3 b4 b5
  have q1 : t * (z - v * (U : Int)) = (U : Int) * (A - v * t) + (z * t - A * (U : Int)) := by grind
  have q6 := nabs_add ((U : Int) * (A - v * t)) (z * t - A * (U : Int))
  rw [← q1, Int.natAbs_mul (U : Int), Int.natAbs_natCast, Int.natAbs_mul] at q6
  have q3 : 68719476736 * (U * (A - v * t).natAbs) ≤ U * X := by rw [Nat.mul_left_comm]; exact Nat.mul_le_mul_left U fd
  have q4 : A.natAbs * U ≤ 12002 * (U * X) := by
    refine Nat.le_trans (Nat.mul_le_mul_right U c5) ?_
    rw [Nat.mul_assoc, Nat.mul_comm X U]
    exact Nat.le_refl _
  have q5 : 1267650600228229401496703205376 * t.natAbs ≤ 9 * (U * X) := by
    refine Nat.le_trans (Nat.mul_le_mul hU c3) ?_
    rw [Nat.mul_left_comm]
    exact Nat.mul_le_mul_right _ (by decide)
  have q7 : X * (z - v * (U : Int)).natAbs ≤ 2 * (t.natAbs * (z - v * (U : Int)).natAbs) := by
    rw [← Nat.mul_assoc]
    exact Nat.mul_le_mul_right _ lt
  refine cancel (Nat.lt_of_lt_of_le (by decide) hX5) ?_
  rw [Nat.mul_left_comm X 8589934592, Nat.mul_comm X U]
  exact s7 q6 q3 h6 q4 q5 q7
end Go.Proofs.Ytmbjgakehghdjaa.Zq
