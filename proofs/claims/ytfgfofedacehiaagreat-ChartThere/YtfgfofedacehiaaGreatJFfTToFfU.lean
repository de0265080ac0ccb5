/-
 OWN TEXT: sums of floats, noughts, quotients as fractions; a quotient of complex numbers by parts: the reckoning.
-/
import Derived.Test.YtfgfofedacehiaaGreatJSwAToSwB
set_option linter.unusedVariables false
set_option exponentiation.threshold 3000
namespace Go.Proofs.YtfgfofedacehiaaGreat.Sv
theorem op_add_eq {a b : Nat} (ha : Fi a) (hb : Fi b) : op .add a b = Fl.wd (if Fl.val a + Fl.val b = 0 then Fl.sg a && Fl.sg b else decide (Fl.val a + Fl.val b < 0)) (Fl.rq (Fl.val a + Fl.val b).natAbs 0) := by
 have h := Fl.add_fin ha.2 hb.2
 unfold op
 show (match Ieee.double.add a b with | some z => Fl.bitsF z | none => 9221120237041090560) = _
 rw [h]
 exact c_wd _ _ (Fl.rq_le _ _)
theorem add_val {a b : Nat} (ha : Fi a) (hb : Fi b) (hs : Fi (op .add a b)) : ∃ e : Nat, Fl.val (op .add a b) ≤ Fl.val a + Fl.val b + e ∧ Fl.val a + Fl.val b ≤ Fl.val (op .add a b) + e ∧ 4503599627370496 * e ≤ (Fl.val a + Fl.val b).natAbs + 4503599627370496 := by
 rw [op_add_eq ha hb] at hs ⊢
 have hr := (fi_wd (Fl.rq_le _ _)).1 hs
 generalize Fl.val a + Fl.val b = T at *
 obtain ⟨e, h1, h2, h3⟩ := Fl.rq_err T.natAbs 0 hr
 rw [Nat.pow_zero, Nat.mul_one] at h1 h2
 rw [Nat.pow_zero, Nat.mul_one] at h3
 refine ⟨e, ?_⟩
 rw [val_wd _ _ (Fl.rq_le _ _)]
 by_cases z : T = 0
 ·
  subst z
  have h0 : Fl.rq (0 : Int).natAbs 0 = 0 := rfl
  rw [h0] at h1 h2 ⊢
  have v0 : Fl.vl 0 = 0 := by decide
  rw [v0]
  split <;> (refine ⟨?_, ?_, h3⟩ <;> simp)
 ·
  rw [if_neg z]
  generalize Fl.vl (Fl.rq T.natAbs 0) = V at *
  by_cases y : T < 0
  ·
   rw [decide_eq_true y, if_pos rfl]
   refine ⟨by omega, by omega, h3⟩
  ·
   rw [decide_eq_false y]
   simp only [Bool.false_eq_true, if_false]
   refine ⟨by omega, by omega, h3⟩
theorem rv_add (a b : Nat) : rv a + rv b = ((Fl.val a + Fl.val b : Int) : Rat) * en := by unfold rv; rw [Rat.intCast_add]; grind
/-- a sum -/
theorem add_err {a b : Nat} (ha : Fi a) (hb : Fi b) (hs : Fi (op .add a b)) {B : Rat} (h : Ab (rv a + rv b) B) : Ab (rv (op .add a b) - (rv a + rv b)) (1 / 4503599627370496 * B + en) := by
 obtain ⟨e, h1, h2, h3⟩ := add_val ha hb hs
 rw [rv_add] at h ⊢
 have k := nat_en h
 have z : rv (op .add a b) - ((Fl.val a + Fl.val b : Int) : Rat) * en = ((Fl.val (op .add a b) - (Fl.val a + Fl.val b) : Int) : Rat) * en := by unfold rv; rw [Rat.intCast_sub (Fl.val (op .add a b))]; grind
 rw [z]
 refine (int_en (e := e) (by omega) (by omega)).mono ?_
 have h4 : ((4503599627370496 * e : Nat) : Rat) ≤ (((Fl.val a + Fl.val b).natAbs + 4503599627370496 : Nat) : Rat) := Rat.natCast_le_natCast.2 h3
 rw [Rat.natCast_mul, Rat.natCast_add] at h4
 have h5 := Rat.mul_le_mul_of_nonneg_right h4 (Rat.le_of_lt en_pos)
 have c : ((4503599627370496 : Nat) : Rat) = 4503599627370496 := rfl
 rw [c] at h5
 grind
theorem add_fi {a b : Nat} (ha : Fi a) (hb : Fi b) {B : Rat} (h : Ab (rv a + rv b) B) (hB : B ≤ 1152921504606846976) : Fi (op .add a b) := by
 rw [op_add_eq ha hb]
 refine (fi_wd (Fl.rq_le _ _)).2 (rq_fin _ _ ?_)
 rw [rv_add] at h
 have k := nat_big (nat_en h) hB
 refine Nat.le_trans k ?_
 rw [Nat.pow_zero, Nat.mul_one]
 decide +kernel
theorem vl_nought {a : Nat} (h : Fl.val a = 0) : Fl.vl (Fl.rg a) = 0 := by rw [← val_abs, h]; rfl
theorem rq_nought (d : Nat) : Fl.rq 0 d = 0 := by unfold Fl.rq; rfl
theorem wd_nought2 (s : Bool) : Fl.val (Fl.wd s 0) = 0 := by cases s <;> decide +kernel
theorem mul_nought {a b : Nat} (ha : Fi a) (hb : Fi b) (za : Fl.val a = 0) : Fi (op .mul a b) ∧ Fl.val (op .mul a b) = 0 := by
 rw [op_mul_eq ha hb, vl_nought za, Nat.zero_mul, rq_nought]
 exact ⟨(fi_wd (by decide)).2 (by decide), wd_nought2 _⟩
/-- a quotient that is not too great is a number; one of nought is nought -/
theorem quo_fi {a b : Nat} (ha : Fi a) (hb : Fi b) (h0 : ¬ Fl.rg b = 0) (h : Fl.vl (Fl.rg a) ≤ 1152921504606846976 * Fl.vl (Fl.rg b)) : Fi (op .quo a b) ∧ (Fl.val a = 0 → Fl.val (op .quo a b) = 0) := by
 obtain ⟨Q, e, S, h1, h2, h3, h4⟩ := Fl.div_form 1074 rfl ha.2 hb.2 h0
 have hY : 0 < Fl.vl (Fl.rg b) := by have := Fl.vl_pos h0; omega
 have he : op .quo a b = Fl.wd (Fl.sg a ^^ Fl.sg b) (Fl.rq Q e) := by
  unfold op
  show (match Ieee.double.div a b with | some z => Fl.bitsF z | none => 9221120237041090560) = _
  rw [h1]
  exact c_wd _ _ (Fl.rq_le _ _)
 rw [he]
 have hYS : 9007199254740992 * (Fl.vl (Fl.rg b) * S) ≤ Fl.vl (Fl.rg b) * Q := by rw [Nat.mul_left_comm]; exact Nat.mul_le_mul_left _ h4
 constructor
 ·
  refine (fi_wd (Fl.rq_le _ _)).2 (rq_fin _ _ ?_)
  have hQ : Q ≤ 2 * (1152921504606846976 * 2 ^ 1074 * 2 ^ e) := by
   refine Nat.le_of_mul_le_mul_left (c := Fl.vl (Fl.rg b)) ?_ hY
   generalize (2 ^ 1074 : Nat) = W at *
   have k1 : Fl.vl (Fl.rg a) * W * 2 ^ e ≤ 1152921504606846976 * Fl.vl (Fl.rg b) * W * 2 ^ e := Nat.mul_le_mul_right _ (Nat.mul_le_mul_right _ h)
   have k2 : Fl.vl (Fl.rg b) * (2 * (1152921504606846976 * W * 2 ^ e)) = 2 * (1152921504606846976 * Fl.vl (Fl.rg b) * W * 2 ^ e) := by grind
   rw [k2]
   generalize 1152921504606846976 * Fl.vl (Fl.rg b) * W * 2 ^ e = u at *
   generalize Fl.vl (Fl.rg a) * W * 2 ^ e = v at *
   generalize Fl.vl (Fl.rg b) * Q = s at *
   generalize Fl.vl (Fl.rg b) * S = t at *
   omega
  refine Nat.le_trans hQ ?_
  rw [← Nat.mul_assoc]
  refine Nat.mul_le_mul_right _ ?_
  rw [show (1152921504606846976 : Nat) = 2 ^ 60 by decide, ← Nat.pow_add, ← Nat.pow_succ']
  exact Nat.pow_le_pow_right (by decide) (by decide)
 ·
  intro z
  rw [vl_nought z, Nat.zero_mul, Nat.zero_add] at h2
  have hQ0 : Q = 0 := by
   rcases Nat.eq_zero_or_pos Q with q | q
   · exact q
   ·
    exfalso
    have := Nat.mul_pos hY q
    generalize Fl.vl (Fl.rg b) * Q = s at *
    generalize Fl.vl (Fl.rg b) * S = t at *
    omega
  rw [hQ0, rq_nought]
  exact wd_nought2 _
theorem Ab.neg {x b : Rat} (h : Ab x b) : Ab (-x) b := by unfold Ab at *; constructor <;> grind
theorem Ab.cong {x y b : Rat} (h : Ab x b) (e : x = y) : Ab y b := e ▸ h
end Go.Proofs.YtfgfofedacehiaaGreat.Sv

/-
 OWN TEXT: a quotient of complex numbers by parts, of floats: how far it is from the true one.
-/
set_option linter.unusedVariables false
set_option exponentiation.threshold 3000
namespace Go.Proofs.YtfgfofedacehiaaGreat.Sv
theorem en_small : 1606938044258990275541962092341162602522202993782792835301376 * en ≤ 1 := by
 have h := en_unit
 have k : ((1606938044258990275541962092341162602522202993782792835301376 : Nat) : Rat) ≤ ((2 ^ 1074 : Nat) : Rat) := Rat.natCast_le_natCast.2 (by
  rw [show (1606938044258990275541962092341162602522202993782792835301376 : Nat) = 2 ^ 200 by decide]
  exact Nat.pow_le_pow_right (by decide) (by decide))
 have k2 := Rat.mul_le_mul_of_nonneg_right k (Rat.le_of_lt en_pos)
 rw [h] at k2
 exact k2
theorem rv_abs (x : Nat) : ab (rv x) = ((Fl.vl (Fl.rg x) : Nat) : Rat) * en := by
 have e : rv x = (if Fl.sg x then -1 else 1) * (((Fl.vl (Fl.rg x) : Nat) : Rat) * en) := by
  unfold rv
  rw [show Fl.val x = if Fl.sg x then -(Fl.vl (Fl.rg x) : Int) else Fl.vl (Fl.rg x) from rfl, sgn_rat, Rat.mul_assoc]
 have h : 0 ≤ ((Fl.vl (Fl.rg x) : Nat) : Rat) * en := Rat.mul_nonneg Rat.natCast_nonneg (Rat.le_of_lt en_pos)
 rw [e]
 generalize ((Fl.vl (Fl.rg x) : Nat) : Rat) * en = v at *
 unfold ab
 split <;> split <;> grind
/-- one is not much greater than the other -/
theorem vl_far {x y : Nat} (h : ab (rv x) ≤ 1152921504606846976 * ab (rv y)) : Fl.vl (Fl.rg x) ≤ 1152921504606846976 * Fl.vl (Fl.rg y) := by
 rw [rv_abs, rv_abs] at h
 have h2 : ((Fl.vl (Fl.rg x) : Nat) : Rat) * en ≤ ((1152921504606846976 * Fl.vl (Fl.rg y) : Nat) : Rat) * en := by
  rw [Rat.natCast_mul]
  have c : ((1152921504606846976 : Nat) : Rat) = 1152921504606846976 := rfl
  rw [c]
  grind
 by_cases q : Fl.vl (Fl.rg x) ≤ 1152921504606846976 * Fl.vl (Fl.rg y)
 · exact q
 ·
  exfalso
  have h3 : ((1152921504606846976 * Fl.vl (Fl.rg y) : Nat) : Rat) < ((Fl.vl (Fl.rg x) : Nat) : Rat) := Rat.natCast_lt_natCast.2 (by omega)
  have h4 := Rat.mul_lt_mul_of_pos_right h3 en_pos
  grind
def uu : Rat := 1 / 562949953421312
/-- what is divided: x + y k, x - y k, y k + x, y k - x -/
theorem sm_n {x y k : Nat} (hx : Fi x) (hy : Fi y) (hk : Fi k) (hk1 : Ab (rv k) 1) {H : Rat} (hxy : ab (rv x) + ab (rv y) ≤ H) (hH : 1 ≤ H) (hH2 : H ≤ 36028797018963968) :
  Fi (op .mul y k) ∧ (Fi (op .add x (op .mul y k)) ∧ Ab (rv (op .add x (op .mul y k)) - (rv x + rv y * rv k)) (uu * H)) ∧ (Fi (op .sub x (op .mul y k)) ∧ Ab (rv (op .sub x (op .mul y k)) - (rv x + (-rv y) * rv k)) (uu * H)) ∧
  (Fi (op .add (op .mul y k) x) ∧ Ab (rv (op .add (op .mul y k) x) - (rv x + rv y * rv k)) (uu * H)) ∧ (Fi (op .sub (op .mul y k) x) ∧ Ab (rv (op .sub (op .mul y k) x) - (-rv x + rv y * rv k)) (uu * H)) := by
 have es := en_small
 have ep := en_pos
 have hy1 := ab_ab (rv y)
 have hx1 := ab_ab (rv x)
 have hyn := ab_nn (rv y)
 have hxn := ab_nn (rv x)
 generalize ab (rv y) = Y at *
 generalize ab (rv x) = X at *
 have m0 : Ab (rv y * rv k) (Y * 1) := hy1.mul hk1
 have m1 := mul_fi hy hk m0 (by grind)
 have m2 := mul_err hy hk m1 m0
 have hmm : Ab (rv (op .mul y k)) (2 * H) := ((m2.add m0).cong (by grind)).mono (by grind)
 have sA : Ab (rv x + rv (op .mul y k)) (3 * H) := (hx1.add hmm).mono (by grind)
 have sB : Ab (rv x - rv (op .mul y k)) (3 * H) := (hx1.sub hmm).mono (by grind)
 have sC : Ab (rv (op .mul y k) + rv x) (3 * H) := sA.cong (by grind)
 have sD : Ab (rv (op .mul y k) - rv x) (3 * H) := (hmm.sub hx1).mono (by grind)
 have fA := add_fi hx m1 sA (by grind)
 have fB := sub_fi hx m1 sB (by grind)
 have fC := add_fi m1 hx sC (by grind)
 have fD := sub_fi m1 hx sD (by grind)
 have gA := add_err hx m1 fA sA
 have gB := sub_err hx m1 fB sB
 have gC := add_err m1 hx fC sC
 have gD := sub_err m1 hx fD sD
 unfold uu
 exact ⟨m1, ⟨fA, ((gA.add m2).cong (by grind)).mono (by grind)⟩, ⟨fB, ((gB.sub m2).cong (by grind)).mono (by grind)⟩, ⟨fC, ((gC.add m2).cong (by grind)).mono (by grind)⟩, ⟨fD, ((gD.add m2).cong (by grind)).mono (by grind)⟩⟩
end Go.Proofs.YtfgfofedacehiaaGreat.Sv

