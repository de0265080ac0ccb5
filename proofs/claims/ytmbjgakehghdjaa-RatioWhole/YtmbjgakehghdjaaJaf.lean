/-
  OWN TEXT: what Same of package float and math.Signbit return, for every float.
-/
import Derived.Test.YtmbjgakehghdjaaJaa
import Derived.Test.YtmbjgakehghdjaaJae
namespace Go.Proofs.Ytmbjgakehghdjaa
open Go.ChangeShapes Go.WideShapes Go.ChangeAt Go.RowKit
attribute [local go_sem] frombits_call tobits_call run_neg
theorem sameB_bits (x y : Nat) : ((Fl.bitsF x : Int) == Fl.bitsF y) = Fl.sameB x y := by
  rw [Bool.eq_iff_iff]
  unfold Fl.sameB Fl.bitsF
  cases h1 : Fl.nan x <;> cases h2 : Fl.nan y <;> simp
  · omega
  · intro e; have : x = 9221120237041090560 := by omega
    subst this; simp [Fl.nan, Fl.rg] at h1
  · intro e; have : y = 9221120237041090560 := by omega
    subst this; simp [Fl.nan, Fl.rg] at h2
theorem same_any (x y : Nat) (w : World) : Calls Try.prog 55 #[.float .f64 x, .float .f64 y] w fun e w' => e = .returned (.bool (Fl.sameB x y)) ∧ w' = w := by
  go_enter Try.func55, Try.ntmps55
  go_wp2_with (go_at_call 71; refine (bits_any _ _).mono ?_; rintro e w' ⟨rfl, rfl⟩)
  go_ret
  exact ⟨rb (sameB_bits x y), rfl⟩
end Go.Proofs.Ytmbjgakehghdjaa
/-
  OWN TEXT: what Same, Minus, Signed and the reference of layer 1 return, for every float.
-/
namespace Go.Proofs.Ytmbjgakehghdjaa
open Go.ChangeShapes Go.WideShapes Go.ChangeAt Go.RowKit
attribute [local go_sem] frombits_call tobits_call run_neg
theorem none_any (x : Nat) (w : World) : Calls Try.prog 83 #[.float .f64 x] w fun e w' => e = .returned (.bool (Fl.nan x)) ∧ w' = w := by
  go_enter Try.func83, Try.ntmps83
  go_wp2
  go_ret
  exact ⟨rb (by rw [Fl.o_ne, Fl.eqF_self]; simp), rfl⟩
theorem rsame_any (x y : Nat) (w : World) : Calls Try.prog 80 #[.float .f64 x, .float .f64 y] w fun e w' => e = .returned (.bool (Fl.sameB x y)) ∧ w' = w := by
  cases h1 : Fl.nan x <;> cases h2 : Fl.nan y
  all_goals
    go_enter Try.func80, Try.ntmps80
    go_wp2_with (go_at_call 83; refine (none_any _ _).mono ?_; rintro e w' ⟨rfl, rfl⟩)
    go_ret
    refine ⟨rb ?_, rfl⟩
    simp [Fl.sameB, h1, h2]
  rw [Bool.eq_iff_iff]; simp; omega
/-- a with b's sign, as the reference has it -/
def rsignedF (x y : Nat) : Nat := if Fl.minusB x != Fl.minusB y && !Fl.nan x then Fl.ng x else x
/-- a with b's sign, as the program has it -/
def signedF (x y : Nat) : Nat := if Fl.minusB y then Fl.ng (Fl.rg x) else Fl.rg x
theorem same_signed (x y : Nat) (hx : x < 18446744073709551616) : Fl.sameB (signedF x y) (rsignedF x y) = true := by
  have hl := Fl.rg_lt x
  have hs := Fl.sg_lt hx
  have e1 : Fl.nan (signedF x y) = Fl.nan x := by unfold signedF; split <;> simp [Fl.nan_ng, Fl.nan_rg]
  have e2 : Fl.nan (rsignedF x y) = Fl.nan x := by unfold rsignedF; split <;> simp [Fl.nan_ng]
  unfold Fl.sameB
  rw [e1, e2]
  cases hn : Fl.nan x
  · simp only [Bool.false_and, Bool.not_false, Bool.true_and, Bool.false_or, decide_eq_true_eq]
    unfold signedF rsignedF
    rw [show Fl.minusB x = decide (9223372036854775808 ≤ x) by simp [Fl.minusB, hn, hs]]
    have hr : Fl.rg x = if 9223372036854775808 ≤ x then x - 9223372036854775808 else x := by unfold Fl.rg; split <;> omega
    rw [hr, hn]
    unfold Fl.ng
    cases Fl.minusB y <;> by_cases h : 9223372036854775808 ≤ x <;> simp [h] <;> omega
  · rfl
end Go.Proofs.Ytmbjgakehghdjaa
/-
  OWN TEXT: whole complex numbers as the program has them: sums, products, quotients by 1, tests.
-/
namespace Go.Proofs.Ytmbjgakehghdjaa
open Go.ChangeShapes Go.WideShapes Go.ChangeAt Go.RowKit
set_option linter.unusedVariables false
attribute [local go_sem] frombits_call tobits_call run_neg
namespace Fl
theorem div_one {x : Nat} (hx : rg x < 9218868437227405312) : Ieee.double.div x 4607182418800017408 = some (wd (sg x) (rq (vl (rg x)) 0)) := by
  obtain ⟨m, k, hm, em⟩ := read_fin hx
  have r2 : Ieee.double.read 4607182418800017408 = .number false 4503599627370496 (-52) := rfl
  unfold Ieee.Format.div
  rw [hm, r2]
  unfold Ieee.Datum.quotient
  simp only []
  rw [if_neg (by omega), show (4503599627370496 : Nat).log2 = 52 by decide]
  have hfb : Ieee.double.fractionBits = 52 := rfl
  rw [hfb]
  by_cases z : m = 0
  · subst z
    have hv : vl (rg x) = 0 := by rw [← em, Nat.zero_mul]
    rw [hv, show Nat.log2 0 = 0 from rfl, Nat.zero_shiftLeft]
    simp only [Nat.zero_div, Nat.zero_mod, Nat.mul_zero, Option.map_some]
    rw [Bool.xor_false, show rq 0 0 = 0 from rfl]
    show some (Ieee.double.nearest (sg x) 0 _) = _
    unfold Ieee.Format.nearest
    rw [if_pos rfl]
    cases sg x <;> rfl
  · have hml : m.log2 ≤ 53 := by
      by_cases c : rg x < 4503599627370496
      · have h1 : m * 2 ^ k < 4503599627370496 := by rw [em, vl_small c]; exact c
        have h2 : m ≤ m * 2 ^ k := Nat.le_mul_of_pos_right m (Nat.two_pow_pos k)
        have := (Nat.log2_lt z (k := 52)).2 (by omega)
        omega
      · have h1 := read_eq x
        rw [hm, if_neg c, if_pos hx] at h1
        injection h1 with _ h1 _
        have := (Nat.log2_lt z (k := 53)).2 (by omega)
        omega
    obtain ⟨t, ht⟩ : ∃ t, 52 + 2 + 52 - m.log2 = 52 + t := ⟨52 + 2 + 52 - m.log2 - 52, by omega⟩
    rw [ht, Nat.shiftLeft_eq, Nat.pow_add, show (2 : Nat) ^ 52 = 4503599627370496 by decide, Nat.mul_left_comm, Nat.mul_div_cancel_left _ (by omega), Nat.mul_mod_right]
    simp only [bne_self_eq_false, Bool.toNat_false, Nat.add_zero, Option.map_some, Bool.xor_false]
    have h := nearest_eq (sg x) (2 * (m * 2 ^ t)) k (t + 1)
    rw [show -1074 + (k : Int) - ((t + 1 : Nat) : Int) = -1074 + (k : Int) - -52 - ((52 + t : Nat) : Int) - 1 by omega] at h
    have hq := rq_mul (m * 2 ^ k) (t + 1) 0
    rw [Nat.zero_add] at hq
    show some (Ieee.double.nearest _ _ _) = _
    rw [h, show 2 * (m * 2 ^ t) * 2 ^ k = m * 2 ^ k * 2 ^ (t + 1) by rw [Nat.pow_succ, Nat.mul_assoc m, Nat.mul_comm (2 ^ k), ← Nat.mul_assoc m, ← Nat.mul_assoc m]; rw [Nat.mul_comm 2, Nat.mul_right_comm], hq, em]
end Fl
theorem run_some {op : BinOp} {a b x : Nat} (e : floatBits op .f64 a b = some x) : opR op a b x ∧ ∀ (t : TypeId) (w : World), (binOp op t (.float .f64 a) (.float .f64 b)).run Try.prog w = .ok (.float .f64 x) w :=
  ⟨⟨floatBits_lt0 e, Or.inl e⟩, fun t w => run_float_arith (P := Try.prog) w op t .f64 _ _ _ e⟩
/-- sums, differences, products of whole numbers -/
theorem w_add {c a b : Nat} {m n : Int} (hc : c = 1074) (ha : wI c a m) (hb : wI c b n) (hs : (m + n).natAbs ≤ 9007199254740992) : ∃ r, wI c r (m + n) ∧ ∀ (t : TypeId) (w : World), (binOp .add t (.float .f64 a) (.float .f64 b)).run Try.prog w = .ok (.float .f64 r) w := by
  obtain ⟨h1, h2⟩ := run_some (op := .add) (Fl.add_fin ha.2.1 hb.2.1)
  exact ⟨_, ha.add hc hb hs h1, h2⟩
theorem w_sub {c a b : Nat} {m n : Int} (hc : c = 1074) (ha : wI c a m) (hb : wI c b n) (hs : (m - n).natAbs ≤ 9007199254740992) : ∃ r, wI c r (m - n) ∧ ∀ (t : TypeId) (w : World), (binOp .sub t (.float .f64 a) (.float .f64 b)).run Try.prog w = .ok (.float .f64 r) w := by
  obtain ⟨h1, h2⟩ := run_some (op := .sub) (Fl.sub_fin hb.1 ha.2.1 hb.2.1)
  exact ⟨_, ha.sub hc hb hs h1, h2⟩
theorem w_mul {c a b : Nat} {m n : Int} (hc : c = 1074) (ha : wI c a m) (hb : wI c b n) (hs : (m * n).natAbs ≤ 9007199254740992) : ∃ r, wI c r (m * n) ∧ ∀ (t : TypeId) (w : World), (binOp .mul t (.float .f64 a) (.float .f64 b)).run Try.prog w = .ok (.float .f64 r) w := by
  obtain ⟨h1, h2⟩ := run_some (op := .mul) (Fl.mul_fin ha.2.1 hb.2.1)
  exact ⟨_, ha.mul hc hb hs h1, h2⟩
theorem one_vl : ∀ c, c = 1074 → Fl.vl 4607182418800017408 = 2 ^ c := by rintro _ rfl; decide +kernel
/-- the word of 1 -/
theorem w_one {c b : Nat} (hc : c = 1074) (h : wI c b 1) : b = 4607182418800017408 := by
  have hv : Fl.vl (Fl.rg b) = Fl.vl 4607182418800017408 := by rw [h.vl, one_vl c hc]; simp
  have hr := Fl.vl_inj.1 hv
  have hs := h.sign (by decide)
  rw [decide_eq_false (by decide)] at hs
  have := h.1
  unfold Fl.rg at hr
  unfold Fl.sg at hs
  have hs' := of_decide_eq_false hs
  omega
theorem w_quo {c a : Nat} {m : Int} (hc : c = 1074) (ha : wI c a m) (hs : m.natAbs ≤ 9007199254740992) : ∃ r, wI c r m ∧ ∀ (t : TypeId) (w : World), (binOp .quo t (.float .f64 a) (.float .f64 4607182418800017408)).run Try.prog w = .ok (.float .f64 r) w := by
  obtain ⟨h1, h2⟩ := run_some (op := .quo) (Fl.div_one ha.2.1)
  refine ⟨_, ?_, h2⟩
  rw [ha.vl]
  exact wI_of hc hs fun z => ha.sign z
theorem wI.nan {c x : Nat} {m : Int} (h : wI c x m) : Fl.nan x = false := by unfold Fl.nan; exact decide_eq_false (by have := h.2.1; omega)
theorem wI.fin {c x : Nat} {m : Int} (h : wI c x m) : Fl.finB x = true := by unfold Fl.finB; exact decide_eq_true h.2.1
theorem wI.ng {c x : Nat} {m : Int} (h : wI c x m) : wI c (Fl.ng x) (-m) := by
  refine ⟨Fl.ng_lt h.1, ?_, ?_⟩
  · rw [Fl.rg_ng x]; exact h.2.1
  · rw [Fl.val_ng h.1, h.2.2, Int.neg_mul]
theorem w_nought (c : Nat) : wI c 0 0 := by
  refine ⟨by decide, by decide, ?_⟩
  rw [Int.zero_mul]; decide
theorem w_unit {c : Nat} (hc : c = 1074) : wI c 4607182418800017408 1 := by
  refine ⟨by decide, by decide, ?_⟩
  have h := one_vl c hc
  have e : Fl.val 4607182418800017408 = (Fl.vl 4607182418800017408 : Nat) := by
    unfold Fl.val
    rw [show Fl.sg 4607182418800017408 = false by decide, if_neg (by decide), show Fl.rg 4607182418800017408 = 4607182418800017408 by decide]
  rw [e, h, Int.one_mul]
/-- whole numbers up to 2^40 are within it -/
theorem real_vl : ∀ c, c = 1074 → Fl.vl 4787326403894837248 = 1099511627776 * 2 ^ c := by rintro _ rfl; decide +kernel
theorem wI.within {c x : Nat} {m : Int} (hc : c = 1074) (h : wI c x m) (hm : m.natAbs ≤ 1099511627776) : Fl.withinB x 4787326403894837248 = true := by
  unfold Fl.withinB
  rw [h.nan, show Fl.nan 4787326403894837248 = false by decide, show Fl.key 4787326403894837248 = 4787326403894837248 by decide]
  simp only [Bool.not_false, Bool.true_and]
  refine decide_eq_true ?_
  have : Fl.rg x ≤ 4787326403894837248 := by
    rcases Nat.lt_or_ge 4787326403894837248 (Fl.rg x) with k | k
    · have := Fl.vl_mono k
      rw [h.vl, real_vl c hc] at this
      have := Nat.lt_of_mul_lt_mul_right this
      omega
    · exact k
  omega
/-- a complex number is the whole number g -/
def wC (c x y : Nat) (g : Py.G) : Prop := wI c x g.1 ∧ wI c y g.2
theorem wC.nought (c : Nat) : wC c 0 0 (0, 0) := ⟨w_nought c, w_nought c⟩
theorem wC.one {c : Nat} (hc : c = 1074) : wC c 4607182418800017408 0 (1, 0) := ⟨w_unit hc, w_nought c⟩
theorem csum_run8 {op : BinOp} (hop : op = .add ∨ op = .sub) {a b c d x y : Nat} {P : Program} {w w1 w2 : World} (e1 : ∀ t, (binOp op t (.float .f64 a) (.float .f64 c)).run P w = .ok (.float .f64 x) w1) (e2 : ∀ t, (binOp op t (.float .f64 b) (.float .f64 d)).run P w1 = .ok (.float .f64 y) w2) (t : TypeId) : (binOp op t (.complex .f64 a b) (.complex .f64 c d)).run P w = .ok (.complex .f64 x y) w2 := by
  rcases hop with rfl | rfl
  · have k1 : (Op.floatArith .add .f64 a c).run P w = .ok (.float .f64 x) w1 := e1 0
    have k2 : (Op.floatArith .add .f64 b d).run P w1 = .ok (.float .f64 y) w2 := e2 0
    simp [binOp, Op.complexOp, Op.Complex.arith, k1, k2]
  · have k1 : (Op.floatArith .sub .f64 a c).run P w = .ok (.float .f64 x) w1 := e1 0
    have k2 : (Op.floatArith .sub .f64 b d).run P w1 = .ok (.float .f64 y) w2 := e2 0
    simp [binOp, Op.complexOp, Op.Complex.arith, k1, k2]
theorem c_add {c x y u v M K : Nat} {g h : Py.G} (hc : c = 1074) (hg : wC c x y g) (hh : wC c u v h) (lg : Py.Le g M) (lh : Py.Le h K) (hs : M + K ≤ 9007199254740992) : ∃ r s, wC c r s (Py.ga g h) ∧ ∀ (t : TypeId) (w : World), (binOp .add t (.complex .f64 x y) (.complex .f64 u v)).run Try.prog w = .ok (.complex .f64 r s) w := by
  obtain ⟨b1, b2⟩ := (lg.add lh).one
  obtain ⟨r, hr, e1⟩ := w_add hc hg.1 hh.1 (Nat.le_trans b1 hs)
  obtain ⟨s, hs', e2⟩ := w_add hc hg.2 hh.2 (Nat.le_trans b2 hs)
  exact ⟨r, s, ⟨hr, hs'⟩, fun t w => csum_run8 (Or.inl rfl) (fun t => e1 t w) (fun t => e2 t w) t⟩
theorem c_sub {c x y u v M K : Nat} {g h : Py.G} (hc : c = 1074) (hg : wC c x y g) (hh : wC c u v h) (lg : Py.Le g M) (lh : Py.Le h K) (hs : M + K ≤ 9007199254740992) : ∃ r s, wC c r s (Py.gs g h) ∧ ∀ (t : TypeId) (w : World), (binOp .sub t (.complex .f64 x y) (.complex .f64 u v)).run Try.prog w = .ok (.complex .f64 r s) w := by
  obtain ⟨b1, b2⟩ := (lg.sub lh).one
  obtain ⟨r, hr, e1⟩ := w_sub hc hg.1 hh.1 (Nat.le_trans b1 hs)
  obtain ⟨s, hs', e2⟩ := w_sub hc hg.2 hh.2 (Nat.le_trans b2 hs)
  exact ⟨r, s, ⟨hr, hs'⟩, fun t w => csum_run8 (Or.inr rfl) (fun t => e1 t w) (fun t => e2 t w) t⟩
theorem pmul8 {c x y u v M K : Nat} {g h : Py.G} (hc : c = 1074) (hg : wC c x y g) (hh : wC c u v h) (lg : Py.Le g M) (lh : Py.Le h K) (hs : M * K ≤ 9007199254740992) : ∃ r s, wC c r s (Py.gm g h) ∧ ∀ w, Calls Try.prog 23 #[.complex .f64 x y, .complex .f64 u v] w fun e w' => e = .returned (.complex .f64 r s) ∧ w' = w := by
  obtain ⟨b1, b2, b3, b4⟩ := lg.prods lh
  obtain ⟨k1, k2⟩ := (lg.mul lh).one
  obtain ⟨p1, h1, e1⟩ := w_mul hc hg.1 hh.1 (Nat.le_trans b1 hs)
  obtain ⟨p2, h2, e2⟩ := w_mul hc hg.2 hh.2 (Nat.le_trans b2 hs)
  obtain ⟨p3, h3, e3⟩ := w_mul hc hg.1 hh.2 (Nat.le_trans b3 hs)
  obtain ⟨p4, h4, e4⟩ := w_mul hc hg.2 hh.1 (Nat.le_trans b4 hs)
  obtain ⟨r, h5, e5⟩ := w_sub hc h1 h2 (Nat.le_trans k1 hs)
  obtain ⟨s, h6, e6⟩ := w_add hc h3 h4 (Nat.le_trans k2 hs)
  refine ⟨r, s, ⟨h5, h6⟩, fun w => ?_⟩
  clear h1 h2 h3 h4 h5 h6 hg hh lg lh hs b1 b2 b3 b4 k1 k2
  go_enter Try.func23, Try.ntmps23
  go_wp2
  go_ret
  exact ⟨rfl, rfl⟩
end Go.Proofs.Ytmbjgakehghdjaa
