/-
  OWN TEXT: whole complex numbers as the program has them: sums, products, quotients by 1, tests.
-/
import Derived.Test.YtggphakliiodeaaGreatDoorJnAq
import Derived.Test.YtggphakliiodeaaGreatDoorJnAs
import Derived.Test.YtggphakliiodeaaGreatDoorJnAl
import Derived.Test.YtggphakliiodeaaGreatDoorJnAb
namespace Go.Proofs.YtggphakliiodeaaGreatDoor
open Go.ChangeShapes Go.WideShapes Go.ChangeAt Go.RowKit
set_option linter.unusedVariables false
attribute [local go_sem] frombits_call tobits_call run_neg
namespace Fl
theorem div_one {x : Nat} (hx : rg x < 9218868437227405312) : Ieee.double.div x 4607182418800017408 = some (wd (sg x) (rq (vl (rg x)) 0)) := by
  obtain ⟨m, k, hm, em⟩ := read_fin hx
  have r2 : Ieee.double.read 4607182418800017408 = .number false 4503599627370496 (-52) := rfl
  unfold Ieee.Format.div
  rw [hm, r2]
  unfold Ieee.Datum.quotient
  simp only []
  rw [if_neg (by omega), show (4503599627370496 : Nat).log2 = 52 by decide]
  have hfb : Ieee.double.fractionBits = 52 := rfl
  rw [hfb]
  by_cases z : m = 0
  · subst z
    have hv : vl (rg x) = 0 := by rw [← em, Nat.zero_mul]
    rw [hv, show Nat.log2 0 = 0 from rfl, Nat.zero_shiftLeft]
    simp only [Nat.zero_div, Nat.zero_mod, Nat.mul_zero, Option.map_some]
    rw [Bool.xor_false, show rq 0 0 = 0 from rfl]
    show some (Ieee.double.nearest (sg x) 0 _) = _
    unfold Ieee.Format.nearest
    rw [if_pos rfl]
    cases sg x <;> rfl
  · have hml : m.log2 ≤ 53 := by
      by_cases c : rg x < 4503599627370496
      · have h1 : m * 2 ^ k < 4503599627370496 := by rw [em, vl_small c]; exact c
        have h2 : m ≤ m * 2 ^ k := Nat.le_mul_of_pos_right m (Nat.two_pow_pos k)
        have := (Nat.log2_lt z (k := 52)).2 (by omega)
        omega
      · have h1 := read_eq x
        rw [hm, if_neg c, if_pos hx] at h1
        injection h1 with _ h1 _
        have := (Nat.log2_lt z (k := 53)).2 (by omega)
        omega
    obtain ⟨t, ht⟩ : ∃ t, 52 + 2 + 52 - m.log2 = 52 + t := ⟨52 + 2 + 52 - m.log2 - 52, by omega⟩
    rw [ht, Nat.shiftLeft_eq, Nat.pow_add, show (2 : Nat) ^ 52 = 4503599627370496 by decide, Nat.mul_left_comm, Nat.mul_div_cancel_left _ (by omega), Nat.mul_mod_right]
    simp only [bne_self_eq_false, Bool.toNat_false, Nat.add_zero, Option.map_some, Bool.xor_false]
    have h := nearest_eq (sg x) (2 * (m * 2 ^ t)) k (t + 1)
    rw [show -1074 + (k : Int) - ((t + 1 : Nat) : Int) = -1074 + (k : Int) - -52 - ((52 + t : Nat) : Int) - 1 by omega] at h
    have hq := rq_mul (m * 2 ^ k) (t + 1) 0
    rw [Nat.zero_add] at hq
    show some (Ieee.double.nearest _ _ _) = _
    rw [h, show 2 * (m * 2 ^ t) * 2 ^ k = m * 2 ^ k * 2 ^ (t + 1) by rw [Nat.pow_succ, Nat.mul_assoc m, Nat.mul_comm (2 ^ k), ← Nat.mul_assoc m, ← Nat.mul_assoc m]; rw [Nat.mul_comm 2, Nat.mul_right_comm], hq, em]
end Fl
theorem run_some {op : BinOp} {a b x : Nat} (e : floatBits op .f64 a b = some x) : opR op a b x ∧ ∀ (t : TypeId) (w : World), (binOp op t (.float .f64 a) (.float .f64 b)).run Tryz.prog w = .ok (.float .f64 x) w :=
  ⟨⟨floatBits_lt0 e, Or.inl e⟩, fun t w => run_float_arith (P := Tryz.prog) w op t .f64 _ _ _ e⟩
/-- sums, differences, products of whole numbers -/
theorem w_add {c a b : Nat} {m n : Int} (hc : c = 1074) (ha : wI c a m) (hb : wI c b n) (hs : (m + n).natAbs ≤ 9007199254740992) : ∃ r, wI c r (m + n) ∧ ∀ (t : TypeId) (w : World), (binOp .add t (.float .f64 a) (.float .f64 b)).run Tryz.prog w = .ok (.float .f64 r) w := by
  obtain ⟨h1, h2⟩ := run_some (op := .add) (Fl.add_fin ha.2.1 hb.2.1)
  exact ⟨_, ha.add hc hb hs h1, h2⟩
theorem w_sub {c a b : Nat} {m n : Int} (hc : c = 1074) (ha : wI c a m) (hb : wI c b n) (hs : (m - n).natAbs ≤ 9007199254740992) : ∃ r, wI c r (m - n) ∧ ∀ (t : TypeId) (w : World), (binOp .sub t (.float .f64 a) (.float .f64 b)).run Tryz.prog w = .ok (.float .f64 r) w := by
  obtain ⟨h1, h2⟩ := run_some (op := .sub) (Fl.sub_fin hb.1 ha.2.1 hb.2.1)
  exact ⟨_, ha.sub hc hb hs h1, h2⟩
theorem w_mul {c a b : Nat} {m n : Int} (hc : c = 1074) (ha : wI c a m) (hb : wI c b n) (hs : (m * n).natAbs ≤ 9007199254740992) : ∃ r, wI c r (m * n) ∧ ∀ (t : TypeId) (w : World), (binOp .mul t (.float .f64 a) (.float .f64 b)).run Tryz.prog w = .ok (.float .f64 r) w := by
  obtain ⟨h1, h2⟩ := run_some (op := .mul) (Fl.mul_fin ha.2.1 hb.2.1)
  exact ⟨_, ha.mul hc hb hs h1, h2⟩
theorem one_vl : ∀ c, c = 1074 → Fl.vl 4607182418800017408 = 2 ^ c := by rintro _ rfl; decide +kernel
/-- the word of 1 -/
theorem w_one {c b : Nat} (hc : c = 1074) (h : wI c b 1) : b = 4607182418800017408 := by
  have hv : Fl.vl (Fl.rg b) = Fl.vl 4607182418800017408 := by rw [h.vl, one_vl c hc]; simp
  have hr := Fl.vl_inj.1 hv
  have hs := h.sign (by decide)
  rw [decide_eq_false (by decide)] at hs
  have := h.1
  unfold Fl.rg at hr
  unfold Fl.sg at hs
  have hs' := of_decide_eq_false hs
  omega
theorem w_quo {c a : Nat} {m : Int} (hc : c = 1074) (ha : wI c a m) (hs : m.natAbs ≤ 9007199254740992) : ∃ r, wI c r m ∧ ∀ (t : TypeId) (w : World), (binOp .quo t (.float .f64 a) (.float .f64 4607182418800017408)).run Tryz.prog w = .ok (.float .f64 r) w := by
  obtain ⟨h1, h2⟩ := run_some (op := .quo) (Fl.div_one ha.2.1)
  refine ⟨_, ?_, h2⟩
  rw [ha.vl]
  exact wI_of hc hs fun z => ha.sign z
theorem wI.nan {c x : Nat} {m : Int} (h : wI c x m) : Fl.nan x = false := by unfold Fl.nan; exact decide_eq_false (by have := h.2.1; omega)
theorem wI.fin {c x : Nat} {m : Int} (h : wI c x m) : Fl.finB x = true := by unfold Fl.finB; exact decide_eq_true h.2.1
theorem wI.ng {c x : Nat} {m : Int} (h : wI c x m) : wI c (Fl.ng x) (-m) := by
  refine ⟨Fl.ng_lt h.1, ?_, ?_⟩
  · rw [Fl.rg_ng x]; exact h.2.1
  · rw [Fl.val_ng h.1, h.2.2, Int.neg_mul]
theorem w_nought (c : Nat) : wI c 0 0 := by
  refine ⟨by decide, by decide, ?_⟩
  rw [Int.zero_mul]; decide
theorem w_unit {c : Nat} (hc : c = 1074) : wI c 4607182418800017408 1 := by
  refine ⟨by decide, by decide, ?_⟩
  have h := one_vl c hc
  have e : Fl.val 4607182418800017408 = (Fl.vl 4607182418800017408 : Nat) := by
    unfold Fl.val
    rw [show Fl.sg 4607182418800017408 = false by decide, if_neg (by decide), show Fl.rg 4607182418800017408 = 4607182418800017408 by decide]
  rw [e, h, Int.one_mul]
/-- whole numbers up to 2^40 are within it -/
theorem real_vl : ∀ c, c = 1074 → Fl.vl 4787326403894837248 = 1099511627776 * 2 ^ c := by rintro _ rfl; decide +kernel
theorem wI.within {c x : Nat} {m : Int} (hc : c = 1074) (h : wI c x m) (hm : m.natAbs ≤ 1099511627776) : Fl.withinB x 4787326403894837248 = true := by
  unfold Fl.withinB
  rw [h.nan, show Fl.nan 4787326403894837248 = false by decide, show Fl.key 4787326403894837248 = 4787326403894837248 by decide]
  simp only [Bool.not_false, Bool.true_and]
  refine decide_eq_true ?_
  have : Fl.rg x ≤ 4787326403894837248 := by
    rcases Nat.lt_or_ge 4787326403894837248 (Fl.rg x) with k | k
    · have := Fl.vl_mono k
      rw [h.vl, real_vl c hc] at this
      have := Nat.lt_of_mul_lt_mul_right this
      omega
    · exact k
  omega
/-- a complex number is the whole number g -/
def wC (c x y : Nat) (g : Py.G) : Prop := wI c x g.1 ∧ wI c y g.2
theorem wC.nought (c : Nat) : wC c 0 0 (0, 0) := ⟨w_nought c, w_nought c⟩
theorem wC.one {c : Nat} (hc : c = 1074) : wC c 4607182418800017408 0 (1, 0) := ⟨w_unit hc, w_nought c⟩
theorem csum_run8 {op : BinOp} (hop : op = .add ∨ op = .sub) {a b c d x y : Nat} {P : Program} {w w1 w2 : World} (e1 : ∀ t, (binOp op t (.float .f64 a) (.float .f64 c)).run P w = .ok (.float .f64 x) w1) (e2 : ∀ t, (binOp op t (.float .f64 b) (.float .f64 d)).run P w1 = .ok (.float .f64 y) w2) (t : TypeId) : (binOp op t (.complex .f64 a b) (.complex .f64 c d)).run P w = .ok (.complex .f64 x y) w2 := by
  rcases hop with rfl | rfl
  · have k1 : (Op.floatArith .add .f64 a c).run P w = .ok (.float .f64 x) w1 := e1 0
    have k2 : (Op.floatArith .add .f64 b d).run P w1 = .ok (.float .f64 y) w2 := e2 0
    simp [binOp, Op.complexOp, Op.Complex.arith, k1, k2]
  · have k1 : (Op.floatArith .sub .f64 a c).run P w = .ok (.float .f64 x) w1 := e1 0
    have k2 : (Op.floatArith .sub .f64 b d).run P w1 = .ok (.float .f64 y) w2 := e2 0
    simp [binOp, Op.complexOp, Op.Complex.arith, k1, k2]
theorem c_add {c x y u v M K : Nat} {g h : Py.G} (hc : c = 1074) (hg : wC c x y g) (hh : wC c u v h) (lg : Py.Le g M) (lh : Py.Le h K) (hs : M + K ≤ 9007199254740992) : ∃ r s, wC c r s (Py.ga g h) ∧ ∀ (t : TypeId) (w : World), (binOp .add t (.complex .f64 x y) (.complex .f64 u v)).run Tryz.prog w = .ok (.complex .f64 r s) w := by
  obtain ⟨b1, b2⟩ := (lg.add lh).one
  obtain ⟨r, hr, e1⟩ := w_add hc hg.1 hh.1 (Nat.le_trans b1 hs)
  obtain ⟨s, hs', e2⟩ := w_add hc hg.2 hh.2 (Nat.le_trans b2 hs)
  exact ⟨r, s, ⟨hr, hs'⟩, fun t w => csum_run8 (Or.inl rfl) (fun t => e1 t w) (fun t => e2 t w) t⟩
theorem c_sub {c x y u v M K : Nat} {g h : Py.G} (hc : c = 1074) (hg : wC c x y g) (hh : wC c u v h) (lg : Py.Le g M) (lh : Py.Le h K) (hs : M + K ≤ 9007199254740992) : ∃ r s, wC c r s (Py.gs g h) ∧ ∀ (t : TypeId) (w : World), (binOp .sub t (.complex .f64 x y) (.complex .f64 u v)).run Tryz.prog w = .ok (.complex .f64 r s) w := by
  obtain ⟨b1, b2⟩ := (lg.sub lh).one
  obtain ⟨r, hr, e1⟩ := w_sub hc hg.1 hh.1 (Nat.le_trans b1 hs)
  obtain ⟨s, hs', e2⟩ := w_sub hc hg.2 hh.2 (Nat.le_trans b2 hs)
  exact ⟨r, s, ⟨hr, hs'⟩, fun t w => csum_run8 (Or.inr rfl) (fun t => e1 t w) (fun t => e2 t w) t⟩
theorem padd8 {c x y u v M K : Nat} {g h : Py.G} (hc : c = 1074) (hg : wC c x y g) (hh : wC c u v h) (lg : Py.Le g M) (lh : Py.Le h K) (hs : M + K ≤ 9007199254740992) : ∃ r s, wC c r s (Py.ga g h) ∧ ∀ w, Calls Tryz.prog 51 #[.complex .f64 x y, .complex .f64 u v] w fun e w' => e = .returned (.complex .f64 r s) ∧ w' = w := by
  obtain ⟨r, s, hrs, e⟩ := c_add hc hg hh lg lh hs
  refine ⟨r, s, hrs, fun w => ?_⟩
  clear hrs hg hh lg lh hs
  go_enter Tryz.func51, Tryz.ntmps51
  go_wp2
  go_ret
  exact ⟨rfl, rfl⟩
theorem pmul8 {c x y u v M K : Nat} {g h : Py.G} (hc : c = 1074) (hg : wC c x y g) (hh : wC c u v h) (lg : Py.Le g M) (lh : Py.Le h K) (hs : M * K ≤ 9007199254740992) : ∃ r s, wC c r s (Py.gm g h) ∧ ∀ w, Calls Tryz.prog 46 #[.complex .f64 x y, .complex .f64 u v] w fun e w' => e = .returned (.complex .f64 r s) ∧ w' = w := by
  obtain ⟨b1, b2, b3, b4⟩ := lg.prods lh
  obtain ⟨k1, k2⟩ := (lg.mul lh).one
  obtain ⟨p1, h1, e1⟩ := w_mul hc hg.1 hh.1 (Nat.le_trans b1 hs)
  obtain ⟨p2, h2, e2⟩ := w_mul hc hg.2 hh.2 (Nat.le_trans b2 hs)
  obtain ⟨p3, h3, e3⟩ := w_mul hc hg.1 hh.2 (Nat.le_trans b3 hs)
  obtain ⟨p4, h4, e4⟩ := w_mul hc hg.2 hh.1 (Nat.le_trans b4 hs)
  obtain ⟨r, h5, e5⟩ := w_sub hc h1 h2 (Nat.le_trans k1 hs)
  obtain ⟨s, h6, e6⟩ := w_add hc h3 h4 (Nat.le_trans k2 hs)
  refine ⟨r, s, ⟨h5, h6⟩, fun w => ?_⟩
  clear h1 h2 h3 h4 h5 h6 hg hh lg lh hs b1 b2 b3 b4 k1 k2
  go_enter Tryz.func46, Tryz.ntmps46
  go_wp2
  go_ret
  exact ⟨rfl, rfl⟩
end Go.Proofs.YtggphakliiodeaaGreatDoor
/-
  OWN TEXT: package parts: signs turned (parts.turned, Conj, Neg, Mirror, Times), for every number.
-/
namespace Go.Proofs.YtggphakliiodeaaGreatDoor
open Go.ChangeShapes Go.WideShapes Go.ChangeAt Go.RowKit
set_option linter.unusedVariables false
attribute [local go_sem] frombits_call tobits_call run_neg
theorem xor_sign {x : Nat} (h : x < 18446744073709551616) : bits .xor .u64 (x : Int) 9223372036854775808 = ((Fl.ng x : Nat) : Int) := by
  have e := u64_xor_nat x 9223372036854775808 h (by omega)
  rw [show ((9223372036854775808 : Nat) : Int) = 9223372036854775808 from rfl] at e
  rw [e, ← Fl.neg_eq h]
  rfl
theorem turned_any (x : Nat) (w : World) (hx : x < 18446744073709551616) : Calls Tryz.prog 86 #[.float .f64 x] w fun e w' => e = .returned (.float .f64 (Fl.ng x)) ∧ w' = w := by
  have k := xor_sign hx
  go_enter Tryz.func86, Tryz.ntmps86
  go_wp2
  go_ret
  exact ⟨rfl, rfl⟩
theorem neg2_any (x y : Nat) (w : World) (hx : x < 18446744073709551616) (hy : y < 18446744073709551616) : Calls Tryz.prog 45 #[.complex .f64 x y] w fun e w' => e = .returned (.complex .f64 (Fl.ng x) (Fl.ng y)) ∧ w' = w := by
  have T : Hid (∀ wz, Calls Tryz.prog 86 #[.float .f64 x] wz fun e w' => e = .returned (.float .f64 (Fl.ng x)) ∧ w' = wz) := fun wz => turned_any x wz hx
  have U : Hid (∀ wz, Calls Tryz.prog 86 #[.float .f64 y] wz fun e w' => e = .returned (.float .f64 (Fl.ng y)) ∧ w' = wz) := fun wz => turned_any y wz hy
  generalize Fl.ng x = z at *
  generalize Fl.ng y = v at *
  go_enter Tryz.func45, Tryz.ntmps45
  go_wp2_with fail
  refine (T.out _).mono ?_
  rintro e' w ⟨rfl, rfl⟩
  go_wp2_with fail
  refine (U.out _).mono ?_
  rintro e' w ⟨rfl, rfl⟩
  go_wp2
  go_ret
  exact ⟨rfl, rfl⟩
end Go.Proofs.YtggphakliiodeaaGreatDoor
/-
  OWN TEXT: whole complex numbers as the program has them: signs, quotients by 1, tests; package poly's tests of one number.
-/
namespace Go.Proofs.YtggphakliiodeaaGreatDoor
open Go.ChangeShapes Go.WideShapes Go.ChangeAt Go.RowKit
set_option linter.unusedVariables false
attribute [local go_sem] frombits_call tobits_call run_neg
theorem pneg8 {c x y : Nat} {g : Py.G} (hg : wC c x y g) : ∃ r s, wC c r s (Py.gn g) ∧ ∀ w, Calls Tryz.prog 45 #[.complex .f64 x y] w fun e w' => e = .returned (.complex .f64 r s) ∧ w' = w :=
  ⟨_, _, ⟨hg.1.ng, hg.2.ng⟩, fun w => neg2_any x y w hg.1.1 hg.2.1⟩
/-- like, of two floats -/
theorem wI.like {c a b : Nat} {m n : Int} (ha : wI c a m) (hb : wI c b n) (h : Fl.eqF a b = false) : Fl.sameB a b = false := by
  rw [ha.eq hb] at h
  have hne := of_decide_eq_false h
  unfold Fl.sameB
  rw [ha.nan, hb.nan]
  simp only [Bool.and_false, Bool.false_or]
  have : a ≠ b := by
    rintro rfl
    have h1 := ha.2.2
    rw [hb.2.2] at h1
    have hp : (0 : Int) < ((2 ^ c : Nat) : Int) := by have := Nat.two_pow_pos c; omega
    exact hne (Int.eq_of_mul_eq_mul_right (by omega) h1).symm
  simp [this]
theorem alike8 {c a b : Nat} {m n : Int} (ha : wI c a m) (hb : wI c b n) (w : World) : Calls Tryz.prog 90 #[.float .f64 a, .float .f64 b] w fun e w' => e = .returned (.bool (decide (m = n))) ∧ w' = w := by
  have o := Fl.o_eq a b
  rw [ha.eq hb] at o
  by_cases k : m = n
  · rw [decide_eq_true k] at o ⊢
    clear k ha hb
    go_enter Tryz.func90, Tryz.ntmps90
    go_wp2
    go_ret
    exact ⟨rfl, rfl⟩
  · have s := ha.like hb (by rw [ha.eq hb]; exact decide_eq_false k)
    rw [decide_eq_false k] at o ⊢
    have S : Hid (∀ wz, Calls Tryz.prog 119 #[.float .f64 a, .float .f64 b] wz fun e w' => e = .returned (.bool false) ∧ w' = wz) := fun wz => by have q := same_any a b wz; rw [s] at q; exact q
    clear k ha hb s
    go_enter Tryz.func90, Tryz.ntmps90
    go_wp2_with fail
    refine (S.out _).mono ?_
    rintro e' w ⟨rfl, rfl⟩
    go_wp2
    go_ret
    exact ⟨rfl, rfl⟩
theorem g_eq (g h : Py.G) : decide (g = h) = (decide (g.1 = h.1) && decide (g.2 = h.2)) := by
  by_cases k : g = h
  · subst k; simp
  · rw [decide_eq_false k]
    by_cases k1 : g.1 = h.1
    · by_cases k2 : g.2 = h.2
      · exact absurd (Py.gext k1 k2) k
      · simp [k2]
    · simp [k1]
theorem plike8 {c x y u v : Nat} {g h : Py.G} (hg : wC c x y g) (hh : wC c u v h) (w : World) : Calls Tryz.prog 52 #[.complex .f64 x y, .complex .f64 u v] w fun e w' => e = .returned (.bool (decide (g = h))) ∧ w' = w := by
  rw [g_eq]
  have A1 : Hid (∀ wz, Calls Tryz.prog 90 #[.float .f64 x, .float .f64 u] wz fun e w' => e = .returned (.bool (decide (g.1 = h.1))) ∧ w' = wz) := fun wz => alike8 hg.1 hh.1 wz
  have A2 : Hid (∀ wz, Calls Tryz.prog 90 #[.float .f64 y, .float .f64 v] wz fun e w' => e = .returned (.bool (decide (g.2 = h.2))) ∧ w' = wz) := fun wz => alike8 hg.2 hh.2 wz
  generalize decide (g.1 = h.1) = p at *
  generalize decide (g.2 = h.2) = q at *
  clear hg hh
  cases p
  · go_enter Tryz.func52, Tryz.ntmps52
    go_wp2_with fail
    refine (A1.out _).mono ?_
    rintro e' w ⟨rfl, rfl⟩
    go_wp2
    go_ret
    exact ⟨rfl, rfl⟩
  · go_enter Tryz.func52, Tryz.ntmps52
    go_wp2_with fail
    refine (A1.out _).mono ?_
    rintro e' w ⟨rfl, rfl⟩
    go_wp2_with fail
    refine (A2.out _).mono ?_
    rintro e' w ⟨rfl, rfl⟩
    go_wp2
    go_ret
    exact ⟨by cases q <;> rfl, rfl⟩
theorem pwithin8 {c x y : Nat} {g : Py.G} (hc : c = 1074) (hg : wC c x y g) (hl : Py.Le g 1099511627776) (w : World) : Calls Tryz.prog 44 #[.complex .f64 x y] w fun e w' => e = .returned (.bool true) ∧ w' = w := by
  have A1 : Hid (∀ wz, Calls Tryz.prog 92 #[.float .f64 x, .float .f64 4787326403894837248] wz fun e w' => e = .returned (.bool true) ∧ w' = wz) := fun wz => by have q := within_any x 4787326403894837248 wz hg.1.1; rw [hg.1.within hc hl.one.1] at q; exact q
  have A2 : Hid (∀ wz, Calls Tryz.prog 92 #[.float .f64 y, .float .f64 4787326403894837248] wz fun e w' => e = .returned (.bool true) ∧ w' = wz) := fun wz => by have q := within_any y 4787326403894837248 wz hg.2.1; rw [hg.2.within hc hl.one.2] at q; exact q
  clear hg hl
  have P : Hid (∀ wz, Calls Tryz.prog 85 #[.complex .f64 x y, .float .f64 4787326403894837248] wz fun e w' => e = .returned (.bool true) ∧ w' = wz) := by
    intro wz
    go_enter Tryz.func85, Tryz.ntmps85
    go_wp2_with fail
    refine (A1.out _).mono ?_
    rintro e' w ⟨rfl, rfl⟩
    go_wp2_with fail
    refine (A2.out _).mono ?_
    rintro e' w ⟨rfl, rfl⟩
    go_wp2
    go_ret
    exact ⟨rfl, rfl⟩
  clear A1 A2
  go_enter Tryz.func44, Tryz.ntmps44
  go_wp2_with fail
  refine (P.out _).mono ?_
  rintro e' w ⟨rfl, rfl⟩
  go_wp2
  go_ret
  exact ⟨rfl, rfl⟩
theorem pfinite8 {c x y : Nat} {g : Py.G} (hg : wC c x y g) (w : World) : Calls Tryz.prog 21 #[.complex .f64 x y] w fun e w' => e = .returned (.bool true) ∧ w' = w := by
  have A1 : Hid (∀ wz, Calls Tryz.prog 54 #[.float .f64 x] wz fun e w' => e = .returned (.bool true) ∧ w' = wz) := fun wz => by have q := finite_any x wz hg.1.1; rw [hg.1.fin] at q; exact q
  have A2 : Hid (∀ wz, Calls Tryz.prog 54 #[.float .f64 y] wz fun e w' => e = .returned (.bool true) ∧ w' = wz) := fun wz => by have q := finite_any y wz hg.2.1; rw [hg.2.fin] at q; exact q
  clear hg
  go_enter Tryz.func21, Tryz.ntmps21
  go_wp2_with fail
  refine (A1.out _).mono ?_
  rintro e' w ⟨rfl, rfl⟩
  go_wp2_with fail
  refine (A2.out _).mono ?_
  rintro e' w ⟨rfl, rfl⟩
  go_wp2
  go_ret
  exact ⟨rfl, rfl⟩
theorem isnought8 {c x y : Nat} {g : Py.G} (hg : wC c x y g) (w : World) : Calls Tryz.prog 47 #[.complex .f64 x y] w fun e w' => e = .returned (.bool (decide (g = (0, 0)))) ∧ w' = w := by
  have P : Hid (∀ wz, Calls Tryz.prog 52 #[.complex .f64 x y, .complex .f64 0 0] wz fun e w' => e = .returned (.bool (decide (g = (0, 0)))) ∧ w' = wz) := fun wz => plike8 hg (wC.nought c) wz
  clear hg
  generalize decide (g = (0, 0)) = p at *
  go_enter Tryz.func47, Tryz.ntmps47
  go_wp2_with fail
  refine (P.out _).mono ?_
  rintro e' w ⟨rfl, rfl⟩
  go_wp2
  go_ret
  exact ⟨rfl, rfl⟩
/-- by 1, with a nought of either sign beside it -/
theorem pdiv8 {c x y u v M : Nat} {g : Py.G} (hc : c = 1074) (hg : wC c x y g) (hh : wC c u v (1, 0)) (lg : Py.Le g M) (hs : M ≤ 9007199254740992) : ∃ r s, wC c r s g ∧ ∀ w, Calls Tryz.prog 20 #[.complex .f64 x y, .complex .f64 u v] w fun e w' => e = .returned (.complex .f64 r s) ∧ w' = w := by
  have hu := w_one hc hh.1
  subst hu
  obtain ⟨b1, b2⟩ := lg.one
  have hv := hh.2
  obtain ⟨k, hk, e1⟩ := w_quo hc hv (by decide)
  obtain ⟨t0, h2, e2⟩ := w_mul hc hv hk (by decide)
  obtain ⟨t, h3, e3⟩ := w_add hc hh.1 h2 (by decide)
  have ht := w_one hc h3
  subst ht
  obtain ⟨q1, h4, e4⟩ := w_mul hc hg.2 hk (by rw [Int.mul_zero]; decide)
  obtain ⟨q2, h5, e5⟩ := w_add hc hg.1 h4 (by rw [Int.mul_zero, Int.add_zero]; omega)
  obtain ⟨q3, h6, e6⟩ := w_mul hc hg.1 hk (by rw [Int.mul_zero]; decide)
  obtain ⟨q4, h7, e7⟩ := w_sub hc hg.2 h6 (by rw [Int.mul_zero, Int.sub_zero]; omega)
  rw [Int.mul_zero, Int.add_zero] at h5
  rw [Int.mul_zero, Int.sub_zero] at h7
  obtain ⟨r, h8, e8⟩ := w_quo hc h5 (by omega)
  obtain ⟨s, h9, e9⟩ := w_quo hc h7 (by omega)
  refine ⟨r, s, ⟨h8, h9⟩, fun w => ?_⟩
  have A1 : Hid (∀ wz, Calls Tryz.prog 53 #[.float .f64 4607182418800017408] wz fun e w' => e = .returned (.float .f64 4607182418800017408) ∧ w' = wz) := fun wz => abs_any 4607182418800017408 wz (by decide)
  have hz : Fl.rg v = 0 := by
    have h := hv.vl
    simp only [Int.natAbs_zero, Nat.zero_mul] at h
    exact Fl.vl_inj.1 (h.trans (show 0 = Fl.vl 0 by decide))
  have A2 : Hid (∀ wz, Calls Tryz.prog 53 #[.float .f64 v] wz fun e w' => e = .returned (.float .f64 0) ∧ w' = wz) := fun wz => by have q := abs_any v wz hv.1; rw [hz] at q; exact q
  clear hg hh lg hs hv hk h2 h3 h4 h5 h6 h7 h8 h9 b1 b2 hz
  go_enter Tryz.func20, Tryz.ntmps20
  go_wp2_with fail
  refine (A1.out _).mono ?_
  rintro e' w ⟨rfl, rfl⟩
  go_wp2_with fail
  refine (A2.out _).mono ?_
  rintro e' w ⟨rfl, rfl⟩
  go_wp2
  go_ret
  exact ⟨rfl, rfl⟩
end Go.Proofs.YtggphakliiodeaaGreatDoor
