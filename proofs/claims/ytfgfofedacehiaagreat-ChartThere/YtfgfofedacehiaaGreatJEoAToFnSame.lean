/-
 OWN TEXT: what an operation on two floats comes to, no numbers too; that like operands give like answers; the reference's odd sum.
-/
import Derived.Test.YtfgfofedacehiaaGreatJFnToFnStairs
import Derived.Test.YtfgfofedacehiaaGreatJFlCToFlG
import Derived.Below
namespace Go.Proofs.YtfgfofedacehiaaGreat
open Go.ChangeShapes Go.WideShapes Go.ChangeAt Go.RowKit
set_option linter.unusedVariables false
attribute [local go_sem] frombits_call tobits_call run_neg
/-- nothing that was there has turned -/
def Bw (w w' : World) : Prop := Below w.heap.size w w'
theorem Bw.refl (w : World) : Bw w w := Below.refl _ _
theorem Bw.drew {a b : World} (h : Bw a b) : Bw a b.drew := Below.drew h
theorem bw_trans {a b c : World} (h : Bw a b) (k : Bw b c) : Bw a c := Below.trans h (Below.mono k h.size)
/-- the four operations -/
def isOp (op : BinOp) : Prop := op = .add ∨ op = .sub ∨ op = .mul ∨ op = .quo
/-- x is what a and b come to -/
def opR (op : BinOp) (a b x : Nat) : Prop := x < 18446744073709551616 ∧ (floatBits op .f64 a b = some x ∨ (floatBits op .f64 a b = none ∧ Fl.nan x = true))
/-- alike: one float, or both no numbers -/
def simR (a b : Nat) : Prop := a = b ∨ (Fl.nan a = true ∧ Fl.nan b = true)
theorem simR.refl (a : Nat) : simR a a := Or.inl rfl
theorem simR.same {a b : Nat} (h : simR a b) : Fl.sameB a b = true := by
 rcases h with rfl | ⟨h1, h2⟩
 · unfold Fl.sameB; simp
 · unfold Fl.sameB; rw [h1, h2]; rfl
theorem nan_left (op : BinOp) (ho : isOp op) {a b : Nat} (h : Fl.nan a = true) : floatBits op .f64 a b = none := by
 have hr := Fl.read_nan (Fl.nan_lt h)
 rcases ho with rfl | rfl | rfl | rfl
 · show Ieee.double.add a b = none; unfold Ieee.Format.add; rw [hr]; rfl
 · show Ieee.double.sub a b = none; unfold Ieee.Format.sub; rw [hr]; rfl
 · show Ieee.double.mul a b = none; unfold Ieee.Format.mul; rw [hr]; rfl
 · show Ieee.double.div a b = none; unfold Ieee.Format.div; rw [hr]; rfl
theorem nan_right (op : BinOp) (ho : isOp op) {a b : Nat} (h : Fl.nan b = true) : floatBits op .f64 a b = none := by
 have hr := Fl.read_nan (Fl.nan_lt h)
 rcases ho with rfl | rfl | rfl | rfl
 · show Ieee.double.add a b = none; unfold Ieee.Format.add; rw [hr]; cases Ieee.double.read a <;> rfl
 · show Ieee.double.sub a b = none; unfold Ieee.Format.sub; rw [hr]; cases Ieee.double.read a <;> rfl
 · show Ieee.double.mul a b = none; unfold Ieee.Format.mul; rw [hr]; cases Ieee.double.read a <;> rfl
 · show Ieee.double.div a b = none; unfold Ieee.Format.div; rw [hr]; cases Ieee.double.read a <;> rfl
theorem opR.nan {op : BinOp} {a b x : Nat} (h : opR op a b x) (hn : floatBits op .f64 a b = none) : Fl.nan x = true := by
 rcases h.2 with e | e
 · rw [hn] at e; cases e
 · exact e.2
/-- like operands give like answers -/
theorem opR.sim {op : BinOp} (ho : isOp op) {a a' b b' x x' : Nat} (h : opR op a b x) (h' : opR op a' b' x') (ha : simR a a') (hb : simR b b') : simR x x' := by
 rcases ha with rfl | ⟨h1, h2⟩
 ·
  rcases hb with rfl | ⟨h1, h2⟩
  ·
   cases e : floatBits op .f64 a b with
   | none => exact Or.inr ⟨h.nan e, h'.nan e⟩
   | some z =>
    have k1 : z = x := by
     rcases h.2 with k | k
     · rw [e] at k; exact Option.some.inj k
     · rw [e] at k; cases k.1
    have k2 : z = x' := by
     rcases h'.2 with k | k
     · rw [e] at k; exact Option.some.inj k
     · rw [e] at k; cases k.1
    exact Or.inl (k1.symm.trans k2)
  · exact Or.inr ⟨h.nan (nan_right op ho h1), h'.nan (nan_right op ho h2)⟩
 · exact Or.inr ⟨h.nan (nan_left op ho h1), h'.nan (nan_left op ho h2)⟩
theorem floatBits_lt0 {op : BinOp} {x y r : Nat} (h : floatBits op .f64 x y = some r) : r < 18446744073709551616 := by
 have hw := floatBits_wf h
 simp only [Lit.wf] at hw
 exact of_decide_eq_true hw
/-- an operation runs: what it leaves, and the world (a draw at most) -/
theorem op_run (op : BinOp) (ho : isOp op) (a b : Nat) (w : World) : ∃ x w1, opR op a b x ∧ (∀ t, (binOp op t (.float .f64 a) (.float .f64 b)).run Tryz.prog w = .ok (.float .f64 x) w1) ∧ Bw w w1 := by
 cases e : floatBits op .f64 a b with
 | some z => exact ⟨z, w, ⟨floatBits_lt0 e, Or.inl e⟩, fun t => run_float_arith (P := Tryz.prog) w op t .f64 _ _ _ e, Bw.refl _⟩
 | none =>
  obtain ⟨z, hz, nz, e1⟩ := run_arith_none Tryz.prog op a b w ho e
  exact ⟨z, w.drew, ⟨hz, Or.inr ⟨e, nz⟩⟩, e1, (Bw.refl _).drew⟩
/-- the odd sum, behind i rounds -/
def oddQ (s : Nat) : Nat → Nat → Prop
 | 0, q => q = 4585925428558828667
 | i + 1, q' => ∃ q d p, oddQ s i q ∧ opR .quo 4607182418800017408 (floatOfInt .f64 (23 - 2 * (i : Int))) d ∧ opR .mul s q p ∧ opR .add d p q'
def oddR (f y : Nat) : Prop := ∃ s q a p r, opR .mul f f s ∧ oddQ s 11 q ∧ opR .mul 4611686018427387904 f a ∧ opR .mul s q p ∧ opR .mul a p r ∧ opR .add a r y
theorem oddQ.sim {s s' : Nat} (hs : simR s s') : ∀ (i q q' : Nat), oddQ s i q → oddQ s' i q' → simR q q'
 | 0, q, q', h, h' => Or.inl (Eq.trans h (Eq.symm h'))
 | i + 1, q, q', ⟨u, d, p, h1, h2, h3, h4⟩, ⟨u', d', p', k1, k2, k3, k4⟩ =>
  h4.sim (Or.inl rfl) k4 (h2.sim (Or.inr (Or.inr (Or.inr rfl))) k2 (simR.refl _) (simR.refl _)) (h3.sim (Or.inr (Or.inr (Or.inl rfl))) k3 hs (oddQ.sim hs i u u' h1 k1))
theorem oddR.sim {f f' y y' : Nat} (h : oddR f y) (k : oddR f' y') (hf : simR f f') : simR y y' := by
 obtain ⟨s, q, a, p, r, h1, h2, h3, h4, h5, h6⟩ := h
 obtain ⟨s', q', a', p', r', k1, k2, k3, k4, k5, k6⟩ := k
 have m : isOp .mul := Or.inr (Or.inr (Or.inl rfl))
 have es := h1.sim m k1 hf hf
 have eq := oddQ.sim es 11 q q' h2 k2
 have ea := h3.sim m k3 (simR.refl _) hf
 have ep := h4.sim m k4 es eq
 have er := h5.sim m k5 ea ep
 exact h6.sim (Or.inl rfl) k6 ea er
end Go.Proofs.YtfgfofedacehiaaGreat

/-
 OWN TEXT: floats that are whole numbers: their sums, differences, products are exact.
-/
namespace Go.Proofs.YtfgfofedacehiaaGreat
set_option linter.unusedVariables false
/-- the word x is the whole number n (a nought of either sign); c: the units of 1 -/
def wI (c x : Nat) (n : Int) : Prop := x < 18446744073709551616 ∧ Fl.rg x < 9218868437227405312 ∧ Fl.val x = n * ((2 ^ c : Nat) : Int)
theorem wI.lt {c x : Nat} {n : Int} (h : wI c x n) : x < 18446744073709551616 := h.1
theorem val_natAbs (x : Nat) : (Fl.val x).natAbs = Fl.vl (Fl.rg x) := by
 unfold Fl.val
 split <;> omega
theorem wI.vl {c x : Nat} {n : Int} (h : wI c x n) : Fl.vl (Fl.rg x) = n.natAbs * 2 ^ c := by
 rw [← val_natAbs, h.2.2, Int.natAbs_mul, Int.natAbs_natCast]
theorem small_log {k c : Nat} (hc : c = 1074) (hk : k ≤ 9007199254740992) : (k * 2 ^ c).log2 < 2098 := by
 by_cases z : k = 0
 · subst z; rw [Nat.zero_mul]; decide
 ·
  rw [Fl.log2_mul k c z]
  have : k.log2 < 54 := (Nat.log2_lt z).2 (by omega)
  omega
/-- a rounded whole number is that number -/
theorem wI_of {c : Nat} (hc : c = 1074) {s : Bool} {n : Int} (hn : n.natAbs ≤ 9007199254740992) (hs : n ≠ 0 → s = decide (n < 0)) : wI c (Fl.wd s (Fl.rq (n.natAbs * 2 ^ c) 0)) n := by
 obtain ⟨h1, h2⟩ := Fl.rq_rep (n.natAbs * 2 ^ c) ⟨n.natAbs, c, rfl, hn⟩ (small_log hc hn)
 have hl : Fl.rq (n.natAbs * 2 ^ c) 0 < 9223372036854775808 := by omega
 refine ⟨Fl.wd_lt _ _ hl, by rw [Fl.rg_wd _ _ hl]; exact h2, ?_⟩
 rw [Fl.val_wd _ _ hl, h1]
 by_cases z : n = 0
 · subst z; simp
 ·
  rw [hs z]
  by_cases q : n < 0
  ·
   rw [decide_eq_true q, if_pos rfl, Int.natCast_mul, ← Int.neg_mul]
   congr 1
   omega
  ·
   rw [decide_eq_false q, if_neg (by decide), Int.natCast_mul]
   congr 1
   omega
theorem op_some {op : BinOp} {a b x y : Nat} (h : opR op a b x) (e : floatBits op .f64 a b = some y) : x = y := by
 rcases h.2 with q | q
 · rw [e] at q; exact (Option.some.inj q).symm
 · rw [e] at q; cases q.1
theorem mul_sign {n : Int} {p : Nat} (hp : 0 < p) : (n * (p : Int) = 0 ↔ n = 0) ∧ (n * (p : Int) < 0 ↔ n < 0) := by
 have hp' : (0 : Int) < (p : Int) := by omega
 constructor
 · exact ⟨fun h => (Int.mul_eq_zero.1 h).resolve_right (by omega), fun h => by rw [h]; simp⟩
 ·
  constructor
  ·
   intro h
   by_cases c : n < 0
   · exact c
   ·
    have := Int.mul_nonneg (show 0 ≤ n by omega) (Int.le_of_lt hp')
    omega
  · intro h; exact Int.mul_neg_of_neg_of_pos h hp'
theorem wI.add {c a b r : Nat} {m n : Int} (hc : c = 1074) (ha : wI c a m) (hb : wI c b n) (hs : (m + n).natAbs ≤ 9007199254740992) (h : opR .add a b r) : wI c r (m + n) := by
 have e := Fl.add_fin ha.2.1 hb.2.1
 have hr := op_some h e
 rw [ha.2.2, hb.2.2, ← Int.add_mul, Int.natAbs_mul, Int.natAbs_natCast] at hr
 obtain ⟨k1, k2⟩ := mul_sign (n := m + n) (Nat.two_pow_pos c)
 rw [hr]
 refine wI_of hc hs fun z => ?_
 rw [if_neg (fun q => z (k1.1 q))]
 exact decide_eq_decide.2 k2
theorem wI.sub {c a b r : Nat} {m n : Int} (hc : c = 1074) (ha : wI c a m) (hb : wI c b n) (hs : (m - n).natAbs ≤ 9007199254740992) (h : opR .sub a b r) : wI c r (m - n) := by
 have e := Fl.sub_fin hb.1 ha.2.1 hb.2.1
 have hr := op_some h e
 rw [ha.2.2, hb.2.2, ← Int.sub_mul, Int.natAbs_mul, Int.natAbs_natCast] at hr
 obtain ⟨k1, k2⟩ := mul_sign (n := m - n) (Nat.two_pow_pos c)
 rw [hr]
 refine wI_of hc hs fun z => ?_
 rw [if_neg (fun q => z (k1.1 q))]
 exact decide_eq_decide.2 k2
theorem wI.sign {c a : Nat} {m : Int} (ha : wI c a m) (z : m ≠ 0) : Fl.sg a = decide (m < 0) := by
 have h := ha.2.2
 obtain ⟨k1, k2⟩ := mul_sign (n := m) (Nat.two_pow_pos c)
 unfold Fl.val at h
 cases q : Fl.sg a
 ·
  rw [q, if_neg (by decide)] at h
  have : ¬ m < 0 := by rw [← k2]; omega
  rw [decide_eq_false this]
 ·
  rw [q, if_pos rfl] at h
  have h0 : ¬ m * ((2 ^ c : Nat) : Int) = 0 := fun x => z (k1.1 x)
  have : m < 0 := by rw [← k2]; omega
  rw [decide_eq_true this]
theorem wI.mul {c a b r : Nat} {m n : Int} (hc : c = 1074) (ha : wI c a m) (hb : wI c b n) (hs : (m * n).natAbs ≤ 9007199254740992) (h : opR .mul a b r) : wI c r (m * n) := by
 have e := Fl.mul_fin ha.2.1 hb.2.1
 rw [← hc] at e
 have hr := op_some h e
 have hv : Fl.vl (Fl.rg a) * Fl.vl (Fl.rg b) = (m * n).natAbs * 2 ^ c * 2 ^ c := by
  rw [ha.vl, hb.vl, Int.natAbs_mul, Nat.mul_mul_mul_comm, Nat.mul_assoc (m.natAbs * n.natAbs)]
 have hq := Fl.rq_mul ((m * n).natAbs * 2 ^ c) c 0
 rw [Nat.zero_add] at hq
 rw [hv, hq] at hr
 rw [hr]
 refine wI_of hc hs fun z => ?_
 have zm : m ≠ 0 := fun q => z (by rw [q]; simp)
 have zn : n ≠ 0 := fun q => z (by rw [q]; simp)
 rw [ha.sign zm, hb.sign zn]
 by_cases q1 : m < 0 <;> by_cases q2 : n < 0
 · rw [decide_eq_true q1, decide_eq_true q2, decide_eq_false (by have := Int.mul_pos_of_neg_of_neg q1 q2; omega)]; rfl
 · rw [decide_eq_true q1, decide_eq_false q2, decide_eq_true (Int.mul_neg_of_neg_of_pos q1 (by omega))]; rfl
 · rw [decide_eq_false q1, decide_eq_true q2, decide_eq_true (Int.mul_neg_of_pos_of_neg (by omega) q2)]; rfl
 · rw [decide_eq_false q1, decide_eq_false q2, decide_eq_false (by have := Int.mul_pos (show 0 < m by omega) (show 0 < n by omega); omega)]; rfl
/-- whole numbers are equal where their floats are -/
theorem wI.eq {c a b : Nat} {m n : Int} (ha : wI c a m) (hb : wI c b n) : Fl.eqF a b = decide (m = n) := by
 have na : Fl.nan a = false := by unfold Fl.nan; exact decide_eq_false (by have := ha.2.1; omega)
 have nb : Fl.nan b = false := by unfold Fl.nan; exact decide_eq_false (by have := hb.2.1; omega)
 rw [Fl.eqF_of na nb]
 refine decide_eq_decide.2 ?_
 have hp : (0 : Int) < ((2 ^ c : Nat) : Int) := by have := Nat.two_pow_pos c; omega
 have hv : m = n ↔ Fl.val a = Fl.val b := by
  rw [ha.2.2, hb.2.2]
  exact ⟨fun h => by rw [h], fun h => Int.eq_of_mul_eq_mul_right (by omega) h⟩
 rw [hv]
 have vi := @Fl.vl_inj (Fl.rg a) (Fl.rg b)
 have z1 : Fl.vl (Fl.rg a) = 0 ↔ Fl.rg a = 0 := by
  have := @Fl.vl_inj (Fl.rg a) 0
  rwa [show Fl.vl 0 = 0 by decide] at this
 have z2 : Fl.vl (Fl.rg b) = 0 ↔ Fl.rg b = 0 := by
  have := @Fl.vl_inj (Fl.rg b) 0
  rwa [show Fl.vl 0 = 0 by decide] at this
 unfold Fl.key Fl.val
 generalize Fl.vl (Fl.rg a) = va at *
 generalize Fl.vl (Fl.rg b) = vb at *
 cases Fl.sg a <;> cases Fl.sg b <;> simp <;> omega
end Go.Proofs.YtfgfofedacehiaaGreat

/-
 OWN TEXT: what Same of package float and math.Signbit return, for every float.
-/
namespace Go.Proofs.YtfgfofedacehiaaGreat
open Go.ChangeShapes Go.WideShapes Go.ChangeAt Go.RowKit
attribute [local go_sem] frombits_call tobits_call run_neg
end Go.Proofs.YtfgfofedacehiaaGreat

/-
 OWN TEXT: what Same, Minus, Signed and the reference of layer 1 return, for every float.
-/
namespace Go.Proofs.YtfgfofedacehiaaGreat
open Go.ChangeShapes Go.WideShapes Go.ChangeAt Go.RowKit
attribute [local go_sem] frombits_call tobits_call run_neg
theorem minus_any (x : Nat) (w : World) (hx : x < 18446744073709551616) : Calls Tryz.prog 131 #[.float .f64 x] w fun e w' => e = .returned (.bool (Fl.minusB x)) ∧ w' = w := by
 go_enter Tryz.func131, Tryz.ntmps131
 go_wp2_with (go_at_call 85; refine (bits_any _ _).mono ?_; rintro e w' ⟨rfl, rfl⟩)
 go_ret
 exact ⟨rb (by
  show (bits BinOp.and IntKind.u64 (↑(Fl.bitsF x)) 9223372036854775808 != 0) = _
  rw [Fl.sign_bits (Fl.bitsF_lt hx)]
  unfold Fl.minusB Fl.bitsF
  cases h : Fl.nan x <;> simp; decide), rfl⟩
/-- a with b's sign, as the program has it -/
def signedF (x y : Nat) : Nat := if Fl.minusB y then Fl.ng (Fl.rg x) else Fl.rg x
theorem signed_any (x y : Nat) (w : World) (hx : x < 18446744073709551616) (hy : y < 18446744073709551616) : Calls Tryz.prog 118 #[.float .f64 x, .float .f64 y] w fun e w' => e = .returned (.float .f64 (signedF x y)) ∧ w' = w := by
 have hn := Fl.neg_eq (x := Fl.rg x) (by have := Fl.rg_lt x; omega)
 cases h2 : Fl.minusB y
 all_goals
  go_enter Tryz.func118, Tryz.ntmps118
  go_wp2_with (first | (go_at_call 61; refine (abs_any _ _ (by assumption)).mono ?_; rintro e w' ⟨rfl, rfl⟩) | (go_at_call 131; refine (minus_any _ _ (by assumption)).mono ?_; rintro e w' ⟨rfl, rfl⟩))
  go_ret
  exact ⟨rf (by simp [signedF, h2]), rfl⟩
end Go.Proofs.YtfgfofedacehiaaGreat

