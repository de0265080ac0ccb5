/-
  OWN TEXT: what an operation on two floats comes to, no numbers too; that like operands give like answers; the reference's odd sum.
-/
import Derived.Test.YtmbjgakehghdjaaJad
import Derived.Below
namespace Go.Proofs.Ytmbjgakehghdjaa
open Go.ChangeShapes Go.WideShapes Go.ChangeAt Go.RowKit
set_option linter.unusedVariables false
attribute [local go_sem] frombits_call tobits_call run_neg
/-- nothing that was there has turned -/
def Bw (w w' : World) : Prop := Below w.heap.size w w'
theorem Bw.refl (w : World) : Bw w w := Below.refl _ _
theorem Bw.drew {a b : World} (h : Bw a b) : Bw a b.drew := Below.drew h
theorem bw_trans {a b c : World} (h : Bw a b) (k : Bw b c) : Bw a c := Below.trans h (Below.mono k h.size)
/-- the four operations -/
def isOp (op : BinOp) : Prop := op = .add ∨ op = .sub ∨ op = .mul ∨ op = .quo
/-- x is what a and b come to -/
def opR (op : BinOp) (a b x : Nat) : Prop := x < 18446744073709551616 ∧ (floatBits op .f64 a b = some x ∨ (floatBits op .f64 a b = none ∧ Fl.nan x = true))
/-- alike: one float, or both no numbers -/
def simR (a b : Nat) : Prop := a = b ∨ (Fl.nan a = true ∧ Fl.nan b = true)
theorem simR.refl (a : Nat) : simR a a := Or.inl rfl
theorem simR.same {a b : Nat} (h : simR a b) : Fl.sameB a b = true := by
  rcases h with rfl | ⟨h1, h2⟩
  · unfold Fl.sameB; simp
  · unfold Fl.sameB; rw [h1, h2]; rfl
theorem nan_left (op : BinOp) (ho : isOp op) {a b : Nat} (h : Fl.nan a = true) : floatBits op .f64 a b = none := by
  have hr := Fl.read_nan (Fl.nan_lt h)
  rcases ho with rfl | rfl | rfl | rfl
  · show Ieee.double.add a b = none; unfold Ieee.Format.add; rw [hr]; rfl
  · show Ieee.double.sub a b = none; unfold Ieee.Format.sub; rw [hr]; rfl
  · show Ieee.double.mul a b = none; unfold Ieee.Format.mul; rw [hr]; rfl
  · show Ieee.double.div a b = none; unfold Ieee.Format.div; rw [hr]; rfl
theorem nan_right (op : BinOp) (ho : isOp op) {a b : Nat} (h : Fl.nan b = true) : floatBits op .f64 a b = none := by
  have hr := Fl.read_nan (Fl.nan_lt h)
  rcases ho with rfl | rfl | rfl | rfl
  · show Ieee.double.add a b = none; unfold Ieee.Format.add; rw [hr]; cases Ieee.double.read a <;> rfl
  · show Ieee.double.sub a b = none; unfold Ieee.Format.sub; rw [hr]; cases Ieee.double.read a <;> rfl
  · show Ieee.double.mul a b = none; unfold Ieee.Format.mul; rw [hr]; cases Ieee.double.read a <;> rfl
  · show Ieee.double.div a b = none; unfold Ieee.Format.div; rw [hr]; cases Ieee.double.read a <;> rfl
theorem opR.nan {op : BinOp} {a b x : Nat} (h : opR op a b x) (hn : floatBits op .f64 a b = none) : Fl.nan x = true := by
  rcases h.2 with e | e
  · rw [hn] at e; cases e
  · exact e.2
/-- like operands give like answers -/
theorem opR.sim {op : BinOp} (ho : isOp op) {a a' b b' x x' : Nat} (h : opR op a b x) (h' : opR op a' b' x') (ha : simR a a') (hb : simR b b') : simR x x' := by
  rcases ha with rfl | ⟨h1, h2⟩
  · rcases hb with rfl | ⟨h1, h2⟩
    · cases e : floatBits op .f64 a b with
      | none => exact Or.inr ⟨h.nan e, h'.nan e⟩
      | some z =>
        have k1 : z = x := by
          rcases h.2 with k | k
          · rw [e] at k; exact Option.some.inj k
          · rw [e] at k; cases k.1
        have k2 : z = x' := by
          rcases h'.2 with k | k
          · rw [e] at k; exact Option.some.inj k
          · rw [e] at k; cases k.1
        exact Or.inl (k1.symm.trans k2)
    · exact Or.inr ⟨h.nan (nan_right op ho h1), h'.nan (nan_right op ho h2)⟩
  · exact Or.inr ⟨h.nan (nan_left op ho h1), h'.nan (nan_left op ho h2)⟩
theorem floatBits_lt0 {op : BinOp} {x y r : Nat} (h : floatBits op .f64 x y = some r) : r < 18446744073709551616 := by
  have hw := floatBits_wf h
  simp only [Lit.wf] at hw
  exact of_decide_eq_true hw
/-- an operation runs: what it leaves, and the world (a draw at most) -/
theorem op_run (op : BinOp) (ho : isOp op) (a b : Nat) (w : World) : ∃ x w1, opR op a b x ∧ (∀ t, (binOp op t (.float .f64 a) (.float .f64 b)).run Try.prog w = .ok (.float .f64 x) w1) ∧ Bw w w1 := by
  cases e : floatBits op .f64 a b with
  | some z => exact ⟨z, w, ⟨floatBits_lt0 e, Or.inl e⟩, fun t => run_float_arith (P := Try.prog) w op t .f64 _ _ _ e, Bw.refl _⟩
  | none =>
    obtain ⟨z, hz, nz, e1⟩ := run_arith_none Try.prog op a b w ho e
    exact ⟨z, w.drew, ⟨hz, Or.inr ⟨e, nz⟩⟩, e1, (Bw.refl _).drew⟩
/-- the odd sum, behind i rounds -/
def oddQ (s : Nat) : Nat → Nat → Prop
  | 0, q => q = 4585925428558828667
  | i + 1, q' => ∃ q d p, oddQ s i q ∧ opR .quo 4607182418800017408 (floatOfInt .f64 (23 - 2 * (i : Int))) d ∧ opR .mul s q p ∧ opR .add d p q'
def oddR (f y : Nat) : Prop := ∃ s q a p r, opR .mul f f s ∧ oddQ s 11 q ∧ opR .mul 4611686018427387904 f a ∧ opR .mul s q p ∧ opR .mul a p r ∧ opR .add a r y
theorem oddQ.sim {s s' : Nat} (hs : simR s s') : ∀ (i q q' : Nat), oddQ s i q → oddQ s' i q' → simR q q'
  | 0, q, q', h, h' => Or.inl (Eq.trans h (Eq.symm h'))
  | i + 1, q, q', ⟨u, d, p, h1, h2, h3, h4⟩, ⟨u', d', p', k1, k2, k3, k4⟩ =>
    h4.sim (Or.inl rfl) k4 (h2.sim (Or.inr (Or.inr (Or.inr rfl))) k2 (simR.refl _) (simR.refl _)) (h3.sim (Or.inr (Or.inr (Or.inl rfl))) k3 hs (oddQ.sim hs i u u' h1 k1))
theorem oddR.sim {f f' y y' : Nat} (h : oddR f y) (k : oddR f' y') (hf : simR f f') : simR y y' := by
  obtain ⟨s, q, a, p, r, h1, h2, h3, h4, h5, h6⟩ := h
  obtain ⟨s', q', a', p', r', k1, k2, k3, k4, k5, k6⟩ := k
  have m : isOp .mul := Or.inr (Or.inr (Or.inl rfl))
  have es := h1.sim m k1 hf hf
  have eq := oddQ.sim es 11 q q' h2 k2
  have ea := h3.sim m k3 (simR.refl _) hf
  have ep := h4.sim m k4 es eq
  have er := h5.sim m k5 ea ep
  exact h6.sim (Or.inl rfl) k6 ea er
end Go.Proofs.Ytmbjgakehghdjaa
/-
  OWN TEXT: rounding keeps the order; a float made whole, as an integer.
-/
namespace Go.Proofs.Ytmbjgakehghdjaa.Fl
set_option linter.unusedVariables false
theorem whF_num {x : Nat} (c : Nat) (hc : c = 1074) (hf : rg x < 9218868437227405312) : whF x = wd (sg x) (rq (rne (vl (rg x)) c * 2 ^ c) 0) := by
  obtain ⟨m, k, hm, em⟩ := read_fin hf
  unfold whF
  rw [hm]
  unfold Ieee.Datum.integral
  simp only []
  rw [cut_even]
  have e : rne (m <<< (-1074 + (k : Int)).toNat) (-(-1074 + (k : Int))).toNat = rne (vl (rg x)) c := by
    rw [← em, Nat.shiftLeft_eq]
    by_cases h : 1074 ≤ k
    · obtain ⟨j, rfl⟩ : ∃ j, k = j + c := ⟨k - c, by omega⟩
      rw [show (-1074 + ((j + c : Nat) : Int)).toNat = j by omega, show (-(-1074 + ((j + c : Nat) : Int))).toNat = 0 by omega, rne_zero, Nat.pow_add, ← Nat.mul_assoc, rne_exact]
    · rw [show (-1074 + (k : Int)).toNat = 0 by omega, Nat.pow_zero, Nat.mul_one]
      have := rne_mul m (c - k) k
      rw [show c - k + k = c by omega] at this
      rw [this]
      congr 1
      omega
  rw [e]
  have h := nearest_eq (sg x) (rne (vl (rg x)) c) c 0
  rw [show -1074 + (c : Int) - ((0 : Nat) : Int) = 0 by omega] at h
  exact h
theorem cut_nought (neg : Bool) (n s : Nat) : Ieee.Toward.zero.cut neg n s = n / 2 ^ s := by
  unfold Ieee.Toward.cut
  simp only [Bool.toNat_false, Nat.add_zero, Nat.shiftLeft_eq, Nat.one_mul]
  by_cases h : s ≤ n.log2 + 2
  · rw [Nat.min_eq_left h]
  · rw [Nat.min_eq_right (by omega)]
    have h1 : n < 2 ^ (n.log2 + 2) := by
      by_cases z : n = 0
      · rw [z]; exact Nat.two_pow_pos _
      · exact Nat.lt_trans (log2_lt n z) (Nat.pow_lt_pow_right (by omega) (by omega))
    rw [Nat.div_eq_of_lt h1, Nat.div_eq_of_lt (Nat.lt_trans h1 (Nat.pow_lt_pow_right (by omega) (by omega)))]
theorem rne_mono (n n' s : Nat) (h : n ≤ n') : rne n s ≤ rne n' s := by
  have hp := Nat.two_pow_pos s
  have d1 := Nat.div_add_mod n (2 ^ s)
  have d2 := Nat.div_add_mod n' (2 ^ s)
  have m1 := Nat.mod_lt n hp
  have m2 := Nat.mod_lt n' hp
  have hq : n / 2 ^ s ≤ n' / 2 ^ s := Nat.div_le_div_right h
  unfold rne
  rcases Nat.lt_or_ge (n / 2 ^ s) (n' / 2 ^ s) with c | c
  · split <;> split <;> omega
  · have e : n / 2 ^ s = n' / 2 ^ s := by omega
    rw [e] at d1 ⊢
    have hm : n % 2 ^ s ≤ n' % 2 ^ s := by omega
    split <;> split <;> omega
theorem log2_mono {n n' : Nat} (h0 : n ≠ 0) (h : n ≤ n') : n.log2 ≤ n'.log2 := (Nat.le_log2 (by omega)).2 (Nat.le_trans (log2_le n h0) h)
theorem rq_mono (n n' d : Nat) (h : n ≤ n') : rq n d ≤ rq n' d := by
  by_cases h0 : n = 0
  · unfold rq; rw [if_pos h0]; exact Nat.zero_le _
  · have h0' : n' ≠ 0 := by omega
    have hl := log2_mono h0 h
    unfold rq
    rw [if_neg h0, if_neg h0']
    by_cases c : n.log2 - (52 + d) = n'.log2 - (52 + d)
    · rw [c]
      have := rne_mono n n' (n'.log2 - (52 + d) + d) h
      omega
    · have a1 : rne n (n.log2 - (52 + d) + d) ≤ 9007199254740992 := by
        refine rne_le _ _ _ ?_
        have := log2_lt n h0
        rw [show (9007199254740992 : Nat) = 2 ^ 53 by decide, ← Nat.pow_add]
        exact Nat.le_of_lt (Nat.lt_of_lt_of_le this (Nat.pow_le_pow_right (by decide) (by omega)))
      have a2 : 4503599627370496 ≤ rne n' (n'.log2 - (52 + d) + d) := by
        refine le_rne _ _ _ ?_
        have := log2_le n' h0'
        rw [show (4503599627370496 : Nat) = 2 ^ 52 by decide, ← Nat.pow_add]
        exact Nat.le_trans (Nat.pow_le_pow_right (by decide) (by omega)) this
      omega
theorem toInt_any {x : Nat} (c : Nat) (hc : c = 1074) (hf : rg x < 9218868437227405312) : (Ieee.double.read x).toInt .zero = some (if sg x then -((vl (rg x) / 2 ^ c : Nat) : Int) else ((vl (rg x) / 2 ^ c : Nat) : Int)) := by
  obtain ⟨m, k, hm, em⟩ := read_fin hf
  unfold Ieee.Datum.toInt
  rw [hm]
  unfold Ieee.Datum.integral
  simp only []
  rw [cut_nought]
  have e : m <<< (-1074 + (k : Int)).toNat / 2 ^ (-(-1074 + (k : Int))).toNat = vl (rg x) / 2 ^ c := by
    rw [← em, Nat.shiftLeft_eq]
    by_cases h : 1074 ≤ k
    · obtain ⟨j, rfl⟩ : ∃ j, k = j + c := ⟨k - c, by omega⟩
      rw [show (-1074 + ((j + c : Nat) : Int)).toNat = j by omega, show (-(-1074 + ((j + c : Nat) : Int))).toNat = 0 by omega, Nat.pow_add, ← Nat.mul_assoc, Nat.mul_div_cancel _ (Nat.two_pow_pos c), Nat.pow_zero, Nat.div_one]
    · rw [show (-1074 + (k : Int)).toNat = 0 by omega, Nat.pow_zero, Nat.mul_one, show (-(-1074 + (k : Int))).toNat = c - k by omega]
      have e2 : 2 ^ c = 2 ^ (c - k) * 2 ^ k := by rw [← Nat.pow_add, show c - k + k = c by omega]
      rw [e2, Nat.mul_div_mul_right _ _ (Nat.two_pow_pos k)]
  rw [e]
  unfold Ieee.signed
  cases sg x
  · rw [if_neg (by decide), Nat.shiftLeft_zero, if_neg (by decide)]
  · rw [if_pos rfl, Nat.shiftLeft_zero, if_pos rfl]
/-- a float of few bits, made whole, is an integer of few bits -/
theorem whole_int {p : Nat} (c : Nat) (hc : c = 1074) (hf : rg p < 9218868437227405312) (hv : vl (rg p) ≤ 4194304 * 2 ^ c) :
    ∃ k : Nat, k ≤ 4194304 ∧ whF p = wd (sg p) (rq (k * 2 ^ c) 0) ∧ vl (rq (k * 2 ^ c) 0) = k * 2 ^ c ∧ floatToIntVal .f64 (whF p) .i64 = some (if sg p then -(k : Int) else k) := by
  have hk : rne (vl (rg p)) c ≤ 4194304 := rne_le _ _ _ hv
  have hw := whF_num c hc hf
  generalize rne (vl (rg p)) c = k at *
  have hl : (k * 2 ^ c).log2 < 2098 := by
    by_cases z : k = 0
    · rw [z, Nat.zero_mul]; exact (by decide : Nat.log2 0 < 2098)
    · rw [log2_mul _ _ z]
      have : k.log2 < 23 := (Nat.log2_lt z).2 (Nat.lt_of_le_of_lt hk (by decide))
      omega
  obtain ⟨v1, v2⟩ := rq_rep (k * 2 ^ c) ⟨k, c, rfl, by omega⟩ hl
  refine ⟨k, hk, hw, v1, ?_⟩
  rw [hw]
  generalize hR : rq (k * 2 ^ c) 0 = R at *
  have hg := rg_wd (sg p) R (by omega)
  have hs := sg_wd (sg p) R (by omega)
  have ht := toInt_any (x := wd (sg p) R) c hc (by rw [hg]; exact v2)
  rw [hg, hs, v1, Nat.mul_div_cancel _ (Nat.two_pow_pos c)] at ht
  unfold floatToIntVal
  show (match (Ieee.double.read (wd (sg p) R)).toInt .zero with | some n => if IntKind.i64.min ≤ n ∧ n ≤ IntKind.i64.max then some n else none | none => none) = _
  rw [ht]
  have h1 : IntKind.i64.min = -9223372036854775808 := rfl
  have h2 : IntKind.i64.max = 9223372036854775807 := rfl
  simp only []
  rw [h1, h2, if_pos (by split <;> omega)]
end Go.Proofs.Ytmbjgakehghdjaa.Fl
namespace Go.Proofs.Ytmbjgakehghdjaa
open Go.ChangeShapes Go.WideShapes Go.ChangeAt Go.RowKit
set_option linter.unusedVariables false
/-- n is p made whole -/
def whR (p n : Nat) : Prop := n < 18446744073709551616 ∧ (if Fl.nan p = true then Fl.nan n = true else n = Fl.whF p)
theorem whR.sim {p p' n n' : Nat} (h : whR p n) (k : whR p' n') (e : simR p p') : simR n n' := by
  obtain ⟨_, h⟩ := h
  obtain ⟨_, k⟩ := k
  rcases e with rfl | ⟨e1, e2⟩
  · by_cases c : Fl.nan p = true
    · rw [if_pos c] at h k; exact Or.inr ⟨h, k⟩
    · rw [if_neg c] at h k; exact Or.inl (h.trans k.symm)
  · rw [if_pos e1] at h
    rw [if_pos e2] at k
    exact Or.inr ⟨h, k⟩
/-- n is how often the logarithm of 2 goes into x -/
def foldR (x n : Nat) : Prop := ∃ p, opR .mul x 4609176140021203710 p ∧ whR p n
theorem foldR.sim {x x' n n' : Nat} (h : foldR x n) (k : foldR x' n') (e : simR x x') : simR n n' := by
  obtain ⟨p, h1, h2⟩ := h
  obtain ⟨p', k1, k2⟩ := k
  exact h2.sim k2 (h1.sim (Or.inr (Or.inr (Or.inl rfl))) k1 e (simR.refl _))
/-- in the middle it is an integer of few bits -/
theorem fold_int {x n : Nat} (hr : Fl.rg x ≤ 4652218415073722368) (h : foldR x n) : Fl.nan n = false ∧ ∃ q : Int, -4194304 ≤ q ∧ q ≤ 4194304 ∧ floatToIntVal .f64 n .i64 = some q := by
  obtain ⟨p, h1, h2⟩ := h
  have hm := Fl.mul_fin (x := x) (y := 4609176140021203710) (by omega) (by decide)
  have e1 : p = Fl.wd (Fl.sg x ^^ Fl.sg 4609176140021203710) (Fl.rq (Fl.vl (Fl.rg x) * Fl.vl (Fl.rg 4609176140021203710)) 1074) := by
    rcases h1.2 with k | k
    · exact (Option.some.inj (hm.symm.trans k)).symm
    · exact absurd (hm.symm.trans k.1) (by intro c; cases c)
  have hle : Fl.rq (Fl.vl (Fl.rg x) * Fl.vl (Fl.rg 4609176140021203710)) 1074 ≤ 4661225614328463360 := by
    have a := Fl.rq_mono (Fl.vl (Fl.rg x) * Fl.vl (Fl.rg 4609176140021203710)) (Fl.vl 4652218415073722368 * Fl.vl 4609176140021203710) 1074
      (Nat.mul_le_mul (by rcases Nat.lt_or_ge (Fl.rg x) 4652218415073722368 with c | c; exact Nat.le_of_lt (Fl.vl_mono c); rw [show Fl.rg x = 4652218415073722368 by omega]; exact Nat.le_refl _) (Nat.le_refl _))
    exact Nat.le_trans a (by decide +kernel)
  have hg : Fl.rg p = Fl.rq (Fl.vl (Fl.rg x) * Fl.vl (Fl.rg 4609176140021203710)) 1074 := by rw [e1]; exact Fl.rg_wd _ _ (by omega)
  have np : Fl.nan p = false := by unfold Fl.nan; exact decide_eq_false (by omega)
  obtain ⟨n1, n2⟩ := h2
  rw [if_neg (by rw [np]; decide)] at n2
  obtain ⟨c, hc⟩ : ∃ c, c = 1074 := ⟨_, rfl⟩
  have hv : Fl.vl (Fl.rg p) ≤ 4194304 * 2 ^ c := by
    have a : Fl.vl (Fl.rg p) ≤ Fl.vl 4661225614328463360 := by
      rcases Nat.lt_or_ge (Fl.rg p) 4661225614328463360 with c | c
      · exact Nat.le_of_lt (Fl.vl_mono c)
      · rw [show Fl.rg p = 4661225614328463360 by omega]; exact Nat.le_refl _
    refine Nat.le_trans a ?_
    rw [hc]
    decide +kernel
  obtain ⟨k, hk, hw, _, ht⟩ := Fl.whole_int c hc (by omega) hv
  subst n2
  refine ⟨?_, _, ?_, ?_, ht⟩
  · rw [hw]; exact Fl.nan_wd _ _ (Fl.rq_le _ _)
  · split <;> omega
  · split <;> omega
end Go.Proofs.Ytmbjgakehghdjaa
/-
  OWN TEXT: plain laws on a float's last unit: the neighbour away from nought, the unit between them, its half; a sum's loss is at most that half.
-/
set_option linter.unusedVariables false
namespace Go.Proofs.Ytmbjgakehghdjaa.Fl
/-- the rung of 2 to the power of k units -/
def r2 (k : Nat) : Nat := if k ≤ 52 then 2 ^ k else (k - 51) * 4503599627370496
set_option maxRecDepth 100000 in
theorem r2_all : ∀ k : Fin 2046, vl (r2 k.val) = 2 ^ k.val ∧ r2 k.val < 9218868437227405312 ∧ Ieee.double.div (r2 k.val) 4611686018427387904 = some (if k.val = 0 then 0 else r2 (k.val - 1)) := by decide +kernel
theorem vl_le_iff {r s : Nat} : vl r ≤ vl s ↔ r ≤ s := by
  constructor
  · intro h
    rcases Nat.lt_or_ge s r with c | c
    · have := vl_mono c; omega
    · exact c
  · intro h
    rcases Nat.lt_or_ge r s with c | c
    · exact Nat.le_of_lt (vl_mono c)
    · have : r = s := by omega
      rw [this]; exact Nat.le_refl _
/-- a rung in parts -/
theorem rung_parts (r : Nat) (h : r < 9218868437227405312) : ∃ k M, r = k * 4503599627370496 + M ∧ M < 9007199254740992 ∧ (k = 0 ∨ 4503599627370496 ≤ M) ∧ k ≤ 2045 := by
  by_cases c : r < 4503599627370496
  · exact ⟨0, r, by omega, by omega, Or.inl rfl, by omega⟩
  · exact ⟨r / 4503599627370496 - 1, r - (r / 4503599627370496 - 1) * 4503599627370496, by omega, by omega, Or.inr (by omega), by omega⟩
theorem rq_form (n : Nat) (h : n ≠ 0) (hf : rq n 0 < 9218868437227405312) : rq n 0 = (n.log2 - 52) * 4503599627370496 + rne n (n.log2 - 52) := by
  unfold rq at hf ⊢; rw [if_neg h] at hf ⊢; simp only [Nat.add_zero] at hf ⊢; omega
theorem le_form (r k M j N : Nat) (e : r = k * 4503599627370496 + M) (hM : M < 9007199254740992) (hk : k = 0 ∨ 4503599627370496 ≤ M) (e' : r = j * 4503599627370496 + N) (hj : j = 0 ∨ 4503599627370496 ≤ N) (hN : N ≤ 9007199254740992) : j ≤ k := by
  omega
/-- from a rung to the next one it is a power of two -/
theorem gap (r : Nat) (h : r < 9218868437227405312) : ∃ k, k ≤ 2045 ∧ vl (r + 1) = vl r + 2 ^ k ∧ ∀ n, n ≠ 0 → rq n 0 = r → 2 * n ≤ 2 * vl r + 2 ^ k ∧ 2 * vl r ≤ 2 * n + 2 ^ k := by
  obtain ⟨k, M, e, hM, hk, hk2⟩ := rung_parts r h
  have e1 : vl r = M * 2 ^ k := by rw [e]; exact vl_comb k M (by omega) hk
  have e2 : vl (r + 1) = (M + 1) * 2 ^ k := by
    rw [e, Nat.add_assoc]; exact vl_comb k (M + 1) (by omega) (by omega)
  refine ⟨k, hk2, by rw [e1, e2, Nat.add_mul, Nat.one_mul], ?_⟩
  intro n hn hr
  have hv := vl_rq n hn (by omega)
  rw [hr] at hv
  have hb := rne_bounds n (n.log2 - 52)
  rw [← hv] at hb
  have hq := rq_form n hn (by omega)
  rw [hr] at hq
  obtain ⟨f1, f2⟩ := rq_fit n hn
  have hle : n.log2 - 52 ≤ k := le_form r k M (n.log2 - 52) (rne n (n.log2 - 52)) e hM hk hq f1 f2
  have hp : 2 ^ (n.log2 - 52) ≤ 2 ^ k := Nat.pow_le_pow_right (by omega) hle
  omega
theorem vl_two : vl 4611686018427387904 = 2 ^ (1 + 1074) := by decide +kernel
/-- twice -/
theorem mul_two {x : Nat} (hx : rg x < 9218868437227405312) : Ieee.double.mul 4611686018427387904 x = some (wd (sg x) (rq (vl (rg x) * 2) 0)) := by
  have r1 : rg 4611686018427387904 = 4611686018427387904 := by decide
  have s1 : sg 4611686018427387904 = false := by decide
  have e := mul_fin (x := 4611686018427387904) (y := x) (by rw [r1]; decide) hx
  rw [r1, s1, Bool.false_xor, Nat.mul_comm, rq_by' 4611686018427387904 _ 1074 1 1074 vl_two rfl] at e
  exact e
theorem two_up (r : Nat) (h : r < 9218868437227405312) (hz : r ≠ 0) : r < rq (vl r * 2) 0 := by
  have hv := vl_pos hz
  by_cases c : (vl r * 2).log2 < 2098
  · obtain ⟨M, k, e, hM, _⟩ := rep_vl r h
    obtain ⟨h1, h2⟩ := rq_rep (vl r * 2) ⟨M, k + 1, by rw [e, Nat.pow_succ, Nat.mul_assoc], by omega⟩ c
    rcases Nat.lt_or_ge r (rq (vl r * 2) 0) with d | d
    · exact d
    · have := (vl_le_iff (r := rq (vl r * 2) 0) (s := r)).2 d
      omega
  · rw [rq_far (vl r * 2) 0 (by omega) (by omega)]; exact h
end Go.Proofs.Ytmbjgakehghdjaa.Fl
