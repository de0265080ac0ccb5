/-
  OWN TEXT: what an operation on two floats comes to, no numbers too; that like operands give like answers; the reference's odd sum.
-/
import Derived.Test.YtgnbmilmipbaoaaDoorFnStairs
import Derived.Test.YtgnbmilmipbaoaaDoorFlX
import Derived.Below
import Derived.Test.YtgnbmilmipbaoaaDoorRfI
import Derived.Test.YtgnbmilmipbaoaaDoorRfK
namespace Go.Proofs.YtgnbmilmipbaoaaDoor
open Go.ChangeShapes Go.WideShapes Go.ChangeAt Go.RowKit
set_option linter.unusedVariables false
attribute [local go_sem] frombits_call tobits_call run_neg
/-- nothing that was there has turned -/
def Bw (w w' : World) : Prop := Below w.heap.size w w'
theorem Bw.refl (w : World) : Bw w w := Below.refl _ _
theorem Bw.drew {a b : World} (h : Bw a b) : Bw a b.drew := Below.drew h
theorem bw_trans {a b c : World} (h : Bw a b) (k : Bw b c) : Bw a c := Below.trans h (Below.mono k h.size)
/-- the four operations -/
def isOp (op : BinOp) : Prop := op = .add ∨ op = .sub ∨ op = .mul ∨ op = .quo
/-- x is what a and b come to -/
def opR (op : BinOp) (a b x : Nat) : Prop := x < 18446744073709551616 ∧ (floatBits op .f64 a b = some x ∨ (floatBits op .f64 a b = none ∧ Fl.nan x = true))
/-- alike: one float, or both no numbers -/
def simR (a b : Nat) : Prop := a = b ∨ (Fl.nan a = true ∧ Fl.nan b = true)
theorem simR.refl (a : Nat) : simR a a := Or.inl rfl
theorem simR.same {a b : Nat} (h : simR a b) : Fl.sameB a b = true := by
  rcases h with rfl | ⟨h1, h2⟩
  · unfold Fl.sameB; simp
  · unfold Fl.sameB; rw [h1, h2]; rfl
theorem nan_left (op : BinOp) (ho : isOp op) {a b : Nat} (h : Fl.nan a = true) : floatBits op .f64 a b = none := by
  have hr := Fl.read_nan (Fl.nan_lt h)
  rcases ho with rfl | rfl | rfl | rfl
  · show Ieee.double.add a b = none; unfold Ieee.Format.add; rw [hr]; rfl
  · show Ieee.double.sub a b = none; unfold Ieee.Format.sub; rw [hr]; rfl
  · show Ieee.double.mul a b = none; unfold Ieee.Format.mul; rw [hr]; rfl
  · show Ieee.double.div a b = none; unfold Ieee.Format.div; rw [hr]; rfl
theorem nan_right (op : BinOp) (ho : isOp op) {a b : Nat} (h : Fl.nan b = true) : floatBits op .f64 a b = none := by
  have hr := Fl.read_nan (Fl.nan_lt h)
  rcases ho with rfl | rfl | rfl | rfl
  · show Ieee.double.add a b = none; unfold Ieee.Format.add; rw [hr]; cases Ieee.double.read a <;> rfl
  · show Ieee.double.sub a b = none; unfold Ieee.Format.sub; rw [hr]; cases Ieee.double.read a <;> rfl
  · show Ieee.double.mul a b = none; unfold Ieee.Format.mul; rw [hr]; cases Ieee.double.read a <;> rfl
  · show Ieee.double.div a b = none; unfold Ieee.Format.div; rw [hr]; cases Ieee.double.read a <;> rfl
theorem opR.nan {op : BinOp} {a b x : Nat} (h : opR op a b x) (hn : floatBits op .f64 a b = none) : Fl.nan x = true := by
  rcases h.2 with e | e
  · rw [hn] at e; cases e
  · exact e.2
/-- like operands give like answers -/
theorem opR.sim {op : BinOp} (ho : isOp op) {a a' b b' x x' : Nat} (h : opR op a b x) (h' : opR op a' b' x') (ha : simR a a') (hb : simR b b') : simR x x' := by
  rcases ha with rfl | ⟨h1, h2⟩
  · rcases hb with rfl | ⟨h1, h2⟩
    · cases e : floatBits op .f64 a b with
      | none => exact Or.inr ⟨h.nan e, h'.nan e⟩
      | some z =>
        have k1 : z = x := by
          rcases h.2 with k | k
          · rw [e] at k; exact Option.some.inj k
          · rw [e] at k; cases k.1
        have k2 : z = x' := by
          rcases h'.2 with k | k
          · rw [e] at k; exact Option.some.inj k
          · rw [e] at k; cases k.1
        exact Or.inl (k1.symm.trans k2)
    · exact Or.inr ⟨h.nan (nan_right op ho h1), h'.nan (nan_right op ho h2)⟩
  · exact Or.inr ⟨h.nan (nan_left op ho h1), h'.nan (nan_left op ho h2)⟩
theorem floatBits_lt0 {op : BinOp} {x y r : Nat} (h : floatBits op .f64 x y = some r) : r < 18446744073709551616 := by
  have hw := floatBits_wf h
  simp only [Lit.wf] at hw
  exact of_decide_eq_true hw
/-- an operation runs: what it leaves, and the world (a draw at most) -/
theorem op_run (op : BinOp) (ho : isOp op) (a b : Nat) (w : World) : ∃ x w1, opR op a b x ∧ (∀ t, (binOp op t (.float .f64 a) (.float .f64 b)).run Tryd.prog w = .ok (.float .f64 x) w1) ∧ Bw w w1 := by
  cases e : floatBits op .f64 a b with
  | some z => exact ⟨z, w, ⟨floatBits_lt0 e, Or.inl e⟩, fun t => run_float_arith (P := Tryd.prog) w op t .f64 _ _ _ e, Bw.refl _⟩
  | none =>
    obtain ⟨z, hz, nz, e1⟩ := run_arith_none Tryd.prog op a b w ho e
    exact ⟨z, w.drew, ⟨hz, Or.inr ⟨e, nz⟩⟩, e1, (Bw.refl _).drew⟩
/-- the odd sum, behind i rounds -/
def oddQ (s : Nat) : Nat → Nat → Prop
  | 0, q => q = 4585925428558828667
  | i + 1, q' => ∃ q d p, oddQ s i q ∧ opR .quo 4607182418800017408 (floatOfInt .f64 (23 - 2 * (i : Int))) d ∧ opR .mul s q p ∧ opR .add d p q'
def oddR (f y : Nat) : Prop := ∃ s q a p r, opR .mul f f s ∧ oddQ s 11 q ∧ opR .mul 4611686018427387904 f a ∧ opR .mul s q p ∧ opR .mul a p r ∧ opR .add a r y
theorem oddQ.sim {s s' : Nat} (hs : simR s s') : ∀ (i q q' : Nat), oddQ s i q → oddQ s' i q' → simR q q'
  | 0, q, q', h, h' => Or.inl (Eq.trans h (Eq.symm h'))
  | i + 1, q, q', ⟨u, d, p, h1, h2, h3, h4⟩, ⟨u', d', p', k1, k2, k3, k4⟩ =>
    h4.sim (Or.inl rfl) k4 (h2.sim (Or.inr (Or.inr (Or.inr rfl))) k2 (simR.refl _) (simR.refl _)) (h3.sim (Or.inr (Or.inr (Or.inl rfl))) k3 hs (oddQ.sim hs i u u' h1 k1))
theorem oddR.sim {f f' y y' : Nat} (h : oddR f y) (k : oddR f' y') (hf : simR f f') : simR y y' := by
  obtain ⟨s, q, a, p, r, h1, h2, h3, h4, h5, h6⟩ := h
  obtain ⟨s', q', a', p', r', k1, k2, k3, k4, k5, k6⟩ := k
  have m : isOp .mul := Or.inr (Or.inr (Or.inl rfl))
  have es := h1.sim m k1 hf hf
  have eq := oddQ.sim es 11 q q' h2 k2
  have ea := h3.sim m k3 (simR.refl _) hf
  have ep := h4.sim m k4 es eq
  have er := h5.sim m k5 ea ep
  exact h6.sim (Or.inl rfl) k6 ea er
end Go.Proofs.YtgnbmilmipbaoaaDoor
/-
  OWN TEXT: the reference's rising sum (eddyref04.Rising), for every float.
-/
namespace Go.Proofs.YtgnbmilmipbaoaaDoor
open Go.ChangeShapes Go.WideShapes Go.ChangeAt Go.RowKit
set_option linter.unusedVariables false
attribute [local go_sem] frombits_call tobits_call run_neg
/-- the rising sum of r, behind i rounds -/
def risQ (r : Nat) : Nat → Nat → Prop
  | 0, t => t = 4607182418800017408
  | i + 1, t' => ∃ t p d, risQ r i t ∧ opR .mul r t p ∧ opR .quo p (floatOfInt .f64 (13 - (i : Int))) d ∧ opR .add 4607182418800017408 d t'
theorem risQ.sim {r r' : Nat} (hr : simR r r') : ∀ (i t t' : Nat), risQ r i t → risQ r' i t' → simR t t'
  | 0, t, t', h, h' => Or.inl (Eq.trans h (Eq.symm h'))
  | i + 1, t, t', ⟨u, p, d, h1, h2, h3, h4⟩, ⟨u', p', d', k1, k2, k3, k4⟩ =>
    h4.sim (Or.inl rfl) k4 (simR.refl _) (h3.sim (Or.inr (Or.inr (Or.inr rfl))) k3 (h2.sim (Or.inr (Or.inr (Or.inl rfl))) k2 hr (risQ.sim hr i u u' h1 k1)) (simR.refl _))
set_option maxHeartbeats 4000000 in
theorem rrising_any (r j : Nat) (w : World) (hj : 1 ≤ j) (hj' : j ≤ 13) : Calls Tryd.prog 27 #[.float .f64 r, .int .i64 (j : Int)] w fun e w' => ∃ t, e = .returned (.float .f64 t) ∧ risQ r (14 - j) t ∧ Bw w w' := by
  go_enter Tryd.func27, Tryd.ntmps27
  go_wp2
  go_loopw [5, 6] (fun t k wr => ∃ (i n : Nat), i ≤ 14 - j ∧ t = .float .f64 n ∧ k = .int .i64 (13 - (i : Int)) ∧ risQ r i n ∧ Bw w wr) (fun _ k _ => (intOf k).toNat)
  case atStart => exact ⟨0, 4607182418800017408, by omega, rfl, rfl, rfl, Bw.refl _⟩
  case round =>
    obtain ⟨i, n, hi, rfl, rfl, hq, hg⟩ := hrel
    have HQ : Hid (risQ r i n) := hq
    clear hq
    by_cases c : i < 14 - j
    · have hk : (j : Int) ≤ 13 - (i : Int) := by omega
      have hkb : 13 - (i : Int) ≤ 13 := by omega
      have hkc : (1 : Int) ≤ 13 - (i : Int) := by omega
      obtain ⟨p, w2, hp, e2, g2⟩ := op_run .mul (Or.inr (Or.inr (Or.inl rfl))) r n wr
      obtain ⟨d, w3, hd, e3, g3⟩ := op_run .quo (Or.inr (Or.inr (Or.inr rfl))) p (floatOfInt .f64 (13 - (i : Int))) w2
      obtain ⟨t', w4, ht', e4, g4⟩ := op_run .add (Or.inl rfl) 4607182418800017408 d w3
      have hgg := bw_trans (bw_trans (bw_trans hg g2) g3) g4
      have R : ∃ (i' n' : Nat), i' ≤ 14 - j ∧ Value.float .f64 t' = .float .f64 n' ∧ Value.int .i64 (13 - (i : Int) - 1) = .int .i64 (13 - (i' : Int)) ∧ risQ r i' n' ∧ Bw w w4 :=
        ⟨i + 1, t', by omega, rfl, by rw [show 13 - (i : Int) - 1 = 13 - ((i + 1 : Nat) : Int) by omega], ⟨n, p, d, HQ.out, hp, hd, ht'⟩, hgg⟩
      have HR : Hid _ := R
      clear R hd hp ht' g2 g3 g4 hg HQ hgg hi c
      generalize hK : 13 - (i : Int) = K at *
      go_wp2
      go_roundw
      case rel => exact HR.out
      case measure => simp [intOf]; omega
    · have hi' : i = 14 - j := by omega
      have hk : 13 - (i : Int) < (j : Int) := by omega
      subst hi'
      clear c hi
      generalize 13 - ((14 - j : Nat) : Int) = K at *
      go_wp2
      go_ret
      exact ⟨n, rfl, HQ.out, hg⟩
end Go.Proofs.YtgnbmilmipbaoaaDoor
/-
  OWN TEXT: the program's odd sum and its two floats (elem.odd, elem.Two), for every float.
-/
namespace Go.Proofs.YtgnbmilmipbaoaaDoor
open Go.ChangeShapes Go.WideShapes Go.ChangeAt Go.RowKit
set_option linter.unusedVariables false
attribute [local go_sem] frombits_call tobits_call run_neg
theorem two_any (w : World) : Calls Tryd.prog 11 #[] w fun e w' => e = .returned (.tuple #[.float .f64 4604418534311723008, .float .f64 4461442080421002358]) ∧ w' = w := by
  go_enter Tryd.func11, Tryd.ntmps11
  go_wp2
  go_ret2
  exact ⟨rfl, rfl⟩
end Go.Proofs.YtgnbmilmipbaoaaDoor
/-
  OWN TEXT: rounding keeps the order; a float made whole, as an integer.
-/
namespace Go.Proofs.YtgnbmilmipbaoaaDoor.Fl
set_option linter.unusedVariables false
theorem rne_mono (n n' s : Nat) (h : n ≤ n') : rne n s ≤ rne n' s := by
  have hp := Nat.two_pow_pos s
  have d1 := Nat.div_add_mod n (2 ^ s)
  have d2 := Nat.div_add_mod n' (2 ^ s)
  have m1 := Nat.mod_lt n hp
  have m2 := Nat.mod_lt n' hp
  have hq : n / 2 ^ s ≤ n' / 2 ^ s := Nat.div_le_div_right h
  unfold rne
  rcases Nat.lt_or_ge (n / 2 ^ s) (n' / 2 ^ s) with c | c
  · split <;> split <;> omega
  · have e : n / 2 ^ s = n' / 2 ^ s := by omega
    rw [e] at d1 ⊢
    have hm : n % 2 ^ s ≤ n' % 2 ^ s := by omega
    split <;> split <;> omega
theorem log2_mono {n n' : Nat} (h0 : n ≠ 0) (h : n ≤ n') : n.log2 ≤ n'.log2 := (Nat.le_log2 (by omega)).2 (Nat.le_trans (log2_le n h0) h)
theorem rq_mono (n n' d : Nat) (h : n ≤ n') : rq n d ≤ rq n' d := by
  by_cases h0 : n = 0
  · unfold rq; rw [if_pos h0]; exact Nat.zero_le _
  · have h0' : n' ≠ 0 := by omega
    have hl := log2_mono h0 h
    unfold rq
    rw [if_neg h0, if_neg h0']
    by_cases c : n.log2 - (52 + d) = n'.log2 - (52 + d)
    · rw [c]
      have := rne_mono n n' (n'.log2 - (52 + d) + d) h
      omega
    · have a1 : rne n (n.log2 - (52 + d) + d) ≤ 9007199254740992 := by
        refine rne_le _ _ _ ?_
        have := log2_lt n h0
        rw [show (9007199254740992 : Nat) = 2 ^ 53 by decide, ← Nat.pow_add]
        exact Nat.le_of_lt (Nat.lt_of_lt_of_le this (Nat.pow_le_pow_right (by decide) (by omega)))
      have a2 : 4503599627370496 ≤ rne n' (n'.log2 - (52 + d) + d) := by
        refine le_rne _ _ _ ?_
        have := log2_le n' h0'
        rw [show (4503599627370496 : Nat) = 2 ^ 52 by decide, ← Nat.pow_add]
        exact Nat.le_trans (Nat.pow_le_pow_right (by decide) (by omega)) this
      omega
theorem toInt_any {x : Nat} (c : Nat) (hc : c = 1074) (hf : rg x < 9218868437227405312) : (Ieee.double.read x).toInt .zero = some (if sg x then -((vl (rg x) / 2 ^ c : Nat) : Int) else ((vl (rg x) / 2 ^ c : Nat) : Int)) := by
  obtain ⟨m, k, hm, em⟩ := read_fin hf
  unfold Ieee.Datum.toInt
  rw [hm]
  unfold Ieee.Datum.integral
  simp only []
  rw [cut_zero]
  have e : m <<< (-1074 + (k : Int)).toNat / 2 ^ (-(-1074 + (k : Int))).toNat = vl (rg x) / 2 ^ c := by
    rw [← em, Nat.shiftLeft_eq]
    by_cases h : 1074 ≤ k
    · obtain ⟨j, rfl⟩ : ∃ j, k = j + c := ⟨k - c, by omega⟩
      rw [show (-1074 + ((j + c : Nat) : Int)).toNat = j by omega, show (-(-1074 + ((j + c : Nat) : Int))).toNat = 0 by omega, Nat.pow_add, ← Nat.mul_assoc, Nat.mul_div_cancel _ (Nat.two_pow_pos c), Nat.pow_zero, Nat.div_one]
    · rw [show (-1074 + (k : Int)).toNat = 0 by omega, Nat.pow_zero, Nat.mul_one, show (-(-1074 + (k : Int))).toNat = c - k by omega]
      have e2 : 2 ^ c = 2 ^ (c - k) * 2 ^ k := by rw [← Nat.pow_add, show c - k + k = c by omega]
      rw [e2, Nat.mul_div_mul_right _ _ (Nat.two_pow_pos k)]
  rw [e]
  unfold Ieee.signed
  cases sg x
  · rw [if_neg (by decide), Nat.shiftLeft_zero, if_neg (by decide)]
  · rw [if_pos rfl, Nat.shiftLeft_zero, if_pos rfl]
/-- a float of few bits, made whole, is an integer of few bits -/
theorem whole_int {p : Nat} (c : Nat) (hc : c = 1074) (hf : rg p < 9218868437227405312) (hv : vl (rg p) ≤ 4194304 * 2 ^ c) :
    ∃ k : Nat, k ≤ 4194304 ∧ whF p = wd (sg p) (rq (k * 2 ^ c) 0) ∧ vl (rq (k * 2 ^ c) 0) = k * 2 ^ c ∧ floatToIntVal .f64 (whF p) .i64 = some (if sg p then -(k : Int) else k) := by
  have hk : rne (vl (rg p)) c ≤ 4194304 := rne_le _ _ _ hv
  have hw := whF_fin c hc hf
  generalize rne (vl (rg p)) c = k at *
  have hl : (k * 2 ^ c).log2 < 2098 := by
    by_cases z : k = 0
    · rw [z, Nat.zero_mul]; exact (by decide : Nat.log2 0 < 2098)
    · rw [log2_mul _ _ z]
      have : k.log2 < 23 := (Nat.log2_lt z).2 (Nat.lt_of_le_of_lt hk (by decide))
      omega
  obtain ⟨v1, v2⟩ := rq_rep (k * 2 ^ c) ⟨k, c, rfl, by omega⟩ hl
  refine ⟨k, hk, hw, v1, ?_⟩
  rw [hw]
  generalize hR : rq (k * 2 ^ c) 0 = R at *
  have hg := rg_wd (sg p) R (by omega)
  have hs := sg_wd (sg p) R (by omega)
  have ht := toInt_any (x := wd (sg p) R) c hc (by rw [hg]; exact v2)
  rw [hg, hs, v1, Nat.mul_div_cancel _ (Nat.two_pow_pos c)] at ht
  unfold floatToIntVal
  show (match (Ieee.double.read (wd (sg p) R)).toInt .zero with | some n => if IntKind.i64.min ≤ n ∧ n ≤ IntKind.i64.max then some n else none | none => none) = _
  rw [ht]
  have h1 : IntKind.i64.min = -9223372036854775808 := rfl
  have h2 : IntKind.i64.max = 9223372036854775807 := rfl
  simp only []
  rw [h1, h2, if_pos (by split <;> omega)]
end Go.Proofs.YtgnbmilmipbaoaaDoor.Fl
namespace Go.Proofs.YtgnbmilmipbaoaaDoor
open Go.ChangeShapes Go.WideShapes Go.ChangeAt Go.RowKit
set_option linter.unusedVariables false
/-- n is p made whole -/
def whR (p n : Nat) : Prop := n < 18446744073709551616 ∧ (if Fl.nan p = true then Fl.nan n = true else n = Fl.whF p)
theorem whR.sim {p p' n n' : Nat} (h : whR p n) (k : whR p' n') (e : simR p p') : simR n n' := by
  obtain ⟨_, h⟩ := h
  obtain ⟨_, k⟩ := k
  rcases e with rfl | ⟨e1, e2⟩
  · by_cases c : Fl.nan p = true
    · rw [if_pos c] at h k; exact Or.inr ⟨h, k⟩
    · rw [if_neg c] at h k; exact Or.inl (h.trans k.symm)
  · rw [if_pos e1] at h
    rw [if_pos e2] at k
    exact Or.inr ⟨h, k⟩
/-- n is how often the logarithm of 2 goes into x -/
def foldR (x n : Nat) : Prop := ∃ p, opR .mul x 4609176140021203710 p ∧ whR p n
theorem foldR.sim {x x' n n' : Nat} (h : foldR x n) (k : foldR x' n') (e : simR x x') : simR n n' := by
  obtain ⟨p, h1, h2⟩ := h
  obtain ⟨p', k1, k2⟩ := k
  exact h2.sim k2 (h1.sim (Or.inr (Or.inr (Or.inl rfl))) k1 e (simR.refl _))
/-- in the middle it is an integer of few bits -/
theorem fold_int {x n : Nat} (hr : Fl.rg x ≤ 4652218415073722368) (h : foldR x n) : Fl.nan n = false ∧ ∃ q : Int, -4194304 ≤ q ∧ q ≤ 4194304 ∧ floatToIntVal .f64 n .i64 = some q := by
  obtain ⟨p, h1, h2⟩ := h
  have hm := Fl.mul_fin (x := x) (y := 4609176140021203710) (by omega) (by decide)
  have e1 : p = Fl.wd (Fl.sg x ^^ Fl.sg 4609176140021203710) (Fl.rq (Fl.vl (Fl.rg x) * Fl.vl (Fl.rg 4609176140021203710)) 1074) := by
    rcases h1.2 with k | k
    · exact (Option.some.inj (hm.symm.trans k)).symm
    · exact absurd (hm.symm.trans k.1) (by intro c; cases c)
  have hle : Fl.rq (Fl.vl (Fl.rg x) * Fl.vl (Fl.rg 4609176140021203710)) 1074 ≤ 4661225614328463360 := by
    have a := Fl.rq_mono (Fl.vl (Fl.rg x) * Fl.vl (Fl.rg 4609176140021203710)) (Fl.vl 4652218415073722368 * Fl.vl 4609176140021203710) 1074
      (Nat.mul_le_mul (by rcases Nat.lt_or_ge (Fl.rg x) 4652218415073722368 with c | c; exact Nat.le_of_lt (Fl.vl_mono c); rw [show Fl.rg x = 4652218415073722368 by omega]; exact Nat.le_refl _) (Nat.le_refl _))
    exact Nat.le_trans a (by decide +kernel)
  have hg : Fl.rg p = Fl.rq (Fl.vl (Fl.rg x) * Fl.vl (Fl.rg 4609176140021203710)) 1074 := by rw [e1]; exact Fl.rg_wd _ _ (by omega)
  have np : Fl.nan p = false := by unfold Fl.nan; exact decide_eq_false (by omega)
  obtain ⟨n1, n2⟩ := h2
  rw [if_neg (by rw [np]; decide)] at n2
  obtain ⟨c, hc⟩ : ∃ c, c = 1074 := ⟨_, rfl⟩
  have hv : Fl.vl (Fl.rg p) ≤ 4194304 * 2 ^ c := by
    have a : Fl.vl (Fl.rg p) ≤ Fl.vl 4661225614328463360 := by
      rcases Nat.lt_or_ge (Fl.rg p) 4661225614328463360 with c | c
      · exact Nat.le_of_lt (Fl.vl_mono c)
      · rw [show Fl.rg p = 4661225614328463360 by omega]; exact Nat.le_refl _
    refine Nat.le_trans a ?_
    rw [hc]
    decide +kernel
  obtain ⟨k, hk, hw, _, ht⟩ := Fl.whole_int c hc (by omega) hv
  subst n2
  refine ⟨?_, _, ?_, ?_, ht⟩
  · rw [hw]; exact Fl.nan_wd _ _ (Fl.rq_le _ _)
  · split <;> omega
  · split <;> omega
end Go.Proofs.YtgnbmilmipbaoaaDoor
/-
  OWN TEXT: the exponential, and that less 1, for every float: what they come to; the reference's (eddyref04.Rest, Exp, Less).
-/
namespace Go.Proofs.YtgnbmilmipbaoaaDoor
open Go.ChangeShapes Go.WideShapes Go.ChangeAt Go.RowKit
open Bg
set_option linter.unusedVariables false
attribute [local go_sem] frombits_call tobits_call run_neg
theorem fr_bw {w w' : World} (h : Fr w w') : Bw w w' := h.1
theorem Tab.bw {w w' : World} (h : Tab w) (hs : 2 ≤ w.heap.size) (f : Bw w w') : Tab w' := fun j hj => (Below.cell f (p := ⟨1, j, none⟩) hs).trans (h j hj)
theorem risQ_lt {r : Nat} : ∀ (i t : Nat), risQ r i t → t < 18446744073709551616
  | 0, t, h => by have e : t = 4607182418800017408 := h; omega
  | i + 1, t, ⟨_, _, _, _, _, _, h⟩ => h.1
/-- the rest of x less n times the logarithm of 2 -/
def restR (x n r : Nat) : Prop := ∃ nh d nl, opR .mul n 4604418534311723008 nh ∧ opR .sub x nh d ∧ opR .mul n 4461442080421002358 nl ∧ opR .sub d nl r
theorem restR.sim {x n n' r r' : Nat} (h : restR x n r) (k : restR x n' r') (e : simR n n') : simR r r' := by
  obtain ⟨nh, d, nl, h1, h2, h3, h4⟩ := h
  obtain ⟨nh', d', nl', k1, k2, k3, k4⟩ := k
  have mu : isOp .mul := Or.inr (Or.inr (Or.inl rfl))
  have su : isOp .sub := Or.inr (Or.inl rfl)
  exact h4.sim su k4 (h2.sim su k2 (simR.refl _) (h1.sim mu k1 e (simR.refl _))) (h3.sim mu k3 e (simR.refl _))
/-- the exponential of x in the middle -/
def exP (x y : Nat) : Prop := ∃ n r t q, foldR x n ∧ restR x n r ∧ risQ r 13 t ∧ floatToIntVal .f64 n .i64 = some q ∧ y = scF t q
def expR (x y : Nat) : Prop := y < 18446744073709551616 ∧
  if Fl.nan x = true then Fl.nan y = true
  else if Fl.ltF 4649454594685214392 x = true then y = 9218868437227405312
  else if Fl.ltF x 13873137573428325253 = true then y = 0
  else exP x y
theorem scF_nan {t : Nat} (h : Fl.nan t = true) (n : Int) : scF t n = t := scF_stay (Or.inr (Nat.le_of_lt (Fl.nan_lt h))) n
theorem mid_rg {x : Nat} (hx : x < 18446744073709551616) (c0 : Fl.nan x = false) (c1 : Fl.ltF 4649454594685214392 x = false) (c2 : Fl.ltF x 13873137573428325253 = false) : Fl.rg x ≤ 4652218415073722368 := by
  unfold Fl.ltF at c1 c2
  rw [c0, show Fl.nan 4649454594685214392 = false by decide, show Fl.key 4649454594685214392 = 4649454594685214392 by decide] at c1
  rw [c0, show Fl.nan 13873137573428325253 = false by decide, show Fl.key 13873137573428325253 = -4649765536573549445 by decide] at c2
  simp only [Bool.not_false, Bool.true_and, decide_eq_false_iff_not] at c1 c2
  unfold Fl.key at c1 c2
  cases e : Fl.sg x <;> rw [e] at c1 c2 <;> simp at c1 c2 <;> omega
theorem exP.sim {x y y' : Nat} (hr : Fl.rg x ≤ 4652218415073722368) (h : exP x y) (k : exP x y') : simR y y' := by
  obtain ⟨n, r, t, q, h1, h2, h3, h4, h5⟩ := h
  obtain ⟨n', r', t', q', k1, k2, k3, k4, k5⟩ := k
  have hn := (fold_int hr h1).1
  have en : n = n' := by
    rcases h1.sim k1 (simR.refl _) with e | ⟨e, _⟩
    · exact e
    · rw [hn] at e; cases e
  subst en
  have eq : q = q' := Option.some.inj (h4.symm.trans k4)
  subst eq
  subst h5
  subst k5
  rcases risQ.sim (h2.sim k2 (simR.refl _)) 13 t t' h3 k3 with e | ⟨e1, e2⟩
  · subst e; exact simR.refl _
  · rw [scF_nan e1, scF_nan e2]; exact Or.inr ⟨e1, e2⟩
theorem expR.sim {x y y' : Nat} (hx : x < 18446744073709551616) (h : expR x y) (k : expR x y') : simR y y' := by
  obtain ⟨_, h⟩ := h
  obtain ⟨_, k⟩ := k
  by_cases c0 : Fl.nan x = true
  · rw [if_pos c0] at h k; exact Or.inr ⟨h, k⟩
  · rw [if_neg c0] at h k
    by_cases c1 : Fl.ltF 4649454594685214392 x = true
    · rw [if_pos c1] at h k; exact Or.inl (h.trans k.symm)
    · rw [if_neg c1] at h k
      by_cases c2 : Fl.ltF x 13873137573428325253 = true
      · rw [if_pos c2] at h k; exact Or.inl (h.trans k.symm)
      · rw [if_neg c2] at h k
        exact h.sim (mid_rg hx (Bool.eq_false_iff.2 c0) (Bool.eq_false_iff.2 c1) (Bool.eq_false_iff.2 c2)) k
/-- the exponential of x, less 1 -/
def lessR (x y : Nat) : Prop := y < 18446744073709551616 ∧
  if Fl.nan x = true then Fl.nan y = true
  else if Fl.ltF 4649454594685214392 x = true then y = 9218868437227405312
  else ∃ n, foldR x n ∧ if Fl.eqF n 0 = true then ∃ t, risQ x 12 t ∧ opR .mul x t y else ∃ e, expR x e ∧ opR .sub e 4607182418800017408 y
theorem lessR.sim {x y y' : Nat} (hx : x < 18446744073709551616) (h : lessR x y) (k : lessR x y') : simR y y' := by
  obtain ⟨_, h⟩ := h
  obtain ⟨_, k⟩ := k
  by_cases c0 : Fl.nan x = true
  · rw [if_pos c0] at h k; exact Or.inr ⟨h, k⟩
  · rw [if_neg c0] at h k
    by_cases c1 : Fl.ltF 4649454594685214392 x = true
    · rw [if_pos c1] at h k; exact Or.inl (h.trans k.symm)
    · rw [if_neg c1] at h k
      obtain ⟨n, h1, h2⟩ := h
      obtain ⟨n', k1, k2⟩ := k
      have en : Fl.eqF n 0 = Fl.eqF n' 0 := by
        rcases h1.sim k1 (simR.refl _) with e | ⟨e1, e2⟩
        · rw [e]
        · unfold Fl.eqF; rw [e1, e2]; rfl
      rw [← en] at k2
      by_cases c2 : Fl.eqF n 0 = true
      · rw [if_pos c2] at h2 k2
        obtain ⟨t, h3, h4⟩ := h2
        obtain ⟨t', k3, k4⟩ := k2
        exact h4.sim (Or.inr (Or.inr (Or.inl rfl))) k4 (simR.refl _) (risQ.sim (simR.refl _) 12 t t' h3 k3)
      · rw [if_neg c2] at h2 k2
        obtain ⟨t, h3, h4⟩ := h2
        obtain ⟨t', k3, k4⟩ := k2
        exact h4.sim (Or.inr (Or.inl rfl)) k4 (h3.sim hx k3) (simR.refl _)
theorem infp_ret (w : World) : Calls Tryd.prog 18 #[.int .i64 1] w fun e w' => e = .returned (.float .f64 9218868437227405312) ∧ w' = w := by
  go_enter Tryd.func18, Tryd.ntmps18
  go_wp2
  go_ret
  exact ⟨rfl, rfl⟩
theorem whR_of (p : Nat) (hp : p < 18446744073709551616) : whR p (if Fl.nan p = true then p else Fl.whF p) := by
  by_cases c : Fl.nan p = true
  · rw [if_pos c]; exact ⟨hp, by rw [if_pos c]; exact c⟩
  · rw [if_neg c]; exact ⟨(Fl.whF_ng hp (Bool.eq_false_iff.2 c)).2.1, by rw [if_neg c]⟩
set_option maxHeartbeats 4000000 in
theorem rrest_any (x : Nat) (w : World) : Calls Tryd.prog 25 #[.float .f64 x] w fun e w' => ∃ n r, e = .returned (.tuple #[.float .f64 n, .float .f64 r]) ∧ foldR x n ∧ restR x n r ∧ Bw w w' := by
  obtain ⟨p, w1, hp, e1, g1⟩ := op_run .mul (Or.inr (Or.inr (Or.inl rfl))) x 4609176140021203710 w
  have hw := whR_of p hp.1
  have WH : Hid (∀ wz, Calls Tryd.prog 28 #[.float .f64 p] wz fun e w' => e = .returned (.float .f64 (if Fl.nan p = true then p else Fl.whF p)) ∧ w' = wz) := fun wz => rwhole_any p wz hp.1
  generalize (if Fl.nan p = true then p else Fl.whF p) = n at *
  obtain ⟨nh, w2, hnh, e2, g2⟩ := op_run .mul (Or.inr (Or.inr (Or.inl rfl))) n 4604418534311723008 w1
  obtain ⟨d, w3, hd, e3, g3⟩ := op_run .sub (Or.inr (Or.inl rfl)) x nh w2
  obtain ⟨nl, w4, hnl, e4, g4⟩ := op_run .mul (Or.inr (Or.inr (Or.inl rfl))) n 4461442080421002358 w3
  obtain ⟨r, w5, hr, e5, g5⟩ := op_run .sub (Or.inr (Or.inl rfl)) d nl w4
  have G := bw_trans (bw_trans (bw_trans (bw_trans g1 g2) g3) g4) g5
  have F1 : Hid (foldR x n) := ⟨p, hp, hw⟩
  have F2 : Hid (restR x n r) := ⟨nh, d, nl, hnh, hd, hnl, hr⟩
  clear g1 g2 g3 g4 g5 hp hw hnh hd hnl hr
  go_enter Tryd.func25, Tryd.ntmps25
  go_wp2_with (go_at_call 28; refine (WH.out _).mono ?_; rintro e' w9 ⟨rfl, hw9⟩; subst hw9)
  go_ret2
  exact ⟨n, r, rfl, F1.out, F2.out, G⟩
theorem exp_cases (x : Nat) : Fl.nan x = true ∨ (Fl.nan x = false ∧ Fl.ltF 4649454594685214392 x = true) ∨ (Fl.nan x = false ∧ Fl.ltF 4649454594685214392 x = false ∧ Fl.ltF x 13873137573428325253 = true) ∨ (Fl.nan x = false ∧ Fl.ltF 4649454594685214392 x = false ∧ Fl.ltF x 13873137573428325253 = false) := by
  cases Fl.nan x <;> cases Fl.ltF 4649454594685214392 x <;> cases Fl.ltF x 13873137573428325253 <;> simp
set_option maxHeartbeats 4000000 in
theorem rexp_any (x : Nat) (w : World) (hx : x < 18446744073709551616) (hT : Tab w) (hw : 2 ≤ w.heap.size) : Calls Tryd.prog 8 #[.float .f64 x] w fun e w' => ∃ y, e = .returned (.float .f64 y) ∧ expR x y ∧ Bw w w' := by
  have g0 := Fl.o_ne x x
  rw [Fl.eqF_self, Bool.not_not] at g0
  have g1 := Fl.o_gt x 4649454594685214392
  have g2 := Fl.o_lt x 13873137573428325253
  have T : Hid (Tab w) := hT
  clear hT
  rcases exp_cases x with h | ⟨h0, h1⟩ | ⟨h0, h1, h2⟩ | ⟨h0, h1, h2⟩
  · have HL : Hid (expR x x) := ⟨hx, by rw [if_pos h]; exact h⟩
    rw [h] at g0
    clear g1 g2
    go_enter Tryd.func8, Tryd.ntmps8
    go_wp2
    go_ret
    exact ⟨_, rfl, HL.out, Bw.refl _⟩
  · have HL : Hid (expR x 9218868437227405312) := ⟨by decide, by rw [if_neg (by rw [h0]; decide), if_pos h1]⟩
    rw [h0] at g0
    rw [h1] at g1
    clear g2
    go_enter Tryd.func8, Tryd.ntmps8
    go_wp2_with (go_at_call 18; refine (infp_ret _).mono ?_; rintro e w ⟨rfl, rfl⟩)
    go_ret
    exact ⟨_, rfl, HL.out, Bw.refl _⟩
  · have HL : Hid (expR x 0) := ⟨by decide, by rw [if_neg (by rw [h0]; decide), if_neg (by rw [h1]; decide), if_pos h2]⟩
    rw [h0] at g0
    rw [h1] at g1
    rw [h2] at g2
    go_enter Tryd.func8, Tryd.ntmps8
    go_wp2
    go_ret
    exact ⟨_, rfl, HL.out, Bw.refl _⟩
  · have hr := mid_rg hx h0 h1 h2
    have HL : Hid (∀ y, y < 18446744073709551616 → exP x y → expR x y) := fun y hy hp => ⟨hy, by rw [if_neg (by rw [h0]; decide), if_neg (by rw [h1]; decide), if_neg (by rw [h2]; decide)]; exact hp⟩
    rw [h0] at g0
    rw [h1] at g1
    rw [h2] at g2
    go_enter Tryd.func8, Tryd.ntmps8
    go_wp2_with fail
    refine (rrest_any x _).mono ?_
    rintro e w1 ⟨n, r, rfl, hf, hre, b1⟩
    obtain ⟨nn, q, q1, q2, hq⟩ := fold_int hr hf
    have HF : Hid (foldR x n) := hf
    have HR : Hid (restR x n r) := hre
    clear hf hre nn
    go_wp2_with fail
    refine (rrising_any r 1 _ (by decide) (by decide)).mono ?_
    rintro e w2 ⟨t, rfl, ht, b2⟩
    have B2 := bw_trans b1 b2
    have htl := risQ_lt _ _ ht
    have HT : Hid (risQ r 13 t) := ht
    clear ht b1 b2
    have hs2 := Below.size B2
    have T2 : Hid (Tab w2) := T.out.bw hw B2
    have hcv := run_convert_float_int (P := Tryd.prog) w2 23 3 .f64 .i64 n q (by kernel_rfl) (by kernel_rfl) hq
    go_wp2_with fail
    refine (rscale_any t q _ htl T2.out (by omega)).mono ?_
    rintro e w3 ⟨rfl, b3⟩
    have B3 := bw_trans B2 (fr_bw b3)
    have HE : Hid (expR x (scF t q)) := HL.out _ (scF_lt htl q) ⟨n, r, t, q, HF.out, HR.out, HT.out, hq, rfl⟩
    clear HF HR HT HL T T2 b3 B2 hs2 hq hcv
    generalize scF t q = y at *
    go_wp2
    go_ret
    exact ⟨_, rfl, HE.out, B3⟩
set_option maxHeartbeats 4000000 in
theorem rless_any (x : Nat) (w : World) (hx : x < 18446744073709551616) (hT : Tab w) (hw : 2 ≤ w.heap.size) : Calls Tryd.prog 10 #[.float .f64 x] w fun e w' => ∃ y, e = .returned (.float .f64 y) ∧ lessR x y ∧ Bw w w' := by
  have g0 := Fl.o_ne x x
  rw [Fl.eqF_self, Bool.not_not] at g0
  have g1 := Fl.o_gt x 4649454594685214392
  have T : Hid (Tab w) := hT
  clear hT
  cases h : Fl.nan x
  · rw [h] at g0
    cases h1 : Fl.ltF 4649454594685214392 x
    · rw [h1] at g1
      obtain ⟨p, w1, hp, e1, b1⟩ := op_run .mul (Or.inr (Or.inr (Or.inl rfl))) x 4609176140021203710 w
      have hwh := whR_of p hp.1
      have WH : Hid (∀ wz, Calls Tryd.prog 28 #[.float .f64 p] wz fun e w' => e = .returned (.float .f64 (if Fl.nan p = true then p else Fl.whF p)) ∧ w' = wz) := fun wz => rwhole_any p wz hp.1
      generalize (if Fl.nan p = true then p else Fl.whF p) = n at *
      have HF : foldR x n := ⟨p, hp, hwh⟩
      have g3 := Fl.o_eq n 0
      cases c : Fl.eqF n 0
      · rw [c] at g3
        have HL : Hid (∀ e y, expR x e → opR .sub e 4607182418800017408 y → lessR x y) := fun e y h2 h3 => ⟨h3.1, by rw [if_neg (by rw [h]; decide), if_neg (by rw [h1]; decide)]; exact ⟨n, HF, by rw [if_neg (by rw [c]; decide)]; exact ⟨e, h2, h3⟩⟩⟩
        clear hp hwh HF
        go_enter Tryd.func10, Tryd.ntmps10
        go_wp2_with (first | (go_at_call 28; refine (WH.out _).mono ?_; rintro e' w9 ⟨rfl, hw9⟩; subst hw9) | fail)
        have hs2 := Below.size b1
        refine (rexp_any x _ hx (T.out.bw hw b1) (by omega)).mono ?_
        rintro e w2 ⟨y, rfl, hy, b2⟩
        obtain ⟨z, w3, hz, e3, b3⟩ := op_run .sub (Or.inr (Or.inl rfl)) y 4607182418800017408 w2
        have B := bw_trans (bw_trans b1 b2) b3
        have HE : Hid (lessR x z) := HL.out y z hy hz
        clear hy hz HL b1 b2 b3 T
        go_wp2
        go_ret
        exact ⟨_, rfl, HE.out, B⟩
      · rw [c] at g3
        have HL : Hid (∀ t y, risQ x 12 t → opR .mul x t y → lessR x y) := fun e y h2 h3 => ⟨h3.1, by rw [if_neg (by rw [h]; decide), if_neg (by rw [h1]; decide)]; exact ⟨n, HF, by rw [if_pos c]; exact ⟨e, h2, h3⟩⟩⟩
        clear hp hwh HF
        go_enter Tryd.func10, Tryd.ntmps10
        go_wp2_with (first | (go_at_call 28; refine (WH.out _).mono ?_; rintro e' w9 ⟨rfl, hw9⟩; subst hw9) | fail)
        refine (rrising_any x 2 _ (by decide) (by decide)).mono ?_
        rintro e w2 ⟨y, rfl, hy, b2⟩
        obtain ⟨z, w3, hz, e3, b3⟩ := op_run .mul (Or.inr (Or.inr (Or.inl rfl))) x y w2
        have B := bw_trans (bw_trans b1 b2) b3
        have HE : Hid (lessR x z) := HL.out y z hy hz
        clear hy hz HL b1 b2 b3 T
        go_wp2
        go_ret
        exact ⟨_, rfl, HE.out, B⟩
    · have HL : Hid (lessR x 9218868437227405312) := ⟨by decide, by rw [if_neg (by rw [h]; decide), if_pos h1]⟩
      rw [h1] at g1
      go_enter Tryd.func10, Tryd.ntmps10
      go_wp2_with (go_at_call 18; refine (infp_ret _).mono ?_; rintro e w ⟨rfl, rfl⟩)
      go_ret
      exact ⟨_, rfl, HL.out, Bw.refl _⟩
  · have HL : Hid (lessR x x) := ⟨hx, by rw [if_pos h]; exact h⟩
    rw [h] at g0
    clear g1
    go_enter Tryd.func10, Tryd.ntmps10
    go_wp2
    go_ret
    exact ⟨_, rfl, HL.out, Bw.refl _⟩
end Go.Proofs.YtgnbmilmipbaoaaDoor
/-
  OWN TEXT: the program's rising sum (elem.rising), for every float.
-/
namespace Go.Proofs.YtgnbmilmipbaoaaDoor
open Go.ChangeShapes Go.WideShapes Go.ChangeAt Go.RowKit
set_option linter.unusedVariables false
attribute [local go_sem] frombits_call tobits_call run_neg
set_option maxHeartbeats 4000000 in
theorem rising_any (r j : Nat) (w : World) (hj : 1 ≤ j) (hj' : j ≤ 13) : Calls Tryd.prog 21 #[.float .f64 r, .int .i64 (j : Int)] w fun e w' => ∃ t, e = .returned (.float .f64 t) ∧ risQ r (14 - j) t ∧ Bw w w' := by
  go_enter Tryd.func21, Tryd.ntmps21
  go_wp2
  go_loopw [5, 9] (fun t k wr => ∃ (i n : Nat), i ≤ 14 - j ∧ t = .float .f64 n ∧ k = .int .i64 (i : Int) ∧ risQ r i n ∧ Bw w wr) (fun _ k _ => 14 - (intOf k).toNat)
  case atStart => exact ⟨0, 4607182418800017408, by omega, rfl, rfl, rfl, Bw.refl _⟩
  case round =>
    obtain ⟨i, n, hi, rfl, rfl, hq, hg⟩ := hrel
    have HQ : Hid (risQ r i n) := hq
    clear hq
    by_cases c : i < 14 - j
    · have hk : (i : Int) < 14 - (j : Int) := by omega
      obtain ⟨p, w2, hp, e2, g2⟩ := op_run .mul (Or.inr (Or.inr (Or.inl rfl))) r n wr
      obtain ⟨d, w3, hd, e3, g3⟩ := op_run .quo (Or.inr (Or.inr (Or.inr rfl))) p (floatOfInt .f64 (13 - (i : Int))) w2
      obtain ⟨t', w4, ht', e4, g4⟩ := op_run .add (Or.inl rfl) 4607182418800017408 d w3
      have hgg := bw_trans (bw_trans (bw_trans hg g2) g3) g4
      have R : ∃ (i' n' : Nat), i' ≤ 14 - j ∧ Value.float .f64 t' = .float .f64 n' ∧ Value.int .i64 ((i : Int) + 1) = .int .i64 (i' : Int) ∧ risQ r i' n' ∧ Bw w w4 :=
        ⟨i + 1, t', by omega, rfl, by rw [show (i : Int) + 1 = ((i + 1 : Nat) : Int) by omega], ⟨n, p, d, HQ.out, hp, hd, ht'⟩, hgg⟩
      have HR : Hid _ := R
      clear R hd hp ht' g2 g3 g4 hg HQ hgg
      go_wp2
      go_roundw
      case rel => exact HR.out
      case measure => simp [intOf]; omega
    · have hi' : i = 14 - j := by omega
      have hk : ¬ (i : Int) < 14 - (j : Int) := by omega
      have HI : Hid (i = 14 - j) := hi'
      clear c hi hi'
      go_wp2
      go_ret
      exact ⟨n, rfl, by rw [← HI.out]; exact HQ.out, hg⟩
end Go.Proofs.YtgnbmilmipbaoaaDoor
/-
  OWN TEXT: the program's rising sum, exponential, and that less 1 (elem.rising, elem.folds, elem.Exp, elem.Less), for every float.
-/
namespace Go.Proofs.YtgnbmilmipbaoaaDoor
open Go.ChangeShapes Go.WideShapes Go.ChangeAt Go.RowKit
set_option linter.unusedVariables false
attribute [local go_sem] frombits_call tobits_call run_neg
theorem even_nanB (x : Nat) (w : World) (hx : x < 18446744073709551616) (hn : Fl.nan x = true) : ∃ z w', (callFunc 42 #[.float .f64 x]).run Tryd.prog w = .ok (.value (.float .f64 z)) w' ∧ Fl.nan z = true ∧ z < 18446744073709551616 ∧ Bw w w' := by
  have hl := Fl.nan_lt hn
  have hr := Fl.rg_lt x
  obtain ⟨q, hq, e⟩ := even_none x (Fl.sg x) (Fl.rg x - 9218868437227405312) (Fl.read_nan hl)
  have hz := quiet_nan (Fl.sg x) (Fl.rg x - 9218868437227405312) (by omega)
  rw [even_call, e]
  by_cases c : FloatKind.f64.format.quiet (Fl.rg x - 9218868437227405312) = Fl.rg x - 9218868437227405312
  · rw [if_pos c]; exact ⟨x, w, rfl, hn, hx, Bw.refl _⟩
  · rw [if_neg c]
    generalize FloatKind.f64.encode (.nan (Fl.sg x) (FloatKind.f64.format.quiet (Fl.rg x - 9218868437227405312))) = z at *
    by_cases k : (q.cut (w.tape w.drawn q) == 1) = true
    · refine ⟨x, w.drew, ?_, hn, hx, (Bw.refl _).drew⟩
      have : ((choose q).bind fun kept => pure (Value.float .f64 (if kept == 1 then x else z))).run Tryd.prog w = .ok (.float .f64 x) w.drew := by
        show Sem.run Tryd.prog (Sem.choose q fun kept => _) w = _
        simp only [Sem.run, hq, Bool.false_eq_true, if_false]
        change Result.ok (Value.float .f64 (if (q.cut (w.tape w.drawn q) == 1) = true then x else z)) w.drew = _
        rw [if_pos k]
      rw [this]; rfl
    · refine ⟨z, w.drew, ?_, hz.1, hz.2, (Bw.refl _).drew⟩
      have : ((choose q).bind fun kept => pure (Value.float .f64 (if kept == 1 then x else z))).run Tryd.prog w = .ok (.float .f64 z) w.drew := by
        show Sem.run Tryd.prog (Sem.choose q fun kept => _) w = _
        simp only [Sem.run, hq, Bool.false_eq_true, if_false]
        change Result.ok (Value.float .f64 (if (q.cut (w.tape w.drawn q) == 1) = true then x else z)) w.drew = _
        rw [if_neg k]
      rw [this]; rfl
theorem whole_nanB (x : Nat) (w : World) (hx : x < 18446744073709551616) (hn : Fl.nan x = true) : Calls Tryd.prog 35 #[.float .f64 x] w fun e w' => ∃ z, e = .returned (.float .f64 z) ∧ Fl.nan z = true ∧ z < 18446744073709551616 ∧ Bw w w' := by
  obtain ⟨z, w1, c, hz, hl, hg⟩ := even_nanB x w hx hn
  have HZ : Hid (Fl.nan z = true) := hz
  clear hz hn
  go_enter Tryd.func35, Tryd.ntmps35
  go_wp2
  go_ret
  exact ⟨z, rfl, HZ.out, hl, hg⟩
theorem beyond_any (x : Nat) (w : World) : Calls Tryd.prog 17 #[.float .f64 x] w fun e w' => e = .returned (.bool (Fl.ltF 4649454594685214392 x)) ∧ w' = w := by
  have g1 := Fl.o_gt x 4649454594685214392
  generalize Fl.ltF 4649454594685214392 x = b at *
  go_enter Tryd.func17, Tryd.ntmps17
  go_wp2
  go_ret
  exact ⟨rfl, rfl⟩
theorem per_any (w : World) : Calls Tryd.prog 29 #[.int .u64 4609176140021203710] w fun e w' => e = .returned (.float .f64 4609176140021203710) ∧ w' = w := by
  have h := from_any 4609176140021203710 w
  exact h
set_option maxHeartbeats 4000000 in
theorem folds_any (x : Nat) (w : World) : Calls Tryd.prog 19 #[.float .f64 x] w fun e w' => ∃ n, e = .returned (.float .f64 n) ∧ foldR x n ∧ Bw w w' := by
  obtain ⟨p, w1, hp, e1, g1⟩ := op_run .mul (Or.inr (Or.inr (Or.inl rfl))) x 4609176140021203710 w
  have hp1 := hp.1
  have HP : Hid (opR .mul x 4609176140021203710 p) := hp
  clear hp
  cases hn : Fl.nan p
  · have WH : Hid (∀ wz, Calls Tryd.prog 35 #[.float .f64 p] wz fun e w' => e = .returned (.float .f64 (Fl.whF p)) ∧ w' = wz) := fun wz => whole_num p wz hn
    have HW : Hid (whR p (Fl.whF p)) := ⟨(Fl.whF_ng hp1 hn).2.1, by rw [if_neg (by rw [hn]; decide)]⟩
    generalize Fl.whF p = n at *
    go_enter Tryd.func19, Tryd.ntmps19
    go_wp2_with (first | (go_at_call 29; refine (per_any _).mono ?_; rintro e' w9 ⟨rfl, hw9⟩; subst hw9) | (go_at_call 35; refine (WH.out _).mono ?_; rintro e' w9 ⟨rfl, hw9⟩; subst hw9))
    go_ret
    exact ⟨n, rfl, ⟨p, HP.out, HW.out⟩, g1⟩
  · go_enter Tryd.func19, Tryd.ntmps19
    go_wp2_with (first | (go_at_call 29; refine (per_any _).mono ?_; rintro e' w9 ⟨rfl, hw9⟩; subst hw9) | fail)
    refine (whole_nanB p _ hp1 hn).mono ?_
    rintro e w2 ⟨z, rfl, hz, hz2, b2⟩
    have B := bw_trans g1 b2
    have HW : Hid (whR p z) := ⟨hz2, by rw [if_pos hn]; exact hz⟩
    clear hz b2 g1
    go_wp2
    go_ret
    exact ⟨z, rfl, ⟨p, HP.out, HW.out⟩, B⟩
set_option maxHeartbeats 4000000 in
theorem exp_any (x : Nat) (w : World) (hx : x < 18446744073709551616) : Calls Tryd.prog 5 #[.float .f64 x] w fun e w' => ∃ y, e = .returned (.float .f64 y) ∧ expR x y ∧ Bw w w' := by
  have g2 := Fl.o_lt x 13873137573428325253
  rcases exp_cases x with h | ⟨h0, h1⟩ | ⟨h0, h1, h2⟩ | ⟨h0, h1, h2⟩
  · have HL : Hid (expR x x) := ⟨hx, by rw [if_pos h]; exact h⟩
    have IN : Hid (∀ wz, Calls Tryd.prog 16 #[.float .f64 x] wz fun e w' => e = .returned (.bool true) ∧ w' = wz) := fun wz => by have k := isNaN_any x wz; rw [h] at k; exact k
    clear g2
    go_enter Tryd.func5, Tryd.ntmps5
    go_wp2_with (go_at_call 16; refine (IN.out _).mono ?_; rintro e w ⟨rfl, rfl⟩)
    go_ret
    exact ⟨_, rfl, HL.out, Bw.refl _⟩
  · have HL : Hid (expR x 9218868437227405312) := ⟨by decide, by rw [if_neg (by rw [h0]; decide), if_pos h1]⟩
    have IN : Hid (∀ wz, Calls Tryd.prog 16 #[.float .f64 x] wz fun e w' => e = .returned (.bool false) ∧ w' = wz) := fun wz => by have k := isNaN_any x wz; rw [h0] at k; exact k
    have BE : Hid (∀ wz, Calls Tryd.prog 17 #[.float .f64 x] wz fun e w' => e = .returned (.bool true) ∧ w' = wz) := fun wz => by have k := beyond_any x wz; rw [h1] at k; exact k
    clear g2
    go_enter Tryd.func5, Tryd.ntmps5
    go_wp2_with (first | (go_at_call 16; refine (IN.out _).mono ?_; rintro e w ⟨rfl, rfl⟩) | (go_at_call 17; refine (BE.out _).mono ?_; rintro e w ⟨rfl, rfl⟩) | (go_at_call 18; refine (infp_ret _).mono ?_; rintro e w ⟨rfl, rfl⟩))
    go_ret
    exact ⟨_, rfl, HL.out, Bw.refl _⟩
  · have HL : Hid (expR x 0) := ⟨by decide, by rw [if_neg (by rw [h0]; decide), if_neg (by rw [h1]; decide), if_pos h2]⟩
    have IN : Hid (∀ wz, Calls Tryd.prog 16 #[.float .f64 x] wz fun e w' => e = .returned (.bool false) ∧ w' = wz) := fun wz => by have k := isNaN_any x wz; rw [h0] at k; exact k
    have BE : Hid (∀ wz, Calls Tryd.prog 17 #[.float .f64 x] wz fun e w' => e = .returned (.bool false) ∧ w' = wz) := fun wz => by have k := beyond_any x wz; rw [h1] at k; exact k
    rw [h2] at g2
    go_enter Tryd.func5, Tryd.ntmps5
    go_wp2_with (first | (go_at_call 16; refine (IN.out _).mono ?_; rintro e w ⟨rfl, rfl⟩) | (go_at_call 17; refine (BE.out _).mono ?_; rintro e w ⟨rfl, rfl⟩))
    go_ret
    exact ⟨_, rfl, HL.out, Bw.refl _⟩
  · have hr := mid_rg hx h0 h1 h2
    have HL : Hid (∀ y, y < 18446744073709551616 → exP x y → expR x y) := fun y hy hp => ⟨hy, by rw [if_neg (by rw [h0]; decide), if_neg (by rw [h1]; decide), if_neg (by rw [h2]; decide)]; exact hp⟩
    have IN : Hid (∀ wz, Calls Tryd.prog 16 #[.float .f64 x] wz fun e w' => e = .returned (.bool false) ∧ w' = wz) := fun wz => by have k := isNaN_any x wz; rw [h0] at k; exact k
    have BE : Hid (∀ wz, Calls Tryd.prog 17 #[.float .f64 x] wz fun e w' => e = .returned (.bool false) ∧ w' = wz) := fun wz => by have k := beyond_any x wz; rw [h1] at k; exact k
    rw [h2] at g2
    go_enter Tryd.func5, Tryd.ntmps5
    go_wp2_with (first | (go_at_call 16; refine (IN.out _).mono ?_; rintro e w ⟨rfl, rfl⟩) | (go_at_call 17; refine (BE.out _).mono ?_; rintro e w ⟨rfl, rfl⟩) | fail)
    refine (folds_any x _).mono ?_
    rintro e w1 ⟨n, rfl, hf, b1⟩
    obtain ⟨nn, q, q1, q2, hq⟩ := fold_int hr hf
    obtain ⟨nh, w2, hnh, e2, b2⟩ := op_run .mul (Or.inr (Or.inr (Or.inl rfl))) n 4604418534311723008 w1
    obtain ⟨d, w3, hd, e3, b3⟩ := op_run .sub (Or.inr (Or.inl rfl)) x nh w2
    obtain ⟨nl, w4, hnl, e4, b4⟩ := op_run .mul (Or.inr (Or.inr (Or.inl rfl))) n 4461442080421002358 w3
    obtain ⟨r, w5, hre, e5, b5⟩ := op_run .sub (Or.inr (Or.inl rfl)) d nl w4
    have B1 := bw_trans (bw_trans (bw_trans (bw_trans b1 b2) b3) b4) b5
    have HF : Hid (foldR x n) := hf
    have HR : Hid (restR x n r) := ⟨nh, d, nl, hnh, hd, hnl, hre⟩
    clear hf hnh hd hnl hre nn b1 b2 b3 b4 b5
    go_wp2_with (first | (go_at_call 11; refine (two_any _).mono ?_; rintro e' w9 ⟨rfl, hw9⟩; subst hw9) | fail)
    refine (rising_any r 1 _ (by decide) (by decide)).mono ?_
    rintro e w6 ⟨t, rfl, ht, b6⟩
    have B2 := bw_trans B1 b6
    have htl := risQ_lt _ _ ht
    have HT : Hid (risQ r 13 t) := ht
    clear ht b6 B1
    have hcv := run_convert_float_int (P := Tryd.prog) w6 23 3 .f64 .i64 n q (by kernel_rfl) (by kernel_rfl) hq
    go_wp2_with fail
    refine (scale_any t q _ htl (by omega) (by omega)).mono ?_
    rintro e w7 ⟨rfl, hw7⟩
    have HE : Hid (expR x (scF t q)) := HL.out _ (scF_lt htl q) ⟨n, r, t, q, HF.out, HR.out, HT.out, hq, rfl⟩
    subst hw7
    clear HF HR HT HL hq hcv
    generalize scF t q = y at *
    go_wp2
    go_ret
    exact ⟨_, rfl, HE.out, B2⟩
theorem less_nan {x n e y : Nat} (h : Fl.nan x = true) (he : expR x e) (hs : opR .sub e 4607182418800017408 y) : lessR x y := by
  obtain ⟨_, k⟩ := he
  rw [if_pos h] at k
  exact ⟨hs.1, by rw [if_pos h]; exact hs.nan (nan_left .sub (Or.inr (Or.inl rfl)) k)⟩
theorem fold_nan {x n : Nat} (h : Fl.nan x = true) (hf : foldR x n) : Fl.nan n = true := by
  obtain ⟨p, h1, h2⟩ := hf
  have hp := h1.nan (nan_left .mul (Or.inr (Or.inr (Or.inl rfl))) h)
  have := h2.2
  rw [if_pos hp] at this
  exact this
set_option maxHeartbeats 4000000 in
theorem less_any (x : Nat) (w : World) (hx : x < 18446744073709551616) : Calls Tryd.prog 9 #[.float .f64 x] w fun e w' => ∃ y, e = .returned (.float .f64 y) ∧ lessR x y ∧ Bw w w' := by
  cases h1 : Fl.ltF 4649454594685214392 x
  · have BE : Hid (∀ wz, Calls Tryd.prog 17 #[.float .f64 x] wz fun e w' => e = .returned (.bool false) ∧ w' = wz) := fun wz => by have k := beyond_any x wz; rw [h1] at k; exact k
    go_enter Tryd.func9, Tryd.ntmps9
    go_wp2_with (first | (go_at_call 17; refine (BE.out _).mono ?_; rintro e w ⟨rfl, rfl⟩) | fail)
    refine (folds_any x _).mono ?_
    rintro e w1 ⟨n, rfl, hf, b1⟩
    have g3 := Fl.o_eq n 0
    cases c : Fl.eqF n 0
    · rw [c] at g3
      have HL : Hid (∀ e y, expR x e → opR .sub e 4607182418800017408 y → lessR x y) := fun e y h2 h3 => by
        cases h : Fl.nan x
        · exact ⟨h3.1, by rw [if_neg (by rw [h]; decide), if_neg (by rw [h1]; decide)]; exact ⟨n, hf, by rw [if_neg (by rw [c]; decide)]; exact ⟨e, h2, h3⟩⟩⟩
        · exact less_nan (n := n) h h2 h3
      clear hf
      go_wp2_with fail
      refine (exp_any x _ hx).mono ?_
      rintro e w2 ⟨y, rfl, hy, b2⟩
      obtain ⟨z, w3, hz, e3, b3⟩ := op_run .sub (Or.inr (Or.inl rfl)) y 4607182418800017408 w2
      have B := bw_trans (bw_trans b1 b2) b3
      have HE : Hid (lessR x z) := HL.out y z hy hz
      clear hy hz HL b1 b2 b3
      go_wp2
      go_ret
      exact ⟨_, rfl, HE.out, B⟩
    · rw [c] at g3
      have h : Fl.nan x = false := by
        cases h : Fl.nan x
        · rfl
        · have := fold_nan h hf
          unfold Fl.eqF at c
          rw [this] at c
          cases c
      have HL : Hid (∀ t y, risQ x 12 t → opR .mul x t y → lessR x y) := fun e y h2 h3 => ⟨h3.1, by rw [if_neg (by rw [h]; decide), if_neg (by rw [h1]; decide)]; exact ⟨n, hf, by rw [if_pos c]; exact ⟨e, h2, h3⟩⟩⟩
      clear hf
      go_wp2_with fail
      refine (rising_any x 2 _ (by decide) (by decide)).mono ?_
      rintro e w2 ⟨y, rfl, hy, b2⟩
      obtain ⟨z, w3, hz, e3, b3⟩ := op_run .mul (Or.inr (Or.inr (Or.inl rfl))) x y w2
      have B := bw_trans (bw_trans b1 b2) b3
      have HE : Hid (lessR x z) := HL.out y z hy hz
      clear hy hz HL b1 b2 b3
      go_wp2
      go_ret
      exact ⟨_, rfl, HE.out, B⟩
  · have h0 : Fl.nan x = false := by
      unfold Fl.ltF at h1
      rw [Bool.and_eq_true, Bool.and_eq_true] at h1
      simpa using h1.1.2
    have HL : Hid (lessR x 9218868437227405312) := ⟨by decide, by rw [if_neg (by rw [h0]; decide), if_pos h1]⟩
    have BE : Hid (∀ wz, Calls Tryd.prog 17 #[.float .f64 x] wz fun e w' => e = .returned (.bool true) ∧ w' = wz) := fun wz => by have k := beyond_any x wz; rw [h1] at k; exact k
    go_enter Tryd.func9, Tryd.ntmps9
    go_wp2_with (first | (go_at_call 17; refine (BE.out _).mono ?_; rintro e w ⟨rfl, rfl⟩) | (go_at_call 18; refine (infp_ret _).mono ?_; rintro e w ⟨rfl, rfl⟩))
    go_ret
    exact ⟨_, rfl, HL.out, Bw.refl _⟩
end Go.Proofs.YtgnbmilmipbaoaaDoor
/-
  OWN TEXT: the law ElemExps over a list of floats.
-/
namespace Go.Proofs.YtgnbmilmipbaoaaDoor
open Go.ChangeShapes Go.WideShapes Go.ChangeAt Go.RowKit
open Bg
set_option linter.unusedVariables false
attribute [local go_sem] frombits_call tobits_call run_neg
theorem f4_any (x : Nat) (w : World) : Calls Tryd.prog 6 #[.int .u64 (x : Int)] w fun e w' => e = .returned (.float .f64 x) ∧ w' = w := by
  go_enter Tryd.func6, Tryd.ntmps6
  go_wp2
  go_ret
  exact ⟨rfl, rfl⟩
set_option maxHeartbeats 8000000 in
set_option maxRecDepth 100000 in
theorem elemexps_any (a : Option Addr) (len cap : Nat) (F : Nat → Nat) (w : World) (hreach : len * 8 ≤ 140737488351232) (hT : Tab w) (hw : 2 ≤ w.heap.size) (hF : ∀ j, j < len → F j < 18446744073709551616)
    (hc : 0 < len → ∃ b off, a = some ⟨b, off, none⟩ ∧ b < w.heap.size ∧ ∀ j, j < len → w.cell? ⟨b, off + j, none⟩ = some (.int .u64 (F j : Int))) :
    Calls Tryd.prog 3 #[.slice a len cap] w fun e w' => e = .returned (.bool true) ∧ Below w.heap.size w w' := by
  have HC : Hid (0 < len → ∃ b off, a = some ⟨b, off, none⟩ ∧ b < w.heap.size ∧ ∀ j, j < len → w.cell? ⟨b, off + j, none⟩ = some (.int .u64 (F j : Int))) := hc
  have HF : Hid (∀ j, j < len → F j < 18446744073709551616) := hF
  have T : Hid (Tab w) := hT
  clear hc hF hT
  go_enter Tryd.func3, Tryd.ntmps3
  go_wp2_with fail
  refine (exp_any 4607182418800017408 _ (by decide)).mono ?_
  rintro e w0 ⟨y0, rfl, hy0, g0⟩
  have HY0 : Hid (expR 4607182418800017408 y0) := hy0
  clear hy0
  go_wp2_with fail
  go_loopw [4] (fun i wr => ∃ k : Nat, k ≤ len ∧ i = .int .i64 k ∧ Bw w wr) (fun i _ => len - (intOf i).toNat)
  case atStart => exact ⟨0, Nat.zero_le _, rfl, g0⟩
  case round =>
    obtain ⟨k, hk, rfl, hbl⟩ := hrel
    by_cases hk1 : k < len
    · have hsz := Below.size hbl
      obtain ⟨b, off, rfl, hb, hcc⟩ := HC.out (by omega)
      have hcx : wr.cell? ⟨b, off + k, none⟩ = some (.int .u64 (F k : Int)) := (Below.cell hbl hb).trans (hcc k hk1)
      have hFk := HF.out k hk1
      clear hcc HC HF
      generalize F k = x at *
      go_wp2_with fail
      refine (f4_any x _).mono ?_
      rintro e wr ⟨rfl, rfl⟩
      go_wp2_with fail
      refine (exp_any x _ hFk).mono ?_
      rintro e w1 ⟨y1, rfl, hy1, b1⟩
      have HY1 : Hid (expR x y1) := hy1
      have B1 := bw_trans hbl b1
      clear hy1 b1 hbl hcx
      go_wp2_with fail
      have hs1 := Below.size B1
      refine (rexp_any x _ hFk (T.out.bw hw B1) (by omega)).mono ?_
      rintro e w2 ⟨y2, rfl, hy2, b2⟩
      have hs := (HY1.out.sim hFk hy2).same
      have B2 := bw_trans B1 b2
      clear hy2 b2 B1 HY1 hs1
      go_wp2_with fail
      refine (rsame_any y1 y2 _).mono ?_
      rintro e v1 ⟨rfl, hv1⟩
      rw [hs]
      subst hv1
      clear hs
      go_wp2_with fail
      refine (less_any x _ hFk).mono ?_
      rintro e w3 ⟨y3, rfl, hy3, b3⟩
      have HY3 : Hid (lessR x y3) := hy3
      have B3 := bw_trans B2 b3
      clear hy3 b3 B2
      go_wp2_with fail
      have hs3 := Below.size B3
      refine (rless_any x _ hFk (T.out.bw hw B3) (by omega)).mono ?_
      rintro e w4 ⟨y4, rfl, hy4, b4⟩
      have hs := (HY3.out.sim hFk hy4).same
      have B4 := bw_trans B3 b4
      clear hy4 b4 B3 HY3 hs3
      go_wp2_with fail
      refine (rsame_any y3 y4 _).mono ?_
      rintro e v3 ⟨rfl, hv3⟩
      rw [hs]
      subst hv3
      clear hs
      go_wp2
      go_roundw
      case rel => exact ⟨k + 1, by omega, by simp, B4⟩
      case measure => simp [intOf]; omega
    · have hkl : k = len := by omega
      subst hkl
      go_wp2_with fail
      have hs0 := Below.size hbl
      refine (rexp_any 4607182418800017408 _ (by decide) (T.out.bw hw hbl) (by omega)).mono ?_
      rintro e w1 ⟨y1, rfl, hy1, b1⟩
      have hs := (HY0.out.sim (by decide) hy1).same
      have B1 := bw_trans hbl b1
      clear hy1 b1 hbl
      go_wp2_with fail
      refine (rsame_any y0 y1 _).mono ?_
      rintro e w3 ⟨rfl, hw3⟩
      rw [hs]
      subst hw3
      clear hs
      go_wp2
      go_ret
      exact ⟨rfl, B1⟩
end Go.Proofs.YtgnbmilmipbaoaaDoor
