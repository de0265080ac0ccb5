/-
  OWN TEXT: how great a sum, product, quotient can be; how great a logarithm can be.
-/
import Derived.Test.YtdbfhbpillgacaaEvA
namespace Go.Proofs.Ytdbfhbpillgacaa.Fl
set_option linter.unusedVariables false
theorem vl_le {r s : Nat} (h : r ≤ s) : vl r ≤ vl s := by
  rcases Nat.lt_or_ge r s with c | c
  · exact Nat.le_of_lt (vl_mono c)
  · rw [show r = s by omega]; exact Nat.le_refl _
theorem quo_le (m n a b M : Nat) (hn : 0 < n) (h : m * 2 ^ a ≤ n * 2 ^ b) (h1 : m = 0 ∨ n ≤ m * 2 ^ M) :
    (2 * (m <<< M / n) + (m <<< M % n != 0).toNat) * 2 ^ a ≤ 2 ^ (b + M + 1) := by
  rw [Nat.shiftLeft_eq]
  have hD : m * 2 ^ M * 2 ^ a ≤ n * 2 ^ (b + M) := by
    rw [Nat.mul_right_comm, Nat.pow_add, ← Nat.mul_assoc]
    exact Nat.mul_le_mul_right _ h
  have hP2 : 2 ^ (b + M + 1) = 2 * 2 ^ (b + M) := by rw [Nat.pow_succ, Nat.mul_comm]
  rw [hP2]
  have hdm := Nat.div_add_mod (m * 2 ^ M) n
  by_cases r0 : m * 2 ^ M % n = 0
  · rw [r0]
    rw [r0, Nat.add_zero] at hdm
    generalize m * 2 ^ M / n = q at *
    rw [← hdm, Nat.mul_assoc] at hD
    have := Nat.le_of_mul_le_mul_left hD hn
    simp only [bne_self_eq_false, Bool.toNat_false, Nat.add_zero]
    rw [Nat.mul_assoc]
    omega
  · have hm : n ≤ m * 2 ^ M := by
      rcases h1 with e | e
      · rw [e, Nat.zero_mul, Nat.zero_mod] at r0; exact absurd rfl r0
      · exact e
    have hq : 1 ≤ m * 2 ^ M / n := Nat.div_pos hm hn
    have hb : (m * 2 ^ M % n != 0).toNat = 1 := by
      rw [show (m * 2 ^ M % n != 0) = true by simp [r0]]; rfl
    rw [hb]
    generalize hqe : m * 2 ^ M / n = q at *
    generalize m * 2 ^ M % n = r at *
    have hlt : n * (q * 2 ^ a) < n * 2 ^ (b + M) := by
      refine Nat.lt_of_lt_of_le ?_ hD
      rw [← Nat.mul_assoc, ← hdm]
      exact Nat.mul_lt_mul_of_pos_right (by omega) (Nat.two_pow_pos a)
    have hlt2 := Nat.lt_of_mul_lt_mul_left hlt
    have hab : a < b + M := by
      rcases Nat.lt_or_ge a (b + M) with c | c
      · exact c
      · have := Nat.pow_le_pow_right (n := 2) (by decide) c
        have k := Nat.le_mul_of_pos_left (2 ^ a) (show 0 < q by omega)
        omega
    have e : 2 ^ (b + M) = 2 ^ (b + M - a) * 2 ^ a := by rw [← Nat.pow_add, show b + M - a + a = b + M by omega]
    rw [e] at hlt2 ⊢
    have hx := Nat.lt_of_mul_lt_mul_right hlt2
    rw [← Nat.mul_assoc]
    exact Nat.mul_le_mul_right _ (by omega)
/-- a quotient of a smaller by a greater one is at most 1 -/
theorem div_le {x y : Nat} (c : Nat) (hc : c = 1074) (hx : rg x < 9218868437227405312) (hy : rg y < 9218868437227405312) (h0 : ¬ rg y = 0) (h : rg x ≤ rg y) :
    ∃ z, Ieee.double.div x y = some z ∧ z < 18446744073709551616 ∧ rg z ≤ 4607182418800017408 := by
  obtain ⟨m, a, hm, em⟩ := read_fin hx
  obtain ⟨n, b, hn, en⟩ := read_fin hy
  have hn0 : n ≠ 0 := by
    intro e
    rw [e, Nat.zero_mul] at en
    exact vl_pos h0 en.symm
  unfold Ieee.Format.div
  rw [hm, hn]
  unfold Ieee.Datum.quotient
  simp only []
  rw [if_neg hn0]
  have hfb : Ieee.double.fractionBits = 52 := rfl
  rw [hfb]
  generalize hM : 52 + 2 + n.log2 - m.log2 = M
  have h1 : m = 0 ∨ n ≤ m * 2 ^ M := by
    by_cases z : m = 0
    · exact Or.inl z
    · right
      have l1 := log2_le m z
      have l2 := log2_lt n hn0
      have l3 : 2 ^ (n.log2 + 1) ≤ 2 ^ (m.log2 + M) := Nat.pow_le_pow_right (by decide) (by omega)
      have l4 : 2 ^ (m.log2 + M) ≤ m * 2 ^ M := by rw [Nat.pow_add]; exact Nat.mul_le_mul_right _ l1
      omega
  have hv : m * 2 ^ a ≤ n * 2 ^ b := by rw [em, en]; exact vl_le h
  have hq := quo_le m n a b M (by omega) hv h1
  generalize 2 * (m <<< M / n) + (m <<< M % n != 0).toNat = Q at *
  have hne := nearest_eq (sg x ^^ sg y) Q (a + c) (b + M + 1)
  rw [show -1074 + ((a + c : Nat) : Int) - ((b + M + 1 : Nat) : Int) = -1074 + (a : Int) - (-1074 + (b : Int)) - (M : Int) - 1 by omega] at hne
  have hle : rq (Q * 2 ^ (a + c)) (b + M + 1) ≤ 4607182418800017408 := by
    have k := rq_mono (Q * 2 ^ (a + c)) (vl 4607182418800017408 * 2 ^ (b + M + 1)) (0 + (b + M + 1)) (by
      rw [vl_one, ← hc, Nat.pow_add, ← Nat.mul_assoc, Nat.mul_comm (2 ^ c)]
      exact Nat.mul_le_mul_right _ hq)
    rw [rq_mul, rq_vl _ (by decide), Nat.zero_add] at k
    exact k
  refine ⟨wd (sg x ^^ sg y) (rq (Q * 2 ^ (a + c)) (b + M + 1)), ?_, wd_lt _ _ (by omega), by rw [rg_wd _ _ (by omega)]; exact hle⟩
  rw [← hne]
  rfl
end Go.Proofs.Ytdbfhbpillgacaa.Fl
namespace Go.Proofs.Ytdbfhbpillgacaa
open Go.ChangeShapes Go.WideShapes Go.ChangeAt Go.RowKit
set_option linter.unusedVariables false
/-- x is a float whose rung is at most r -/
def Bd (x r : Nat) : Prop := x < 18446744073709551616 ∧ Fl.rg x ≤ r
theorem bd_mul {a b x ra rb : Nat} (ha : Bd a ra) (hb : Bd b rb) (fa : ra < 9218868437227405312) (fb : rb < 9218868437227405312) (h : opR .mul a b x) : Bd x (Fl.rq (Fl.vl ra * Fl.vl rb) 1074) := by
  have e := h.word (Fl.mul_fin (x := a) (y := b) (by have := ha.2; omega) (by have := hb.2; omega))
  refine ⟨h.1, ?_⟩
  rw [e, Fl.rg_wd _ _ (by have := Fl.rq_le (Fl.vl (Fl.rg a) * Fl.vl (Fl.rg b)) 1074; omega)]
  exact Fl.rq_mono _ _ _ (Nat.mul_le_mul (Fl.vl_le ha.2) (Fl.vl_le hb.2))
theorem bd_add {a b x ra rb : Nat} (ha : Bd a ra) (hb : Bd b rb) (fa : ra < 9218868437227405312) (fb : rb < 9218868437227405312) (h : opR .add a b x) : Bd x (Fl.rq (Fl.vl ra + Fl.vl rb) 0) := by
  have e : x = Fl.aw a b := h.word (Fl.add_fin (x := a) (y := b) (by have := ha.2; omega) (by have := hb.2; omega))
  refine ⟨h.1, ?_⟩
  rw [e, Fl.rg_aw]
  refine Fl.rq_mono _ _ _ ?_
  have k := Int.natAbs_add_le (Fl.val a) (Fl.val b)
  rw [Fl.val_abs, Fl.val_abs] at k
  have k1 := Fl.vl_le ha.2
  have k2 := Fl.vl_le hb.2
  omega
/-- the odd sum's rounds -/
def bQ : Nat → Nat
  | 0 => 4585925428558828667
  | i + 1 => Fl.rq (Fl.vl 4602678819172646912 + Fl.vl (Fl.rq (Fl.vl 4607182418800017408 * Fl.vl (bQ i)) 1074)) 0
theorem bQ_fin : ∀ i : Fin 12, bQ i.val < 9218868437227405312 ∧ Fl.rq (Fl.vl 4607182418800017408 * Fl.vl (bQ i.val)) 1074 < 9218868437227405312 := by decide +kernel
def okD (o : Option Nat) (r : Nat) : Bool := match o with | some d => decide (Fl.rg d ≤ r) | none => false
theorem okD_of {op : BinOp} {a b x r : Nat} (h : opR op a b x) (k : okD (opV op a b) r = true) : Bd x r := by
  unfold okD at k
  split at k
  · rename_i d e
    have := op_val h e
    subst this
    exact ⟨h.1, of_decide_eq_true k⟩
  · cases k
theorem dv : ∀ i : Fin 11, okD (opV .quo 4607182418800017408 (floatOfInt .f64 (23 - 2 * (i.val : Int)))) 4602678819172646912 = true := by decide +kernel
theorem oddQ_bd {s : Nat} (hs : Bd s 4607182418800017408) : ∀ (i q : Nat), i ≤ 11 → oddQ s i q → Bd q (bQ i)
  | 0, q, _, h => by have e : q = 4585925428558828667 := h; subst e; exact ⟨by decide, by decide⟩
  | i + 1, q', hi, ⟨q, d, p, h1, h2, h3, h4⟩ => by
    have b1 := oddQ_bd hs i q (by omega) h1
    have b2 := okD_of h2 (dv ⟨i, by omega⟩)
    have f := bQ_fin ⟨i, by omega⟩
    have b3 := bd_mul hs b1 (by decide) f.1 h3
    exact bd_add b2 b3 (by decide) f.2 h4
theorem oddR_bd {f y : Nat} (hf : Bd f 4607182418800017408) (h : oddR f y) : Bd y 4624070917402656768 := by
  obtain ⟨s, q, a, p, r, h1, h2, h3, h4, h5, h6⟩ := h
  have b1 : Bd s 4607182418800017408 := by
    have := bd_mul hf hf (by decide) (by decide) h1
    rw [show Fl.rq (Fl.vl 4607182418800017408 * Fl.vl 4607182418800017408) 1074 = 4607182418800017408 by decide +kernel] at this
    exact this
  have b2 : Bd q 4618441417868443648 := ⟨(oddQ_bd b1 11 q (by decide) h2).1, Nat.le_trans (oddQ_bd b1 11 q (by decide) h2).2 (by decide +kernel)⟩
  have b3 : Bd a 4611686018427387904 := by
    have := bd_mul (a := 4611686018427387904) (ra := 4611686018427387904) ⟨by decide, by decide⟩ hf (by decide) (by decide) h3
    exact ⟨this.1, Nat.le_trans this.2 (by decide +kernel)⟩
  have b4 : Bd p 4618441417868443648 := by
    have := bd_mul b1 b2 (by decide) (by decide) h4
    exact ⟨this.1, Nat.le_trans this.2 (by decide +kernel)⟩
  have b5 : Bd r 4622945017495814144 := by
    have := bd_mul b3 b4 (by decide) (by decide) h5
    exact ⟨this.1, Nat.le_trans this.2 (by decide +kernel)⟩
  have := bd_add b3 b5 (by decide) (by decide) h6
  exact ⟨this.1, Nat.le_trans this.2 (by decide +kernel)⟩
theorem int_bd : ∀ k : Fin 2151, Fl.rg (floatOfInt .f64 ((k.val : Int) - 1075)) ≤ 4652442715445788672 ∧ floatOfInt .f64 ((k.val : Int) - 1075) < 18446744073709551616 := by decide +kernel
theorem logP_bd {m y : Nat} {e : Int} (h1m : m < 18446744073709551616) (hs : Fl.sg m = false) (hm : Fl.rg m ≤ 4611686018427387904) (he : -1075 ≤ e) (he' : e ≤ 1075) (h : logP m e y) : Bd y 4650248090236747776 := by
  obtain ⟨a, b, f, o, nh, nl, t, h1, h2, h3, h4, h5, h6, h7, h8⟩ := h
  have vm : Fl.val m = (Fl.vl (Fl.rg m) : Int) := by unfold Fl.val; rw [hs, if_neg (by decide)]
  have v1 : Fl.val 4607182418800017408 = (Fl.vl 4607182418800017408 : Int) := by
    unfold Fl.val; rw [show Fl.sg 4607182418800017408 = false by decide, if_neg (by decide), show Fl.rg 4607182418800017408 = 4607182418800017408 by decide]
  have ea := h1.word (Fl.sub_fin (x := m) (y := 4607182418800017408) (by decide) (by omega) (by decide))
  have eb : b = Fl.aw m 4607182418800017408 := h2.word (Fl.add_fin (x := m) (y := 4607182418800017408) (by omega) (by decide))
  have ra : Fl.rg a = Fl.rq (Fl.val m - Fl.val 4607182418800017408).natAbs 0 := by
    rw [ea]; exact Fl.rg_wd _ _ (by have := Fl.rq_le (Fl.val m - Fl.val 4607182418800017408).natAbs 0; omega)
  have rb : Fl.rg b = Fl.rq (Fl.val m + Fl.val 4607182418800017408).natAbs 0 := by rw [eb]; exact Fl.rg_aw _ _
  have hab : Fl.rg a ≤ Fl.rg b := by
    rw [ra, rb]
    refine Fl.rq_mono _ _ _ ?_
    rw [vm, v1]
    omega
  have hb1 : Fl.rg b < 9218868437227405312 := by
    have := bd_add (a := m) (b := 4607182418800017408) (rb := 4607182418800017408) ⟨h1m, hm⟩ ⟨by decide, by decide⟩ (by decide) (by decide) h2
    exact Nat.lt_of_le_of_lt this.2 (by decide +kernel)
  have hb0 : ¬ Fl.rg b = 0 := by
    rw [rb]
    have k : 1 ≤ Fl.vl 4607182418800017408 := Nat.pos_of_ne_zero (Fl.vl_pos (by decide))
    have := rq_pos (Fl.val m + Fl.val 4607182418800017408).natAbs (by rw [vm, v1]; omega)
    omega
  obtain ⟨z, ez, zl, zr⟩ := Fl.div_le 1074 rfl (x := a) (y := b) (by omega) hb1 hb0 hab
  have hf : Bd f 4607182418800017408 := by
    have e := h3.word ez
    rw [e]; exact ⟨zl, zr⟩
  have bo := oddR_bd hf h4
  have bi : Bd (floatOfInt .f64 e) 4652442715445788672 := by
    have k := int_bd ⟨(e + 1075).toNat, by omega⟩
    simp only [show (((e + 1075).toNat : Nat) : Int) - 1075 = e by omega] at k
    exact ⟨k.2, k.1⟩
  have bh : Bd nh 4649808285585637376 := by
    have := bd_mul bi (b := 4604418534311723008) (rb := 4604418534311723008) ⟨by decide, by decide⟩ (by decide) (by decide) h5
    exact ⟨this.1, Nat.le_trans this.2 (by decide +kernel)⟩
  have bl : Bd nl 4607182418800017408 := by
    have := bd_mul bi (b := 4461442080421002358) (rb := 4461442080421002358) ⟨by decide, by decide⟩ (by decide) (by decide) h6
    exact ⟨this.1, Nat.le_trans this.2 (by decide +kernel)⟩
  have bt := bd_add bl bo (by decide) (by decide) h7
  have bt' : Bd t 4625196817309499392 := ⟨bt.1, Nat.le_trans bt.2 (by decide +kernel)⟩
  have := bd_add bh bt' (by decide) (by decide) h8
  exact ⟨this.1, Nat.le_trans this.2 (by decide +kernel)⟩
end Go.Proofs.Ytdbfhbpillgacaa
