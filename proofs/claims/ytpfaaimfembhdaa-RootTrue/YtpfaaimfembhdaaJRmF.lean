/-
  OWN TEXT: lengths of mirrored and turned numbers; roots of mirrored numbers, their sides.
-/
import Derived.Test.YtpfaaimfembhdaaJRmE
import Derived.Test.YtpfaaimfembhdaaJAnM
set_option linter.unusedVariables false
set_option exponentiation.threshold 3000
namespace Go.Proofs.Ytpfaaimfembhdaa
theorem nan_of_rg {a b : Nat} (h : Fl.rg a = Fl.rg b) : Fl.nan a = Fl.nan b := by unfold Fl.nan; rw [h]
theorem big_swap {a b : Nat} (na : Fl.nan a = false) (nb : Fl.nan b = false) : bigF b a = bigF a b ∧ smaF b a = smaF a b := by
  obtain ⟨h1, h2⟩ := sma_big a b na nb
  obtain ⟨k1, k2⟩ := sma_big b a nb na
  omega
/-- a length does not hang on signs, nor on the order of the parts -/
theorem len_same {a b a' b' r r' : Nat} (h : lenR a b r) (k : lenR a' b' r') (e : (Fl.rg a' = Fl.rg a ∧ Fl.rg b' = Fl.rg b) ∨ (Fl.rg a' = Fl.rg b ∧ Fl.rg b' = Fl.rg a)) : simR r r' := by
  rcases e with ⟨e1, e2⟩ | ⟨e1, e2⟩
  · refine h.sim (r' := r') ?_
    obtain ⟨k0, k⟩ := k
    refine ⟨k0, ?_⟩
    have eb : bigF a' b' = bigF a b := by unfold bigF; rw [e1, e2]
    have es : smaF a' b' = smaF a b := by unfold smaF; rw [e1, e2]
    rw [e1, e2, nan_of_rg e1, nan_of_rg e2, eb] at k
    unfold lenP at k ⊢
    rw [eb, es] at k
    exact k
  · refine h.sim (r' := r') ?_
    obtain ⟨k0, k⟩ := k
    refine ⟨k0, ?_⟩
    rw [e1, e2, nan_of_rg e1, nan_of_rg e2] at k
    by_cases c1 : Fl.rg a = 9218868437227405312 ∨ Fl.rg b = 9218868437227405312
    · rw [if_pos c1]; rw [if_pos (by omega)] at k; exact k
    · rw [if_neg c1]; rw [if_neg (by omega)] at k
      by_cases c2 : Fl.nan a = true ∨ Fl.nan b = true
      · rw [if_pos c2]; rw [if_pos (Or.comm.1 c2)] at k; exact k
      · rw [if_neg c2]; rw [if_neg (fun c => c2 (Or.comm.1 c))] at k
        have na : Fl.nan a = false := Bool.eq_false_iff.2 (fun c => c2 (Or.inl c))
        have nb : Fl.nan b = false := Bool.eq_false_iff.2 (fun c => c2 (Or.inr c))
        obtain ⟨s1, s2⟩ := big_swap na nb
        have eb : bigF a' b' = bigF a b := by rw [← s1]; unfold bigF; rw [e1, e2]
        have es : smaF a' b' = smaF a b := by rw [← s2]; unfold smaF; rw [e1, e2]
        rw [eb] at k
        unfold lenP at k ⊢
        rw [eb, es] at k
        exact k
/-- what a length lies between -/
theorem len_bounds {a b r : Nat} (h : lenR a b r) (na : Fl.nan a = false) (nb : Fl.nan b = false) : Fl.sg r = false ∧ Fl.rg r ≤ 9218868437227405312 ∧ bigF a b ≤ Fl.rg r ∧ ∀ t, opR .add (Fl.rg a) (Fl.rg b) t → Fl.sg t = false ∧ Fl.rg t ≤ 9218868437227405312 ∧ Fl.rg r ≤ Fl.rg t + 1 := by
  obtain ⟨h0, h⟩ := h
  have ra : Fl.rg a ≤ 9218868437227405312 := by unfold Fl.nan at na; have := of_decide_eq_false na; omega
  have rb : Fl.rg b ≤ 9218868437227405312 := by unfold Fl.nan at nb; have := of_decide_eq_false nb; omega
  obtain ⟨sb1, sb2⟩ := sma_big a b na nb
  obtain ⟨a1, a2⟩ := rg_rung ra
  obtain ⟨b1, b2⟩ := rg_rung rb
  by_cases c1 : Fl.rg a = 9218868437227405312 ∨ Fl.rg b = 9218868437227405312
  · rw [if_pos c1] at h
    subst h
    refine ⟨by decide, by decide, by rw [show Fl.rg 9218868437227405312 = 9218868437227405312 by decide]; omega, ?_⟩
    intro t ht
    have key : t = 9218868437227405312 := by
      have e1 : ∀ x, x ≤ 9218868437227405312 → floatBits .add .f64 9218868437227405312 x = some 9218868437227405312 ∧ floatBits .add .f64 x 9218868437227405312 = some 9218868437227405312 := by
        intro x hx
        obtain ⟨x1, x2⟩ := rg_rung hx
        rcases Nat.lt_or_ge x 9218868437227405312 with g | g
        · obtain ⟨m, k, hm, _⟩ := Fl.read_fin (x := x) (by omega)
          have hi := Fl.read_inf (x := 9218868437227405312) (by decide)
          constructor
          · show Ieee.double.add _ _ = _
            unfold Ieee.Format.add
            rw [hi, hm]; rfl
          · show Ieee.double.add _ _ = _
            unfold Ieee.Format.add
            rw [hi, hm]; rfl
        · have : x = 9218868437227405312 := by omega
          subst this
          exact ⟨by decide +kernel, by decide +kernel⟩
      rcases c1 with c | c
      · rw [c] at ht
        have k := (e1 (Fl.rg b) rb).1
        rcases ht.2 with m | m
        · exact (Option.some.inj (k.symm.trans m)).symm
        · exact absurd (k.symm.trans m.1) (by intro c; cases c)
      · rw [c] at ht
        have k := (e1 (Fl.rg a) ra).2
        rcases ht.2 with m | m
        · exact (Option.some.inj (k.symm.trans m)).symm
        · exact absurd (k.symm.trans m.1) (by intro c; cases c)
    subst key
    exact ⟨by decide, by decide, by omega⟩
  · rw [if_neg c1, if_neg (by rw [na, nb]; simp)] at h
    have fa : Fl.rg a < 9218868437227405312 := by omega
    have fb : Fl.rg b < 9218868437227405312 := by omega
    have hadd : ∀ t, opR .add (Fl.rg a) (Fl.rg b) t → t = Fl.rq (Fl.vl (bigF a b) + Fl.vl (smaF a b)) 0 := by
      intro t ht
      have e := add_word a2 b2 (by omega) (by omega) ht
      rw [a1, b1] at e
      rcases sb2 with ⟨g1, g2⟩ | ⟨g1, g2⟩
      · rw [g1, g2]; exact e
      · rw [g1, g2, Nat.add_comm]; exact e
    have hBf : bigF a b < 9218868437227405312 := by omega
    by_cases c2 : bigF a b = 0
    · rw [if_pos c2] at h
      subst h
      refine ⟨by decide, by decide, by rw [c2]; omega, ?_⟩
      intro t ht
      have e := hadd t ht
      have l := Fl.rq_le (Fl.vl (bigF a b) + Fl.vl (smaF a b)) 0
      rw [← e] at l
      obtain ⟨t1, t2⟩ := rg_rung l
      refine ⟨t2, by omega, ?_⟩
      rw [show Fl.rg 0 = 0 by decide]; omega
    · rw [if_neg c2] at h
      obtain ⟨l, h1, h2⟩ := h
      obtain ⟨B1, B2⟩ := rg_rung (r := bigF a b) (by omega)
      obtain ⟨S1, S2⟩ := rg_rung (r := smaF a b) (by omega)
      rw [pa_pt (by omega) (by omega)] at h1 h2
      obtain ⟨L1, L2, L3, L4, L5⟩ := len_low (x := bigF a b) (y := smaF a b) (by omega) (by omega) (by omega) B2 S2 (by omega) h1
      subst h2
      refine ⟨L1, L3, by omega, ?_⟩
      intro t ht
      have e := hadd t ht
      have lt := Fl.rq_le (Fl.vl (bigF a b) + Fl.vl (smaF a b)) 0
      rw [← e] at lt
      obtain ⟨t1, t2⟩ := rg_rung lt
      refine ⟨t2, by omega, ?_⟩
      rw [t1]
      exact len_up (x := bigF a b) (y := smaF a b) (by omega) (by omega) (by omega) B2 S2 (by omega) h1 (by rw [B1, S1]; exact e)
/-- a quotient of finite floats, the lower one not nought: a number, with its sign -/
theorem div_sgn {y : Nat} (b : Nat) (fb : Fl.rg b < 9218868437227405312) (fy : Fl.rg y < 9218868437227405312) (zy : ¬ Fl.rg y = 0) :
    ∃ r, r ≤ 9218868437227405312 ∧ ∀ x, Fl.rg x = Fl.rg b → Ieee.double.div x y = some (Fl.wd (Fl.sg x ^^ Fl.sg y) r) := by
  obtain ⟨m, i, hm, em⟩ := Fl.read_fin (x := b) fb
  obtain ⟨n, j, hn, en⟩ := Fl.read_fin (x := y) fy
  have hn0 : n ≠ 0 := by
    intro e
    rw [e, Nat.zero_mul] at en
    exact Fl.vl_pos zy en.symm
  have hrd : ∀ x, Fl.rg x = Fl.rg b → Ieee.double.read x = .number (Fl.sg x) m (-1074 + (i : Int)) := by
    intro x hx
    have h1 := Fl.read_eq x
    have h2 := Fl.read_eq b
    rw [hm] at h2
    rw [h1, hx]
    by_cases c : Fl.rg b < 4503599627370496
    · rw [if_pos c] at h2 ⊢
      have k := Ieee.Datum.number.inj h2
      rw [k.2.1, k.2.2]
    · rw [if_neg c, if_pos fb] at h2 ⊢
      have k := Ieee.Datum.number.inj h2
      rw [k.2.1, k.2.2]
  obtain ⟨r, hr, hw⟩ := Fl.write_num false (2 * ((m <<< (52 + 2 + n.log2 - m.log2)) / n) + ((m <<< (52 + 2 + n.log2 - m.log2)) % n != 0).toNat) (-1074 + (i : Int) - (-1074 + (j : Int)) - ((52 + 2 + n.log2 - m.log2 : Nat) : Int) - 1)
  refine ⟨r, hr, ?_⟩
  intro x hx
  unfold Ieee.Format.div
  rw [hrd x hx, hn]
  unfold Ieee.Datum.quotient
  simp only []
  rw [if_neg hn0]
  simp only [Option.map_some]
  have := hw (Fl.sg x ^^ Fl.sg y)
  rw [← this]
  rfl
theorem unit_form2 {x : Nat} (g : Nat) (n : Int) (d : Nat) (hg : g = 1021) (hd : d ≤ 1) (hn : n = -ptE x + (d : Int)) (hx : x < 18446744073709551616) (hf : Fl.rg x < 9218868437227405312) (hz : ¬ Fl.rg x = 0) :
    Fl.rg (scF x n) = Fl.rq (mtF x * 2 ^ (g + d)) 0 ∧ Fl.vl (Fl.rg (scF x n)) = mtF x * 2 ^ (g + d) ∧ 4602678819172646912 ≤ Fl.rg (scF x n) ∧ Fl.rg (scF x n) < 4611686018427387904 := by
  have h1 := rz_form hx hf hz n
  rw [rz_nat (mtF x) (g + d) _ (by omega)] at h1
  have h2 := Fl.vl_comb (g + d) (mtF x) (by have := mt_hi x; omega) (Or.inr (mt_lo x))
  have h3 : Fl.rq (mtF x * 2 ^ (g + d)) 0 = (g + d) * 4503599627370496 + mtF x := by
    rw [← h2]
    exact Fl.rq_vl _ (by have := mt_hi x; omega)
  have := mt_hi x
  have := mt_lo x
  rw [rg_scF hf hz, h1]
  refine ⟨rfl, ?_, by omega, by omega⟩
  rw [h3, h2]
theorem two_sq : Fl.rq (Fl.vl 4611686018427387904 * Fl.vl 4611686018427387904) 1074 = 4616189618054758400 := by decide +kernel
theorem four_four : Fl.rq (Fl.vl 4616189618054758400 + Fl.vl 4616189618054758400) 0 = 4620693217682128896 := by decide +kernel
/-- the squares of at most 2, and their sum -/
theorem tog_form2 {u v l : Nat} (su : Fl.sg u = false) (sv : Fl.sg v = false) (hu : Fl.rg u ≤ 4611686018427387904) (hv : Fl.rg v ≤ 4611686018427387904) (h : togR u v l) :
    ∃ p q s, p = Fl.rq (Fl.vl (Fl.rg u) * Fl.vl (Fl.rg u)) 1074 ∧ q = Fl.rq (Fl.vl (Fl.rg v) * Fl.vl (Fl.rg v)) 1074 ∧ p ≤ s ∧ q ≤ s ∧ s ≤ 4620693217682128896 ∧ sqtR s l := by
  obtain ⟨s, ⟨p, q, h1, h2, h3⟩, h4⟩ := h
  have ep := mul_word (by omega) (by omega) h1
  have eq := mul_word (by omega) (by omega) h2
  rw [su, Bool.xor_false, wd_false] at ep
  rw [sv, Bool.xor_false, wd_false] at eq
  have lp : p ≤ 4616189618054758400 := by
    rw [ep, ← two_sq]
    exact Fl.rq_mono _ _ _ (Nat.mul_le_mul (Fl.vl_le_iff.2 hu) (Fl.vl_le_iff.2 hu))
  have lq : q ≤ 4616189618054758400 := by
    rw [eq, ← two_sq]
    exact Fl.rq_mono _ _ _ (Nat.mul_le_mul (Fl.vl_le_iff.2 hv) (Fl.vl_le_iff.2 hv))
  obtain ⟨rp, sp⟩ := rg_rung (r := p) (by omega)
  obtain ⟨rq, sq⟩ := rg_rung (r := q) (by omega)
  have es := add_word sp sq (by omega) (by omega) h3
  rw [rp, rq] at es
  refine ⟨p, q, s, ep, eq, ?_, ?_, ?_, h4⟩
  · have := Fl.rq_mono (Fl.vl p) (Fl.vl p + Fl.vl q) 0 (by omega)
    rw [Fl.rq_vl p (by omega), ← es] at this
    exact this
  · have := Fl.rq_mono (Fl.vl q) (Fl.vl p + Fl.vl q) 0 (by omega)
    rw [Fl.rq_vl q (by omega), ← es] at this
    exact this
  · rw [es, ← four_four]
    exact Fl.rq_mono _ _ _ (Nat.add_le_add (Fl.vl_le_iff.2 lp) (Fl.vl_le_iff.2 lq))
theorem half_sq : Fl.rq ((4503599627370496 * 2 ^ 1021) * (4503599627370496 * 2 ^ 1021)) 1074 = 4598175219545276416 := by decide +kernel
theorem half_r : Fl.rq (4503599627370496 * 2 ^ 1021) 0 = 4602678819172646912 := by decide +kernel
theorem four_sq : Fl.rq ((4503599627370496 * 2 ^ 1024) * (4503599627370496 * 2 ^ 1024)) 1074 = 4625196817309499392 := by decide +kernel
theorem four_r : Fl.rq (4503599627370496 * 2 ^ 1024) 0 = 4616189618054758400 := by decide +kernel
/-- the root of what lies from a quarter to 8 lies from a half to 4 -/
theorem sqt_mid {s l : Nat} (h1 : 4598175219545276416 ≤ s) (h2 : s ≤ 4620693217682128896) (h : sqtR s l) : 4602678819172646912 ≤ l ∧ l ≤ 4616189618054758400 := by
  obtain ⟨rs, ss⟩ := rg_rung (r := s) (by omega)
  obtain ⟨r, k1, k2, k3⟩ := Fl.sqrt_ge (x := s) (b := 4503599627370496) (g := 1021) (G := 968) 1074 rfl (by omega) (by omega) (by omega) (by omega) (by omega) ss (by rw [rs, half_sq]; omega)
  obtain ⟨r', m1, m2⟩ := Fl.sqrt_le (x := s) (b := 4503599627370496) (g := 1024) (G := 974) 1074 rfl (by omega) (by omega) (by omega) (by omega) ss (by omega) (by rw [four_sq]; omega) (by rw [rs, four_sq]; omega)
  rw [half_r] at k2
  rw [four_r] at m2
  have e1 := sqt_word h k1
  have e2 := sqt_word h m1
  omega
end Go.Proofs.Ytpfaaimfembhdaa
