/-
  OWN TEXT: plain laws on what a sum loses: the two differences that tell the loss are exact.
-/
import Derived.Test.YtpfgboinjjobpaaFlE
namespace Go.Proofs.Ytpfgboinjjobpaa.Fl

/-- a number that has at most 53 binary digits, or is 2^53 times a power of two -/
def Rep (n : Int) : Prop := ∃ M k : Nat, n.natAbs = M * 2 ^ k ∧ M ≤ 9007199254740992

theorem rep_of_dvd {n : Int} {k : Nat} (h : ((2 ^ k : Nat) : Int) ∣ n) (b : n.natAbs ≤ 9007199254740992 * 2 ^ k) : Rep n := by
  obtain ⟨c, rfl⟩ := h
  rw [Int.natAbs_mul, show ((2 ^ k : Nat) : Int).natAbs = 2 ^ k from rfl] at b
  refine ⟨c.natAbs, k, by rw [Int.natAbs_mul, show ((2 ^ k : Nat) : Int).natAbs = 2 ^ k from rfl, Nat.mul_comm], ?_⟩
  rw [Nat.mul_comm] at b
  exact Nat.le_of_mul_le_mul_right b (Nat.two_pow_pos k)
theorem dvd_pow_le {n : Int} {j k : Nat} (h : ((2 ^ k : Nat) : Int) ∣ n) (hj : j ≤ k) : ((2 ^ j : Nat) : Int) ∣ n := by
  refine Int.dvd_trans ?_ h
  exact Int.natCast_dvd_natCast.2 (Nat.pow_dvd_pow 2 hj)
theorem dvd_small {n : Int} {k : Nat} (h : ((2 ^ k : Nat) : Int) ∣ n) (b : n.natAbs < 2 ^ k) : n = 0 := by
  have := Int.natAbs_dvd_natAbs.2 h
  have h2 := Nat.eq_zero_of_dvd_of_lt this b
  omega
theorem rep_zero : Rep 0 := ⟨0, 0, by simp, by omega⟩

/-- THE TWO DIFFERENCES ARE EXACT: A is the greater one, S the sum rounded to a multiple of 2^e -/
theorem two_sum (A B S : Int) (Ma Mb ka kb e : Nat) (eA : A.natAbs = Ma * 2 ^ ka) (eB : B.natAbs = Mb * 2 ^ kb) (hMa : Ma < 9007199254740992) (hMb : Mb < 9007199254740992) (hk : kb ≤ ka) (hab : B.natAbs ≤ A.natAbs)
    (hS : ((2 ^ e : Nat) : Int) ∣ S) (herr : 2 * (A + B - S).natAbs ≤ 2 ^ e) (he : e ≤ ka + 1) (he1 : e = ka + 1 → 9007199254740992 * 2 ^ ka ≤ (A + B).natAbs) (hex : e ≤ kb → S = A + B) :
    Rep (S - A) ∧ Rep (A + B - S) := by
  have dA : ((2 ^ ka : Nat) : Int) ∣ A := Int.natAbs_dvd_natAbs.1 (by rw [eA]; exact Nat.dvd_mul_left _ _)
  have dB : ((2 ^ kb : Nat) : Int) ∣ B := Int.natAbs_dvd_natAbs.1 (by rw [eB]; exact Nat.dvd_mul_left _ _)
  have hpa := Nat.two_pow_pos ka
  have hpb := Nat.two_pow_pos kb
  have bB : B.natAbs ≤ 9007199254740991 * 2 ^ kb := by rw [eB]; exact Nat.mul_le_mul_right _ (by omega)
  have bA : A.natAbs ≤ 9007199254740991 * 2 ^ ka := by rw [eA]; exact Nat.mul_le_mul_right _ (by omega)
  by_cases c1 : e ≤ kb
  · rw [hex c1]
    rw [show A + B - A = B by omega, show A + B - (A + B) = 0 by omega]
    exact ⟨rep_of_dvd dB (by omega), rep_zero⟩
  · have dSb : ((2 ^ kb : Nat) : Int) ∣ S := dvd_pow_le hS (by omega)
    have dL : ((2 ^ kb : Nat) : Int) ∣ A + B - S := Int.dvd_sub (Int.dvd_add (dvd_pow_le dA hk) dB) dSb
    have hp1 : 2 ^ (kb + 1) ≤ 2 ^ e := Nat.pow_le_pow_right (by omega) (by omega)
    rw [Nat.pow_succ] at hp1
    by_cases c2 : e ≤ ka
    · have dD : ((2 ^ e : Nat) : Int) ∣ S - A := Int.dvd_sub hS (dvd_pow_le dA c2)
      have hD : (S - A).natAbs ≤ (A + B - S).natAbs + B.natAbs := by omega
      have hL : (A + B - S).natAbs ≤ B.natAbs := by
        by_cases c : 2 * B.natAbs < 2 ^ e
        · have z := dvd_small dD (by omega)
          omega
        · omega
      refine ⟨rep_of_dvd dD ?_, rep_of_dvd dL (by omega)⟩
      generalize 2 ^ e = p at *
      generalize 2 ^ kb = q at *
      omega
    · have ee : e = ka + 1 := by omega
      have hT := he1 ee
      have dD : ((2 ^ ka : Nat) : Int) ∣ S - A := Int.dvd_sub (dvd_pow_le hS (by omega)) dA
      rw [ee, Nat.pow_succ] at herr
      refine ⟨rep_of_dvd dD ?_, rep_of_dvd dL ?_⟩
      · generalize 2 ^ ka = p at *
        omega
      · generalize 2 ^ ka = p at *
        generalize 2 ^ kb = q at *
        omega

/-- a number of at most 53 digits is its own nearest rung -/
theorem rq_rep (n : Nat) (h : ∃ M k : Nat, n = M * 2 ^ k ∧ M ≤ 9007199254740992) (b : n.log2 < 2098) : vl (rq n 0) = n ∧ rq n 0 < 9218868437227405312 := by
  by_cases z : n = 0
  · subst z; exact ⟨rfl, by decide⟩
  obtain ⟨M, k, e, hM⟩ := h
  have hex : rne n (n.log2 - 52) * 2 ^ (n.log2 - 52) = n := by
    have hd : ∃ c, n = c * 2 ^ (n.log2 - 52) := by
      by_cases c : n.log2 - 52 ≤ k
      · refine ⟨M * 2 ^ (k - (n.log2 - 52)), ?_⟩
        rw [Nat.mul_assoc, ← Nat.pow_add, show k - (n.log2 - 52) + (n.log2 - 52) = k by omega]; exact e
      · have h1 : n ≤ 9007199254740992 * 2 ^ k := by rw [e]; exact Nat.mul_le_mul_right _ hM
        have h2 := log2_le n z
        have h3 : n.log2 ≤ 53 + k := by
          by_cases c3 : n.log2 ≤ 53 + k
          · exact c3
          · have h4 : 2 ^ (53 + k + 1) ≤ 2 ^ n.log2 := Nat.pow_le_pow_right (by omega) (by omega)
            rw [Nat.pow_succ, Nat.pow_add, show (2 : Nat) ^ 53 = 9007199254740992 from rfl] at h4
            have := Nat.two_pow_pos k
            generalize 2 ^ k = p at *
            generalize 2 ^ n.log2 = q at *
            omega
        have h5 : n.log2 = 53 + k := by omega
        rw [h5, Nat.pow_add, show (2 : Nat) ^ 53 = 9007199254740992 from rfl] at h2
        have h6 : n = 9007199254740992 * 2 ^ k := by omega
        refine ⟨4503599627370496, ?_⟩
        rw [show n.log2 - 52 = k + 1 by omega, Nat.pow_succ]; omega
    obtain ⟨c, hc⟩ := hd
    have := rne_exact c (n.log2 - 52)
    rw [← hc] at this
    rw [this]; exact hc.symm
  have hlt : rne n (n.log2 - 52) < 9007199254740992 := by
    have h1 := log2_lt n z
    by_cases c : rne n (n.log2 - 52) < 9007199254740992
    · exact c
    · have h2 : 9007199254740992 * 2 ^ (n.log2 - 52) ≤ rne n (n.log2 - 52) * 2 ^ (n.log2 - 52) := Nat.mul_le_mul_right _ (by omega)
      rw [hex, show (9007199254740992 : Nat) = 2 ^ 53 from rfl, ← Nat.pow_add] at h2
      have h3 : 2 ^ (n.log2 + 1) ≤ 2 ^ (53 + (n.log2 - 52)) := Nat.pow_le_pow_right (by omega) (by omega)
      omega
  have hr : rq n 0 < 9218868437227405312 := by
    unfold rq
    rw [if_neg z]
    simp only [Nat.add_zero]
    have h4 : (n.log2 - 52) * 4503599627370496 ≤ 2045 * 4503599627370496 := Nat.mul_le_mul_right _ (by omega)
    omega
  exact ⟨by rw [vl_rq n z hr, hex], hr⟩

theorem rep_vl (r : Nat) (h : r < 9218868437227405312) : ∃ M k : Nat, vl r = M * 2 ^ k ∧ M < 9007199254740992 ∧ (k = 0 ∨ 4503599627370496 ≤ M) ∧ k ≤ 2045 := by
  by_cases c : r < 4503599627370496
  · exact ⟨r, 0, by rw [vl_small c]; simp, by omega, Or.inl rfl, by omega⟩
  · exact ⟨_, _, vl_big (by omega), by omega, Or.inr (by omega), by omega⟩

theorem val_abs (x : Nat) : (val x).natAbs = vl (rg x) := by unfold val; split <;> omega
/-- what a rounded number is worth -/
theorem val_wd (b : Bool) (r : Nat) (h : r < 9223372036854775808) : val (wd b r) = if b then -(vl r : Int) else vl r := by
  unfold val; rw [sg_wd _ _ h, rg_wd _ _ h]

theorem log2_of_lt {n p : Nat} (h : n < 2 ^ p) (hp : 0 < p) : n.log2 < p := by
  by_cases z : n = 0
  · subst z; exact hp
  · exact (Nat.log2_lt z).2 h
theorem bound_aux (q D L B Mb kb e : Nat) (hB : B = Mb * 2 ^ kb) (hMb : Mb < 9007199254740992) (hkb : kb ≤ q) (he : e ≤ q) (hL : 2 * L ≤ 2 ^ e) (hD : D ≤ L + B) : D.log2 < 53 + q ∧ L.log2 < 53 + q := by
  have h1 : Mb * 2 ^ kb ≤ 9007199254740991 * 2 ^ q := Nat.mul_le_mul (by omega) (Nat.pow_le_pow_right (by omega) hkb)
  have h2 : 2 ^ e ≤ 2 ^ q := Nat.pow_le_pow_right (by omega) he
  have h3 : 2 ^ (53 + q) = 9007199254740992 * 2 ^ q := by rw [Nat.pow_add]
  have h4 := Nat.two_pow_pos q
  constructor
  · refine log2_of_lt ?_ (by omega)
    rw [h3]
    generalize 2 ^ q = p at *
    generalize 2 ^ e = r at *
    omega
  · refine log2_of_lt ?_ (by omega)
    rw [h3]
    generalize 2 ^ q = p at *
    generalize 2 ^ e = r at *
    omega
theorem far_aux (n c : Nat) (zN : n ≠ 0) (hf : rq n 0 < 9218868437227405312) (f1 : n.log2 - 52 = 0 ∨ 4503599627370496 ≤ rne n (n.log2 - 52)) (hc : c = 2046) : n.log2 - 52 < c := by
  by_cases h : n.log2 - 52 < c
  · exact h
  · exfalso
    subst hc
    have h2 : 2046 * 4503599627370496 ≤ (n.log2 - 52) * 4503599627370496 := Nat.mul_le_mul_right _ (by omega)
    unfold rq at hf
    rw [if_neg zN] at hf
    simp only [Nat.add_zero] at hf
    generalize rne n (n.log2 - 52) = r at *
    generalize n.log2 - 52 = l at *
    omega
/-- WHAT A SUM LOSES: s the sum of a and b rounded, the greater one first -/
theorem sum_loss {a b : Nat} (ha : rg a < 9218868437227405312) (hb : rg b < 9218868437227405312) (hab : rg b ≤ rg a) (hf : rq (val a + val b).natAbs 0 < 9218868437227405312)
    (S : Int) (hS : S = if val a + val b < 0 then -(vl (rq (val a + val b).natAbs 0) : Int) else vl (rq (val a + val b).natAbs 0)) :
    Rep (S - val a) ∧ Rep (val a + val b - S) ∧ (S - val a).natAbs.log2 < 2098 ∧ (val a + val b - S).natAbs.log2 < 2098 := by
  obtain ⟨Ma, ka, ea, hMa, na, ka1⟩ := rep_vl _ ha
  obtain ⟨Mb, kb, eb, hMb, nb, kb1⟩ := rep_vl _ hb
  rw [← val_abs] at ea eb
  have hvab : (val b).natAbs ≤ (val a).natAbs := by
    rw [val_abs, val_abs]
    by_cases c : rg b = rg a
    · rw [c]; exact Nat.le_refl _
    · exact Nat.le_of_lt (vl_mono (by omega))
  have hk : kb ≤ ka := by
    by_cases c : kb ≤ ka
    · exact c
    · exfalso
      have h1 : 4503599627370496 ≤ Mb := by omega
      have h2 : 2 ^ (ka + 1) ≤ 2 ^ kb := Nat.pow_le_pow_right (by omega) (by omega)
      have h3 : 4503599627370496 * 2 ^ kb ≤ Mb * 2 ^ kb := Nat.mul_le_mul_right _ h1
      have h4 : Ma * 2 ^ ka ≤ 9007199254740991 * 2 ^ ka := Nat.mul_le_mul_right _ (by omega)
      have h5 := Nat.two_pow_pos ka
      rw [Nat.pow_succ] at h2
      rw [ea, eb] at hvab
      generalize Mb * 2 ^ kb = u at *
      generalize Ma * 2 ^ ka = v at *
      generalize 2 ^ ka = p at *
      generalize 2 ^ kb = q at *
      omega
  generalize hA : val a = A at *
  generalize hB : val b = B at *
  have hpa := Nat.two_pow_pos ka
  have bigA : A.natAbs < 2 ^ (53 + ka) := by
    rw [ea, Nat.pow_add, show (2 : Nat) ^ 53 = 9007199254740992 from rfl]
    exact Nat.mul_lt_mul_of_pos_right hMa hpa
  by_cases zT : A + B = 0
  · rw [zT] at hS
    have hS0 : S = 0 := by rw [hS]; simp [rq, vl]
    subst hS0
    rw [zT, show (0 : Int) - A = B by omega, show (0 : Int) - 0 = 0 by omega]
    exact ⟨⟨Mb, kb, eb, by omega⟩, rep_zero, (bound_aux 2045 _ 0 _ Mb kb 0 eb hMb kb1 (by omega) (by omega) (by omega)).1, by decide⟩
  have zN : (A + B).natAbs ≠ 0 := by omega
  have hv := vl_rq _ zN hf
  obtain ⟨f1, f2⟩ := rq_fit _ zN
  generalize hn : (A + B).natAbs = n at *
  have hbnd := rne_bounds n (n.log2 - 52)
  rw [← hv] at hbnd
  have hSabs : S.natAbs = vl (rq n 0) := by rw [hS]; split <;> omega
  have herr : 2 * (A + B - S).natAbs ≤ 2 ^ (n.log2 - 52) := by
    generalize 2 ^ (n.log2 - 52) = p at *
    rw [hS]; split <;> omega
  have hlog : n.log2 < 54 + ka := by
    refine (Nat.log2_lt zN).2 ?_
    have : 2 ^ (54 + ka) = 2 * 2 ^ (53 + ka) := by rw [show 54 + ka = (53 + ka) + 1 by omega, Nat.pow_succ]; omega
    rw [this]; omega
  have he1 : n.log2 - 52 = ka + 1 → 9007199254740992 * 2 ^ ka ≤ n := by
    intro h
    have h1 := log2_le n zN
    rw [show n.log2 = 53 + ka by omega, Nat.pow_add] at h1
    exact h1
  have hex : n.log2 - 52 ≤ kb → S = A + B := by
    intro h
    have dT : ((2 ^ (n.log2 - 52) : Nat) : Int) ∣ A + B := by
      refine Int.dvd_add (dvd_pow_le (k := ka) ?_ (by omega)) (dvd_pow_le (k := kb) ?_ h)
      · exact Int.natAbs_dvd_natAbs.1 (by rw [ea]; exact Nat.dvd_mul_left _ _)
      · exact Int.natAbs_dvd_natAbs.1 (by rw [eb]; exact Nat.dvd_mul_left _ _)
    have dn : 2 ^ (n.log2 - 52) ∣ n := by have := Int.natAbs_dvd_natAbs.2 dT; rw [hn] at this; exact this
    obtain ⟨c, hc⟩ := dn
    have : rne n (n.log2 - 52) * 2 ^ (n.log2 - 52) = n := by
      have e := rne_exact c (n.log2 - 52)
      rw [Nat.mul_comm, ← hc] at e
      rw [e, Nat.mul_comm]; exact hc.symm
    rw [this] at hv
    rw [hS, hv]; split <;> omega
  have dS : ((2 ^ (n.log2 - 52) : Nat) : Int) ∣ S := Int.natAbs_dvd_natAbs.1 (by rw [hSabs, hv]; exact Nat.dvd_mul_left _ _)
  obtain ⟨r1, r2⟩ := two_sum A B S Ma Mb ka kb (n.log2 - 52) ea eb hMa hMb hk hvab dS herr (by omega) (by rw [hn]; exact he1) hex
  have hfar := far_aux n 2046 zN hf f1 rfl
  have hb2 := bound_aux 2045 (S - A).natAbs (A + B - S).natAbs _ Mb kb (n.log2 - 52) eb hMb kb1 (by omega) herr (by omega)
  exact ⟨r1, r2, hb2.1, hb2.2⟩
end Go.Proofs.Ytpfgboinjjobpaa.Fl
