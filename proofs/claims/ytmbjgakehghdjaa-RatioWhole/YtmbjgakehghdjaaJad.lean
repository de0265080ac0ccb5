/-
  OWN TEXT: plain laws on what a sum loses: the two differences that tell the loss are exact.
-/
import Derived.Test.YtmbjgakehghdjaaJac
import Derived.Test.YtmbjgakehghdjaaJab
import Derived.Below
namespace Go.Proofs.Ytmbjgakehghdjaa.Fl

/-- a number that has at most 53 binary digits, or is 2^53 times a power of two -/
def Rep (n : Int) : Prop := ∃ M k : Nat, n.natAbs = M * 2 ^ k ∧ M ≤ 9007199254740992

theorem rep_of_dvd {n : Int} {k : Nat} (h : ((2 ^ k : Nat) : Int) ∣ n) (b : n.natAbs ≤ 9007199254740992 * 2 ^ k) : Rep n := by
  obtain ⟨c, rfl⟩ := h
  rw [Int.natAbs_mul, show ((2 ^ k : Nat) : Int).natAbs = 2 ^ k from rfl] at b
  refine ⟨c.natAbs, k, by rw [Int.natAbs_mul, show ((2 ^ k : Nat) : Int).natAbs = 2 ^ k from rfl, Nat.mul_comm], ?_⟩
  rw [Nat.mul_comm] at b
  exact Nat.le_of_mul_le_mul_right b (Nat.two_pow_pos k)
theorem dvd_pow_le {n : Int} {j k : Nat} (h : ((2 ^ k : Nat) : Int) ∣ n) (hj : j ≤ k) : ((2 ^ j : Nat) : Int) ∣ n := by
  refine Int.dvd_trans ?_ h
  exact Int.natCast_dvd_natCast.2 (Nat.pow_dvd_pow 2 hj)
theorem dvd_small {n : Int} {k : Nat} (h : ((2 ^ k : Nat) : Int) ∣ n) (b : n.natAbs < 2 ^ k) : n = 0 := by
  have := Int.natAbs_dvd_natAbs.2 h
  have h2 := Nat.eq_zero_of_dvd_of_lt this b
  omega
theorem rep_zero : Rep 0 := ⟨0, 0, by simp, by omega⟩

/-- THE TWO DIFFERENCES ARE EXACT: A is the greater one, S the sum rounded to a multiple of 2^e -/
theorem two_sum (A B S : Int) (Ma Mb ka kb e : Nat) (eA : A.natAbs = Ma * 2 ^ ka) (eB : B.natAbs = Mb * 2 ^ kb) (hMa : Ma < 9007199254740992) (hMb : Mb < 9007199254740992) (hk : kb ≤ ka) (hab : B.natAbs ≤ A.natAbs)
    (hS : ((2 ^ e : Nat) : Int) ∣ S) (herr : 2 * (A + B - S).natAbs ≤ 2 ^ e) (he : e ≤ ka + 1) (he1 : e = ka + 1 → 9007199254740992 * 2 ^ ka ≤ (A + B).natAbs) (hex : e ≤ kb → S = A + B) :
    Rep (S - A) ∧ Rep (A + B - S) := by
  have dA : ((2 ^ ka : Nat) : Int) ∣ A := Int.natAbs_dvd_natAbs.1 (by rw [eA]; exact Nat.dvd_mul_left _ _)
  have dB : ((2 ^ kb : Nat) : Int) ∣ B := Int.natAbs_dvd_natAbs.1 (by rw [eB]; exact Nat.dvd_mul_left _ _)
  have hpa := Nat.two_pow_pos ka
  have hpb := Nat.two_pow_pos kb
  have bB : B.natAbs ≤ 9007199254740991 * 2 ^ kb := by rw [eB]; exact Nat.mul_le_mul_right _ (by omega)
  have bA : A.natAbs ≤ 9007199254740991 * 2 ^ ka := by rw [eA]; exact Nat.mul_le_mul_right _ (by omega)
  by_cases c1 : e ≤ kb
  · rw [hex c1]
    rw [show A + B - A = B by omega, show A + B - (A + B) = 0 by omega]
    exact ⟨rep_of_dvd dB (by omega), rep_zero⟩
  · have dSb : ((2 ^ kb : Nat) : Int) ∣ S := dvd_pow_le hS (by omega)
    have dL : ((2 ^ kb : Nat) : Int) ∣ A + B - S := Int.dvd_sub (Int.dvd_add (dvd_pow_le dA hk) dB) dSb
    have hp1 : 2 ^ (kb + 1) ≤ 2 ^ e := Nat.pow_le_pow_right (by omega) (by omega)
    rw [Nat.pow_succ] at hp1
    by_cases c2 : e ≤ ka
    · have dD : ((2 ^ e : Nat) : Int) ∣ S - A := Int.dvd_sub hS (dvd_pow_le dA c2)
      have hD : (S - A).natAbs ≤ (A + B - S).natAbs + B.natAbs := by omega
      have hL : (A + B - S).natAbs ≤ B.natAbs := by
        by_cases c : 2 * B.natAbs < 2 ^ e
        · have z := dvd_small dD (by omega)
          omega
        · omega
      refine ⟨rep_of_dvd dD ?_, rep_of_dvd dL (by omega)⟩
      generalize 2 ^ e = p at *
      generalize 2 ^ kb = q at *
      omega
    · have ee : e = ka + 1 := by omega
      have hT := he1 ee
      have dD : ((2 ^ ka : Nat) : Int) ∣ S - A := Int.dvd_sub (dvd_pow_le hS (by omega)) dA
      rw [ee, Nat.pow_succ] at herr
      refine ⟨rep_of_dvd dD ?_, rep_of_dvd dL ?_⟩
      · generalize 2 ^ ka = p at *
        omega
      · generalize 2 ^ ka = p at *
        generalize 2 ^ kb = q at *
        omega

/-- a number of at most 53 digits is its own nearest rung -/
theorem rq_rep (n : Nat) (h : ∃ M k : Nat, n = M * 2 ^ k ∧ M ≤ 9007199254740992) (b : n.log2 < 2098) : vl (rq n 0) = n ∧ rq n 0 < 9218868437227405312 := by
  by_cases z : n = 0
  · subst z; exact ⟨rfl, by decide⟩
  obtain ⟨M, k, e, hM⟩ := h
  have hex : rne n (n.log2 - 52) * 2 ^ (n.log2 - 52) = n := by
    have hd : ∃ c, n = c * 2 ^ (n.log2 - 52) := by
      by_cases c : n.log2 - 52 ≤ k
      · refine ⟨M * 2 ^ (k - (n.log2 - 52)), ?_⟩
        rw [Nat.mul_assoc, ← Nat.pow_add, show k - (n.log2 - 52) + (n.log2 - 52) = k by omega]; exact e
      · have h1 : n ≤ 9007199254740992 * 2 ^ k := by rw [e]; exact Nat.mul_le_mul_right _ hM
        have h2 := log2_le n z
        have h3 : n.log2 ≤ 53 + k := by
          by_cases c3 : n.log2 ≤ 53 + k
          · exact c3
          · have h4 : 2 ^ (53 + k + 1) ≤ 2 ^ n.log2 := Nat.pow_le_pow_right (by omega) (by omega)
            rw [Nat.pow_succ, Nat.pow_add, show (2 : Nat) ^ 53 = 9007199254740992 from rfl] at h4
            have := Nat.two_pow_pos k
            generalize 2 ^ k = p at *
            generalize 2 ^ n.log2 = q at *
            omega
        have h5 : n.log2 = 53 + k := by omega
        rw [h5, Nat.pow_add, show (2 : Nat) ^ 53 = 9007199254740992 from rfl] at h2
        have h6 : n = 9007199254740992 * 2 ^ k := by omega
        refine ⟨4503599627370496, ?_⟩
        rw [show n.log2 - 52 = k + 1 by omega, Nat.pow_succ]; omega
    obtain ⟨c, hc⟩ := hd
    have := rne_exact c (n.log2 - 52)
    rw [← hc] at this
    rw [this]; exact hc.symm
  have hlt : rne n (n.log2 - 52) < 9007199254740992 := by
    have h1 := log2_lt n z
    by_cases c : rne n (n.log2 - 52) < 9007199254740992
    · exact c
    · have h2 : 9007199254740992 * 2 ^ (n.log2 - 52) ≤ rne n (n.log2 - 52) * 2 ^ (n.log2 - 52) := Nat.mul_le_mul_right _ (by omega)
      rw [hex, show (9007199254740992 : Nat) = 2 ^ 53 from rfl, ← Nat.pow_add] at h2
      have h3 : 2 ^ (n.log2 + 1) ≤ 2 ^ (53 + (n.log2 - 52)) := Nat.pow_le_pow_right (by omega) (by omega)
      omega
  have hr : rq n 0 < 9218868437227405312 := by
    unfold rq
    rw [if_neg z]
    simp only [Nat.add_zero]
    have h4 : (n.log2 - 52) * 4503599627370496 ≤ 2045 * 4503599627370496 := Nat.mul_le_mul_right _ (by omega)
    omega
  exact ⟨by rw [vl_rq n z hr, hex], hr⟩

theorem rep_vl (r : Nat) (h : r < 9218868437227405312) : ∃ M k : Nat, vl r = M * 2 ^ k ∧ M < 9007199254740992 ∧ (k = 0 ∨ 4503599627370496 ≤ M) ∧ k ≤ 2045 := by
  by_cases c : r < 4503599627370496
  · exact ⟨r, 0, by rw [vl_small c]; simp, by omega, Or.inl rfl, by omega⟩
  · exact ⟨_, _, vl_big (by omega), by omega, Or.inr (by omega), by omega⟩

theorem val_abs (x : Nat) : (val x).natAbs = vl (rg x) := by unfold val; split <;> omega
/-- what a rounded number is worth -/
theorem val_wd (b : Bool) (r : Nat) (h : r < 9223372036854775808) : val (wd b r) = if b then -(vl r : Int) else vl r := by
  unfold val; rw [sg_wd _ _ h, rg_wd _ _ h]

theorem log2_of_lt {n p : Nat} (h : n < 2 ^ p) (hp : 0 < p) : n.log2 < p := by
  by_cases z : n = 0
  · subst z; exact hp
  · exact (Nat.log2_lt z).2 h
theorem bound_aux (q D L B Mb kb e : Nat) (hB : B = Mb * 2 ^ kb) (hMb : Mb < 9007199254740992) (hkb : kb ≤ q) (he : e ≤ q) (hL : 2 * L ≤ 2 ^ e) (hD : D ≤ L + B) : D.log2 < 53 + q ∧ L.log2 < 53 + q := by
  have h1 : Mb * 2 ^ kb ≤ 9007199254740991 * 2 ^ q := Nat.mul_le_mul (by omega) (Nat.pow_le_pow_right (by omega) hkb)
  have h2 : 2 ^ e ≤ 2 ^ q := Nat.pow_le_pow_right (by omega) he
  have h3 : 2 ^ (53 + q) = 9007199254740992 * 2 ^ q := by rw [Nat.pow_add]
  have h4 := Nat.two_pow_pos q
  constructor
  · refine log2_of_lt ?_ (by omega)
    rw [h3]
    generalize 2 ^ q = p at *
    generalize 2 ^ e = r at *
    omega
  · refine log2_of_lt ?_ (by omega)
    rw [h3]
    generalize 2 ^ q = p at *
    generalize 2 ^ e = r at *
    omega
theorem far_aux (n c : Nat) (zN : n ≠ 0) (hf : rq n 0 < 9218868437227405312) (f1 : n.log2 - 52 = 0 ∨ 4503599627370496 ≤ rne n (n.log2 - 52)) (hc : c = 2046) : n.log2 - 52 < c := by
  by_cases h : n.log2 - 52 < c
  · exact h
  · exfalso
    subst hc
    have h2 : 2046 * 4503599627370496 ≤ (n.log2 - 52) * 4503599627370496 := Nat.mul_le_mul_right _ (by omega)
    unfold rq at hf
    rw [if_neg zN] at hf
    simp only [Nat.add_zero] at hf
    generalize rne n (n.log2 - 52) = r at *
    generalize n.log2 - 52 = l at *
    omega
/-- WHAT A SUM LOSES: s the sum of a and b rounded, the greater one first -/
theorem sum_loss {a b : Nat} (ha : rg a < 9218868437227405312) (hb : rg b < 9218868437227405312) (hab : rg b ≤ rg a) (hf : rq (val a + val b).natAbs 0 < 9218868437227405312)
    (S : Int) (hS : S = if val a + val b < 0 then -(vl (rq (val a + val b).natAbs 0) : Int) else vl (rq (val a + val b).natAbs 0)) :
    Rep (S - val a) ∧ Rep (val a + val b - S) ∧ (S - val a).natAbs.log2 < 2098 ∧ (val a + val b - S).natAbs.log2 < 2098 := by
  obtain ⟨Ma, ka, ea, hMa, na, ka1⟩ := rep_vl _ ha
  obtain ⟨Mb, kb, eb, hMb, nb, kb1⟩ := rep_vl _ hb
  rw [← val_abs] at ea eb
  have hvab : (val b).natAbs ≤ (val a).natAbs := by
    rw [val_abs, val_abs]
    by_cases c : rg b = rg a
    · rw [c]; exact Nat.le_refl _
    · exact Nat.le_of_lt (vl_mono (by omega))
  have hk : kb ≤ ka := by
    by_cases c : kb ≤ ka
    · exact c
    · exfalso
      have h1 : 4503599627370496 ≤ Mb := by omega
      have h2 : 2 ^ (ka + 1) ≤ 2 ^ kb := Nat.pow_le_pow_right (by omega) (by omega)
      have h3 : 4503599627370496 * 2 ^ kb ≤ Mb * 2 ^ kb := Nat.mul_le_mul_right _ h1
      have h4 : Ma * 2 ^ ka ≤ 9007199254740991 * 2 ^ ka := Nat.mul_le_mul_right _ (by omega)
      have h5 := Nat.two_pow_pos ka
      rw [Nat.pow_succ] at h2
      rw [ea, eb] at hvab
      generalize Mb * 2 ^ kb = u at *
      generalize Ma * 2 ^ ka = v at *
      generalize 2 ^ ka = p at *
      generalize 2 ^ kb = q at *
      omega
  generalize hA : val a = A at *
  generalize hB : val b = B at *
  have hpa := Nat.two_pow_pos ka
  have bigA : A.natAbs < 2 ^ (53 + ka) := by
    rw [ea, Nat.pow_add, show (2 : Nat) ^ 53 = 9007199254740992 from rfl]
    exact Nat.mul_lt_mul_of_pos_right hMa hpa
  by_cases zT : A + B = 0
  · rw [zT] at hS
    have hS0 : S = 0 := by rw [hS]; simp [rq, vl]
    subst hS0
    rw [zT, show (0 : Int) - A = B by omega, show (0 : Int) - 0 = 0 by omega]
    exact ⟨⟨Mb, kb, eb, by omega⟩, rep_zero, (bound_aux 2045 _ 0 _ Mb kb 0 eb hMb kb1 (by omega) (by omega) (by omega)).1, by decide⟩
  have zN : (A + B).natAbs ≠ 0 := by omega
  have hv := vl_rq _ zN hf
  obtain ⟨f1, f2⟩ := rq_fit _ zN
  generalize hn : (A + B).natAbs = n at *
  have hbnd := rne_bounds n (n.log2 - 52)
  rw [← hv] at hbnd
  have hSabs : S.natAbs = vl (rq n 0) := by rw [hS]; split <;> omega
  have herr : 2 * (A + B - S).natAbs ≤ 2 ^ (n.log2 - 52) := by
    generalize 2 ^ (n.log2 - 52) = p at *
    rw [hS]; split <;> omega
  have hlog : n.log2 < 54 + ka := by
    refine (Nat.log2_lt zN).2 ?_
    have : 2 ^ (54 + ka) = 2 * 2 ^ (53 + ka) := by rw [show 54 + ka = (53 + ka) + 1 by omega, Nat.pow_succ]; omega
    rw [this]; omega
  have he1 : n.log2 - 52 = ka + 1 → 9007199254740992 * 2 ^ ka ≤ n := by
    intro h
    have h1 := log2_le n zN
    rw [show n.log2 = 53 + ka by omega, Nat.pow_add] at h1
    exact h1
  have hex : n.log2 - 52 ≤ kb → S = A + B := by
    intro h
    have dT : ((2 ^ (n.log2 - 52) : Nat) : Int) ∣ A + B := by
      refine Int.dvd_add (dvd_pow_le (k := ka) ?_ (by omega)) (dvd_pow_le (k := kb) ?_ h)
      · exact Int.natAbs_dvd_natAbs.1 (by rw [ea]; exact Nat.dvd_mul_left _ _)
      · exact Int.natAbs_dvd_natAbs.1 (by rw [eb]; exact Nat.dvd_mul_left _ _)
    have dn : 2 ^ (n.log2 - 52) ∣ n := by have := Int.natAbs_dvd_natAbs.2 dT; rw [hn] at this; exact this
    obtain ⟨c, hc⟩ := dn
    have : rne n (n.log2 - 52) * 2 ^ (n.log2 - 52) = n := by
      have e := rne_exact c (n.log2 - 52)
      rw [Nat.mul_comm, ← hc] at e
      rw [e, Nat.mul_comm]; exact hc.symm
    rw [this] at hv
    rw [hS, hv]; split <;> omega
  have dS : ((2 ^ (n.log2 - 52) : Nat) : Int) ∣ S := Int.natAbs_dvd_natAbs.1 (by rw [hSabs, hv]; exact Nat.dvd_mul_left _ _)
  obtain ⟨r1, r2⟩ := two_sum A B S Ma Mb ka kb (n.log2 - 52) ea eb hMa hMb hk hvab dS herr (by omega) (by rw [hn]; exact he1) hex
  have hfar := far_aux n 2046 zN hf f1 rfl
  have hb2 := bound_aux 2045 (S - A).natAbs (A + B - S).natAbs _ Mb kb (n.log2 - 52) eb hMb kb1 (by omega) herr (by omega)
  exact ⟨r1, r2, hb2.1, hb2.2⟩
end Go.Proofs.Ytmbjgakehghdjaa.Fl
/-
  OWN TEXT: plain laws on a sum and its loss: what is lost is a word, exactly; with all signs turned both are turned.
-/
namespace Go.Proofs.Ytmbjgakehghdjaa.Fl

/-- the word of a loss -/
def lw (L : Int) : Nat := wd (decide (L < 0)) (rq L.natAbs 0)
theorem lw_lt (L : Int) : lw L < 18446744073709551616 := wd_lt _ _ (by have := rq_le L.natAbs 0; omega)
theorem nan_lw (L : Int) : nan (lw L) = false := nan_wd _ _ (rq_le _ _)
theorem key_lw (L : Int) : key (lw L) = if L < 0 then -(rq L.natAbs 0 : Int) else rq L.natAbs 0 := by
  have h := rq_le L.natAbs 0
  unfold lw
  rw [key_wd _ _ (by omega)]
  by_cases c : L < 0
  · rw [decide_eq_true c, if_pos c]; rfl
  · rw [decide_eq_false c, if_neg c]; rfl
theorem key_lw_neg (L : Int) : key (lw (-L)) = -key (lw L) := by
  rw [key_lw, key_lw, Int.natAbs_neg]
  by_cases c : L < 0
  · rw [if_pos c, if_neg (by omega)]; omega
  · by_cases z : L = 0
    · subst z; simp [rq]
    · rw [if_neg c, if_pos (by omega)]
theorem lw_zero : lw 0 = 0 := by decide
/-- a number of at most 53 digits, rounded, is worth itself -/
theorem val_round (T : Int) (b : Bool) (h : Rep T) (hl : T.natAbs.log2 < 2098) :
    val (wd (if T = 0 then b else decide (T < 0)) (rq T.natAbs 0)) = T ∧ rq T.natAbs 0 < 9218868437227405312 := by
  obtain ⟨h1, h2⟩ := rq_rep T.natAbs h hl
  refine ⟨?_, h2⟩
  rw [val_wd _ _ (by omega), h1]
  by_cases c : T = 0
  · subst c; simp
  · rw [if_neg c]
    by_cases d : T < 0
    · rw [decide_eq_true d]; simp; omega
    · rw [decide_eq_false d]; simp; omega
theorem val_lw (L : Int) (h : Rep L) (hl : L.natAbs.log2 < 2098) : val (lw L) = L ∧ rg (lw L) < 9218868437227405312 := by
  obtain ⟨h1, h2⟩ := rq_rep L.natAbs h hl
  unfold lw
  rw [val_wd _ _ (by omega), rg_wd _ _ (by omega), h1]
  refine ⟨?_, h2⟩
  by_cases d : L < 0
  · rw [decide_eq_true d]; simp; omega
  · rw [decide_eq_false d]; simp; omega
/-- the word of a sum -/
def aw (x y : Nat) : Nat := wd (if val x + val y = 0 then sg x && sg y else decide (val x + val y < 0)) (rq (val x + val y).natAbs 0)
theorem aw_lt (x y : Nat) : aw x y < 18446744073709551616 := wd_lt _ _ (by have := rq_le (val x + val y).natAbs 0; omega)
theorem nan_aw (x y : Nat) : nan (aw x y) = false := nan_wd _ _ (rq_le _ _)
theorem rg_aw (x y : Nat) : rg (aw x y) = rq (val x + val y).natAbs 0 := rg_wd _ _ (by have := rq_le (val x + val y).natAbs 0; omega)
theorem val_aw (x y : Nat) : val (aw x y) = if val x + val y < 0 then -(vl (rq (val x + val y).natAbs 0) : Int) else vl (rq (val x + val y).natAbs 0) := by
  have h := rq_le (val x + val y).natAbs 0
  unfold aw
  rw [val_wd _ _ (by omega)]
  by_cases c : val x + val y = 0
  · rw [c]; simp [rq, vl]
  · rw [if_neg c]
    by_cases d : val x + val y < 0
    · rw [decide_eq_true d, if_pos d]; rfl
    · rw [decide_eq_false d, if_neg d]; rfl
/-- THE LOSS, by two subtractions, the greater one first -/
theorem loss_steps {a b s : Nat} (ha : rg a < 9218868437227405312) (hb : rg b < 9218868437227405312) (la : a < 18446744073709551616) (hab : rg b ≤ rg a) (hs : rg s < 9218868437227405312)
    (hv : val s = if val a + val b < 0 then -(vl (rq (val a + val b).natAbs 0) : Int) else vl (rq (val a + val b).natAbs 0)) (hf : rq (val a + val b).natAbs 0 < 9218868437227405312) :
    ∃ d m, Ieee.double.sub s a = some d ∧ Ieee.double.sub b d = some m ∧ nan m = false ∧ (if rg m = 0 then 0 else m) = lw (val a + val b - val s) ∧ Rep (val a + val b - val s) ∧ (val a + val b - val s).natAbs.log2 < 2098 := by
  obtain ⟨r1, r2, b1, b2⟩ := sum_loss ha hb hab hf (val s) hv
  have e1 := sub_fin la hs ha
  obtain ⟨v1, f1⟩ := val_round (val s - val a) (sg s && !sg a) r1 b1
  generalize hd : wd (if val s - val a = 0 then sg s && !sg a else decide (val s - val a < 0)) (rq (val s - val a).natAbs 0) = d at *
  have ld : d < 18446744073709551616 := by rw [← hd]; exact wd_lt _ _ (by omega)
  have rd : rg d < 9218868437227405312 := by rw [← hd, rg_wd _ _ (by omega)]; exact f1
  have e2 := sub_fin ld hb rd
  have eL : val b - val d = val a + val b - val s := by rw [v1]; omega
  rw [eL] at e2
  refine ⟨d, _, e1, e2, nan_wd _ _ (rq_le _ _), ?_, r2, b2⟩
  have hq := rq_rep _ r2 b2
  rw [rg_wd _ _ (by omega)]
  generalize hL : val a + val b - val s = L at *
  by_cases z : L = 0
  · rw [z]; simp [rq, lw_zero]
  · have nz : rq L.natAbs 0 ≠ 0 := by
      intro h
      rw [h] at hq
      have h0 : vl 0 = 0 := rfl
      omega
    rw [if_neg nz, if_neg z]; rfl
/-- with all signs turned a sum is turned -/
theorem aw_ng {x y : Nat} (hx : x < 18446744073709551616) (hy : y < 18446744073709551616) : key (aw (ng x) (ng y)) = -key (aw x y) ∧ val (aw (ng x) (ng y)) = -val (aw x y) ∧ rg (aw (ng x) (ng y)) = rg (aw x y) := by
  have k : key (aw (ng x) (ng y)) = -key (aw x y) := by
    unfold aw
    rw [key_round, key_round, val_ng hx, val_ng hy, show -val x + -val y = -(val x + val y) by omega, Int.natAbs_neg]
    by_cases c : val x + val y < 0
    · rw [if_pos c, if_neg (by omega)]; omega
    · by_cases d : val x + val y = 0
      · rw [d]; simp [rq]
      · rw [if_neg c, if_pos (by omega)]
  exact ⟨k, val_opp k, rg_opp k⟩
end Go.Proofs.Ytmbjgakehghdjaa.Fl
/-
  OWN TEXT: what an operation on two floats comes to, no numbers too; that like operands give like answers; the reference's odd sum.
-/
namespace Go.Proofs.Ytmbjgakehghdjaa
open Go.ChangeShapes Go.WideShapes Go.ChangeAt Go.RowKit
set_option linter.unusedVariables false
attribute [local go_sem] frombits_call tobits_call run_neg
/-- nothing that was there has turned -/
def Bw (w w' : World) : Prop := Below w.heap.size w w'
theorem Bw.refl (w : World) : Bw w w := Below.refl _ _
theorem Bw.drew {a b : World} (h : Bw a b) : Bw a b.drew := Below.drew h
theorem bw_trans {a b c : World} (h : Bw a b) (k : Bw b c) : Bw a c := Below.trans h (Below.mono k h.size)
/-- the four operations -/
def isOp (op : BinOp) : Prop := op = .add ∨ op = .sub ∨ op = .mul ∨ op = .quo
/-- x is what a and b come to -/
def opR (op : BinOp) (a b x : Nat) : Prop := x < 18446744073709551616 ∧ (floatBits op .f64 a b = some x ∨ (floatBits op .f64 a b = none ∧ Fl.nan x = true))
/-- alike: one float, or both no numbers -/
def simR (a b : Nat) : Prop := a = b ∨ (Fl.nan a = true ∧ Fl.nan b = true)
theorem simR.refl (a : Nat) : simR a a := Or.inl rfl
theorem simR.same {a b : Nat} (h : simR a b) : Fl.sameB a b = true := by
  rcases h with rfl | ⟨h1, h2⟩
  · unfold Fl.sameB; simp
  · unfold Fl.sameB; rw [h1, h2]; rfl
theorem nan_left (op : BinOp) (ho : isOp op) {a b : Nat} (h : Fl.nan a = true) : floatBits op .f64 a b = none := by
  have hr := Fl.read_nan (Fl.nan_lt h)
  rcases ho with rfl | rfl | rfl | rfl
  · show Ieee.double.add a b = none; unfold Ieee.Format.add; rw [hr]; rfl
  · show Ieee.double.sub a b = none; unfold Ieee.Format.sub; rw [hr]; rfl
  · show Ieee.double.mul a b = none; unfold Ieee.Format.mul; rw [hr]; rfl
  · show Ieee.double.div a b = none; unfold Ieee.Format.div; rw [hr]; rfl
theorem nan_right (op : BinOp) (ho : isOp op) {a b : Nat} (h : Fl.nan b = true) : floatBits op .f64 a b = none := by
  have hr := Fl.read_nan (Fl.nan_lt h)
  rcases ho with rfl | rfl | rfl | rfl
  · show Ieee.double.add a b = none; unfold Ieee.Format.add; rw [hr]; cases Ieee.double.read a <;> rfl
  · show Ieee.double.sub a b = none; unfold Ieee.Format.sub; rw [hr]; cases Ieee.double.read a <;> rfl
  · show Ieee.double.mul a b = none; unfold Ieee.Format.mul; rw [hr]; cases Ieee.double.read a <;> rfl
  · show Ieee.double.div a b = none; unfold Ieee.Format.div; rw [hr]; cases Ieee.double.read a <;> rfl
theorem opR.nan {op : BinOp} {a b x : Nat} (h : opR op a b x) (hn : floatBits op .f64 a b = none) : Fl.nan x = true := by
  rcases h.2 with e | e
  · rw [hn] at e; cases e
  · exact e.2
/-- like operands give like answers -/
theorem opR.sim {op : BinOp} (ho : isOp op) {a a' b b' x x' : Nat} (h : opR op a b x) (h' : opR op a' b' x') (ha : simR a a') (hb : simR b b') : simR x x' := by
  rcases ha with rfl | ⟨h1, h2⟩
  · rcases hb with rfl | ⟨h1, h2⟩
    · cases e : floatBits op .f64 a b with
      | none => exact Or.inr ⟨h.nan e, h'.nan e⟩
      | some z =>
        have k1 : z = x := by
          rcases h.2 with k | k
          · rw [e] at k; exact Option.some.inj k
          · rw [e] at k; cases k.1
        have k2 : z = x' := by
          rcases h'.2 with k | k
          · rw [e] at k; exact Option.some.inj k
          · rw [e] at k; cases k.1
        exact Or.inl (k1.symm.trans k2)
    · exact Or.inr ⟨h.nan (nan_right op ho h1), h'.nan (nan_right op ho h2)⟩
  · exact Or.inr ⟨h.nan (nan_left op ho h1), h'.nan (nan_left op ho h2)⟩
theorem floatBits_lt0 {op : BinOp} {x y r : Nat} (h : floatBits op .f64 x y = some r) : r < 18446744073709551616 := by
  have hw := floatBits_wf h
  simp only [Lit.wf] at hw
  exact of_decide_eq_true hw
/-- an operation runs: what it leaves, and the world (a draw at most) -/
theorem op_run (op : BinOp) (ho : isOp op) (a b : Nat) (w : World) : ∃ x w1, opR op a b x ∧ (∀ t, (binOp op t (.float .f64 a) (.float .f64 b)).run Try.prog w = .ok (.float .f64 x) w1) ∧ Bw w w1 := by
  cases e : floatBits op .f64 a b with
  | some z => exact ⟨z, w, ⟨floatBits_lt0 e, Or.inl e⟩, fun t => run_float_arith (P := Try.prog) w op t .f64 _ _ _ e, Bw.refl _⟩
  | none =>
    obtain ⟨z, hz, nz, e1⟩ := run_arith_none Try.prog op a b w ho e
    exact ⟨z, w.drew, ⟨hz, Or.inr ⟨e, nz⟩⟩, e1, (Bw.refl _).drew⟩
/-- the odd sum, behind i rounds -/
def oddQ (s : Nat) : Nat → Nat → Prop
  | 0, q => q = 4585925428558828667
  | i + 1, q' => ∃ q d p, oddQ s i q ∧ opR .quo 4607182418800017408 (floatOfInt .f64 (23 - 2 * (i : Int))) d ∧ opR .mul s q p ∧ opR .add d p q'
def oddR (f y : Nat) : Prop := ∃ s q a p r, opR .mul f f s ∧ oddQ s 11 q ∧ opR .mul 4611686018427387904 f a ∧ opR .mul s q p ∧ opR .mul a p r ∧ opR .add a r y
theorem oddQ.sim {s s' : Nat} (hs : simR s s') : ∀ (i q q' : Nat), oddQ s i q → oddQ s' i q' → simR q q'
  | 0, q, q', h, h' => Or.inl (Eq.trans h (Eq.symm h'))
  | i + 1, q, q', ⟨u, d, p, h1, h2, h3, h4⟩, ⟨u', d', p', k1, k2, k3, k4⟩ =>
    h4.sim (Or.inl rfl) k4 (h2.sim (Or.inr (Or.inr (Or.inr rfl))) k2 (simR.refl _) (simR.refl _)) (h3.sim (Or.inr (Or.inr (Or.inl rfl))) k3 hs (oddQ.sim hs i u u' h1 k1))
theorem oddR.sim {f f' y y' : Nat} (h : oddR f y) (k : oddR f' y') (hf : simR f f') : simR y y' := by
  obtain ⟨s, q, a, p, r, h1, h2, h3, h4, h5, h6⟩ := h
  obtain ⟨s', q', a', p', r', k1, k2, k3, k4, k5, k6⟩ := k
  have m : isOp .mul := Or.inr (Or.inr (Or.inl rfl))
  have es := h1.sim m k1 hf hf
  have eq := oddQ.sim es 11 q q' h2 k2
  have ea := h3.sim m k3 (simR.refl _) hf
  have ep := h4.sim m k4 es eq
  have er := h5.sim m k5 ea ep
  exact h6.sim (Or.inl rfl) k6 ea er
end Go.Proofs.Ytmbjgakehghdjaa
