/-
  OWN TEXT: plain laws on a sum and its loss: what is lost is a word, exactly; with all signs turned both are turned.
-/
import Derived.Test.YtpfgboinjjobpaaFlF
namespace Go.Proofs.Ytpfgboinjjobpaa.Fl

/-- the word of a loss -/
def lw (L : Int) : Nat := wd (decide (L < 0)) (rq L.natAbs 0)
theorem lw_lt (L : Int) : lw L < 18446744073709551616 := wd_lt _ _ (by have := rq_le L.natAbs 0; omega)
theorem nan_lw (L : Int) : nan (lw L) = false := nan_wd _ _ (rq_le _ _)
theorem key_lw (L : Int) : key (lw L) = if L < 0 then -(rq L.natAbs 0 : Int) else rq L.natAbs 0 := by
  have h := rq_le L.natAbs 0
  unfold lw
  rw [key_wd _ _ (by omega)]
  by_cases c : L < 0
  · rw [decide_eq_true c, if_pos c]; rfl
  · rw [decide_eq_false c, if_neg c]; rfl
theorem key_lw_neg (L : Int) : key (lw (-L)) = -key (lw L) := by
  rw [key_lw, key_lw, Int.natAbs_neg]
  by_cases c : L < 0
  · rw [if_pos c, if_neg (by omega)]; omega
  · by_cases z : L = 0
    · subst z; simp [rq]
    · rw [if_neg c, if_pos (by omega)]
theorem lw_zero : lw 0 = 0 := by decide
/-- a number of at most 53 digits, rounded, is worth itself -/
theorem val_round (T : Int) (b : Bool) (h : Rep T) (hl : T.natAbs.log2 < 2098) :
    val (wd (if T = 0 then b else decide (T < 0)) (rq T.natAbs 0)) = T ∧ rq T.natAbs 0 < 9218868437227405312 := by
  obtain ⟨h1, h2⟩ := rq_rep T.natAbs h hl
  refine ⟨?_, h2⟩
  rw [val_wd _ _ (by omega), h1]
  by_cases c : T = 0
  · subst c; simp
  · rw [if_neg c]
    by_cases d : T < 0
    · rw [decide_eq_true d]; simp; omega
    · rw [decide_eq_false d]; simp; omega
theorem val_lw (L : Int) (h : Rep L) (hl : L.natAbs.log2 < 2098) : val (lw L) = L ∧ rg (lw L) < 9218868437227405312 := by
  obtain ⟨h1, h2⟩ := rq_rep L.natAbs h hl
  unfold lw
  rw [val_wd _ _ (by omega), rg_wd _ _ (by omega), h1]
  refine ⟨?_, h2⟩
  by_cases d : L < 0
  · rw [decide_eq_true d]; simp; omega
  · rw [decide_eq_false d]; simp; omega
/-- the word of a sum -/
def aw (x y : Nat) : Nat := wd (if val x + val y = 0 then sg x && sg y else decide (val x + val y < 0)) (rq (val x + val y).natAbs 0)
theorem aw_lt (x y : Nat) : aw x y < 18446744073709551616 := wd_lt _ _ (by have := rq_le (val x + val y).natAbs 0; omega)
theorem nan_aw (x y : Nat) : nan (aw x y) = false := nan_wd _ _ (rq_le _ _)
theorem rg_aw (x y : Nat) : rg (aw x y) = rq (val x + val y).natAbs 0 := rg_wd _ _ (by have := rq_le (val x + val y).natAbs 0; omega)
theorem val_aw (x y : Nat) : val (aw x y) = if val x + val y < 0 then -(vl (rq (val x + val y).natAbs 0) : Int) else vl (rq (val x + val y).natAbs 0) := by
  have h := rq_le (val x + val y).natAbs 0
  unfold aw
  rw [val_wd _ _ (by omega)]
  by_cases c : val x + val y = 0
  · rw [c]; simp [rq, vl]
  · rw [if_neg c]
    by_cases d : val x + val y < 0
    · rw [decide_eq_true d, if_pos d]; rfl
    · rw [decide_eq_false d, if_neg d]; rfl
/-- THE LOSS, by two subtractions, the greater one first -/
theorem loss_steps {a b s : Nat} (ha : rg a < 9218868437227405312) (hb : rg b < 9218868437227405312) (la : a < 18446744073709551616) (hab : rg b ≤ rg a) (hs : rg s < 9218868437227405312)
    (hv : val s = if val a + val b < 0 then -(vl (rq (val a + val b).natAbs 0) : Int) else vl (rq (val a + val b).natAbs 0)) (hf : rq (val a + val b).natAbs 0 < 9218868437227405312) :
    ∃ d m, Ieee.double.sub s a = some d ∧ Ieee.double.sub b d = some m ∧ nan m = false ∧ (if rg m = 0 then 0 else m) = lw (val a + val b - val s) ∧ Rep (val a + val b - val s) ∧ (val a + val b - val s).natAbs.log2 < 2098 := by
  obtain ⟨r1, r2, b1, b2⟩ := sum_loss ha hb hab hf (val s) hv
  have e1 := sub_fin la hs ha
  obtain ⟨v1, f1⟩ := val_round (val s - val a) (sg s && !sg a) r1 b1
  generalize hd : wd (if val s - val a = 0 then sg s && !sg a else decide (val s - val a < 0)) (rq (val s - val a).natAbs 0) = d at *
  have ld : d < 18446744073709551616 := by rw [← hd]; exact wd_lt _ _ (by omega)
  have rd : rg d < 9218868437227405312 := by rw [← hd, rg_wd _ _ (by omega)]; exact f1
  have e2 := sub_fin ld hb rd
  have eL : val b - val d = val a + val b - val s := by rw [v1]; omega
  rw [eL] at e2
  refine ⟨d, _, e1, e2, nan_wd _ _ (rq_le _ _), ?_, r2, b2⟩
  have hq := rq_rep _ r2 b2
  rw [rg_wd _ _ (by omega)]
  generalize hL : val a + val b - val s = L at *
  by_cases z : L = 0
  · rw [z]; simp [rq, lw_zero]
  · have nz : rq L.natAbs 0 ≠ 0 := by
      intro h
      rw [h] at hq
      have h0 : vl 0 = 0 := rfl
      omega
    rw [if_neg nz, if_neg z]; rfl
/-- with all signs turned a sum is turned -/
theorem aw_ng {x y : Nat} (hx : x < 18446744073709551616) (hy : y < 18446744073709551616) : key (aw (ng x) (ng y)) = -key (aw x y) ∧ val (aw (ng x) (ng y)) = -val (aw x y) ∧ rg (aw (ng x) (ng y)) = rg (aw x y) := by
  have k : key (aw (ng x) (ng y)) = -key (aw x y) := by
    unfold aw
    rw [key_round, key_round, val_ng hx, val_ng hy, show -val x + -val y = -(val x + val y) by omega, Int.natAbs_neg]
    by_cases c : val x + val y < 0
    · rw [if_pos c, if_neg (by omega)]; omega
    · by_cases d : val x + val y = 0
      · rw [d]; simp [rq]
      · rw [if_neg c, if_pos (by omega)]
  exact ⟨k, val_opp k, rg_opp k⟩
end Go.Proofs.Ytpfgboinjjobpaa.Fl
