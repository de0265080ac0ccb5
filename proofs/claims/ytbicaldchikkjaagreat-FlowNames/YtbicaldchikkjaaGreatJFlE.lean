/-
  OWN TEXT: plain laws on additions and subtractions with all signs turned.
-/
import Derived.Test.YtbicaldchikkjaaGreatJFlCToFlD
namespace Go.Proofs.YtbicaldchikkjaaGreat.Fl

theorem val_key (x : Nat) : val x = if key x < 0 then -(vl (-key x).toNat : Int) else vl (key x).toNat := by
  have hk := key_cases x
  unfold val
  rcases hk with ⟨h1, h2⟩ | ⟨h1, h2⟩
  · rw [h1, h2]
    simp only [if_true]
    by_cases z : rg x = 0
    · rw [z]; simp [vl]
    · rw [if_pos (by omega), show (-(-(rg x : Int))).toNat = rg x by omega]
  · rw [h1, h2]
    simp only [Bool.false_eq_true, if_false]
    rw [if_neg (by omega), show ((rg x : Int)).toNat = rg x by omega]
theorem val_opp {x y : Nat} (h : key y = -key x) : val y = -val x := by
  rw [val_key, val_key, h]
  by_cases c1 : key x < 0
  · rw [if_pos c1, if_neg (by omega)]; simp
  · by_cases c2 : key x = 0
    · rw [c2]; simp [vl]
    · rw [if_neg c1, if_pos (by omega), show (- -key x).toNat = (key x).toNat by omega]
theorem rg_key (x : Nat) : rg x = (key x).natAbs := by
  have hk := key_cases x
  omega
theorem rg_opp {x y : Nat} (h : key y = -key x) : rg y = rg x := by rw [rg_key, rg_key, h]; omega
theorem key_round (T : Int) (b : Bool) : key (wd (if T = 0 then b else decide (T < 0)) (rq T.natAbs 0)) = if T < 0 then -(rq T.natAbs 0 : Int) else rq T.natAbs 0 := by
  have h := rq_le T.natAbs 0
  rw [key_wd _ _ (by omega)]
  by_cases c : T = 0
  · subst c; simp [rq]
  · rw [if_neg c]
    by_cases d : T < 0
    · rw [if_pos d, decide_eq_true d]; rfl
    · rw [if_neg d, decide_eq_false d]; rfl
theorem nan_wd (b : Bool) (r : Nat) (h : r ≤ 9218868437227405312) : nan (wd b r) = false := by
  unfold nan; rw [rg_wd _ _ (by omega)]; exact decide_eq_false (by omega)
/-- two sums of opposite numbers -/
theorem add_opp {x y x' y' : Nat} (hx : rg x < 9218868437227405312) (hy : rg y < 9218868437227405312) (kx : key x' = -key x) (ky : key y' = -key y) :
    ∃ s t, Ieee.double.add x y = some s ∧ Ieee.double.add x' y' = some t ∧ key t = -key s ∧ nan s = false ∧ nan t = false ∧ s < 18446744073709551616 ∧ t < 18446744073709551616 := by
  have h1 := add_fin hx hy
  have h2 := add_fin (x := x') (y := y') (by rw [rg_opp kx]; exact hx) (by rw [rg_opp ky]; exact hy)
  rw [val_opp kx, val_opp ky, show -val x + -val y = -(val x + val y) by omega] at h2
  have hl := rq_le (val x + val y).natAbs 0
  refine ⟨_, _, h1, h2, ?_, nan_wd _ _ (rq_le _ _), nan_wd _ _ (rq_le _ _), wd_lt _ _ (by omega), wd_lt _ _ (by rw [Int.natAbs_neg]; omega)⟩
  rw [key_round, key_round, Int.natAbs_neg]
  by_cases c : val x + val y < 0
  · rw [if_pos c, if_neg (by omega)]; omega
  · by_cases d : val x + val y = 0
    · rw [d]; simp [rq]
    · rw [if_neg c, if_pos (by omega)]
theorem sub_opp {x y x' y' : Nat} (hy1 : y < 18446744073709551616) (hy2 : y' < 18446744073709551616) (hx : rg x < 9218868437227405312) (hy : rg y < 9218868437227405312) (kx : key x' = -key x) (ky : key y' = -key y) :
    ∃ s t, Ieee.double.sub x y = some s ∧ Ieee.double.sub x' y' = some t ∧ key t = -key s ∧ nan s = false ∧ nan t = false ∧ s < 18446744073709551616 ∧ t < 18446744073709551616 := by
  rw [sub_eq hy1, sub_eq hy2]
  exact add_opp hx (by rw [rg_ng]; exact hy) kx (by rw [key_ng hy1, key_ng hy2, ky])
theorem ng_ng {x : Nat} (h : x < 18446744073709551616) : ng (ng x) = x := by unfold ng; split <;> split <;> omega
/-- a sum with an infinite one, or without an answer, the signs turned -/
theorem add_ng_far {x y : Nat} (hx : x < 18446744073709551616) (hy : y < 18446744073709551616) (h : 9218868437227405312 ≤ rg x ∨ 9218868437227405312 ≤ rg y) :
    (Ieee.double.add x y = none ∧ Ieee.double.add (ng x) (ng y) = none) ∨ (∃ b, Ieee.double.add x y = some (wd b 9218868437227405312) ∧ Ieee.double.add (ng x) (ng y) = some (wd (!b) 9218868437227405312)) := by
  have wi : ∀ b, Ieee.double.write (.infinity b) = wd b 9218868437227405312 := fun b => by cases b <;> rfl
  unfold Ieee.Format.add
  rw [read_ng hx, read_ng hy]
  by_cases c1 : 9218868437227405312 < rg x
  · rw [read_nan c1]; left; exact ⟨rfl, rfl⟩
  by_cases c2 : 9218868437227405312 < rg y
  · rw [read_nan c2]; left
    cases Ieee.double.read x <;> exact ⟨rfl, rfl⟩
  by_cases c3 : rg x = 9218868437227405312
  · rw [read_inf c3]
    by_cases c4 : rg y = 9218868437227405312
    · rw [read_inf c4]
      by_cases e : sg x = sg y
      · right
        refine ⟨sg x, ?_, ?_⟩
        · simp only [Ieee.Datum.sum, e, if_true, Option.map_some, wi]
        · simp only [Ieee.Datum.opposite, Ieee.Datum.sum, e, if_true, Option.map_some, wi]
      · left
        constructor
        · simp only [Ieee.Datum.sum, e, if_false, Option.map_none]
        · have e' : ¬ (!sg x) = (!sg y) := by intro h; exact e (Bool.not_inj h)
          simp only [Ieee.Datum.opposite, Ieee.Datum.sum, if_neg e', Option.map_none]
    · obtain ⟨m, k, hm, _⟩ := read_fin (x := y) (by omega)
      rw [hm]
      right
      exact ⟨sg x, by simp only [Ieee.Datum.sum, Option.map_some, wi], by simp only [Ieee.Datum.opposite, Ieee.Datum.sum, Option.map_some, wi]⟩
  · obtain ⟨m, k, hm, _⟩ := read_fin (x := x) (by omega)
    rw [hm, read_inf (by omega)]
    right
    exact ⟨sg y, by simp only [Ieee.Datum.sum, Option.map_some, wi], by simp only [Ieee.Datum.opposite, Ieee.Datum.sum, Option.map_some, wi]⟩
/-- the nearest whole number -/
def whF (x : Nat) : Nat := Ieee.double.write ((Ieee.double.read x).integral .even)
theorem whF_ng {x : Nat} (hx : x < 18446744073709551616) (hn : nan x = false) : whF (ng x) = ng (whF x) ∧ whF x < 18446744073709551616 ∧ nan (whF x) = false := by
  have hl := nan_le hn
  have ngw : ∀ b r, r < 9223372036854775808 → wd (!b) r = ng (wd b r) := by
    intro b r h
    unfold wd ng
    cases b
    · simp only [Bool.not_false, if_true, Bool.false_eq_true, if_false]; rw [if_pos h]; omega
    · simp only [Bool.not_true, if_true, Bool.false_eq_true, if_false]; rw [if_neg (by omega)]; omega
  unfold whF
  rw [read_ng hx]
  by_cases c : rg x = 9218868437227405312
  · rw [read_inf c]
    have wi : ∀ b, Ieee.double.write (.infinity b) = wd b 9218868437227405312 := fun b => by cases b <;> rfl
    simp only [Ieee.Datum.opposite, Ieee.Datum.integral, wi]
    exact ⟨ngw _ _ (by omega), wd_lt _ _ (by omega), nan_wd _ _ (by omega)⟩
  · obtain ⟨m, k, hm, _⟩ := read_fin (x := x) (by omega)
    rw [hm]
    simp only [Ieee.Datum.opposite, Ieee.Datum.integral, cut_even]
    generalize rne (m <<< (-1074 + (k : Int)).toNat) (-(-1074 + (k : Int))).toNat = q
    have e : ∀ b, Ieee.double.write (.number b q 0) = wd b (rq (q * 2 ^ 1074) 0) := by
      intro b
      have := nearest_eq b q 1074 0
      exact this
    rw [e, e]
    have := rq_le (q * 2 ^ 1074) 0
    generalize rq (q * 2 ^ 1074) 0 = r at *
    exact ⟨ngw _ _ (by omega), wd_lt _ _ (by omega), nan_wd _ _ (by omega)⟩
end Go.Proofs.YtbicaldchikkjaaGreat.Fl
