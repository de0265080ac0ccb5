/-
  OWN TEXT: what common of package eddybig returns: a divisor of both numbers that is not nought.
-/
import Derived.Test.YtdfepflfmmmnpaaGreatDoorBgP
import Derived.Test.YtdfepflfmmmnpaaGreatDoorBgQ
import Derived.Test.YtdfepflfmmmnpaaGreatDoorBgR
namespace Go.Proofs.YtdfepflfmmmnpaaGreatDoor
open Go.ChangeShapes Go.WideShapes Go.ChangeAt Go.RowKit
open Bg
set_option linter.unusedVariables false
theorem nm_uniq {w : World} {v : Value} {N M : Nat} (h : Nm w v N) (k : Nm w v M) : N = M := by
  obtain ⟨a, l, c, rfl, h1, h2, h3, h4, rfl, h6⟩ := h
  obtain ⟨a', l', c', e, k1, k2, k3, k4, rfl, k6⟩ := k
  simp only [Value.slice.injEq] at e
  obtain ⟨rfl, e2, rfl⟩ := e
  have : l = l' := by
    refine List.ext_getElem e2 fun i hi hi' => ?_
    obtain ⟨b, o, rfl, hb, hc⟩ := hs_len h3 (by omega)
    obtain ⟨b', o', e3, hb', hc'⟩ := hs_len k3 (by omega)
    cases e3
    have a1 := hc i hi
    rw [hc' i hi'] at a1
    have a2 : l'.getD i 0 = l.getD i 0 := by
      simp only [Option.some.injEq, Value.int.injEq, true_and] at a1
      omega
    rw [List.getD_eq_getElem?_getD, List.getD_eq_getElem?_getD, List.getElem?_eq_getElem hi, List.getElem?_eq_getElem hi'] at a2
    simpa using a2.symm
  rw [this]
noncomputable def wo (w : World) (v : Value) : Nat := Classical.epsilon (Nm w v)
theorem wo_eq {w : World} {v : Value} {N : Nat} (h : Nm w v N) : wo w v = N :=
  nm_uniq (Classical.epsilon_spec (p := Nm w v) ⟨N, h⟩) h
theorem nm_zero {w : World} {v : Value} {N : Nat} (h : Nm w v N) : ∃ a n c, v = .slice a n c ∧ n ≤ c ∧ c ≤ 1099511627776 ∧ (n = 0 ↔ N = 0) ∧ (2 < n → 18446744073709551616 ≤ N) ∧ (n ≤ 2 → N < 18446744073709551616) := by
  obtain ⟨a, l, c, rfl, h1, h2, h3, h4, rfl, h6⟩ := h
  have up := vL_lt l h4
  refine ⟨a, l.length, c, rfl, h1, h2, ⟨fun e => ?_, fun e => ?_⟩, fun e => ?_, fun e => ?_⟩
  · have : l = [] := List.length_eq_zero_iff.1 e
    subst this; rfl
  · by_cases z : l = []
    · subst z; rfl
    · have := vL_ge l h6 z
      have := Nat.pow_pos (n := l.length - 1) (show 0 < 4294967296 by omega)
      omega
  · have := vL_ge l h6 (by intro z; subst z; simp at e)
    have : 4294967296 ^ 2 ≤ 4294967296 ^ (l.length - 1) := Nat.pow_le_pow_right (by omega) (by omega)
    omega
  · have : 4294967296 ^ l.length ≤ 4294967296 ^ 2 := Nat.pow_le_pow_right (by omega) e
    omega
theorem bl_facts (P : Nat) (h : 18446744073709551616 ≤ P) (h2 : P.log2 < 32000000) : ∃ n : Nat, (bitLen P : Int) - 60 = n ∧ 5 ≤ n ∧ n < 32000000 ∧ 576460752303423488 ≤ P / 2 ^ n ∧ P / 2 ^ n < 1152921504606846976 := by
  have hz : P ≠ 0 := by omega
  have hb : bitLen P = P.log2 + 1 := by unfold bitLen; rw [if_neg hz]
  have h64 : 64 ≤ P.log2 := (Nat.le_log2 hz).2 h
  have up := Nat.lt_log2_self (n := P)
  have lo := Nat.log2_self_le hz
  refine ⟨P.log2 + 1 - 60, by omega, by omega, by omega, ?_, ?_⟩
  · rw [Nat.le_div_iff_mul_le (Nat.pow_pos (by omega)), show (576460752303423488 : Nat) = 2 ^ 59 from rfl, ← Nat.pow_add]
    rw [show 59 + (P.log2 + 1 - 60) = P.log2 by omega]
    exact lo
  · rw [Nat.div_lt_iff_lt_mul (Nat.pow_pos (by omega)), show (1152921504606846976 : Nat) = 2 ^ 60 from rfl, ← Nat.pow_add]
    rw [show 60 + (P.log2 + 1 - 60) = P.log2 + 1 by omega]
    exact up

end Go.Proofs.YtdfepflfmmmnpaaGreatDoor
