/-
  OWN TEXT: plain laws of the division of long numbers, one figure at a time.
-/
import Derived.Test.YtdfepflfmmmnpaaGreatDoorJnAx
namespace Go.Proofs.YtdfepflfmmmnpaaGreatDoor.Bg

/-- the guess of a figure is not too small, as long as it is lowered only so -/
theorem guess_low (U V top v2 u2 num p g rest : Nat) (hV : (top * 4294967296 + v2) * p ≤ V) (hU : U < (num * 4294967296 + u2 + 1) * p) (hg : g * top + rest = num) (h : rest * 4294967296 + u2 < g * v2) : U < g * V := by
  have h1 : g * ((top * 4294967296 + v2) * p) ≤ g * V := Nat.mul_le_mul_left _ hV
  have h2 : (num * 4294967296 + u2 + 1) * p ≤ g * (top * 4294967296 + v2) * p := by
    refine Nat.mul_le_mul_right _ ?_
    rw [Nat.mul_add, ← Nat.mul_assoc, ← hg, Nat.add_mul]
    omega
  rw [Nat.mul_assoc] at h2
  omega
/-- nor more than one too great in the end -/
theorem guess_high (U V top v2 u2 num p g rest low : Nat) (hV : V = (top * 4294967296 + v2) * p + low) (hl : low < p) (hU : (num * 4294967296 + u2) * p ≤ U) (hg : g * top + rest = num) (hgb : g ≤ 4294967295) (ht : 1 ≤ top) (h : g * v2 ≤ rest * 4294967296 + u2) : g * V < U + V := by
  have h1 : g * (top * 4294967296 + v2) * p ≤ (num * 4294967296 + u2) * p := by
    refine Nat.mul_le_mul_right _ ?_
    rw [Nat.mul_add, ← Nat.mul_assoc, ← hg, Nat.add_mul]
    omega
  have h2 : g * V = g * (top * 4294967296 + v2) * p + g * low := by rw [hV, Nat.mul_add, Nat.mul_assoc]
  have h3 : g * low ≤ 4294967295 * low := Nat.mul_le_mul_right _ hgb
  have h4 : 4294967296 * p ≤ (top * 4294967296 + v2) * p := Nat.mul_le_mul_right _ (by omega)
  rw [h2]
  omega
/-- a step of the product that is taken off -/
theorem take_step (s s' m : List Nat) (i g c b c' b' d u : Nat) (hs : i < s'.length) (hu : u = s.getD i 0) (h : vL (s'.take i) + g * vL (m.take i) = vL (s.take i) + (c + b) * 4294967296 ^ i) (hd : d + (g * m.getD i 0 + c) % 4294967296 + b = u + b' * 4294967296) (hc : c' = (g * m.getD i 0 + c) / 4294967296) :
    vL ((s'.set i d).take (i + 1)) + g * vL (m.take (i + 1)) = vL (s.take (i + 1)) + (c' + b') * 4294967296 ^ (i + 1) := by
  rw [take_set_succ _ _ _ hs, vL_take_succ' m, vL_take_succ' s, ← hu, Nat.pow_succ, Nat.mul_add]
  have hm := Nat.div_add_mod (g * m.getD i 0 + c) 4294967296
  rw [← hc] at hm
  rw [show g * (m.getD i 0 * 4294967296 ^ i) = g * m.getD i 0 * 4294967296 ^ i from by rw [Nat.mul_assoc]]
  generalize hq : 4294967296 ^ i = p at *
  have e : (d + g * m.getD i 0 + c + b) * p = (u + (c' + b') * 4294967296) * p := by
    congr 1
    generalize g * m.getD i 0 = gm at *
    omega
  rw [Nat.add_mul, Nat.add_mul, Nat.add_mul, Nat.add_mul, Nat.mul_assoc (c' + b'), Nat.mul_comm 4294967296] at e
  rw [Nat.add_mul] at h
  generalize g * m.getD i 0 * p = a1 at *
  generalize (c' + b') * (p * 4294967296) = a2 at *
  omega
theorem getD_app (P s : List Nat) (j i : Nat) (h : P.length = j) : (P ++ s).getD (j + i) 0 = s.getD i 0 := by
  subst h
  simp only [List.getD, List.getElem?_append]
  rw [if_neg (by omega), show P.length + i - P.length = i by omega]
theorem set_app (P s : List Nat) (j i d : Nat) (h : P.length = j) : (P ++ s).set (j + i) d = P ++ s.set i d := by
  subst h
  rw [List.set_append_right _ _ (by omega), show P.length + i - P.length = i by omega]
theorem Dg_app {P s : List Nat} (h1 : Dg P) (h2 : Dg s) : Dg (P ++ s) := by
  intro i
  simp only [List.getD, List.getElem?_append]
  split
  · exact h1 i
  · exact h2 _
theorem vL_two (l : List Nat) (n : Nat) (hn : 2 ≤ n) : vL (l.take n) = vL (l.take (n - 2)) + (l.getD (n - 1) 0 * 4294967296 + l.getD (n - 2) 0) * 4294967296 ^ (n - 2) := by
  obtain ⟨k, rfl⟩ : ∃ k, n = k + 2 := ⟨n - 2, by omega⟩
  rw [show k + 2 - 2 = k by omega, show k + 2 - 1 = k + 1 by omega, vL_take_succ', vL_take_succ', Nat.pow_succ, Nat.add_mul, Nat.mul_assoc (l.getD (k + 1) 0), Nat.mul_comm 4294967296]
  omega
theorem vL_three (l : List Nat) (n : Nat) (hn : 2 ≤ n) : vL (l.take (n + 1)) = vL (l.take (n - 2)) + ((l.getD n 0 * 4294967296 + l.getD (n - 1) 0) * 4294967296 + l.getD (n - 2) 0) * 4294967296 ^ (n - 2) := by
  rw [vL_take_succ', vL_two l n hn]
  obtain ⟨k, rfl⟩ : ∃ k, n = k + 2 := ⟨n - 2, by omega⟩
  rw [show k + 2 - 2 = k by omega, show k + 2 - 1 = k + 1 by omega, Nat.pow_succ, Nat.pow_succ, Nat.add_mul, Nat.add_mul, Nat.add_mul, Nat.add_mul, Nat.mul_assoc (l.getD (k + 2) 0), Nat.mul_assoc (l.getD (k + 2) 0)]
  have e : 4294967296 ^ k * 4294967296 * 4294967296 = 4294967296 * 4294967296 * 4294967296 ^ k := by rw [Nat.mul_assoc, Nat.mul_comm]
  rw [e]
  omega
/-- the end where nothing was borrowed -/
theorem fig_plain (U V g a un c b p d R : Nat) (h : a + g * V = R + (c + b) * p) (hU : U = R + un * p) (hd : d + c + b = un) (hlow : U < (g + 1) * V) : a + d * p = U % V ∧ g = U / V := by
  have e : un * p = d * p + (c + b) * p := by rw [← hd, Nat.add_assoc, Nat.add_mul]
  have hX : a + d * p + g * V = U := by omega
  rw [Nat.add_mul] at hlow
  have hlt : a + d * p < V := by omega
  have hV : 0 < V := by omega
  constructor
  · rw [← hX, Nat.add_mul_mod_self_right, Nat.mod_eq_of_lt hlt]
  · rw [← hX, Nat.add_mul_div_right _ _ hV, Nat.div_eq_of_lt hlt, Nat.zero_add]
/-- the end where one was too many -/
theorem fig_back (U V g a un c b p d R c3 a3 : Nat) (h : a + g * V = R + (c + b) * p) (hU : U = R + un * p) (hd : d + c + b = un + 4294967296) (hlow : U < (g + 1) * V) (hhigh : g * V < U + V) (h3 : a3 + c3 * p = a + V) (ha3 : a3 < p) (hap : a < p) (hd2 : d < 4294967296) (hc3 : c3 ≤ 1) (hneg : un < c + b) (_hRp : R < p) :
    a3 + (d + c3) % 4294967296 * p = U % V ∧ g = U / V + 1 := by
  have e : d * p + (c + b) * p = un * p + 4294967296 * p := by rw [← Nat.add_mul, ← Nat.add_mul, ← Nat.add_assoc, hd]
  have e2 : (d + c3) * p = d * p + c3 * p := Nat.add_mul _ _ _
  have hX : a3 + (d + c3) * p + g * V = U + V + 4294967296 * p := by omega
  have hg : U < g * V := by
    have : un * p + p ≤ (c + b) * p := by
      have := Nat.mul_le_mul_right p (show un + 1 ≤ c + b from hneg)
      rw [Nat.add_mul, Nat.one_mul] at this; exact this
    omega
  have h4 : 4294967296 * p < a3 + (d + c3) * p + 1 := by omega
  have hdc : d + c3 = 4294967296 := by
    by_cases z : d + c3 = 4294967296
    · exact z
    · exfalso
      have : (d + c3 + 1) * p ≤ 4294967296 * p := Nat.mul_le_mul_right _ (by omega)
      rw [Nat.add_mul, Nat.one_mul] at this
      omega
  rw [hdc] at hX ⊢
  rw [show 4294967296 % 4294967296 = 0 from rfl, Nat.zero_mul, Nat.add_zero]
  obtain ⟨f, rfl⟩ : ∃ f, g = f + 1 := ⟨g - 1, by
    cases g with
    | zero => omega
    | succ f => omega⟩
  rw [Nat.add_mul, Nat.one_mul] at hX hg hhigh
  have hX2 : a3 + f * V = U := by omega
  have hlt : a3 < V := by omega
  constructor
  · rw [← hX2, Nat.add_mul_mod_self_right, Nat.mod_eq_of_lt hlt]
  · rw [← hX2, Nat.add_mul_div_right _ _ (by omega), Nat.div_eq_of_lt hlt, Nat.zero_add]
theorem take_drop_eq (s s' : List Nat) (i d : Nat) (h : ∀ t, i ≤ t → s'.getD t 0 = s.getD t 0) (hi : i < s'.length) : ∀ t, i + 1 ≤ t → (s'.set i d).getD t 0 = s.getD t 0 := by
  intro t ht
  rw [getD_set _ _ _ _ hi, if_neg (by omega)]
  exact h t (by omega)
/-- where the guess begins, in any base -/
theorem guess_base (U V top v2 un un1 u2 p low B : Nat) (hB : 0 < B) (hV : V = (top * B + v2) * p + low) (hlow : low < p) (hUg : ((un * B + un1) * B + u2) * p ≤ U) (hUl : U < ((un * B + un1) * B + u2 + 1) * p) (h : U < V * B) (ht : B ≤ 2 * top) (hv2 : v2 < B) (h1 : un1 < B) (h2 : u2 < B) :
    U < ((un * B + un1) / top + 1) * V ∧ (un * B + un1) / top ≤ B + 1 ∧ ((un * B + un1) / top = B + 1 → (un * B + un1) % top + top < B) ∧ (un * B + un1) / top * top + (un * B + un1) % top = un * B + un1 := by
  have hp : 0 < p := by omega
  have e1 : (top + 1) * B = top * B + B := by rw [Nat.add_mul, Nat.one_mul]
  have hun : un ≤ top := by
    by_cases c : un ≤ top
    · exact c
    · exfalso
      have b1 : (top + 1) * B ≤ un * B := Nat.mul_le_mul_right _ (by omega)
      have b2 : (top + 1) * B * B ≤ (un * B + un1) * B := Nat.mul_le_mul_right _ (by omega)
      have a1 : (top + 1) * B * B * p ≤ ((un * B + un1) * B + u2) * p := Nat.mul_le_mul_right _ (by omega)
      have a2 : (top * B + v2 + 1) * p ≤ ((top + 1) * B) * p := Nat.mul_le_mul_right _ (by omega)
      have a3 : V < (top * B + v2 + 1) * p := by rw [hV, Nat.add_mul (top * B + v2) 1, Nat.one_mul]; omega
      have a4 : (top + 1) * B * B * p = (top + 1) * B * p * B := by
        rw [Nat.mul_assoc _ B p, Nat.mul_comm B p, ← Nat.mul_assoc]
      have a5 : V * B ≤ (top + 1) * B * p * B := Nat.mul_le_mul_right _ (by omega)
      omega
  have hdm := Nat.div_add_mod (un * B + un1) top
  have hml := Nat.mod_lt (un * B + un1) (show 0 < top by omega)
  have hb3 : un * B ≤ top * B := Nat.mul_le_mul_right _ hun
  generalize hg : (un * B + un1) / top = g at *
  generalize hr : (un * B + un1) % top = r at *
  rw [Nat.mul_comm] at hdm
  have e2 : (B + 1) * top = top * B + top := by rw [Nat.add_mul, Nat.one_mul, Nat.mul_comm]
  have e3 : (B + 2) * top = top * B + 2 * top := by rw [Nat.add_mul, Nat.mul_comm B]
  have hgb : g ≤ B + 1 := by
    by_cases c : g ≤ B + 1
    · exact c
    · have : (B + 2) * top ≤ g * top := Nat.mul_le_mul_right _ (by omega)
      omega
  refine ⟨?_, hgb, ?_, hdm⟩
  · have a0 : (g + 1) * top = g * top + top := by rw [Nat.add_mul, Nat.one_mul]
    have a1 : (un * B + un1 + 1) ≤ (g + 1) * top := by omega
    have a2 : (un * B + un1 + 1) * (B * p) ≤ (g + 1) * top * (B * p) := Nat.mul_le_mul_right _ a1
    have a3 : top * (B * p) ≤ V := by
      rw [hV, ← Nat.mul_assoc]
      have : top * B * p ≤ (top * B + v2) * p := Nat.mul_le_mul_right _ (by omega)
      omega
    have a4 : (g + 1) * (top * (B * p)) ≤ (g + 1) * V := Nat.mul_le_mul_left _ a3
    have a6 : (un * B + un1 + 1) * B = (un * B + un1) * B + B := by rw [Nat.add_mul, Nat.one_mul]
    have a5 : ((un * B + un1) * B + u2 + 1) * p ≤ (un * B + un1 + 1) * B * p := Nat.mul_le_mul_right _ (by omega)
    rw [Nat.mul_assoc] at a5
    rw [← Nat.mul_assoc (g + 1)] at a4
    omega
  · intro e
    rw [e] at hdm
    omega
/-- where the guess begins -/
theorem guess_start (U V top v2 un un1 u2 p low : Nat) (hV : V = (top * 4294967296 + v2) * p + low) (hlow : low < p) (hUg : ((un * 4294967296 + un1) * 4294967296 + u2) * p ≤ U) (hUl : U < ((un * 4294967296 + un1) * 4294967296 + u2 + 1) * p) (h : U < V * 4294967296) (ht : 2147483648 ≤ top) (hv2 : v2 < 4294967296) (h1 : un1 < 4294967296) (h2 : u2 < 4294967296) :
    U < ((un * 4294967296 + un1) / top + 1) * V ∧ (un * 4294967296 + un1) / top ≤ 4294967296 + 1 ∧ ((un * 4294967296 + un1) / top = 4294967296 + 1 → (un * 4294967296 + un1) % top + top < 4294967296) ∧ (un * 4294967296 + un1) / top * top + (un * 4294967296 + un1) % top = un * 4294967296 + un1 :=
  guess_base U V top v2 un un1 u2 p low 4294967296 (by omega) hV hlow hUg hUl h (by omega) hv2 h1 h2
end Go.Proofs.YtdfepflfmmmnpaaGreatDoor.Bg
