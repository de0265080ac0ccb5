/-
  OWN TEXT: the steps: pivots are greatest; elements stay numbers and grow by little more than 2 at a step; how far each is from the true one.
-/
import Derived.Test.YtjfkdmddfeeheaaJSwJToSwC
import Derived.Test.YtjfkdmddfeeheaaJSvOToSvP
import Derived.Test.YtjfkdmddfeeheaaJSwAToSwB
import Derived.Test.YtjfkdmddfeeheaaJSvCToSvG
import Derived.Test.YtjfkdmddfeeheaaJSvJToSvK
set_option linter.unusedVariables false
namespace Go.Proofs.Ytjfkdmddfeeheaa.Sv
theorem best_max {A : M} {k : Nat} : ∀ {T : Nat}, (∀ t, t < T → Fl.nan (A (k + t) k) = false) → ∀ t, t < T → Fl.rg (A (k + t) k) ≤ Fl.rg (A (best A k T) k)
  | 0, _, t, h => absurd h (by omega)
  | T + 1, hn, t, ht => by
    have ih := best_max (A := A) (k := k) (T := T) (fun t h => hn t (by omega))
    have hb : Fl.nan (A (best A k T) k) = false := by
      rcases best_lt A k T with q | q
      · have := hn (best A k T - k) (by have := best_ge A k T; omega)
        rw [show k + (best A k T - k) = best A k T by have := best_ge A k T; omega] at this
        exact this
      · rw [q]; exact hn 0 (by omega)
    have hg : gt (A (k + T) k) (A (best A k T) k) = decide (Fl.rg (A (best A k T) k) < Fl.rg (A (k + T) k)) := by
      unfold gt; rw [hn T (by omega), hb]; rfl
    unfold best
    rw [hg]
    by_cases c : Fl.rg (A (best A k T) k) < Fl.rg (A (k + T) k)
    · rw [decide_eq_true c, if_pos rfl]
      rcases Nat.lt_or_ge t T with q | q
      · have := ih t q; omega
      · have : t = T := by omega
        subst this; exact Nat.le_refl _
    · rw [decide_eq_false c]
      simp only [Bool.false_eq_true, if_false]
      rcases Nat.lt_or_ge t T with q | q
      · exact ih t q
      · have : t = T := by omega
        subst this; omega
/-- one element of a step -/
theorem less_err {B : M} {k i j : Nat} {g : Rat} (hg1 : en * 1152921504606846976 ≤ g) (hg2 : g ≤ 288230376151711744) (h1 : Fi (B i j)) (a1 : Ab (rv (B i j)) g) (h2 : Fi (B k j)) (a2 : Ab (rv (B k j)) g) (hf : Fi (op .quo (B i k) (B k k))) (af : Ab (rv (op .quo (B i k) (B k k))) 1) :
    Fi (less B k i j) ∧ Ab (rv (less B k i j)) (g * (2 + 1 / 562949953421312)) ∧ Ab (rv (B i j) - rv (op .quo (B i k) (B k k)) * rv (B k j) - rv (less B k i j)) (4 * (1 / 4503599627370496) * g + 3 * en) ∧
      ∀ C D, Ab (rv (B k j)) C → Ab (rv (less B k i j)) D → Ab (rv (B i j) - rv (op .quo (B i k) (B k k)) * rv (B k j) - rv (less B k i j)) (1 / 4503599627370496 * C + 2 * (1 / 4503599627370496) * D + 3 * en) := by
  have he := en_pos
  unfold less
  generalize op .quo (B i k) (B k k) = f at *
  generalize B i j = x at *
  generalize B k j = y at *
  have p1 : Ab (rv f * rv y) g := (af.mul a2).mono (by grind)
  have p2 := mul_fi hf h2 p1 (by grind)
  have p3 := mul_err hf h2 p2 p1
  have p4 : ∀ C, Ab (rv y) C → Ab (rv (op .mul f y) - rv f * rv y) (1 / 4503599627370496 * C + en) := fun C hC => mul_err hf h2 p2 ((af.mul hC).mono (by grind))
  generalize op .mul f y = p at *
  have p5 : Ab (rv p) (g + (1 / 4503599627370496 * g + en)) := by
    have := p1.add p3
    rw [show rv f * rv y + (rv p - rv f * rv y) = rv p by grind] at this
    exact this
  have s1 : Ab (rv x - rv p) (g + (g + (1 / 4503599627370496 * g + en))) := a1.sub p5
  have s2 := sub_fi h1 p2 s1 (by grind)
  have s3 := sub_err h1 p2 s2 s1
  have s4 := sub_err h1 p2 s2 (ab_ab (rv x - rv p))
  generalize op .sub x p = s at *
  refine ⟨s2, ?_, ?_, fun C D hC hD => ?_⟩
  · unfold Ab at *
    constructor <;> grind
  · generalize rv f * rv y = q at *
    unfold Ab at *
    constructor <;> grind
  · have q4 := p4 C hC
    have hH : ab (rv x - rv p) ≤ D + (1 / 4503599627370496 * ab (rv x - rv p) + en) := by
      refine ab_le ?_
      have := hD.sub s4
      rw [show rv s - (rv s - (rv x - rv p)) = rv x - rv p by grind] at this
      exact this
    have hn := ab_nn (rv x - rv p)
    have hDn := hD.nn
    generalize rv f * rv y = q at *
    generalize ab (rv x - rv p) = H at *
    unfold Ab at *
    constructor <;> grind
/-- so much at the most behind k steps -/
def gr (m : Rat) : Nat → Rat
  | 0 => m
  | k + 1 => gr m k * (2 + 1 / 562949953421312)
theorem gr_nn {m : Rat} (h : 0 ≤ m) : ∀ k, 0 ≤ gr m k
  | 0 => h
  | k + 1 => Rat.mul_nonneg (gr_nn h k) (by grind)
theorem gr_up {m : Rat} (h : 0 ≤ m) (k : Nat) : gr m k ≤ gr m (k + 1) := by
  have := gr_nn h k
  show gr m k ≤ gr m k * (2 + 1 / 562949953421312)
  generalize gr m k = x at *
  grind
theorem gr_mono {m : Rat} (h : 0 ≤ m) {j k : Nat} (hk : j ≤ k) : gr m j ≤ gr m k := by
  induction k with
  | zero => cases Nat.le_zero.1 hk; exact Rat.le_refl
  | succ k ih =>
    rcases Nat.lt_or_ge j (k + 1) with q | q
    · exact Rat.le_trans (ih (by omega)) (gr_up h k)
    · have : j = k + 1 := by omega
      subst this; exact Rat.le_refl
theorem gr_8 {m : Rat} (h : 0 ≤ m) {k : Nat} (hk : k ≤ 8) : gr m k ≤ 257 * m := by
  refine Rat.le_trans (gr_mono h hk) ?_
  have e : gr m 8 = m * ((2 + 1 / 562949953421312) ^ 8) := by unfold gr gr gr gr gr gr gr gr gr; grind
  rw [e]
  have c : ((2 + 1 / 562949953421312 : Rat) ^ 8) ≤ 257 := by decide +kernel
  have := Rat.mul_le_mul_of_nonneg_left c h
  grind
/-- all elements of a system, by their column's bound -/
def Mb (n : Nat) (A : M) (mm : Nat → Rat) (k : Nat) : Prop := ∀ i, i < n → ∀ j, j ≤ n → Fi (A i j) ∧ Ab (rv (A i j)) (gr (mm j) k)
theorem Mb.swap {n : Nat} {A : M} {mm : Nat → Rat} {k t : Nat} (h : Mb n A mm k) {a b : Nat} (ha : a < n) (hb : b < n) : Mb n (Sv.swap A a b) mm k := by
  intro i hi j hj
  unfold Sv.swap
  by_cases e1 : i = a
  · rw [if_pos e1]; exact h b hb j hj
  · rw [if_neg e1]
    by_cases e2 : i = b
    · rw [if_pos e2]; exact h a ha j hj
    · rw [if_neg e2]; exact h i hi j hj
theorem not_bad {x : Nat} (h : bad x = false) : ¬ Fl.rg x = 0 ∧ Fl.finB x = true := by
  unfold bad nought at h
  simp only [Bool.or_eq_false_iff, Bool.not_eq_false'] at h
  exact ⟨of_decide_eq_false h.1, h.2⟩
/-- the pivot's row of the step k -/
def Bk (n : Nat) (A : M) (k : Nat) : M := Sv.swap (st n A k) k (tk n A k)
theorem st_succ (n : Nat) (A : M) (k : Nat) : st n A (k + 1) = elim (Bk n A k) k := rfl
theorem piv_Bk (n : Nat) (A : M) (k : Nat) : Bk n A k k k = piv n A k := swap_piv n A k
theorem quo_Bk {n : Nat} {A : M} {mm : Nat → Rat} {k : Nat} (hk : k < n) (h : Mb n (st n A k) mm k) (hb : bad (piv n A k) = false) {i : Nat} (hi : k < i) (hi2 : i < n) :
    Fi (Bk n A k i k) ∧ Fi (Bk n A k k k) ∧ ¬ Fl.rg (Bk n A k k k) = 0 ∧ Fi (op .quo (Bk n A k i k) (Bk n A k k k)) ∧ Ab (rv (op .quo (Bk n A k i k) (Bk n A k k k))) 1 := by
  have hB : Mb n (Bk n A k) mm k := h.swap (t := 0) hk (tk_lt A hk)
  obtain ⟨f1, _⟩ := hB i hi2 k (by omega)
  obtain ⟨f2, _⟩ := hB k hk k (by omega)
  rw [← piv_Bk] at hb
  obtain ⟨z1, z2⟩ := not_bad hb
  have hm : ∀ t, t < n - k → Fl.rg (st n A k (k + t) k) ≤ Fl.rg (st n A k (tk n A k) k) :=
    best_max (fun t ht => by
      have := (h (k + t) (by omega) k (by omega)).1.2
      exact decide_eq_false (by omega))
  have hle : Fl.rg (Bk n A k i k) ≤ Fl.rg (Bk n A k k k) := by
    rw [piv_Bk]
    unfold Bk
    rw [swap_sw]
    have hs1 : sw k (tk n A k) i < n := sw_lt hk (tk_lt A hk) hi2
    have hs2 : k ≤ sw k (tk n A k) i := by
      have := tk_ge n k A
      unfold sw; split
      · omega
      · split <;> omega
    have := hm (sw k (tk n A k) i - k) (by omega)
    rw [show k + (sw k (tk n A k) i - k) = sw k (tk n A k) i by omega] at this
    exact this
  obtain ⟨q1, q2⟩ := quo_one f1 f2 z1 hle
  exact ⟨f1, f2, z1, q1, q2⟩
theorem Mb.step {n : Nat} {A : M} {mm : Nat → Rat} {k : Nat} (hk : k < n) (hn : n ≤ 8) (hmm : ∀ j, j ≤ n → en * 1152921504606846976 ≤ mm j ∧ mm j ≤ 1099511627776) (h : Mb n (st n A k) mm k) (hb : bad (piv n A k) = false) : Mb n (st n A (k + 1)) mm (k + 1) := by
  have hB : Mb n (Bk n A k) mm k := h.swap (t := 0) hk (tk_lt A hk)
  intro i hi j hj
  rw [st_succ]
  have hm := hmm j hj
  have h0 : 0 ≤ mm j := by have := en_pos; grind
  unfold elim
  by_cases c : k < i ∧ k < j
  · rw [if_pos c]
    obtain ⟨_, _, _, q1, q2⟩ := quo_Bk hk h hb c.1 hi
    obtain ⟨f1, a1⟩ := hB i hi j hj
    obtain ⟨f2, a2⟩ := hB k hk j hj
    have g1 := gr_mono h0 (Nat.zero_le k)
    have g2 := gr_8 h0 (show k ≤ 8 by omega)
    have e0 : gr (mm j) 0 = mm j := rfl
    rw [e0] at g1
    obtain ⟨r1, r2, _, _⟩ := less_err (g := gr (mm j) k) (by grind) (by grind) f1 a1 f2 a2 q1 q2
    exact ⟨r1, r2⟩
  · rw [if_neg c]
    obtain ⟨f1, a1⟩ := hB i hi j hj
    exact ⟨f1, a1.mono (gr_up h0 k)⟩
theorem good_mono0 {n : Nat} {A : M} {k j : Nat} (h : good n A k) (hj : j ≤ k) : good n A j := fun i hi => h i (by omega)
theorem Mb.all {n : Nat} {A : M} {mm : Nat → Rat} (hn : n ≤ 8) (hmm : ∀ j, j ≤ n → en * 1152921504606846976 ≤ mm j ∧ mm j ≤ 1099511627776) (h : Mb n A mm 0) : ∀ {k : Nat}, k ≤ n → good n A k → Mb n (st n A k) mm k
  | 0, _, _ => h
  | k + 1, hk, hg => Mb.step (by omega) hn hmm (Mb.all hn hmm h (by omega) (good_mono0 hg (by omega))) (hg k (by omega))
end Go.Proofs.Ytjfkdmddfeeheaa.Sv
/-
  OWN TEXT: sums; the way back against the true sums.
-/
set_option linter.unusedVariables false
set_option exponentiation.threshold 3000
namespace Go.Proofs.Ytjfkdmddfeeheaa.Sv
/-- t terms from k on -/
def sumF (f : Nat → Rat) (k : Nat) : Nat → Rat
  | 0 => 0
  | t + 1 => sumF f k t + f (k + t)
theorem sumF_front (f : Nat → Rat) (k : Nat) : ∀ t, sumF f k (t + 1) = f k + sumF f (k + 1) t
  | 0 => by show (0 : Rat) + f (k + 0) = f k + 0; rw [Nat.add_zero]; grind
  | t + 1 => by
    show sumF f k (t + 1) + f (k + (t + 1)) = f k + (sumF f (k + 1) t + f (k + 1 + t))
    rw [sumF_front f k t, show k + (t + 1) = k + 1 + t by omega]
    grind
theorem sumF_ab {f g : Nat → Rat} {k : Nat} {c : Rat} : ∀ {T : Nat}, (∀ t, t < T → Ab (f (k + t)) (c * g (k + t))) → Ab (sumF f k T) (c * sumF g k T)
  | 0, _ => by show Ab 0 (c * 0); unfold Ab; constructor <;> grind
  | T + 1, h => by
    have := (sumF_ab (T := T) (fun t ht => h t (by omega))).add (h T (by omega))
    refine this.mono ?_
    show c * sumF g k T + c * g (k + T) ≤ c * (sumF g k T + g (k + T))
    grind
theorem sumF_comb (f1 f2 f3 : Nat → Rat) (p : Rat) (k : Nat) : ∀ T, sumF (fun j => f1 j - p * f2 j - f3 j) k T = sumF f1 k T - p * sumF f2 k T - sumF f3 k T
  | 0 => by show (0 : Rat) = 0 - p * 0 - 0; grind
  | T + 1 => by
    show sumF (fun j => f1 j - p * f2 j - f3 j) k T + (f1 (k + T) - p * f2 (k + T) - f3 (k + T)) = sumF f1 k T + f1 (k + T) - p * (sumF f2 k T + f2 (k + T)) - (sumF f3 k T + f3 (k + T))
    rw [sumF_comb f1 f2 f3 p k T]
    grind
theorem sumF_nn {g : Nat → Rat} (hg : ∀ j, 0 ≤ g j) (k : Nat) : ∀ T, 0 ≤ sumF g k T
  | 0 => Rat.le_refl
  | T + 1 => by
    have h1 := sumF_nn hg k T
    have h2 := hg (k + T)
    show 0 ≤ sumF g k T + g (k + T)
    grind
theorem sumF_split (g : Nat → Rat) (a s : Nat) : ∀ t, sumF g a (s + t) = sumF g a s + sumF g (a + s) t
  | 0 => by show sumF g a s = sumF g a s + 0; grind
  | t + 1 => by
    show sumF g a (s + t) + g (a + (s + t)) = sumF g a s + (sumF g (a + s) t + g (a + s + t))
    rw [sumF_split g a s t, Nat.add_assoc]
    grind
theorem sumF_le {g : Nat → Rat} (hg : ∀ j, 0 ≤ g j) {k T n : Nat} (h : k + T ≤ n) : sumF g k T ≤ sumF g 0 n := by
  have e1 := sumF_split g 0 k (n - k)
  have e2 := sumF_split g k T (n - k - T)
  rw [show k + (n - k) = n by omega, Nat.zero_add] at e1
  rw [show T + (n - k - T) = n - k by omega] at e2
  have h1 := sumF_nn hg 0 k
  have h2 := sumF_nn hg (k + T) (n - k - T)
  grind
theorem one_le_sum {g : Nat → Rat} (hg : ∀ j, 0 ≤ g j) {j n : Nat} (h : j < n) : g j ≤ sumF g 0 n := by
  have := sumF_le hg (k := j) (T := 1) (n := n) (by omega)
  have e : sumF g j 1 = g j := by show 0 + g (j + 0) = g j; rw [Nat.add_zero]; grind
  rw [e] at this
  exact this
theorem en_le : en ≤ 1 / 1152921504606846976 := by
  have hu := en_unit
  have hp := en_pos
  have h : ((1152921504606846976 : Nat) : Rat) ≤ ((2 ^ 1074 : Nat) : Rat) := Rat.natCast_le_natCast.2 (by decide +kernel)
  have c : ((1152921504606846976 : Nat) : Rat) = 1152921504606846976 := rfl
  rw [c] at h
  have k := Rat.mul_le_mul_of_nonneg_right h (Rat.le_of_lt hp)
  rw [hu] at k
  grind
/-- e, and q for each step -/
def acc (e q : Rat) : Nat → Rat
  | 0 => e
  | k + 1 => acc e q k + q
theorem acc_mono {e q : Rat} (hq : 0 ≤ q) {j k : Nat} (h : j ≤ k) : acc e q j ≤ acc e q k := by
  induction k with
  | zero => cases Nat.le_zero.1 h; exact Rat.le_refl
  | succ k ih =>
    rcases Nat.lt_or_ge j (k + 1) with c | c
    · have := ih (by omega)
      show acc e q j ≤ acc e q k + q
      grind
    · have : j = k + 1 := by omega
      subst this; exact Rat.le_refl
theorem acc_8 (e q : Rat) : acc e q 8 = e + 8 * q := by
  show e + q + q + q + q + q + q + q + q = _
  grind
theorem acc_7 (e q : Rat) : acc e q 7 = e + 7 * q := by
  show e + q + q + q + q + q + q + q = _
  grind
theorem bsum_lt {U : M} {n i : Nat} {x : Nat → Nat} (hb : U i n < 18446744073709551616) : ∀ t, bsum U n i x t < 18446744073709551616
  | 0 => hb
  | t + 1 => op_lt _ _ _
theorem bsum_fin {U : M} {n i : Nat} {x : Nat → Nat} : ∀ {m : Nat}, Fl.finB (bsum U n i x m) = true → ∀ {t : Nat}, t ≤ m → Fl.finB (bsum U n i x t) = true
  | 0, h, t, ht => by cases Nat.le_zero.1 ht; exact h
  | m + 1, h, t, ht => by
    rcases Nat.lt_or_ge t (m + 1) with c | c
    · exact bsum_fin (sub_near (show Fl.finB (op .sub (bsum U n i x m) _) = true from h)).1 (by omega)
    · have : t = m + 1 := by omega
      subst this; exact h
/-- the way back: how far a row's sum is from its right side -/
theorem back_err {U : M} {n i : Nat} {x : Nat → Nat} {G S : Rat} {aX : Nat → Rat} (hn : n ≤ 8) (hi : i < n) (hG1 : en * 1152921504606846976 ≤ G) (hG2 : G ≤ 562949953421312)
    (hU : ∀ j, i ≤ j → j < n → Fi (U i j) ∧ Ab (rv (U i j)) G) (hb : Fi (U i n)) (h0 : ¬ Fl.rg (U i i) = 0) (hx : ∀ j, j < n → Fi (x j)) (hxi : x i = op .quo (bsum U n i x (n - 1 - i)) (U i i))
    (haX : ∀ j, Ab (rv (x j)) (aX j)) (hS : S = sumF aX 0 n) :
    Ab (sumF (fun j => rv (U i j) * rv (x j)) i (n - i) - rv (U i n)) (32 * (1 / 4503599627370496) * (G * S) + (3 * G + 28) * en) := by
  have he := en_pos
  have hel := en_le
  obtain ⟨m, hm⟩ : ∃ m, n - 1 - i = m := ⟨_, rfl⟩
  have hm7 : m ≤ 7 := by omega
  rw [hm] at hxi
  have hnn : ∀ j, 0 ≤ aX j := fun j => (haX j).nn
  have hG0 : 0 ≤ G := by grind
  obtain ⟨P, hP⟩ : ∃ P, G * S = P := ⟨_, rfl⟩
  rw [hP]
  obtain ⟨g, hg⟩ : ∃ g : Nat → Rat, g = fun j => rv (U i j) * rv (x j) := ⟨_, rfl⟩
  have hgj : ∀ j, i ≤ j → j < n → Ab (g j) (G * aX j) := fun j h1 h2 => by rw [hg]; exact (hU j h1 h2).2.mul (haX j)
  have hgP : ∀ j, i ≤ j → j < n → Ab (g j) P := fun j h1 h2 => (hgj j h1 h2).mono (by
    rw [← hP, hS]
    exact Rat.mul_le_mul_of_nonneg_left (one_le_sum hnn h2) hG0)
  have hP0 : 0 ≤ P := (hgP i (Nat.le_refl _) hi).nn
  -- the true sums
  obtain ⟨W, hW⟩ : ∃ W : Nat → Rat, W = fun t => sumF g (i + 1 + t) (m - t) + g i := ⟨_, rfl⟩
  have hWm : W m = g i := by rw [hW]; show sumF g (i + 1 + m) (m - m) + g i = g i; rw [Nat.sub_self]; show (0 : Rat) + g i = g i; grind
  have hWs : ∀ t, t < m → W t = g (i + 1 + t) + W (t + 1) := fun t ht => by
    rw [hW]
    show sumF g (i + 1 + t) (m - t) + g i = g (i + 1 + t) + (sumF g (i + 1 + (t + 1)) (m - (t + 1)) + g i)
    rw [show m - t = (m - (t + 1)) + 1 by omega, sumF_front, show i + 1 + t + 1 = i + 1 + (t + 1) by omega]
    grind
  have hWP : ∀ t, t ≤ m → Ab (W t) P := fun t ht => by
    have k1 : Ab (sumF g (i + 1 + t) (m - t)) (G * sumF aX (i + 1 + t) (m - t)) := sumF_ab (fun s hs => hgj _ (by omega) (by omega))
    have k2 := k1.add (hgj i (Nat.le_refl _) hi)
    have k3 : aX i + sumF aX (i + 1 + t) (m - t) ≤ S := by
      have e1 := sumF_front aX i m
      have e2 := sumF_split aX (i + 1) t (m - t)
      rw [show t + (m - t) = m by omega] at e2
      have e3 := sumF_nn hnn (i + 1) t
      have e4 := sumF_le hnn (k := i) (T := m + 1) (n := n) (by omega)
      rw [hS]
      grind
    have k4 := Rat.mul_le_mul_of_nonneg_left k3 hG0
    rw [hP] at k4
    rw [hW]
    exact k2.mono (by grind)
  have hW0 : W 0 = sumF g i (n - i) := by
    rw [hW]
    show sumF g (i + 1 + 0) (m - 0) + g i = _
    rw [show n - i = m + 1 by omega, sumF_front, Nat.add_zero, Nat.sub_zero]
    grind
  -- what comes
  have hfm : Fl.finB (bsum U n i x m) = true := by
    have h1 := (hx i hi).fin
    rw [hxi] at h1
    exact quo_near (hU i (Nat.le_refl _) hi).1 h1
  have hfi : ∀ t, t ≤ m → Fi (bsum U n i x t) := fun t ht => ⟨bsum_lt hb.1 t, of_decide_eq_true (bsum_fin hfm ht)⟩
  obtain ⟨s, hs⟩ : ∃ s : Nat → Nat, s = fun t => bsum U n i x t := ⟨_, rfl⟩
  have hq := quo_err (hfi m (Nat.le_refl _)) (hU i (Nat.le_refl _) hi).1 h0 (by rw [← hxi]; exact hx i hi) (ab_ab (rv (bsum U n i x m))) (hU i (Nat.le_refl _) hi).2
  rw [← hxi] at hq
  have base : Ab (rv (bsum U n i x m) - W m) (4 * (1 / 4503599627370496) * P + 3 * G * en) := by
    have hgi := hgP i (Nat.le_refl _) hi
    have e : rv (x i) * rv (U i i) = g i := by rw [hg]; show _ = rv (U i i) * rv (x i); grind
    rw [e] at hq
    rw [hWm]
    have hH : ab (rv (bsum U n i x m)) ≤ P + (1 / 2251799813685248 * ab (rv (bsum U n i x m)) + 2 * en * G) := by
      refine ab_le ?_
      have := hgi.sub hq
      rw [show g i - (g i - rv (bsum U n i x m)) = rv (bsum U n i x m) by grind] at this
      exact this
    have hH0 := ab_nn (rv (bsum U n i x m))
    have hGe : 0 ≤ G * en := Rat.mul_nonneg hG0 (Rat.le_of_lt he)
    rw [show 2 * en * G = 2 * (G * en) by grind] at hq hH
    rw [show 3 * G * en = 3 * (G * en) by grind]
    generalize ab (rv (bsum U n i x m)) = H at *
    generalize G * en = GE at *
    unfold Ab at hq ⊢
    constructor <;> grind
  have hGe : 0 ≤ G * en := Rat.mul_nonneg hG0 (Rat.le_of_lt he)
  have hGe2 : G * en ≤ 562949953421312 * en := Rat.mul_le_mul_of_nonneg_right hG2 (Rat.le_of_lt he)
  have hq0 : 0 ≤ 4 * (1 / 4503599627370496) * P + 4 * en := by grind
  have all : ∀ d, d ≤ m → Ab (rv (bsum U n i x (m - d)) - W (m - d)) (acc (4 * (1 / 4503599627370496) * P + 3 * G * en) (4 * (1 / 4503599627370496) * P + 4 * en) d) := by
    intro d
    induction d with
    | zero => intro _; rw [Nat.sub_zero]; exact base
    | succ d ih =>
      intro hd
      have h1 := ih (by omega)
      obtain ⟨t, ht⟩ : ∃ t, m - (d + 1) = t := ⟨_, rfl⟩
      have ht2 : m - d = t + 1 := by omega
      rw [ht]
      rw [ht2] at h1
      have hcap := acc_mono (e := 4 * (1 / 4503599627370496) * P + 3 * G * en) hq0 (show d ≤ 7 by omega)
      rw [acc_7] at hcap
      show Ab _ (acc (4 * (1 / 4503599627370496) * P + 3 * G * en) (4 * (1 / 4503599627370496) * P + 4 * en) d + _)
      generalize acc (4 * (1 / 4503599627370496) * P + 3 * G * en) (4 * (1 / 4503599627370496) * P + 4 * en) d = E at *
      have f1 := hfi t (by omega)
      have f2 : Fi (op .sub (bsum U n i x t) (op .mul (U i (i + 1 + t)) (x (i + 1 + t)))) := hfi (t + 1) (by omega)
      obtain ⟨_, n2⟩ := sub_near f2.fin
      have f3 := fi_of n2
      obtain ⟨u1, u2⟩ := hU (i + 1 + t) (by omega) (by omega)
      have f4 := hx (i + 1 + t) (by omega)
      have pe := mul_err u1 f4 f3 (show Ab (rv (U i (i + 1 + t)) * rv (x (i + 1 + t))) P by have := hgP (i + 1 + t) (by omega) (by omega); rw [hg] at this; exact this)
      have se := sub_err f1 f3 f2 (ab_ab _)
      have eg : rv (U i (i + 1 + t)) * rv (x (i + 1 + t)) = g (i + 1 + t) := by rw [hg]
      rw [eg] at pe
      have es : bsum U n i x (t + 1) = op .sub (bsum U n i x t) (op .mul (U i (i + 1 + t)) (x (i + 1 + t))) := rfl
      rw [es] at h1
      have hw := hWs t (by omega)
      have hwp := hWP (t + 1) (by omega)
      generalize op .mul (U i (i + 1 + t)) (x (i + 1 + t)) = p at *
      generalize op .sub (bsum U n i x t) p = r at *
      generalize bsum U n i x t = q at *
      have hH : ab (rv q - rv p) ≤ (P + E) + (1 / 4503599627370496 * ab (rv q - rv p) + en) := by
        refine ab_le ?_
        have h2 := (hwp.add h1).sub se
        rw [show W (t + 1) + (rv r - W (t + 1)) - (rv r - (rv q - rv p)) = rv q - rv p by grind] at h2
        exact h2
      have hH0 := ab_nn (rv q - rv p)
      have hE0 := h1.nn
      generalize ab (rv q - rv p) = H at *
      rw [hw]
      rw [show 3 * G * en = 3 * (G * en) by grind] at hcap
      generalize G * en = GE at *
      unfold Ab at h1 pe se ⊢
      constructor <;> grind
  have last := all m (Nat.le_refl _)
  rw [Nat.sub_self, hW0] at last
  have e0 : bsum U n i x 0 = U i n := rfl
  rw [e0] at last
  have hcap := acc_mono (e := 4 * (1 / 4503599627370496) * P + 3 * G * en) hq0 hm7
  rw [acc_7] at hcap
  have last2 := last.mono hcap
  have eg2 : sumF (fun j => rv (U i j) * rv (x j)) i (n - i) = sumF g i (n - i) := by rw [hg]
  rw [eg2]
  generalize sumF g i (n - i) = Z at *
  unfold Ab at last2 ⊢
  constructor <;> grind
end Go.Proofs.Ytjfkdmddfeeheaa.Sv
/-
  OWN TEXT: the unknowns that come out fit their rows: how near.
-/
set_option linter.unusedVariables false
namespace Go.Proofs.Ytjfkdmddfeeheaa.Sv
theorem bx_stay (U : M) (n : Nat) {i : Nat} : ∀ {c : Nat}, n - i ≤ c → i < n → c ≤ n → bx U n c i = bx U n (n - i) i
  | 0, h, hi, _ => absurd h (by omega)
  | c + 1, h, hi, hc => by
    by_cases e : n - i = c + 1
    · rw [e]
    · have h1 : n - i ≤ c := by omega
      show (if i = n - 1 - c then op .quo (bsum U n i (bx U n c) (n - 1 - i)) (U i i) else bx U n c i) = _
      rw [if_neg (by omega)]
      exact bx_stay U n h1 hi (by omega)
theorem bx_eq (U : M) {n i : Nat} (hi : i < n) : bx U n n i = op .quo (bsum U n i (bx U n n) (n - 1 - i)) (U i i) := by
  rw [bx_stay U n (show n - i ≤ n by omega) hi (Nat.le_refl _)]
  obtain ⟨c, hc⟩ : ∃ c, n - i = c + 1 := ⟨n - i - 1, by omega⟩
  rw [hc]
  show (if i = n - 1 - c then op .quo (bsum U n i (bx U n c) (n - 1 - i)) (U i i) else bx U n c i) = _
  rw [if_pos (by omega)]
  rw [bsum_ext U n i (bx U n c) (bx U n n) (n - 1 - i) (fun t ht => by
    rw [bx_stay U n (i := i + 1 + t) (c := c) (by omega) (by omega) (by omega), bx_stay U n (i := i + 1 + t) (c := n) (by omega) (by omega) (by omega)])]
theorem sw_sw (k i t : Nat) : sw k i (sw k i t) = t := by
  unfold sw
  by_cases a : t = k
  · subst a
    by_cases b : i = t
    · simp [b]
    · simp [b]
  · by_cases b : t = i
    · subst b; simp [a]
    · simp [a, b]
theorem sw_ge {k i t : Nat} (hi : k ≤ i) (ht : k ≤ t) : k ≤ sw k i t := by unfold sw; split; exact hi; split <;> omega
/-- a row's sum less its right side, from the column k on -/
def rs0 (B : M) (X : Nat → Rat) (n i k : Nat) : Rat := sumF (fun j => rv (B i j) * X j) k (n - k) - rv (B i n)
/-- one step -/
theorem step_res {n : Nat} {A : M} {mm : Nat → Rat} {k i : Nat} {X aX : Nat → Rat} {G S d D : Rat} (hn : n ≤ 8) (hk : k < n) (hki : k < i) (hi : i < n)
    (hG1 : en * 1152921504606846976 ≤ G) (hG2 : G ≤ 562949953421312) (hmm : ∀ j, j ≤ n → en * 1152921504606846976 ≤ mm j ∧ mm j ≤ 1099511627776) (hmG : ∀ j, j < n → 257 * mm j ≤ G)
    (hM : Mb n (st n A k) mm k) (hb : bad (piv n A k) = false) (haX : ∀ j, Ab (X j) (aX j)) (hS : S = sumF aX 0 n)
    (h1 : Ab (rs0 (Bk n A k) X n k k) d) (h2 : Ab (rs0 (st n A (k + 1)) X n i (k + 1)) D) :
    Ab (rs0 (Bk n A k) X n i k) (d + D + (8 * (1 / 4503599627370496) * (G * S) + 1 / 4503599627370496 * d + 2 * (1 / 4503599627370496) * D + 3 * en)) := by
  have he := en_pos
  have hel := en_le
  have hnn : ∀ j, 0 ≤ aX j := fun j => (haX j).nn
  have hG0 : 0 ≤ G := by grind
  have hB : Mb n (Bk n A k) mm k := hM.swap (t := 0) hk (tk_lt A hk)
  have hBG : ∀ r, r < n → ∀ j, j < n → Ab (rv (Bk n A k r j)) G := fun r hr j hj => by
    have hm := hmm j (by omega)
    refine (hB r hr j (by omega)).2.mono (Rat.le_trans (gr_8 (by grind) (by omega)) (hmG j hj))
  obtain ⟨q1, q2, q3, q4, q5⟩ := quo_Bk hk hM hb hki hi
  obtain ⟨f, hf⟩ : ∃ f, op .quo (Bk n A k i k) (Bk n A k k k) = f := ⟨_, rfl⟩
  have hq := quo_err q1 q2 q3 q4 (hBG i hi k hk) (hBG k hk k hk)
  have hst : st n A (k + 1) = elim (Bk n A k) k := st_succ n A k
  have hA' : ∀ j, k < j → st n A (k + 1) i j = less (Bk n A k) k i j := fun j hj => by rw [hst]; unfold elim; rw [if_pos ⟨hki, hj⟩]
  have hle : ∀ j, j ≤ n → k < j → _ := fun j hj hkj => by
    have hm := hmm j hj
    have h0 : 0 ≤ mm j := by grind
    have g1 := gr_mono h0 (Nat.zero_le k)
    have g2 := gr_8 h0 (show k ≤ 8 by omega)
    have e0 : gr (mm j) 0 = mm j := rfl
    rw [e0] at g1
    exact less_err (g := gr (mm j) k) (B := Bk n A k) (k := k) (i := i) (j := j) (by grind) (by grind) (hB i hi j hj).1 (hB i hi j hj).2 (hB k hk j hj).1 (hB k hk j hj).2 q4 q5
  obtain ⟨P, hP⟩ : ∃ P, G * S = P := ⟨_, rfl⟩
  rw [hP]
  have hS0 : 0 ≤ S := by rw [hS]; exact sumF_nn hnn 0 n
  have hP0 : 0 ≤ P := by rw [← hP]; exact Rat.mul_nonneg hG0 hS0
  -- the columns behind k
  have c1 : Ab (sumF (fun j => rv (Bk n A k i j) * X j - rv (op .quo (Bk n A k i k) (Bk n A k k k)) * (rv (Bk n A k k j) * X j) - rv (st n A (k + 1) i j) * X j) (k + 1) (n - (k + 1))) ((4 * (1 / 4503599627370496) * G + 3 * en) * sumF aX (k + 1) (n - (k + 1))) := by
    refine sumF_ab (fun t ht => ?_)
    have hj : k + 1 + t < n := by omega
    obtain ⟨_, _, r3, _⟩ := hle (k + 1 + t) (by omega) (by omega)
    rw [hA' (k + 1 + t) (by omega)]
    have hm := hmm (k + 1 + t) (by omega)
    have g2 := Rat.le_trans (gr_8 (m := mm (k + 1 + t)) (by grind) (show k ≤ 8 by omega)) (hmG (k + 1 + t) hj)
    have r4 := (r3.mono (b := 4 * (1 / 4503599627370496) * G + 3 * en) (by grind)).mul (haX (k + 1 + t))
    have e : ∀ (a p b c x : Rat), a * x - p * (b * x) - c * x = (a - p * b - c) * x := fun a p b c x => by grind
    rw [e]
    exact r4
  rw [sumF_comb] at c1
  -- the right sides
  obtain ⟨_, _, _, r4⟩ := hle n (Nat.le_refl _) hk
  have sB : Ab (sumF (fun j => rv (Bk n A k k j) * X j) k (n - k)) P := by
    refine (sumF_ab (c := G) (g := aX) (fun t ht => (hBG k hk (k + t) (by omega)).mul (haX _))).mono ?_
    rw [← hP, hS]
    exact Rat.mul_le_mul_of_nonneg_left (sumF_le hnn (by omega)) hG0
  have sA : Ab (sumF (fun j => rv (st n A (k + 1) i j) * X j) (k + 1) (n - (k + 1))) P := by
    refine (sumF_ab (c := G) (g := aX) (fun t ht => ?_)).mono ?_
    · have hj : k + 1 + t < n := by omega
      obtain ⟨_, r2, _, _⟩ := hle (k + 1 + t) (by omega) (by omega)
      rw [hA' (k + 1 + t) (by omega)]
      have hm := hmm (k + 1 + t) (by omega)
      exact (r2.mono (Rat.le_trans (gr_8 (m := mm (k + 1 + t)) (by grind) (show k + 1 ≤ 8 by omega)) (hmG (k + 1 + t) hj))).mul (haX _)
    · rw [← hP, hS]
      exact Rat.mul_le_mul_of_nonneg_left (sumF_le hnn (by omega)) hG0
  have bB : Ab (rv (Bk n A k k n)) (P + d) := by
    have := sB.sub h1
    unfold rs0 at this
    rw [show sumF (fun j => rv (Bk n A k k j) * X j) k (n - k) - (sumF (fun j => rv (Bk n A k k j) * X j) k (n - k) - rv (Bk n A k k n)) = rv (Bk n A k k n) by grind] at this
    exact this
  have bA : Ab (rv (less (Bk n A k) k i n)) (P + D) := by
    have := sA.sub h2
    unfold rs0 at this
    rw [hA' n hk] at this
    rw [show ∀ a b : Rat, a - (a - b) = b by intro a b; grind] at this
    exact this
  have r5 := r4 _ _ bB bA
  -- the column k
  have ck : Ab ((rv (Bk n A k i k) - rv (op .quo (Bk n A k i k) (Bk n A k k k)) * rv (Bk n A k k k)) * X k) ((4 * (1 / 4503599627370496) * G + 3 * en) * aX k) := by
    refine Ab.mul ?_ (haX k)
    have hGe : en * G ≤ 1 / 1152921504606846976 * G := Rat.mul_le_mul_of_nonneg_right hel hG0
    rw [show 2 * en * G = 2 * (en * G) by grind] at hq
    generalize rv (op .quo (Bk n A k i k) (Bk n A k k k)) * rv (Bk n A k k k) = z at *
    generalize en * G = GE at *
    unfold Ab at hq ⊢
    constructor <;> grind
  have hsum : aX k + sumF aX (k + 1) (n - (k + 1)) ≤ S := by
    have e1 := sumF_front aX k (n - (k + 1))
    have e2 := sumF_le hnn (k := k) (T := n - (k + 1) + 1) (n := n) (by omega)
    rw [hS]
    grind
  have hc0 : 0 ≤ 4 * (1 / 4503599627370496) * G + 3 * en := by grind
  have tot := Rat.mul_le_mul_of_nonneg_left hsum hc0
  have tot2 : (4 * (1 / 4503599627370496) * G + 3 * en) * S ≤ 5 * (1 / 4503599627370496) * P := by
    have k1 : 4 * (1 / 4503599627370496) * G + 3 * en ≤ 5 * (1 / 4503599627370496) * G := by grind
    have k2 := Rat.mul_le_mul_of_nonneg_right k1 hS0
    rw [← hP]
    grind
  have tot3 : (4 * (1 / 4503599627370496) * G + 3 * en) * sumF aX (k + 1) (n - (k + 1)) + (4 * (1 / 4503599627370496) * G + 3 * en) * aX k ≤ 5 * (1 / 4503599627370496) * P := by
    have e5 : ∀ c a b : Rat, c * (a + b) = c * b + c * a := fun c a b => by grind
    rw [e5] at tot
    exact Rat.le_trans tot tot2
  have fd := q5.mul h1
  -- all together
  have front : ∀ B : M, sumF (fun j => rv (B i j) * X j) k (n - k) = rv (B i k) * X k + sumF (fun j => rv (B i j) * X j) (k + 1) (n - (k + 1)) := fun B => by
    rw [show n - k = n - (k + 1) + 1 by omega, sumF_front]
  have frontk : sumF (fun j => rv (Bk n A k k j) * X j) k (n - k) = rv (Bk n A k k k) * X k + sumF (fun j => rv (Bk n A k k j) * X j) (k + 1) (n - (k + 1)) := by
    rw [show n - k = n - (k + 1) + 1 by omega, sumF_front]
  rw [← hA' n hk] at r5
  unfold rs0 at h2 fd ⊢
  rw [front]
  rw [frontk] at fd
  generalize rv (op .quo (Bk n A k i k) (Bk n A k k k)) = p at *
  generalize sumF (fun j => rv (Bk n A k i j) * X j) (k + 1) (n - (k + 1)) = s1 at *
  generalize sumF (fun j => rv (Bk n A k k j) * X j) (k + 1) (n - (k + 1)) = s2 at *
  generalize sumF (fun j => rv (st n A (k + 1) i j) * X j) (k + 1) (n - (k + 1)) = s3 at *
  generalize rv (Bk n A k i k) = b1 at *
  generalize rv (Bk n A k k k) = b2 at *
  generalize rv (Bk n A k i n) = b3 at *
  generalize rv (Bk n A k k n) = b4 at *
  generalize rv (st n A (k + 1) i n) = b5 at *
  have key := (((fd.add h2).add c1).add ck).sub r5
  rw [show p * (b2 * X k + s2 - b4) + (s3 - b5) + (s1 - p * s2 - s3) + (b1 - p * b2) * X k - (b3 - p * b4 - b5) = b1 * X k + s1 - b3 by grind] at key
  refine key.mono ?_
  have hd0 := h1.nn
  have hD0 := h2.nn
  generalize (4 * (1 / 4503599627370496) * G + 3 * en) * sumF aX (k + 1) (n - (k + 1)) = z1 at *
  generalize (4 * (1 / 4503599627370496) * G + 3 * en) * aX k = z2 at *
  grind
end Go.Proofs.Ytjfkdmddfeeheaa.Sv
/-
  OWN TEXT: the unknowns that come out fit their rows (continued): all steps together.
-/
set_option linter.unusedVariables false
namespace Go.Proofs.Ytjfkdmddfeeheaa.Sv
theorem resid {n : Nat} {A : M} {mm : Nat → Rat} {x : Nat → Nat} {G S : Rat} {aX : Nat → Rat} (hn : n ≤ 8)
    (hG1 : en * 1152921504606846976 ≤ G) (hG2 : G ≤ 562949953421312) (hmm : ∀ j, j ≤ n → en * 1152921504606846976 ≤ mm j ∧ mm j ≤ 1099511627776) (hmG : ∀ j, j < n → 257 * mm j ≤ G)
    (hM : Mb n A mm 0) (hg : good n A n) (hxe : x = bx (st n A n) n n) (hx : ∀ j, j < n → Fi (x j)) (haX : ∀ j, Ab (rv (x j)) (aX j)) (hS : S = sumF aX 0 n) :
    ∀ d, d ≤ n → ∀ i, n - d ≤ i → i < n → Ab (rs0 (st n A (n - d)) (fun j => rv (x j)) n i (n - d)) (acc 0 (42 * (1 / 4503599627370496) * (G * S) + 2 * ((3 * G + 28) * en)) d) := by
  have he := en_pos
  have hel := en_le
  have hnn : ∀ j, 0 ≤ aX j := fun j => (haX j).nn
  have hG0 : 0 ≤ G := by grind
  have hS0 : 0 ≤ S := by rw [hS]; exact sumF_nn hnn 0 n
  have hP0 : 0 ≤ G * S := Rat.mul_nonneg hG0 hS0
  have hT0 : 28 * en ≤ (3 * G + 28) * en := by
    have := Rat.mul_nonneg hG0 (Rat.le_of_lt he)
    grind
  intro d
  induction d with
  | zero => intro _ i h1 h2; omega
  | succ d ih =>
    intro hd
    obtain ⟨k, hk⟩ : ∃ k, n - (d + 1) = k := ⟨_, rfl⟩
    have hk1 : n - d = k + 1 := by omega
    have hkn : k < n := by omega
    have IH := ih (by omega)
    rw [hk1] at IH
    have hMk := Mb.all hn hmm hM (k := k) (by omega) (good_mono0 hg (by omega))
    have hbk := hg k hkn
    -- the pivot's row
    have hrow : st n A n k = Bk n A k k := row_stays n A hkn
    have hMn := Mb.all hn hmm hM (k := n) (Nat.le_refl _) hg
    have hB := back_err (U := st n A n) (n := n) (i := k) (x := x) (G := G) (S := S) (aX := aX) hn hkn hG1 hG2
      (fun j h1 h2 => by
        obtain ⟨f1, a1⟩ := hMn k hkn j (by omega)
        have hm := hmm j (by omega)
        exact ⟨f1, a1.mono (Rat.le_trans (gr_8 (by grind) (by omega)) (hmG j h2))⟩)
      (hMn k hkn n (Nat.le_refl _)).1
      (by rw [hrow, piv_Bk]; exact (not_bad hbk).1) hx
      (by rw [hxe]; exact bx_eq (st n A n) hkn) haX hS
    have hBk : Ab (rs0 (Bk n A k) (fun j => rv (x j)) n k k) (32 * (1 / 4503599627370496) * (G * S) + (3 * G + 28) * en) := by
      unfold rs0
      rw [← hrow]
      exact hB
    have hq0 : 0 ≤ 42 * (1 / 4503599627370496) * (G * S) + 2 * ((3 * G + 28) * en) := by grind
    have hcap := acc_mono (e := 0) hq0 (show d ≤ 8 by omega)
    rw [acc_8] at hcap
    have hD0 : 0 ≤ acc 0 (42 * (1 / 4503599627370496) * (G * S) + 2 * ((3 * G + 28) * en)) d := by
      have := acc_mono (e := 0) hq0 (Nat.zero_le d)
      exact this
    -- every row of the step
    have hall : ∀ i, k ≤ i → i < n → Ab (rs0 (Bk n A k) (fun j => rv (x j)) n i k) (acc 0 (42 * (1 / 4503599627370496) * (G * S) + 2 * ((3 * G + 28) * en)) d + (42 * (1 / 4503599627370496) * (G * S) + 2 * ((3 * G + 28) * en))) := by
      intro i h1 h2
      rcases Nat.lt_or_eq_of_le h1 with c | c
      · have r := step_res hn hkn c h2 hG1 hG2 hmm hmG hMk hbk haX hS hBk (IH i (by omega) h2)
        refine r.mono ?_
        generalize acc 0 (42 * (1 / 4503599627370496) * (G * S) + 2 * ((3 * G + 28) * en)) d = D at *
        generalize (3 * G + 28) * en = T at *
        generalize G * S = P at *
        grind
      · rw [← c]
        refine hBk.mono ?_
        generalize acc 0 (42 * (1 / 4503599627370496) * (G * S) + 2 * ((3 * G + 28) * en)) d = D at *
        generalize (3 * G + 28) * en = T at *
        generalize G * S = P at *
        grind
    intro i h1 h2
    rw [hk] at h1 ⊢
    show Ab _ (acc 0 (42 * (1 / 4503599627370496) * (G * S) + 2 * ((3 * G + 28) * en)) d + _)
    have h3 := hall (sw k (tk n A k) i) (sw_ge (tk_ge n k A) h1) (sw_lt hkn (tk_lt A hkn) h2)
    have e : Bk n A k (sw k (tk n A k) i) = st n A k i := by
      unfold Bk
      rw [swap_sw, sw_sw]
    unfold rs0 at h3 ⊢
    rw [e] at h3
    exact h3
/-- P14.7: the unknowns fit their rows -/
theorem fits {n : Nat} {A : M} {x : Nat → Nat} {m0 S : Rat} (hn : n ≤ 8) (hm1 : en * 1152921504606846976 ≤ m0) (hm2 : m0 ≤ 1099511627776)
    (hA : ∀ i, i < n → ∀ j, j < n → Fi (A i j) ∧ Ab (rv (A i j)) m0) (hb : ∀ i, i < n → Fi (A i n) ∧ Ab (rv (A i n)) 1099511627776)
    (hg : good n A n) (hxe : x = bx (st n A n) n n) (hx : ∀ j, j < n → Fi (x j)) (hS : S = sumF (fun j => ab (rv (x j))) 0 n) :
    ∀ i, i < n → Ab (sumF (fun j => rv (A i j) * rv (x j)) 0 n - rv (A i n)) (1 / 17179869184 * (m0 * S) + 1152921504606846976 * en) := by
  intro i hi
  have he := en_pos
  have hel := en_le
  have h0 : 0 ≤ m0 := by grind
  have hM : Mb n A (fun j => if j < n then m0 else 1099511627776) 0 := by
    intro r hr j hj
    show Fi (A r j) ∧ Ab (rv (A r j)) (if j < n then m0 else 1099511627776)
    by_cases c : j < n
    · rw [if_pos c]; exact hA r hr j c
    · rw [if_neg c]
      have : j = n := by omega
      subst this
      exact hb r hr
  have hS0 : 0 ≤ S := by rw [hS]; exact sumF_nn (fun j => ab_nn _) 0 n
  have r := resid (n := n) (A := A) (mm := fun j => if j < n then m0 else 1099511627776) (x := x) (G := 257 * m0) (S := S) (aX := fun j => ab (rv (x j))) hn (by grind) (by grind)
    (fun j hj => by
      show en * 1152921504606846976 ≤ (if j < n then m0 else 1099511627776) ∧ (if j < n then m0 else 1099511627776) ≤ (1099511627776 : Rat)
      split <;> constructor <;> grind)
    (fun j hj => by show 257 * (if j < n then m0 else 1099511627776) ≤ 257 * m0; rw [if_pos hj]; exact Rat.le_refl)
    hM hg hxe hx (fun j => ab_ab _) hS n (Nat.le_refl _) i (by omega) hi
  rw [Nat.sub_self] at r
  unfold rs0 at r
  rw [Nat.sub_zero] at r
  have e0 : st n A 0 = A := rfl
  rw [e0] at r
  refine r.mono ?_
  have hGS : 257 * m0 * S = 257 * (m0 * S) := by grind
  have hmS := Rat.mul_nonneg h0 hS0
  have hTT : (3 * (257 * m0) + 28) * en ≤ 847723465015324 * en := Rat.mul_le_mul_of_nonneg_right (by grind) (Rat.le_of_lt he)
  have hT0 : 0 ≤ (3 * (257 * m0) + 28) * en := Rat.mul_nonneg (by grind) (Rat.le_of_lt he)
  rw [hGS]
  have hq0 : 0 ≤ 42 * (1 / 4503599627370496) * (257 * (m0 * S)) + 2 * ((3 * (257 * m0) + 28) * en) := by grind
  have hcap := acc_mono (e := 0) hq0 hn
  rw [acc_8] at hcap
  generalize acc 0 (42 * (1 / 4503599627370496) * (257 * (m0 * S)) + 2 * ((3 * (257 * m0) + 28) * en)) n = D at *
  generalize (3 * (257 * m0) + 28) * en = T at *
  generalize m0 * S = P at *
  grind
end Go.Proofs.Ytjfkdmddfeeheaa.Sv
/-
  OWN TEXT: eddylaw14's plain, simple: what they say of a system.
-/
namespace Go.Proofs.Ytjfkdmddfeeheaa
open Go.ChangeShapes Go.WideShapes Go.ChangeAt Go.RowKit
set_option linter.unusedVariables false
attribute [local go_sem] frombits_call tobits_call run_neg
namespace Sv
def plB (x : Nat) : Bool := Fl.eqF x 0 || (Fl.leF 4427038433705197568 (Fl.rg x) && Fl.leF (Fl.rg x) 4787326403894837248)
/-- a float is nought, or from 2^-40 to 2^40, without its sign -/
def Pl (x : Nat) : Prop := Fi x ∧ (Fl.rg x = 0 ∨ 4427038433705197568 ≤ Fl.rg x) ∧ Fl.rg x ≤ 4787326403894837248
theorem key_nat {x : Nat} (h : x < 9223372036854775808) : Fl.key x = (x : Int) := by
  have e := Fl.key_wd false x h
  exact e
theorem plB_yes {x : Nat} (hx : x < 18446744073709551616) (h : plB x = true) : Pl (Fl.bitsF x) := by
  have hn : Fl.nan x = false ∧ (Fl.rg x = 0 ∨ 4427038433705197568 ≤ Fl.rg x) ∧ Fl.rg x ≤ 4787326403894837248 := by
    unfold plB at h
    rw [Bool.or_eq_true, Bool.and_eq_true] at h
    rcases h with h | ⟨h1, h2⟩
    · unfold Fl.eqF at h
      simp only [Bool.and_eq_true, Bool.not_eq_true', decide_eq_true_eq] at h
      obtain ⟨⟨h1, _⟩, h2⟩ := h
      rw [show Fl.key 0 = 0 by decide] at h2
      have : Fl.rg x = 0 := by unfold Fl.key at h2; split at h2 <;> omega
      exact ⟨h1, Or.inl this, by omega⟩
    · unfold Fl.leF at h1 h2
      simp only [Bool.and_eq_true, Bool.not_eq_true', decide_eq_true_eq] at h1 h2
      rw [Fl.nan_rg, Fl.key_rg, key_nat (by decide)] at h1 h2
      exact ⟨h1.1.2, Or.inr (by have := h1.2; omega), by have := h2.2; omega⟩
  obtain ⟨h1, h2, h3⟩ := hn
  rw [c_num h1]
  exact ⟨⟨hx, by omega⟩, h2, h3⟩
theorem Lm.row1 {w : World} {b o c n : Nat} {l : Nat → Nat} {A : M} (h : Lm w (.slice (some ⟨b, o, none⟩) n c) n l A) {i : Nat} (hi : i < n) : b < w.heap.size ∧ ∃ r, w.cell? ⟨b, o + i, none⟩ = some r ∧ Ls w r (l i) (A i) := by
  rcases h with ⟨_, h⟩ | ⟨b', o', c', e, _, hb, h⟩
  · omega
  · cases e; exact ⟨hb, h i hi⟩
theorem Ls.cell1 {w : World} {b o c n : Nat} {F : Nat → Nat} (h : Ls w (.slice (some ⟨b, o, none⟩) n c) n F) {j : Nat} (hj : j < n) : ∃ x, w.cell? ⟨b, o + j, none⟩ = some (.float .f64 x) ∧ x < 18446744073709551616 ∧ Fl.bitsF x = F j := by
  rcases h with ⟨_, h⟩ | ⟨b', o', c', e, _, h⟩
  · omega
  · cases e; exact h.2 j hj
/-- a row of a system, of n floats -/
theorem Lm.row2 {w : World} {b o c n : Nat} {l : Nat → Nat} {A : M} (h : Lm w (.slice (some ⟨b, o, none⟩) n c) n l A) {i : Nat} (hi : i < n) (hl : l i = n) : ∃ rb ro rc, w.cell? ⟨b, o + i, none⟩ = some (.slice (some ⟨rb, ro, none⟩) n rc) ∧ n ≤ rc ∧ Rd w rb ro n (A i) := by
  obtain ⟨_, r, e, hr⟩ := h.row1 hi
  obtain ⟨rb, ro, rc, rfl, h1, h2⟩ := hr.resolve_left (fun h => by omega)
  rw [hl] at e h1 h2
  exact ⟨rb, ro, rc, e, h1, h2⟩
/-- a system of 1 to 8 unknowns, whose floats are so -/
def Sp (n nb : Nat) (l : Nat → Nat) (A : M) (b : Nat → Nat) : Prop := 1 ≤ n ∧ n ≤ 8 ∧ nb = n ∧ (∀ i, i < n → l i = n) ∧ (∀ i, i < n → Pl (b i)) ∧ ∀ i, i < n → ∀ j, j < n → Pl (A i j)
def Sm (n nb : Nat) (l : Nat → Nat) (A : M) (b : Nat → Nat) (w : World) (e : Ending) (w' : World) : Prop := ∃ r, e = .returned (.bool r) ∧ Bw w w' ∧ (r = true → Sp n nb l A b)
theorem Sm.no {n nb : Nat} {l : Nat → Nat} {A : M} {b : Nat → Nat} {w w' : World} (k : Bw w w') : Sm n nb l A b w (.returned (.bool false)) w' := ⟨false, rfl, k, fun h => by cases h⟩
theorem Sm.yes {n nb : Nat} {l : Nat → Nat} {A : M} {b : Nat → Nat} {w w' : World} (k : Bw w w') (h : Sp n nb l A b) : Sm n nb l A b w (.returned (.bool true)) w' := ⟨true, rfl, k, fun _ => h⟩
end Sv
set_option maxRecDepth 4000 in
theorem plain14 (x : Nat) (w : World) (hx : x < 18446744073709551616) : Calls Try.prog 57 #[.float .f64 x] w fun e w' => e = .returned (.bool (Sv.plB x)) ∧ w' = w := by
  have g1 := Fl.o_eq x 0
  have g2 := Fl.o_ge (Fl.rg x) 4427038433705197568
  have g3 := Fl.o_le (Fl.rg x) 4787326403894837248
  unfold Sv.plB
  generalize Fl.eqF x 0 = b1 at *
  generalize Fl.leF 4427038433705197568 (Fl.rg x) = b2 at *
  generalize Fl.leF (Fl.rg x) 4787326403894837248 = b3 at *
  have HX := Sv.hid hx
  clear hx
  cases b1 <;> cases b2 <;> cases b3 <;>
  · go_enter Try.func57, Try.ntmps57
    go_wp2_with (go_at_call 31; refine (abs_any _ _ HX.out).mono ?_; rintro e w' ⟨rfl, rfl⟩)
    go_ret
    exact ⟨rfl, rfl⟩
set_option maxHeartbeats 4000000 in
theorem simple14 {w : World} {va vb : Value} {n nb : Nat} {l : Nat → Nat} {A : Sv.M} {b : Nat → Nat} (ha : Sv.Lm w va n l A) (hb : Sv.Ls w vb nb b) :
    Calls Try.prog 28 #[va, vb] w fun e w' => Sv.Sm n nb l A b w e w' := by
  have la := ha
  by_cases hm : n < 1 ∨ 8 < n
  · rcases ha with ⟨⟨p0, c0, rfl, hp0⟩, rfl⟩ | ⟨b, o, c, rfl, hc, _, h⟩
    · rcases hb with ⟨⟨p1, c1, rfl, hp1⟩, rfl⟩ | ⟨b', o', c', rfl, hc', _⟩
      · go_enter Try.func28, Try.ntmps28
        go_wp2
        go_ret
        exact Sv.Sm.no (Bw.refl _)
      · go_enter Try.func28, Try.ntmps28
        go_wp2
        go_ret
        exact Sv.Sm.no (Bw.refl _)
    · clear h hb
      rcases hm with hm | hm
      · have hm1 : (n : Int) < 1 := by omega
        go_enter Try.func28, Try.ntmps28
        go_wp2
        go_ret
        exact Sv.Sm.no (Bw.refl _)
      · have hm1 : ¬ (n : Int) < 1 := by omega
        have hm2 : 8 < (n : Int) := by omega
        go_enter Try.func28, Try.ntmps28
        go_wp2
        go_ret
        exact Sv.Sm.no (Bw.refl _)
  obtain ⟨ab, ao, ac, rfl, hc, hbl, ha⟩ := ha.resolve_left (fun h => hm (by omega))
  have HA := Sv.hid ha
  have HM := Sv.hid hm
  have hm1 : ¬ (n : Int) < 1 := by omega
  have hm2 : ¬ 8 < (n : Int) := by omega
  clear ha hm
  by_cases hbn : nb = n
  case neg =>
    rcases hb with ⟨⟨p1, c1, rfl, hp1⟩, rfl⟩ | ⟨b', o', c', rfl, hc', _⟩
    · have z1 : ((0 : Int) == n) = false := by rw [beq_eq_false_iff_ne]; omega
      go_enter Try.func28, Try.ntmps28
      go_wp2
      go_ret
      exact Sv.Sm.no (Bw.refl _)
    · have z1 : ((nb : Int) == n) = false := by rw [beq_eq_false_iff_ne]; omega
      go_enter Try.func28, Try.ntmps28
      go_wp2
      go_ret
      exact Sv.Sm.no (Bw.refl _)
  subst hbn
  have hb0 := hb
  obtain ⟨bb, bo, bc, rfl, hbc, hbr⟩ := hb0.resolve_left (fun h => HM.out (by omega))
  clear hbr
  have hn8 : nb ≤ 8 := by have := HM.out; omega
  have LA := Sv.hid la
  have LB := Sv.hid hb
  clear la hb HA
  go_enter Try.func28, Try.ntmps28
  go_wp2
  clear hm1 hm2
  go_loopw [5] (fun i wr => ∃ k : Nat, k ≤ nb ∧ i = .int .i64 k ∧ Bw w wr ∧ (∀ i, i < k → l i = nb) ∧ (∀ i, i < k → Sv.Pl (b i)) ∧ ∀ i, i < k → ∀ j, j < nb → Sv.Pl (A i j)) (fun i _ => nb - (intOf i).toNat)
  case atStart => exact ⟨0, Nat.zero_le _, rfl, Bw.refl w, fun j hj => absurd hj (by omega), fun j hj => absurd hj (by omega), fun j hj => absurd hj (by omega)⟩
  case round =>
    obtain ⟨k, hk, rfl, hbw, hl, hpb, hpa⟩ := hrel
    have HR := Sv.hid (And.intro hl (And.intro hpb hpa))
    clear hl hpb hpa
    by_cases hk1 : k < nb
    · have hk2 : (k : Int) < nb := by omega
      obtain ⟨_, r, e, hr⟩ := (LA.out.bw hbw).row1 hk1
      by_cases z : l k = nb
      case neg =>
        rcases hr with ⟨⟨p0, c0, rfl, hp0⟩, hr⟩ | ⟨rb, ro, rc, rfl, _, _⟩
        · have z1 : ((0 : Int) == nb) = false := by rw [beq_eq_false_iff_ne]; omega
          clear hr z
          go_wp2
          go_ret
          exact Sv.Sm.no hbw
        · have z1 : ((l k : Int) == nb) = false := by rw [beq_eq_false_iff_ne]; omega
          have z2 : ¬ (l k : Int) = nb := by omega
          have z3 : (l k == nb) = false := by rw [beq_eq_false_iff_ne]; omega
          generalize l k = m at *
          go_wp2
          go_ret
          exact Sv.Sm.no hbw
      obtain ⟨rb, ro, rc, rfl, hrc, hrd⟩ := hr.resolve_left (fun h => by omega)
      rw [z] at e hrc hrd
      have HD := Sv.hid hrd
      obtain ⟨x, ex, hx, hxb⟩ := (LB.out.bw hbw).cell1 hk1
      have HQ := Sv.hid hxb
      have HB0 := Sv.hid hbw
      clear hr hrd hxb
      cases hp : Sv.plB x
      · go_wp2_with fail
        refine (plain14 x _ hx).mono ?_
        rw [hp]
        rintro e' w1 ⟨rfl, rfl⟩
        go_wp2
        go_ret
        exact Sv.Sm.no HB0.out
      have HP : Hid (Sv.Pl (b k)) := by have := Sv.plB_yes hx hp; rw [HQ.out] at this; exact this
      have HZ := Sv.hid z
      clear hbw z
      go_wp2_with fail
      refine (plain14 x _ hx).mono ?_
      rw [hp]
      rintro e' w1 ⟨rfl, rfl⟩
      clear hp ex hx HQ
      go_wp2
      go_loopw [6] (fun i wr' => ∃ t : Nat, t ≤ nb ∧ i = .int .i64 t ∧ Bw w wr' ∧ (∀ j, j < t → Sv.Pl (A k j))) (fun i _ => nb - (intOf i).toNat)
      case atStart => exact ⟨0, Nat.zero_le _, rfl, HB0.out, fun j hj => absurd hj (by omega)⟩
      case round =>
        clear HB0 HD e
        obtain ⟨t, ht, rfl, hbw, hpt⟩ := hrel
        obtain ⟨rb, ro, rc, e, hrc, hd⟩ := (LA.out.bw hbw).row2 hk1 HZ.out
        have HT := Sv.hid hpt
        have HB0 := Sv.hid hbw
        clear hpt
        by_cases ht1 : t < nb
        · have ht2 : (t : Int) < nb := by omega
          obtain ⟨x, ex, hx, hxb⟩ := hd.2 t ht1
          have HQ := Sv.hid hxb
          clear hxb hd hbw
          cases hp : Sv.plB x
          · go_wp2_with fail
            refine (plain14 x _ hx).mono ?_
            rw [hp]
            rintro e' w1 ⟨rfl, rfl⟩
            go_wp2
            go_ret
            exact Sv.Sm.no HB0.out
          have HP2 : Hid (Sv.Pl (A k t)) := by have := Sv.plB_yes hx hp; rw [HQ.out] at this; exact this
          go_wp2_with fail
          refine (plain14 x _ hx).mono ?_
          rw [hp]
          rintro e' w1 ⟨rfl, rfl⟩
          clear hp ex hx HQ e
          go_wp2
          go_roundw
          case rel =>
            refine ⟨t + 1, by omega, by simp, HB0.out, fun j hj => ?_⟩
            by_cases y : j = t
            · subst y; exact HP2.out
            · exact HT.out j (by omega)
          case measure => simp [intOf]; omega
        · have ht3 : t = nb := by omega
          clear hd e hbw
          have hnt : ¬ (t : Int) < nb := by omega
          go_wp2
          go_roundw
          case rel =>
            refine ⟨k + 1, by omega, by simp, HB0.out, fun i hi => ?_, fun i hi => ?_, fun i hi => ?_⟩
            · by_cases y : i = k
              · subst y; exact HZ.out
              · exact HR.out.1 i (by omega)
            · by_cases y : i = k
              · subst y; exact HP.out
              · exact HR.out.2.1 i (by omega)
            · by_cases y : i = k
              · subst y; rw [← ht3]; exact HT.out
              · exact HR.out.2.2 i (by omega)
          case measure => simp [intOf]; omega
    · have hk3 : k = nb := by omega
      subst hk3
      go_wp2
      go_ret
      exact Sv.Sm.yes hbw ⟨by have := HM.out; omega, by have := HM.out; omega, rfl, HR.out⟩
end Go.Proofs.Ytjfkdmddfeeheaa
/-
  OWN TEXT: layer 14's SolveOff: what its sums and its bound come to.
-/
set_option linter.unusedVariables false
set_option exponentiation.threshold 3000
namespace Go.Proofs.Ytjfkdmddfeeheaa.Sv
theorem rv_rg (x : Nat) : rv (Fl.rg x) = ab (rv x) := by
  unfold rv Fl.val
  rw [Fl.rg_rg, Fl.sg_rg]
  have he := Rat.mul_nonneg (Rat.natCast_nonneg (a := Fl.vl (Fl.rg x))) (Rat.le_of_lt en_pos)
  generalize Fl.vl (Fl.rg x) = V at *
  simp only [Bool.false_eq_true, if_false]
  rw [Rat.intCast_natCast]
  unfold ab
  cases Fl.sg x
  · simp only [Bool.false_eq_true, if_false]
    rw [Rat.intCast_natCast, if_pos he]
  · simp only [if_true]
    rw [Rat.intCast_neg, Rat.intCast_natCast]
    have e : -(V : Rat) * en = -((V : Rat) * en) := by grind
    rw [e]
    generalize (V : Rat) * en = y at *
    split <;> grind
theorem rv_nat {r : Nat} (h : r < 9223372036854775808) : rv r = (Fl.vl r : Rat) * en := by
  have e : Fl.rg r = r := Nat.mod_eq_of_lt h
  have k := Fl.sg_rg r
  unfold rv Fl.val
  rw [e] at k
  rw [e, k]
  simp only [Bool.false_eq_true, if_false]
  rw [Rat.intCast_natCast]
theorem rv_mono {r s : Nat} (h : r ≤ s) (hs : s < 9223372036854775808) : rv r ≤ rv s := by
  rw [rv_nat (by omega), rv_nat hs]
  exact Rat.mul_le_mul_of_nonneg_right (Rat.natCast_le_natCast.2 (Fl.vl_le h)) (Rat.le_of_lt en_pos)
theorem pow_en (a b : Nat) (h : a = 1074 + b) : ((2 ^ a : Nat) : Rat) * en = ((2 ^ b : Nat) : Rat) := by
  rw [h, Nat.pow_add, Rat.natCast_mul]
  have := en_unit
  generalize ((2 ^ 1074 : Nat) : Rat) = W at *
  rw [show W * ((2 ^ b : Nat) : Rat) * en = (W * en) * ((2 ^ b : Nat) : Rat) by grind, this]
  grind
theorem rv_c40 : rv 4787326403894837248 = 1099511627776 := by
  rw [rv_nat (by decide), show Fl.vl 4787326403894837248 = 2 ^ 1114 by decide +kernel, pow_en 1114 40 rfl]
  rfl
theorem rv_low : en * 1152921504606846976 ≤ rv 4427038433705197568 := by
  rw [rv_nat (by decide)]
  have k : 1152921504606846976 ≤ Fl.vl 4427038433705197568 := by decide +kernel
  have k2 : ((1152921504606846976 : Nat) : Rat) ≤ ((Fl.vl 4427038433705197568 : Nat) : Rat) := Rat.natCast_le_natCast.2 k
  have k3 := Rat.mul_le_mul_of_nonneg_right k2 (Rat.le_of_lt en_pos)
  have c : ((1152921504606846976 : Nat) : Rat) = 1152921504606846976 := rfl
  rw [c] at k3
  rw [Rat.mul_comm]
  exact k3
theorem rv_900 : 1152921504606846976 * en ≤ rv 553942754166571008 := by
  rw [rv_nat (by decide)]
  have k : 1152921504606846976 ≤ Fl.vl 553942754166571008 := by decide +kernel
  have k2 : ((1152921504606846976 : Nat) : Rat) ≤ ((Fl.vl 553942754166571008 : Nat) : Rat) := Rat.natCast_le_natCast.2 k
  have k3 := Rat.mul_le_mul_of_nonneg_right k2 (Rat.le_of_lt en_pos)
  have c : ((1152921504606846976 : Nat) : Rat) = 1152921504606846976 := rfl
  rw [c] at k3
  exact k3
theorem rv_34 : rv 4454060031469420544 = 1 / 17179869184 := by
  rw [rv_nat (by decide), show Fl.vl 4454060031469420544 = 2 ^ 1040 by decide +kernel]
  have h1 := pow_en 1074 0 rfl
  have h2 : ((2 ^ 1074 : Nat) : Rat) = ((2 ^ 1040 : Nat) : Rat) * 17179869184 := by
    rw [show (2 : Nat) ^ 1074 = 2 ^ 1040 * 17179869184 by decide +kernel, Rat.natCast_mul]
    rfl
  rw [h2] at h1
  have h3 : ((2 ^ 0 : Nat) : Rat) = 1 := rfl
  rw [h3] at h1
  generalize ((2 ^ 1040 : Nat) : Rat) = W at *
  generalize en = e at *
  grind
theorem Pl.ab {x : Nat} (h : Pl x) : Ab (rv x) 1099511627776 := by
  refine (ab_ab _).mono ?_
  rw [← rv_rg, ← rv_c40]
  exact rv_mono h.2.2 (by decide)
/-- M is the greatest of the elements ahead of the one at i, j, without their signs -/
def Mx (A : M) (n i j M : Nat) : Prop := M < 9218868437227405312 ∧ (∀ r c, c < n → (r < i ∨ (r = i ∧ c < j)) → Fl.rg (A r c) ≤ M) ∧ (M = 0 ∨ ∃ r c, r < n ∧ c < n ∧ M = Fl.rg (A r c))
theorem Mx.start (A : M) (n : Nat) : Mx A n 0 0 0 := ⟨by decide, fun r c _ h => by omega, Or.inl rfl⟩
theorem Mx.step {A : M} {n i j M : Nat} (h : Mx A n i j M) (hi : i < n) (hj : j < n) (hf : Fi (A i j)) : Mx A n i (j + 1) (if M < Fl.rg (A i j) then Fl.rg (A i j) else M) := by
  obtain ⟨h1, h2, h3⟩ := h
  by_cases c : M < Fl.rg (A i j)
  · rw [if_pos c]
    refine ⟨hf.2, fun r k hk hr => ?_, Or.inr ⟨i, j, hi, hj, rfl⟩⟩
    by_cases z : r = i ∧ k = j
    · rw [z.1, z.2]; exact Nat.le_refl _
    · exact Nat.le_trans (h2 r k hk (by omega)) (by omega)
  · rw [if_neg c]
    refine ⟨h1, fun r k hk hr => ?_, h3⟩
    by_cases z : r = i ∧ k = j
    · rw [z.1, z.2]; omega
    · exact h2 r k hk (by omega)
theorem Mx.row {A : M} {n i M : Nat} (h : Mx A n i n M) : Mx A n (i + 1) 0 M := ⟨h.1, fun r c hc hr => h.2.1 r c hc (by omega), h.2.2⟩
theorem sp_chk {n nb : Nat} {l : Nat → Nat} {A : M} {b : Nat → Nat} (sp : Sp n nb l A b) : chkA n l A 1 (fun _ => nb) (fun _ => b) = 0 := by
  obtain ⟨h1, h2, h3, h4, h5, h6⟩ := sp
  have k1 : chk n l A = 0 := chk_ok (by omega) h4 (fun i hi j hj => (h6 i hi j hj).1.fin)
  rw [chkA_yes k1]
  show (if (0 : Int) = 0 then chkL n nb b else 0) = 0
  rw [if_pos rfl]
  unfold chkL
  rw [if_pos h3, if_pos (show fin b n from fun j hj => (h5 j hj).1.fin)]
theorem sp_two {n nb : Nat} {l : Nat → Nat} {A : M} {b : Nat → Nat} (sp : Sp n nb l A b) : solE n l A nb b = 0 ∨ solE n l A nb b = 141 := by
  unfold solE
  rw [if_pos (sp_chk sp)]
  split
  · split
    · exact Or.inl rfl
    · exact Or.inr rfl
  · exact Or.inr rfl
theorem sp_good {n nb : Nat} {l : Nat → Nat} {A : M} {b : Nat → Nat} (sp : Sp n nb l A b) (h : solE n l A nb b = 0) : good n (aug n A b) n ∧ ∀ j, j < n → Fi (solX n A b j) := by
  unfold solE at h
  rw [if_pos (sp_chk sp)] at h
  by_cases hg : good n (aug n A b) n
  · refine ⟨hg, fun j hj => ?_⟩
    rw [if_pos hg] at h
    by_cases hf : fin (solX n A b) n
    · have k := hf j hj
      have e : solX n A b j = op .quo (bsum (st n (aug n A b) n) n j (bx (st n (aug n A b) n) n n) (n - 1 - j)) (st n (aug n A b) n j j) := bx_eq (st n (aug n A b) n) hj
      rw [e] at k ⊢
      exact fi_of k
    · rw [if_neg hf] at h; exact absurd h (by decide)
  · rw [if_neg hg] at h; exact absurd h (by decide)
/-- what is left over of row i, truly -/
def lo (n : Nat) (A : M) (X b : Nat → Nat) (i : Nat) : Rat := sumF (fun j => rv (A i j) * rv (X j)) 0 n - rv (b i)
theorem fits14 {n nb : Nat} {l : Nat → Nat} {A : M} {b : Nat → Nat} {M : Nat} (sp : Sp n nb l A b) (hE : solE n l A nb b = 0) (hM : Mx A n n 0 M) {i : Nat} (hi : i < n) :
    ab (lo n A (solX n A b) b i) ≤ rv M * sumF (fun j => ab (rv (solX n A b j))) 0 n * rv 4454060031469420544 + rv 553942754166571008 := by
  obtain ⟨hg, hx⟩ := sp_good sp hE
  obtain ⟨h1, h2, h3, h4, h5, h6⟩ := sp
  have hle : ∀ r c, r < n → c < n → Fl.rg (A r c) ≤ M := fun r c hr hc => hM.2.1 r c hc (Or.inl hr)
  obtain ⟨r, c, hr, hc, hMe⟩ : ∃ r c, r < n ∧ c < n ∧ M = Fl.rg (A r c) ∧ ¬ M = 0 := by
    have hz : ¬ M = 0 := by
      intro z
      have hb := hg 0 (by omega)
      have ht := tk_lt (aug n A b) (k := 0) (n := n) (by omega)
      have e : piv n (aug n A b) 0 = A (tk n (aug n A b) 0) 0 := by
        show aug n A b (tk n (aug n A b) 0) 0 = _
        unfold aug
        rw [if_pos (by omega)]
      have hr0 := hle (tk n (aug n A b) 0) 0 ht (by omega)
      rw [e] at hb
      have := (not_bad hb).1
      omega
    rcases hM.2.2 with z | ⟨r, c, hr, hc, e⟩
    · exact absurd z hz
    · exact ⟨r, c, hr, hc, e, hz⟩
  obtain ⟨hMe, hz⟩ := hMe
  have hp := h6 r hr c hc
  have hlow : 4427038433705197568 ≤ M := by
    rcases hp.2.1 with z | z
    · omega
    · omega
  have hup : M ≤ 4787326403894837248 := by have := hp.2.2; omega
  have m1 : en * 1152921504606846976 ≤ rv M := Rat.le_trans rv_low (rv_mono hlow (by omega))
  have m2 : rv M ≤ 1099511627776 := by rw [← rv_c40]; exact rv_mono hup (by decide)
  have F := fits (n := n) (A := aug n A b) (x := solX n A b) (m0 := rv M) (S := sumF (fun j => ab (rv (solX n A b j))) 0 n) h2 m1 m2
    (fun i hi j hj => by
      have e : aug n A b i j = A i j := by unfold aug; rw [if_pos hj]
      rw [e]
      refine ⟨(h6 i hi j hj).1, (ab_ab _).mono ?_⟩
      rw [← rv_rg]
      exact rv_mono (hle i j hi hj) (by omega))
    (fun i hi => by
      have e : aug n A b i n = b i := by unfold aug; rw [if_neg (by omega)]
      rw [e]
      exact ⟨(h5 i hi).1, (h5 i hi).ab⟩)
    hg rfl hx rfl i hi
  have e1 : aug n A b i n = b i := by unfold aug; rw [if_neg (by omega)]
  have e2 : sumF (fun j => rv (aug n A b i j) * rv (solX n A b j)) 0 n = sumF (fun j => rv (A i j) * rv (solX n A b j)) 0 n := by
    have : ∀ T, T ≤ n → sumF (fun j => rv (aug n A b i j) * rv (solX n A b j)) 0 T = sumF (fun j => rv (A i j) * rv (solX n A b j)) 0 T := by
      intro T
      induction T with
      | zero => intro _; rfl
      | succ T ih =>
        intro hT
        show sumF _ 0 T + rv (aug n A b i (0 + T)) * rv (solX n A b (0 + T)) = sumF _ 0 T + rv (A i (0 + T)) * rv (solX n A b (0 + T))
        rw [ih (by omega)]
        have e : aug n A b i (0 + T) = A i (0 + T) := by unfold aug; rw [if_pos (by omega)]
        rw [e]
    exact this n (Nat.le_refl _)
  rw [e1, e2] at F
  have k := ab_le F
  have q := rv_900
  rw [rv_34]
  show ab (lo n A (solX n A b) b i) ≤ _
  unfold lo
  generalize ab (sumF (fun j => rv (A i j) * rv (solX n A b j)) 0 n - rv (b i)) = L at *
  generalize sumF (fun j => ab (rv (solX n A b j))) 0 n = S at *
  generalize rv M * S = P at *
  generalize rv 553942754166571008 = Z at *
  generalize en = e at *
  grind
end Go.Proofs.Ytjfkdmddfeeheaa.Sv
