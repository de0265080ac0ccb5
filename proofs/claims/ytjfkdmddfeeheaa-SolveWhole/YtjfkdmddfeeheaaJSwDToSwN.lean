/-
 OWN TEXT: the steps: pivots are greatest; elements stay numbers and grow by little more than 2 at a step; how far each is from the true one.
-/
import Derived.Test.YtjfkdmddfeeheaaJSwAToSwC
import Derived.Test.YtjfkdmddfeeheaaJSvKToSvL
set_option linter.unusedVariables false
namespace Go.Proofs.Ytjfkdmddfeeheaa.Sv
theorem best_max {A : M} {k : Nat} : ∀ {T : Nat}, (∀ t, t < T → Fl.nan (A (k + t) k) = false) → ∀ t, t < T → Fl.rg (A (k + t) k) ≤ Fl.rg (A (best A k T) k)
 | 0, _, t, h => absurd h (by omega)
 | T + 1, hn, t, ht => by
  have ih := best_max (A := A) (k := k) (T := T) (fun t h => hn t (by omega))
  have hb : Fl.nan (A (best A k T) k) = false := by
   rcases best_lt A k T with q | q
   ·
    have := hn (best A k T - k) (by have := best_ge A k T; omega)
    rw [show k + (best A k T - k) = best A k T by have := best_ge A k T; omega] at this
    exact this
   · rw [q]; exact hn 0 (by omega)
  have hg : gt (A (k + T) k) (A (best A k T) k) = decide (Fl.rg (A (best A k T) k) < Fl.rg (A (k + T) k)) := by
   unfold gt; rw [hn T (by omega), hb]; rfl
  unfold best
  rw [hg]
  by_cases c : Fl.rg (A (best A k T) k) < Fl.rg (A (k + T) k)
  ·
   rw [decide_eq_true c, if_pos rfl]
   rcases Nat.lt_or_ge t T with q | q
   · have := ih t q; omega
   ·
    have : t = T := by omega
    subst this; exact Nat.le_refl _
  ·
   rw [decide_eq_false c]
   simp only [Bool.false_eq_true, if_false]
   rcases Nat.lt_or_ge t T with q | q
   · exact ih t q
   ·
    have : t = T := by omega
    subst this; omega
/-- one element of a step -/
theorem less_err {B : M} {k i j : Nat} {g : Rat} (hg1 : en * 1152921504606846976 ≤ g) (hg2 : g ≤ 288230376151711744) (h1 : Fi (B i j)) (a1 : Ab (rv (B i j)) g) (h2 : Fi (B k j)) (a2 : Ab (rv (B k j)) g) (hf : Fi (op .quo (B i k) (B k k))) (af : Ab (rv (op .quo (B i k) (B k k))) 1) :
  Fi (less B k i j) ∧ Ab (rv (less B k i j)) (g * (2 + 1 / 562949953421312)) ∧ Ab (rv (B i j) - rv (op .quo (B i k) (B k k)) * rv (B k j) - rv (less B k i j)) (4 * (1 / 4503599627370496) * g + 3 * en) ∧
   ∀ C D, Ab (rv (B k j)) C → Ab (rv (less B k i j)) D → Ab (rv (B i j) - rv (op .quo (B i k) (B k k)) * rv (B k j) - rv (less B k i j)) (1 / 4503599627370496 * C + 2 * (1 / 4503599627370496) * D + 3 * en) := by
 have he := en_pos
 unfold less
 generalize op .quo (B i k) (B k k) = f at *
 generalize B i j = x at *
 generalize B k j = y at *
 have p1 : Ab (rv f * rv y) g := (af.mul a2).mono (by grind)
 have p2 := mul_fi hf h2 p1 (by grind)
 have p3 := mul_err hf h2 p2 p1
 have p4 : ∀ C, Ab (rv y) C → Ab (rv (op .mul f y) - rv f * rv y) (1 / 4503599627370496 * C + en) := fun C hC => mul_err hf h2 p2 ((af.mul hC).mono (by grind))
 generalize op .mul f y = p at *
 have p5 : Ab (rv p) (g + (1 / 4503599627370496 * g + en)) := by
  have := p1.add p3
  rw [show rv f * rv y + (rv p - rv f * rv y) = rv p by grind] at this
  exact this
 have s1 : Ab (rv x - rv p) (g + (g + (1 / 4503599627370496 * g + en))) := a1.sub p5
 have s2 := sub_fi h1 p2 s1 (by grind)
 have s3 := sub_err h1 p2 s2 s1
 have s4 := sub_err h1 p2 s2 (ab_ab (rv x - rv p))
 generalize op .sub x p = s at *
 refine ⟨s2, ?_, ?_, fun C D hC hD => ?_⟩
 ·
  unfold Ab at *
  constructor <;> grind
 ·
  generalize rv f * rv y = q at *
  unfold Ab at *
  constructor <;> grind
 ·
  have q4 := p4 C hC
  have hH : ab (rv x - rv p) ≤ D + (1 / 4503599627370496 * ab (rv x - rv p) + en) := by
   refine ab_le ?_
   have := hD.sub s4
   rw [show rv s - (rv s - (rv x - rv p)) = rv x - rv p by grind] at this
   exact this
  have hn := ab_nn (rv x - rv p)
  have hDn := hD.nn
  generalize rv f * rv y = q at *
  generalize ab (rv x - rv p) = H at *
  unfold Ab at *
  constructor <;> grind
/-- so much at the most behind k steps -/
def gr (m : Rat) : Nat → Rat
 | 0 => m
 | k + 1 => gr m k * (2 + 1 / 562949953421312)
theorem gr_nn {m : Rat} (h : 0 ≤ m) : ∀ k, 0 ≤ gr m k
 | 0 => h
 | k + 1 => Rat.mul_nonneg (gr_nn h k) (by grind)
theorem gr_up {m : Rat} (h : 0 ≤ m) (k : Nat) : gr m k ≤ gr m (k + 1) := by
 have := gr_nn h k
 show gr m k ≤ gr m k * (2 + 1 / 562949953421312)
 generalize gr m k = x at *
 grind
theorem gr_mono {m : Rat} (h : 0 ≤ m) {j k : Nat} (hk : j ≤ k) : gr m j ≤ gr m k := by
 induction k with
 | zero => cases Nat.le_zero.1 hk; exact Rat.le_refl
 | succ k ih =>
  rcases Nat.lt_or_ge j (k + 1) with q | q
  · exact Rat.le_trans (ih (by omega)) (gr_up h k)
  ·
   have : j = k + 1 := by omega
   subst this; exact Rat.le_refl
theorem gr_8 {m : Rat} (h : 0 ≤ m) {k : Nat} (hk : k ≤ 8) : gr m k ≤ 257 * m := by
 refine Rat.le_trans (gr_mono h hk) ?_
 have e : gr m 8 = m * ((2 + 1 / 562949953421312) ^ 8) := by unfold gr gr gr gr gr gr gr gr gr; grind
 rw [e]
 have c : ((2 + 1 / 562949953421312 : Rat) ^ 8) ≤ 257 := by decide +kernel
 have := Rat.mul_le_mul_of_nonneg_left c h
 grind
/-- all elements of a system, by their column's bound -/
def Mb (n : Nat) (A : M) (mm : Nat → Rat) (k : Nat) : Prop := ∀ i, i < n → ∀ j, j ≤ n → Fi (A i j) ∧ Ab (rv (A i j)) (gr (mm j) k)
theorem Mb.swap {n : Nat} {A : M} {mm : Nat → Rat} {k t : Nat} (h : Mb n A mm k) {a b : Nat} (ha : a < n) (hb : b < n) : Mb n (Sv.swap A a b) mm k := by
 intro i hi j hj
 unfold Sv.swap
 by_cases e1 : i = a
 · rw [if_pos e1]; exact h b hb j hj
 ·
  rw [if_neg e1]
  by_cases e2 : i = b
  · rw [if_pos e2]; exact h a ha j hj
  · rw [if_neg e2]; exact h i hi j hj
theorem not_bad {x : Nat} (h : bad x = false) : ¬ Fl.rg x = 0 ∧ Fl.finB x = true := by
 unfold bad nought at h
 simp only [Bool.or_eq_false_iff, Bool.not_eq_false'] at h
 exact ⟨of_decide_eq_false h.1, h.2⟩
/-- the pivot's row of the step k -/
def Bk (n : Nat) (A : M) (k : Nat) : M := Sv.swap (st n A k) k (tk n A k)
theorem st_succ (n : Nat) (A : M) (k : Nat) : st n A (k + 1) = elim (Bk n A k) k := rfl
theorem piv_Bk (n : Nat) (A : M) (k : Nat) : Bk n A k k k = piv n A k := swap_piv n A k
theorem quo_Bk {n : Nat} {A : M} {mm : Nat → Rat} {k : Nat} (hk : k < n) (h : Mb n (st n A k) mm k) (hb : bad (piv n A k) = false) {i : Nat} (hi : k < i) (hi2 : i < n) :
  Fi (Bk n A k i k) ∧ Fi (Bk n A k k k) ∧ ¬ Fl.rg (Bk n A k k k) = 0 ∧ Fi (op .quo (Bk n A k i k) (Bk n A k k k)) ∧ Ab (rv (op .quo (Bk n A k i k) (Bk n A k k k))) 1 := by
 have hB : Mb n (Bk n A k) mm k := h.swap (t := 0) hk (tk_lt A hk)
 obtain ⟨f1, _⟩ := hB i hi2 k (by omega)
 obtain ⟨f2, _⟩ := hB k hk k (by omega)
 rw [← piv_Bk] at hb
 obtain ⟨z1, z2⟩ := not_bad hb
 have hm : ∀ t, t < n - k → Fl.rg (st n A k (k + t) k) ≤ Fl.rg (st n A k (tk n A k) k) :=
  best_max (fun t ht => by
   have := (h (k + t) (by omega) k (by omega)).1.2
   exact decide_eq_false (by omega))
 have hle : Fl.rg (Bk n A k i k) ≤ Fl.rg (Bk n A k k k) := by
  rw [piv_Bk]
  unfold Bk
  rw [swap_sw]
  have hs1 : sw k (tk n A k) i < n := sw_lt hk (tk_lt A hk) hi2
  have hs2 : k ≤ sw k (tk n A k) i := by
   have := tk_ge n k A
   unfold sw; split
   · omega
   · split <;> omega
  have := hm (sw k (tk n A k) i - k) (by omega)
  rw [show k + (sw k (tk n A k) i - k) = sw k (tk n A k) i by omega] at this
  exact this
 obtain ⟨q1, q2⟩ := quo_one f1 f2 z1 hle
 exact ⟨f1, f2, z1, q1, q2⟩
theorem Mb.step {n : Nat} {A : M} {mm : Nat → Rat} {k : Nat} (hk : k < n) (hn : n ≤ 8) (hmm : ∀ j, j ≤ n → en * 1152921504606846976 ≤ mm j ∧ mm j ≤ 1099511627776) (h : Mb n (st n A k) mm k) (hb : bad (piv n A k) = false) : Mb n (st n A (k + 1)) mm (k + 1) := by
 have hB : Mb n (Bk n A k) mm k := h.swap (t := 0) hk (tk_lt A hk)
 intro i hi j hj
 rw [st_succ]
 have hm := hmm j hj
 have h0 : 0 ≤ mm j := by have := en_pos; grind
 unfold elim
 by_cases c : k < i ∧ k < j
 ·
  rw [if_pos c]
  obtain ⟨_, _, _, q1, q2⟩ := quo_Bk hk h hb c.1 hi
  obtain ⟨f1, a1⟩ := hB i hi j hj
  obtain ⟨f2, a2⟩ := hB k hk j hj
  have g1 := gr_mono h0 (Nat.zero_le k)
  have g2 := gr_8 h0 (show k ≤ 8 by omega)
  have e0 : gr (mm j) 0 = mm j := rfl
  rw [e0] at g1
  obtain ⟨r1, r2, _, _⟩ := less_err (g := gr (mm j) k) (by grind) (by grind) f1 a1 f2 a2 q1 q2
  exact ⟨r1, r2⟩
 ·
  rw [if_neg c]
  obtain ⟨f1, a1⟩ := hB i hi j hj
  exact ⟨f1, a1.mono (gr_up h0 k)⟩
theorem good_mono0 {n : Nat} {A : M} {k j : Nat} (h : good n A k) (hj : j ≤ k) : good n A j := fun i hi => h i (by omega)
theorem Mb.all {n : Nat} {A : M} {mm : Nat → Rat} (hn : n ≤ 8) (hmm : ∀ j, j ≤ n → en * 1152921504606846976 ≤ mm j ∧ mm j ≤ 1099511627776) (h : Mb n A mm 0) : ∀ {k : Nat}, k ≤ n → good n A k → Mb n (st n A k) mm k
 | 0, _, _ => h
 | k + 1, hk, hg => Mb.step (by omega) hn hmm (Mb.all hn hmm h (by omega) (good_mono0 hg (by omega))) (hg k (by omega))
end Go.Proofs.Ytjfkdmddfeeheaa.Sv
/-
 OWN TEXT: sums; the way back against the true sums.
-/
set_option linter.unusedVariables false
set_option exponentiation.threshold 3000
namespace Go.Proofs.Ytjfkdmddfeeheaa.Sv
/-- t terms from k on -/
def sumF (f : Nat → Rat) (k : Nat) : Nat → Rat
 | 0 => 0
 | t + 1 => sumF f k t + f (k + t)
theorem sumF_front (f : Nat → Rat) (k : Nat) : ∀ t, sumF f k (t + 1) = f k + sumF f (k + 1) t
 | 0 => by show (0 : Rat) + f (k + 0) = f k + 0; rw [Nat.add_zero]; grind
 | t + 1 => by
  show sumF f k (t + 1) + f (k + (t + 1)) = f k + (sumF f (k + 1) t + f (k + 1 + t))
  rw [sumF_front f k t, show k + (t + 1) = k + 1 + t by omega]
  grind
theorem sumF_ab {f g : Nat → Rat} {k : Nat} {c : Rat} : ∀ {T : Nat}, (∀ t, t < T → Ab (f (k + t)) (c * g (k + t))) → Ab (sumF f k T) (c * sumF g k T)
 | 0, _ => by show Ab 0 (c * 0); unfold Ab; constructor <;> grind
 | T + 1, h => by
  have := (sumF_ab (T := T) (fun t ht => h t (by omega))).add (h T (by omega))
  refine this.mono ?_
  show c * sumF g k T + c * g (k + T) ≤ c * (sumF g k T + g (k + T))
  grind
theorem sumF_comb (f1 f2 f3 : Nat → Rat) (p : Rat) (k : Nat) : ∀ T, sumF (fun j => f1 j - p * f2 j - f3 j) k T = sumF f1 k T - p * sumF f2 k T - sumF f3 k T
 | 0 => by show (0 : Rat) = 0 - p * 0 - 0; grind
 | T + 1 => by
  show sumF (fun j => f1 j - p * f2 j - f3 j) k T + (f1 (k + T) - p * f2 (k + T) - f3 (k + T)) = sumF f1 k T + f1 (k + T) - p * (sumF f2 k T + f2 (k + T)) - (sumF f3 k T + f3 (k + T))
  rw [sumF_comb f1 f2 f3 p k T]
  grind
theorem sumF_nn {g : Nat → Rat} (hg : ∀ j, 0 ≤ g j) (k : Nat) : ∀ T, 0 ≤ sumF g k T
 | 0 => Rat.le_refl
 | T + 1 => by
  have h1 := sumF_nn hg k T
  have h2 := hg (k + T)
  show 0 ≤ sumF g k T + g (k + T)
  grind
theorem sumF_split (g : Nat → Rat) (a s : Nat) : ∀ t, sumF g a (s + t) = sumF g a s + sumF g (a + s) t
 | 0 => by show sumF g a s = sumF g a s + 0; grind
 | t + 1 => by
  show sumF g a (s + t) + g (a + (s + t)) = sumF g a s + (sumF g (a + s) t + g (a + s + t))
  rw [sumF_split g a s t, Nat.add_assoc]
  grind
theorem sumF_le {g : Nat → Rat} (hg : ∀ j, 0 ≤ g j) {k T n : Nat} (h : k + T ≤ n) : sumF g k T ≤ sumF g 0 n := by
 have e1 := sumF_split g 0 k (n - k)
 have e2 := sumF_split g k T (n - k - T)
 rw [show k + (n - k) = n by omega, Nat.zero_add] at e1
 rw [show T + (n - k - T) = n - k by omega] at e2
 have h1 := sumF_nn hg 0 k
 have h2 := sumF_nn hg (k + T) (n - k - T)
 grind
theorem one_le_sum {g : Nat → Rat} (hg : ∀ j, 0 ≤ g j) {j n : Nat} (h : j < n) : g j ≤ sumF g 0 n := by
 have := sumF_le hg (k := j) (T := 1) (n := n) (by omega)
 have e : sumF g j 1 = g j := by show 0 + g (j + 0) = g j; rw [Nat.add_zero]; grind
 rw [e] at this
 exact this
theorem en_le : en ≤ 1 / 1152921504606846976 := by
 have hu := en_unit
 have hp := en_pos
 have h : ((1152921504606846976 : Nat) : Rat) ≤ ((2 ^ 1074 : Nat) : Rat) := Rat.natCast_le_natCast.2 (by decide +kernel)
 have c : ((1152921504606846976 : Nat) : Rat) = 1152921504606846976 := rfl
 rw [c] at h
 have k := Rat.mul_le_mul_of_nonneg_right h (Rat.le_of_lt hp)
 rw [hu] at k
 grind
/-- e, and q for each step -/
def acc (e q : Rat) : Nat → Rat
 | 0 => e
 | k + 1 => acc e q k + q
theorem acc_mono {e q : Rat} (hq : 0 ≤ q) {j k : Nat} (h : j ≤ k) : acc e q j ≤ acc e q k := by
 induction k with
 | zero => cases Nat.le_zero.1 h; exact Rat.le_refl
 | succ k ih =>
  rcases Nat.lt_or_ge j (k + 1) with c | c
  ·
   have := ih (by omega)
   show acc e q j ≤ acc e q k + q
   grind
  ·
   have : j = k + 1 := by omega
   subst this; exact Rat.le_refl
theorem acc_8 (e q : Rat) : acc e q 8 = e + 8 * q := by
 show e + q + q + q + q + q + q + q + q = _
 grind
theorem acc_7 (e q : Rat) : acc e q 7 = e + 7 * q := by
 show e + q + q + q + q + q + q + q = _
 grind
theorem bsum_lt {U : M} {n i : Nat} {x : Nat → Nat} (hb : U i n < 18446744073709551616) : ∀ t, bsum U n i x t < 18446744073709551616
 | 0 => hb
 | t + 1 => op_lt _ _ _
theorem bsum_fin {U : M} {n i : Nat} {x : Nat → Nat} : ∀ {m : Nat}, Fl.finB (bsum U n i x m) = true → ∀ {t : Nat}, t ≤ m → Fl.finB (bsum U n i x t) = true
 | 0, h, t, ht => by cases Nat.le_zero.1 ht; exact h
 | m + 1, h, t, ht => by
  rcases Nat.lt_or_ge t (m + 1) with c | c
  · exact bsum_fin (sub_near (show Fl.finB (op .sub (bsum U n i x m) _) = true from h)).1 (by omega)
  ·
   have : t = m + 1 := by omega
   subst this; exact h
/-- the way back: how far a row's sum is from its right side -/
theorem back_errA {U : M} {n i : Nat} {x : Nat → Nat} {G S : Rat} {aX : Nat → Rat} (hn : n ≤ 8) (hi : i < n) (hG1 : en * 1152921504606846976 ≤ G) (hG2 : G ≤ 562949953421312)
  (hU : ∀ j, i ≤ j → j < n → Fi (U i j) ∧ Ab (rv (U i j)) G) (hb : Fi (U i n)) (h0 : ¬ Fl.rg (U i i) = 0) (hx : ∀ j, j < n → Fi (x j)) (hxi : x i = op .quo (bsum U n i x (n - 1 - i)) (U i i))
  (haX : ∀ j, Ab (rv (x j)) (aX j)) (hS : S = sumF aX 0 n) :
  Ab (sumF (fun j => rv (U i j) * rv (x j)) i (n - i) - rv (U i n)) (acc (4 * (1 / 4503599627370496) * (G * S) + 3 * G * en) (4 * (1 / 4503599627370496) * (G * S) + 4 * en) (n - 1 - i)) := by
 have he := en_pos
 have hel := en_le
 obtain ⟨m, hm⟩ : ∃ m, n - 1 - i = m := ⟨_, rfl⟩
 have hm7 : m ≤ 7 := by omega
 rw [hm] at hxi ⊢
 have hnn : ∀ j, 0 ≤ aX j := fun j => (haX j).nn
 have hG0 : 0 ≤ G := by grind
 obtain ⟨P, hP⟩ : ∃ P, G * S = P := ⟨_, rfl⟩
 rw [hP]
 obtain ⟨g, hg⟩ : ∃ g : Nat → Rat, g = fun j => rv (U i j) * rv (x j) := ⟨_, rfl⟩
 have hgj : ∀ j, i ≤ j → j < n → Ab (g j) (G * aX j) := fun j h1 h2 => by rw [hg]; exact (hU j h1 h2).2.mul (haX j)
 have hgP : ∀ j, i ≤ j → j < n → Ab (g j) P := fun j h1 h2 => (hgj j h1 h2).mono (by
  rw [← hP, hS]
  exact Rat.mul_le_mul_of_nonneg_left (one_le_sum hnn h2) hG0)
 have hP0 : 0 ≤ P := (hgP i (Nat.le_refl _) hi).nn
 -- the true sums
 obtain ⟨W, hW⟩ : ∃ W : Nat → Rat, W = fun t => sumF g (i + 1 + t) (m - t) + g i := ⟨_, rfl⟩
 have hWm : W m = g i := by rw [hW]; show sumF g (i + 1 + m) (m - m) + g i = g i; rw [Nat.sub_self]; show (0 : Rat) + g i = g i; grind
 have hWs : ∀ t, t < m → W t = g (i + 1 + t) + W (t + 1) := fun t ht => by
  rw [hW]
  show sumF g (i + 1 + t) (m - t) + g i = g (i + 1 + t) + (sumF g (i + 1 + (t + 1)) (m - (t + 1)) + g i)
  rw [show m - t = (m - (t + 1)) + 1 by omega, sumF_front, show i + 1 + t + 1 = i + 1 + (t + 1) by omega]
  grind
 have hWP : ∀ t, t ≤ m → Ab (W t) P := fun t ht => by
  have k1 : Ab (sumF g (i + 1 + t) (m - t)) (G * sumF aX (i + 1 + t) (m - t)) := sumF_ab (fun s hs => hgj _ (by omega) (by omega))
  have k2 := k1.add (hgj i (Nat.le_refl _) hi)
  have k3 : aX i + sumF aX (i + 1 + t) (m - t) ≤ S := by
   have e1 := sumF_front aX i m
   have e2 := sumF_split aX (i + 1) t (m - t)
   rw [show t + (m - t) = m by omega] at e2
   have e3 := sumF_nn hnn (i + 1) t
   have e4 := sumF_le hnn (k := i) (T := m + 1) (n := n) (by omega)
   rw [hS]
   grind
  have k4 := Rat.mul_le_mul_of_nonneg_left k3 hG0
  rw [hP] at k4
  rw [hW]
  exact k2.mono (by grind)
 have hW0 : W 0 = sumF g i (n - i) := by
  rw [hW]
  show sumF g (i + 1 + 0) (m - 0) + g i = _
  rw [show n - i = m + 1 by omega, sumF_front, Nat.add_zero, Nat.sub_zero]
  grind
 -- what comes
 have hfm : Fl.finB (bsum U n i x m) = true := by
  have h1 := (hx i hi).fin
  rw [hxi] at h1
  exact quo_near (hU i (Nat.le_refl _) hi).1 h1
 have hfi : ∀ t, t ≤ m → Fi (bsum U n i x t) := fun t ht => ⟨bsum_lt hb.1 t, of_decide_eq_true (bsum_fin hfm ht)⟩
 obtain ⟨s, hs⟩ : ∃ s : Nat → Nat, s = fun t => bsum U n i x t := ⟨_, rfl⟩
 have hq := quo_err (hfi m (Nat.le_refl _)) (hU i (Nat.le_refl _) hi).1 h0 (by rw [← hxi]; exact hx i hi) (ab_ab (rv (bsum U n i x m))) (hU i (Nat.le_refl _) hi).2
 rw [← hxi] at hq
 have base : Ab (rv (bsum U n i x m) - W m) (4 * (1 / 4503599627370496) * P + 3 * G * en) := by
  have hgi := hgP i (Nat.le_refl _) hi
  have e : rv (x i) * rv (U i i) = g i := by rw [hg]; show _ = rv (U i i) * rv (x i); grind
  rw [e] at hq
  rw [hWm]
  have hH : ab (rv (bsum U n i x m)) ≤ P + (1 / 2251799813685248 * ab (rv (bsum U n i x m)) + 2 * en * G) := by
   refine ab_le ?_
   have := hgi.sub hq
   rw [show g i - (g i - rv (bsum U n i x m)) = rv (bsum U n i x m) by grind] at this
   exact this
  have hH0 := ab_nn (rv (bsum U n i x m))
  have hGe : 0 ≤ G * en := Rat.mul_nonneg hG0 (Rat.le_of_lt he)
  rw [show 2 * en * G = 2 * (G * en) by grind] at hq hH
  rw [show 3 * G * en = 3 * (G * en) by grind]
  generalize ab (rv (bsum U n i x m)) = H at *
  generalize G * en = GE at *
  unfold Ab at hq ⊢
  constructor <;> grind
 have hGe : 0 ≤ G * en := Rat.mul_nonneg hG0 (Rat.le_of_lt he)
 have hGe2 : G * en ≤ 562949953421312 * en := Rat.mul_le_mul_of_nonneg_right hG2 (Rat.le_of_lt he)
 have hq0 : 0 ≤ 4 * (1 / 4503599627370496) * P + 4 * en := by grind
 have all : ∀ d, d ≤ m → Ab (rv (bsum U n i x (m - d)) - W (m - d)) (acc (4 * (1 / 4503599627370496) * P + 3 * G * en) (4 * (1 / 4503599627370496) * P + 4 * en) d) := by
  intro d
  induction d with
  | zero => intro _; rw [Nat.sub_zero]; exact base
  | succ d ih =>
   intro hd
   have h1 := ih (by omega)
   obtain ⟨t, ht⟩ : ∃ t, m - (d + 1) = t := ⟨_, rfl⟩
   have ht2 : m - d = t + 1 := by omega
   rw [ht]
   rw [ht2] at h1
   have hcap := acc_mono (e := 4 * (1 / 4503599627370496) * P + 3 * G * en) hq0 (show d ≤ 7 by omega)
   rw [acc_7] at hcap
   show Ab _ (acc (4 * (1 / 4503599627370496) * P + 3 * G * en) (4 * (1 / 4503599627370496) * P + 4 * en) d + _)
   generalize acc (4 * (1 / 4503599627370496) * P + 3 * G * en) (4 * (1 / 4503599627370496) * P + 4 * en) d = E at *
   have f1 := hfi t (by omega)
   have f2 : Fi (op .sub (bsum U n i x t) (op .mul (U i (i + 1 + t)) (x (i + 1 + t)))) := hfi (t + 1) (by omega)
   obtain ⟨_, n2⟩ := sub_near f2.fin
   have f3 := fi_of n2
   obtain ⟨u1, u2⟩ := hU (i + 1 + t) (by omega) (by omega)
   have f4 := hx (i + 1 + t) (by omega)
   have pe := mul_err u1 f4 f3 (show Ab (rv (U i (i + 1 + t)) * rv (x (i + 1 + t))) P by have := hgP (i + 1 + t) (by omega) (by omega); rw [hg] at this; exact this)
   have se := sub_err f1 f3 f2 (ab_ab _)
   have eg : rv (U i (i + 1 + t)) * rv (x (i + 1 + t)) = g (i + 1 + t) := by rw [hg]
   rw [eg] at pe
   have es : bsum U n i x (t + 1) = op .sub (bsum U n i x t) (op .mul (U i (i + 1 + t)) (x (i + 1 + t))) := rfl
   rw [es] at h1
   have hw := hWs t (by omega)
   have hwp := hWP (t + 1) (by omega)
   generalize op .mul (U i (i + 1 + t)) (x (i + 1 + t)) = p at *
   generalize op .sub (bsum U n i x t) p = r at *
   generalize bsum U n i x t = q at *
   have hH : ab (rv q - rv p) ≤ (P + E) + (1 / 4503599627370496 * ab (rv q - rv p) + en) := by
    refine ab_le ?_
    have h2 := (hwp.add h1).sub se
    rw [show W (t + 1) + (rv r - W (t + 1)) - (rv r - (rv q - rv p)) = rv q - rv p by grind] at h2
    exact h2
   have hH0 := ab_nn (rv q - rv p)
   have hE0 := h1.nn
   generalize ab (rv q - rv p) = H at *
   rw [hw]
   rw [show 3 * G * en = 3 * (G * en) by grind] at hcap
   generalize G * en = GE at *
   unfold Ab at h1 pe se ⊢
   constructor <;> grind
 have last := all m (Nat.le_refl _)
 rw [Nat.sub_self, hW0] at last
 have e0 : bsum U n i x 0 = U i n := rfl
 rw [e0] at last
 have eg2 : sumF (fun j => rv (U i j) * rv (x j)) i (n - i) = sumF g i (n - i) := by rw [hg]
 rw [eg2]
 generalize sumF g i (n - i) = Z at *
 unfold Ab at last ⊢
 constructor <;> grind
theorem back_err {U : M} {n i : Nat} {x : Nat → Nat} {G S : Rat} {aX : Nat → Rat} (hn : n ≤ 8) (hi : i < n) (hG1 : en * 1152921504606846976 ≤ G) (hG2 : G ≤ 562949953421312)
  (hU : ∀ j, i ≤ j → j < n → Fi (U i j) ∧ Ab (rv (U i j)) G) (hb : Fi (U i n)) (h0 : ¬ Fl.rg (U i i) = 0) (hx : ∀ j, j < n → Fi (x j)) (hxi : x i = op .quo (bsum U n i x (n - 1 - i)) (U i i))
  (haX : ∀ j, Ab (rv (x j)) (aX j)) (hS : S = sumF aX 0 n) :
  Ab (sumF (fun j => rv (U i j) * rv (x j)) i (n - i) - rv (U i n)) (32 * (1 / 4503599627370496) * (G * S) + (3 * G + 28) * en) := by
 have he := en_pos
 have hG0 : 0 ≤ G := by grind
 have hS0 : 0 ≤ S := by rw [hS]; exact sumF_nn (fun j => (haX j).nn) 0 n
 have hP0 := Rat.mul_nonneg hG0 hS0
 have hq0 : 0 ≤ 4 * (1 / 4503599627370496) * (G * S) + 4 * en := by grind
 have hcap := acc_mono (e := 4 * (1 / 4503599627370496) * (G * S) + 3 * G * en) hq0 (show n - 1 - i ≤ 7 by omega)
 rw [acc_7] at hcap
 refine (back_errA hn hi hG1 hG2 hU hb h0 hx hxi haX hS).mono (Rat.le_trans hcap ?_)
 grind
end Go.Proofs.Ytjfkdmddfeeheaa.Sv
/-
 OWN TEXT: the unknowns that come out fit their rows: how near.
-/
set_option linter.unusedVariables false
namespace Go.Proofs.Ytjfkdmddfeeheaa.Sv
theorem bx_stay (U : M) (n : Nat) {i : Nat} : ∀ {c : Nat}, n - i ≤ c → i < n → c ≤ n → bx U n c i = bx U n (n - i) i
 | 0, h, hi, _ => absurd h (by omega)
 | c + 1, h, hi, hc => by
  by_cases e : n - i = c + 1
  · rw [e]
  ·
   have h1 : n - i ≤ c := by omega
   show (if i = n - 1 - c then op .quo (bsum U n i (bx U n c) (n - 1 - i)) (U i i) else bx U n c i) = _
   rw [if_neg (by omega)]
   exact bx_stay U n h1 hi (by omega)
theorem bx_eq (U : M) {n i : Nat} (hi : i < n) : bx U n n i = op .quo (bsum U n i (bx U n n) (n - 1 - i)) (U i i) := by
 rw [bx_stay U n (show n - i ≤ n by omega) hi (Nat.le_refl _)]
 obtain ⟨c, hc⟩ : ∃ c, n - i = c + 1 := ⟨n - i - 1, by omega⟩
 rw [hc]
 show (if i = n - 1 - c then op .quo (bsum U n i (bx U n c) (n - 1 - i)) (U i i) else bx U n c i) = _
 rw [if_pos (by omega)]
 rw [bsum_ext U n i (bx U n c) (bx U n n) (n - 1 - i) (fun t ht => by
  rw [bx_stay U n (i := i + 1 + t) (c := c) (by omega) (by omega) (by omega), bx_stay U n (i := i + 1 + t) (c := n) (by omega) (by omega) (by omega)])]
theorem sw_sw (k i t : Nat) : sw k i (sw k i t) = t := by
 unfold sw
 by_cases a : t = k
 ·
  subst a
  by_cases b : i = t
  · simp [b]
  · simp [b]
 ·
  by_cases b : t = i
  · subst b; simp [a]
  · simp [a, b]
theorem sw_ge {k i t : Nat} (hi : k ≤ i) (ht : k ≤ t) : k ≤ sw k i t := by unfold sw; split; exact hi; split <;> omega
/-- a row's sum less its right side, from the column k on -/
def rs0 (B : M) (X : Nat → Rat) (n i k : Nat) : Rat := sumF (fun j => rv (B i j) * X j) k (n - k) - rv (B i n)
/-- one step -/
theorem step_resG {n : Nat} {A : M} {mm : Nat → Rat} {k i : Nat} {X aX : Nat → Rat} {G S d D : Rat} (hn : n ≤ 8) (hk : k < n) (hki : k < i) (hi : i < n)
  (hG1 : en * 1152921504606846976 ≤ G) (hG2 : G ≤ 562949953421312) (hmm : ∀ j, j ≤ n → en * 1152921504606846976 ≤ mm j ∧ mm j ≤ 1099511627776) (hBG : ∀ r, r < n → ∀ j, j < n → Ab (rv (Bk n A k r j)) G) (hSG : ∀ r, r < n → ∀ j, j < n → Ab (rv (st n A (k + 1) r j)) G) (hgG : ∀ j, j < n → gr (mm j) k ≤ G)
  (hM : Mb n (st n A k) mm k) (hb : bad (piv n A k) = false) (haX : ∀ j, Ab (X j) (aX j)) (hS : S = sumF aX 0 n)
  (h1 : Ab (rs0 (Bk n A k) X n k k) d) (h2 : Ab (rs0 (st n A (k + 1)) X n i (k + 1)) D) :
  Ab (rs0 (Bk n A k) X n i k) (d + D + (8 * (1 / 4503599627370496) * (G * S) + 1 / 4503599627370496 * d + 2 * (1 / 4503599627370496) * D + 3 * en)) := by
 have he := en_pos
 have hel := en_le
 have hnn : ∀ j, 0 ≤ aX j := fun j => (haX j).nn
 have hG0 : 0 ≤ G := by grind
 have hB : Mb n (Bk n A k) mm k := hM.swap (t := 0) hk (tk_lt A hk)
 obtain ⟨q1, q2, q3, q4, q5⟩ := quo_Bk hk hM hb hki hi
 obtain ⟨f, hf⟩ : ∃ f, op .quo (Bk n A k i k) (Bk n A k k k) = f := ⟨_, rfl⟩
 have hq := quo_err q1 q2 q3 q4 (hBG i hi k hk) (hBG k hk k hk)
 have hst : st n A (k + 1) = elim (Bk n A k) k := st_succ n A k
 have hA' : ∀ j, k < j → st n A (k + 1) i j = less (Bk n A k) k i j := fun j hj => by rw [hst]; unfold elim; rw [if_pos ⟨hki, hj⟩]
 have hle : ∀ j, j ≤ n → k < j → _ := fun j hj hkj => by
  have hm := hmm j hj
  have h0 : 0 ≤ mm j := by grind
  have g1 := gr_mono h0 (Nat.zero_le k)
  have g2 := gr_8 h0 (show k ≤ 8 by omega)
  have e0 : gr (mm j) 0 = mm j := rfl
  rw [e0] at g1
  exact less_err (g := gr (mm j) k) (B := Bk n A k) (k := k) (i := i) (j := j) (by grind) (by grind) (hB i hi j hj).1 (hB i hi j hj).2 (hB k hk j hj).1 (hB k hk j hj).2 q4 q5
 obtain ⟨P, hP⟩ : ∃ P, G * S = P := ⟨_, rfl⟩
 rw [hP]
 have hS0 : 0 ≤ S := by rw [hS]; exact sumF_nn hnn 0 n
 have hP0 : 0 ≤ P := by rw [← hP]; exact Rat.mul_nonneg hG0 hS0
 -- the columns behind k
 have c1 : Ab (sumF (fun j => rv (Bk n A k i j) * X j - rv (op .quo (Bk n A k i k) (Bk n A k k k)) * (rv (Bk n A k k j) * X j) - rv (st n A (k + 1) i j) * X j) (k + 1) (n - (k + 1))) ((4 * (1 / 4503599627370496) * G + 3 * en) * sumF aX (k + 1) (n - (k + 1))) := by
  refine sumF_ab (fun t ht => ?_)
  have hj : k + 1 + t < n := by omega
  obtain ⟨_, _, r3, _⟩ := hle (k + 1 + t) (by omega) (by omega)
  rw [hA' (k + 1 + t) (by omega)]
  have g2 := hgG (k + 1 + t) hj
  have r4 := (r3.mono (b := 4 * (1 / 4503599627370496) * G + 3 * en) (by grind)).mul (haX (k + 1 + t))
  have e : ∀ (a p b c x : Rat), a * x - p * (b * x) - c * x = (a - p * b - c) * x := fun a p b c x => by grind
  rw [e]
  exact r4
 rw [sumF_comb] at c1
 -- the right sides
 obtain ⟨_, _, _, r4⟩ := hle n (Nat.le_refl _) hk
 have sB : Ab (sumF (fun j => rv (Bk n A k k j) * X j) k (n - k)) P := by
  refine (sumF_ab (c := G) (g := aX) (fun t ht => (hBG k hk (k + t) (by omega)).mul (haX _))).mono ?_
  rw [← hP, hS]
  exact Rat.mul_le_mul_of_nonneg_left (sumF_le hnn (by omega)) hG0
 have sA : Ab (sumF (fun j => rv (st n A (k + 1) i j) * X j) (k + 1) (n - (k + 1))) P := by
  refine (sumF_ab (c := G) (g := aX) (fun t ht => ?_)).mono ?_
  ·
   have hj : k + 1 + t < n := by omega
   exact (hSG i hi (k + 1 + t) hj).mul (haX _)
  ·
   rw [← hP, hS]
   exact Rat.mul_le_mul_of_nonneg_left (sumF_le hnn (by omega)) hG0
 have bB : Ab (rv (Bk n A k k n)) (P + d) := by
  have := sB.sub h1
  unfold rs0 at this
  rw [show sumF (fun j => rv (Bk n A k k j) * X j) k (n - k) - (sumF (fun j => rv (Bk n A k k j) * X j) k (n - k) - rv (Bk n A k k n)) = rv (Bk n A k k n) by grind] at this
  exact this
 have bA : Ab (rv (less (Bk n A k) k i n)) (P + D) := by
  have := sA.sub h2
  unfold rs0 at this
  rw [hA' n hk] at this
  rw [show ∀ a b : Rat, a - (a - b) = b by intro a b; grind] at this
  exact this
 have r5 := r4 _ _ bB bA
 -- the column k
 have ck : Ab ((rv (Bk n A k i k) - rv (op .quo (Bk n A k i k) (Bk n A k k k)) * rv (Bk n A k k k)) * X k) ((4 * (1 / 4503599627370496) * G + 3 * en) * aX k) := by
  refine Ab.mul ?_ (haX k)
  have hGe : en * G ≤ 1 / 1152921504606846976 * G := Rat.mul_le_mul_of_nonneg_right hel hG0
  rw [show 2 * en * G = 2 * (en * G) by grind] at hq
  generalize rv (op .quo (Bk n A k i k) (Bk n A k k k)) * rv (Bk n A k k k) = z at *
  generalize en * G = GE at *
  unfold Ab at hq ⊢
  constructor <;> grind
 have hsum : aX k + sumF aX (k + 1) (n - (k + 1)) ≤ S := by
  have e1 := sumF_front aX k (n - (k + 1))
  have e2 := sumF_le hnn (k := k) (T := n - (k + 1) + 1) (n := n) (by omega)
  rw [hS]
  grind
 have hc0 : 0 ≤ 4 * (1 / 4503599627370496) * G + 3 * en := by grind
 have tot := Rat.mul_le_mul_of_nonneg_left hsum hc0
 have tot2 : (4 * (1 / 4503599627370496) * G + 3 * en) * S ≤ 5 * (1 / 4503599627370496) * P := by
  have k1 : 4 * (1 / 4503599627370496) * G + 3 * en ≤ 5 * (1 / 4503599627370496) * G := by grind
  have k2 := Rat.mul_le_mul_of_nonneg_right k1 hS0
  rw [← hP]
  grind
 have tot3 : (4 * (1 / 4503599627370496) * G + 3 * en) * sumF aX (k + 1) (n - (k + 1)) + (4 * (1 / 4503599627370496) * G + 3 * en) * aX k ≤ 5 * (1 / 4503599627370496) * P := by
  have e5 : ∀ c a b : Rat, c * (a + b) = c * b + c * a := fun c a b => by grind
  rw [e5] at tot
  exact Rat.le_trans tot tot2
 have fd := q5.mul h1
 -- all together
 have front : ∀ B : M, sumF (fun j => rv (B i j) * X j) k (n - k) = rv (B i k) * X k + sumF (fun j => rv (B i j) * X j) (k + 1) (n - (k + 1)) := fun B => by
  rw [show n - k = n - (k + 1) + 1 by omega, sumF_front]
 have frontk : sumF (fun j => rv (Bk n A k k j) * X j) k (n - k) = rv (Bk n A k k k) * X k + sumF (fun j => rv (Bk n A k k j) * X j) (k + 1) (n - (k + 1)) := by
  rw [show n - k = n - (k + 1) + 1 by omega, sumF_front]
 rw [← hA' n hk] at r5
 unfold rs0 at h2 fd ⊢
 rw [front]
 rw [frontk] at fd
 generalize rv (op .quo (Bk n A k i k) (Bk n A k k k)) = p at *
 generalize sumF (fun j => rv (Bk n A k i j) * X j) (k + 1) (n - (k + 1)) = s1 at *
 generalize sumF (fun j => rv (Bk n A k k j) * X j) (k + 1) (n - (k + 1)) = s2 at *
 generalize sumF (fun j => rv (st n A (k + 1) i j) * X j) (k + 1) (n - (k + 1)) = s3 at *
 generalize rv (Bk n A k i k) = b1 at *
 generalize rv (Bk n A k k k) = b2 at *
 generalize rv (Bk n A k i n) = b3 at *
 generalize rv (Bk n A k k n) = b4 at *
 generalize rv (st n A (k + 1) i n) = b5 at *
 have key := (((fd.add h2).add c1).add ck).sub r5
 rw [show p * (b2 * X k + s2 - b4) + (s3 - b5) + (s1 - p * s2 - s3) + (b1 - p * b2) * X k - (b3 - p * b4 - b5) = b1 * X k + s1 - b3 by grind] at key
 refine key.mono ?_
 have hd0 := h1.nn
 have hD0 := h2.nn
 generalize (4 * (1 / 4503599627370496) * G + 3 * en) * sumF aX (k + 1) (n - (k + 1)) = z1 at *
 generalize (4 * (1 / 4503599627370496) * G + 3 * en) * aX k = z2 at *
 grind
/-- one step -/
theorem step_res {n : Nat} {A : M} {mm : Nat → Rat} {k i : Nat} {X aX : Nat → Rat} {G S d D : Rat} (hn : n ≤ 8) (hk : k < n) (hki : k < i) (hi : i < n)
  (hG1 : en * 1152921504606846976 ≤ G) (hG2 : G ≤ 562949953421312) (hmm : ∀ j, j ≤ n → en * 1152921504606846976 ≤ mm j ∧ mm j ≤ 1099511627776) (hmG : ∀ j, j < n → 257 * mm j ≤ G)
  (hM : Mb n (st n A k) mm k) (hb : bad (piv n A k) = false) (haX : ∀ j, Ab (X j) (aX j)) (hS : S = sumF aX 0 n)
  (h1 : Ab (rs0 (Bk n A k) X n k k) d) (h2 : Ab (rs0 (st n A (k + 1)) X n i (k + 1)) D) :
  Ab (rs0 (Bk n A k) X n i k) (d + D + (8 * (1 / 4503599627370496) * (G * S) + 1 / 4503599627370496 * d + 2 * (1 / 4503599627370496) * D + 3 * en)) := by
 have he := en_pos
 have hB : Mb n (Bk n A k) mm k := hM.swap (t := 0) hk (tk_lt A hk)
 have hM1 := Mb.step hk hn hmm hM hb
 refine step_resG hn hk hki hi hG1 hG2 hmm (fun r hr j hj => ?_) (fun r hr j hj => ?_) (fun j hj => ?_) hM hb haX hS h1 h2
 ·
  have hm := hmm j (by omega)
  exact (hB r hr j (by omega)).2.mono (Rat.le_trans (gr_8 (by grind) (by omega)) (hmG j hj))
 ·
  have hm := hmm j (by omega)
  exact (hM1 r hr j (by omega)).2.mono (Rat.le_trans (gr_8 (by grind) (by omega)) (hmG j hj))
 ·
  have hm := hmm j (by omega)
  exact Rat.le_trans (gr_8 (by grind) (by omega)) (hmG j hj)
end Go.Proofs.Ytjfkdmddfeeheaa.Sv
/-
 OWN TEXT: quotients that are numbers; the determinant of up to 3 rows of numbers up to 8 against the pivots' product.
-/
set_option linter.unusedVariables false
set_option exponentiation.threshold 3000
namespace Go.Proofs.Ytjfkdmddfeeheaa.Sv
theorem rv_rg (x : Nat) : rv (Fl.rg x) = ab (rv x) := by
 unfold rv Fl.val
 rw [Fl.rg_rg, Fl.sg_rg]
 have he := Rat.mul_nonneg (Rat.natCast_nonneg (a := Fl.vl (Fl.rg x))) (Rat.le_of_lt en_pos)
 generalize Fl.vl (Fl.rg x) = V at *
 simp only [Bool.false_eq_true, if_false]
 rw [Rat.intCast_natCast]
 unfold ab
 cases Fl.sg x
 ·
  simp only [Bool.false_eq_true, if_false]
  rw [Rat.intCast_natCast, if_pos he]
 ·
  simp only [if_true]
  rw [Rat.intCast_neg, Rat.intCast_natCast]
  have e : -(V : Rat) * en = -((V : Rat) * en) := by grind
  rw [e]
  generalize (V : Rat) * en = y at *
  split <;> grind
theorem rv_nat {r : Nat} (h : r < 9223372036854775808) : rv r = (Fl.vl r : Rat) * en := by
 have e : Fl.rg r = r := Nat.mod_eq_of_lt h
 have k := Fl.sg_rg r
 unfold rv Fl.val
 rw [e] at k
 rw [e, k]
 simp only [Bool.false_eq_true, if_false]
 rw [Rat.intCast_natCast]
theorem rv_zero {x : Nat} (h : Fl.rg x = 0) : rv x = 0 := by
 unfold rv Fl.val
 rw [h, show Fl.vl 0 = 0 by decide]
 split <;> simp
theorem quo_lin (Y P E : Nat) : Y * (2361183241434822606848 * P * E) = 2 * (1180591620717411303424 * Y * P * E) := by grind
/-- a quotient is a number -/
theorem quo_fi {a b : Nat} (ha : Fi a) (hb : Fi b) (h0 : ¬ Fl.rg b = 0) (h : ab (rv a) ≤ 1180591620717411303424 * ab (rv b)) : Fi (op .quo a b) := by
 obtain ⟨c, hc⟩ : ∃ c, c = 1074 := ⟨_, rfl⟩
 obtain ⟨Q, e, S, h1, h2, h3, h4⟩ := Fl.div_form c hc ha.2 hb.2 h0
 have hY : 0 < Fl.vl (Fl.rg b) := by have := Fl.vl_pos h0; omega
 have hv : Fl.vl (Fl.rg a) ≤ 1180591620717411303424 * Fl.vl (Fl.rg b) := by
  rw [← rv_rg, ← rv_rg, rv_nat (by have := ha.2; omega), rv_nat (by have := hb.2; omega)] at h
  have k := Rat.mul_le_mul_of_nonneg_right h (Rat.natCast_nonneg (a := 2 ^ 1074))
  have hu := en_unit
  generalize ((2 ^ 1074 : Nat) : Rat) = W at *
  rw [show (Fl.vl (Fl.rg a) : Rat) * en * W = (Fl.vl (Fl.rg a) : Rat) * (W * en) by grind, hu, show 1180591620717411303424 * ((Fl.vl (Fl.rg b) : Rat) * en) * W = 1180591620717411303424 * (Fl.vl (Fl.rg b) : Rat) * (W * en) by grind, hu] at k
  have k2 : ((Fl.vl (Fl.rg a) : Nat) : Rat) ≤ ((1180591620717411303424 * Fl.vl (Fl.rg b) : Nat) : Rat) := by
   rw [Rat.natCast_mul]
   have c : ((1180591620717411303424 : Nat) : Rat) = 1180591620717411303424 := rfl
   rw [c]
   grind
  exact Rat.natCast_le_natCast.1 k2
 have hQ : Q ≤ 2361183241434822606848 * 2 ^ c * 2 ^ e := by
  clear h hc
  generalize Fl.vl (Fl.rg b) = Y at *
  generalize Fl.vl (Fl.rg a) = X at *
  have hYS : 9007199254740992 * (Y * S) ≤ Y * Q := by rw [Nat.mul_left_comm]; exact Nat.mul_le_mul_left Y h4
  refine Nat.le_of_mul_le_mul_left (c := Y) ?_ hY
  have k1 : X * 2 ^ c * 2 ^ e ≤ 1180591620717411303424 * Y * 2 ^ c * 2 ^ e := Nat.mul_le_mul_right _ (Nat.mul_le_mul_right _ hv)
  rw [quo_lin]
  generalize 1180591620717411303424 * Y * 2 ^ c * 2 ^ e = u at *
  generalize X * 2 ^ c * 2 ^ e = v at *
  generalize Y * Q = s at *
  generalize Y * S = t at *
  omega
 have hr : Fl.rq Q e < 9218868437227405312 := by
  refine rq_fin Q e (Nat.le_trans hQ (Nat.mul_le_mul_right _ ?_))
  rw [hc]
  decide +kernel
 unfold op
 show Fi (match Ieee.double.div a b with | some z => Fl.bitsF z | none => 9221120237041090560)
 rw [h1]
 show Fi (Fl.bitsF _)
 rw [c_wd _ _ (Nat.le_of_lt hr)]
 exact (fi_wd (Nat.le_of_lt hr)).2 hr
theorem quo_ab {a b : Nat} {B L : Rat} {Q : Rat} (ha : Fi a) (hb : Fi b) (hB : Ab (rv a) B) (hb33 : Ab (rv b) 64) (hL0 : 1 / 1048576 ≤ L) (hL : L ≤ ab (rv b)) (hQ1 : 1 ≤ Q) (hQ : B ≤ Q * L) (hQ2 : Q ≤ 1180591620717411303424) :
  Fi (op .quo a b) ∧ Ab (rv (op .quo a b)) (2 * Q) := by
 have he := en_pos
 have hel := en_le
 have h0 : ¬ Fl.rg b = 0 := by
  intro z
  rw [rv_zero z] at hL
  have : ab 0 = 0 := by unfold ab; split <;> grind
  rw [this] at hL
  grind
 have hab : ab (rv a) ≤ B := ab_le hB
 have hLn : 0 ≤ ab (rv b) := ab_nn _
 have f := quo_fi ha hb h0 (by
  have k1 := Rat.mul_le_mul_of_nonneg_left hL (show 0 ≤ Q by grind)
  have k2 := Rat.mul_le_mul_of_nonneg_right hQ2 hLn
  exact Rat.le_trans hab (Rat.le_trans hQ (Rat.le_trans k1 k2)))
 refine ⟨f, ?_⟩
 have hq := quo_err ha hb h0 f hB hb33
 -- |q| |b| ≤ 2 Q L
 have hqb : Ab (rv (op .quo a b) * rv b) (B + (1 / 2251799813685248 * B + 2 * en * 64)) := by
  have := hB.add hq
  rw [show rv a + (rv (op .quo a b) * rv b - rv a) = rv (op .quo a b) * rv b by grind] at this
  exact this
 generalize rv (op .quo a b) = q at *
 generalize rv b = y at *
 have e1 : ab q * ab y ≤ B + (1 / 2251799813685248 * B + 2 * en * 64) := by
  have k := ab_le hqb
  have : ab (q * y) = ab q * ab y := by
   unfold ab
   by_cases c1 : 0 ≤ q <;> by_cases c2 : 0 ≤ y
   · rw [if_pos c1, if_pos c2, if_pos (Rat.mul_nonneg c1 c2)]
   ·
    rw [if_pos c1, if_neg c2]
    have := Rat.mul_nonneg c1 (show 0 ≤ -y by grind)
    split <;> grind
   ·
    rw [if_neg c1, if_pos c2]
    have := Rat.mul_nonneg (show 0 ≤ -q by grind) c2
    split <;> grind
   ·
    rw [if_neg c1, if_neg c2]
    have := Rat.mul_nonneg (show 0 ≤ -q by grind) (show 0 ≤ -y by grind)
    split <;> grind
  rw [this] at k
  exact k
 have hq0 := ab_nn q
 refine (ab_ab q).mono ?_
 rcases Classical.em (ab q ≤ 2 * Q) with c | c
 · exact c
 ·
  exfalso
  have c' : 2 * Q ≤ ab q := by grind
  have k1 := Rat.mul_le_mul_of_nonneg_right c' hLn
  have k2 := Rat.mul_le_mul_of_nonneg_left hL (show 0 ≤ 2 * Q by grind)
  have k3 : 1 / 1048576 ≤ Q * L := by
   have := Rat.mul_le_mul_of_nonneg_right hQ1 (show 0 ≤ L by grind)
   grind
  have c3 : 0 < ab q - 2 * Q := by grind
  have k4 : 0 < (ab q - 2 * Q) * ab y := Rat.mul_pos c3 (by grind)
  generalize ab q * ab y = t at *
  rw [show (ab q - 2 * Q) * ab y = ab q * ab y - 2 * Q * ab y by grind] at k4
  have hBn := hB.nn
  rw [show 2 * Q * L = 2 * (Q * L) by grind] at k2
  generalize Q * L = u at *
  grind
/-- where the pivot is bad, the column is nought -/
theorem col0 {n : Nat} {A : M} {mm : Nat → Rat} {k : Nat} (hk : k < n) (h : Mb n (st n A k) mm k) (hb : bad (piv n A k) = true) : ∀ i, k ≤ i → i < n → rv (Bk n A k i k) = 0 := by
 intro i hi hi2
 have hm : ∀ t, t < n - k → Fl.rg (st n A k (k + t) k) ≤ Fl.rg (st n A k (tk n A k) k) :=
  best_max (fun t ht => by
   have := (h (k + t) (by omega) k (by omega)).1.2
   exact decide_eq_false (by omega))
 have hf := (h (tk n A k) (tk_lt A hk) k (by omega)).1
 have hz : Fl.rg (piv n A k) = 0 := by
  unfold bad at hb
  rw [Bool.or_eq_true] at hb
  rcases hb with q | q
  · exact of_decide_eq_true q
  ·
   have := hf.fin
   rw [Bool.not_eq_true'] at q
   exact absurd (this.symm.trans q) (by decide)
 refine rv_zero ?_
 unfold Bk
 rw [swap_sw]
 have hs1 : sw k (tk n A k) i < n := sw_lt hk (tk_lt A hk) hi2
 have hs2 : k ≤ sw k (tk n A k) i := sw_ge (tk_ge n k A) hi
 have := hm (sw k (tk n A k) i - k) (by omega)
 rw [show k + (sw k (tk n A k) i - k) = sw k (tk n A k) i by omega] at this
 have e : Fl.rg (st n A k (tk n A k) k) = 0 := hz
 omega
/-- one step, of numbers up to 8 -/
theorem gr0 : gr 8 0 = 8 := rfl
theorem gr1 : gr 8 1 ≤ 17 := by
 show (8 : Rat) * (2 + 1 / 562949953421312) ≤ 17
 grind
theorem gr2 : gr 8 2 ≤ 33 := by
 show (8 : Rat) * (2 + 1 / 562949953421312) * (2 + 1 / 562949953421312) ≤ 33
 grind
theorem m8 (n : Nat) : ∀ j, j ≤ n → en * 1152921504606846976 ≤ (fun _ : Nat => (8 : Rat)) j ∧ (fun _ : Nat => (8 : Rat)) j ≤ 1099511627776 := fun j _ => by
 have := en_le
 constructor
 · show en * 1152921504606846976 ≤ 8; grind
 · show (8 : Rat) ≤ 1099511627776; grind
theorem stage {n : Nat} {A : M} {k i j : Nat} {g : Rat} (hk : k < n) (hM : Mb n (st n A k) (fun _ => 8) k) (hb : bad (piv n A k) = false) (hi : k < i) (hi2 : i < n) (hj : k < j) (hj2 : j ≤ n) (hg1 : gr 8 k ≤ g) (hg8 : 8 ≤ g) (hg2 : g ≤ 64) :
  Ab (rv (op .quo (Bk n A k i k) (Bk n A k k k))) 1 ∧ Ab (rv (Bk n A k i j) - rv (op .quo (Bk n A k i k) (Bk n A k k k)) * rv (Bk n A k k j) - rv (st n A (k + 1) i j)) (5 * (1 / 4503599627370496) * g) ∧
  Ab (rv (op .quo (Bk n A k i k) (Bk n A k k k)) * rv (Bk n A k k k) - rv (Bk n A k i k)) (3 * (1 / 4503599627370496) * g) := by
 have he := en_pos
 have hel := en_le
 have hB : Mb n (Bk n A k) (fun _ => 8) k := hM.swap (t := 0) hk (tk_lt A hk)
 obtain ⟨q1, q2, q3, q4, q5⟩ := quo_Bk hk hM hb hi hi2
 have b1 := (hB i hi2 j hj2)
 have b2 := (hB k hk j hj2)
 obtain ⟨_, _, r3, _⟩ := less_err (g := g) (B := Bk n A k) (k := k) (i := i) (j := j) (by grind) (by grind) b1.1 (b1.2.mono hg1) b2.1 (b2.2.mono hg1) q4 q5
 have e : st n A (k + 1) i j = less (Bk n A k) k i j := by rw [st_succ]; unfold elim; rw [if_pos ⟨hi, hj⟩]
 have hq := quo_err q1 q2 q3 q4 ((hB i hi2 k (by omega)).2.mono hg1) ((hB k hk k (by omega)).2.mono hg1)
 rw [e]
 refine ⟨q5, r3.mono (by grind), hq.mono ?_⟩
 have hgg : en * g ≤ 1 / 1152921504606846976 * g := Rat.mul_le_mul_of_nonneg_right hel (by grind)
 rw [show 2 * en * g = 2 * (en * g) by grind]
 generalize en * g = GE at *
 grind
def rM (A : M) : Nat → Nat → Rat := fun i j => rv (A i j)
def D2 (X : Nat → Nat → Rat) (k : Nat) : Rat := X k k * X (k + 1) (k + 1) - X k (k + 1) * X (k + 1) k
def D3 (X : Nat → Nat → Rat) : Rat := X 0 0 * (X 1 1 * X 2 2 - X 1 2 * X 2 1) - X 0 1 * (X 1 0 * X 2 2 - X 1 2 * X 2 0) + X 0 2 * (X 1 0 * X 2 1 - X 1 1 * X 2 0)
/-- the determinant of 1 to 3 rows -/
def DN (n : Nat) (X : Nat → Nat → Rat) : Rat := if n = 1 then X 0 0 else if n = 2 then D2 X 0 else D3 X
theorem two_step {x11 x12 x21 x22 f u E C : Rat} (h1 : Ab x11 17) (h2 : Ab x12 17) (h3 : Ab (x22 - f * x12 - u) E) (h4 : Ab (f * x11 - x21) C) : Ab (x11 * x22 - x12 * x21 - x11 * u) (17 * E + 17 * C) := by
 have k := (h1.mul h3).add (h2.mul h4)
 rw [show x11 * (x22 - f * x12 - u) + x12 * (f * x11 - x21) = x11 * x22 - x12 * x21 - x11 * u by grind] at k
 exact k
theorem three_step {a00 a01 a02 a10 a11 a12 a20 a21 a22 m11 m12 m21 m22 f1 f2 E C : Rat} (h0 : Ab a00 8) (h1 : Ab a01 8) (h2 : Ab a02 8) (k11 : Ab m11 17) (k12 : Ab m12 17) (k21 : Ab m21 17) (k22 : Ab m22 17)
  (e11 : Ab (a11 - f1 * a01 - m11) E) (e12 : Ab (a12 - f1 * a02 - m12) E) (e21 : Ab (a21 - f2 * a01 - m21) E) (e22 : Ab (a22 - f2 * a02 - m22) E) (c1 : Ab (f1 * a00 - a10) C) (c2 : Ab (f2 * a00 - a20) C) (hE : E ≤ 1) :
  Ab (a00 * (a11 * a22 - a12 * a21) - a01 * (a10 * a22 - a12 * a20) + a02 * (a10 * a21 - a11 * a20) - a00 * (m11 * m22 - m12 * m21)) (8 * (70 * E) + 16 * (36 * C)) := by
 have hE0 := e11.nn
 have hC0 := c1.nn
 obtain ⟨x11, hx11⟩ : ∃ x, a11 - f1 * a01 - m11 = x := ⟨_, rfl⟩
 obtain ⟨x12, hx12⟩ : ∃ x, a12 - f1 * a02 - m12 = x := ⟨_, rfl⟩
 obtain ⟨x21, hx21⟩ : ∃ x, a21 - f2 * a01 - m21 = x := ⟨_, rfl⟩
 obtain ⟨x22, hx22⟩ : ∃ x, a22 - f2 * a02 - m22 = x := ⟨_, rfl⟩
 obtain ⟨y1, hy1⟩ : ∃ x, f1 * a00 - a10 = x := ⟨_, rfl⟩
 obtain ⟨y2, hy2⟩ : ∃ x, f2 * a00 - a20 = x := ⟨_, rfl⟩
 rw [hx11] at e11
 rw [hx12] at e12
 rw [hx21] at e21
 rw [hx22] at e22
 rw [hy1] at c1
 rw [hy2] at c2
 obtain rfl : a11 = m11 + x11 + f1 * a01 := by grind
 obtain rfl : a12 = m12 + x12 + f1 * a02 := by grind
 obtain rfl : a21 = m21 + x21 + f2 * a01 := by grind
 obtain rfl : a22 = m22 + x22 + f2 * a02 := by grind
 obtain rfl : a10 = f1 * a00 - y1 := by grind
 obtain rfl : a20 = f2 * a00 - y2 := by grind
 have t1 := ((k11.mul e22).add (e11.mul k22)).add (e11.mul e22)
 have t2 := ((k12.mul e21).add (e12.mul k21)).add (e12.mul e21)
 have t := h0.mul (t1.sub t2)
 have s1 := (c1.mul (k22.add e22)).sub (c2.mul (k12.add e12))
 have s2 := (c1.mul (k21.add e21)).sub (c2.mul (k11.add e11))
 have tot := (t.add (h1.mul s1)).sub (h2.mul s2)
 have hEE : E * E ≤ E := by
  have := Rat.mul_le_mul_of_nonneg_left hE hE0
  grind
 have hCE : C * E ≤ C := by
  have := Rat.mul_le_mul_of_nonneg_left hE hC0
  grind
 refine Ab.mono (x := _) (a := 8 * (17 * E + E * 17 + E * E + (17 * E + E * 17 + E * E)) + 8 * (C * (17 + E) + C * (17 + E)) + 8 * (C * (17 + E) + C * (17 + E))) ?_ ?_
 ·
  refine Eq.subst (motive := fun z => Ab z _) ?_ tot
  grind
 ·
  generalize E * E = EE at *
  rw [show C * (17 + E) = 17 * C + C * E by grind]
  generalize C * E = CE at *
  grind
end Go.Proofs.Ytjfkdmddfeeheaa.Sv
/-
 OWN TEXT: what Det tells of up to 3 rows of numbers up to 8 is near the determinant; where that is not nought no pivot is bad.
-/
set_option linter.unusedVariables false
set_option exponentiation.threshold 3000
namespace Go.Proofs.Ytjfkdmddfeeheaa.Sv
theorem D3_swap (A : M) (t : Nat) (ht : t < 3) : D3 (rM (swap A 0 t)) = (if t = 0 then 1 else -1) * D3 (rM A) := by
 have h : t = 0 ∨ t = 1 ∨ t = 2 := by omega
 rcases h with rfl | rfl | rfl <;> (unfold D3 rM swap; simp <;> grind)
theorem D2_swap1 (A : M) (t : Nat) (h1 : 1 ≤ t) (ht : t < 3) : D2 (rM (swap A 1 t)) 1 = (if t = 1 then 1 else -1) * D2 (rM A) 1 := by
 have h : t = 1 ∨ t = 2 := by omega
 rcases h with rfl | rfl <;> (unfold D2 rM swap; simp <;> grind)
theorem D2_swap0 (A : M) (t : Nat) (ht : t < 2) : D2 (rM (swap A 0 t)) 0 = (if t = 0 then 1 else -1) * D2 (rM A) 0 := by
 have h : t = 0 ∨ t = 1 := by omega
 rcases h with rfl | rfl <;> (unfold D2 rM swap; simp <;> grind)
def sgn (n : Nat) (A : M) (k : Nat) : Rat := if tk n A k = k then 1 else -1
theorem sgnR (n : Nat) (A : M) (k : Nat) {x b : Rat} (h : Ab x b) : Ab (sgn n A k * x) b := by
 unfold sgn
 split
 · rw [Rat.one_mul]; exact h
 · unfold Ab at *; constructor <;> grind
theorem sgn_sq (n : Nat) (A : M) (k : Nat) : sgn n A k * sgn n A k = 1 := by
 unfold sgn; split <;> grind
theorem sgn_last (n : Nat) (A : M) (k : Nat) (h : k + 1 = n) : sgn n A k = 1 := by
 unfold sgn
 rw [if_pos]
 have := tk_lt A (k := k) (n := n) (by omega)
 have := tk_ge n k A
 omega
/-- the pivots' product, with the signs of the row changes -/
def sgP (n : Nat) (A : M) : Nat → Rat
 | 0 => 1
 | k + 1 => sgP n A k * rv (piv n A k) * sgn n A k
/-- three rows -/
theorem det3 {A : M} (hM : Mb 3 A (fun _ => 8) 0) : (bad (piv 3 A 0) = true → D3 (rM A) = 0) ∧
  (bad (piv 3 A 0) = false → bad (piv 3 A 1) = true → Ab (D3 (rM A)) (1 / 68719476736)) ∧
  (bad (piv 3 A 0) = false → bad (piv 3 A 1) = false → Ab (D3 (rM A) - sgP 3 A 3) (1 / 68719476736)) := by
 have ht0 := tk_lt A (k := 0) (n := 3) (by decide)
 have e0 : D3 (rM A) = sgn 3 A 0 * D3 (rM (Bk 3 A 0)) := by
  have k : D3 (rM (Bk 3 A 0)) = sgn 3 A 0 * D3 (rM A) := D3_swap A (tk 3 A 0) ht0
  rw [k, ← Rat.mul_assoc, sgn_sq, Rat.one_mul]
 refine ⟨fun hb => ?_, ?_⟩
 ·
  have z := col0 (A := A) (k := 0) (n := 3) (by decide) hM hb
  have z0 := z 0 (by decide) (by decide)
  have z1 := z 1 (by decide) (by decide)
  have z2 := z 2 (by decide) (by decide)
  rw [e0]
  unfold D3 rM
  rw [z0, z1, z2]
  grind
 have hB0 : Mb 3 (Bk 3 A 0) (fun _ => 8) 0 := hM.swap (t := 0) (by decide) ht0
 have hab : ∀ i j, i < 3 → j ≤ 3 → Ab (rM (Bk 3 A 0) i j) 8 := fun i j hi hj => (hB0 i hi j hj).2
 have K0 : bad (piv 3 A 0) = false → Mb 3 (st 3 A 1) (fun _ => 8) 1 ∧ Ab (D3 (rM (Bk 3 A 0)) - rv (piv 3 A 0) * D2 (rM (st 3 A 1)) 1) (36224 * (1 / 4503599627370496)) := by
  intro hb
  have hM1 : Mb 3 (st 3 A 1) (fun _ => 8) 1 := Mb.step (k := 0) (by decide) (by decide) (m8 3) hM hb
  refine ⟨hM1, ?_⟩
  have S := fun i j hi hi2 hj hj2 => stage (n := 3) (A := A) (k := 0) (i := i) (j := j) (g := 8) (by decide) hM hb hi hi2 hj hj2 (by rw [gr0]; exact Rat.le_refl) Rat.le_refl (by grind)
  have m := fun i j hi hj => ((hM1 i hi j hj).2.mono gr1)
  have r := three_step (hab 0 0 (by decide) (by decide)) (hab 0 1 (by decide) (by decide)) (hab 0 2 (by decide) (by decide)) (m 1 1 (by decide) (by decide)) (m 1 2 (by decide) (by decide)) (m 2 1 (by decide) (by decide)) (m 2 2 (by decide) (by decide))
   (S 1 1 (by decide) (by decide) (by decide) (by decide)).2.1 (S 1 2 (by decide) (by decide) (by decide) (by decide)).2.1 (S 2 1 (by decide) (by decide) (by decide) (by decide)).2.1 (S 2 2 (by decide) (by decide) (by decide) (by decide)).2.1
   (S 1 1 (by decide) (by decide) (by decide) (by decide)).2.2 (S 2 1 (by decide) (by decide) (by decide) (by decide)).2.2 (by grind)
  have ep : rM (Bk 3 A 0) 0 0 = rv (piv 3 A 0) := by show rv (Bk 3 A 0 0 0) = _; rw [piv_Bk]
  rw [ep] at r
  unfold D3 D2
  rw [ep]
  refine r.mono ?_
  grind
 refine ⟨fun hb hb1 => ?_, fun hb hb1 => ?_⟩
 ·
  obtain ⟨hM1, k⟩ := K0 hb
  have z := col0 (A := A) (k := 1) (n := 3) (by decide) hM1 hb1
  have z1 := z 1 (by decide) (by decide)
  have z2 := z 2 (by decide) (by decide)
  have ht1 := tk_lt A (k := 1) (n := 3) (by decide)
  have hx : D2 (rM (Bk 3 A 1)) 1 = 0 := by unfold D2 rM; rw [z1, z2]; grind
  have h1 : D2 (rM (Bk 3 A 1)) 1 = (if tk 3 A 1 = 1 then 1 else -1) * D2 (rM (st 3 A 1)) 1 := D2_swap1 (st 3 A 1) (tk 3 A 1) (tk_ge 3 1 A) ht1
  have h2 : D2 (rM (st 3 A 1)) 1 = 0 := by
   rw [hx] at h1
   split at h1 <;> grind
  rw [h2] at k
  rw [e0]
  refine (sgnR 3 A 0 (x := D3 (rM (Bk 3 A 0))) (b := 36224 * (1 / 4503599627370496)) ?_).mono (by grind)
  refine Eq.subst (motive := fun z => Ab z _) ?_ k
  grind
 ·
  obtain ⟨hM1, k⟩ := K0 hb
  have ht1 := tk_lt A (k := 1) (n := 3) (by decide)
  have hB1 : Mb 3 (Bk 3 A 1) (fun _ => 8) 1 := hM1.swap (t := 0) (by decide) ht1
  obtain ⟨_, s1, s2⟩ := stage (n := 3) (A := A) (k := 1) (i := 2) (j := 2) (g := 17) (by decide) hM1 hb1 (by decide) (by decide) (by decide) (by decide) gr1 (by grind) (by grind)
  have r := two_step ((hB1 1 (by decide) 1 (by decide)).2.mono gr1) ((hB1 1 (by decide) 2 (by decide)).2.mono gr1) s1 s2
  have ep : rv (Bk 3 A 1 1 1) = rv (piv 3 A 1) := by rw [piv_Bk]
  have eu : rv (st 3 A 2 2 2) = rv (piv 3 A 2) := by
   have ht2 : tk 3 A 2 = 2 := by
    have := tk_lt A (k := 2) (n := 3) (by decide)
    have := tk_ge 3 2 A
    omega
   show _ = rv (st 3 A 2 (tk 3 A 2) 2)
   rw [ht2]
  have h1 : D2 (rM (st 3 A 1)) 1 = sgn 3 A 1 * D2 (rM (Bk 3 A 1)) 1 := by
   have k : D2 (rM (Bk 3 A 1)) 1 = sgn 3 A 1 * D2 (rM (st 3 A 1)) 1 := D2_swap1 (st 3 A 1) (tk 3 A 1) (tk_ge 3 1 A) ht1
   rw [k, ← Rat.mul_assoc, sgn_sq, Rat.one_mul]
  have ed : rv (Bk 3 A 1 1 1) * rv (Bk 3 A 1 2 2) - rv (Bk 3 A 1 1 2) * rv (Bk 3 A 1 2 1) = D2 (rM (Bk 3 A 1)) 1 := rfl
  rw [ed, eu, ep] at r
  have hp0 : Ab (rv (piv 3 A 0)) 8 := by
   have := hab 0 0 (by decide) (by decide)
   rw [show rM (Bk 3 A 0) 0 0 = rv (piv 3 A 0) by show rv (Bk 3 A 0 0 0) = _; rw [piv_Bk]] at this
   exact this
  have g1 := sgnR 3 A 0 k
  have g2 := sgnR 3 A 0 (hp0.mul (sgnR 3 A 1 r))
  have tot := g1.add g2
  have es : sgP 3 A 3 = rv (piv 3 A 0) * sgn 3 A 0 * rv (piv 3 A 1) * sgn 3 A 1 * rv (piv 3 A 2) := by
   show 1 * rv (piv 3 A 0) * sgn 3 A 0 * rv (piv 3 A 1) * sgn 3 A 1 * rv (piv 3 A 2) * sgn 3 A 2 = _
   rw [sgn_last 3 A 2 rfl]
   grind
  rw [es, e0]
  rw [h1] at tot
  refine Ab.mono (a := 36224 * (1 / 4503599627370496) + 8 * (17 * (5 * (1 / 4503599627370496) * 17) + 17 * (3 * (1 / 4503599627370496) * 17))) ?_ (by grind)
  refine Eq.subst (motive := fun z => Ab z _) ?_ tot
  grind
/-- two rows -/
theorem det2 {A : M} (hM : Mb 2 A (fun _ => 8) 0) : (bad (piv 2 A 0) = true → D2 (rM A) 0 = 0) ∧ (bad (piv 2 A 0) = false → Ab (D2 (rM A) 0 - sgP 2 A 2) (1 / 68719476736)) := by
 have ht0 := tk_lt A (k := 0) (n := 2) (by decide)
 have e0 : D2 (rM A) 0 = sgn 2 A 0 * D2 (rM (Bk 2 A 0)) 0 := by
  have k : D2 (rM (Bk 2 A 0)) 0 = sgn 2 A 0 * D2 (rM A) 0 := D2_swap0 A (tk 2 A 0) ht0
  rw [k, ← Rat.mul_assoc, sgn_sq, Rat.one_mul]
 refine ⟨fun hb => ?_, fun hb => ?_⟩
 ·
  have z := col0 (A := A) (k := 0) (n := 2) (by decide) hM hb
  have z0 := z 0 (by decide) (by decide)
  have z1 := z 1 (by decide) (by decide)
  rw [e0]
  unfold D2 rM
  rw [z0, z1]
  grind
 ·
  have hB0 : Mb 2 (Bk 2 A 0) (fun _ => 8) 0 := hM.swap (t := 0) (by decide) ht0
  obtain ⟨_, s1, s2⟩ := stage (n := 2) (A := A) (k := 0) (i := 1) (j := 1) (g := 8) (by decide) hM hb (by decide) (by decide) (by decide) (by decide) (by rw [gr0]; exact Rat.le_refl) Rat.le_refl (by grind)
  have r := two_step ((hB0 0 (by decide) 0 (by decide)).2.mono (by rw [gr0]; grind)) ((hB0 0 (by decide) 1 (by decide)).2.mono (by rw [gr0]; grind)) s1 s2
  have ep : rv (Bk 2 A 0 0 0) = rv (piv 2 A 0) := by rw [piv_Bk]
  have eu : rv (st 2 A 1 1 1) = rv (piv 2 A 1) := by
   have ht2 : tk 2 A 1 = 1 := by
    have := tk_lt A (k := 1) (n := 2) (by decide)
    have := tk_ge 2 1 A
    omega
   show _ = rv (st 2 A 1 (tk 2 A 1) 1)
   rw [ht2]
  have ed : rv (Bk 2 A 0 0 0) * rv (Bk 2 A 0 1 1) - rv (Bk 2 A 0 0 1) * rv (Bk 2 A 0 1 0) = D2 (rM (Bk 2 A 0)) 0 := rfl
  rw [ed, eu, ep] at r
  have g1 := sgnR 2 A 0 r
  have es : sgP 2 A 2 = rv (piv 2 A 0) * sgn 2 A 0 * rv (piv 2 A 1) := by
   show 1 * rv (piv 2 A 0) * sgn 2 A 0 * rv (piv 2 A 1) * sgn 2 A 1 = _
   rw [sgn_last 2 A 1 rfl]
   grind
  rw [es, e0]
  refine Ab.mono (a := 17 * (5 * (1 / 4503599627370496) * 8) + 17 * (3 * (1 / 4503599627370496) * 8)) ?_ (by grind)
  refine Eq.subst (motive := fun z => Ab z _) ?_ g1
  grind
/-- one row -/
theorem det1 {A : M} : rM A 0 0 = sgP 1 A 1 := by
 have ht : tk 1 A 0 = 0 := by
  have := tk_lt A (k := 0) (n := 1) (by decide)
  omega
 show rv (A 0 0) = 1 * rv (A (tk 1 A 0) 0) * sgn 1 A 0
 rw [sgn_last 1 A 0 rfl, ht]
 grind
/-- the product, as it is rounded -/
theorem dd_step {x p : Nat} {P B E : Rat} (hx : Fi x) (hp : Fi p) (hxB : Ab (rv x) B) (hpB : Ab (rv p) 33) (hE : Ab (rv x - P) E) (hB : B ≤ 1099511627776) :
  Fi (op .mul x p) ∧ Ab (rv (op .mul x p)) (34 * B + 1) ∧ Ab (rv (op .mul x p) - P * rv p) (33 * E + 33 * (1 / 4503599627370496) * B + en) := by
 have he := en_pos
 have hel := en_le
 have k := hxB.mul hpB
 have f := mul_fi hx hp k (by grind)
 have e := mul_err hx hp f k
 have hB0 := hxB.nn
 refine ⟨f, ?_, ?_⟩
 ·
  have := k.add e
  rw [show rv x * rv p + (rv (op .mul x p) - rv x * rv p) = rv (op .mul x p) by grind] at this
  exact this.mono (by grind)
 ·
  have := (hE.mul hpB).add e
  rw [show (rv x - P) * rv p + (rv (op .mul x p) - rv x * rv p) = rv (op .mul x p) - P * rv p by grind] at this
  exact this.mono (by grind)
theorem ng_rv {x : Nat} (h : Fi x) : Fi (ngC x) ∧ rv (ngC x) = - rv x := by
 have h1 : Fl.rg (Fl.ng x) = Fl.rg x := Fl.rg_ng x
 have h2 : Fl.sg (Fl.ng x) = !Fl.sg x := Fl.sg_ng h.1
 have hn : Fl.nan (Fl.ng x) = false := by unfold Fl.nan; rw [h1]; have := h.2; exact decide_eq_false (by omega)
 unfold ngC
 rw [c_num hn]
 refine ⟨⟨Fl.ng_lt h.1, by rw [h1]; exact h.2⟩, ?_⟩
 unfold rv Fl.val
 rw [h1, h2]
 cases Fl.sg x
 ·
  simp only [Bool.not_false, if_true, Bool.false_eq_true, if_false]
  rw [Rat.intCast_neg]; grind
 ·
  simp only [Bool.not_true, if_true, Bool.false_eq_true, if_false]
  rw [Rat.intCast_neg]; grind
end Go.Proofs.Ytjfkdmddfeeheaa.Sv
