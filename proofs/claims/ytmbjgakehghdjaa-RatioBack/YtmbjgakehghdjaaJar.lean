/-
  OWN TEXT: how far a quotient by parts is from a whole number that it should be: plain integers.
-/
import Derived.Test.YtmbjgakehghdjaaJaq
import Derived.Test.YtmbjgakehghdjaaJaj
import Derived.Test.YtmbjgakehghdjaaJai
namespace Go.Proofs.Ytmbjgakehghdjaa.Zq
set_option linter.unusedVariables false
theorem nabs_add (x y : Int) : (x + y).natAbs ≤ x.natAbs + y.natAbs := Int.natAbs_add_le x y
theorem nabs_sub (x y : Int) : (x - y).natAbs ≤ x.natAbs + y.natAbs := by omega
theorem cancel {G x y : Nat} (hG : 0 < G) (h : G * x ≤ G * y) : x ≤ y := Nat.le_of_mul_le_mul_left h hG
theorem s1 {a1 lU X G : Nat} (h1 : 2251799813685248 * a1 ≤ lU + 4503599627370496 * G) (h2 : lU ≤ X) (h3 : G * 1267650600228229401496703205376 ≤ X) : 1125899906842624 * a1 ≤ X := by omega
theorem s2 {X a1 gk lU : Nat} (h1 : gk ≤ lU + a1) (h2 : lU ≤ X) (h3 : 1125899906842624 * a1 ≤ X) : gk ≤ 2 * X := by omega
theorem s3 {f lk X n : Nat} (h : 4503599627370496 * f ≤ lk + 4503599627370496) (h1 : lk ≤ n * X) (hX : 4503599627370496 ≤ X) : 4503599627370496 * f ≤ n * X + X := by omega
theorem s4 {m lk f X n : Nat} (h : m ≤ lk + f) (h1 : lk ≤ n * X) (h2 : 4503599627370496 * f ≤ (n + 1) * X) (hn : n ≤ 20000) : m ≤ (n + 1) * X := by
  have : (n + 1) * X ≤ 20001 * X := Nat.mul_le_mul_right X (by omega)
  rw [Nat.add_mul, Nat.one_mul] at *
  omega
/-- how great the steps get -/
theorem bounds {U X G : Nat} {g l k m2 t : Int} (hU : 1267650600228229401496703205376 ≤ U) (hG : G = g.natAbs) (hG1 : 1 ≤ G) (hX : X = G * U) (hl : l.natAbs ≤ G)
    (h1 : 2251799813685248 * (g * k - l * (U : Int)).natAbs ≤ l.natAbs * U + 4503599627370496 * G) : 1125899906842624 * (g * k - l * (U : Int)).natAbs ≤ X ∧ k.natAbs ≤ 2 * U := by
  have hGX : G * 1267650600228229401496703205376 ≤ X := by rw [hX]; exact Nat.mul_le_mul_left G hU
  have hlU : l.natAbs * U ≤ X := by rw [hX]; exact Nat.mul_le_mul_right U hl
  have ba1 := s1 h1 hlU hGX
  refine ⟨ba1, cancel hG1 ?_⟩
  have q1 := nabs_add (l * (U : Int)) (g * k - l * (U : Int))
  rw [show l * (U : Int) + (g * k - l * (U : Int)) = g * k by rw [Int.add_comm, Int.sub_add_cancel], Int.natAbs_mul, Int.natAbs_mul l, Int.natAbs_natCast, ← hG] at q1
  rw [show G * (2 * U) = 2 * (G * U) by rw [Nat.mul_left_comm], ← hX]
  exact s2 q1 hlU ba1
/-- a product of a step, rounded: the loss, and how great it is -/
theorem prod_step {U X G n : Nat} {b k m : Int} (hX : X = G * U) (hXU : 4503599627370496 ≤ X) (hb : b.natAbs ≤ n * G) (hk : k.natAbs ≤ 2 * U) (hn : 2 * n ≤ 20000)
    (h : 4503599627370496 * (m - b * k).natAbs ≤ (b * k).natAbs + 4503599627370496) : 4503599627370496 * (m - b * k).natAbs ≤ (2 * n + 1) * X ∧ m.natAbs ≤ (2 * n + 1) * X := by
  have hbk : (b * k).natAbs ≤ 2 * n * X := by
    rw [Int.natAbs_mul, hX]
    refine Nat.le_trans (Nat.mul_le_mul hb hk) ?_
    rw [Nat.mul_mul_mul_comm, Nat.mul_comm n 2]
    exact Nat.le_refl _
  have r1 := s3 h hbk hXU
  rw [show 2 * n * X + X = (2 * n + 1) * X by rw [Nat.add_mul, Nat.one_mul]] at r1
  refine ⟨r1, ?_⟩
  have q := nabs_add (b * k) (m - b * k)
  rw [show b * k + (m - b * k) = m by rw [Int.add_comm, Int.sub_add_cancel]] at q
  exact s4 q hbk r1 hn
/-- a sum of a step, rounded -/
theorem sum_step {U X G n k : Nat} {a m t : Int} (hX : X = G * U) (hXU : 4503599627370496 ≤ X) (ha : a.natAbs ≤ n * G) (hm : m.natAbs ≤ k * X) (hn : n + k ≤ 20000)
    (h : 4503599627370496 * (t - (a * (U : Int) + m)).natAbs ≤ (a * (U : Int) + m).natAbs + 4503599627370496) : 4503599627370496 * (t - (a * (U : Int) + m)).natAbs ≤ (n + k + 1) * X ∧ t.natAbs ≤ (n + k + 1) * X := by
  have haU : (a * (U : Int)).natAbs ≤ n * X := by
    rw [Int.natAbs_mul, Int.natAbs_natCast, hX, ← Nat.mul_assoc]
    exact Nat.mul_le_mul_right U ha
  have hs : (a * (U : Int) + m).natAbs ≤ (n + k) * X := by
    rw [Nat.add_mul]
    exact Nat.le_trans (nabs_add _ _) (Nat.add_le_add haU hm)
  have r1 := s3 h hs hXU
  rw [show (n + k) * X + X = (n + k + 1) * X by rw [Nat.add_mul (n + k) 1, Nat.one_mul]] at r1
  refine ⟨r1, ?_⟩
  have q := nabs_add (a * (U : Int) + m) (t - (a * (U : Int) + m))
  rw [show a * (U : Int) + m + (t - (a * (U : Int) + m)) = t by rw [Int.add_comm, Int.sub_add_cancel]] at q
  exact s4 q hs r1 hn
theorem s5 {Z Bn Cn Dn Y E F : Nat} (h0 : Bn ≤ Y + Cn + Dn) (h1 : Z ≤ Bn) (h2 : Cn ≤ E) (h3 : Dn ≤ F) (h4 : 1125899906842624 * E ≤ Z) (h5 : 4503599627370496 * F ≤ 8 * Z) : Z ≤ 2 * Y := by omega
theorem t_low {U X G : Nat} {g l k m2 t a1 f2 f3 : Int} (hG : G = g.natAbs) (hG1 : 1 ≤ G) (hX : X = G * U) (hl : l.natAbs ≤ G) (e1 : g * k = l * (U : Int) + a1) (e2 : m2 = l * k + f2) (e3 : t = g * (U : Int) + m2 + f3)
    (ba1 : 1125899906842624 * a1.natAbs ≤ X) (bf2 : 4503599627370496 * f2.natAbs ≤ 3 * X) (bf3 : 4503599627370496 * f3.natAbs ≤ 5 * X) : X ≤ 2 * t.natAbs := by
  refine cancel hG1 ?_
  have q1 : (g * g + l * l) * (U : Int) = g * t + (-(l * a1)) + (-(g * (f2 + f3))) := by
    rw [e3, e2]
    have : g * (l * k) = l * (l * (U : Int) + a1) := by rw [← e1]; grind
    grind
  have q0 := nabs_add (g * t + (-(l * a1))) (-(g * (f2 + f3)))
  have q0' := nabs_add (g * t) (-(l * a1))
  rw [← q1] at q0
  have q2 : (g * t).natAbs = G * t.natAbs := by rw [Int.natAbs_mul, ← hG]
  have q3 : (-(l * a1)).natAbs ≤ G * a1.natAbs := by rw [Int.natAbs_neg, Int.natAbs_mul]; exact Nat.mul_le_mul_right _ hl
  have q4 : (-(g * (f2 + f3))).natAbs ≤ G * (f2.natAbs + f3.natAbs) := by rw [Int.natAbs_neg, Int.natAbs_mul, ← hG]; exact Nat.mul_le_mul_left _ (nabs_add f2 f3)
  have q5 : G * X ≤ ((g * g + l * l) * (U : Int)).natAbs := by
    rw [Int.natAbs_mul, Int.natAbs_natCast]
    have s1 : (g * g + l * l).natAbs = G * G + l.natAbs * l.natAbs := by
      have u1 : g * g = ((G * G : Nat) : Int) := by rw [hG]; exact (Int.natAbs_mul_self (a := g)).symm
      have u2 : l * l = ((l.natAbs * l.natAbs : Nat) : Int) := (Int.natAbs_mul_self (a := l)).symm
      rw [u1, u2, ← Int.natCast_add, Int.natAbs_natCast]
    rw [s1, hX, ← Nat.mul_assoc]
    exact Nat.mul_le_mul_right U (Nat.le_add_right _ _)
  have q6 : G * (1125899906842624 * a1.natAbs) ≤ G * X := Nat.mul_le_mul_left G ba1
  have q7 : G * (4503599627370496 * (f2.natAbs + f3.natAbs)) ≤ G * (8 * X) := Nat.mul_le_mul_left G (by rw [Nat.mul_add]; generalize f2.natAbs = x at *; generalize f3.natAbs = y at *; clear q1 q0 q0' q2 q3 q4 q5 q6 e1 e2 e3 ba1 hX hG; omega)
  rw [Nat.mul_left_comm] at q6 q7
  rw [Nat.mul_left_comm G 8 X] at q7
  rw [Nat.mul_left_comm G 2 t.natAbs, ← q2]
  exact s5 (Nat.le_trans q0 (Nat.add_le_add_right q0' _)) q5 q3 q4 q6 q7
theorem s6 {X a1 x2 x3 x4 x5 y : Nat} (h : y ≤ 5000 * a1 + (x4 + x5 + 1000 * x2 + 1000 * x3)) (b1 : 1125899906842624 * a1 ≤ X) (b2 : 4503599627370496 * x2 ≤ 3 * X) (b3 : 4503599627370496 * x3 ≤ 5 * X) (b4 : 4503599627370496 * x4 ≤ 8001 * X) (b5 : 4503599627370496 * x5 ≤ 12002 * X) : 68719476736 * y ≤ X := by omega
theorem ident (g l a b v k U a1 f2 f3 f4 f5 : Int) (he : a * g + b * l = v * (g * g + l * l)) (e1 : g * k = l * U + a1) :
    g * (a * U + (b * k + f4) + f5 - v * (g * U + (l * k + f2) + f3)) = (b - v * l) * a1 + g * (f4 + f5 + -(v * f2) + -(v * f3)) := by
  have t1 : g * (a * U + (b * k + f4) + f5 - v * (g * U + (l * k + f2) + f3)) = (a * g - v * (g * g)) * U + (b - v * l) * (g * k) + g * (f4 + f5 + -(v * f2) + -(v * f3)) := by grind
  have t2 : a * g - v * (g * g) = v * (l * l) - b * l := by rw [Int.mul_add] at he; omega
  rw [t1, e1, t2]
  grind
/-- how far the dividend is -/
theorem d_far {U X G : Nat} {g l a b v k m2 t m4 A a1 f2 f3 f4 f5 : Int} (hG : G = g.natAbs) (hG1 : 1 ≤ G) (hl : l.natAbs ≤ G) (hv : v.natAbs ≤ 1000) (hb : b.natAbs ≤ 4000 * G) (he : a * g + b * l = v * (g * g + l * l))
    (e1 : g * k = l * (U : Int) + a1) (e2 : m2 = l * k + f2) (e3 : t = g * (U : Int) + m2 + f3) (e4 : m4 = b * k + f4) (e5 : A = a * (U : Int) + m4 + f5)
    (ba1 : 1125899906842624 * a1.natAbs ≤ X) (bf2 : 4503599627370496 * f2.natAbs ≤ 3 * X) (bf3 : 4503599627370496 * f3.natAbs ≤ 5 * X) (bf4 : 4503599627370496 * f4.natAbs ≤ 8001 * X) (bf5 : 4503599627370496 * f5.natAbs ≤ 12002 * X) : 68719476736 * (A - v * t).natAbs ≤ X := by
  have q1 : g * (A - v * t) = (b - v * l) * a1 + g * (f4 + f5 + -(v * f2) + -(v * f3)) := by
    rw [e5, e4, e3, e2]
    exact ident g l a b v k U a1 f2 f3 f4 f5 he e1
  have q2 : (g * (A - v * t)).natAbs = G * (A - v * t).natAbs := by rw [Int.natAbs_mul, ← hG]
  have q3 : ((b - v * l) * a1).natAbs ≤ G * (5000 * a1.natAbs) := by
    rw [Int.natAbs_mul]
    have s1 : (v * l).natAbs ≤ 1000 * G := by rw [Int.natAbs_mul]; exact Nat.mul_le_mul hv hl
    have s2 := nabs_sub b (v * l)
    have s3 : (b - v * l).natAbs ≤ 5000 * G := Nat.le_trans s2 (by rw [show 5000 * G = 4000 * G + 1000 * G by rw [← Nat.add_mul]]; exact Nat.add_le_add hb s1)
    refine Nat.le_trans (Nat.mul_le_mul_right _ s3) ?_
    rw [Nat.mul_comm 5000 G, Nat.mul_assoc]
    exact Nat.le_refl _
  have vf : ∀ f : Int, (-(v * f)).natAbs ≤ 1000 * f.natAbs := fun f => by rw [Int.natAbs_neg, Int.natAbs_mul]; exact Nat.mul_le_mul_right _ hv
  have q4 : (f4 + f5 + -(v * f2) + -(v * f3)).natAbs ≤ f4.natAbs + f5.natAbs + 1000 * f2.natAbs + 1000 * f3.natAbs :=
    Nat.le_trans (nabs_add _ _) (Nat.add_le_add (Nat.le_trans (nabs_add _ _) (Nat.add_le_add (nabs_add _ _) (vf f2))) (vf f3))
  have q5 : (g * (f4 + f5 + -(v * f2) + -(v * f3))).natAbs ≤ G * (f4.natAbs + f5.natAbs + 1000 * f2.natAbs + 1000 * f3.natAbs) := by rw [Int.natAbs_mul, ← hG]; exact Nat.mul_le_mul_left _ q4
  have q6 := nabs_add ((b - v * l) * a1) (g * (f4 + f5 + -(v * f2) + -(v * f3)))
  rw [← q1, q2] at q6
  have q7 : G * (A - v * t).natAbs ≤ G * (5000 * a1.natAbs + (f4.natAbs + f5.natAbs + 1000 * f2.natAbs + 1000 * f3.natAbs)) := by
    rw [Nat.mul_add]
    exact Nat.le_trans q6 (Nat.add_le_add q3 q5)
  exact s6 (cancel hG1 q7) ba1 bf2 bf3 bf4 bf5
theorem s7 {W Y Z F f6 B T : Nat} (h1 : Y ≤ F + f6) (h2 : 68719476736 * F ≤ W) (h3 : 2251799813685248 * f6 ≤ B + 4503599627370496 * T) (h4 : B ≤ 12002 * W) (h5 : 1267650600228229401496703205376 * T ≤ 9 * W) (h6 : Z ≤ 2 * Y) : 8589934592 * Z ≤ W := by omega
/-- g the greater part of the divisor, l the lesser; k their quotient, t the divisor; a, b the dividend's parts; z the answer, v what it should be; U units -/
theorem comp_core {U : Nat} {g l a b v k m2 t m4 A z : Int} (hU : 1267650600228229401496703205376 ≤ U) (hg : g ≠ 0) (hl : l.natAbs ≤ g.natAbs) (hv : v.natAbs ≤ 1000) (ha : a.natAbs ≤ 4000 * g.natAbs) (hb : b.natAbs ≤ 4000 * g.natAbs)
    (he : a * g + b * l = v * (g * g + l * l))
    (h1 : 2251799813685248 * (g * k - l * (U : Int)).natAbs ≤ l.natAbs * U + 4503599627370496 * g.natAbs)
    (h2 : 4503599627370496 * (m2 - l * k).natAbs ≤ (l * k).natAbs + 4503599627370496)
    (h3 : 4503599627370496 * (t - (g * (U : Int) + m2)).natAbs ≤ (g * (U : Int) + m2).natAbs + 4503599627370496)
    (h4 : 4503599627370496 * (m4 - b * k).natAbs ≤ (b * k).natAbs + 4503599627370496)
    (h5 : 4503599627370496 * (A - (a * (U : Int) + m4)).natAbs ≤ (a * (U : Int) + m4).natAbs + 4503599627370496)
    (h6 : 2251799813685248 * (z * t - A * (U : Int)).natAbs ≤ A.natAbs * U + 4503599627370496 * t.natAbs) :
    8589934592 * (z - v * (U : Int)).natAbs ≤ U := by
  obtain ⟨G, hG⟩ : ∃ G, G = g.natAbs := ⟨_, rfl⟩
  have hG1 : 1 ≤ G := by rw [hG]; exact Int.natAbs_pos.2 hg
  obtain ⟨X, hX⟩ : ∃ X, X = G * U := ⟨_, rfl⟩
  have hXU : U ≤ X := by rw [hX]; exact Nat.le_mul_of_pos_left U hG1
  have hX5 : 4503599627370496 ≤ X := Nat.le_trans (by decide) (Nat.le_trans hU hXU)
  rw [← hG] at hl ha hb h1
  obtain ⟨b1, bk⟩ := bounds (m2 := m2) (t := t) hU hG hG1 hX hl h1
  obtain ⟨b2, c2⟩ := prod_step (n := 1) hX hX5 (by rw [Nat.one_mul]; exact hl) bk (by decide) h2
  obtain ⟨b3, c3⟩ := sum_step (n := 1) (k := 3) hX hX5 (by rw [Nat.one_mul, ← hG]; exact Nat.le_refl _) c2 (by decide) h3
  obtain ⟨b4, c4⟩ := prod_step (n := 4000) hX hX5 hb bk (by decide) h4
  obtain ⟨b5, c5⟩ := sum_step (n := 4000) (k := 8001) hX hX5 ha c4 (by decide) h5
  have e1 : g * k = l * (U : Int) + (g * k - l * (U : Int)) := by rw [Int.add_comm, Int.sub_add_cancel]
  have e2 : m2 = l * k + (m2 - l * k) := by rw [Int.add_comm, Int.sub_add_cancel]
  have e3 : t = g * (U : Int) + m2 + (t - (g * (U : Int) + m2)) := by rw [Int.add_comm, Int.sub_add_cancel]
  have e4 : m4 = b * k + (m4 - b * k) := by rw [Int.add_comm, Int.sub_add_cancel]
  have e5 : A = a * (U : Int) + m4 + (A - (a * (U : Int) + m4)) := by rw [Int.add_comm, Int.sub_add_cancel]
  have lt := t_low hG hG1 hX hl e1 e2 e3 b1 b2 b3
  have fd := d_far hG hG1 hl hv hb he e1 e2 e3 e4 e5 b1 b2 b3 b4 b5
  have q1 : t * (z - v * (U : Int)) = (U : Int) * (A - v * t) + (z * t - A * (U : Int)) := by grind
  have q6 := nabs_add ((U : Int) * (A - v * t)) (z * t - A * (U : Int))
  rw [← q1, Int.natAbs_mul (U : Int), Int.natAbs_natCast, Int.natAbs_mul] at q6
  have q3 : 68719476736 * (U * (A - v * t).natAbs) ≤ U * X := by rw [Nat.mul_left_comm]; exact Nat.mul_le_mul_left U fd
  have q4 : A.natAbs * U ≤ 12002 * (U * X) := by
    refine Nat.le_trans (Nat.mul_le_mul_right U c5) ?_
    rw [Nat.mul_assoc, Nat.mul_comm X U]
    exact Nat.le_refl _
  have q5 : 1267650600228229401496703205376 * t.natAbs ≤ 9 * (U * X) := by
    refine Nat.le_trans (Nat.mul_le_mul hU c3) ?_
    rw [Nat.mul_left_comm]
    exact Nat.mul_le_mul_right _ (by decide)
  have q7 : X * (z - v * (U : Int)).natAbs ≤ 2 * (t.natAbs * (z - v * (U : Int)).natAbs) := by
    rw [← Nat.mul_assoc]
    exact Nat.mul_le_mul_right _ lt
  refine cancel (Nat.lt_of_lt_of_le (by decide) hX5) ?_
  rw [Nat.mul_left_comm X 8589934592, Nat.mul_comm X U]
  exact s7 q6 q3 h6 q4 q5 q7
end Go.Proofs.Ytmbjgakehghdjaa.Zq
/-
  OWN TEXT: sines and cosines of fit floats, as they come out, are at most 1 without their signs.
-/
set_option linter.unusedVariables false
set_option exponentiation.threshold 3000
namespace Go.Proofs.Ytmbjgakehghdjaa
/-- how far rounding goes -/
theorem rq_err (n d : Nat) (hf : Fl.rq n d < 9218868437227405312) : ∃ e, Fl.vl (Fl.rq n d) * 2 ^ d ≤ n + e ∧ n ≤ Fl.vl (Fl.rq n d) * 2 ^ d + e ∧ 4503599627370496 * e ≤ n + 4503599627370496 * 2 ^ d := by
  by_cases z : n = 0
  · subst z
    have : Fl.rq 0 d = 0 := by unfold Fl.rq; rfl
    rw [this, show Fl.vl 0 = 0 by decide]
    exact ⟨0, by omega, by omega, by omega⟩
  · obtain ⟨k, hk⟩ : ∃ k, k = n.log2 - (52 + d) := ⟨_, rfl⟩
    have hl := Fl.log2_lt n z
    have hl2 := Fl.log2_le n z
    have hp := Nat.two_pow_pos (k + d)
    have m1 : Fl.rne n (k + d) ≤ 9007199254740992 := by
      refine Fl.rne_le _ _ _ ?_
      rw [show (9007199254740992 : Nat) = 2 ^ 53 from rfl, ← Nat.pow_add]
      have : 2 ^ (n.log2 + 1) ≤ 2 ^ (53 + (k + d)) := Nat.pow_le_pow_right (by omega) (by omega)
      omega
    have m2 : k = 0 ∨ 4503599627370496 ≤ Fl.rne n (k + d) := by
      by_cases c : k = 0
      · exact Or.inl c
      · right
        refine Fl.le_rne _ _ _ ?_
        rw [show (4503599627370496 : Nat) = 2 ^ 52 from rfl, ← Nat.pow_add, show 52 + (k + d) = n.log2 by omega]
        exact hl2
    have er : Fl.rq n d = k * 4503599627370496 + Fl.rne n (k + d) := by
      unfold Fl.rq at hf ⊢
      rw [if_neg z, ← hk] at hf ⊢
      omega
    have ev : Fl.vl (Fl.rq n d) * 2 ^ d = Fl.rne n (k + d) * 2 ^ (k + d) := by
      rw [er, Fl.vl_comb k _ m1 m2, Nat.mul_assoc, ← Nat.pow_add]
    rw [ev]
    have hb := Fl.rne_bounds n (k + d)
    refine ⟨2 ^ (k + d), by omega, by omega, ?_⟩
    by_cases c : k = 0
    · rw [c, Nat.zero_add]; omega
    · have : 4503599627370496 * 2 ^ (k + d) ≤ n := by
        rw [show (4503599627370496 : Nat) = 2 ^ 52 from rfl, ← Nat.pow_add, show 52 + (k + d) = n.log2 by omega]
        exact hl2
      omega
theorem vT : Fl.vl 4603909380684499075 = 5734161139222659 * 2 ^ 1021 := by decide +kernel
theorem vA : Fl.vl 4609753056924401664 = 7074237751754752 * 2 ^ 1022 := by decide +kernel
theorem v20 : Fl.vl 4697254411347427328 = 4722366482869645213696 * 2 ^ 1022 := by decide +kernel
theorem lin1 (PG XG XT e G : Nat) (h : 2 * XT = 5734161139222659 * XG) (h1 : 4503599627370496 * PG ≤ XT + e) (h2 : 4503599627370496 * e ≤ XT + 4503599627370496 * (4503599627370496 * G)) :
  40564819207303340847894502572032 * PG ≤ 4503599627370496 * (5734161139222659 * XG) + 5734161139222659 * XG + 40564819207303340847894502572032 * G := by
  generalize 5734161139222659 * XG = Y at *
  subst h
  have a1 := Nat.mul_le_mul_left 9007199254740992 h1
  omega
theorem lin2 (PG XG XT e G : Nat) (h : 2 * XT = 5734161139222659 * XG) (h1 : XT ≤ 4503599627370496 * PG + e) (h2 : 4503599627370496 * e ≤ XT + 4503599627370496 * (4503599627370496 * G)) :
  4503599627370496 * (5734161139222659 * XG) ≤ 40564819207303340847894502572032 * PG + 5734161139222659 * XG + 40564819207303340847894502572032 * G := by
  generalize 5734161139222659 * XG = Y at *
  subst h
  have a1 := Nat.mul_le_mul_left 9007199254740992 h1
  omega
theorem lin3 (QC MC C f : Nat) (h1 : QC ≤ MC + f) (h2 : 4503599627370496 * f ≤ MC + 4503599627370496 * C) : 4503599627370496 * QC ≤ 4503599627370496 * MC + MC + 4503599627370496 * C := by
  have a := Nat.mul_le_mul_left 4503599627370496 h1
  omega
theorem lin4 (QC MC C f : Nat) (h1 : MC ≤ QC + f) (h2 : 4503599627370496 * f ≤ MC + 4503599627370496 * C) : 4503599627370496 * MC ≤ 4503599627370496 * QC + MC + 4503599627370496 * C := by
  have a := Nat.mul_le_mul_left 4503599627370496 h1
  omega
theorem fin1 (X P MG G : Nat) (hX : X ≤ 4722366482869645213696 * G)
    (k1 : 40564819207303340847894502572032 * P ≤ 4503599627370496 * (5734161139222659 * X) + 5734161139222659 * X + 40564819207303340847894502572032) (hG : 1 ≤ G)
    (b2 : 2 * (4503599627370496 * MG) ≤ 2 * P + 4503599627370496 * G) : MG ≤ 1048576 * G := by omega
theorem fin2 (X P MG Q G : Nat) (hG : 1 ≤ G) (hX : X ≤ 4722366482869645213696 * G) (hm : MG ≤ 1048576 * G)
    (k2 : 4503599627370496 * (5734161139222659 * X) ≤ 40564819207303340847894502572032 * P + 5734161139222659 * X + 40564819207303340847894502572032)
    (b1 : 2 * P ≤ 2 * (4503599627370496 * MG) + 4503599627370496 * G)
    (j2 : 4503599627370496 * (7074237751754752 * MG) ≤ 4503599627370496 * Q + 7074237751754752 * MG + 4503599627370496) : X ≤ Q + 3602879701896396 * G := by
  omega
theorem fin3 (X P MG Q G : Nat) (hG : 1 ≤ G) (hX : X ≤ 4722366482869645213696 * G) (hm : MG ≤ 1048576 * G)
    (k1 : 40564819207303340847894502572032 * P ≤ 4503599627370496 * (5734161139222659 * X) + 5734161139222659 * X + 40564819207303340847894502572032)
    (b2 : 2 * (4503599627370496 * MG) ≤ 2 * P + 4503599627370496 * G)
    (j1 : 4503599627370496 * Q ≤ 4503599627370496 * (7074237751754752 * MG) + 7074237751754752 * MG + 4503599627370496) : Q ≤ X + 3602879701896396 * G := by
  omega
/-- the float less its quarters' first piece -/
theorem less_first (c g X p M : Nat) (hc : c = 1074) (hg : g = 1022) (hX : X ≤ Fl.vl 4697254411347427328) (hp : p = Fl.rq (X * Fl.vl 4603909380684499075) c) (hpf : p < 9218868437227405312) (hM : M = Fl.rne (Fl.vl p) c) (hq : Fl.rq (M * 2 ^ c * Fl.vl 4609753056924401664) c < 9218868437227405312) :
    X ≤ Fl.vl (Fl.rq (M * 2 ^ c * Fl.vl 4609753056924401664) c) + 3602879701896396 * 2 ^ g ∧ Fl.vl (Fl.rq (M * 2 ^ c * Fl.vl 4609753056924401664) c) ≤ X + 3602879701896396 * 2 ^ g ∧ M ≤ 1048576 := by
  obtain ⟨e, e1, e2, e3⟩ := rq_err (X * Fl.vl 4603909380684499075) c (by rw [← hp]; exact hpf)
  rw [← hp] at e1 e2
  have b := Fl.rne_bounds (Fl.vl p) c
  rw [← hM] at b
  obtain ⟨f, f1, f2, f3⟩ := rq_err (M * 2 ^ c * Fl.vl 4609753056924401664) c hq
  generalize Fl.vl (Fl.rq (M * 2 ^ c * Fl.vl 4609753056924401664) c) = Q at *
  rw [v20] at hX
  have h1 : (2 : Nat) ^ c = 4503599627370496 * 2 ^ g := by rw [hc, hg, show (4503599627370496 : Nat) = 2 ^ 52 from rfl, ← Nat.pow_add]
  have h2 : Fl.vl 4603909380684499075 * 2 = 5734161139222659 * 2 ^ g := by
    rw [vT, hg, Nat.mul_assoc]
  have h3 : Fl.vl 4609753056924401664 = 7074237751754752 * 2 ^ g := by rw [vA, hg]
  rw [← hg] at hX
  obtain ⟨G, hG⟩ : ∃ G, G = 2 ^ g := ⟨_, rfl⟩
  have hG1 : 1 ≤ G := by rw [hG]; exact Nat.two_pow_pos g
  rw [← hG] at h1 h2 h3 hX ⊢
  have hXT : 2 * (X * Fl.vl 4603909380684499075) = 5734161139222659 * (X * G) := by rw [Nat.mul_comm 2, Nat.mul_assoc, h2, Nat.mul_left_comm]
  have hPG : Fl.vl p * 2 ^ c = 4503599627370496 * (Fl.vl p * G) := by rw [h1, Nat.mul_left_comm]
  rw [hPG] at e1 e2
  rw [h1] at e3
  have l1 := lin1 _ _ _ _ G hXT e1 e3
  have l2 := lin2 _ _ _ _ G hXT e2 e3
  have k1 : 40564819207303340847894502572032 * Fl.vl p ≤ 4503599627370496 * (5734161139222659 * X) + 5734161139222659 * X + 40564819207303340847894502572032 := by
    refine Nat.le_of_mul_le_mul_right (c := G) ?_ hG1
    rw [Nat.add_mul, Nat.add_mul, Nat.mul_assoc, Nat.mul_assoc 4503599627370496, Nat.mul_assoc 5734161139222659]
    exact l1
  have k2 : 4503599627370496 * (5734161139222659 * X) ≤ 40564819207303340847894502572032 * Fl.vl p + 5734161139222659 * X + 40564819207303340847894502572032 := by
    refine Nat.le_of_mul_le_mul_right (c := G) ?_ hG1
    rw [Nat.add_mul, Nat.add_mul, Nat.mul_assoc, Nat.mul_assoc 5734161139222659, Nat.mul_assoc 40564819207303340847894502572032]
    exact l2
  have hMG : M * 2 ^ c = 4503599627370496 * (M * G) := by rw [h1, Nat.mul_left_comm]
  have hMA : M * 2 ^ c * Fl.vl 4609753056924401664 = 7074237751754752 * (M * G) * 2 ^ c := by rw [h3, Nat.mul_assoc, Nat.mul_comm (2 ^ c), ← Nat.mul_assoc, Nat.mul_left_comm M]
  rw [hMA] at f1 f2 f3
  have hC : 0 < 2 ^ c := Nat.two_pow_pos c
  have m1 := lin3 _ _ _ _ f1 f3
  have m2 := lin4 _ _ _ _ f2 f3
  have j1 : 4503599627370496 * Q ≤ 4503599627370496 * (7074237751754752 * (M * G)) + 7074237751754752 * (M * G) + 4503599627370496 := by
    refine Nat.le_of_mul_le_mul_right (c := 2 ^ c) ?_ hC
    rw [Nat.add_mul, Nat.add_mul, Nat.mul_assoc, Nat.mul_assoc 4503599627370496 (7074237751754752 * (M * G))]
    exact m1
  have j2 : 4503599627370496 * (7074237751754752 * (M * G)) ≤ 4503599627370496 * Q + 7074237751754752 * (M * G) + 4503599627370496 := by
    refine Nat.le_of_mul_le_mul_right (c := 2 ^ c) ?_ hC
    rw [Nat.add_mul, Nat.add_mul, Nat.mul_assoc, Nat.mul_assoc 4503599627370496 Q]
    exact m2
  rw [hMG, h1] at b
  have hm := fin1 X (Fl.vl p) (M * G) G hX k1 hG1 b.1
  exact ⟨fin2 X (Fl.vl p) (M * G) Q G hG1 hX hm k2 b.2 j2, fin3 X (Fl.vl p) (M * G) Q G hG1 hX hm k1 b.1 j1, Nat.le_of_mul_le_mul_right hm hG1⟩
end Go.Proofs.Ytmbjgakehghdjaa
/-
  OWN TEXT: whole complex numbers, their lengths, and polynomials of them as lists, the lowest coefficient first.
-/
set_option linter.unusedVariables false
namespace Go.Proofs.Ytmbjgakehghdjaa.Py

abbrev G := Int × Int
def ga (a b : G) : G := (a.1 + b.1, a.2 + b.2)
def gs (a b : G) : G := (a.1 - b.1, a.2 - b.2)
def gm (a b : G) : G := (a.1 * b.1 - a.2 * b.2, a.1 * b.2 + a.2 * b.1)
def gn (a : G) : G := (-a.1, -a.2)
theorem gext {a b : G} (h1 : a.1 = b.1) (h2 : a.2 = b.2) : a = b := by cases a; cases b; simp_all
/-- the length is at most M -/
def Le (g : G) (M : Nat) : Prop := g.1 * g.1 + g.2 * g.2 ≤ (M : Int) * M
theorem sq_nonneg (x : Int) : 0 ≤ x * x := by
  rcases Int.le_total 0 x with h | h
  · exact Int.mul_nonneg h h
  · exact Int.mul_nonneg_of_nonpos_of_nonpos h h
theorem sq_le {x y : Int} (hy : 0 ≤ y) (h : x * x ≤ y * y) : x ≤ y := by
  rcases Int.lt_or_le y x with c | c
  · have h1 : y * y ≤ y * x := Int.mul_le_mul_of_nonneg_left (Int.le_of_lt c) hy
    have h2 : y * x < x * x := Int.mul_lt_mul_of_pos_right c (by omega)
    omega
  · exact c
theorem Le.one {g : G} {M : Nat} (h : Le g M) : g.1.natAbs ≤ M ∧ g.2.natAbs ≤ M := by
  unfold Le at h
  have h1 := sq_nonneg g.1
  have h2 := sq_nonneg g.2
  have a1 : ∀ x : Int, x * x ≤ (M : Int) * M → x.natAbs ≤ M := by
    intro x hx
    have p := sq_le (x := x) (y := M) (by omega) hx
    have q := sq_le (x := -x) (y := M) (by omega) (by rw [Int.neg_mul_neg]; exact hx)
    omega
  exact ⟨a1 _ (by omega), a1 _ (by omega)⟩
theorem Le.mono {g : G} {M K : Nat} (h : Le g M) (k : M ≤ K) : Le g K := by
  unfold Le at *
  have : (M : Int) * M ≤ (K : Int) * K := Int.mul_le_mul (by omega) (by omega) (by omega) (by omega)
  omega
theorem Le.mul {g h : G} {M K : Nat} (a : Le g M) (b : Le h K) : Le (gm g h) (M * K) := by
  unfold Le gm at *
  have e : (g.1 * h.1 - g.2 * h.2) * (g.1 * h.1 - g.2 * h.2) + (g.1 * h.2 + g.2 * h.1) * (g.1 * h.2 + g.2 * h.1) = (g.1 * g.1 + g.2 * g.2) * (h.1 * h.1 + h.2 * h.2) := by grind
  have n1 := sq_nonneg g.1
  have n2 := sq_nonneg g.2
  have n3 := sq_nonneg h.1
  have n4 := sq_nonneg h.2
  have m := Int.mul_le_mul a b (by omega) (by have := sq_nonneg (M : Int); omega)
  show (g.1 * h.1 - g.2 * h.2) * (g.1 * h.1 - g.2 * h.2) + (g.1 * h.2 + g.2 * h.1) * (g.1 * h.2 + g.2 * h.1) ≤ _
  rw [e]
  refine Int.le_trans m (Int.le_of_eq ?_)
  rw [Int.natCast_mul]
  grind
theorem Le.add {g h : G} {M K : Nat} (a : Le g M) (b : Le h K) : Le (ga g h) (M + K) := by
  have dot : g.1 * h.1 + g.2 * h.2 ≤ (M : Int) * K := by
    refine sq_le (by exact Int.mul_nonneg (by omega) (by omega)) ?_
    unfold Le at *
    have e : (g.1 * h.1 + g.2 * h.2) * (g.1 * h.1 + g.2 * h.2) + (g.1 * h.2 - g.2 * h.1) * (g.1 * h.2 - g.2 * h.1) = (g.1 * g.1 + g.2 * g.2) * (h.1 * h.1 + h.2 * h.2) := by grind
    have n1 := sq_nonneg g.1
    have n2 := sq_nonneg g.2
    have n3 := sq_nonneg h.1
    have n4 := sq_nonneg h.2
    have n5 := sq_nonneg (g.1 * h.2 - g.2 * h.1)
    have m := Int.mul_le_mul a b (by omega) (by have := sq_nonneg (M : Int); omega)
    have f : (M : Int) * M * (K * K) = M * K * (M * K) := by grind
    omega
  unfold Le ga at *
  show (g.1 + h.1) * (g.1 + h.1) + (g.2 + h.2) * (g.2 + h.2) ≤ _
  rw [Int.natCast_add]
  grind
theorem Le.neg {g : G} {M : Nat} (a : Le g M) : Le (gn g) M := by
  unfold Le gn at *
  simp only [Int.neg_mul_neg]; exact a
theorem gs_eq (a b : G) : gs a b = ga a (gn b) := by unfold gs ga gn; exact gext (by simp only; omega) (by simp only; omega)
theorem Le.sub {g h : G} {M K : Nat} (a : Le g M) (b : Le h K) : Le (gs g h) (M + K) := by rw [gs_eq]; exact a.add b.neg
theorem Le.nought (M : Nat) : Le (0, 0) M := by unfold Le; simp only [Int.mul_zero, Int.add_zero]; exact sq_nonneg _
/-- the products of parts are at most M * K -/
theorem Le.prods {g h : G} {M K : Nat} (a : Le g M) (b : Le h K) : (g.1 * h.1).natAbs ≤ M * K ∧ (g.2 * h.2).natAbs ≤ M * K ∧ (g.1 * h.2).natAbs ≤ M * K ∧ (g.2 * h.1).natAbs ≤ M * K := by
  obtain ⟨p, q⟩ := a.one
  obtain ⟨r, s⟩ := b.one
  simp only [Int.natAbs_mul]
  exact ⟨Nat.mul_le_mul p r, Nat.mul_le_mul q s, Nat.mul_le_mul p s, Nat.mul_le_mul q r⟩

/-! ring -/
theorem ga_comm (a b : G) : ga a b = ga b a := gext (Int.add_comm _ _) (Int.add_comm _ _)
theorem ga_assoc (a b c : G) : ga (ga a b) c = ga a (ga b c) := gext (Int.add_assoc _ _ _) (Int.add_assoc _ _ _)
theorem ga_nought (a : G) : ga a (0, 0) = a := gext (Int.add_zero _) (Int.add_zero _)
theorem nought_ga (a : G) : ga (0, 0) a = a := gext (Int.zero_add _) (Int.zero_add _)
theorem gm_comm (a b : G) : gm a b = gm b a := gext (by unfold gm; grind) (by unfold gm; grind)
theorem gm_assoc (a b c : G) : gm (gm a b) c = gm a (gm b c) := gext (by unfold gm; grind) (by unfold gm; grind)
theorem gm_nought (a : G) : gm a (0, 0) = (0, 0) := gext (by unfold gm; grind) (by unfold gm; grind)
theorem nought_gm (a : G) : gm (0, 0) a = (0, 0) := gext (by unfold gm; grind) (by unfold gm; grind)
theorem gm_one (a : G) : gm a (1, 0) = a := gext (by unfold gm; grind) (by unfold gm; grind)
theorem gm_ga (a b c : G) : gm a (ga b c) = ga (gm a b) (gm a c) := gext (by unfold gm ga; grind) (by unfold gm ga; grind)
theorem ga_gm (a b c : G) : gm (ga a b) c = ga (gm a c) (gm b c) := gext (by unfold gm ga; grind) (by unfold gm ga; grind)

/-- the coefficient i -/
def co (l : List G) (i : Nat) : G := l.getD i (0, 0)
theorem co_nil (i : Nat) : co [] i = (0, 0) := rfl
theorem co_zero (x : G) (r : List G) : co (x :: r) 0 = x := rfl
theorem co_succ (x : G) (r : List G) (i : Nat) : co (x :: r) (i + 1) = co r i := rfl
theorem co_out {l : List G} {i : Nat} (h : l.length ≤ i) : co l i = (0, 0) := by simp [co, List.getD, List.getElem?_eq_none h]
theorem co_set (l : List G) (i j : Nat) (x : G) (h : i < l.length) : co (l.set i x) j = if j = i then x else co l j := by
  simp only [co, List.getD, List.getElem?_set]
  by_cases c : i = j
  · subst c; simp [h]
  · rw [if_neg c, if_neg (fun e => c e.symm)]
theorem co_take (l : List G) (n i : Nat) : co (l.take n) i = if i < n then co l i else (0, 0) := by
  simp only [co, List.getD, List.getElem?_take]
  split <;> simp
theorem co_drop (l : List G) (n i : Nat) : co (l.drop n) i = co l (n + i) := by
  simp only [co, List.getD, List.getElem?_drop]
theorem co_append (l m : List G) (i : Nat) : co (l ++ m) i = if i < l.length then co l i else co m (i - l.length) := by
  simp only [co, List.getD, List.getElem?_append]
  split <;> rfl
theorem co_map (f : Nat → G) (n i : Nat) : co ((List.range n).map f) i = if i < n then f i else (0, 0) := by
  unfold co
  by_cases h : i < n
  · simp [h]
  · simp [List.getD, h]
theorem list_ext {l m : List G} (hl : l.length = m.length) (h : ∀ i, i < l.length → co l i = co m i) : l = m := by
  refine List.ext_getElem hl fun i h1 h2 => ?_
  have := h i h1
  simpa [co, List.getD, h1, h2] using this
theorem drop_cons {l : List G} {i : Nat} (h : i < l.length) : l.drop i = co l i :: l.drop (i + 1) := by
  rw [List.drop_eq_getElem_cons h]
  simp [co, List.getD, h]

/-- the value at z -/
def ev : List G → G → G
  | [], _ => (0, 0)
  | c :: r, z => ga (gm (ev r z) z) c
theorem ev_drop (l : List G) (z : G) {i : Nat} (h : i < l.length) : ev (l.drop i) z = ga (gm (ev (l.drop (i + 1)) z) z) (co l i) := by
  rw [drop_cons h, ev]
theorem ev_noughts (l : List G) (z : G) (h : ∀ i, co l i = (0, 0)) : ev l z = (0, 0) := by
  induction l with
  | nil => rfl
  | cons x r ih =>
    have h0 : x = (0, 0) := h 0
    rw [ev, ih (fun i => h (i + 1)), h0, nought_gm, ga_nought]
/-- the value hangs on the coefficients alone -/
theorem ev_same : ∀ (l m : List G) (z : G), (∀ i, co l i = co m i) → ev l z = ev m z
  | [], m, z, h => by rw [ev_noughts m z (fun i => (h i).symm)]; rfl
  | x :: r, [], z, h => by rw [ev_noughts (x :: r) z (fun i => h i)]; rfl
  | x :: r, y :: s, z, h => by
    have h0 : x = y := h 0
    rw [ev, ev, ev_same r s z (fun i => h (i + 1)), h0]
/-- sums -/
theorem ev_add : ∀ (l a b : List G) (z : G), (∀ i, co l i = ga (co a i) (co b i)) → ev l z = ga (ev a z) (ev b z)
  | l, [], b, z, h => by rw [ev_same l b z (fun i => by rw [h, co_nil, nought_ga]), ev, nought_ga]
  | l, a, [], z, h => by rw [ev_same l a z (fun i => by rw [h, co_nil, ga_nought]), ev, ga_nought]
  | l, x :: r, y :: s, z, h => by
    cases l with
    | nil =>
      have e : ev (ga x y :: []) z = ev [] z := ev_same _ _ _ fun i => by
        cases i with
        | zero => exact (h 0).symm
        | succ i => rfl
      have ih := ev_add [] r s z (fun i => h (i + 1))
      rw [ev, ev, ev]
      have h0 : (0, 0) = ga x y := h 0
      rw [ev] at ih
      rw [show ga (ga (gm (ev r z) z) x) (ga (gm (ev s z) z) y) = ga (gm (ga (ev r z) (ev s z)) z) (ga x y) by rw [ga_gm]; exact gext (by unfold ga; simp only; omega) (by unfold ga; simp only; omega), ← ih, ← h0, nought_gm, ga_nought]
    | cons u t =>
      have ih := ev_add t r s z (fun i => h (i + 1))
      have h0 : u = ga x y := h 0
      rw [ev, ev, ev, ih, h0, ga_gm]
      exact gext (by unfold ga; simp only; omega) (by unfold ga; simp only; omega)
theorem ev_scale (l a : List G) (k z : G) (h : ∀ i, co l i = gm k (co a i)) : ev l z = gm k (ev a z) := by
  have e : ev l z = ev (a.map (gm k)) z := ev_same _ _ _ fun i => by
    rw [h]
    unfold co
    simp only [List.getD, List.getElem?_map]
    cases a[i]? with
    | none => exact gm_nought k
    | some x => rfl
  rw [e]
  clear e h
  induction a with
  | nil => exact (gm_nought k).symm
  | cons x r ih => rw [List.map_cons, ev, ev, ih, gm_ga, gm_assoc]
theorem ev_up (l : List G) (z : G) : ev ((0, 0) :: l) z = gm (ev l z) z := by rw [ev, ga_nought]

/-- the sum of a's i times b's j - i, over the i below k (and at most j) -/
def ts (a b : List G) (j : Nat) : Nat → G
  | 0 => (0, 0)
  | k + 1 => ga (ts a b j k) (if k ≤ j then gm (co a k) (co b (j - k)) else (0, 0))
theorem ts_far (a b : List G) (j k n : Nat) (h : ∀ i, k ≤ i → i < k + n → i ≤ j → gm (co a i) (co b (j - i)) = (0, 0)) : ts a b j (k + n) = ts a b j k := by
  induction n with
  | zero => rfl
  | succ n ih =>
    rw [← Nat.add_assoc, ts, ih (fun i h1 h2 h3 => h i h1 (by omega) h3)]
    by_cases c : k + n ≤ j
    · rw [if_pos c, h (k + n) (by omega) (by omega) c, ga_nought]
    · rw [if_neg c, ga_nought]
theorem ts_cons (x : G) (r b : List G) (j k : Nat) : ts (x :: r) b j (k + 1) = ga (gm x (co b j)) (match j with | 0 => (0, 0) | j + 1 => ts r b j k) := by
  induction k with
  | zero => rw [ts, ts, if_pos (Nat.zero_le _), nought_ga, co_zero, Nat.sub_zero]; cases j <;> exact (ga_nought _).symm
  | succ k ih =>
    rw [ts, ih]
    cases j with
    | zero => rw [if_neg (by omega), ga_nought]
    | succ j =>
      simp only
      rw [ts, co_succ, ga_assoc]
      congr 2
      by_cases c : k ≤ j
      · rw [if_pos (by omega), if_pos c, show j + 1 - (k + 1) = j - k by omega]
      · rw [if_neg (by omega), if_neg c]
theorem ev_mul : ∀ (a b l : List G) (z : G), (∀ j, co l j = ts a b j a.length) → ev l z = gm (ev a z) (ev b z)
  | [], b, l, z, h => by rw [ev_noughts l z (fun i => h i), ev, nought_gm]
  | x :: r, b, l, z, h => by
    have n := r.length + b.length + 1
    have ih := ev_mul r b ((List.range (r.length + b.length)).map (fun j => ts r b j r.length)) z (fun j => by
      rw [co_map]
      by_cases c : j < r.length + b.length
      · rw [if_pos c]
      · rw [if_neg c]
        have := ts_far r b j 0 r.length (fun i _ h2 h3 => by rw [co_out (l := b) (by omega), gm_nought])
        rw [Nat.zero_add] at this
        rw [this]; rfl)
    have e := ev_add l (b.map (gm x)) ((0, 0) :: (List.range (r.length + b.length)).map (fun j => ts r b j r.length)) z (fun j => by
      rw [h, List.length_cons, ts_cons]
      congr 1
      · unfold co
        simp only [List.getD, List.getElem?_map]
        cases b[j]? with
        | none => exact gm_nought x
        | some y => rfl
      · cases j with
        | zero => rfl
        | succ j =>
          rw [co_succ, co_map]
          by_cases c : j < r.length + b.length
          · rw [if_pos c]
          · rw [if_neg c]
            have := ts_far r b j 0 r.length (fun i _ h2 h3 => by rw [co_out (l := b) (by omega), gm_nought])
            rw [Nat.zero_add] at this
            show ts r b j r.length = _
            rw [this]; rfl)
    rw [e, ev_up, ih, ev_scale (b.map (gm x)) b x z (fun i => by
      unfold co
      simp only [List.getD, List.getElem?_map]
      cases b[i]? with
      | none => exact (gm_nought x).symm
      | some y => rfl), ev]
    exact gext (by unfold ga gm; grind) (by unfold ga gm; grind)
end Go.Proofs.Ytmbjgakehghdjaa.Py
