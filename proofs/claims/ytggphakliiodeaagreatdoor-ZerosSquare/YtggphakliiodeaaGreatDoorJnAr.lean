/-
  OWN TEXT: how far a quotient by parts is from a whole number that it should be: plain integers.
-/
import Derived.Test.YtggphakliiodeaaGreatDoorJnAq
import Derived.Test.YtggphakliiodeaaGreatDoorJnAj
import Derived.Test.YtggphakliiodeaaGreatDoorJnAi
namespace Go.Proofs.YtggphakliiodeaaGreatDoor.Zq
set_option linter.unusedVariables false
theorem nabs_add (x y : Int) : (x + y).natAbs ≤ x.natAbs + y.natAbs := Int.natAbs_add_le x y
theorem nabs_sub (x y : Int) : (x - y).natAbs ≤ x.natAbs + y.natAbs := by omega
theorem cancel {G x y : Nat} (hG : 0 < G) (h : G * x ≤ G * y) : x ≤ y := Nat.le_of_mul_le_mul_left h hG
theorem s1 {a1 lU X G : Nat} (h1 : 2251799813685248 * a1 ≤ lU + 4503599627370496 * G) (h2 : lU ≤ X) (h3 : G * 1267650600228229401496703205376 ≤ X) : 1125899906842624 * a1 ≤ X := by omega
theorem s2 {X a1 gk lU : Nat} (h1 : gk ≤ lU + a1) (h2 : lU ≤ X) (h3 : 1125899906842624 * a1 ≤ X) : gk ≤ 2 * X := by omega
theorem s3 {f lk X n : Nat} (h : 4503599627370496 * f ≤ lk + 4503599627370496) (h1 : lk ≤ n * X) (hX : 4503599627370496 ≤ X) : 4503599627370496 * f ≤ n * X + X := by omega
theorem s4 {m lk f X n : Nat} (h : m ≤ lk + f) (h1 : lk ≤ n * X) (h2 : 4503599627370496 * f ≤ (n + 1) * X) (hn : n ≤ 20000) : m ≤ (n + 1) * X := by
  have : (n + 1) * X ≤ 20001 * X := Nat.mul_le_mul_right X (by omega)
  rw [Nat.add_mul, Nat.one_mul] at *
  omega
/-- how great the steps get -/
theorem bounds {U X G : Nat} {g l k m2 t : Int} (hU : 1267650600228229401496703205376 ≤ U) (hG : G = g.natAbs) (hG1 : 1 ≤ G) (hX : X = G * U) (hl : l.natAbs ≤ G)
    (h1 : 2251799813685248 * (g * k - l * (U : Int)).natAbs ≤ l.natAbs * U + 4503599627370496 * G) : 1125899906842624 * (g * k - l * (U : Int)).natAbs ≤ X ∧ k.natAbs ≤ 2 * U := by
  have hGX : G * 1267650600228229401496703205376 ≤ X := by rw [hX]; exact Nat.mul_le_mul_left G hU
  have hlU : l.natAbs * U ≤ X := by rw [hX]; exact Nat.mul_le_mul_right U hl
  have ba1 := s1 h1 hlU hGX
  refine ⟨ba1, cancel hG1 ?_⟩
  have q1 := nabs_add (l * (U : Int)) (g * k - l * (U : Int))
  rw [show l * (U : Int) + (g * k - l * (U : Int)) = g * k by rw [Int.add_comm, Int.sub_add_cancel], Int.natAbs_mul, Int.natAbs_mul l, Int.natAbs_natCast, ← hG] at q1
  rw [show G * (2 * U) = 2 * (G * U) by rw [Nat.mul_left_comm], ← hX]
  exact s2 q1 hlU ba1
/-- a product of a step, rounded: the loss, and how great it is -/
theorem prod_step {U X G n : Nat} {b k m : Int} (hX : X = G * U) (hXU : 4503599627370496 ≤ X) (hb : b.natAbs ≤ n * G) (hk : k.natAbs ≤ 2 * U) (hn : 2 * n ≤ 20000)
    (h : 4503599627370496 * (m - b * k).natAbs ≤ (b * k).natAbs + 4503599627370496) : 4503599627370496 * (m - b * k).natAbs ≤ (2 * n + 1) * X ∧ m.natAbs ≤ (2 * n + 1) * X := by
  have hbk : (b * k).natAbs ≤ 2 * n * X := by
    rw [Int.natAbs_mul, hX]
    refine Nat.le_trans (Nat.mul_le_mul hb hk) ?_
    rw [Nat.mul_mul_mul_comm, Nat.mul_comm n 2]
    exact Nat.le_refl _
  have r1 := s3 h hbk hXU
  rw [show 2 * n * X + X = (2 * n + 1) * X by rw [Nat.add_mul, Nat.one_mul]] at r1
  refine ⟨r1, ?_⟩
  have q := nabs_add (b * k) (m - b * k)
  rw [show b * k + (m - b * k) = m by rw [Int.add_comm, Int.sub_add_cancel]] at q
  exact s4 q hbk r1 hn
/-- a sum of a step, rounded -/
theorem sum_step {U X G n k : Nat} {a m t : Int} (hX : X = G * U) (hXU : 4503599627370496 ≤ X) (ha : a.natAbs ≤ n * G) (hm : m.natAbs ≤ k * X) (hn : n + k ≤ 20000)
    (h : 4503599627370496 * (t - (a * (U : Int) + m)).natAbs ≤ (a * (U : Int) + m).natAbs + 4503599627370496) : 4503599627370496 * (t - (a * (U : Int) + m)).natAbs ≤ (n + k + 1) * X ∧ t.natAbs ≤ (n + k + 1) * X := by
  have haU : (a * (U : Int)).natAbs ≤ n * X := by
    rw [Int.natAbs_mul, Int.natAbs_natCast, hX, ← Nat.mul_assoc]
    exact Nat.mul_le_mul_right U ha
  have hs : (a * (U : Int) + m).natAbs ≤ (n + k) * X := by
    rw [Nat.add_mul]
    exact Nat.le_trans (nabs_add _ _) (Nat.add_le_add haU hm)
  have r1 := s3 h hs hXU
  rw [show (n + k) * X + X = (n + k + 1) * X by rw [Nat.add_mul (n + k) 1, Nat.one_mul]] at r1
  refine ⟨r1, ?_⟩
  have q := nabs_add (a * (U : Int) + m) (t - (a * (U : Int) + m))
  rw [show a * (U : Int) + m + (t - (a * (U : Int) + m)) = t by rw [Int.add_comm, Int.sub_add_cancel]] at q
  exact s4 q hs r1 hn
theorem s5 {Z Bn Cn Dn Y E F : Nat} (h0 : Bn ≤ Y + Cn + Dn) (h1 : Z ≤ Bn) (h2 : Cn ≤ E) (h3 : Dn ≤ F) (h4 : 1125899906842624 * E ≤ Z) (h5 : 4503599627370496 * F ≤ 8 * Z) : Z ≤ 2 * Y := by omega
theorem t_low {U X G : Nat} {g l k m2 t a1 f2 f3 : Int} (hG : G = g.natAbs) (hG1 : 1 ≤ G) (hX : X = G * U) (hl : l.natAbs ≤ G) (e1 : g * k = l * (U : Int) + a1) (e2 : m2 = l * k + f2) (e3 : t = g * (U : Int) + m2 + f3)
    (ba1 : 1125899906842624 * a1.natAbs ≤ X) (bf2 : 4503599627370496 * f2.natAbs ≤ 3 * X) (bf3 : 4503599627370496 * f3.natAbs ≤ 5 * X) : X ≤ 2 * t.natAbs := by
  refine cancel hG1 ?_
  have q1 : (g * g + l * l) * (U : Int) = g * t + (-(l * a1)) + (-(g * (f2 + f3))) := by
    rw [e3, e2]
    have : g * (l * k) = l * (l * (U : Int) + a1) := by rw [← e1]; grind
    grind
  have q0 := nabs_add (g * t + (-(l * a1))) (-(g * (f2 + f3)))
  have q0' := nabs_add (g * t) (-(l * a1))
  rw [← q1] at q0
  have q2 : (g * t).natAbs = G * t.natAbs := by rw [Int.natAbs_mul, ← hG]
  have q3 : (-(l * a1)).natAbs ≤ G * a1.natAbs := by rw [Int.natAbs_neg, Int.natAbs_mul]; exact Nat.mul_le_mul_right _ hl
  have q4 : (-(g * (f2 + f3))).natAbs ≤ G * (f2.natAbs + f3.natAbs) := by rw [Int.natAbs_neg, Int.natAbs_mul, ← hG]; exact Nat.mul_le_mul_left _ (nabs_add f2 f3)
  have q5 : G * X ≤ ((g * g + l * l) * (U : Int)).natAbs := by
    rw [Int.natAbs_mul, Int.natAbs_natCast]
    have s1 : (g * g + l * l).natAbs = G * G + l.natAbs * l.natAbs := by
      have u1 : g * g = ((G * G : Nat) : Int) := by rw [hG]; exact (Int.natAbs_mul_self (a := g)).symm
      have u2 : l * l = ((l.natAbs * l.natAbs : Nat) : Int) := (Int.natAbs_mul_self (a := l)).symm
      rw [u1, u2, ← Int.natCast_add, Int.natAbs_natCast]
    rw [s1, hX, ← Nat.mul_assoc]
    exact Nat.mul_le_mul_right U (Nat.le_add_right _ _)
  have q6 : G * (1125899906842624 * a1.natAbs) ≤ G * X := Nat.mul_le_mul_left G ba1
  have q7 : G * (4503599627370496 * (f2.natAbs + f3.natAbs)) ≤ G * (8 * X) := Nat.mul_le_mul_left G (by rw [Nat.mul_add]; generalize f2.natAbs = x at *; generalize f3.natAbs = y at *; clear q1 q0 q0' q2 q3 q4 q5 q6 e1 e2 e3 ba1 hX hG; omega)
  rw [Nat.mul_left_comm] at q6 q7
  rw [Nat.mul_left_comm G 8 X] at q7
  rw [Nat.mul_left_comm G 2 t.natAbs, ← q2]
  exact s5 (Nat.le_trans q0 (Nat.add_le_add_right q0' _)) q5 q3 q4 q6 q7
theorem s6 {X a1 x2 x3 x4 x5 y : Nat} (h : y ≤ 5000 * a1 + (x4 + x5 + 1000 * x2 + 1000 * x3)) (b1 : 1125899906842624 * a1 ≤ X) (b2 : 4503599627370496 * x2 ≤ 3 * X) (b3 : 4503599627370496 * x3 ≤ 5 * X) (b4 : 4503599627370496 * x4 ≤ 8001 * X) (b5 : 4503599627370496 * x5 ≤ 12002 * X) : 68719476736 * y ≤ X := by omega
theorem ident (g l a b v k U a1 f2 f3 f4 f5 : Int) (he : a * g + b * l = v * (g * g + l * l)) (e1 : g * k = l * U + a1) :
    g * (a * U + (b * k + f4) + f5 - v * (g * U + (l * k + f2) + f3)) = (b - v * l) * a1 + g * (f4 + f5 + -(v * f2) + -(v * f3)) := by
  have t1 : g * (a * U + (b * k + f4) + f5 - v * (g * U + (l * k + f2) + f3)) = (a * g - v * (g * g)) * U + (b - v * l) * (g * k) + g * (f4 + f5 + -(v * f2) + -(v * f3)) := by grind
  have t2 : a * g - v * (g * g) = v * (l * l) - b * l := by rw [Int.mul_add] at he; omega
  rw [t1, e1, t2]
  grind
/-- how far the dividend is -/
theorem d_far {U X G : Nat} {g l a b v k m2 t m4 A a1 f2 f3 f4 f5 : Int} (hG : G = g.natAbs) (hG1 : 1 ≤ G) (hl : l.natAbs ≤ G) (hv : v.natAbs ≤ 1000) (hb : b.natAbs ≤ 4000 * G) (he : a * g + b * l = v * (g * g + l * l))
    (e1 : g * k = l * (U : Int) + a1) (e2 : m2 = l * k + f2) (e3 : t = g * (U : Int) + m2 + f3) (e4 : m4 = b * k + f4) (e5 : A = a * (U : Int) + m4 + f5)
    (ba1 : 1125899906842624 * a1.natAbs ≤ X) (bf2 : 4503599627370496 * f2.natAbs ≤ 3 * X) (bf3 : 4503599627370496 * f3.natAbs ≤ 5 * X) (bf4 : 4503599627370496 * f4.natAbs ≤ 8001 * X) (bf5 : 4503599627370496 * f5.natAbs ≤ 12002 * X) : 68719476736 * (A - v * t).natAbs ≤ X := by
  have q1 : g * (A - v * t) = (b - v * l) * a1 + g * (f4 + f5 + -(v * f2) + -(v * f3)) := by
    rw [e5, e4, e3, e2]
    exact ident g l a b v k U a1 f2 f3 f4 f5 he e1
  have q2 : (g * (A - v * t)).natAbs = G * (A - v * t).natAbs := by rw [Int.natAbs_mul, ← hG]
  have q3 : ((b - v * l) * a1).natAbs ≤ G * (5000 * a1.natAbs) := by
    rw [Int.natAbs_mul]
    have s1 : (v * l).natAbs ≤ 1000 * G := by rw [Int.natAbs_mul]; exact Nat.mul_le_mul hv hl
    have s2 := nabs_sub b (v * l)
    have s3 : (b - v * l).natAbs ≤ 5000 * G := Nat.le_trans s2 (by rw [show 5000 * G = 4000 * G + 1000 * G by rw [← Nat.add_mul]]; exact Nat.add_le_add hb s1)
    refine Nat.le_trans (Nat.mul_le_mul_right _ s3) ?_
    rw [Nat.mul_comm 5000 G, Nat.mul_assoc]
    exact Nat.le_refl _
  have vf : ∀ f : Int, (-(v * f)).natAbs ≤ 1000 * f.natAbs := fun f => by rw [Int.natAbs_neg, Int.natAbs_mul]; exact Nat.mul_le_mul_right _ hv
  have q4 : (f4 + f5 + -(v * f2) + -(v * f3)).natAbs ≤ f4.natAbs + f5.natAbs + 1000 * f2.natAbs + 1000 * f3.natAbs :=
    Nat.le_trans (nabs_add _ _) (Nat.add_le_add (Nat.le_trans (nabs_add _ _) (Nat.add_le_add (nabs_add _ _) (vf f2))) (vf f3))
  have q5 : (g * (f4 + f5 + -(v * f2) + -(v * f3))).natAbs ≤ G * (f4.natAbs + f5.natAbs + 1000 * f2.natAbs + 1000 * f3.natAbs) := by rw [Int.natAbs_mul, ← hG]; exact Nat.mul_le_mul_left _ q4
  have q6 := nabs_add ((b - v * l) * a1) (g * (f4 + f5 + -(v * f2) + -(v * f3)))
  rw [← q1, q2] at q6
  have q7 : G * (A - v * t).natAbs ≤ G * (5000 * a1.natAbs + (f4.natAbs + f5.natAbs + 1000 * f2.natAbs + 1000 * f3.natAbs)) := by
    rw [Nat.mul_add]
    exact Nat.le_trans q6 (Nat.add_le_add q3 q5)
  exact s6 (cancel hG1 q7) ba1 bf2 bf3 bf4 bf5
theorem s7 {W Y Z F f6 B T : Nat} (h1 : Y ≤ F + f6) (h2 : 68719476736 * F ≤ W) (h3 : 2251799813685248 * f6 ≤ B + 4503599627370496 * T) (h4 : B ≤ 12002 * W) (h5 : 1267650600228229401496703205376 * T ≤ 9 * W) (h6 : Z ≤ 2 * Y) : 8589934592 * Z ≤ W := by omega
/-- g the greater part of the divisor, l the lesser; k their quotient, t the divisor; a, b the dividend's parts; z the answer, v what it should be; U units -/
theorem comp_core {U : Nat} {g l a b v k m2 t m4 A z : Int} (hU : 1267650600228229401496703205376 ≤ U) (hg : g ≠ 0) (hl : l.natAbs ≤ g.natAbs) (hv : v.natAbs ≤ 1000) (ha : a.natAbs ≤ 4000 * g.natAbs) (hb : b.natAbs ≤ 4000 * g.natAbs)
    (he : a * g + b * l = v * (g * g + l * l))
    (h1 : 2251799813685248 * (g * k - l * (U : Int)).natAbs ≤ l.natAbs * U + 4503599627370496 * g.natAbs)
    (h2 : 4503599627370496 * (m2 - l * k).natAbs ≤ (l * k).natAbs + 4503599627370496)
    (h3 : 4503599627370496 * (t - (g * (U : Int) + m2)).natAbs ≤ (g * (U : Int) + m2).natAbs + 4503599627370496)
    (h4 : 4503599627370496 * (m4 - b * k).natAbs ≤ (b * k).natAbs + 4503599627370496)
    (h5 : 4503599627370496 * (A - (a * (U : Int) + m4)).natAbs ≤ (a * (U : Int) + m4).natAbs + 4503599627370496)
    (h6 : 2251799813685248 * (z * t - A * (U : Int)).natAbs ≤ A.natAbs * U + 4503599627370496 * t.natAbs) :
    8589934592 * (z - v * (U : Int)).natAbs ≤ U := by
  obtain ⟨G, hG⟩ : ∃ G, G = g.natAbs := ⟨_, rfl⟩
  have hG1 : 1 ≤ G := by rw [hG]; exact Int.natAbs_pos.2 hg
  obtain ⟨X, hX⟩ : ∃ X, X = G * U := ⟨_, rfl⟩
  have hXU : U ≤ X := by rw [hX]; exact Nat.le_mul_of_pos_left U hG1
  have hX5 : 4503599627370496 ≤ X := Nat.le_trans (by decide) (Nat.le_trans hU hXU)
  rw [← hG] at hl ha hb h1
  obtain ⟨b1, bk⟩ := bounds (m2 := m2) (t := t) hU hG hG1 hX hl h1
  obtain ⟨b2, c2⟩ := prod_step (n := 1) hX hX5 (by rw [Nat.one_mul]; exact hl) bk (by decide) h2
  obtain ⟨b3, c3⟩ := sum_step (n := 1) (k := 3) hX hX5 (by rw [Nat.one_mul, ← hG]; exact Nat.le_refl _) c2 (by decide) h3
  obtain ⟨b4, c4⟩ := prod_step (n := 4000) hX hX5 hb bk (by decide) h4
  obtain ⟨b5, c5⟩ := sum_step (n := 4000) (k := 8001) hX hX5 ha c4 (by decide) h5
  have e1 : g * k = l * (U : Int) + (g * k - l * (U : Int)) := by rw [Int.add_comm, Int.sub_add_cancel]
  have e2 : m2 = l * k + (m2 - l * k) := by rw [Int.add_comm, Int.sub_add_cancel]
  have e3 : t = g * (U : Int) + m2 + (t - (g * (U : Int) + m2)) := by rw [Int.add_comm, Int.sub_add_cancel]
  have e4 : m4 = b * k + (m4 - b * k) := by rw [Int.add_comm, Int.sub_add_cancel]
  have e5 : A = a * (U : Int) + m4 + (A - (a * (U : Int) + m4)) := by rw [Int.add_comm, Int.sub_add_cancel]
  have lt := t_low hG hG1 hX hl e1 e2 e3 b1 b2 b3
  have fd := d_far hG hG1 hl hv hb he e1 e2 e3 e4 e5 b1 b2 b3 b4 b5
  have q1 : t * (z - v * (U : Int)) = (U : Int) * (A - v * t) + (z * t - A * (U : Int)) := by grind
  have q6 := nabs_add ((U : Int) * (A - v * t)) (z * t - A * (U : Int))
  rw [← q1, Int.natAbs_mul (U : Int), Int.natAbs_natCast, Int.natAbs_mul] at q6
  have q3 : 68719476736 * (U * (A - v * t).natAbs) ≤ U * X := by rw [Nat.mul_left_comm]; exact Nat.mul_le_mul_left U fd
  have q4 : A.natAbs * U ≤ 12002 * (U * X) := by
    refine Nat.le_trans (Nat.mul_le_mul_right U c5) ?_
    rw [Nat.mul_assoc, Nat.mul_comm X U]
    exact Nat.le_refl _
  have q5 : 1267650600228229401496703205376 * t.natAbs ≤ 9 * (U * X) := by
    refine Nat.le_trans (Nat.mul_le_mul hU c3) ?_
    rw [Nat.mul_left_comm]
    exact Nat.mul_le_mul_right _ (by decide)
  have q7 : X * (z - v * (U : Int)).natAbs ≤ 2 * (t.natAbs * (z - v * (U : Int)).natAbs) := by
    rw [← Nat.mul_assoc]
    exact Nat.mul_le_mul_right _ lt
  refine cancel (Nat.lt_of_lt_of_le (by decide) hX5) ?_
  rw [Nat.mul_left_comm X 8589934592, Nat.mul_comm X U]
  exact s7 q6 q3 h6 q4 q5 q7
end Go.Proofs.YtggphakliiodeaaGreatDoor.Zq
/-
  OWN TEXT: sines and cosines of fit floats, as they come out, are at most 1 without their signs.
-/
set_option linter.unusedVariables false
set_option exponentiation.threshold 3000
namespace Go.Proofs.YtggphakliiodeaaGreatDoor
/-- how far rounding goes -/
theorem rq_err (n d : Nat) (hf : Fl.rq n d < 9218868437227405312) : ∃ e, Fl.vl (Fl.rq n d) * 2 ^ d ≤ n + e ∧ n ≤ Fl.vl (Fl.rq n d) * 2 ^ d + e ∧ 4503599627370496 * e ≤ n + 4503599627370496 * 2 ^ d := by
  by_cases z : n = 0
  · subst z
    have : Fl.rq 0 d = 0 := by unfold Fl.rq; rfl
    rw [this, show Fl.vl 0 = 0 by decide]
    exact ⟨0, by omega, by omega, by omega⟩
  · obtain ⟨k, hk⟩ : ∃ k, k = n.log2 - (52 + d) := ⟨_, rfl⟩
    have hl := Fl.log2_lt n z
    have hl2 := Fl.log2_le n z
    have hp := Nat.two_pow_pos (k + d)
    have m1 : Fl.rne n (k + d) ≤ 9007199254740992 := by
      refine Fl.rne_le _ _ _ ?_
      rw [show (9007199254740992 : Nat) = 2 ^ 53 from rfl, ← Nat.pow_add]
      have : 2 ^ (n.log2 + 1) ≤ 2 ^ (53 + (k + d)) := Nat.pow_le_pow_right (by omega) (by omega)
      omega
    have m2 : k = 0 ∨ 4503599627370496 ≤ Fl.rne n (k + d) := by
      by_cases c : k = 0
      · exact Or.inl c
      · right
        refine Fl.le_rne _ _ _ ?_
        rw [show (4503599627370496 : Nat) = 2 ^ 52 from rfl, ← Nat.pow_add, show 52 + (k + d) = n.log2 by omega]
        exact hl2
    have er : Fl.rq n d = k * 4503599627370496 + Fl.rne n (k + d) := by
      unfold Fl.rq at hf ⊢
      rw [if_neg z, ← hk] at hf ⊢
      omega
    have ev : Fl.vl (Fl.rq n d) * 2 ^ d = Fl.rne n (k + d) * 2 ^ (k + d) := by
      rw [er, Fl.vl_comb k _ m1 m2, Nat.mul_assoc, ← Nat.pow_add]
    rw [ev]
    have hb := Fl.rne_bounds n (k + d)
    refine ⟨2 ^ (k + d), by omega, by omega, ?_⟩
    by_cases c : k = 0
    · rw [c, Nat.zero_add]; omega
    · have : 4503599627370496 * 2 ^ (k + d) ≤ n := by
        rw [show (4503599627370496 : Nat) = 2 ^ 52 from rfl, ← Nat.pow_add, show 52 + (k + d) = n.log2 by omega]
        exact hl2
      omega
theorem vT : Fl.vl 4603909380684499075 = 5734161139222659 * 2 ^ 1021 := by decide +kernel
theorem vA : Fl.vl 4609753056924401664 = 7074237751754752 * 2 ^ 1022 := by decide +kernel
theorem v20 : Fl.vl 4697254411347427328 = 4722366482869645213696 * 2 ^ 1022 := by decide +kernel
theorem lin1 (PG XG XT e G : Nat) (h : 2 * XT = 5734161139222659 * XG) (h1 : 4503599627370496 * PG ≤ XT + e) (h2 : 4503599627370496 * e ≤ XT + 4503599627370496 * (4503599627370496 * G)) :
  40564819207303340847894502572032 * PG ≤ 4503599627370496 * (5734161139222659 * XG) + 5734161139222659 * XG + 40564819207303340847894502572032 * G := by
  generalize 5734161139222659 * XG = Y at *
  subst h
  have a1 := Nat.mul_le_mul_left 9007199254740992 h1
  omega
theorem lin2 (PG XG XT e G : Nat) (h : 2 * XT = 5734161139222659 * XG) (h1 : XT ≤ 4503599627370496 * PG + e) (h2 : 4503599627370496 * e ≤ XT + 4503599627370496 * (4503599627370496 * G)) :
  4503599627370496 * (5734161139222659 * XG) ≤ 40564819207303340847894502572032 * PG + 5734161139222659 * XG + 40564819207303340847894502572032 * G := by
  generalize 5734161139222659 * XG = Y at *
  subst h
  have a1 := Nat.mul_le_mul_left 9007199254740992 h1
  omega
theorem lin3 (QC MC C f : Nat) (h1 : QC ≤ MC + f) (h2 : 4503599627370496 * f ≤ MC + 4503599627370496 * C) : 4503599627370496 * QC ≤ 4503599627370496 * MC + MC + 4503599627370496 * C := by
  have a := Nat.mul_le_mul_left 4503599627370496 h1
  omega
theorem lin4 (QC MC C f : Nat) (h1 : MC ≤ QC + f) (h2 : 4503599627370496 * f ≤ MC + 4503599627370496 * C) : 4503599627370496 * MC ≤ 4503599627370496 * QC + MC + 4503599627370496 * C := by
  have a := Nat.mul_le_mul_left 4503599627370496 h1
  omega
theorem fin1 (X P MG G : Nat) (hX : X ≤ 4722366482869645213696 * G)
    (k1 : 40564819207303340847894502572032 * P ≤ 4503599627370496 * (5734161139222659 * X) + 5734161139222659 * X + 40564819207303340847894502572032) (hG : 1 ≤ G)
    (b2 : 2 * (4503599627370496 * MG) ≤ 2 * P + 4503599627370496 * G) : MG ≤ 1048576 * G := by omega
theorem fin2 (X P MG Q G : Nat) (hG : 1 ≤ G) (hX : X ≤ 4722366482869645213696 * G) (hm : MG ≤ 1048576 * G)
    (k2 : 4503599627370496 * (5734161139222659 * X) ≤ 40564819207303340847894502572032 * P + 5734161139222659 * X + 40564819207303340847894502572032)
    (b1 : 2 * P ≤ 2 * (4503599627370496 * MG) + 4503599627370496 * G)
    (j2 : 4503599627370496 * (7074237751754752 * MG) ≤ 4503599627370496 * Q + 7074237751754752 * MG + 4503599627370496) : X ≤ Q + 3602879701896396 * G := by
  omega
theorem fin3 (X P MG Q G : Nat) (hG : 1 ≤ G) (hX : X ≤ 4722366482869645213696 * G) (hm : MG ≤ 1048576 * G)
    (k1 : 40564819207303340847894502572032 * P ≤ 4503599627370496 * (5734161139222659 * X) + 5734161139222659 * X + 40564819207303340847894502572032)
    (b2 : 2 * (4503599627370496 * MG) ≤ 2 * P + 4503599627370496 * G)
    (j1 : 4503599627370496 * Q ≤ 4503599627370496 * (7074237751754752 * MG) + 7074237751754752 * MG + 4503599627370496) : Q ≤ X + 3602879701896396 * G := by
  omega
/-- the float less its quarters' first piece -/
theorem less_first (c g X p M : Nat) (hc : c = 1074) (hg : g = 1022) (hX : X ≤ Fl.vl 4697254411347427328) (hp : p = Fl.rq (X * Fl.vl 4603909380684499075) c) (hpf : p < 9218868437227405312) (hM : M = Fl.rne (Fl.vl p) c) (hq : Fl.rq (M * 2 ^ c * Fl.vl 4609753056924401664) c < 9218868437227405312) :
    X ≤ Fl.vl (Fl.rq (M * 2 ^ c * Fl.vl 4609753056924401664) c) + 3602879701896396 * 2 ^ g ∧ Fl.vl (Fl.rq (M * 2 ^ c * Fl.vl 4609753056924401664) c) ≤ X + 3602879701896396 * 2 ^ g ∧ M ≤ 1048576 := by
  obtain ⟨e, e1, e2, e3⟩ := rq_err (X * Fl.vl 4603909380684499075) c (by rw [← hp]; exact hpf)
  rw [← hp] at e1 e2
  have b := Fl.rne_bounds (Fl.vl p) c
  rw [← hM] at b
  obtain ⟨f, f1, f2, f3⟩ := rq_err (M * 2 ^ c * Fl.vl 4609753056924401664) c hq
  generalize Fl.vl (Fl.rq (M * 2 ^ c * Fl.vl 4609753056924401664) c) = Q at *
  rw [v20] at hX
  have h1 : (2 : Nat) ^ c = 4503599627370496 * 2 ^ g := by rw [hc, hg, show (4503599627370496 : Nat) = 2 ^ 52 from rfl, ← Nat.pow_add]
  have h2 : Fl.vl 4603909380684499075 * 2 = 5734161139222659 * 2 ^ g := by
    rw [vT, hg, Nat.mul_assoc]
  have h3 : Fl.vl 4609753056924401664 = 7074237751754752 * 2 ^ g := by rw [vA, hg]
  rw [← hg] at hX
  obtain ⟨G, hG⟩ : ∃ G, G = 2 ^ g := ⟨_, rfl⟩
  have hG1 : 1 ≤ G := by rw [hG]; exact Nat.two_pow_pos g
  rw [← hG] at h1 h2 h3 hX ⊢
  have hXT : 2 * (X * Fl.vl 4603909380684499075) = 5734161139222659 * (X * G) := by rw [Nat.mul_comm 2, Nat.mul_assoc, h2, Nat.mul_left_comm]
  have hPG : Fl.vl p * 2 ^ c = 4503599627370496 * (Fl.vl p * G) := by rw [h1, Nat.mul_left_comm]
  rw [hPG] at e1 e2
  rw [h1] at e3
  have l1 := lin1 _ _ _ _ G hXT e1 e3
  have l2 := lin2 _ _ _ _ G hXT e2 e3
  have k1 : 40564819207303340847894502572032 * Fl.vl p ≤ 4503599627370496 * (5734161139222659 * X) + 5734161139222659 * X + 40564819207303340847894502572032 := by
    refine Nat.le_of_mul_le_mul_right (c := G) ?_ hG1
    rw [Nat.add_mul, Nat.add_mul, Nat.mul_assoc, Nat.mul_assoc 4503599627370496, Nat.mul_assoc 5734161139222659]
    exact l1
  have k2 : 4503599627370496 * (5734161139222659 * X) ≤ 40564819207303340847894502572032 * Fl.vl p + 5734161139222659 * X + 40564819207303340847894502572032 := by
    refine Nat.le_of_mul_le_mul_right (c := G) ?_ hG1
    rw [Nat.add_mul, Nat.add_mul, Nat.mul_assoc, Nat.mul_assoc 5734161139222659, Nat.mul_assoc 40564819207303340847894502572032]
    exact l2
  have hMG : M * 2 ^ c = 4503599627370496 * (M * G) := by rw [h1, Nat.mul_left_comm]
  have hMA : M * 2 ^ c * Fl.vl 4609753056924401664 = 7074237751754752 * (M * G) * 2 ^ c := by rw [h3, Nat.mul_assoc, Nat.mul_comm (2 ^ c), ← Nat.mul_assoc, Nat.mul_left_comm M]
  rw [hMA] at f1 f2 f3
  have hC : 0 < 2 ^ c := Nat.two_pow_pos c
  have m1 := lin3 _ _ _ _ f1 f3
  have m2 := lin4 _ _ _ _ f2 f3
  have j1 : 4503599627370496 * Q ≤ 4503599627370496 * (7074237751754752 * (M * G)) + 7074237751754752 * (M * G) + 4503599627370496 := by
    refine Nat.le_of_mul_le_mul_right (c := 2 ^ c) ?_ hC
    rw [Nat.add_mul, Nat.add_mul, Nat.mul_assoc, Nat.mul_assoc 4503599627370496 (7074237751754752 * (M * G))]
    exact m1
  have j2 : 4503599627370496 * (7074237751754752 * (M * G)) ≤ 4503599627370496 * Q + 7074237751754752 * (M * G) + 4503599627370496 := by
    refine Nat.le_of_mul_le_mul_right (c := 2 ^ c) ?_ hC
    rw [Nat.add_mul, Nat.add_mul, Nat.mul_assoc, Nat.mul_assoc 4503599627370496 Q]
    exact m2
  rw [hMG, h1] at b
  have hm := fin1 X (Fl.vl p) (M * G) G hX k1 hG1 b.1
  exact ⟨fin2 X (Fl.vl p) (M * G) Q G hG1 hX hm k2 b.2 j2, fin3 X (Fl.vl p) (M * G) Q G hG1 hX hm k1 b.1 j1, Nat.le_of_mul_le_mul_right hm hG1⟩
end Go.Proofs.YtggphakliiodeaaGreatDoor
