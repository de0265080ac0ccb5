/-
  OWN TEXT: plain laws on Lehmer's steps of Euclid: what the first bits tell, and what comes of the whole numbers.
-/
import Derived.Test.YtlbikopancleoaaGreatDoorJnBm
namespace Go.Proofs.YtlbikopancleoaaGreatDoor.Bg
set_option linter.unusedVariables false
/-- the state of Lehmer's steps -/
structure LI (X Y x y u0 u1 u2 v0 v1 v2 : Nat) (e : Bool) : Prop where
  hX : X = v2 * x + v1 * y
  hY : Y = u2 * x + u1 * y
  le : y ≤ x
  d0 : e = false → u1 * v2 = u2 * v1 + 1
  d1 : e = true → u2 * v1 = u1 * v2 + 1
  k2 : u2 ≤ v2
  k0 : 1 ≤ v2
  k1 : v1 ≤ v2
  kk : u1 ≤ v1 ∨ (v1 = 0 ∧ u1 = 1 ∧ u2 = 0 ∧ v2 = 1)
  b : v0 = 0 ∨ (∃ p, (e = false → p + u0 * X = v0 * Y ∧ x + v1 * Y = u1 * X ∧ u1 * v0 = u0 * v1 + 1) ∧ (e = true → p + v0 * Y = u0 * X ∧ x + u1 * X = v1 * Y ∧ u0 * v1 = u1 * v0 + 1) ∧ v1 ≤ x ∧ x + v0 + v1 ≤ p ∧ v0 ≤ v1 ∧ v1 * v1 ≤ X ∧ u0 ≤ v0 ∧ u1 ≤ v1)

theorem li_start (X Y : Nat) (h : Y ≤ X) : LI X Y X Y 0 1 0 0 0 1 false :=
  ⟨by simp, by simp, h, by simp, by simp, by simp, by simp, by simp, by simp, Or.inl rfl⟩

theorem li_x {X Y x y u0 u1 u2 v0 v1 v2 : Nat} {e : Bool} (h : LI X Y x y u0 u1 u2 v0 v1 v2 e) : e = false → x + v1 * Y = u1 * X := by
  intro he
  have := h.d0 he
  have := h.hX
  have := h.hY
  grind
theorem li_x' {X Y x y u0 u1 u2 v0 v1 v2 : Nat} {e : Bool} (h : LI X Y x y u0 u1 u2 v0 v1 v2 e) : e = true → x + u1 * X = v1 * Y := by
  intro he
  have := h.d1 he
  have := h.hX
  have := h.hY
  grind
theorem li_y {X Y x y u0 u1 u2 v0 v1 v2 : Nat} {e : Bool} (h : LI X Y x y u0 u1 u2 v0 v1 v2 e) : e = false → y + u2 * X = v2 * Y := by
  intro he
  have := h.d0 he
  have := h.hX
  have := h.hY
  grind
theorem li_y' {X Y x y u0 u1 u2 v0 v1 v2 : Nat} {e : Bool} (h : LI X Y x y u0 u1 u2 v0 v1 v2 e) : e = true → y + v2 * Y = u2 * X := by
  intro he
  have := h.d1 he
  have := h.hX
  have := h.hY
  grind
theorem li_step {X Y x y u0 u1 u2 v0 v1 v2 : Nat} {e : Bool} (h : LI X Y x y u0 u1 u2 v0 v1 v2 e) (c1 : v2 ≤ y) (c2 : v1 + v2 ≤ x - y) :
    LI X Y y (x - x / y * y) u1 u2 (u1 + x / y * u2) v1 v2 (v1 + x / y * v2) (!e) := by
  have hy : 0 < y := by have := h.k0; omega
  have hq : 1 ≤ x / y := (Nat.le_div_iff_mul_le hy).2 (by have := h.le; omega)
  have hqy : x / y * y ≤ x := Nat.div_mul_le_self x y
  have hm : x - x / y * y = x % y := by rw [Nat.mul_comm]; have := Nat.div_add_mod x y; omega
  have hlt : x % y < y := Nat.mod_lt _ hy
  obtain ⟨r, hr⟩ : ∃ r, x = x / y * y + r := ⟨x - x / y * y, by omega⟩
  have hr2 : x - x / y * y = r := by omega
  generalize x / y = q at *
  rw [hr2]
  have hqv : v2 ≤ q * v2 := Nat.le_mul_of_pos_left _ hq
  have hqu : q * u2 ≤ q * v2 := Nat.mul_le_mul_left _ h.k2
  have hvx : v2 * v2 ≤ X := by
    have h1 : v2 * v2 ≤ v2 * x := Nat.mul_le_mul_left _ (by have := h.le; omega)
    have := h.hX
    omega
  constructor
  · have := h.hX; subst hr; rw [this]; grind
  · have := h.hY; subst hr; rw [this]; grind
  · omega
  · intro he
    have : e = true := by simpa using he
    have := h.d1 this
    grind
  · intro he
    have : e = false := by simpa using he
    have := h.d0 this
    grind
  · rcases h.kk with k | ⟨a, b, c, d⟩
    · omega
    · subst a b c d; simp; omega
  · have := h.k0; omega
  · omega
  · exact Or.inl h.k2
  · by_cases z : v1 = 0
    · exact Or.inl z
    · right
      have hu : u1 ≤ v1 := by rcases h.kk with k | ⟨a, _⟩; exact k; exact absurd a z
      refine ⟨x, fun he => ?_, fun he => ?_, c1, by have := h.le; omega, h.k1, hvx, hu, h.k2⟩
      · have e1 : e = true := by simpa using he
        refine ⟨li_x' h e1, li_y' h e1, h.d1 e1⟩
      · have e1 : e = false := by simpa using he
        refine ⟨li_x h e1, li_y h e1, h.d0 e1⟩
theorem li_bounds {X Y x y u0 u1 u2 v0 v1 v2 : Nat} {e : Bool} (h : LI X Y x y u0 u1 u2 v0 v1 v2 e) (hX : 0 < X) (B : Nat) (hB : X < B) : v2 < B ∧ u2 < B ∧ v1 < B ∧ u1 < B ∧ x < B ∧ y < B ∧ 0 < x := by
  have hx : 0 < x := by
    rcases Nat.eq_zero_or_pos x with z | z
    · have h1 := h.le; have h2 := h.hX
      subst z
      have : y = 0 := by omega
      subst this
      simp at h2; omega
    · exact z
  have h1 : v2 * 1 ≤ v2 * x := Nat.mul_le_mul_left _ hx
  have h3 : 1 * x ≤ v2 * x := Nat.mul_le_mul_right _ h.k0
  have h2 := h.hX
  have := h.k2; have := h.k1; have := h.k0; have := h.le
  have hu : u1 < B := by
    rcases h.kk with k | ⟨a, b, c, d⟩ <;> omega
  omega
/-- every common divisor of the first pair divides the second pair -/
def CD (P Q N M : Nat) : Prop := ∀ g, g ∣ P → g ∣ Q → g ∣ N ∧ g ∣ M
theorem CD.refl (P Q : Nat) : CD P Q P Q := fun _ a b => ⟨a, b⟩
theorem CD.swap (P Q : Nat) : CD P Q Q P := fun _ a b => ⟨b, a⟩
theorem CD.trans {A B P Q N M : Nat} (h : CD A B P Q) (k : CD P Q N M) : CD A B N M := fun g a b => k g (h g a b).1 (h g a b).2
theorem CD.rest (P Q : Nat) : CD Q (P % Q) P Q := fun g a b => ⟨by
  have : P = Q * (P / Q) + P % Q := (Nat.div_add_mod P Q).symm
  rw [this]
  exact Nat.dvd_add (Nat.dvd_trans a ⟨_, rfl⟩) b, a⟩
/-- the blend that lies not below nought, in one direction -/
theorem col_ge (X Y n a b α β s t p : Nat) (ha : a = X * n + α) (hb : b = Y * n + β) (hβ : β < n) (hα : α < n) (hp : p + t * Y = s * X) (hpt : t ≤ p) : ∃ R : Nat, (s : Int) * a + -(t : Int) * b = R ∧ R + t * b = s * a ∧ R = p * n + s * α - t * β ∧ t * β ≤ p * n + s * α := by
  have e1 : s * a = p * n + t * (Y * n) + s * α := by
    subst ha
    have : s * X * n = (p + t * Y) * n := by rw [hp]
    grind
  have e2 : t * b = t * (Y * n) + t * β := by subst hb; grind
  have e3 : t * β ≤ t * n := Nat.mul_le_mul_left _ (by omega)
  have e4 : t * n ≤ p * n := Nat.mul_le_mul_right _ hpt
  have hle : t * β ≤ p * n + s * α := by omega
  refine ⟨p * n + s * α - t * β, ?_, by omega, rfl, hle⟩
  have i1 : (s : Int) * a = ((s * a : Nat) : Int) := by simp
  have i2 : -(t : Int) * b = -((t * b : Nat) : Int) := by rw [Int.neg_mul]; simp
  rw [i1, i2]
  omega
theorem li_out (X Y n a b α β x u0 u1 v0 v1 p : Nat) (ha : a = X * n + α) (hb : b = Y * n + β) (hβ : β < n) (hα : α < n) (hv0 : v0 ≠ 0)
    (h1 : v1 ≤ x) (h2 : x + v0 + v1 ≤ p) (h3 : v0 ≤ v1) (hu0 : u0 ≤ v0) (hu1 : u1 ≤ v1)
    (he : p + v0 * Y = u0 * X ∧ x + u1 * X = v1 * Y ∧ u0 * v1 = u1 * v0 + 1) :
    ∃ A B : Nat, (u0 : Int) * a + -(v0 : Int) * b = A ∧ -(u1 : Int) * a + (v1 : Int) * b = B ∧ B ≤ A ∧ a = v1 * A + v0 * B ∧ b = u1 * A + u0 * B := by
  obtain ⟨A, a1, a2, a3, a4⟩ := col_ge X Y n a b α β u0 v0 p ha hb hβ hα he.1 (by omega)
  obtain ⟨B, b1, b2, b3, b4⟩ := col_ge Y X n b a β α v1 u1 x hb ha hα hβ he.2.1 (by omega)
  refine ⟨A, B, a1, by omega, ?_, ?_, ?_⟩
  · have g1 : (x + v0 + v1) * n ≤ p * n := Nat.mul_le_mul_right _ h2
    have g2 : v0 * β ≤ v0 * n := Nat.mul_le_mul_left _ (by omega)
    have g3 : v1 * β ≤ v1 * n := Nat.mul_le_mul_left _ (by omega)
    rw [Nat.add_mul, Nat.add_mul] at g1
    omega
  · have := he.2.2; grind
  · have := he.2.2; grind
theorem li_out' (X Y n a b α β x u0 u1 v0 v1 p : Nat) (ha : a = X * n + α) (hb : b = Y * n + β) (hβ : β < n) (hα : α < n) (hv0 : v0 ≠ 0)
    (h1 : v1 ≤ x) (h2 : x + v0 + v1 ≤ p) (h3 : v0 ≤ v1) (hu0 : u0 ≤ v0) (hu1 : u1 ≤ v1)
    (he : p + u0 * X = v0 * Y ∧ x + v1 * Y = u1 * X ∧ u1 * v0 = u0 * v1 + 1) :
    ∃ A B : Nat, -(u0 : Int) * a + (v0 : Int) * b = A ∧ (u1 : Int) * a + -(v1 : Int) * b = B ∧ B ≤ A ∧ a = v1 * A + v0 * B ∧ b = u1 * A + u0 * B := by
  obtain ⟨A, a1, a2, a3, a4⟩ := col_ge Y X n b a β α v0 u0 p hb ha hα hβ he.1 (by omega)
  obtain ⟨B, b1, b2, b3, b4⟩ := col_ge X Y n a b α β u1 v1 x ha hb hβ hα he.2.1 (by omega)
  refine ⟨A, B, by omega, b1, ?_, ?_, ?_⟩
  · have g1 : (x + v0 + v1) * n ≤ p * n := Nat.mul_le_mul_right _ h2
    have g2 : u0 * α ≤ v0 * n := Nat.mul_le_mul hu0 (by omega)
    have g3 : u1 * α ≤ v1 * n := Nat.mul_le_mul hu1 (by omega)
    rw [Nat.add_mul, Nat.add_mul] at g1
    omega
  · have := he.2.2; grind
  · have := he.2.2; grind
theorem CD.out {a b A B s t u v : Nat} (h1 : a = s * A + t * B) (h2 : b = u * A + v * B) : CD A B a b := fun g x y => by
  subst h1 h2
  exact ⟨Nat.dvd_add (Nat.dvd_trans x ⟨s, Nat.mul_comm _ _⟩) (Nat.dvd_trans y ⟨t, Nat.mul_comm _ _⟩), Nat.dvd_add (Nat.dvd_trans x ⟨u, Nat.mul_comm _ _⟩) (Nat.dvd_trans y ⟨v, Nat.mul_comm _ _⟩)⟩
end Go.Proofs.YtlbikopancleoaaGreatDoor.Bg
/-
  OWN TEXT: what common of package eddybig returns: a divisor of both numbers that is not nought.
-/
namespace Go.Proofs.YtlbikopancleoaaGreatDoor
open Go.ChangeShapes Go.WideShapes Go.ChangeAt Go.RowKit
open Bg
set_option linter.unusedVariables false
theorem nm_uniq {w : World} {v : Value} {N M : Nat} (h : Nm w v N) (k : Nm w v M) : N = M := by
  obtain ⟨a, l, c, rfl, h1, h2, h3, h4, rfl, h6⟩ := h
  obtain ⟨a', l', c', e, k1, k2, k3, k4, rfl, k6⟩ := k
  simp only [Value.slice.injEq] at e
  obtain ⟨rfl, e2, rfl⟩ := e
  have : l = l' := by
    refine List.ext_getElem e2 fun i hi hi' => ?_
    obtain ⟨b, o, rfl, hb, hc⟩ := hs_len h3 (by omega)
    obtain ⟨b', o', e3, hb', hc'⟩ := hs_len k3 (by omega)
    cases e3
    have a1 := hc i hi
    rw [hc' i hi'] at a1
    have a2 : l'.getD i 0 = l.getD i 0 := by
      simp only [Option.some.injEq, Value.int.injEq, true_and] at a1
      omega
    rw [List.getD_eq_getElem?_getD, List.getD_eq_getElem?_getD, List.getElem?_eq_getElem hi, List.getElem?_eq_getElem hi'] at a2
    simpa using a2.symm
  rw [this]
noncomputable def wo (w : World) (v : Value) : Nat := Classical.epsilon (Nm w v)
theorem wo_eq {w : World} {v : Value} {N : Nat} (h : Nm w v N) : wo w v = N :=
  nm_uniq (Classical.epsilon_spec (p := Nm w v) ⟨N, h⟩) h
theorem nm_zero {w : World} {v : Value} {N : Nat} (h : Nm w v N) : ∃ a n c, v = .slice a n c ∧ n ≤ c ∧ c ≤ 1099511627776 ∧ (n = 0 ↔ N = 0) ∧ (2 < n → 18446744073709551616 ≤ N) ∧ (n ≤ 2 → N < 18446744073709551616) := by
  obtain ⟨a, l, c, rfl, h1, h2, h3, h4, rfl, h6⟩ := h
  have up := vL_lt l h4
  refine ⟨a, l.length, c, rfl, h1, h2, ⟨fun e => ?_, fun e => ?_⟩, fun e => ?_, fun e => ?_⟩
  · have : l = [] := List.length_eq_zero_iff.1 e
    subst this; rfl
  · by_cases z : l = []
    · subst z; rfl
    · have := vL_ge l h6 z
      have := Nat.pow_pos (n := l.length - 1) (show 0 < 4294967296 by omega)
      omega
  · have := vL_ge l h6 (by intro z; subst z; simp at e)
    have : 4294967296 ^ 2 ≤ 4294967296 ^ (l.length - 1) := Nat.pow_le_pow_right (by omega) (by omega)
    omega
  · have : 4294967296 ^ l.length ≤ 4294967296 ^ 2 := Nat.pow_le_pow_right (by omega) e
    omega
theorem bl_facts (P : Nat) (h : 18446744073709551616 ≤ P) (h2 : P.log2 < 32000000) : ∃ n : Nat, (bitLen P : Int) - 60 = n ∧ 5 ≤ n ∧ n < 32000000 ∧ 576460752303423488 ≤ P / 2 ^ n ∧ P / 2 ^ n < 1152921504606846976 := by
  have hz : P ≠ 0 := by omega
  have hb : bitLen P = P.log2 + 1 := by unfold bitLen; rw [if_neg hz]
  have h64 : 64 ≤ P.log2 := (Nat.le_log2 hz).2 h
  have up := Nat.lt_log2_self (n := P)
  have lo := Nat.log2_self_le hz
  refine ⟨P.log2 + 1 - 60, by omega, by omega, by omega, ?_, ?_⟩
  · rw [Nat.le_div_iff_mul_le (Nat.pow_pos (by omega)), show (576460752303423488 : Nat) = 2 ^ 59 from rfl, ← Nat.pow_add]
    rw [show 59 + (P.log2 + 1 - 60) = P.log2 by omega]
    exact lo
  · rw [Nat.div_lt_iff_lt_mul (Nat.pow_pos (by omega)), show (1152921504606846976 : Nat) = 2 ^ 60 from rfl, ← Nat.pow_add]
    rw [show 60 + (P.log2 + 1 - 60) = P.log2 + 1 by omega]
    exact up

end Go.Proofs.YtlbikopancleoaaGreatDoor
