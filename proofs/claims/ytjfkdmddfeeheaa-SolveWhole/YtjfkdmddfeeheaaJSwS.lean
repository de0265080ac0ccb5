/-
 OWN TEXT: whole numbers up to 8 as floats; eddylaw14's det.
-/
import Derived.Test.YtjfkdmddfeeheaaJSwOToSwI
import Derived.Test.YtjfkdmddfeeheaaJBhL
import Derived.Laws.FloatArith
namespace Go.Proofs.Ytjfkdmddfeeheaa
open Go.ChangeShapes Go.WideShapes Go.ChangeAt Go.RowKit
set_option linter.unusedVariables false
attribute [local go_sem] frombits_call tobits_call run_neg
set_option exponentiation.threshold 3000
namespace Sv
/-- the float that a whole number is -/
def iw (x : Int) : Nat := floatOfInt .f64 x
/-- a whole number of at most 8, without its sign -/
def s8 (x : Int) : Prop := -8 ≤ x ∧ x ≤ 8
theorem iw_tab : ∀ i : Fin 17, iw ((i.val : Int) - 8) < 18446744073709551616 ∧ Fl.rg (iw ((i.val : Int) - 8)) < 9218868437227405312 ∧ Fl.val (iw ((i.val : Int) - 8)) = ((i.val : Int) - 8) * 2 ^ 1074 ∧ floatToIntVal .f64 (iw ((i.val : Int) - 8)) .i64 = some ((i.val : Int) - 8) ∧ Fl.bitsF (iw ((i.val : Int) - 8)) = iw ((i.val : Int) - 8) := by decide +kernel
def mulW (a b : Int) : Nat := match floatBits .mul .f64 (iw a) (iw b) with
 | some p => p
 | none => 0
theorem mul_tab : ∀ i j : Fin 17, floatBits .mul .f64 (iw ((i.val : Int) - 8)) (iw ((j.val : Int) - 8)) = some (mulW ((i.val : Int) - 8) ((j.val : Int) - 8)) ∧ floatToIntVal .f64 (mulW ((i.val : Int) - 8) ((j.val : Int) - 8)) .i64 = some (((i.val : Int) - 8) * ((j.val : Int) - 8)) := by decide +kernel
theorem iw_all {x : Int} (h : s8 x) : iw x < 18446744073709551616 ∧ Fl.rg (iw x) < 9218868437227405312 ∧ Fl.val (iw x) = x * 2 ^ 1074 ∧ floatToIntVal .f64 (iw x) .i64 = some x ∧ Fl.bitsF (iw x) = iw x := by
 obtain ⟨h1, h2⟩ := h
 have k := iw_tab ⟨(x + 8).toNat, by omega⟩
 have e : (((x + 8).toNat : Nat) : Int) - 8 = x := by omega
 simp only [e] at k
 exact k
theorem iw_fi {x : Int} (h : s8 x) : Fi (iw x) := ⟨(iw_all h).1, (iw_all h).2.1⟩
theorem iw_int {x : Int} (h : s8 x) : floatToIntVal .f64 (iw x) .i64 = some x := (iw_all h).2.2.2.1
theorem iw_c {x : Int} (h : s8 x) : Fl.bitsF (iw x) = iw x := (iw_all h).2.2.2.2
theorem iw_rv {x : Int} (h : s8 x) : rv (iw x) = (x : Rat) := by
 unfold rv
 rw [(iw_all h).2.2.1]
 have hu := en_unit
 rw [Rat.intCast_mul, show ((2 ^ 1074 : Int) : Rat) = ((2 ^ 1074 : Nat) : Rat) by rw [← Rat.intCast_natCast]; rfl, Rat.mul_assoc, hu, Rat.mul_one]
theorem c_iw {x : Nat} {z : Int} (h : Fl.bitsF x = iw z) (hz : s8 z) : iw z = x := by
 by_cases y : Fl.nan x = true
 ·
  rw [c_nan y] at h
  have := (iw_fi hz).2
  rw [← h] at this
  exact absurd this (by decide)
 · rw [c_num (Bool.eq_false_iff.2 y)] at h; exact h.symm
theorem mul_w {a b : Int} (ha : s8 a) (hb : s8 b) : floatBits .mul .f64 (iw a) (iw b) = some (mulW a b) ∧ floatToIntVal .f64 (mulW a b) .i64 = some (a * b) := by
 obtain ⟨h1, h2⟩ := ha
 obtain ⟨g1, g2⟩ := hb
 have k := mul_tab ⟨(a + 8).toNat, by omega⟩ ⟨(b + 8).toNat, by omega⟩
 have e : (((a + 8).toNat : Nat) : Int) - 8 = a := by omega
 have e' : (((b + 8).toNat : Nat) : Int) - 8 = b := by omega
 simp only [e, e'] at k
 exact k
theorem cv14 {b : Nat} {n : Int} (h : floatToIntVal .f64 b .i64 = some n) (w : World) : (convert 25 3 (.float .f64 b)).run Try.prog w = .ok (.int .i64 n) w :=
 run_convert_float_int (P := Try.prog) w 25 3 .f64 .i64 b n (by kernel_rfl) (by kernel_rfl) h
theorem mr14 {a b : Int} (ha : s8 a) (hb : s8 b) (t : TypeId) (w : World) : (binOp .mul t (.float .f64 (iw a)) (.float .f64 (iw b))).run Try.prog w = .ok (.float .f64 (mulW a b)) w :=
 run_float_arith (P := Try.prog) w .mul t .f64 _ _ _ (mul_w ha hb).1
theorem mul_bd {a b : Int} {A B : Nat} (ha : a.natAbs ≤ A) (hb : b.natAbs ≤ B) : (a * b).natAbs ≤ A * B := by
 rw [Int.natAbs_mul]; exact Nat.mul_le_mul ha hb
theorem s8.nat {a : Int} (h : s8 a) : a.natAbs ≤ 8 := by unfold s8 at h; omega
theorem w64 {x : Int} (h : x.natAbs ≤ 1000000) : IntKind.i64.wrap x = x := by simp [IntKind.wrap, IntKind.bits, IntKind.signed]; omega
/-- the determinant by its first row -/
def dS (Z : Nat → Nat → Int) : Nat → Int
 | 0 => 0
 | k + 1 => dS Z k + Z 0 k * (Z 1 ((k + 1) % 3) * Z 2 ((k + 2) % 3) - Z 1 ((k + 2) % 3) * Z 2 ((k + 1) % 3))
def dI (n : Nat) (Z : Nat → Nat → Int) : Int := if n = 1 then Z 0 0 else if n = 2 then Z 0 0 * Z 1 1 - Z 0 1 * Z 1 0 else dS Z 3
theorem dS_bd {Z : Nat → Nat → Int} (hz : ∀ i j, i < 3 → j < 3 → s8 (Z i j)) : ∀ k, k ≤ 3 → (dS Z k).natAbs ≤ 1024 * k
 | 0, _ => by show (0 : Int).natAbs ≤ _; decide
 | k + 1, hk => by
  have h := dS_bd hz k (by omega)
  have m := fun i j hi hj => (hz i j hi hj).nat
  have p1 := mul_bd (m 1 ((k + 1) % 3) (by omega) (by omega)) (m 2 ((k + 2) % 3) (by omega) (by omega))
  have p2 := mul_bd (m 1 ((k + 2) % 3) (by omega) (by omega)) (m 2 ((k + 1) % 3) (by omega) (by omega))
  have p3 := mul_bd (A := 8) (B := 128) (m 0 k (by omega) (by omega)) (b := Z 1 ((k + 1) % 3) * Z 2 ((k + 2) % 3) - Z 1 ((k + 2) % 3) * Z 2 ((k + 1) % 3)) (by omega)
  show (dS Z k + Z 0 k * _).natAbs ≤ _
  omega
theorem dS_step {Z : Nat → Nat → Int} (hz : ∀ i j, i < 3 → j < 3 → s8 (Z i j)) (k : Nat) (hk : k < 3) :
  IntKind.i64.wrap (dS Z k + IntKind.i64.wrap (Z 0 k * IntKind.i64.wrap (Z 1 ((k + 1) % 3) * Z 2 ((k + 2) % 3) - Z 1 ((k + 2) % 3) * Z 2 ((k + 1) % 3)))) = dS Z (k + 1) := by
 have h := dS_bd hz k (by omega)
 have h' := dS_bd hz (k + 1) (by omega)
 have m := fun i j hi hj => (hz i j hi hj).nat
 have p1 := mul_bd (m 1 ((k + 1) % 3) (by omega) (by omega)) (m 2 ((k + 2) % 3) (by omega) (by omega))
 have p2 := mul_bd (m 1 ((k + 2) % 3) (by omega) (by omega)) (m 2 ((k + 1) % 3) (by omega) (by omega))
 have p3 := mul_bd (A := 8) (B := 128) (m 0 k (by omega) (by omega)) (b := Z 1 ((k + 1) % 3) * Z 2 ((k + 2) % 3) - Z 1 ((k + 2) % 3) * Z 2 ((k + 1) % 3)) (by omega)
 rw [w64 (x := Z 1 ((k + 1) % 3) * Z 2 ((k + 2) % 3) - Z 1 ((k + 2) % 3) * Z 2 ((k + 1) % 3)) (by omega), w64 (x := Z 0 k * _) (by omega)]
 exact w64 (x := dS Z (k + 1)) (by omega)
end Sv
set_option maxHeartbeats 4000000 in
theorem det1c {w : World} {b o c : Nat} {Z : Nat → Nat → Int} (h : Sv.Lm w (.slice (some ⟨b, o, none⟩) 1 c) 1 (fun _ => 1) (fun i j => Sv.iw (Z i j))) (hz : ∀ i j, i < 1 → j < 1 → Sv.s8 (Z i j)) :
  Calls Try.prog 26 #[.slice (some ⟨b, o, none⟩) 1 c] w fun e w' => e = .returned (.int .i64 (Sv.dI 1 Z)) ∧ Bw w w' := by
 obtain ⟨r0, o0, c0, e0, hc0, hd0⟩ := h.row2 (i := 0) (by omega) rfl
 simp only [Nat.add_zero] at e0
 obtain ⟨x00, e00, l00, q00⟩ := hd0.2 0 (by omega)
 obtain rfl := Sv.c_iw q00 (hz 0 0 (by omega) (by omega))
 simp only [Nat.add_zero] at e00
 have C00 := fun w => Sv.cv14 (Sv.iw_int (hz 0 0 (by omega) (by omega))) w
 generalize hx00 : Sv.iw (Z 0 0) = x00 at *
 go_enter Try.func26, Try.ntmps26
 go_wp2
 go_ret
 exact ⟨rfl, Bw.refl _⟩
set_option maxHeartbeats 8000000 in
theorem det2c {w : World} {b o c : Nat} {Z : Nat → Nat → Int} (h : Sv.Lm w (.slice (some ⟨b, o, none⟩) 2 c) 2 (fun _ => 2) (fun i j => Sv.iw (Z i j))) (hz : ∀ i j, i < 2 → j < 2 → Sv.s8 (Z i j)) :
  Calls Try.prog 26 #[.slice (some ⟨b, o, none⟩) 2 c] w fun e w' => e = .returned (.int .i64 (Sv.dI 2 Z)) ∧ Bw w w' := by
 obtain ⟨r0, o0, c0, e0, hc0, hd0⟩ := h.row2 (i := 0) (by omega) rfl
 obtain ⟨r1, o1, c1, e1, hc1, hd1⟩ := h.row2 (i := 1) (by omega) rfl
 simp only [Nat.add_zero] at e0
 obtain ⟨x00, e00, l00, q00⟩ := hd0.2 0 (by omega)
 obtain rfl := Sv.c_iw q00 (hz 0 0 (by omega) (by omega))
 obtain ⟨x01, e01, l01, q01⟩ := hd0.2 1 (by omega)
 obtain rfl := Sv.c_iw q01 (hz 0 1 (by omega) (by omega))
 obtain ⟨x10, e10, l10, q10⟩ := hd1.2 0 (by omega)
 obtain rfl := Sv.c_iw q10 (hz 1 0 (by omega) (by omega))
 obtain ⟨x11, e11, l11, q11⟩ := hd1.2 1 (by omega)
 obtain rfl := Sv.c_iw q11 (hz 1 1 (by omega) (by omega))
 simp only [Nat.add_zero] at e00
 simp only [Nat.add_zero] at e10
 have C00 := fun w => Sv.cv14 (Sv.iw_int (hz 0 0 (by omega) (by omega))) w
 have C01 := fun w => Sv.cv14 (Sv.iw_int (hz 0 1 (by omega) (by omega))) w
 have C10 := fun w => Sv.cv14 (Sv.iw_int (hz 1 0 (by omega) (by omega))) w
 have C11 := fun w => Sv.cv14 (Sv.iw_int (hz 1 1 (by omega) (by omega))) w
 have MA := fun t w => Sv.mr14 (hz 0 0 (by omega) (by omega)) (hz 1 1 (by omega) (by omega)) t w
 have MAc := fun w => Sv.cv14 (Sv.mul_w (hz 0 0 (by omega) (by omega)) (hz 1 1 (by omega) (by omega))).2 w
 have MB := fun t w => Sv.mr14 (hz 0 1 (by omega) (by omega)) (hz 1 0 (by omega) (by omega)) t w
 have MBc := fun w => Sv.cv14 (Sv.mul_w (hz 0 1 (by omega) (by omega)) (hz 1 0 (by omega) (by omega))).2 w
 generalize Sv.mulW (Z 0 0) (Z 1 1) = pa at *
 generalize Sv.mulW (Z 0 1) (Z 1 0) = pb at *
 generalize hx00 : Sv.iw (Z 0 0) = x00 at *
 generalize hx01 : Sv.iw (Z 0 1) = x01 at *
 generalize hx10 : Sv.iw (Z 1 0) = x10 at *
 generalize hx11 : Sv.iw (Z 1 1) = x11 at *
 have S0 : w.drew.cell? ⟨b, o, none⟩ = some (.slice (some ⟨r0, o0, none⟩) 2 c0) ∧ w.drew.cell? ⟨b, o + 1, none⟩ = some (.slice (some ⟨r1, o1, none⟩) 2 c1) ∧ w.drew.cell? ⟨r0, o0, none⟩ = some (.float .f64 x00) ∧ w.drew.cell? ⟨r0, o0 + 1, none⟩ = some (.float .f64 x01) ∧ w.drew.cell? ⟨r1, o1, none⟩ = some (.float .f64 x10) ∧ w.drew.cell? ⟨r1, o1 + 1, none⟩ = some (.float .f64 x11) := ⟨e0, e1, e00, e01, e10, e11⟩
 have HW : Hid (IntKind.i64.wrap (Z 0 0 * Z 1 1 - Z 0 1 * Z 1 0) = Sv.dI 2 Z) := by
  have m := fun i j hi hj => (hz i j hi hj).nat
  have p1 := Sv.mul_bd (m 0 0 (by omega) (by omega)) (m 1 1 (by omega) (by omega))
  have p2 := Sv.mul_bd (m 0 1 (by omega) (by omega)) (m 1 0 (by omega) (by omega))
  exact Sv.w64 (by omega)
 clear e0 e1 e00 e01 e10 e11 q00 q01 q10 q11 hd0 hd1 h hz
 go_enter Try.func26, Try.ntmps26
 go_wp2_with fail
 refine wp_region_K (fun w' => w'.cell? ⟨b, o, none⟩ = some (.slice (some ⟨r0, o0, none⟩) 2 c0) ∧ w'.cell? ⟨b, o + 1, none⟩ = some (.slice (some ⟨r1, o1, none⟩) 2 c1) ∧ w'.cell? ⟨r0, o0, none⟩ = some (.float .f64 x00) ∧ w'.cell? ⟨r0, o0 + 1, none⟩ = some (.float .f64 x01) ∧ w'.cell? ⟨r1, o1, none⟩ = some (.float .f64 x10) ∧ w'.cell? ⟨r1, o1 + 1, none⟩ = some (.float .f64 x11)) 25 26 #[false, false, false, false, false, false, false, false, false, false, false, false, false, false, false, false, false, false, false, false, false, false, false, false, false, false] (by kernel_rfl) (by kernel_rfl) (by kernel_rfl) ?_
 generalize hW : w.drew = W at *
 refine wpAnyK_take 0 20 (v := ?v0) rfl (by kernel_rfl) (by kernel_rfl) (by kernel_rfl) (by kernel_rfl) (by kernel_rfl) (fun _ _ _ h => h) rfl (Or.inl ⟨by rfl, ?h0⟩) (by assumption) ?r0
 case h0 => (intro w hSw; go_simp; with_reducible rfl)
 simp only [Act.put, List.setIfInBounds_toArray, List.set_cons_zero, List.set_cons_succ]
 refine wpAnyK_take 1 21 (v := ?v1) rfl (by kernel_rfl) (by kernel_rfl) (by kernel_rfl) (by kernel_rfl) (by kernel_rfl) (fun _ _ _ h => h) rfl (Or.inl ⟨by rfl, ?h1⟩) (by assumption) ?r1
 case h1 => (intro w hSw; go_simp; with_reducible rfl)
 simp only [Act.put, List.setIfInBounds_toArray, List.set_cons_zero, List.set_cons_succ]
 refine wpAnyK_take 2 22 (v := ?v2) rfl (by kernel_rfl) (by kernel_rfl) (by kernel_rfl) (by kernel_rfl) (by kernel_rfl) (fun _ _ _ h => h) rfl (Or.inl ⟨by rfl, ?h2⟩) (by assumption) ?r2
 case h2 => (intro w hSw; go_simp; with_reducible rfl)
 simp only [Act.put, List.setIfInBounds_toArray, List.set_cons_zero, List.set_cons_succ]
 refine wpAnyK_take 3 23 (v := ?v3) rfl (by kernel_rfl) (by kernel_rfl) (by kernel_rfl) (by kernel_rfl) (by kernel_rfl) (fun _ _ _ h => h) rfl (Or.inl ⟨by rfl, ?h3⟩) (by assumption) ?r3
 case h3 => (intro w hSw; go_simp; with_reducible rfl)
 simp only [Act.put, List.setIfInBounds_toArray, List.set_cons_zero, List.set_cons_succ]
 refine wpAnyK_take 4 24 (v := ?v4) rfl (by kernel_rfl) (by kernel_rfl) (by kernel_rfl) (by kernel_rfl) (by kernel_rfl) (fun _ _ _ h => h) rfl (Or.inl ⟨by rfl, ?h4⟩) (by assumption) ?r4
 case h4 => (intro w hSw; go_simp; with_reducible rfl)
 simp only [Act.put, List.setIfInBounds_toArray, List.set_cons_zero, List.set_cons_succ]
 refine wpAnyK_take 5 25 (v := ?v5) rfl (by kernel_rfl) (by kernel_rfl) (by kernel_rfl) (by kernel_rfl) (by kernel_rfl) (fun _ _ _ h => h) rfl (Or.inl ⟨by rfl, ?h5⟩) (by assumption) ?r5
 case h5 => (intro w hSw; go_simp; with_reducible rfl)
 simp only [Act.put, List.setIfInBounds_toArray, List.set_cons_zero, List.set_cons_succ]
 refine wpAnyK_take 6 26 (v := ?v6) rfl (by kernel_rfl) (by kernel_rfl) (by kernel_rfl) (by kernel_rfl) (by kernel_rfl) (fun _ _ _ h => h) rfl (Or.inl ⟨by rfl, ?h6⟩) (by assumption) ?r6
 case h6 => (intro w hSw; go_simp; with_reducible rfl)
 simp only [Act.put, List.setIfInBounds_toArray, List.set_cons_zero, List.set_cons_succ]
 refine wpAnyK_take 7 27 (v := ?v7) rfl (by kernel_rfl) (by kernel_rfl) (by kernel_rfl) (by kernel_rfl) (by kernel_rfl) (fun _ _ _ h => h) rfl (Or.inl ⟨by rfl, ?h7⟩) (by assumption) ?r7
 case h7 => (intro w hSw; go_simp; with_reducible rfl)
 simp only [Act.put, List.setIfInBounds_toArray, List.set_cons_zero, List.set_cons_succ]
 refine wpAnyK_take 8 28 (v := ?v8) rfl (by kernel_rfl) (by kernel_rfl) (by kernel_rfl) (by kernel_rfl) (by kernel_rfl) (fun _ _ _ h => h) rfl (Or.inl ⟨by rfl, ?h8⟩) (by assumption) ?r8
 case h8 => (intro w hSw; go_simp; with_reducible rfl)
 simp only [Act.put, List.setIfInBounds_toArray, List.set_cons_zero, List.set_cons_succ]
 refine wpAnyK_take 9 29 (v := ?v9) rfl (by kernel_rfl) (by kernel_rfl) (by kernel_rfl) (by kernel_rfl) (by kernel_rfl) (fun _ _ _ h => h) rfl (Or.inl ⟨by rfl, ?h9⟩) (by assumption) ?r9
 case h9 => (intro w hSw; go_simp; with_reducible rfl)
 simp only [Act.put, List.setIfInBounds_toArray, List.set_cons_zero, List.set_cons_succ]
 refine wpAnyK_take 10 30 (v := ?v10) rfl (by kernel_rfl) (by kernel_rfl) (by kernel_rfl) (by kernel_rfl) (by kernel_rfl) (fun _ _ _ h => h) rfl (Or.inl ⟨by rfl, ?h10⟩) (by assumption) ?r10
 case h10 => (intro w hSw; go_simp; with_reducible rfl)
 simp only [Act.put, List.setIfInBounds_toArray, List.set_cons_zero, List.set_cons_succ]
 refine wpAnyK_take 11 31 (v := ?v11) rfl (by kernel_rfl) (by kernel_rfl) (by kernel_rfl) (by kernel_rfl) (by kernel_rfl) (fun _ _ _ h => h) rfl (Or.inl ⟨by rfl, ?h11⟩) (by assumption) ?r11
 case h11 => (intro w hSw; go_simp; with_reducible rfl)
 simp only [Act.put, List.setIfInBounds_toArray, List.set_cons_zero, List.set_cons_succ]
 refine wpAnyK_take 12 32 (v := ?v12) rfl (by kernel_rfl) (by kernel_rfl) (by kernel_rfl) (by kernel_rfl) (by kernel_rfl) (fun _ _ _ h => h) rfl (Or.inl ⟨by rfl, ?h12⟩) (by assumption) ?r12
 case h12 => (intro w hSw; go_simp; with_reducible rfl)
 simp only [Act.put, List.setIfInBounds_toArray, List.set_cons_zero, List.set_cons_succ]
 refine wpAnyK_take 13 33 (v := ?v13) rfl (by kernel_rfl) (by kernel_rfl) (by kernel_rfl) (by kernel_rfl) (by kernel_rfl) (fun _ _ _ h => h) rfl (Or.inl ⟨by rfl, ?h13⟩) (by assumption) ?r13
 case h13 => (intro w hSw; go_simp; with_reducible rfl)
 simp only [Act.put, List.setIfInBounds_toArray, List.set_cons_zero, List.set_cons_succ]
 refine wpAnyK_take 14 34 (v := ?v14) rfl (by kernel_rfl) (by kernel_rfl) (by kernel_rfl) (by kernel_rfl) (by kernel_rfl) (fun _ _ _ h => h) rfl (Or.inl ⟨by rfl, ?h14⟩) (by assumption) ?r14
 case h14 => (intro w hSw; go_simp; with_reducible rfl)
 simp only [Act.put, List.setIfInBounds_toArray, List.set_cons_zero, List.set_cons_succ]
 refine wpAnyK_take 15 35 (v := ?v15) rfl (by kernel_rfl) (by kernel_rfl) (by kernel_rfl) (by kernel_rfl) (by kernel_rfl) (fun _ _ _ h => h) rfl (Or.inl ⟨by rfl, ?h15⟩) (by assumption) ?r15
 case h15 => (intro w hSw; go_simp; with_reducible rfl)
 simp only [Act.put, List.setIfInBounds_toArray, List.set_cons_zero, List.set_cons_succ]
 refine wpAnyK_take 16 36 (v := ?v16) rfl (by kernel_rfl) (by kernel_rfl) (by kernel_rfl) (by kernel_rfl) (by kernel_rfl) (fun _ _ _ h => h) rfl (Or.inl ⟨by rfl, ?h16⟩) (by assumption) ?r16
 case h16 => (intro w hSw; go_simp; with_reducible rfl)
 simp only [Act.put, List.setIfInBounds_toArray, List.set_cons_zero, List.set_cons_succ]
 refine wpAnyK_take 17 37 (v := ?v17) rfl (by kernel_rfl) (by kernel_rfl) (by kernel_rfl) (by kernel_rfl) (by kernel_rfl) (fun _ _ _ h => h) rfl (Or.inl ⟨by rfl, ?h17⟩) (by assumption) ?r17
 case h17 => (intro w hSw; go_simp; with_reducible rfl)
 simp only [Act.put, List.setIfInBounds_toArray, List.set_cons_zero, List.set_cons_succ]
 refine wpAnyK_take 18 38 (v := ?v18) rfl (by kernel_rfl) (by kernel_rfl) (by kernel_rfl) (by kernel_rfl) (by kernel_rfl) (fun _ _ _ h => h) rfl (Or.inl ⟨by rfl, ?h18⟩) (by assumption) ?r18
 case h18 => (intro w hSw; go_simp; with_reducible rfl)
 simp only [Act.put, List.setIfInBounds_toArray, List.set_cons_zero, List.set_cons_succ]
 refine wpAnyK_take 19 39 (v := ?v19) rfl (by kernel_rfl) (by kernel_rfl) (by kernel_rfl) (by kernel_rfl) (by kernel_rfl) (fun _ _ _ h => h) rfl (Or.inl ⟨by rfl, ?h19⟩) (by assumption) ?r19
 case h19 => (intro w hSw; go_simp; with_reducible rfl)
 simp only [Act.put, List.setIfInBounds_toArray, List.set_cons_zero, List.set_cons_succ]
 refine wpAnyK_take 20 40 (v := ?v20) rfl (by kernel_rfl) (by kernel_rfl) (by kernel_rfl) (by kernel_rfl) (by kernel_rfl) (fun _ _ _ h => h) rfl (Or.inl ⟨by rfl, ?h20⟩) (by assumption) ?r20
 case h20 => (intro w hSw; go_simp; with_reducible rfl)
 simp only [Act.put, List.setIfInBounds_toArray, List.set_cons_zero, List.set_cons_succ]
 refine wpAnyK_take 21 41 (v := ?v21) rfl (by kernel_rfl) (by kernel_rfl) (by kernel_rfl) (by kernel_rfl) (by kernel_rfl) (fun _ _ _ h => h) rfl (Or.inl ⟨by rfl, ?h21⟩) (by assumption) ?r21
 case h21 => (intro w hSw; go_simp; with_reducible rfl)
 simp only [Act.put, List.setIfInBounds_toArray, List.set_cons_zero, List.set_cons_succ]
 refine wpAnyK_take 22 42 (v := ?v22) rfl (by kernel_rfl) (by kernel_rfl) (by kernel_rfl) (by kernel_rfl) (by kernel_rfl) (fun _ _ _ h => h) rfl (Or.inl ⟨by rfl, ?h22⟩) (by assumption) ?r22
 case h22 => (intro w hSw; go_simp; with_reducible rfl)
 simp only [Act.put, List.setIfInBounds_toArray, List.set_cons_zero, List.set_cons_succ]
 refine wpAnyK_take 23 43 (v := ?v23) rfl (by kernel_rfl) (by kernel_rfl) (by kernel_rfl) (by kernel_rfl) (by kernel_rfl) (fun _ _ _ h => h) rfl (Or.inl ⟨by rfl, ?h23⟩) (by assumption) ?r23
 case h23 => (intro w hSw; go_simp; with_reducible rfl)
 simp only [Act.put, List.setIfInBounds_toArray, List.set_cons_zero, List.set_cons_succ]
 refine wpAnyK_take 24 44 (v := ?v24) rfl (by kernel_rfl) (by kernel_rfl) (by kernel_rfl) (by kernel_rfl) (by kernel_rfl) (fun _ _ _ h => h) rfl (Or.inl ⟨by rfl, ?h24⟩) (by assumption) ?r24
 case h24 => (intro w hSw; go_simp; with_reducible rfl)
 simp only [Act.put, List.setIfInBounds_toArray, List.set_cons_zero, List.set_cons_succ]
 refine wpAnyK_one 25 (by kernel_rfl) rfl (fun K hK => ?_)
 go_simp
 refine hK.out _ _ (fun h => absurd rfl h) ?_
 clear hK K
 simp only [List.setIfInBounds_toArray, List.set_cons_zero, List.set_cons_succ]
 refine wpAnyK_done (by kernel_rfl) ?_ _
 go_wp2
 go_ret
 refine ⟨?_, ?_⟩
 · rw [← HW.out]; rfl
 · rw [← hW]; exact (Bw.refl w).drew
set_option maxHeartbeats 16000000 in
theorem det3c {w : World} {b o c : Nat} {Z : Nat → Nat → Int} (h : Sv.Lm w (.slice (some ⟨b, o, none⟩) 3 c) 3 (fun _ => 3) (fun i j => Sv.iw (Z i j))) (hz : ∀ i j, i < 3 → j < 3 → Sv.s8 (Z i j)) :
  Calls Try.prog 26 #[.slice (some ⟨b, o, none⟩) 3 c] w fun e w' => e = .returned (.int .i64 (Sv.dI 3 Z)) ∧ Bw w w' := by
 have H := Sv.hid h
 have HZ := Sv.hid hz
 clear h hz
 go_enter Try.func26, Try.ntmps26
 go_wp2
 go_loopw [4, 5] (fun d j wr => ∃ k : Nat, k ≤ 3 ∧ j = .int .i64 (k : Int) ∧ d = .int .i64 (Sv.dS Z k) ∧ Bw w wr) (fun _ j _ => 3 - (intOf j).toNat)
 case atStart => exact ⟨0, by omega, rfl, rfl, Bw.refl _⟩
 case round =>
  obtain ⟨k, hk, rfl, rfl, hbw⟩ := hrel
  by_cases hk1 : k < 3
  case neg =>
   have hk3 : k = 3 := by omega
   have hk4 : ¬ (k : Int) < 3 := by omega
   have HD : Hid (Sv.dS Z k = Sv.dI 3 Z) := by rw [hk3]; rfl
   generalize Sv.dS Z k = D at *
   go_wp2
   go_ret
   exact ⟨by rw [HD.out]; rfl, hbw⟩
  case pos =>
   have h := H.out.bw (bw_trans hbw (Bw.refl wr).drew)
   have hz := HZ.out
   have ST := Sv.hid (Sv.dS_step HZ.out k hk1)
   have HB := Sv.hid (bw_trans hbw (Bw.refl wr).drew)
   obtain ⟨r0, o0, c0, e0, hc0, hd0⟩ := h.row2 (i := 0) (by omega) rfl
   obtain ⟨r1, o1, c1, e1, hc1, hd1⟩ := h.row2 (i := 1) (by omega) rfl
   obtain ⟨r2, o2, c2, e2, hc2, hd2⟩ := h.row2 (i := 2) (by omega) rfl
   simp only [Nat.add_zero] at e0
   obtain ⟨x00, e00, l00, q00⟩ := hd0.2 0 (by omega)
   obtain rfl := Sv.c_iw q00 (hz 0 0 (by omega) (by omega))
   obtain ⟨x01, e01, l01, q01⟩ := hd0.2 1 (by omega)
   obtain rfl := Sv.c_iw q01 (hz 0 1 (by omega) (by omega))
   obtain ⟨x02, e02, l02, q02⟩ := hd0.2 2 (by omega)
   obtain rfl := Sv.c_iw q02 (hz 0 2 (by omega) (by omega))
   obtain ⟨x10, e10, l10, q10⟩ := hd1.2 0 (by omega)
   obtain rfl := Sv.c_iw q10 (hz 1 0 (by omega) (by omega))
   obtain ⟨x11, e11, l11, q11⟩ := hd1.2 1 (by omega)
   obtain rfl := Sv.c_iw q11 (hz 1 1 (by omega) (by omega))
   obtain ⟨x12, e12, l12, q12⟩ := hd1.2 2 (by omega)
   obtain rfl := Sv.c_iw q12 (hz 1 2 (by omega) (by omega))
   obtain ⟨x20, e20, l20, q20⟩ := hd2.2 0 (by omega)
   obtain rfl := Sv.c_iw q20 (hz 2 0 (by omega) (by omega))
   obtain ⟨x21, e21, l21, q21⟩ := hd2.2 1 (by omega)
   obtain rfl := Sv.c_iw q21 (hz 2 1 (by omega) (by omega))
   obtain ⟨x22, e22, l22, q22⟩ := hd2.2 2 (by omega)
   obtain rfl := Sv.c_iw q22 (hz 2 2 (by omega) (by omega))
   simp only [Nat.add_zero] at e00
   simp only [Nat.add_zero] at e10
   simp only [Nat.add_zero] at e20
   have C00 := fun w => Sv.cv14 (Sv.iw_int (hz 0 0 (by omega) (by omega))) w
   have C01 := fun w => Sv.cv14 (Sv.iw_int (hz 0 1 (by omega) (by omega))) w
   have C02 := fun w => Sv.cv14 (Sv.iw_int (hz 0 2 (by omega) (by omega))) w
   have C10 := fun w => Sv.cv14 (Sv.iw_int (hz 1 0 (by omega) (by omega))) w
   have C11 := fun w => Sv.cv14 (Sv.iw_int (hz 1 1 (by omega) (by omega))) w
   have C12 := fun w => Sv.cv14 (Sv.iw_int (hz 1 2 (by omega) (by omega))) w
   have C20 := fun w => Sv.cv14 (Sv.iw_int (hz 2 0 (by omega) (by omega))) w
   have C21 := fun w => Sv.cv14 (Sv.iw_int (hz 2 1 (by omega) (by omega))) w
   have C22 := fun w => Sv.cv14 (Sv.iw_int (hz 2 2 (by omega) (by omega))) w
   generalize hD : Sv.dS Z k = D at *
   clear hD hbw
   rcases (show k = 0 ∨ k = 1 ∨ k = 2 by omega) with rfl | rfl | rfl
   ·
    have MA := fun t w => Sv.mr14 (hz 1 1 (by omega) (by omega)) (hz 2 2 (by omega) (by omega)) t w
    have MAc := fun w => Sv.cv14 (Sv.mul_w (hz 1 1 (by omega) (by omega)) (hz 2 2 (by omega) (by omega))).2 w
    have MB := fun t w => Sv.mr14 (hz 1 2 (by omega) (by omega)) (hz 2 1 (by omega) (by omega)) t w
    have MBc := fun w => Sv.cv14 (Sv.mul_w (hz 1 2 (by omega) (by omega)) (hz 2 1 (by omega) (by omega))).2 w
    generalize Sv.mulW (Z 1 1) (Z 2 2) = pa at *
    generalize Sv.mulW (Z 1 2) (Z 2 1) = pb at *
    generalize hx00 : Sv.iw (Z 0 0) = x00 at *
    generalize hx01 : Sv.iw (Z 0 1) = x01 at *
    generalize hx02 : Sv.iw (Z 0 2) = x02 at *
    generalize hx10 : Sv.iw (Z 1 0) = x10 at *
    generalize hx11 : Sv.iw (Z 1 1) = x11 at *
    generalize hx12 : Sv.iw (Z 1 2) = x12 at *
    generalize hx20 : Sv.iw (Z 2 0) = x20 at *
    generalize hx21 : Sv.iw (Z 2 1) = x21 at *
    generalize hx22 : Sv.iw (Z 2 2) = x22 at *
    have S0 : wr.drew.cell? ⟨b, o, none⟩ = some (.slice (some ⟨r0, o0, none⟩) 3 c0) ∧ wr.drew.cell? ⟨b, o + 1, none⟩ = some (.slice (some ⟨r1, o1, none⟩) 3 c1) ∧ wr.drew.cell? ⟨b, o + 2, none⟩ = some (.slice (some ⟨r2, o2, none⟩) 3 c2) ∧ wr.drew.cell? ⟨r0, o0, none⟩ = some (.float .f64 x00) ∧ wr.drew.cell? ⟨r0, o0 + 1, none⟩ = some (.float .f64 x01) ∧ wr.drew.cell? ⟨r0, o0 + 2, none⟩ = some (.float .f64 x02) ∧ wr.drew.cell? ⟨r1, o1, none⟩ = some (.float .f64 x10) ∧ wr.drew.cell? ⟨r1, o1 + 1, none⟩ = some (.float .f64 x11) ∧ wr.drew.cell? ⟨r1, o1 + 2, none⟩ = some (.float .f64 x12) ∧ wr.drew.cell? ⟨r2, o2, none⟩ = some (.float .f64 x20) ∧ wr.drew.cell? ⟨r2, o2 + 1, none⟩ = some (.float .f64 x21) ∧ wr.drew.cell? ⟨r2, o2 + 2, none⟩ = some (.float .f64 x22) := ⟨e0, e1, e2, e00, e01, e02, e10, e11, e12, e20, e21, e22⟩
    clear e0 e1 e2 e00 e01 e02 e10 e11 e12 e20 e21 e22
    go_wp2_with fail
    refine wp_region_K (fun w' => w'.cell? ⟨b, o, none⟩ = some (.slice (some ⟨r0, o0, none⟩) 3 c0) ∧ w'.cell? ⟨b, o + 1, none⟩ = some (.slice (some ⟨r1, o1, none⟩) 3 c1) ∧ w'.cell? ⟨b, o + 2, none⟩ = some (.slice (some ⟨r2, o2, none⟩) 3 c2) ∧ w'.cell? ⟨r0, o0, none⟩ = some (.float .f64 x00) ∧ w'.cell? ⟨r0, o0 + 1, none⟩ = some (.float .f64 x01) ∧ w'.cell? ⟨r0, o0 + 2, none⟩ = some (.float .f64 x02) ∧ w'.cell? ⟨r1, o1, none⟩ = some (.float .f64 x10) ∧ w'.cell? ⟨r1, o1 + 1, none⟩ = some (.float .f64 x11) ∧ w'.cell? ⟨r1, o1 + 2, none⟩ = some (.float .f64 x12) ∧ w'.cell? ⟨r2, o2, none⟩ = some (.float .f64 x20) ∧ w'.cell? ⟨r2, o2 + 1, none⟩ = some (.float .f64 x21) ∧ w'.cell? ⟨r2, o2 + 2, none⟩ = some (.float .f64 x22)) 39 40 #[false, false, false, false, false, false, false, false, false, false, false, false, false, false, false, false, false, false, false, false, false, false, false, false, false, false, false, false, false, false, false, false, false, false, false, false, false, false, false, false] (by kernel_rfl) (by kernel_rfl) (by kernel_rfl) ?_
    generalize wr.drew = W at *
    refine wpAnyK_take 0 55 (v := ?va0) rfl (by kernel_rfl) (by kernel_rfl) (by kernel_rfl) (by kernel_rfl) (by kernel_rfl) (fun _ _ _ h => h) rfl (Or.inl ⟨by rfl, ?ha0⟩) (by assumption) ?ra0
    case ha0 => (intro w hSw; go_simp; with_reducible rfl)
    simp only [Act.put, List.setIfInBounds_toArray, List.set_cons_zero, List.set_cons_succ]
    refine wpAnyK_take 1 56 (v := ?va1) rfl (by kernel_rfl) (by kernel_rfl) (by kernel_rfl) (by kernel_rfl) (by kernel_rfl) (fun _ _ _ h => h) rfl (Or.inl ⟨by rfl, ?ha1⟩) (by assumption) ?ra1
    case ha1 => (intro w hSw; go_simp; with_reducible rfl)
    simp only [Act.put, List.setIfInBounds_toArray, List.set_cons_zero, List.set_cons_succ]
    refine wpAnyK_take 2 57 (v := ?va2) rfl (by kernel_rfl) (by kernel_rfl) (by kernel_rfl) (by kernel_rfl) (by kernel_rfl) (fun _ _ _ h => h) rfl (Or.inl ⟨by rfl, ?ha2⟩) (by assumption) ?ra2
    case ha2 => (intro w hSw; go_simp; with_reducible rfl)
    simp only [Act.put, List.setIfInBounds_toArray, List.set_cons_zero, List.set_cons_succ]
    refine wpAnyK_take 3 58 (v := ?va3) rfl (by kernel_rfl) (by kernel_rfl) (by kernel_rfl) (by kernel_rfl) (by kernel_rfl) (fun _ _ _ h => h) rfl (Or.inl ⟨by rfl, ?ha3⟩) (by assumption) ?ra3
    case ha3 => (intro w hSw; go_simp; with_reducible rfl)
    simp only [Act.put, List.setIfInBounds_toArray, List.set_cons_zero, List.set_cons_succ]
    refine wpAnyK_take 4 59 (v := ?va4) rfl (by kernel_rfl) (by kernel_rfl) (by kernel_rfl) (by kernel_rfl) (by kernel_rfl) (fun _ _ _ h => h) rfl (Or.inl ⟨by rfl, ?ha4⟩) (by assumption) ?ra4
    case ha4 => (intro w hSw; go_simp; with_reducible rfl)
    simp only [Act.put, List.setIfInBounds_toArray, List.set_cons_zero, List.set_cons_succ]
    refine wpAnyK_take 5 60 (v := ?va5) rfl (by kernel_rfl) (by kernel_rfl) (by kernel_rfl) (by kernel_rfl) (by kernel_rfl) (fun _ _ _ h => h) rfl (Or.inl ⟨by rfl, ?ha5⟩) (by assumption) ?ra5
    case ha5 => (intro w hSw; go_simp; with_reducible rfl)
    simp only [Act.put, List.setIfInBounds_toArray, List.set_cons_zero, List.set_cons_succ]
    refine wpAnyK_take 6 61 (v := ?va6) rfl (by kernel_rfl) (by kernel_rfl) (by kernel_rfl) (by kernel_rfl) (by kernel_rfl) (fun _ _ _ h => h) rfl (Or.inl ⟨by rfl, ?ha6⟩) (by assumption) ?ra6
    case ha6 => (intro w hSw; go_simp; with_reducible rfl)
    simp only [Act.put, List.setIfInBounds_toArray, List.set_cons_zero, List.set_cons_succ]
    refine wpAnyK_take 7 62 (v := ?va7) rfl (by kernel_rfl) (by kernel_rfl) (by kernel_rfl) (by kernel_rfl) (by kernel_rfl) (fun _ _ _ h => h) rfl (Or.inl ⟨by rfl, ?ha7⟩) (by assumption) ?ra7
    case ha7 => (intro w hSw; go_simp; with_reducible rfl)
    simp only [Act.put, List.setIfInBounds_toArray, List.set_cons_zero, List.set_cons_succ]
    refine wpAnyK_take 8 63 (v := ?va8) rfl (by kernel_rfl) (by kernel_rfl) (by kernel_rfl) (by kernel_rfl) (by kernel_rfl) (fun _ _ _ h => h) rfl (Or.inl ⟨by rfl, ?ha8⟩) (by assumption) ?ra8
    case ha8 => (intro w hSw; go_simp; with_reducible rfl)
    simp only [Act.put, List.setIfInBounds_toArray, List.set_cons_zero, List.set_cons_succ]
    refine wpAnyK_take 9 64 (v := ?va9) rfl (by kernel_rfl) (by kernel_rfl) (by kernel_rfl) (by kernel_rfl) (by kernel_rfl) (fun _ _ _ h => h) rfl (Or.inl ⟨by rfl, ?ha9⟩) (by assumption) ?ra9
    case ha9 => (intro w hSw; go_simp; with_reducible rfl)
    simp only [Act.put, List.setIfInBounds_toArray, List.set_cons_zero, List.set_cons_succ]
    refine wpAnyK_take 10 65 (v := ?va10) rfl (by kernel_rfl) (by kernel_rfl) (by kernel_rfl) (by kernel_rfl) (by kernel_rfl) (fun _ _ _ h => h) rfl (Or.inl ⟨by rfl, ?ha10⟩) (by assumption) ?ra10
    case ha10 => (intro w hSw; go_simp; with_reducible rfl)
    simp only [Act.put, List.setIfInBounds_toArray, List.set_cons_zero, List.set_cons_succ]
    refine wpAnyK_take 11 66 (v := ?va11) rfl (by kernel_rfl) (by kernel_rfl) (by kernel_rfl) (by kernel_rfl) (by kernel_rfl) (fun _ _ _ h => h) rfl (Or.inl ⟨by rfl, ?ha11⟩) (by assumption) ?ra11
    case ha11 => (intro w hSw; go_simp; with_reducible rfl)
    simp only [Act.put, List.setIfInBounds_toArray, List.set_cons_zero, List.set_cons_succ]
    refine wpAnyK_take 12 67 (v := ?va12) rfl (by kernel_rfl) (by kernel_rfl) (by kernel_rfl) (by kernel_rfl) (by kernel_rfl) (fun _ _ _ h => h) rfl (Or.inl ⟨by rfl, ?ha12⟩) (by assumption) ?ra12
    case ha12 => (intro w hSw; go_simp; with_reducible rfl)
    simp only [Act.put, List.setIfInBounds_toArray, List.set_cons_zero, List.set_cons_succ]
    refine wpAnyK_take 13 68 (v := ?va13) rfl (by kernel_rfl) (by kernel_rfl) (by kernel_rfl) (by kernel_rfl) (by kernel_rfl) (fun _ _ _ h => h) rfl (Or.inl ⟨by rfl, ?ha13⟩) (by assumption) ?ra13
    case ha13 => (intro w hSw; go_simp; with_reducible rfl)
    simp only [Act.put, List.setIfInBounds_toArray, List.set_cons_zero, List.set_cons_succ]
    refine wpAnyK_take 14 69 (v := ?va14) rfl (by kernel_rfl) (by kernel_rfl) (by kernel_rfl) (by kernel_rfl) (by kernel_rfl) (fun _ _ _ h => h) rfl (Or.inl ⟨by rfl, ?ha14⟩) (by assumption) ?ra14
    case ha14 => (intro w hSw; go_simp; with_reducible rfl)
    simp only [Act.put, List.setIfInBounds_toArray, List.set_cons_zero, List.set_cons_succ]
    refine wpAnyK_take 15 70 (v := ?va15) rfl (by kernel_rfl) (by kernel_rfl) (by kernel_rfl) (by kernel_rfl) (by kernel_rfl) (fun _ _ _ h => h) rfl (Or.inl ⟨by rfl, ?ha15⟩) (by assumption) ?ra15
    case ha15 => (intro w hSw; go_simp; with_reducible rfl)
    simp only [Act.put, List.setIfInBounds_toArray, List.set_cons_zero, List.set_cons_succ]
    refine wpAnyK_take 16 71 (v := ?va16) rfl (by kernel_rfl) (by kernel_rfl) (by kernel_rfl) (by kernel_rfl) (by kernel_rfl) (fun _ _ _ h => h) rfl (Or.inl ⟨by rfl, ?ha16⟩) (by assumption) ?ra16
    case ha16 => (intro w hSw; go_simp; with_reducible rfl)
    simp only [Act.put, List.setIfInBounds_toArray, List.set_cons_zero, List.set_cons_succ]
    refine wpAnyK_take 17 72 (v := ?va17) rfl (by kernel_rfl) (by kernel_rfl) (by kernel_rfl) (by kernel_rfl) (by kernel_rfl) (fun _ _ _ h => h) rfl (Or.inl ⟨by rfl, ?ha17⟩) (by assumption) ?ra17
    case ha17 => (intro w hSw; go_simp; with_reducible rfl)
    simp only [Act.put, List.setIfInBounds_toArray, List.set_cons_zero, List.set_cons_succ]
    refine wpAnyK_take 18 73 (v := ?va18) rfl (by kernel_rfl) (by kernel_rfl) (by kernel_rfl) (by kernel_rfl) (by kernel_rfl) (fun _ _ _ h => h) rfl (Or.inl ⟨by rfl, ?ha18⟩) (by assumption) ?ra18
    case ha18 => (intro w hSw; go_simp; with_reducible rfl)
    simp only [Act.put, List.setIfInBounds_toArray, List.set_cons_zero, List.set_cons_succ]
    refine wpAnyK_take 19 74 (v := ?va19) rfl (by kernel_rfl) (by kernel_rfl) (by kernel_rfl) (by kernel_rfl) (by kernel_rfl) (fun _ _ _ h => h) rfl (Or.inl ⟨by rfl, ?ha19⟩) (by assumption) ?ra19
    case ha19 => (intro w hSw; go_simp; with_reducible rfl)
    simp only [Act.put, List.setIfInBounds_toArray, List.set_cons_zero, List.set_cons_succ]
    refine wpAnyK_take 20 75 (v := ?va20) rfl (by kernel_rfl) (by kernel_rfl) (by kernel_rfl) (by kernel_rfl) (by kernel_rfl) (fun _ _ _ h => h) rfl (Or.inl ⟨by rfl, ?ha20⟩) (by assumption) ?ra20
    case ha20 => (intro w hSw; go_simp; with_reducible rfl)
    simp only [Act.put, List.setIfInBounds_toArray, List.set_cons_zero, List.set_cons_succ]
    refine wpAnyK_take 21 76 (v := ?va21) rfl (by kernel_rfl) (by kernel_rfl) (by kernel_rfl) (by kernel_rfl) (by kernel_rfl) (fun _ _ _ h => h) rfl (Or.inl ⟨by rfl, ?ha21⟩) (by assumption) ?ra21
    case ha21 => (intro w hSw; go_simp; with_reducible rfl)
    simp only [Act.put, List.setIfInBounds_toArray, List.set_cons_zero, List.set_cons_succ]
    refine wpAnyK_take 22 77 (v := ?va22) rfl (by kernel_rfl) (by kernel_rfl) (by kernel_rfl) (by kernel_rfl) (by kernel_rfl) (fun _ _ _ h => h) rfl (Or.inl ⟨by rfl, ?ha22⟩) (by assumption) ?ra22
    case ha22 => (intro w hSw; go_simp; with_reducible rfl)
    simp only [Act.put, List.setIfInBounds_toArray, List.set_cons_zero, List.set_cons_succ]
    refine wpAnyK_take 23 78 (v := ?va23) rfl (by kernel_rfl) (by kernel_rfl) (by kernel_rfl) (by kernel_rfl) (by kernel_rfl) (fun _ _ _ h => h) rfl (Or.inl ⟨by rfl, ?ha23⟩) (by assumption) ?ra23
    case ha23 => (intro w hSw; go_simp; with_reducible rfl)
    simp only [Act.put, List.setIfInBounds_toArray, List.set_cons_zero, List.set_cons_succ]
    refine wpAnyK_take 24 79 (v := ?va24) rfl (by kernel_rfl) (by kernel_rfl) (by kernel_rfl) (by kernel_rfl) (by kernel_rfl) (fun _ _ _ h => h) rfl (Or.inl ⟨by rfl, ?ha24⟩) (by assumption) ?ra24
    case ha24 => (intro w hSw; go_simp; with_reducible rfl)
    simp only [Act.put, List.setIfInBounds_toArray, List.set_cons_zero, List.set_cons_succ]
    refine wpAnyK_take 25 80 (v := ?va25) rfl (by kernel_rfl) (by kernel_rfl) (by kernel_rfl) (by kernel_rfl) (by kernel_rfl) (fun _ _ _ h => h) rfl (Or.inl ⟨by rfl, ?ha25⟩) (by assumption) ?ra25
    case ha25 => (intro w hSw; go_simp; with_reducible rfl)
    simp only [Act.put, List.setIfInBounds_toArray, List.set_cons_zero, List.set_cons_succ]
    refine wpAnyK_take 26 81 (v := ?va26) rfl (by kernel_rfl) (by kernel_rfl) (by kernel_rfl) (by kernel_rfl) (by kernel_rfl) (fun _ _ _ h => h) rfl (Or.inl ⟨by rfl, ?ha26⟩) (by assumption) ?ra26
    case ha26 => (intro w hSw; go_simp; with_reducible rfl)
    simp only [Act.put, List.setIfInBounds_toArray, List.set_cons_zero, List.set_cons_succ]
    refine wpAnyK_take 27 82 (v := ?va27) rfl (by kernel_rfl) (by kernel_rfl) (by kernel_rfl) (by kernel_rfl) (by kernel_rfl) (fun _ _ _ h => h) rfl (Or.inl ⟨by rfl, ?ha27⟩) (by assumption) ?ra27
    case ha27 => (intro w hSw; go_simp; with_reducible rfl)
    simp only [Act.put, List.setIfInBounds_toArray, List.set_cons_zero, List.set_cons_succ]
    refine wpAnyK_take 28 83 (v := ?va28) rfl (by kernel_rfl) (by kernel_rfl) (by kernel_rfl) (by kernel_rfl) (by kernel_rfl) (fun _ _ _ h => h) rfl (Or.inl ⟨by rfl, ?ha28⟩) (by assumption) ?ra28
    case ha28 => (intro w hSw; go_simp; with_reducible rfl)
    simp only [Act.put, List.setIfInBounds_toArray, List.set_cons_zero, List.set_cons_succ]
    refine wpAnyK_take 29 84 (v := ?va29) rfl (by kernel_rfl) (by kernel_rfl) (by kernel_rfl) (by kernel_rfl) (by kernel_rfl) (fun _ _ _ h => h) rfl (Or.inl ⟨by rfl, ?ha29⟩) (by assumption) ?ra29
    case ha29 => (intro w hSw; go_simp; with_reducible rfl)
    simp only [Act.put, List.setIfInBounds_toArray, List.set_cons_zero, List.set_cons_succ]
    refine wpAnyK_take 30 85 (v := ?va30) rfl (by kernel_rfl) (by kernel_rfl) (by kernel_rfl) (by kernel_rfl) (by kernel_rfl) (fun _ _ _ h => h) rfl (Or.inl ⟨by rfl, ?ha30⟩) (by assumption) ?ra30
    case ha30 => (intro w hSw; go_simp; with_reducible rfl)
    simp only [Act.put, List.setIfInBounds_toArray, List.set_cons_zero, List.set_cons_succ]
    refine wpAnyK_take 31 86 (v := ?va31) rfl (by kernel_rfl) (by kernel_rfl) (by kernel_rfl) (by kernel_rfl) (by kernel_rfl) (fun _ _ _ h => h) rfl (Or.inl ⟨by rfl, ?ha31⟩) (by assumption) ?ra31
    case ha31 => (intro w hSw; go_simp; with_reducible rfl)
    simp only [Act.put, List.setIfInBounds_toArray, List.set_cons_zero, List.set_cons_succ]
    refine wpAnyK_take 32 87 (v := ?va32) rfl (by kernel_rfl) (by kernel_rfl) (by kernel_rfl) (by kernel_rfl) (by kernel_rfl) (fun _ _ _ h => h) rfl (Or.inl ⟨by rfl, ?ha32⟩) (by assumption) ?ra32
    case ha32 => (intro w hSw; go_simp; with_reducible rfl)
    simp only [Act.put, List.setIfInBounds_toArray, List.set_cons_zero, List.set_cons_succ]
    refine wpAnyK_take 33 88 (v := ?va33) rfl (by kernel_rfl) (by kernel_rfl) (by kernel_rfl) (by kernel_rfl) (by kernel_rfl) (fun _ _ _ h => h) rfl (Or.inl ⟨by rfl, ?ha33⟩) (by assumption) ?ra33
    case ha33 => (intro w hSw; go_simp; with_reducible rfl)
    simp only [Act.put, List.setIfInBounds_toArray, List.set_cons_zero, List.set_cons_succ]
    refine wpAnyK_take 34 89 (v := ?va34) rfl (by kernel_rfl) (by kernel_rfl) (by kernel_rfl) (by kernel_rfl) (by kernel_rfl) (fun _ _ _ h => h) rfl (Or.inl ⟨by rfl, ?ha34⟩) (by assumption) ?ra34
    case ha34 => (intro w hSw; go_simp; with_reducible rfl)
    simp only [Act.put, List.setIfInBounds_toArray, List.set_cons_zero, List.set_cons_succ]
    refine wpAnyK_take 35 90 (v := ?va35) rfl (by kernel_rfl) (by kernel_rfl) (by kernel_rfl) (by kernel_rfl) (by kernel_rfl) (fun _ _ _ h => h) rfl (Or.inl ⟨by rfl, ?ha35⟩) (by assumption) ?ra35
    case ha35 => (intro w hSw; go_simp; with_reducible rfl)
    simp only [Act.put, List.setIfInBounds_toArray, List.set_cons_zero, List.set_cons_succ]
    refine wpAnyK_take 36 91 (v := ?va36) rfl (by kernel_rfl) (by kernel_rfl) (by kernel_rfl) (by kernel_rfl) (by kernel_rfl) (fun _ _ _ h => h) rfl (Or.inl ⟨by rfl, ?ha36⟩) (by assumption) ?ra36
    case ha36 => (intro w hSw; go_simp; with_reducible rfl)
    simp only [Act.put, List.setIfInBounds_toArray, List.set_cons_zero, List.set_cons_succ]
    refine wpAnyK_take 37 92 (v := ?va37) rfl (by kernel_rfl) (by kernel_rfl) (by kernel_rfl) (by kernel_rfl) (by kernel_rfl) (fun _ _ _ h => h) rfl (Or.inl ⟨by rfl, ?ha37⟩) (by assumption) ?ra37
    case ha37 => (intro w hSw; go_simp; with_reducible rfl)
    simp only [Act.put, List.setIfInBounds_toArray, List.set_cons_zero, List.set_cons_succ]
    refine wpAnyK_take 38 93 (v := ?va38) rfl (by kernel_rfl) (by kernel_rfl) (by kernel_rfl) (by kernel_rfl) (by kernel_rfl) (fun _ _ _ h => h) rfl (Or.inl ⟨by rfl, ?ha38⟩) (by assumption) ?ra38
    case ha38 => (intro w hSw; go_simp; with_reducible rfl)
    simp only [Act.put, List.setIfInBounds_toArray, List.set_cons_zero, List.set_cons_succ]
    refine wpAnyK_one 39 (by kernel_rfl) rfl (fun K hK => ?_)
    go_simp
    refine hK.out _ _ (fun h => absurd rfl h) ?_
    clear hK K
    simp only [List.setIfInBounds_toArray, List.set_cons_zero, List.set_cons_succ]
    refine wpAnyK_done (by kernel_rfl) ?_ _
    clear S0
    go_wp2
    go_roundw
    case rel =>
     refine ⟨1, by omega, rfl, ?_, HB.out⟩
     rw [← ST.out]
    case measure => simp [intOf]
   ·
    have MA := fun t w => Sv.mr14 (hz 1 2 (by omega) (by omega)) (hz 2 0 (by omega) (by omega)) t w
    have MAc := fun w => Sv.cv14 (Sv.mul_w (hz 1 2 (by omega) (by omega)) (hz 2 0 (by omega) (by omega))).2 w
    have MB := fun t w => Sv.mr14 (hz 1 0 (by omega) (by omega)) (hz 2 2 (by omega) (by omega)) t w
    have MBc := fun w => Sv.cv14 (Sv.mul_w (hz 1 0 (by omega) (by omega)) (hz 2 2 (by omega) (by omega))).2 w
    generalize Sv.mulW (Z 1 2) (Z 2 0) = pa at *
    generalize Sv.mulW (Z 1 0) (Z 2 2) = pb at *
    generalize hx00 : Sv.iw (Z 0 0) = x00 at *
    generalize hx01 : Sv.iw (Z 0 1) = x01 at *
    generalize hx02 : Sv.iw (Z 0 2) = x02 at *
    generalize hx10 : Sv.iw (Z 1 0) = x10 at *
    generalize hx11 : Sv.iw (Z 1 1) = x11 at *
    generalize hx12 : Sv.iw (Z 1 2) = x12 at *
    generalize hx20 : Sv.iw (Z 2 0) = x20 at *
    generalize hx21 : Sv.iw (Z 2 1) = x21 at *
    generalize hx22 : Sv.iw (Z 2 2) = x22 at *
    have S0 : wr.drew.cell? ⟨b, o, none⟩ = some (.slice (some ⟨r0, o0, none⟩) 3 c0) ∧ wr.drew.cell? ⟨b, o + 1, none⟩ = some (.slice (some ⟨r1, o1, none⟩) 3 c1) ∧ wr.drew.cell? ⟨b, o + 2, none⟩ = some (.slice (some ⟨r2, o2, none⟩) 3 c2) ∧ wr.drew.cell? ⟨r0, o0, none⟩ = some (.float .f64 x00) ∧ wr.drew.cell? ⟨r0, o0 + 1, none⟩ = some (.float .f64 x01) ∧ wr.drew.cell? ⟨r0, o0 + 2, none⟩ = some (.float .f64 x02) ∧ wr.drew.cell? ⟨r1, o1, none⟩ = some (.float .f64 x10) ∧ wr.drew.cell? ⟨r1, o1 + 1, none⟩ = some (.float .f64 x11) ∧ wr.drew.cell? ⟨r1, o1 + 2, none⟩ = some (.float .f64 x12) ∧ wr.drew.cell? ⟨r2, o2, none⟩ = some (.float .f64 x20) ∧ wr.drew.cell? ⟨r2, o2 + 1, none⟩ = some (.float .f64 x21) ∧ wr.drew.cell? ⟨r2, o2 + 2, none⟩ = some (.float .f64 x22) := ⟨e0, e1, e2, e00, e01, e02, e10, e11, e12, e20, e21, e22⟩
    clear e0 e1 e2 e00 e01 e02 e10 e11 e12 e20 e21 e22
    go_wp2_with fail
    refine wp_region_K (fun w' => w'.cell? ⟨b, o, none⟩ = some (.slice (some ⟨r0, o0, none⟩) 3 c0) ∧ w'.cell? ⟨b, o + 1, none⟩ = some (.slice (some ⟨r1, o1, none⟩) 3 c1) ∧ w'.cell? ⟨b, o + 2, none⟩ = some (.slice (some ⟨r2, o2, none⟩) 3 c2) ∧ w'.cell? ⟨r0, o0, none⟩ = some (.float .f64 x00) ∧ w'.cell? ⟨r0, o0 + 1, none⟩ = some (.float .f64 x01) ∧ w'.cell? ⟨r0, o0 + 2, none⟩ = some (.float .f64 x02) ∧ w'.cell? ⟨r1, o1, none⟩ = some (.float .f64 x10) ∧ w'.cell? ⟨r1, o1 + 1, none⟩ = some (.float .f64 x11) ∧ w'.cell? ⟨r1, o1 + 2, none⟩ = some (.float .f64 x12) ∧ w'.cell? ⟨r2, o2, none⟩ = some (.float .f64 x20) ∧ w'.cell? ⟨r2, o2 + 1, none⟩ = some (.float .f64 x21) ∧ w'.cell? ⟨r2, o2 + 2, none⟩ = some (.float .f64 x22)) 39 40 #[false, false, false, false, false, false, false, false, false, false, false, false, false, false, false, false, false, false, false, false, false, false, false, false, false, false, false, false, false, false, false, false, false, false, false, false, false, false, false, false] (by kernel_rfl) (by kernel_rfl) (by kernel_rfl) ?_
    generalize wr.drew = W at *
    refine wpAnyK_take 0 55 (v := ?vb0) rfl (by kernel_rfl) (by kernel_rfl) (by kernel_rfl) (by kernel_rfl) (by kernel_rfl) (fun _ _ _ h => h) rfl (Or.inl ⟨by rfl, ?hb0⟩) (by assumption) ?rb0
    case hb0 => (intro w hSw; go_simp; with_reducible rfl)
    simp only [Act.put, List.setIfInBounds_toArray, List.set_cons_zero, List.set_cons_succ]
    refine wpAnyK_take 1 56 (v := ?vb1) rfl (by kernel_rfl) (by kernel_rfl) (by kernel_rfl) (by kernel_rfl) (by kernel_rfl) (fun _ _ _ h => h) rfl (Or.inl ⟨by rfl, ?hb1⟩) (by assumption) ?rb1
    case hb1 => (intro w hSw; go_simp; with_reducible rfl)
    simp only [Act.put, List.setIfInBounds_toArray, List.set_cons_zero, List.set_cons_succ]
    refine wpAnyK_take 2 57 (v := ?vb2) rfl (by kernel_rfl) (by kernel_rfl) (by kernel_rfl) (by kernel_rfl) (by kernel_rfl) (fun _ _ _ h => h) rfl (Or.inl ⟨by rfl, ?hb2⟩) (by assumption) ?rb2
    case hb2 => (intro w hSw; go_simp; with_reducible rfl)
    simp only [Act.put, List.setIfInBounds_toArray, List.set_cons_zero, List.set_cons_succ]
    refine wpAnyK_take 3 58 (v := ?vb3) rfl (by kernel_rfl) (by kernel_rfl) (by kernel_rfl) (by kernel_rfl) (by kernel_rfl) (fun _ _ _ h => h) rfl (Or.inl ⟨by rfl, ?hb3⟩) (by assumption) ?rb3
    case hb3 => (intro w hSw; go_simp; with_reducible rfl)
    simp only [Act.put, List.setIfInBounds_toArray, List.set_cons_zero, List.set_cons_succ]
    refine wpAnyK_take 4 59 (v := ?vb4) rfl (by kernel_rfl) (by kernel_rfl) (by kernel_rfl) (by kernel_rfl) (by kernel_rfl) (fun _ _ _ h => h) rfl (Or.inl ⟨by rfl, ?hb4⟩) (by assumption) ?rb4
    case hb4 => (intro w hSw; go_simp; with_reducible rfl)
    simp only [Act.put, List.setIfInBounds_toArray, List.set_cons_zero, List.set_cons_succ]
    refine wpAnyK_take 5 60 (v := ?vb5) rfl (by kernel_rfl) (by kernel_rfl) (by kernel_rfl) (by kernel_rfl) (by kernel_rfl) (fun _ _ _ h => h) rfl (Or.inl ⟨by rfl, ?hb5⟩) (by assumption) ?rb5
    case hb5 => (intro w hSw; go_simp; with_reducible rfl)
    simp only [Act.put, List.setIfInBounds_toArray, List.set_cons_zero, List.set_cons_succ]
    refine wpAnyK_take 6 61 (v := ?vb6) rfl (by kernel_rfl) (by kernel_rfl) (by kernel_rfl) (by kernel_rfl) (by kernel_rfl) (fun _ _ _ h => h) rfl (Or.inl ⟨by rfl, ?hb6⟩) (by assumption) ?rb6
    case hb6 => (intro w hSw; go_simp; with_reducible rfl)
    simp only [Act.put, List.setIfInBounds_toArray, List.set_cons_zero, List.set_cons_succ]
    refine wpAnyK_take 7 62 (v := ?vb7) rfl (by kernel_rfl) (by kernel_rfl) (by kernel_rfl) (by kernel_rfl) (by kernel_rfl) (fun _ _ _ h => h) rfl (Or.inl ⟨by rfl, ?hb7⟩) (by assumption) ?rb7
    case hb7 => (intro w hSw; go_simp; with_reducible rfl)
    simp only [Act.put, List.setIfInBounds_toArray, List.set_cons_zero, List.set_cons_succ]
    refine wpAnyK_take 8 63 (v := ?vb8) rfl (by kernel_rfl) (by kernel_rfl) (by kernel_rfl) (by kernel_rfl) (by kernel_rfl) (fun _ _ _ h => h) rfl (Or.inl ⟨by rfl, ?hb8⟩) (by assumption) ?rb8
    case hb8 => (intro w hSw; go_simp; with_reducible rfl)
    simp only [Act.put, List.setIfInBounds_toArray, List.set_cons_zero, List.set_cons_succ]
    refine wpAnyK_take 9 64 (v := ?vb9) rfl (by kernel_rfl) (by kernel_rfl) (by kernel_rfl) (by kernel_rfl) (by kernel_rfl) (fun _ _ _ h => h) rfl (Or.inl ⟨by rfl, ?hb9⟩) (by assumption) ?rb9
    case hb9 => (intro w hSw; go_simp; with_reducible rfl)
    simp only [Act.put, List.setIfInBounds_toArray, List.set_cons_zero, List.set_cons_succ]
    refine wpAnyK_take 10 65 (v := ?vb10) rfl (by kernel_rfl) (by kernel_rfl) (by kernel_rfl) (by kernel_rfl) (by kernel_rfl) (fun _ _ _ h => h) rfl (Or.inl ⟨by rfl, ?hb10⟩) (by assumption) ?rb10
    case hb10 => (intro w hSw; go_simp; with_reducible rfl)
    simp only [Act.put, List.setIfInBounds_toArray, List.set_cons_zero, List.set_cons_succ]
    refine wpAnyK_take 11 66 (v := ?vb11) rfl (by kernel_rfl) (by kernel_rfl) (by kernel_rfl) (by kernel_rfl) (by kernel_rfl) (fun _ _ _ h => h) rfl (Or.inl ⟨by rfl, ?hb11⟩) (by assumption) ?rb11
    case hb11 => (intro w hSw; go_simp; with_reducible rfl)
    simp only [Act.put, List.setIfInBounds_toArray, List.set_cons_zero, List.set_cons_succ]
    refine wpAnyK_take 12 67 (v := ?vb12) rfl (by kernel_rfl) (by kernel_rfl) (by kernel_rfl) (by kernel_rfl) (by kernel_rfl) (fun _ _ _ h => h) rfl (Or.inl ⟨by rfl, ?hb12⟩) (by assumption) ?rb12
    case hb12 => (intro w hSw; go_simp; with_reducible rfl)
    simp only [Act.put, List.setIfInBounds_toArray, List.set_cons_zero, List.set_cons_succ]
    refine wpAnyK_take 13 68 (v := ?vb13) rfl (by kernel_rfl) (by kernel_rfl) (by kernel_rfl) (by kernel_rfl) (by kernel_rfl) (fun _ _ _ h => h) rfl (Or.inl ⟨by rfl, ?hb13⟩) (by assumption) ?rb13
    case hb13 => (intro w hSw; go_simp; with_reducible rfl)
    simp only [Act.put, List.setIfInBounds_toArray, List.set_cons_zero, List.set_cons_succ]
    refine wpAnyK_take 14 69 (v := ?vb14) rfl (by kernel_rfl) (by kernel_rfl) (by kernel_rfl) (by kernel_rfl) (by kernel_rfl) (fun _ _ _ h => h) rfl (Or.inl ⟨by rfl, ?hb14⟩) (by assumption) ?rb14
    case hb14 => (intro w hSw; go_simp; with_reducible rfl)
    simp only [Act.put, List.setIfInBounds_toArray, List.set_cons_zero, List.set_cons_succ]
    refine wpAnyK_take 15 70 (v := ?vb15) rfl (by kernel_rfl) (by kernel_rfl) (by kernel_rfl) (by kernel_rfl) (by kernel_rfl) (fun _ _ _ h => h) rfl (Or.inl ⟨by rfl, ?hb15⟩) (by assumption) ?rb15
    case hb15 => (intro w hSw; go_simp; with_reducible rfl)
    simp only [Act.put, List.setIfInBounds_toArray, List.set_cons_zero, List.set_cons_succ]
    refine wpAnyK_take 16 71 (v := ?vb16) rfl (by kernel_rfl) (by kernel_rfl) (by kernel_rfl) (by kernel_rfl) (by kernel_rfl) (fun _ _ _ h => h) rfl (Or.inl ⟨by rfl, ?hb16⟩) (by assumption) ?rb16
    case hb16 => (intro w hSw; go_simp; with_reducible rfl)
    simp only [Act.put, List.setIfInBounds_toArray, List.set_cons_zero, List.set_cons_succ]
    refine wpAnyK_take 17 72 (v := ?vb17) rfl (by kernel_rfl) (by kernel_rfl) (by kernel_rfl) (by kernel_rfl) (by kernel_rfl) (fun _ _ _ h => h) rfl (Or.inl ⟨by rfl, ?hb17⟩) (by assumption) ?rb17
    case hb17 => (intro w hSw; go_simp; with_reducible rfl)
    simp only [Act.put, List.setIfInBounds_toArray, List.set_cons_zero, List.set_cons_succ]
    refine wpAnyK_take 18 73 (v := ?vb18) rfl (by kernel_rfl) (by kernel_rfl) (by kernel_rfl) (by kernel_rfl) (by kernel_rfl) (fun _ _ _ h => h) rfl (Or.inl ⟨by rfl, ?hb18⟩) (by assumption) ?rb18
    case hb18 => (intro w hSw; go_simp; with_reducible rfl)
    simp only [Act.put, List.setIfInBounds_toArray, List.set_cons_zero, List.set_cons_succ]
    refine wpAnyK_take 19 74 (v := ?vb19) rfl (by kernel_rfl) (by kernel_rfl) (by kernel_rfl) (by kernel_rfl) (by kernel_rfl) (fun _ _ _ h => h) rfl (Or.inl ⟨by rfl, ?hb19⟩) (by assumption) ?rb19
    case hb19 => (intro w hSw; go_simp; with_reducible rfl)
    simp only [Act.put, List.setIfInBounds_toArray, List.set_cons_zero, List.set_cons_succ]
    refine wpAnyK_take 20 75 (v := ?vb20) rfl (by kernel_rfl) (by kernel_rfl) (by kernel_rfl) (by kernel_rfl) (by kernel_rfl) (fun _ _ _ h => h) rfl (Or.inl ⟨by rfl, ?hb20⟩) (by assumption) ?rb20
    case hb20 => (intro w hSw; go_simp; with_reducible rfl)
    simp only [Act.put, List.setIfInBounds_toArray, List.set_cons_zero, List.set_cons_succ]
    refine wpAnyK_take 21 76 (v := ?vb21) rfl (by kernel_rfl) (by kernel_rfl) (by kernel_rfl) (by kernel_rfl) (by kernel_rfl) (fun _ _ _ h => h) rfl (Or.inl ⟨by rfl, ?hb21⟩) (by assumption) ?rb21
    case hb21 => (intro w hSw; go_simp; with_reducible rfl)
    simp only [Act.put, List.setIfInBounds_toArray, List.set_cons_zero, List.set_cons_succ]
    refine wpAnyK_take 22 77 (v := ?vb22) rfl (by kernel_rfl) (by kernel_rfl) (by kernel_rfl) (by kernel_rfl) (by kernel_rfl) (fun _ _ _ h => h) rfl (Or.inl ⟨by rfl, ?hb22⟩) (by assumption) ?rb22
    case hb22 => (intro w hSw; go_simp; with_reducible rfl)
    simp only [Act.put, List.setIfInBounds_toArray, List.set_cons_zero, List.set_cons_succ]
    refine wpAnyK_take 23 78 (v := ?vb23) rfl (by kernel_rfl) (by kernel_rfl) (by kernel_rfl) (by kernel_rfl) (by kernel_rfl) (fun _ _ _ h => h) rfl (Or.inl ⟨by rfl, ?hb23⟩) (by assumption) ?rb23
    case hb23 => (intro w hSw; go_simp; with_reducible rfl)
    simp only [Act.put, List.setIfInBounds_toArray, List.set_cons_zero, List.set_cons_succ]
    refine wpAnyK_take 24 79 (v := ?vb24) rfl (by kernel_rfl) (by kernel_rfl) (by kernel_rfl) (by kernel_rfl) (by kernel_rfl) (fun _ _ _ h => h) rfl (Or.inl ⟨by rfl, ?hb24⟩) (by assumption) ?rb24
    case hb24 => (intro w hSw; go_simp; with_reducible rfl)
    simp only [Act.put, List.setIfInBounds_toArray, List.set_cons_zero, List.set_cons_succ]
    refine wpAnyK_take 25 80 (v := ?vb25) rfl (by kernel_rfl) (by kernel_rfl) (by kernel_rfl) (by kernel_rfl) (by kernel_rfl) (fun _ _ _ h => h) rfl (Or.inl ⟨by rfl, ?hb25⟩) (by assumption) ?rb25
    case hb25 => (intro w hSw; go_simp; with_reducible rfl)
    simp only [Act.put, List.setIfInBounds_toArray, List.set_cons_zero, List.set_cons_succ]
    refine wpAnyK_take 26 81 (v := ?vb26) rfl (by kernel_rfl) (by kernel_rfl) (by kernel_rfl) (by kernel_rfl) (by kernel_rfl) (fun _ _ _ h => h) rfl (Or.inl ⟨by rfl, ?hb26⟩) (by assumption) ?rb26
    case hb26 => (intro w hSw; go_simp; with_reducible rfl)
    simp only [Act.put, List.setIfInBounds_toArray, List.set_cons_zero, List.set_cons_succ]
    refine wpAnyK_take 27 82 (v := ?vb27) rfl (by kernel_rfl) (by kernel_rfl) (by kernel_rfl) (by kernel_rfl) (by kernel_rfl) (fun _ _ _ h => h) rfl (Or.inl ⟨by rfl, ?hb27⟩) (by assumption) ?rb27
    case hb27 => (intro w hSw; go_simp; with_reducible rfl)
    simp only [Act.put, List.setIfInBounds_toArray, List.set_cons_zero, List.set_cons_succ]
    refine wpAnyK_take 28 83 (v := ?vb28) rfl (by kernel_rfl) (by kernel_rfl) (by kernel_rfl) (by kernel_rfl) (by kernel_rfl) (fun _ _ _ h => h) rfl (Or.inl ⟨by rfl, ?hb28⟩) (by assumption) ?rb28
    case hb28 => (intro w hSw; go_simp; with_reducible rfl)
    simp only [Act.put, List.setIfInBounds_toArray, List.set_cons_zero, List.set_cons_succ]
    refine wpAnyK_take 29 84 (v := ?vb29) rfl (by kernel_rfl) (by kernel_rfl) (by kernel_rfl) (by kernel_rfl) (by kernel_rfl) (fun _ _ _ h => h) rfl (Or.inl ⟨by rfl, ?hb29⟩) (by assumption) ?rb29
    case hb29 => (intro w hSw; go_simp; with_reducible rfl)
    simp only [Act.put, List.setIfInBounds_toArray, List.set_cons_zero, List.set_cons_succ]
    refine wpAnyK_take 30 85 (v := ?vb30) rfl (by kernel_rfl) (by kernel_rfl) (by kernel_rfl) (by kernel_rfl) (by kernel_rfl) (fun _ _ _ h => h) rfl (Or.inl ⟨by rfl, ?hb30⟩) (by assumption) ?rb30
    case hb30 => (intro w hSw; go_simp; with_reducible rfl)
    simp only [Act.put, List.setIfInBounds_toArray, List.set_cons_zero, List.set_cons_succ]
    refine wpAnyK_take 31 86 (v := ?vb31) rfl (by kernel_rfl) (by kernel_rfl) (by kernel_rfl) (by kernel_rfl) (by kernel_rfl) (fun _ _ _ h => h) rfl (Or.inl ⟨by rfl, ?hb31⟩) (by assumption) ?rb31
    case hb31 => (intro w hSw; go_simp; with_reducible rfl)
    simp only [Act.put, List.setIfInBounds_toArray, List.set_cons_zero, List.set_cons_succ]
    refine wpAnyK_take 32 87 (v := ?vb32) rfl (by kernel_rfl) (by kernel_rfl) (by kernel_rfl) (by kernel_rfl) (by kernel_rfl) (fun _ _ _ h => h) rfl (Or.inl ⟨by rfl, ?hb32⟩) (by assumption) ?rb32
    case hb32 => (intro w hSw; go_simp; with_reducible rfl)
    simp only [Act.put, List.setIfInBounds_toArray, List.set_cons_zero, List.set_cons_succ]
    refine wpAnyK_take 33 88 (v := ?vb33) rfl (by kernel_rfl) (by kernel_rfl) (by kernel_rfl) (by kernel_rfl) (by kernel_rfl) (fun _ _ _ h => h) rfl (Or.inl ⟨by rfl, ?hb33⟩) (by assumption) ?rb33
    case hb33 => (intro w hSw; go_simp; with_reducible rfl)
    simp only [Act.put, List.setIfInBounds_toArray, List.set_cons_zero, List.set_cons_succ]
    refine wpAnyK_take 34 89 (v := ?vb34) rfl (by kernel_rfl) (by kernel_rfl) (by kernel_rfl) (by kernel_rfl) (by kernel_rfl) (fun _ _ _ h => h) rfl (Or.inl ⟨by rfl, ?hb34⟩) (by assumption) ?rb34
    case hb34 => (intro w hSw; go_simp; with_reducible rfl)
    simp only [Act.put, List.setIfInBounds_toArray, List.set_cons_zero, List.set_cons_succ]
    refine wpAnyK_take 35 90 (v := ?vb35) rfl (by kernel_rfl) (by kernel_rfl) (by kernel_rfl) (by kernel_rfl) (by kernel_rfl) (fun _ _ _ h => h) rfl (Or.inl ⟨by rfl, ?hb35⟩) (by assumption) ?rb35
    case hb35 => (intro w hSw; go_simp; with_reducible rfl)
    simp only [Act.put, List.setIfInBounds_toArray, List.set_cons_zero, List.set_cons_succ]
    refine wpAnyK_take 36 91 (v := ?vb36) rfl (by kernel_rfl) (by kernel_rfl) (by kernel_rfl) (by kernel_rfl) (by kernel_rfl) (fun _ _ _ h => h) rfl (Or.inl ⟨by rfl, ?hb36⟩) (by assumption) ?rb36
    case hb36 => (intro w hSw; go_simp; with_reducible rfl)
    simp only [Act.put, List.setIfInBounds_toArray, List.set_cons_zero, List.set_cons_succ]
    refine wpAnyK_take 37 92 (v := ?vb37) rfl (by kernel_rfl) (by kernel_rfl) (by kernel_rfl) (by kernel_rfl) (by kernel_rfl) (fun _ _ _ h => h) rfl (Or.inl ⟨by rfl, ?hb37⟩) (by assumption) ?rb37
    case hb37 => (intro w hSw; go_simp; with_reducible rfl)
    simp only [Act.put, List.setIfInBounds_toArray, List.set_cons_zero, List.set_cons_succ]
    refine wpAnyK_take 38 93 (v := ?vb38) rfl (by kernel_rfl) (by kernel_rfl) (by kernel_rfl) (by kernel_rfl) (by kernel_rfl) (fun _ _ _ h => h) rfl (Or.inl ⟨by rfl, ?hb38⟩) (by assumption) ?rb38
    case hb38 => (intro w hSw; go_simp; with_reducible rfl)
    simp only [Act.put, List.setIfInBounds_toArray, List.set_cons_zero, List.set_cons_succ]
    refine wpAnyK_one 39 (by kernel_rfl) rfl (fun K hK => ?_)
    go_simp
    refine hK.out _ _ (fun h => absurd rfl h) ?_
    clear hK K
    simp only [List.setIfInBounds_toArray, List.set_cons_zero, List.set_cons_succ]
    refine wpAnyK_done (by kernel_rfl) ?_ _
    clear S0
    go_wp2
    go_roundw
    case rel =>
     refine ⟨2, by omega, rfl, ?_, HB.out⟩
     rw [← ST.out]
    case measure => simp [intOf]
   ·
    have MA := fun t w => Sv.mr14 (hz 1 0 (by omega) (by omega)) (hz 2 1 (by omega) (by omega)) t w
    have MAc := fun w => Sv.cv14 (Sv.mul_w (hz 1 0 (by omega) (by omega)) (hz 2 1 (by omega) (by omega))).2 w
    have MB := fun t w => Sv.mr14 (hz 1 1 (by omega) (by omega)) (hz 2 0 (by omega) (by omega)) t w
    have MBc := fun w => Sv.cv14 (Sv.mul_w (hz 1 1 (by omega) (by omega)) (hz 2 0 (by omega) (by omega))).2 w
    generalize Sv.mulW (Z 1 0) (Z 2 1) = pa at *
    generalize Sv.mulW (Z 1 1) (Z 2 0) = pb at *
    generalize hx00 : Sv.iw (Z 0 0) = x00 at *
    generalize hx01 : Sv.iw (Z 0 1) = x01 at *
    generalize hx02 : Sv.iw (Z 0 2) = x02 at *
    generalize hx10 : Sv.iw (Z 1 0) = x10 at *
    generalize hx11 : Sv.iw (Z 1 1) = x11 at *
    generalize hx12 : Sv.iw (Z 1 2) = x12 at *
    generalize hx20 : Sv.iw (Z 2 0) = x20 at *
    generalize hx21 : Sv.iw (Z 2 1) = x21 at *
    generalize hx22 : Sv.iw (Z 2 2) = x22 at *
    have S0 : wr.drew.cell? ⟨b, o, none⟩ = some (.slice (some ⟨r0, o0, none⟩) 3 c0) ∧ wr.drew.cell? ⟨b, o + 1, none⟩ = some (.slice (some ⟨r1, o1, none⟩) 3 c1) ∧ wr.drew.cell? ⟨b, o + 2, none⟩ = some (.slice (some ⟨r2, o2, none⟩) 3 c2) ∧ wr.drew.cell? ⟨r0, o0, none⟩ = some (.float .f64 x00) ∧ wr.drew.cell? ⟨r0, o0 + 1, none⟩ = some (.float .f64 x01) ∧ wr.drew.cell? ⟨r0, o0 + 2, none⟩ = some (.float .f64 x02) ∧ wr.drew.cell? ⟨r1, o1, none⟩ = some (.float .f64 x10) ∧ wr.drew.cell? ⟨r1, o1 + 1, none⟩ = some (.float .f64 x11) ∧ wr.drew.cell? ⟨r1, o1 + 2, none⟩ = some (.float .f64 x12) ∧ wr.drew.cell? ⟨r2, o2, none⟩ = some (.float .f64 x20) ∧ wr.drew.cell? ⟨r2, o2 + 1, none⟩ = some (.float .f64 x21) ∧ wr.drew.cell? ⟨r2, o2 + 2, none⟩ = some (.float .f64 x22) := ⟨e0, e1, e2, e00, e01, e02, e10, e11, e12, e20, e21, e22⟩
    clear e0 e1 e2 e00 e01 e02 e10 e11 e12 e20 e21 e22
    go_wp2_with fail
    refine wp_region_K (fun w' => w'.cell? ⟨b, o, none⟩ = some (.slice (some ⟨r0, o0, none⟩) 3 c0) ∧ w'.cell? ⟨b, o + 1, none⟩ = some (.slice (some ⟨r1, o1, none⟩) 3 c1) ∧ w'.cell? ⟨b, o + 2, none⟩ = some (.slice (some ⟨r2, o2, none⟩) 3 c2) ∧ w'.cell? ⟨r0, o0, none⟩ = some (.float .f64 x00) ∧ w'.cell? ⟨r0, o0 + 1, none⟩ = some (.float .f64 x01) ∧ w'.cell? ⟨r0, o0 + 2, none⟩ = some (.float .f64 x02) ∧ w'.cell? ⟨r1, o1, none⟩ = some (.float .f64 x10) ∧ w'.cell? ⟨r1, o1 + 1, none⟩ = some (.float .f64 x11) ∧ w'.cell? ⟨r1, o1 + 2, none⟩ = some (.float .f64 x12) ∧ w'.cell? ⟨r2, o2, none⟩ = some (.float .f64 x20) ∧ w'.cell? ⟨r2, o2 + 1, none⟩ = some (.float .f64 x21) ∧ w'.cell? ⟨r2, o2 + 2, none⟩ = some (.float .f64 x22)) 39 40 #[false, false, false, false, false, false, false, false, false, false, false, false, false, false, false, false, false, false, false, false, false, false, false, false, false, false, false, false, false, false, false, false, false, false, false, false, false, false, false, false] (by kernel_rfl) (by kernel_rfl) (by kernel_rfl) ?_
    generalize wr.drew = W at *
    refine wpAnyK_take 0 55 (v := ?vc0) rfl (by kernel_rfl) (by kernel_rfl) (by kernel_rfl) (by kernel_rfl) (by kernel_rfl) (fun _ _ _ h => h) rfl (Or.inl ⟨by rfl, ?hc0⟩) (by assumption) ?rc0
    case hc0 => (intro w hSw; go_simp; with_reducible rfl)
    simp only [Act.put, List.setIfInBounds_toArray, List.set_cons_zero, List.set_cons_succ]
    refine wpAnyK_take 1 56 (v := ?vc1) rfl (by kernel_rfl) (by kernel_rfl) (by kernel_rfl) (by kernel_rfl) (by kernel_rfl) (fun _ _ _ h => h) rfl (Or.inl ⟨by rfl, ?hc1⟩) (by assumption) ?rc1
    case hc1 => (intro w hSw; go_simp; with_reducible rfl)
    simp only [Act.put, List.setIfInBounds_toArray, List.set_cons_zero, List.set_cons_succ]
    refine wpAnyK_take 2 57 (v := ?vc2) rfl (by kernel_rfl) (by kernel_rfl) (by kernel_rfl) (by kernel_rfl) (by kernel_rfl) (fun _ _ _ h => h) rfl (Or.inl ⟨by rfl, ?hc2⟩) (by assumption) ?rc2
    case hc2 => (intro w hSw; go_simp; with_reducible rfl)
    simp only [Act.put, List.setIfInBounds_toArray, List.set_cons_zero, List.set_cons_succ]
    refine wpAnyK_take 3 58 (v := ?vc3) rfl (by kernel_rfl) (by kernel_rfl) (by kernel_rfl) (by kernel_rfl) (by kernel_rfl) (fun _ _ _ h => h) rfl (Or.inl ⟨by rfl, ?hc3⟩) (by assumption) ?rc3
    case hc3 => (intro w hSw; go_simp; with_reducible rfl)
    simp only [Act.put, List.setIfInBounds_toArray, List.set_cons_zero, List.set_cons_succ]
    refine wpAnyK_take 4 59 (v := ?vc4) rfl (by kernel_rfl) (by kernel_rfl) (by kernel_rfl) (by kernel_rfl) (by kernel_rfl) (fun _ _ _ h => h) rfl (Or.inl ⟨by rfl, ?hc4⟩) (by assumption) ?rc4
    case hc4 => (intro w hSw; go_simp; with_reducible rfl)
    simp only [Act.put, List.setIfInBounds_toArray, List.set_cons_zero, List.set_cons_succ]
    refine wpAnyK_take 5 60 (v := ?vc5) rfl (by kernel_rfl) (by kernel_rfl) (by kernel_rfl) (by kernel_rfl) (by kernel_rfl) (fun _ _ _ h => h) rfl (Or.inl ⟨by rfl, ?hc5⟩) (by assumption) ?rc5
    case hc5 => (intro w hSw; go_simp; with_reducible rfl)
    simp only [Act.put, List.setIfInBounds_toArray, List.set_cons_zero, List.set_cons_succ]
    refine wpAnyK_take 6 61 (v := ?vc6) rfl (by kernel_rfl) (by kernel_rfl) (by kernel_rfl) (by kernel_rfl) (by kernel_rfl) (fun _ _ _ h => h) rfl (Or.inl ⟨by rfl, ?hc6⟩) (by assumption) ?rc6
    case hc6 => (intro w hSw; go_simp; with_reducible rfl)
    simp only [Act.put, List.setIfInBounds_toArray, List.set_cons_zero, List.set_cons_succ]
    refine wpAnyK_take 7 62 (v := ?vc7) rfl (by kernel_rfl) (by kernel_rfl) (by kernel_rfl) (by kernel_rfl) (by kernel_rfl) (fun _ _ _ h => h) rfl (Or.inl ⟨by rfl, ?hc7⟩) (by assumption) ?rc7
    case hc7 => (intro w hSw; go_simp; with_reducible rfl)
    simp only [Act.put, List.setIfInBounds_toArray, List.set_cons_zero, List.set_cons_succ]
    refine wpAnyK_take 8 63 (v := ?vc8) rfl (by kernel_rfl) (by kernel_rfl) (by kernel_rfl) (by kernel_rfl) (by kernel_rfl) (fun _ _ _ h => h) rfl (Or.inl ⟨by rfl, ?hc8⟩) (by assumption) ?rc8
    case hc8 => (intro w hSw; go_simp; with_reducible rfl)
    simp only [Act.put, List.setIfInBounds_toArray, List.set_cons_zero, List.set_cons_succ]
    refine wpAnyK_take 9 64 (v := ?vc9) rfl (by kernel_rfl) (by kernel_rfl) (by kernel_rfl) (by kernel_rfl) (by kernel_rfl) (fun _ _ _ h => h) rfl (Or.inl ⟨by rfl, ?hc9⟩) (by assumption) ?rc9
    case hc9 => (intro w hSw; go_simp; with_reducible rfl)
    simp only [Act.put, List.setIfInBounds_toArray, List.set_cons_zero, List.set_cons_succ]
    refine wpAnyK_take 10 65 (v := ?vc10) rfl (by kernel_rfl) (by kernel_rfl) (by kernel_rfl) (by kernel_rfl) (by kernel_rfl) (fun _ _ _ h => h) rfl (Or.inl ⟨by rfl, ?hc10⟩) (by assumption) ?rc10
    case hc10 => (intro w hSw; go_simp; with_reducible rfl)
    simp only [Act.put, List.setIfInBounds_toArray, List.set_cons_zero, List.set_cons_succ]
    refine wpAnyK_take 11 66 (v := ?vc11) rfl (by kernel_rfl) (by kernel_rfl) (by kernel_rfl) (by kernel_rfl) (by kernel_rfl) (fun _ _ _ h => h) rfl (Or.inl ⟨by rfl, ?hc11⟩) (by assumption) ?rc11
    case hc11 => (intro w hSw; go_simp; with_reducible rfl)
    simp only [Act.put, List.setIfInBounds_toArray, List.set_cons_zero, List.set_cons_succ]
    refine wpAnyK_take 12 67 (v := ?vc12) rfl (by kernel_rfl) (by kernel_rfl) (by kernel_rfl) (by kernel_rfl) (by kernel_rfl) (fun _ _ _ h => h) rfl (Or.inl ⟨by rfl, ?hc12⟩) (by assumption) ?rc12
    case hc12 => (intro w hSw; go_simp; with_reducible rfl)
    simp only [Act.put, List.setIfInBounds_toArray, List.set_cons_zero, List.set_cons_succ]
    refine wpAnyK_take 13 68 (v := ?vc13) rfl (by kernel_rfl) (by kernel_rfl) (by kernel_rfl) (by kernel_rfl) (by kernel_rfl) (fun _ _ _ h => h) rfl (Or.inl ⟨by rfl, ?hc13⟩) (by assumption) ?rc13
    case hc13 => (intro w hSw; go_simp; with_reducible rfl)
    simp only [Act.put, List.setIfInBounds_toArray, List.set_cons_zero, List.set_cons_succ]
    refine wpAnyK_take 14 69 (v := ?vc14) rfl (by kernel_rfl) (by kernel_rfl) (by kernel_rfl) (by kernel_rfl) (by kernel_rfl) (fun _ _ _ h => h) rfl (Or.inl ⟨by rfl, ?hc14⟩) (by assumption) ?rc14
    case hc14 => (intro w hSw; go_simp; with_reducible rfl)
    simp only [Act.put, List.setIfInBounds_toArray, List.set_cons_zero, List.set_cons_succ]
    refine wpAnyK_take 15 70 (v := ?vc15) rfl (by kernel_rfl) (by kernel_rfl) (by kernel_rfl) (by kernel_rfl) (by kernel_rfl) (fun _ _ _ h => h) rfl (Or.inl ⟨by rfl, ?hc15⟩) (by assumption) ?rc15
    case hc15 => (intro w hSw; go_simp; with_reducible rfl)
    simp only [Act.put, List.setIfInBounds_toArray, List.set_cons_zero, List.set_cons_succ]
    refine wpAnyK_take 16 71 (v := ?vc16) rfl (by kernel_rfl) (by kernel_rfl) (by kernel_rfl) (by kernel_rfl) (by kernel_rfl) (fun _ _ _ h => h) rfl (Or.inl ⟨by rfl, ?hc16⟩) (by assumption) ?rc16
    case hc16 => (intro w hSw; go_simp; with_reducible rfl)
    simp only [Act.put, List.setIfInBounds_toArray, List.set_cons_zero, List.set_cons_succ]
    refine wpAnyK_take 17 72 (v := ?vc17) rfl (by kernel_rfl) (by kernel_rfl) (by kernel_rfl) (by kernel_rfl) (by kernel_rfl) (fun _ _ _ h => h) rfl (Or.inl ⟨by rfl, ?hc17⟩) (by assumption) ?rc17
    case hc17 => (intro w hSw; go_simp; with_reducible rfl)
    simp only [Act.put, List.setIfInBounds_toArray, List.set_cons_zero, List.set_cons_succ]
    refine wpAnyK_take 18 73 (v := ?vc18) rfl (by kernel_rfl) (by kernel_rfl) (by kernel_rfl) (by kernel_rfl) (by kernel_rfl) (fun _ _ _ h => h) rfl (Or.inl ⟨by rfl, ?hc18⟩) (by assumption) ?rc18
    case hc18 => (intro w hSw; go_simp; with_reducible rfl)
    simp only [Act.put, List.setIfInBounds_toArray, List.set_cons_zero, List.set_cons_succ]
    refine wpAnyK_take 19 74 (v := ?vc19) rfl (by kernel_rfl) (by kernel_rfl) (by kernel_rfl) (by kernel_rfl) (by kernel_rfl) (fun _ _ _ h => h) rfl (Or.inl ⟨by rfl, ?hc19⟩) (by assumption) ?rc19
    case hc19 => (intro w hSw; go_simp; with_reducible rfl)
    simp only [Act.put, List.setIfInBounds_toArray, List.set_cons_zero, List.set_cons_succ]
    refine wpAnyK_take 20 75 (v := ?vc20) rfl (by kernel_rfl) (by kernel_rfl) (by kernel_rfl) (by kernel_rfl) (by kernel_rfl) (fun _ _ _ h => h) rfl (Or.inl ⟨by rfl, ?hc20⟩) (by assumption) ?rc20
    case hc20 => (intro w hSw; go_simp; with_reducible rfl)
    simp only [Act.put, List.setIfInBounds_toArray, List.set_cons_zero, List.set_cons_succ]
    refine wpAnyK_take 21 76 (v := ?vc21) rfl (by kernel_rfl) (by kernel_rfl) (by kernel_rfl) (by kernel_rfl) (by kernel_rfl) (fun _ _ _ h => h) rfl (Or.inl ⟨by rfl, ?hc21⟩) (by assumption) ?rc21
    case hc21 => (intro w hSw; go_simp; with_reducible rfl)
    simp only [Act.put, List.setIfInBounds_toArray, List.set_cons_zero, List.set_cons_succ]
    refine wpAnyK_take 22 77 (v := ?vc22) rfl (by kernel_rfl) (by kernel_rfl) (by kernel_rfl) (by kernel_rfl) (by kernel_rfl) (fun _ _ _ h => h) rfl (Or.inl ⟨by rfl, ?hc22⟩) (by assumption) ?rc22
    case hc22 => (intro w hSw; go_simp; with_reducible rfl)
    simp only [Act.put, List.setIfInBounds_toArray, List.set_cons_zero, List.set_cons_succ]
    refine wpAnyK_take 23 78 (v := ?vc23) rfl (by kernel_rfl) (by kernel_rfl) (by kernel_rfl) (by kernel_rfl) (by kernel_rfl) (fun _ _ _ h => h) rfl (Or.inl ⟨by rfl, ?hc23⟩) (by assumption) ?rc23
    case hc23 => (intro w hSw; go_simp; with_reducible rfl)
    simp only [Act.put, List.setIfInBounds_toArray, List.set_cons_zero, List.set_cons_succ]
    refine wpAnyK_take 24 79 (v := ?vc24) rfl (by kernel_rfl) (by kernel_rfl) (by kernel_rfl) (by kernel_rfl) (by kernel_rfl) (fun _ _ _ h => h) rfl (Or.inl ⟨by rfl, ?hc24⟩) (by assumption) ?rc24
    case hc24 => (intro w hSw; go_simp; with_reducible rfl)
    simp only [Act.put, List.setIfInBounds_toArray, List.set_cons_zero, List.set_cons_succ]
    refine wpAnyK_take 25 80 (v := ?vc25) rfl (by kernel_rfl) (by kernel_rfl) (by kernel_rfl) (by kernel_rfl) (by kernel_rfl) (fun _ _ _ h => h) rfl (Or.inl ⟨by rfl, ?hc25⟩) (by assumption) ?rc25
    case hc25 => (intro w hSw; go_simp; with_reducible rfl)
    simp only [Act.put, List.setIfInBounds_toArray, List.set_cons_zero, List.set_cons_succ]
    refine wpAnyK_take 26 81 (v := ?vc26) rfl (by kernel_rfl) (by kernel_rfl) (by kernel_rfl) (by kernel_rfl) (by kernel_rfl) (fun _ _ _ h => h) rfl (Or.inl ⟨by rfl, ?hc26⟩) (by assumption) ?rc26
    case hc26 => (intro w hSw; go_simp; with_reducible rfl)
    simp only [Act.put, List.setIfInBounds_toArray, List.set_cons_zero, List.set_cons_succ]
    refine wpAnyK_take 27 82 (v := ?vc27) rfl (by kernel_rfl) (by kernel_rfl) (by kernel_rfl) (by kernel_rfl) (by kernel_rfl) (fun _ _ _ h => h) rfl (Or.inl ⟨by rfl, ?hc27⟩) (by assumption) ?rc27
    case hc27 => (intro w hSw; go_simp; with_reducible rfl)
    simp only [Act.put, List.setIfInBounds_toArray, List.set_cons_zero, List.set_cons_succ]
    refine wpAnyK_take 28 83 (v := ?vc28) rfl (by kernel_rfl) (by kernel_rfl) (by kernel_rfl) (by kernel_rfl) (by kernel_rfl) (fun _ _ _ h => h) rfl (Or.inl ⟨by rfl, ?hc28⟩) (by assumption) ?rc28
    case hc28 => (intro w hSw; go_simp; with_reducible rfl)
    simp only [Act.put, List.setIfInBounds_toArray, List.set_cons_zero, List.set_cons_succ]
    refine wpAnyK_take 29 84 (v := ?vc29) rfl (by kernel_rfl) (by kernel_rfl) (by kernel_rfl) (by kernel_rfl) (by kernel_rfl) (fun _ _ _ h => h) rfl (Or.inl ⟨by rfl, ?hc29⟩) (by assumption) ?rc29
    case hc29 => (intro w hSw; go_simp; with_reducible rfl)
    simp only [Act.put, List.setIfInBounds_toArray, List.set_cons_zero, List.set_cons_succ]
    refine wpAnyK_take 30 85 (v := ?vc30) rfl (by kernel_rfl) (by kernel_rfl) (by kernel_rfl) (by kernel_rfl) (by kernel_rfl) (fun _ _ _ h => h) rfl (Or.inl ⟨by rfl, ?hc30⟩) (by assumption) ?rc30
    case hc30 => (intro w hSw; go_simp; with_reducible rfl)
    simp only [Act.put, List.setIfInBounds_toArray, List.set_cons_zero, List.set_cons_succ]
    refine wpAnyK_take 31 86 (v := ?vc31) rfl (by kernel_rfl) (by kernel_rfl) (by kernel_rfl) (by kernel_rfl) (by kernel_rfl) (fun _ _ _ h => h) rfl (Or.inl ⟨by rfl, ?hc31⟩) (by assumption) ?rc31
    case hc31 => (intro w hSw; go_simp; with_reducible rfl)
    simp only [Act.put, List.setIfInBounds_toArray, List.set_cons_zero, List.set_cons_succ]
    refine wpAnyK_take 32 87 (v := ?vc32) rfl (by kernel_rfl) (by kernel_rfl) (by kernel_rfl) (by kernel_rfl) (by kernel_rfl) (fun _ _ _ h => h) rfl (Or.inl ⟨by rfl, ?hc32⟩) (by assumption) ?rc32
    case hc32 => (intro w hSw; go_simp; with_reducible rfl)
    simp only [Act.put, List.setIfInBounds_toArray, List.set_cons_zero, List.set_cons_succ]
    refine wpAnyK_take 33 88 (v := ?vc33) rfl (by kernel_rfl) (by kernel_rfl) (by kernel_rfl) (by kernel_rfl) (by kernel_rfl) (fun _ _ _ h => h) rfl (Or.inl ⟨by rfl, ?hc33⟩) (by assumption) ?rc33
    case hc33 => (intro w hSw; go_simp; with_reducible rfl)
    simp only [Act.put, List.setIfInBounds_toArray, List.set_cons_zero, List.set_cons_succ]
    refine wpAnyK_take 34 89 (v := ?vc34) rfl (by kernel_rfl) (by kernel_rfl) (by kernel_rfl) (by kernel_rfl) (by kernel_rfl) (fun _ _ _ h => h) rfl (Or.inl ⟨by rfl, ?hc34⟩) (by assumption) ?rc34
    case hc34 => (intro w hSw; go_simp; with_reducible rfl)
    simp only [Act.put, List.setIfInBounds_toArray, List.set_cons_zero, List.set_cons_succ]
    refine wpAnyK_take 35 90 (v := ?vc35) rfl (by kernel_rfl) (by kernel_rfl) (by kernel_rfl) (by kernel_rfl) (by kernel_rfl) (fun _ _ _ h => h) rfl (Or.inl ⟨by rfl, ?hc35⟩) (by assumption) ?rc35
    case hc35 => (intro w hSw; go_simp; with_reducible rfl)
    simp only [Act.put, List.setIfInBounds_toArray, List.set_cons_zero, List.set_cons_succ]
    refine wpAnyK_take 36 91 (v := ?vc36) rfl (by kernel_rfl) (by kernel_rfl) (by kernel_rfl) (by kernel_rfl) (by kernel_rfl) (fun _ _ _ h => h) rfl (Or.inl ⟨by rfl, ?hc36⟩) (by assumption) ?rc36
    case hc36 => (intro w hSw; go_simp; with_reducible rfl)
    simp only [Act.put, List.setIfInBounds_toArray, List.set_cons_zero, List.set_cons_succ]
    refine wpAnyK_take 37 92 (v := ?vc37) rfl (by kernel_rfl) (by kernel_rfl) (by kernel_rfl) (by kernel_rfl) (by kernel_rfl) (fun _ _ _ h => h) rfl (Or.inl ⟨by rfl, ?hc37⟩) (by assumption) ?rc37
    case hc37 => (intro w hSw; go_simp; with_reducible rfl)
    simp only [Act.put, List.setIfInBounds_toArray, List.set_cons_zero, List.set_cons_succ]
    refine wpAnyK_take 38 93 (v := ?vc38) rfl (by kernel_rfl) (by kernel_rfl) (by kernel_rfl) (by kernel_rfl) (by kernel_rfl) (fun _ _ _ h => h) rfl (Or.inl ⟨by rfl, ?hc38⟩) (by assumption) ?rc38
    case hc38 => (intro w hSw; go_simp; with_reducible rfl)
    simp only [Act.put, List.setIfInBounds_toArray, List.set_cons_zero, List.set_cons_succ]
    refine wpAnyK_one 39 (by kernel_rfl) rfl (fun K hK => ?_)
    go_simp
    refine hK.out _ _ (fun h => absurd rfl h) ?_
    clear hK K
    simp only [List.setIfInBounds_toArray, List.set_cons_zero, List.set_cons_succ]
    refine wpAnyK_done (by kernel_rfl) ?_ _
    clear S0
    go_wp2
    go_roundw
    case rel =>
     refine ⟨3, by omega, rfl, ?_, HB.out⟩
     rw [← ST.out]
    case measure => simp [intOf]
end Go.Proofs.Ytjfkdmddfeeheaa
