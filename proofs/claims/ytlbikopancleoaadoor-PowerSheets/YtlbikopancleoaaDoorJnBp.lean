/-
  OWN TEXT: SetFloat64, SetMantExp and Float64 of package eddybig's floats, and the reference's Scale.
-/
import Derived.Test.YtlbikopancleoaaDoorJnBn
import Derived.Test.YtlbikopancleoaaDoorJnAo
import Derived.Test.YtlbikopancleoaaDoorJnBo
namespace Go.Proofs.YtlbikopancleoaaDoor
open Go.ChangeShapes Go.WideShapes Go.ChangeAt Go.RowKit
open Bg
set_option linter.unusedVariables false
attribute [local go_sem] frombits_call tobits_call
theorem low52f (x : Nat) (hx : x < 18446744073709551616) : bits BinOp.and IntKind.u64 (x : Int) 4503599627370495 = ((x % 4503599627370496 : Nat) : Int) := by
  have e := u64_and_nat x 4503599627370495 hx (by omega)
  rw [show ((4503599627370495 : Nat) : Int) = 4503599627370495 from rfl] at e
  rw [e]
  have h := Nat.and_two_pow_sub_one_eq_mod x 52
  rw [show 2 ^ 52 - 1 = 4503599627370495 from rfl] at h
  rw [h]
theorem or52f (m : Nat) (hm : m < 4503599627370496) : bits BinOp.or IntKind.u64 (m : Int) 4503599627370496 = ((4503599627370496 + m : Nat) : Int) := by
  have e := u64_or_nat m 4503599627370496 (by omega) (by omega)
  rw [show ((4503599627370496 : Nat) : Int) = 4503599627370496 from rfl] at e
  rw [e]
  have h := Nat.two_pow_add_eq_or_of_lt (b := m) (i := 52) hm 1
  rw [Nat.mul_one, Nat.or_comm] at h
  exact congrArg _ h.symm
theorem vl_partsf (x : Nat) (M k : Nat) (h : (Fl.rg x / 4503599627370496 = 0 ∧ M = x % 4503599627370496 ∧ k = 0) ∨ (1 ≤ Fl.rg x / 4503599627370496 ∧ M = 4503599627370496 + x % 4503599627370496 ∧ k = Fl.rg x / 4503599627370496 - 1)) : Fl.vl (Fl.rg x) = M * 2 ^ k := by
  have hr : Fl.rg x % 4503599627370496 = x % 4503599627370496 := by unfold Fl.rg; omega
  rcases h with ⟨h1, rfl, rfl⟩ | ⟨h1, rfl, rfl⟩
  · unfold Fl.vl
    rw [if_pos (by omega)]
    omega
  · unfold Fl.vl
    rw [if_neg (by omega), hr]
/-- how many bits a float may have, told -/
theorem ft_most {w : World} {B : Nat} {s : Bool} {A : Nat} {e : Int} {m : Nat} (h : Ft w B s A e m) (n : Nat) : Ft (w.setCell ⟨B, 3, none⟩ (.int .i64 (n : Int))) B s A e n := by
  obtain ⟨v, h1, h2⟩ := h.c1
  have oth : ∀ (j : Nat) (u : Value), 3 ≠ j → (w.setCell ⟨B, 3, none⟩ u).cell? ⟨B, j, none⟩ = w.cell? ⟨B, j, none⟩ := fun j u hne => World.cell?_setCell_other _ _ _ _ (by intro k; cases k; exact hne rfl)
  exact ⟨h.nw.set 3 _ _ h.c3 (by intro x k; cases k), (oth 0 _ (by decide)).trans h.c0, ⟨v, (oth 1 _ (by decide)).trans h1, h2.off h.nw _ _⟩, (oth 2 _ (by decide)).trans h.c2, World.cell?_setCell_same _ _ _ h.c3, (oth 4 _ (by decide)).trans h.c4⟩
/-- what SetFloat64 leaves -/
def SfF (w : World) (B x : Nat) (e : Ending) (w' : World) : Prop := e = .returned (.pointer (some ⟨B, 0, none⟩)) ∧
  (∃ M K : Nat, Fl.vl (Fl.rg x) = M * 2 ^ K ∧ 0 < M ∧ M < 9007199254740992 ∧ K ≤ 2045 ∧ Fw w' B (Fl.sg x) M ((K : Int) - 1074)) ∧ ∀ w0, Fr w0 w → w0.heap.size ≤ B → Fr w0 w'
set_option maxHeartbeats 8000000 in
theorem fsetfloat_any (B x : Nat) (w : World) (hz : Ft w B false 0 0 0) (hx : x < 18446744073709551616) (hf : Fl.rg x < 9218868437227405312) (hnz : ¬ Fl.rg x = 0) (hT : Tab w) (hB : 1 < B) :
    Calls Tryd.prog 66 #[.pointer (some ⟨B, 0, none⟩), .float .f64 x] w fun e w' => SfF w B x e w' := by
  have e1 := field_u hx
  have hE : Fl.rg x / 4503599627370496 ≤ 2046 := by omega
  have e2 := low52f x hx
  have hm0 : x % 4503599627370496 < 4503599627370496 := Nat.mod_lt _ (by omega)
  have e3 := or52f (x % 4503599627370496) hm0
  have hs : ((x : Int) / 9223372036854775808 == 1) = Fl.sg x := by
    unfold Fl.sg
    rw [Bool.eq_iff_iff, beq_iff_eq, beq_iff_eq]; omega
  have HV : Hid _ := vl_partsf x
  have hpos : Fl.rg x / 4503599627370496 = 0 → 0 < x % 4503599627370496 := by
    intro h
    have : Fl.rg x % 4503599627370496 = x % 4503599627370496 := by unfold Fl.rg; omega
    omega
  have c3 := hz.c3
  have g3 := hz.nw.2.2 3
  have hz1 := ft_most hz 53
  have hT1 : Tab (w.setCell ⟨B, 3, none⟩ (.int .i64 53)) := fun j hj => (World.cell?_setCell_other _ _ _ _ (by intro k; cases k; omega)).trans (hT j hj)
  have HF : Hid (∀ w0, Fr w0 w → w0.heap.size ≤ B → Fr w0 (w.setCell ⟨B, 3, none⟩ (.int .i64 53))) := fun w0 f hb => f.setCell (p := ⟨B, 3, none⟩) hb _
  generalize Fl.rg x / 4503599627370496 = E at *
  generalize x % 4503599627370496 = m0 at *
  have SET : Hid (∀ wz wy v N K, Nm wz v N → 0 < N → N < 9007199254740992 → (K : Nat) ≤ 2045 → Fl.vl (Fl.rg x) = N * 2 ^ K → wy = w.setCell ⟨B, 3, none⟩ (.int .i64 53) → Fr wy wz → Calls Tryd.prog 76 #[.pointer (some ⟨B, 0, none⟩), .bool (Fl.sg x), v, .int .i64 ((K : Int) - 1074), .bool false] wz fun e w' => SfF w B x e w') := by
    intro wz wy v N K hv hN hN2 hK hV hwy hfr
    subst hwy
    have hzz := hz1.mono hfr
    refine (fset_walk B (Fl.sg x) false v N 0 ((K : Int) - 1074) 0 wz hzz hv hN hN2 (hT1.mono (Nat.lt_trans hB hz1.nw.1) hfr) (by omega) (by omega)).mono ?_
    intro e w' h
    refine ⟨h.1, ⟨N, K, hV, hN, hN2, hK, sf_fw (w1 := wz) hzz hN hN2 h⟩, fun w0 f hb => ?_⟩
    obtain ⟨_, w1, x1, k1, h1, _, _, _, rfl⟩ := h
    exact (((HF.out w0 f hb).trans hfr).trans h1).sf hb _ _ _
  clear hz hz1 hT hT1 HF
  rcases Nat.eq_zero_or_pos E with h0 | h0
  · subst h0
    have hm1 := hpos rfl
    have HX := HV.out m0 0 (Or.inl ⟨rfl, rfl, rfl⟩)
    have HXX : Hid _ := HX
    clear HX hpos
    go_enter Tryd.func66, Tryd.ntmps66
    go_wp2_with fail
    refine (fromUint_any m0 _ (by omega)).mono ?_
    rintro e w1 ⟨av, rfl, hav, f1⟩
    go_wp2_with fail
    have S := SET.out w1 _ av m0 0 hav hm1 (by omega) (by omega) HXX.out rfl f1
    rw [show (((0 : Nat) : Int) - 1074) = -1074 from rfl] at S
    refine S.mono ?_
    intro e w2 h
    obtain rfl := h.1
    go_wp2
    go_ret
    exact h
  · have HXX : Hid _ := HV.out (4503599627370496 + m0) (E - 1) (Or.inr ⟨h0, rfl, rfl⟩)
    have h0I : (0 : Int) < E := by omega
    have hM1 : 4503599627370496 + m0 < 9007199254740992 := by omega
    have hM2 : 0 < 4503599627370496 + m0 := by omega
    have hK : E - 1 ≤ 2045 := by omega
    have HE : Hid ((E : Int) - 1075 = ((E - 1 : Nat) : Int) - 1074) := by show _ = _; omega
    generalize 4503599627370496 + m0 = M1 at *
    generalize hK' : E - 1 = K at *
    clear hK' hpos
    go_enter Tryd.func66, Tryd.ntmps66
    go_wp2_with fail
    refine (fromUint_any M1 _ (by omega)).mono ?_
    rintro e w1 ⟨av, rfl, hav, f1⟩
    go_wp2_with fail
    have S := SET.out w1 _ av M1 K hav hM2 hM1 hK HXX.out rfl f1
    rw [← HE.out] at S
    refine S.mono ?_
    intro e w2 h
    obtain rfl := h.1
    go_wp2
    go_ret
    exact h
end Go.Proofs.YtlbikopancleoaaDoor
/-
  OWN TEXT: SetMantExp and Float64 of package eddybig's floats, and the reference's Scale.
-/
namespace Go.Proofs.YtlbikopancleoaaDoor
open Go.ChangeShapes Go.WideShapes Go.ChangeAt Go.RowKit
open Bg
set_option linter.unusedVariables false
attribute [local go_sem] frombits_call tobits_call
theorem nm_onesf (w : World) : Nm (w.alloc (.cells #[.int .u32 1] 64)) (.slice (some ⟨w.heap.size, 0, none⟩) 1 1) 1 := by
  refine ⟨_, [1], 1, rfl, Nat.le_refl _, by omega, Or.inr ⟨w.heap.size, 0, rfl, by simp, fun i hi => ?_⟩, ?_, by simp [vL], by simp [tn]⟩
  · have : i = 0 := by simpa using hi
    subst this
    simp
  · intro i
    rcases i with _ | i <;> simp
theorem wide_any (B : Nat) (s : Bool) (A : Nat) (e : Int) (w : World) (hz : Ft w B s A e 53) : Calls Tryd.prog 78 #[.pointer (some ⟨B, 0, none⟩), .pointer (some ⟨B, 0, none⟩), .pointer (some ⟨B, 0, none⟩)] w fun x w' => (∃ v, x = .returned v) ∧ w' = w := by
  have c3 := hz.c3
  go_enter Tryd.func78, Tryd.ntmps78
  go_wp2
  go_end0
  exact ⟨⟨_, rfl⟩, rfl⟩
set_option maxHeartbeats 8000000 in
theorem mantexp_any (B : Nat) (s : Bool) (A : Nat) (ex n : Int) (w : World) (hz : Ft w B s A ex 53) (hA : 0 < A) (hA2 : A < 9007199254740992) (hT : Tab w) (hB : 1 < B) (he : -20000 < ex) (he' : ex < 20000) (hn : -20000 < n) (hn' : n < 20000) :
    Calls Tryd.prog 67 #[.pointer (some ⟨B, 0, none⟩), .pointer (some ⟨B, 0, none⟩), .int .i64 n] w fun x w' => Sf w B s A (ex + n) x w' := by
  obtain ⟨v, d1, hv⟩ := hz.c1
  have d0 := hz.c0
  have d2 := hz.c2
  have d4 := hz.c4
  obtain ⟨va, vn, vc, rfl, _⟩ := nm_slice hv
  have SET : Hid (∀ wz, Fr w wz → Calls Tryd.prog 76 #[.pointer (some ⟨B, 0, none⟩), .bool s, .slice va vn vc, .int .i64 (IntKind.i64.wrap (ex + n)), .bool false] wz fun x w' => Sf w B s A (ex + n) x w') := by
    intro wz f
    have hw : IntKind.i64.wrap (ex + n) = ex + n := by simp [IntKind.wrap, IntKind.signed, IntKind.bits]; omega
    rw [hw]
    refine (fset_walk B s s _ A A (ex + n) ex wz (hz.mono f) (hv.mono f) hA hA2 (hT.mono (Nat.lt_trans hB hz.nw.1) f) (by omega) (by omega)).mono ?_
    rintro x w' ⟨h1, w1, y, k, h2, h3⟩
    exact ⟨h1, w1, y, k, f.trans h2, h3⟩
  have WD : Hid (∀ wz, wz = w → Calls Tryd.prog 78 #[.pointer (some ⟨B, 0, none⟩), .pointer (some ⟨B, 0, none⟩), .pointer (some ⟨B, 0, none⟩)] wz fun x w' => (∃ v, x = .returned v) ∧ w' = wz) := fun wz h => by
    subst h; exact wide_any B s A ex _ hz
  clear hz hv hT
  go_enter Tryd.func67, Tryd.ntmps67
  go_wp2_with fail
  refine (WD.out _ rfl).mono ?_
  rintro e w ⟨⟨vv, rfl⟩, rfl⟩
  go_wp2_with fail
  have S0 : w.drew.cell? ⟨B, 0, none⟩ = some (.bool s) ∧ w.drew.cell? ⟨B, 1, none⟩ = some (.slice va vn vc) ∧ w.drew.cell? ⟨B, 2, none⟩ = some (.int .i64 ex) ∧ w.drew.cell? ⟨B, 4, none⟩ = some (.bool false) := ⟨d0, d1, d2, d4⟩
  refine wp_region_K (fun w' => w'.cell? ⟨B, 0, none⟩ = some (.bool s) ∧ w'.cell? ⟨B, 1, none⟩ = some (.slice va vn vc) ∧ w'.cell? ⟨B, 2, none⟩ = some (.int .i64 ex) ∧ w'.cell? ⟨B, 4, none⟩ = some (.bool false)) 19 21 #[false, false, false, false, false, false, false, false, false, false, false, false, false, false, false, false, false, false, false, false, false] (by kernel_rfl) (by kernel_rfl) (by kernel_rfl) ?_
  refine wpAnyK_take 0 11 (v := ?v0) rfl (by kernel_rfl) (by kernel_rfl) (by kernel_rfl) (by kernel_rfl) (by kernel_rfl) (fun _ _ _ h => h) rfl (Or.inl ⟨by rfl, ?h0⟩) (by assumption) ?r0
  case h0 => (intro w hSw; go_simp; with_reducible rfl)
  simp only [Act.put, List.setIfInBounds_toArray, List.set_cons_zero, List.set_cons_succ]
  refine wpAnyK_take 1 12 (v := ?v1) rfl (by kernel_rfl) (by kernel_rfl) (by kernel_rfl) (by kernel_rfl) (by kernel_rfl) (fun _ _ _ h => h) rfl (Or.inl ⟨by rfl, ?h1⟩) (by assumption) ?r1
  case h1 => (intro w hSw; go_simp; with_reducible rfl)
  simp only [Act.put, List.setIfInBounds_toArray, List.set_cons_zero, List.set_cons_succ]
  refine wpAnyK_take 2 13 (v := ?v2) rfl (by kernel_rfl) (by kernel_rfl) (by kernel_rfl) (by kernel_rfl) (by kernel_rfl) (fun _ _ _ h => h) rfl (Or.inl ⟨by rfl, ?h2⟩) (by assumption) ?r2
  case h2 => (intro w hSw; go_simp; with_reducible rfl)
  simp only [Act.put, List.setIfInBounds_toArray, List.set_cons_zero, List.set_cons_succ]
  refine wpAnyK_take 3 14 (v := ?v3) rfl (by kernel_rfl) (by kernel_rfl) (by kernel_rfl) (by kernel_rfl) (by kernel_rfl) (fun _ _ _ h => h) rfl (Or.inl ⟨by rfl, ?h3⟩) (by assumption) ?r3
  case h3 => (intro w hSw; go_simp; with_reducible rfl)
  simp only [Act.put, List.setIfInBounds_toArray, List.set_cons_zero, List.set_cons_succ]
  refine wpAnyK_take 4 15 (v := ?v4) rfl (by kernel_rfl) (by kernel_rfl) (by kernel_rfl) (by kernel_rfl) (by kernel_rfl) (fun _ _ _ h => h) rfl (Or.inl ⟨by rfl, ?h4⟩) (by assumption) ?r4
  case h4 => (intro w hSw; go_simp; with_reducible rfl)
  simp only [Act.put, List.setIfInBounds_toArray, List.set_cons_zero, List.set_cons_succ]
  refine wpAnyK_take 5 16 (v := ?v5) rfl (by kernel_rfl) (by kernel_rfl) (by kernel_rfl) (by kernel_rfl) (by kernel_rfl) (fun _ _ _ h => h) rfl (Or.inl ⟨by rfl, ?h5⟩) (by assumption) ?r5
  case h5 => (intro w hSw; go_simp; with_reducible rfl)
  simp only [Act.put, List.setIfInBounds_toArray, List.set_cons_zero, List.set_cons_succ]
  refine wpAnyK_take 6 17 (v := ?v6) rfl (by kernel_rfl) (by kernel_rfl) (by kernel_rfl) (by kernel_rfl) (by kernel_rfl) (fun _ _ _ h => h) rfl (Or.inl ⟨by rfl, ?h6⟩) (by assumption) ?r6
  case h6 => (intro w hSw; go_simp; with_reducible rfl)
  simp only [Act.put, List.setIfInBounds_toArray, List.set_cons_zero, List.set_cons_succ]
  refine wpAnyK_take 7 18 (v := ?v7) rfl (by kernel_rfl) (by kernel_rfl) (by kernel_rfl) (by kernel_rfl) (by kernel_rfl) (fun _ _ _ h => h) rfl (Or.inl ⟨by rfl, ?h7⟩) (by assumption) ?r7
  case h7 => (intro w hSw; go_simp; with_reducible rfl)
  simp only [Act.put, List.setIfInBounds_toArray, List.set_cons_zero, List.set_cons_succ]
  refine wpAnyK_take 8 19 (v := ?v8) rfl (by kernel_rfl) (by kernel_rfl) (by kernel_rfl) (by kernel_rfl) (by kernel_rfl) (fun _ _ _ h => h) rfl (Or.inl ⟨by rfl, ?h8⟩) (by assumption) ?r8
  case h8 => (intro w hSw; go_simp; with_reducible rfl)
  simp only [Act.put, List.setIfInBounds_toArray, List.set_cons_zero, List.set_cons_succ]
  refine wpAnyK_take 9 20 (v := ?v9) rfl (by kernel_rfl) (by kernel_rfl) (by kernel_rfl) (by kernel_rfl) (by kernel_rfl) (fun _ _ _ h => h) rfl (Or.inl ⟨by rfl, ?h9⟩) (by assumption) ?r9
  case h9 => (intro w hSw; go_simp; with_reducible rfl)
  simp only [Act.put, List.setIfInBounds_toArray, List.set_cons_zero, List.set_cons_succ]
  refine wpAnyK_take 10 21 (v := ?v10) rfl (by kernel_rfl) (by kernel_rfl) (by kernel_rfl) (by kernel_rfl) (by kernel_rfl) (fun _ _ _ h => h) rfl (Or.inl ⟨by rfl, ?h10⟩) (by assumption) ?r10
  case h10 => (intro w hSw; go_simp; with_reducible rfl)
  simp only [Act.put, List.setIfInBounds_toArray, List.set_cons_zero, List.set_cons_succ]
  refine wpAnyK_take 11 22 (v := ?v11) rfl (by kernel_rfl) (by kernel_rfl) (by kernel_rfl) (by kernel_rfl) (by kernel_rfl) (fun _ _ _ h => h) rfl (Or.inl ⟨by rfl, ?h11⟩) (by assumption) ?r11
  case h11 => (intro w hSw; go_simp; with_reducible rfl)
  simp only [Act.put, List.setIfInBounds_toArray, List.set_cons_zero, List.set_cons_succ]
  refine wpAnyK_take 12 23 (v := ?v12) rfl (by kernel_rfl) (by kernel_rfl) (by kernel_rfl) (by kernel_rfl) (by kernel_rfl) (fun _ _ _ h => h) rfl (Or.inl ⟨by rfl, ?h12⟩) (by assumption) ?r12
  case h12 => (intro w hSw; go_simp; with_reducible rfl)
  simp only [Act.put, List.setIfInBounds_toArray, List.set_cons_zero, List.set_cons_succ]
  refine wpAnyK_take 13 24 (v := ?v13) rfl (by kernel_rfl) (by kernel_rfl) (by kernel_rfl) (by kernel_rfl) (by kernel_rfl) (fun _ _ _ h => h) rfl (Or.inl ⟨by rfl, ?h13⟩) (by assumption) ?r13
  case h13 => (intro w hSw; go_simp; with_reducible rfl)
  simp only [Act.put, List.setIfInBounds_toArray, List.set_cons_zero, List.set_cons_succ]
  refine wpAnyK_take 14 25 (v := ?v14) rfl (by kernel_rfl) (by kernel_rfl) (by kernel_rfl) (by kernel_rfl) (by kernel_rfl) (fun _ _ _ h => h) rfl (Or.inl ⟨by rfl, ?h14⟩) (by assumption) ?r14
  case h14 => (intro w hSw; go_simp; with_reducible rfl)
  simp only [Act.put, List.setIfInBounds_toArray, List.set_cons_zero, List.set_cons_succ]
  refine wpAnyK_take 15 26 (v := ?v15) rfl (by kernel_rfl) (by kernel_rfl) (by kernel_rfl) (by kernel_rfl) (by kernel_rfl) (fun _ _ _ h => h) rfl (Or.inl ⟨by rfl, ?h15⟩) (by assumption) ?r15
  case h15 => (intro w hSw; go_simp; with_reducible rfl)
  simp only [Act.put, List.setIfInBounds_toArray, List.set_cons_zero, List.set_cons_succ]
  refine wpAnyK_take 16 27 (v := ?v16) rfl (by kernel_rfl) (by kernel_rfl) (by kernel_rfl) (by kernel_rfl) (by kernel_rfl) (fun _ _ _ h => h) rfl (Or.inl ⟨by rfl, ?h16⟩) (by assumption) ?r16
  case h16 => (intro w hSw; go_simp; with_reducible rfl)
  simp only [Act.put, List.setIfInBounds_toArray, List.set_cons_zero, List.set_cons_succ]
  refine wpAnyK_take 17 28 (v := ?v17) rfl (by kernel_rfl) (by kernel_rfl) (by kernel_rfl) (by kernel_rfl) (by kernel_rfl) (fun _ _ _ h => h) rfl (Or.inl ⟨by rfl, ?h17⟩) (by assumption) ?r17
  case h17 => (intro w hSw; go_simp; with_reducible rfl)
  simp only [Act.put, List.setIfInBounds_toArray, List.set_cons_zero, List.set_cons_succ]
  refine wpAnyK_take 18 29 (v := ?v18) rfl (by kernel_rfl) (by kernel_rfl) (by kernel_rfl) (by kernel_rfl) (by kernel_rfl) (fun _ _ _ h => h) rfl (Or.inl ⟨by rfl, ?h18⟩) (by assumption) ?r18
  case h18 => (intro w hSw; go_simp; with_reducible rfl)
  simp only [Act.put, List.setIfInBounds_toArray, List.set_cons_zero, List.set_cons_succ]
  refine wpAnyK_one 19 (by kernel_rfl) rfl (fun K hK => ?_)
  go_simp
  go_wp2_with (go_at_call 76; refine (SET.out _ (Fr.refl _).drew).mono ?_; rintro e w9 h; obtain rfl := h.1)
  refine hK.out _ _ (fun h => absurd rfl h) ?_
  clear hK K
  simp only [List.setIfInBounds_toArray, List.set_cons_zero, List.set_cons_succ]
  refine wpAnyK_one 20 (by kernel_rfl) rfl (fun K hK => ?_)
  go_simp
  refine hK.out _ _ (fun _ h => absurd h (by decide)) ?_
  clear hK K
  simp only [List.setIfInBounds_toArray, List.set_cons_zero, List.set_cons_succ]
  refine wpAnyK_done (by kernel_rfl) ?_ _
  go_wp2
  go_ret
  exact h
set_option maxHeartbeats 8000000 in
theorem float64_any (B : Nat) (s : Bool) (A n d c : Nat) (p q : Nat) (ex : Int) (w : World) (hz : Ft w B s A ex 53) (hA : 0 < A) (hA2 : A < 9007199254740992) (hp : max ex 0 = (p : Int)) (hq : max (-ex) 0 = (q : Int)) (he : -9000 < ex) (he' : ex < 9000) (hc : c = 1074) (h : A * 2 ^ p * 2 ^ (c + d) = 2 ^ q * n) :
    Calls Tryd.prog 68 #[.pointer (some ⟨B, 0, none⟩)] w fun x w' => x = .returned (.tuple #[.float .f64 (Fl.wd s (Fl.rq n d)), .int .i64 0]) ∧ Fr w w' := by
  obtain ⟨v, d1, hv⟩ := hz.c1
  have d0 := hz.c0
  have d2 := hz.c2
  have d4 := hz.c4
  obtain ⟨va, vn, vc, rfl, _⟩ := nm_slice hv
  have CE : ∀ w', Fr w w' → w'.cell? ⟨B, 0, none⟩ = some (.bool s) ∧ w'.cell? ⟨B, 1, none⟩ = some (.slice va vn vc) ∧ w'.cell? ⟨B, 2, none⟩ = some (.int .i64 ex) := fun w' f =>
    ⟨(f.1.cell (p := ⟨B, 0, none⟩) hz.nw.1).trans d0, (f.1.cell (p := ⟨B, 1, none⟩) hz.nw.1).trans d1, (f.1.cell (p := ⟨B, 2, none⟩) hz.nw.1).trans d2⟩
  have lA : A.log2 < 53 := (Nat.log2_lt (by omega)).2 (by omega)
  have l1 : (A * 2 ^ p).log2 < 16000 := by rw [Fl.log2_mul A p (by omega)]; omega
  have l2 : (1 * 2 ^ q).log2 < 16000 := by rw [Fl.log2_mul 1 q (by omega), show Nat.log2 1 = 0 from by decide]; omega
  have U1 : Hid (∀ wz, Fr w wz → Calls Tryd.prog 80 #[.slice va vn vc, .int .i64 (p : Int)] wz fun e w' => ∃ x, e = .returned x ∧ Nm w' x (A * 2 ^ p) ∧ Fr wz w' ∧ Fr w w' ∧ w'.cell? ⟨B, 0, none⟩ = some (.bool s) ∧ w'.cell? ⟨B, 1, none⟩ = some (.slice va vn vc) ∧ w'.cell? ⟨B, 2, none⟩ = some (.int .i64 ex)) := by
    intro wz f
    refine (up_words _ A p wz (hv.mono f) (by omega) (by omega)).mono ?_
    rintro e w' ⟨x, rfl, hx, hf⟩
    exact ⟨x, rfl, hx, hf, f.trans hf, CE _ (f.trans hf)⟩
  have hone : ∀ wz : World, Nm (wz.alloc (.cells #[.int .u32 1] 64)) (.slice (some ⟨wz.heap.size, 0, none⟩) 1 1) 1 := nm_onesf
  obtain ⟨dv, hdv⟩ : ∃ dv, dv = Value.slice (some ⟨w.heap.size, 0, none⟩) 1 1 := ⟨_, rfl⟩
  have F0 : Hid (Fr w (w.alloc (.cells #[.int .u32 1] 64))) := (Fr.refl w).alloc _ _
  have U2 : Hid (∀ wz, Fr (w.alloc (.cells #[.int .u32 1] 64)) wz → Calls Tryd.prog 80 #[.slice (some ⟨w.heap.size, 0, none⟩) 1 1, .int .i64 (q : Int)] wz fun e w' => ∃ x, e = .returned x ∧ Nm w' x (1 * 2 ^ q) ∧ Fr wz w' ∧ Fr w w' ∧ w'.cell? ⟨B, 0, none⟩ = some (.bool s) ∧ w'.cell? ⟨B, 1, none⟩ = some (.slice va vn vc) ∧ w'.cell? ⟨B, 2, none⟩ = some (.int .i64 ex)) := by
    intro wz f
    refine (up_words _ 1 q wz ((hone w).mono f) (by decide) (by omega)).mono ?_
    rintro e w' ⟨x, rfl, hx, hf⟩
    have ff := (F0.out.trans f).trans hf
    exact ⟨x, rfl, hx, hf, ff, CE _ ff⟩
  have NE : Hid (∀ wz x1 x2, Fr w wz → Nm wz x1 (A * 2 ^ p) → Nm wz x2 (1 * 2 ^ q) → Calls Tryd.prog 79 #[.bool s, x1, x2] wz fun e w' => ∃ b, e = .returned (.tuple #[.float .f64 (Fl.wd s (Fl.rq n d)), .bool b]) ∧ Fr w w' ∧ w'.cell? ⟨B, 0, none⟩ = some (.bool s) ∧ w'.cell? ⟨B, 1, none⟩ = some (.slice va vn vc) ∧ w'.cell? ⟨B, 2, none⟩ = some (.int .i64 ex)) := by
    intro wz x1 x2 f h1 h2
    refine (near_dy s x1 x2 _ _ n d c wz h1 h2 (Nat.mul_pos hA (Nat.two_pow_pos p)) (by rw [Nat.one_mul]; exact Nat.two_pow_pos q) l1 l2 hc (by rw [Nat.one_mul]; exact h)).mono ?_
    rintro e w' ⟨b, rfl, hf⟩
    exact ⟨b, rfl, f.trans hf, CE _ (f.trans hf)⟩
  have S0 := CE _ F0.out.drew
  have hq' : max (IntKind.i64.wrap (-ex)) 0 = (q : Int) := by
    have hw : IntKind.i64.wrap (-ex) = -ex := by simp [IntKind.wrap, IntKind.signed, IntKind.bits]; omega
    rw [hw]; exact hq
  clear hq
  generalize Fl.wd s (Fl.rq n d) = F at *
  clear CE h hv hz l1 l2 hone hdv
  go_enter Tryd.func68, Tryd.ntmps68
  go_wp2_with fail
  refine wp_region_K (fun w' => w'.cell? ⟨B, 0, none⟩ = some (.bool s) ∧ w'.cell? ⟨B, 1, none⟩ = some (.slice va vn vc) ∧ w'.cell? ⟨B, 2, none⟩ = some (.int .i64 ex)) 27 28 #[false, false, false, false, false, false, false, false, false, false, false, false, false, false, false, false, false, false, false, false, false, false, false, false, false, false, false, false] (by kernel_rfl) (by kernel_rfl) (by kernel_rfl) ?_
  refine wpAnyK_take 0 14 (v := ?v0) rfl (by kernel_rfl) (by kernel_rfl) (by kernel_rfl) (by kernel_rfl) (by kernel_rfl) (fun _ _ _ h => h) rfl (Or.inl ⟨by rfl, ?h0⟩) (by assumption) ?r0
  case h0 => (intro w hSw; go_simp; with_reducible rfl)
  simp only [Act.put, List.setIfInBounds_toArray, List.set_cons_zero, List.set_cons_succ]
  refine wpAnyK_take 1 15 (v := ?v1) rfl (by kernel_rfl) (by kernel_rfl) (by kernel_rfl) (by kernel_rfl) (by kernel_rfl) (fun _ _ _ h => h) rfl (Or.inl ⟨by rfl, ?h1⟩) (by assumption) ?r1
  case h1 => (intro w hSw; go_simp; with_reducible rfl)
  simp only [Act.put, List.setIfInBounds_toArray, List.set_cons_zero, List.set_cons_succ]
  refine wpAnyK_take 2 16 (v := ?v2) rfl (by kernel_rfl) (by kernel_rfl) (by kernel_rfl) (by kernel_rfl) (by kernel_rfl) (fun _ _ _ h => h) rfl (Or.inl ⟨by rfl, ?h2⟩) (by assumption) ?r2
  case h2 => (intro w hSw; go_simp; with_reducible rfl)
  simp only [Act.put, List.setIfInBounds_toArray, List.set_cons_zero, List.set_cons_succ]
  refine wpAnyK_take 3 17 (v := ?v3) rfl (by kernel_rfl) (by kernel_rfl) (by kernel_rfl) (by kernel_rfl) (by kernel_rfl) (fun _ _ _ h => h) rfl (Or.inl ⟨by rfl, ?h3⟩) (by assumption) ?r3
  case h3 => (intro w hSw; go_simp; with_reducible rfl)
  simp only [Act.put, List.setIfInBounds_toArray, List.set_cons_zero, List.set_cons_succ]
  refine wpAnyK_take 4 18 (v := ?v4) rfl (by kernel_rfl) (by kernel_rfl) (by kernel_rfl) (by kernel_rfl) (by kernel_rfl) (fun _ _ _ h => h) rfl (Or.inl ⟨by rfl, ?h4⟩) (by assumption) ?r4
  case h4 => (intro w hSw; go_simp; with_reducible rfl)
  simp only [Act.put, List.setIfInBounds_toArray, List.set_cons_zero, List.set_cons_succ]
  refine wpAnyK_take 5 19 (v := ?v5) rfl (by kernel_rfl) (by kernel_rfl) (by kernel_rfl) (by kernel_rfl) (by kernel_rfl) (fun _ _ _ h => h) rfl (Or.inl ⟨by rfl, ?h5⟩) (by assumption) ?r5
  case h5 => (intro w hSw; go_simp; with_reducible rfl)
  simp only [Act.put, List.setIfInBounds_toArray, List.set_cons_zero, List.set_cons_succ]
  refine wpAnyK_take 6 20 (v := ?v6) rfl (by kernel_rfl) (by kernel_rfl) (by kernel_rfl) (by kernel_rfl) (by kernel_rfl) (fun _ _ _ h => h) rfl (Or.inl ⟨by rfl, ?h6⟩) (by assumption) ?r6
  case h6 => (intro w hSw; go_simp; with_reducible rfl)
  simp only [Act.put, List.setIfInBounds_toArray, List.set_cons_zero, List.set_cons_succ]
  refine wpAnyK_take 7 21 (v := ?v7) rfl (by kernel_rfl) (by kernel_rfl) (by kernel_rfl) (by kernel_rfl) (by kernel_rfl) (fun _ _ _ h => h) rfl (Or.inl ⟨by rfl, ?h7⟩) (by assumption) ?r7
  case h7 => (intro w hSw; go_simp; with_reducible rfl)
  simp only [Act.put, List.setIfInBounds_toArray, List.set_cons_zero, List.set_cons_succ]
  refine wpAnyK_take 8 22 (v := ?v8) rfl (by kernel_rfl) (by kernel_rfl) (by kernel_rfl) (by kernel_rfl) (by kernel_rfl) (fun _ _ _ h => h) rfl (Or.inl ⟨by rfl, ?h8⟩) (by assumption) ?r8
  case h8 => (intro w hSw; go_simp; with_reducible rfl)
  simp only [Act.put, List.setIfInBounds_toArray, List.set_cons_zero, List.set_cons_succ]
  refine wpAnyK_take 9 23 (v := ?v9) rfl (by kernel_rfl) (by kernel_rfl) (by kernel_rfl) (by kernel_rfl) (by kernel_rfl) (fun _ _ _ h => h) rfl (Or.inl ⟨by rfl, ?h9⟩) (by assumption) ?r9
  case h9 => (intro w hSw; go_simp; with_reducible rfl)
  simp only [Act.put, List.setIfInBounds_toArray, List.set_cons_zero, List.set_cons_succ]
  refine wpAnyK_take 10 24 (v := ?v10) rfl (by kernel_rfl) (by kernel_rfl) (by kernel_rfl) (by kernel_rfl) (by kernel_rfl) (fun _ _ _ h => h) rfl (Or.inl ⟨by rfl, ?h10⟩) (by assumption) ?r10
  case h10 => (intro w hSw; go_simp; with_reducible rfl)
  simp only [Act.put, List.setIfInBounds_toArray, List.set_cons_zero, List.set_cons_succ]
  refine wpAnyK_take 11 25 (v := ?v11) rfl (by kernel_rfl) (by kernel_rfl) (by kernel_rfl) (by kernel_rfl) (by kernel_rfl) (fun _ _ _ h => h) rfl (Or.inl ⟨by rfl, ?h11⟩) (by assumption) ?r11
  case h11 => (intro w hSw; go_simp; with_reducible rfl)
  simp only [Act.put, List.setIfInBounds_toArray, List.set_cons_zero, List.set_cons_succ]
  refine wpAnyK_take 12 26 (v := ?v12) rfl (by kernel_rfl) (by kernel_rfl) (by kernel_rfl) (by kernel_rfl) (by kernel_rfl) (fun _ _ _ h => h) rfl (Or.inl ⟨by rfl, ?h12⟩) (by assumption) ?r12
  case h12 => (intro w hSw; go_simp; with_reducible rfl)
  simp only [Act.put, List.setIfInBounds_toArray, List.set_cons_zero, List.set_cons_succ]
  refine wpAnyK_take 14 28 (v := ?v14) rfl (by kernel_rfl) (by kernel_rfl) (by kernel_rfl) (by kernel_rfl) (by kernel_rfl) (fun _ _ _ h => h) rfl (Or.inl ⟨by rfl, ?h14⟩) (by assumption) ?r14
  case h14 => (intro w hSw; go_simp; with_reducible rfl)
  simp only [Act.put, List.setIfInBounds_toArray, List.set_cons_zero, List.set_cons_succ]
  refine wpAnyK_take 15 29 (v := ?v15) rfl (by kernel_rfl) (by kernel_rfl) (by kernel_rfl) (by kernel_rfl) (by kernel_rfl) (fun _ _ _ h => h) rfl (Or.inl ⟨by rfl, ?h15⟩) (by assumption) ?r15
  case h15 => (intro w hSw; go_simp; with_reducible rfl)
  simp only [Act.put, List.setIfInBounds_toArray, List.set_cons_zero, List.set_cons_succ]
  refine wpAnyK_take 16 30 (v := ?v16) rfl (by kernel_rfl) (by kernel_rfl) (by kernel_rfl) (by kernel_rfl) (by kernel_rfl) (fun _ _ _ h => h) rfl (Or.inl ⟨by rfl, ?h16⟩) (by assumption) ?r16
  case h16 => (intro w hSw; go_simp; with_reducible rfl)
  simp only [Act.put, List.setIfInBounds_toArray, List.set_cons_zero, List.set_cons_succ]
  refine wpAnyK_take 17 31 (v := ?v17) rfl (by kernel_rfl) (by kernel_rfl) (by kernel_rfl) (by kernel_rfl) (by kernel_rfl) (fun _ _ _ h => h) rfl (Or.inl ⟨by rfl, ?h17⟩) (by assumption) ?r17
  case h17 => (intro w hSw; go_simp; with_reducible rfl)
  simp only [Act.put, List.setIfInBounds_toArray, List.set_cons_zero, List.set_cons_succ]
  refine wpAnyK_take 18 32 (v := ?v18) rfl (by kernel_rfl) (by kernel_rfl) (by kernel_rfl) (by kernel_rfl) (by kernel_rfl) (fun _ _ _ h => h) rfl (Or.inl ⟨by rfl, ?h18⟩) (by assumption) ?r18
  case h18 => (intro w hSw; go_simp; with_reducible rfl)
  simp only [Act.put, List.setIfInBounds_toArray, List.set_cons_zero, List.set_cons_succ]
  refine wpAnyK_take 19 33 (v := ?v19) rfl (by kernel_rfl) (by kernel_rfl) (by kernel_rfl) (by kernel_rfl) (by kernel_rfl) (fun _ _ _ h => h) rfl (Or.inl ⟨by rfl, ?h19⟩) (by assumption) ?r19
  case h19 => (intro w hSw; go_simp; with_reducible rfl)
  simp only [Act.put, List.setIfInBounds_toArray, List.set_cons_zero, List.set_cons_succ]
  refine wpAnyK_take 20 34 (v := ?v20) rfl (by kernel_rfl) (by kernel_rfl) (by kernel_rfl) (by kernel_rfl) (by kernel_rfl) (fun _ _ _ h => h) rfl (Or.inl ⟨by rfl, ?h20⟩) (by assumption) ?r20
  case h20 => (intro w hSw; go_simp; with_reducible rfl)
  simp only [Act.put, List.setIfInBounds_toArray, List.set_cons_zero, List.set_cons_succ]
  refine wpAnyK_one 13 (by kernel_rfl) rfl (fun K hK => ?_)
  go_simp
  go_wp2_with (go_at_call 80; refine (U1.out _ ?_).mono ?_; exact F0.out.drew; rintro e w2 ⟨x1, rfl, hx1, f2, f2', S1⟩)
  refine hK.out _ _ (fun _ _ => S1) ?_
  clear hK K
  simp only [List.setIfInBounds_toArray, List.set_cons_zero, List.set_cons_succ]
  refine wpAnyK_one 21 (by kernel_rfl) rfl (fun K hK => ?_)
  go_simp
  go_wp2_with (go_at_call 80; refine (U2.out _ ?_).mono ?_; exact (Fr.refl _).drew.trans f2; rintro e w3 ⟨x2, rfl, hx2, f3, f3', S2⟩)
  refine hK.out _ _ (fun _ _ => S2) ?_
  clear hK K
  simp only [List.setIfInBounds_toArray, List.set_cons_zero, List.set_cons_succ]
  refine wpAnyK_one 22 (by kernel_rfl) rfl (fun K hK => ?_)
  go_simp
  go_wp2_with (go_at_call 79; refine (NE.out _ _ _ f3' (hx1.mono f3) hx2).mono ?_; rintro e w4 ⟨bb, rfl, f4, S3⟩)
  refine hK.out _ _ (fun _ _ => S3) ?_
  clear hK K
  simp only [List.setIfInBounds_toArray, List.set_cons_zero, List.set_cons_succ]
  refine wpAnyK_take 23 13 (v := ?v23) rfl (by kernel_rfl) (by kernel_rfl) (by kernel_rfl) (by kernel_rfl) (by kernel_rfl) (fun _ _ _ h => h) rfl (Or.inl ⟨by rfl, ?h23⟩) (by assumption) ?r23
  case h23 => (intro w hSw; go_simp; with_reducible rfl)
  simp only [Act.put, List.setIfInBounds_toArray, List.set_cons_zero, List.set_cons_succ]
  refine wpAnyK_take 24 37 (v := ?v24) rfl (by kernel_rfl) (by kernel_rfl) (by kernel_rfl) (by kernel_rfl) (by kernel_rfl) (fun _ _ _ h => h) rfl (Or.inl ⟨by rfl, ?h24⟩) (by assumption) ?r24
  case h24 => (intro w hSw; go_simp; with_reducible rfl)
  simp only [Act.put, List.setIfInBounds_toArray, List.set_cons_zero, List.set_cons_succ]
  refine wpAnyK_take 25 38 (v := ?v25) rfl (by kernel_rfl) (by kernel_rfl) (by kernel_rfl) (by kernel_rfl) (by kernel_rfl) (fun _ _ _ h => h) rfl (Or.inl ⟨by rfl, ?h25⟩) (by assumption) ?r25
  case h25 => (intro w hSw; go_simp; with_reducible rfl)
  simp only [Act.put, List.setIfInBounds_toArray, List.set_cons_zero, List.set_cons_succ]
  refine wpAnyK_one 26 (by kernel_rfl) rfl (fun K hK => ?_)
  go_simp
  refine hK.out _ _ (fun _ _ => S3) ?_
  clear hK K
  simp only [List.setIfInBounds_toArray, List.set_cons_zero, List.set_cons_succ]
  refine wpAnyK_one 27 (by kernel_rfl) rfl (fun K hK => ?_)
  go_simp
  refine hK.out _ _ (fun h => absurd rfl h) ?_
  clear hK K
  simp only [List.setIfInBounds_toArray, List.set_cons_zero, List.set_cons_succ]
  refine wpAnyK_done (by kernel_rfl) ?_ _
  go_wp2
  go_ret2
  exact ⟨rfl, f4⟩
end Go.Proofs.YtlbikopancleoaaDoor
