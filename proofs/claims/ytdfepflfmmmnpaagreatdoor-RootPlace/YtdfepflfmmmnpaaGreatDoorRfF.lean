/-
  OWN TEXT: SetFloat64, SetMantExp and Float64 of package eddybig's floats, and the reference's Scale.
-/
import Derived.Test.YtdfepflfmmmnpaaGreatDoorRfE
import Derived.Test.YtdfepflfmmmnpaaGreatDoorJnAp
import Derived.Test.YtdfepflfmmmnpaaGreatDoorBhP
namespace Go.Proofs.YtdfepflfmmmnpaaGreatDoor
open Go.ChangeShapes Go.WideShapes Go.ChangeAt Go.RowKit
open Bg
set_option linter.unusedVariables false
attribute [local go_sem] frombits_call tobits_call
theorem low52f (x : Nat) (hx : x < 18446744073709551616) : bits BinOp.and IntKind.u64 (x : Int) 4503599627370495 = ((x % 4503599627370496 : Nat) : Int) := by
  have e := u64_and_nat x 4503599627370495 hx (by omega)
  rw [show ((4503599627370495 : Nat) : Int) = 4503599627370495 from rfl] at e
  rw [e]
  have h := Nat.and_two_pow_sub_one_eq_mod x 52
  rw [show 2 ^ 52 - 1 = 4503599627370495 from rfl] at h
  rw [h]
theorem or52f (m : Nat) (hm : m < 4503599627370496) : bits BinOp.or IntKind.u64 (m : Int) 4503599627370496 = ((4503599627370496 + m : Nat) : Int) := by
  have e := u64_or_nat m 4503599627370496 (by omega) (by omega)
  rw [show ((4503599627370496 : Nat) : Int) = 4503599627370496 from rfl] at e
  rw [e]
  have h := Nat.two_pow_add_eq_or_of_lt (b := m) (i := 52) hm 1
  rw [Nat.mul_one, Nat.or_comm] at h
  exact congrArg _ h.symm
theorem vl_partsf (x : Nat) (M k : Nat) (h : (Fl.rg x / 4503599627370496 = 0 ∧ M = x % 4503599627370496 ∧ k = 0) ∨ (1 ≤ Fl.rg x / 4503599627370496 ∧ M = 4503599627370496 + x % 4503599627370496 ∧ k = Fl.rg x / 4503599627370496 - 1)) : Fl.vl (Fl.rg x) = M * 2 ^ k := by
  have hr : Fl.rg x % 4503599627370496 = x % 4503599627370496 := by unfold Fl.rg; omega
  rcases h with ⟨h1, rfl, rfl⟩ | ⟨h1, rfl, rfl⟩
  · unfold Fl.vl
    rw [if_pos (by omega)]
    omega
  · unfold Fl.vl
    rw [if_neg (by omega), hr]
/-- how many bits a float may have, told -/
theorem ft_most {w : World} {B : Nat} {s : Bool} {A : Nat} {e : Int} {m : Nat} (h : Ft w B s A e m) (n : Nat) : Ft (w.setCell ⟨B, 3, none⟩ (.int .i64 (n : Int))) B s A e n := by
  obtain ⟨v, h1, h2⟩ := h.c1
  have oth : ∀ (j : Nat) (u : Value), 3 ≠ j → (w.setCell ⟨B, 3, none⟩ u).cell? ⟨B, j, none⟩ = w.cell? ⟨B, j, none⟩ := fun j u hne => World.cell?_setCell_other _ _ _ _ (by intro k; cases k; exact hne rfl)
  exact ⟨h.nw.set 3 _ _ h.c3 (by intro x k; cases k), (oth 0 _ (by decide)).trans h.c0, ⟨v, (oth 1 _ (by decide)).trans h1, h2.off h.nw _ _⟩, (oth 2 _ (by decide)).trans h.c2, World.cell?_setCell_same _ _ _ h.c3, (oth 4 _ (by decide)).trans h.c4⟩
/-- what SetFloat64 leaves -/
def SfF (w : World) (B x : Nat) (e : Ending) (w' : World) : Prop := e = .returned (.pointer (some ⟨B, 0, none⟩)) ∧
  (∃ M K : Nat, Fl.vl (Fl.rg x) = M * 2 ^ K ∧ 0 < M ∧ M < 9007199254740992 ∧ K ≤ 2045 ∧ Fw w' B (Fl.sg x) M ((K : Int) - 1074)) ∧ ∀ w0, Fr w0 w → w0.heap.size ≤ B → Fr w0 w'
set_option maxHeartbeats 8000000 in
theorem fsetfloat_any (B x : Nat) (w : World) (hz : Ft w B false 0 0 0) (hx : x < 18446744073709551616) (hf : Fl.rg x < 9218868437227405312) (hnz : ¬ Fl.rg x = 0) (hT : Tab w) (hB : 1 < B) :
    Calls Tryz.prog 67 #[.pointer (some ⟨B, 0, none⟩), .float .f64 x] w fun e w' => SfF w B x e w' := by
  have e1 := field_u hx
  have hE : Fl.rg x / 4503599627370496 ≤ 2046 := by omega
  have e2 := low52f x hx
  have hm0 : x % 4503599627370496 < 4503599627370496 := Nat.mod_lt _ (by omega)
  have e3 := or52f (x % 4503599627370496) hm0
  have hs : ((x : Int) / 9223372036854775808 == 1) = Fl.sg x := by
    unfold Fl.sg
    rw [Bool.eq_iff_iff, beq_iff_eq, beq_iff_eq]; omega
  have HV : Hid _ := vl_partsf x
  have hpos : Fl.rg x / 4503599627370496 = 0 → 0 < x % 4503599627370496 := by
    intro h
    have : Fl.rg x % 4503599627370496 = x % 4503599627370496 := by unfold Fl.rg; omega
    omega
  have c3 := hz.c3
  have g3 := hz.nw.2.2 3
  have hz1 := ft_most hz 53
  have hT1 : Tab (w.setCell ⟨B, 3, none⟩ (.int .i64 53)) := fun j hj => (World.cell?_setCell_other _ _ _ _ (by intro k; cases k; omega)).trans (hT j hj)
  have HF : Hid (∀ w0, Fr w0 w → w0.heap.size ≤ B → Fr w0 (w.setCell ⟨B, 3, none⟩ (.int .i64 53))) := fun w0 f hb => f.setCell (p := ⟨B, 3, none⟩) hb _
  generalize Fl.rg x / 4503599627370496 = E at *
  generalize x % 4503599627370496 = m0 at *
  have SET : Hid (∀ wz wy v N K, Nm wz v N → 0 < N → N < 9007199254740992 → (K : Nat) ≤ 2045 → Fl.vl (Fl.rg x) = N * 2 ^ K → wy = w.setCell ⟨B, 3, none⟩ (.int .i64 53) → Fr wy wz → Calls Tryz.prog 86 #[.pointer (some ⟨B, 0, none⟩), .bool (Fl.sg x), v, .int .i64 ((K : Int) - 1074), .bool false] wz fun e w' => SfF w B x e w') := by
    intro wz wy v N K hv hN hN2 hK hV hwy hfr
    subst hwy
    have hzz := hz1.mono hfr
    refine (fset_walk B (Fl.sg x) false v N 0 ((K : Int) - 1074) 0 wz hzz hv hN hN2 (hT1.mono (Nat.lt_trans hB hz1.nw.1) hfr) (by omega) (by omega)).mono ?_
    intro e w' h
    refine ⟨h.1, ⟨N, K, hV, hN, hN2, hK, sf_fw (w1 := wz) hzz hN hN2 h⟩, fun w0 f hb => ?_⟩
    obtain ⟨_, w1, x1, k1, h1, _, _, _, rfl⟩ := h
    exact (((HF.out w0 f hb).trans hfr).trans h1).sf hb _ _ _
  clear hz hz1 hT hT1 HF
  rcases Nat.eq_zero_or_pos E with h0 | h0
  · subst h0
    have hm1 := hpos rfl
    have HX := HV.out m0 0 (Or.inl ⟨rfl, rfl, rfl⟩)
    have HXX : Hid _ := HX
    clear HX hpos
    go_enter Tryz.func67, Tryz.ntmps67
    go_wp2_with fail
    refine (fromUint_any m0 _ (by omega)).mono ?_
    rintro e w1 ⟨av, rfl, hav, f1⟩
    go_wp2_with fail
    have S := SET.out w1 _ av m0 0 hav hm1 (by omega) (by omega) HXX.out rfl f1
    rw [show (((0 : Nat) : Int) - 1074) = -1074 from rfl] at S
    refine S.mono ?_
    intro e w2 h
    obtain rfl := h.1
    go_wp2
    go_ret
    exact h
  · have HXX : Hid _ := HV.out (4503599627370496 + m0) (E - 1) (Or.inr ⟨h0, rfl, rfl⟩)
    have h0I : (0 : Int) < E := by omega
    have hM1 : 4503599627370496 + m0 < 9007199254740992 := by omega
    have hM2 : 0 < 4503599627370496 + m0 := by omega
    have hK : E - 1 ≤ 2045 := by omega
    have HE : Hid ((E : Int) - 1075 = ((E - 1 : Nat) : Int) - 1074) := by show _ = _; omega
    generalize 4503599627370496 + m0 = M1 at *
    generalize hK' : E - 1 = K at *
    clear hK' hpos
    go_enter Tryz.func67, Tryz.ntmps67
    go_wp2_with fail
    refine (fromUint_any M1 _ (by omega)).mono ?_
    rintro e w1 ⟨av, rfl, hav, f1⟩
    go_wp2_with fail
    have S := SET.out w1 _ av M1 K hav hM2 hM1 hK HXX.out rfl f1
    rw [← HE.out] at S
    refine S.mono ?_
    intro e w2 h
    obtain rfl := h.1
    go_wp2
    go_ret
    exact h
end Go.Proofs.YtdfepflfmmmnpaaGreatDoor
