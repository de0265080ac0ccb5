/-
  OWN TEXT: the float nearest to a fraction whose worth is a whole number of halves, quarters .. (package eddybig's nearest).
-/
import Derived.Test.YtdfepflfmmmnpaaGreatDoorBgO
import Derived.Test.YtdfepflfmmmnpaaGreatDoorJnAn
import Derived.Test.YtdfepflfmmmnpaaGreatDoorJnAh
namespace Go.Proofs.YtdfepflfmmmnpaaGreatDoor
open Go.ChangeShapes Go.WideShapes Go.ChangeAt Go.RowKit
open Bg
set_option linter.unusedVariables false
set_option linter.unusedSimpArgs false
attribute [local go_sem] frombits_call tobits_call run_neg
/-- what a call of nearest leaves: the float x, and whether it is exact -/
def NearP (w : World) (x : Nat) (e : Ending) (w' : World) : Prop := ∃ b, e = .returned (.tuple #[.float .f64 x, .bool b]) ∧ Fr w w'
set_option maxHeartbeats 8000000 in
theorem near_lo (m : Bool) (a d : Value) (A D X Y q R F : Nat) (u bA bD nn h qi : Int) (mo1 o o2 : Bool) (Good : Int → Int → Prop) (w : World) (ha : Nm w a A) (hd : Nm w d D)
   (va : Option Addr) (vn vc : Nat) (hs : a = .slice va vn vc) (hvn : vn ≠ 0) (hu : max (bA - bD - 53) (-1074) = u) (hlt : u < 0) (b1 : 0 ≤ bA) (b1' : bA < 20000000) (b2 : 0 ≤ bD) (b2' : bD < 20000000) (hnu : -u = nn)
   (C1 : Hid (∀ wz v, Nm wz v A → Calls Tryz.prog 104 #[v] wz fun e w' => e = .returned (.int .i64 bA) ∧ w' = wz))
   (C2 : Hid (∀ wz v, Nm wz v D → Calls Tryz.prog 104 #[v] wz fun e w' => e = .returned (.int .i64 bD) ∧ w' = wz))
   (C3 : Hid (∀ wz v, Nm wz v A → Calls Tryz.prog 90 #[v, .int .i64 nn] wz fun e w' => ∃ x, e = .returned x ∧ Nm w' x X ∧ Fr wz w'))
   (C4 : Hid (∀ wz v u, Nm wz v X → Nm wz u D → Calls Tryz.prog 111 #[v, u] wz fun e w' => ∃ x y yn yc, e = .returned (.tuple #[x, .slice y yn yc]) ∧ Nm w' x q ∧ Nm w' (.slice y yn yc) R ∧ (yn = 0 ↔ R = 0) ∧ Fr wz w'))
   (C5 : Hid (∀ wz v, Nm wz v q → Calls Tryz.prog 112 #[v] wz fun e w' => e = .returned (.int .u64 qi) ∧ w' = wz))
   (C6 : Hid (∀ wz v, Nm wz v R → Calls Tryz.prog 90 #[v, .int .i64 1] wz fun e w' => ∃ x, e = .returned x ∧ Nm w' x (R * 2) ∧ Fr wz w'))
   (C7 : Hid (∀ wz v u, Nm wz v (R * 2) → Nm wz u D → Calls Tryz.prog 107 #[v, u] wz fun e w' => e = .returned (.int .i64 h) ∧ Fr wz w'))
   (C8 : Hid (∀ wz M u', Good M u' → Calls Tryz.prog 71 #[.float .f64 (floatOfInt .f64 M), .int .i64 u'] wz fun e w' => e = .returned (.float .f64 F) ∧ w' = wz))
   (C9 : Hid (∀ wz y, (y = F ∨ y = Op.negFloat .f64 F) → Calls Tryz.prog 39 #[.float .f64 y, .int .i64 0] wz fun e w' => ∃ b, e = .returned (.bool b) ∧ w' = wz))
   (hq0 : 0 ≤ qi) (hq1 : qi < 18014398509481984)
   (hh : Hid (h = -1 ∧ mo1 = false ∨ h = 0 ∧ mo1 = o ∧ R ≠ 0 ∨ h = 1 ∧ mo1 = true ∧ R ≠ 0))
   (ho : Hid ((bits BinOp.and IntKind.u64 qi 1 == 1) = o)) (ho2 : Hid ((bits BinOp.and IntKind.u64 (qi / 2) 1 == 1) = o2))
   (g1 : Hid (qi < 9007199254740992 → Good (qi + if mo1 then 1 else 0) u)) (g2 : Hid (9007199254740992 ≤ qi → Good (qi / 2 + if o && (!decide (R = 0) || o2) then 1 else 0) (u + 1))) :
    Calls Tryz.prog 89 #[.bool m, a, d] w fun e w' => NearP w (if m then Op.negFloat .f64 F else F) e w' := by
  subst hs
  go_enter Tryz.func89, Tryz.ntmps89
  go_wp2_with fail
  refine (C1.out _ _ ha).mono ?_
  rintro e w1 ⟨rfl, rfl⟩
  go_wp2_with fail
  refine (C2.out _ _ hd).mono ?_
  rintro e w1 ⟨rfl, rfl⟩
  go_wp2_with fail
  refine (C3.out _ _ ha).mono ?_
  rintro e w2 ⟨a2, rfl, ha2, f2⟩
  have hu1 : -1074 ≤ u := by omega
  have hu2 : u < 20000000 := by omega
  clear hu hnu b1 b2 b1' b2' C1 C2 C3 hvn
  go_wp2_with fail
  refine (C4.out _ _ _ ha2 (hd.mono f2)).mono ?_
  rintro e w3 ⟨qv, ra, rn, rc, rfl, hqv, hrv, hrn, f3⟩
  go_wp2_with fail
  refine (C5.out _ _ hqv).mono ?_
  rintro e w4 ⟨rfl, rfl⟩
  go_wp2_with fail
  refine (C6.out _ _ hrv).mono ?_
  rintro e w5 ⟨tv, rfl, htv, f5⟩
  go_wp2_with fail
  refine (C7.out _ _ _ htv ((hd.mono f2).mono (f3.trans f5))).mono ?_
  rintro e w6 ⟨rfl, f6⟩
  have f7 := (f2.trans f3).trans (f5.trans f6)
  have hrn1 : R = 0 → ((rn : Int) == 0) = true := fun e => by rw [hrn.2 e]; rfl
  have hrn2 : R ≠ 0 → ((rn : Int) == 0) = false := fun e => by rw [beq_eq_false_iff_ne]; intro e'; exact e (hrn.1 (by omega))
  have H7 : Hid _ := f7
  clear C4 C5 C6 C7 f2 f3 f5 f6 hd ha ha2 htv hqv hrv hrn f7
  have key : ∀ M u' : Int, Good M u' → Hid (Good M u') := fun _ _ h => h
  by_cases hge : 9007199254740992 ≤ qi
  · have HG := key _ _ (g2.out hge)
    clear g1 g2 key
    by_cases hR : R = 0
    · have hrn0 := hrn1 hR
      rcases hh.out with ⟨rfl, rfl⟩ | ⟨_, _, e⟩ | ⟨_, _, e⟩
      rotate_left
      · exact absurd hR e
      · exact absurd hR e
      clear hrn1 hrn2 hh
      subst hR
      have ho := ho.out
      have ho2 := ho2.out
      cases o <;> cases o2 <;> cases m
      all_goals simp only [Bool.true_and, Bool.false_and, Bool.false_or, Bool.not_true, Bool.not_false, decide_true, Bool.false_eq_true, if_true, if_false, Int.add_zero] at HG
      all_goals (go_wp2_with (first
        | (go_at_call 71; refine (C8.out _ _ _ HG.out).mono ?_; rintro e w7 ⟨rfl, rfl⟩)
        | (go_at_call 39; refine (C9.out _ _ (by first | exact Or.inl rfl | exact Or.inr rfl)).mono ?_; rintro e w8 ⟨b, rfl, rfl⟩)); all_goals go_ret2; all_goals exact ⟨_, rfl, H7.out⟩)
    · have hrn0 := hrn2 hR
      have hd0 := decide_eq_false hR
      rw [hd0] at HG
      clear ho2 hrn1 hrn2 hd0
      rcases hh.out with ⟨rfl, rfl⟩ | ⟨rfl, rfl, e⟩ | ⟨rfl, rfl, e⟩
      all_goals clear hh
      all_goals have ho := ho.out
      · cases o <;> cases m
        all_goals simp only [Bool.true_and, Bool.false_and, Bool.true_or, Bool.not_true, Bool.not_false, Bool.false_eq_true, if_true, if_false, Int.add_zero] at HG
        all_goals (go_wp2_with (first
        | (go_at_call 71; refine (C8.out _ _ _ HG.out).mono ?_; rintro e w7 ⟨rfl, rfl⟩)
        | (go_at_call 39; refine (C9.out _ _ (by first | exact Or.inl rfl | exact Or.inr rfl)).mono ?_; rintro e w8 ⟨b, rfl, rfl⟩)); all_goals go_ret2; all_goals exact ⟨_, rfl, H7.out⟩)
      · cases mo1 <;> cases m
        all_goals simp only [Bool.true_and, Bool.false_and, Bool.true_or, Bool.not_true, Bool.not_false, Bool.false_eq_true, if_true, if_false, Int.add_zero] at HG
        all_goals (go_wp2_with (first
        | (go_at_call 71; refine (C8.out _ _ _ HG.out).mono ?_; rintro e w7 ⟨rfl, rfl⟩)
        | (go_at_call 39; refine (C9.out _ _ (by first | exact Or.inl rfl | exact Or.inr rfl)).mono ?_; rintro e w8 ⟨b, rfl, rfl⟩)); all_goals go_ret2; all_goals exact ⟨_, rfl, H7.out⟩)
      · cases o <;> cases m
        all_goals simp only [Bool.true_and, Bool.false_and, Bool.true_or, Bool.not_true, Bool.not_false, Bool.false_eq_true, if_true, if_false, Int.add_zero] at HG
        all_goals (go_wp2_with (first
        | (go_at_call 71; refine (C8.out _ _ _ HG.out).mono ?_; rintro e w7 ⟨rfl, rfl⟩)
        | (go_at_call 39; refine (C9.out _ _ (by first | exact Or.inl rfl | exact Or.inr rfl)).mono ?_; rintro e w8 ⟨b, rfl, rfl⟩)); all_goals go_ret2; all_goals exact ⟨_, rfl, H7.out⟩)
  · have hlt' : qi < 9007199254740992 := by omega
    have HG := key _ _ (g1.out hlt')
    clear g1 g2 key ho2 hrn1 hrn2 hge hq1
    rcases hh.out with ⟨rfl, rfl⟩ | ⟨rfl, rfl, e⟩ | ⟨rfl, rfl, e⟩
    · clear hh ho
      cases m
      all_goals simp only [Bool.false_eq_true, if_false, Int.add_zero] at HG
      all_goals (go_wp2_with (first
        | (go_at_call 71; refine (C8.out _ _ _ HG.out).mono ?_; rintro e w7 ⟨rfl, rfl⟩)
        | (go_at_call 39; refine (C9.out _ _ (by first | exact Or.inl rfl | exact Or.inr rfl)).mono ?_; rintro e w8 ⟨b, rfl, rfl⟩)); all_goals go_ret2; all_goals exact ⟨_, rfl, H7.out⟩)
    · clear hh
      have ho := ho.out
      cases mo1 <;> cases m
      all_goals simp only [Bool.false_eq_true, if_true, if_false, Int.add_zero] at HG
      all_goals (go_wp2_with (first
        | (go_at_call 71; refine (C8.out _ _ _ HG.out).mono ?_; rintro e w7 ⟨rfl, rfl⟩)
        | (go_at_call 39; refine (C9.out _ _ (by first | exact Or.inl rfl | exact Or.inr rfl)).mono ?_; rintro e w8 ⟨b, rfl, rfl⟩)); all_goals go_ret2; all_goals exact ⟨_, rfl, H7.out⟩)
    · clear hh ho
      cases m
      all_goals simp only [Bool.false_eq_true, if_true, if_false, Int.add_zero] at HG
      all_goals (go_wp2_with (first
        | (go_at_call 71; refine (C8.out _ _ _ HG.out).mono ?_; rintro e w7 ⟨rfl, rfl⟩)
        | (go_at_call 39; refine (C9.out _ _ (by first | exact Or.inl rfl | exact Or.inr rfl)).mono ?_; rintro e w8 ⟨b, rfl, rfl⟩)); all_goals go_ret2; all_goals exact ⟨_, rfl, H7.out⟩)
set_option maxHeartbeats 8000000 in
theorem near_hi (m : Bool) (a d : Value) (A D X Y q R F : Nat) (u bA bD nn h qi : Int) (mo1 o o2 : Bool) (Good : Int → Int → Prop) (w : World) (ha : Nm w a A) (hd : Nm w d D)
   (va : Option Addr) (vn vc : Nat) (hs : a = .slice va vn vc) (hvn : vn ≠ 0) (hu : max (bA - bD - 53) (-1074) = u) (hlt : 0 ≤ u) (b1 : 0 ≤ bA) (b1' : bA < 20000000) (b2 : 0 ≤ bD) (b2' : bD < 20000000) 
   (C1 : Hid (∀ wz v, Nm wz v A → Calls Tryz.prog 104 #[v] wz fun e w' => e = .returned (.int .i64 bA) ∧ w' = wz))
   (C2 : Hid (∀ wz v, Nm wz v D → Calls Tryz.prog 104 #[v] wz fun e w' => e = .returned (.int .i64 bD) ∧ w' = wz))
   (C3 : Hid (∀ wz v, Nm wz v D → Calls Tryz.prog 90 #[v, .int .i64 u] wz fun e w' => ∃ x, e = .returned x ∧ Nm w' x Y ∧ Fr wz w'))
   (C4 : Hid (∀ wz v u, Nm wz v A → Nm wz u Y → Calls Tryz.prog 111 #[v, u] wz fun e w' => ∃ x y yn yc, e = .returned (.tuple #[x, .slice y yn yc]) ∧ Nm w' x q ∧ Nm w' (.slice y yn yc) R ∧ (yn = 0 ↔ R = 0) ∧ Fr wz w'))
   (C5 : Hid (∀ wz v, Nm wz v q → Calls Tryz.prog 112 #[v] wz fun e w' => e = .returned (.int .u64 qi) ∧ w' = wz))
   (C6 : Hid (∀ wz v, Nm wz v R → Calls Tryz.prog 90 #[v, .int .i64 1] wz fun e w' => ∃ x, e = .returned x ∧ Nm w' x (R * 2) ∧ Fr wz w'))
   (C7 : Hid (∀ wz v u, Nm wz v (R * 2) → Nm wz u Y → Calls Tryz.prog 107 #[v, u] wz fun e w' => e = .returned (.int .i64 h) ∧ Fr wz w'))
   (C8 : Hid (∀ wz M u', Good M u' → Calls Tryz.prog 71 #[.float .f64 (floatOfInt .f64 M), .int .i64 u'] wz fun e w' => e = .returned (.float .f64 F) ∧ w' = wz))
   (C9 : Hid (∀ wz y, (y = F ∨ y = Op.negFloat .f64 F) → Calls Tryz.prog 39 #[.float .f64 y, .int .i64 0] wz fun e w' => ∃ b, e = .returned (.bool b) ∧ w' = wz))
   (hq0 : 0 ≤ qi) (hq1 : qi < 18014398509481984)
   (hh : Hid (h = -1 ∧ mo1 = false ∨ h = 0 ∧ mo1 = o ∧ R ≠ 0 ∨ h = 1 ∧ mo1 = true ∧ R ≠ 0))
   (ho : Hid ((bits BinOp.and IntKind.u64 qi 1 == 1) = o)) (ho2 : Hid ((bits BinOp.and IntKind.u64 (qi / 2) 1 == 1) = o2))
   (g1 : Hid (qi < 9007199254740992 → Good (qi + if mo1 then 1 else 0) u)) (g2 : Hid (9007199254740992 ≤ qi → Good (qi / 2 + if o && (!decide (R = 0) || o2) then 1 else 0) (u + 1))) :
    Calls Tryz.prog 89 #[.bool m, a, d] w fun e w' => NearP w (if m then Op.negFloat .f64 F else F) e w' := by
  subst hs
  go_enter Tryz.func89, Tryz.ntmps89
  go_wp2_with fail
  refine (C1.out _ _ ha).mono ?_
  rintro e w1 ⟨rfl, rfl⟩
  go_wp2_with fail
  refine (C2.out _ _ hd).mono ?_
  rintro e w1 ⟨rfl, rfl⟩
  go_wp2_with fail
  refine (C3.out _ _ hd).mono ?_
  rintro e w2 ⟨a2, rfl, ha2, f2⟩
  have hu1 : -1074 ≤ u := by omega
  have hu2 : u < 20000000 := by omega
  clear hu b1 b2 b1' b2' C1 C2 C3 hvn
  go_wp2_with fail
  refine (C4.out _ _ _ (ha.mono f2) ha2).mono ?_
  rintro e w3 ⟨qv, ra, rn, rc, rfl, hqv, hrv, hrn, f3⟩
  go_wp2_with fail
  refine (C5.out _ _ hqv).mono ?_
  rintro e w4 ⟨rfl, rfl⟩
  go_wp2_with fail
  refine (C6.out _ _ hrv).mono ?_
  rintro e w5 ⟨tv, rfl, htv, f5⟩
  go_wp2_with fail
  refine (C7.out _ _ _ htv (ha2.mono (f3.trans f5))).mono ?_
  rintro e w6 ⟨rfl, f6⟩
  have f7 := (f2.trans f3).trans (f5.trans f6)
  have hrn1 : R = 0 → ((rn : Int) == 0) = true := fun e => by rw [hrn.2 e]; rfl
  have hrn2 : R ≠ 0 → ((rn : Int) == 0) = false := fun e => by rw [beq_eq_false_iff_ne]; intro e'; exact e (hrn.1 (by omega))
  have H7 : Hid _ := f7
  clear C4 C5 C6 C7 f2 f3 f5 f6 hd ha ha2 htv hqv hrv hrn f7
  have key : ∀ M u' : Int, Good M u' → Hid (Good M u') := fun _ _ h => h
  by_cases hge : 9007199254740992 ≤ qi
  · have HG := key _ _ (g2.out hge)
    clear g1 g2 key
    by_cases hR : R = 0
    · have hrn0 := hrn1 hR
      rcases hh.out with ⟨rfl, rfl⟩ | ⟨_, _, e⟩ | ⟨_, _, e⟩
      rotate_left
      · exact absurd hR e
      · exact absurd hR e
      clear hrn1 hrn2 hh
      subst hR
      have ho := ho.out
      have ho2 := ho2.out
      cases o <;> cases o2 <;> cases m
      all_goals simp only [Bool.true_and, Bool.false_and, Bool.false_or, Bool.not_true, Bool.not_false, decide_true, Bool.false_eq_true, if_true, if_false, Int.add_zero] at HG
      all_goals (go_wp2_with (first
        | (go_at_call 71; refine (C8.out _ _ _ HG.out).mono ?_; rintro e w7 ⟨rfl, rfl⟩)
        | (go_at_call 39; refine (C9.out _ _ (by first | exact Or.inl rfl | exact Or.inr rfl)).mono ?_; rintro e w8 ⟨b, rfl, rfl⟩)); all_goals go_ret2; all_goals exact ⟨_, rfl, H7.out⟩)
    · have hrn0 := hrn2 hR
      have hd0 := decide_eq_false hR
      rw [hd0] at HG
      clear ho2 hrn1 hrn2 hd0
      rcases hh.out with ⟨rfl, rfl⟩ | ⟨rfl, rfl, e⟩ | ⟨rfl, rfl, e⟩
      all_goals clear hh
      all_goals have ho := ho.out
      · cases o <;> cases m
        all_goals simp only [Bool.true_and, Bool.false_and, Bool.true_or, Bool.not_true, Bool.not_false, Bool.false_eq_true, if_true, if_false, Int.add_zero] at HG
        all_goals (go_wp2_with (first
        | (go_at_call 71; refine (C8.out _ _ _ HG.out).mono ?_; rintro e w7 ⟨rfl, rfl⟩)
        | (go_at_call 39; refine (C9.out _ _ (by first | exact Or.inl rfl | exact Or.inr rfl)).mono ?_; rintro e w8 ⟨b, rfl, rfl⟩)); all_goals go_ret2; all_goals exact ⟨_, rfl, H7.out⟩)
      · cases mo1 <;> cases m
        all_goals simp only [Bool.true_and, Bool.false_and, Bool.true_or, Bool.not_true, Bool.not_false, Bool.false_eq_true, if_true, if_false, Int.add_zero] at HG
        all_goals (go_wp2_with (first
        | (go_at_call 71; refine (C8.out _ _ _ HG.out).mono ?_; rintro e w7 ⟨rfl, rfl⟩)
        | (go_at_call 39; refine (C9.out _ _ (by first | exact Or.inl rfl | exact Or.inr rfl)).mono ?_; rintro e w8 ⟨b, rfl, rfl⟩)); all_goals go_ret2; all_goals exact ⟨_, rfl, H7.out⟩)
      · cases o <;> cases m
        all_goals simp only [Bool.true_and, Bool.false_and, Bool.true_or, Bool.not_true, Bool.not_false, Bool.false_eq_true, if_true, if_false, Int.add_zero] at HG
        all_goals (go_wp2_with (first
        | (go_at_call 71; refine (C8.out _ _ _ HG.out).mono ?_; rintro e w7 ⟨rfl, rfl⟩)
        | (go_at_call 39; refine (C9.out _ _ (by first | exact Or.inl rfl | exact Or.inr rfl)).mono ?_; rintro e w8 ⟨b, rfl, rfl⟩)); all_goals go_ret2; all_goals exact ⟨_, rfl, H7.out⟩)
  · have hlt' : qi < 9007199254740992 := by omega
    have HG := key _ _ (g1.out hlt')
    clear g1 g2 key ho2 hrn1 hrn2 hge hq1
    rcases hh.out with ⟨rfl, rfl⟩ | ⟨rfl, rfl, e⟩ | ⟨rfl, rfl, e⟩
    · clear hh ho
      cases m
      all_goals simp only [Bool.false_eq_true, if_false, Int.add_zero] at HG
      all_goals (go_wp2_with (first
        | (go_at_call 71; refine (C8.out _ _ _ HG.out).mono ?_; rintro e w7 ⟨rfl, rfl⟩)
        | (go_at_call 39; refine (C9.out _ _ (by first | exact Or.inl rfl | exact Or.inr rfl)).mono ?_; rintro e w8 ⟨b, rfl, rfl⟩)); all_goals go_ret2; all_goals exact ⟨_, rfl, H7.out⟩)
    · clear hh
      have ho := ho.out
      cases mo1 <;> cases m
      all_goals simp only [Bool.false_eq_true, if_true, if_false, Int.add_zero] at HG
      all_goals (go_wp2_with (first
        | (go_at_call 71; refine (C8.out _ _ _ HG.out).mono ?_; rintro e w7 ⟨rfl, rfl⟩)
        | (go_at_call 39; refine (C9.out _ _ (by first | exact Or.inl rfl | exact Or.inr rfl)).mono ?_; rintro e w8 ⟨b, rfl, rfl⟩)); all_goals go_ret2; all_goals exact ⟨_, rfl, H7.out⟩)
    · clear hh ho
      cases m
      all_goals simp only [Bool.false_eq_true, if_true, if_false, Int.add_zero] at HG
      all_goals (go_wp2_with (first
        | (go_at_call 71; refine (C8.out _ _ _ HG.out).mono ?_; rintro e w7 ⟨rfl, rfl⟩)
        | (go_at_call 39; refine (C9.out _ _ (by first | exact Or.inl rfl | exact Or.inr rfl)).mono ?_; rintro e w8 ⟨b, rfl, rfl⟩)); all_goals go_ret2; all_goals exact ⟨_, rfl, H7.out⟩)
end Go.Proofs.YtdfepflfmmmnpaaGreatDoor
