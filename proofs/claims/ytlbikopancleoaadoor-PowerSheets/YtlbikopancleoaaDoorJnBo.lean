/-
  OWN TEXT: the float nearest to a fraction whose worth is a whole number of halves, quarters .. (package eddybig's nearest).
-/
import Derived.Test.YtlbikopancleoaaDoorJnBk
import Derived.Test.YtlbikopancleoaaDoorJnAn
import Derived.Test.YtlbikopancleoaaDoorJnAh
import Derived.Test.YtlbikopancleoaaDoorJnBn
import Derived.Test.YtlbikopancleoaaDoorJnAt
namespace Go.Proofs.YtlbikopancleoaaDoor
open Go.ChangeShapes Go.WideShapes Go.ChangeAt Go.RowKit
open Bg
set_option linter.unusedVariables false
set_option linter.unusedSimpArgs false
attribute [local go_sem] frombits_call tobits_call run_neg
/-- what a call of nearest leaves: the float x, and whether it is exact -/
def NearP (w : World) (x : Nat) (e : Ending) (w' : World) : Prop := ∃ b, e = .returned (.tuple #[.float .f64 x, .bool b]) ∧ Fr w w'
set_option maxHeartbeats 8000000 in
theorem near_lo (m : Bool) (a d : Value) (A D X Y q R F : Nat) (u bA bD nn h qi : Int) (mo1 o o2 : Bool) (Good : Int → Int → Prop) (w : World) (ha : Nm w a A) (hd : Nm w d D)
   (va : Option Addr) (vn vc : Nat) (hs : a = .slice va vn vc) (hvn : vn ≠ 0) (hu : max (bA - bD - 53) (-1074) = u) (hlt : u < 0) (b1 : 0 ≤ bA) (b1' : bA < 20000000) (b2 : 0 ≤ bD) (b2' : bD < 20000000) (hnu : -u = nn)
   (C1 : Hid (∀ wz v, Nm wz v A → Calls Tryd.prog 84 #[v] wz fun e w' => e = .returned (.int .i64 bA) ∧ w' = wz))
   (C2 : Hid (∀ wz v, Nm wz v D → Calls Tryd.prog 84 #[v] wz fun e w' => e = .returned (.int .i64 bD) ∧ w' = wz))
   (C3 : Hid (∀ wz v, Nm wz v A → Calls Tryd.prog 80 #[v, .int .i64 nn] wz fun e w' => ∃ x, e = .returned x ∧ Nm w' x X ∧ Fr wz w'))
   (C4 : Hid (∀ wz v u, Nm wz v X → Nm wz u D → Calls Tryd.prog 91 #[v, u] wz fun e w' => ∃ x y yn yc, e = .returned (.tuple #[x, .slice y yn yc]) ∧ Nm w' x q ∧ Nm w' (.slice y yn yc) R ∧ (yn = 0 ↔ R = 0) ∧ Fr wz w'))
   (C5 : Hid (∀ wz v, Nm wz v q → Calls Tryd.prog 92 #[v] wz fun e w' => e = .returned (.int .u64 qi) ∧ w' = wz))
   (C6 : Hid (∀ wz v, Nm wz v R → Calls Tryd.prog 80 #[v, .int .i64 1] wz fun e w' => ∃ x, e = .returned x ∧ Nm w' x (R * 2) ∧ Fr wz w'))
   (C7 : Hid (∀ wz v u, Nm wz v (R * 2) → Nm wz u D → Calls Tryd.prog 87 #[v, u] wz fun e w' => e = .returned (.int .i64 h) ∧ Fr wz w'))
   (C8 : Hid (∀ wz M u', Good M u' → Calls Tryd.prog 60 #[.float .f64 (floatOfInt .f64 M), .int .i64 u'] wz fun e w' => e = .returned (.float .f64 F) ∧ w' = wz))
   (C9 : Hid (∀ wz y, (y = F ∨ y = Op.negFloat .f64 F) → Calls Tryd.prog 34 #[.float .f64 y, .int .i64 0] wz fun e w' => ∃ b, e = .returned (.bool b) ∧ w' = wz))
   (hq0 : 0 ≤ qi) (hq1 : qi < 18014398509481984)
   (hh : Hid (h = -1 ∧ mo1 = false ∨ h = 0 ∧ mo1 = o ∧ R ≠ 0 ∨ h = 1 ∧ mo1 = true ∧ R ≠ 0))
   (ho : Hid ((bits BinOp.and IntKind.u64 qi 1 == 1) = o)) (ho2 : Hid ((bits BinOp.and IntKind.u64 (qi / 2) 1 == 1) = o2))
   (g1 : Hid (qi < 9007199254740992 → Good (qi + if mo1 then 1 else 0) u)) (g2 : Hid (9007199254740992 ≤ qi → Good (qi / 2 + if o && (!decide (R = 0) || o2) then 1 else 0) (u + 1))) :
    Calls Tryd.prog 79 #[.bool m, a, d] w fun e w' => NearP w (if m then Op.negFloat .f64 F else F) e w' := by
  subst hs
  go_enter Tryd.func79, Tryd.ntmps79
  go_wp2_with fail
  refine (C1.out _ _ ha).mono ?_
  rintro e w1 ⟨rfl, rfl⟩
  go_wp2_with fail
  refine (C2.out _ _ hd).mono ?_
  rintro e w1 ⟨rfl, rfl⟩
  go_wp2_with fail
  refine (C3.out _ _ ha).mono ?_
  rintro e w2 ⟨a2, rfl, ha2, f2⟩
  have hu1 : -1074 ≤ u := by omega
  have hu2 : u < 20000000 := by omega
  clear hu hnu b1 b2 b1' b2' C1 C2 C3 hvn
  go_wp2_with fail
  refine (C4.out _ _ _ ha2 (hd.mono f2)).mono ?_
  rintro e w3 ⟨qv, ra, rn, rc, rfl, hqv, hrv, hrn, f3⟩
  go_wp2_with fail
  refine (C5.out _ _ hqv).mono ?_
  rintro e w4 ⟨rfl, rfl⟩
  go_wp2_with fail
  refine (C6.out _ _ hrv).mono ?_
  rintro e w5 ⟨tv, rfl, htv, f5⟩
  go_wp2_with fail
  refine (C7.out _ _ _ htv ((hd.mono f2).mono (f3.trans f5))).mono ?_
  rintro e w6 ⟨rfl, f6⟩
  have f7 := (f2.trans f3).trans (f5.trans f6)
  have hrn1 : R = 0 → ((rn : Int) == 0) = true := fun e => by rw [hrn.2 e]; rfl
  have hrn2 : R ≠ 0 → ((rn : Int) == 0) = false := fun e => by rw [beq_eq_false_iff_ne]; intro e'; exact e (hrn.1 (by omega))
  have H7 : Hid _ := f7
  clear C4 C5 C6 C7 f2 f3 f5 f6 hd ha ha2 htv hqv hrv hrn f7
  have key : ∀ M u' : Int, Good M u' → Hid (Good M u') := fun _ _ h => h
  by_cases hge : 9007199254740992 ≤ qi
  · have HG := key _ _ (g2.out hge)
    clear g1 g2 key
    by_cases hR : R = 0
    · have hrn0 := hrn1 hR
      rcases hh.out with ⟨rfl, rfl⟩ | ⟨_, _, e⟩ | ⟨_, _, e⟩
      rotate_left
      · exact absurd hR e
      · exact absurd hR e
      clear hrn1 hrn2 hh
      subst hR
      have ho := ho.out
      have ho2 := ho2.out
      cases o <;> cases o2 <;> cases m
      all_goals simp only [Bool.true_and, Bool.false_and, Bool.false_or, Bool.not_true, Bool.not_false, decide_true, Bool.false_eq_true, if_true, if_false, Int.add_zero] at HG
      all_goals (go_wp2_with (first
        | (go_at_call 60; refine (C8.out _ _ _ HG.out).mono ?_; rintro e w7 ⟨rfl, rfl⟩)
        | (go_at_call 34; refine (C9.out _ _ (by first | exact Or.inl rfl | exact Or.inr rfl)).mono ?_; rintro e w8 ⟨b, rfl, rfl⟩)); all_goals go_ret2; all_goals exact ⟨_, rfl, H7.out⟩)
    · have hrn0 := hrn2 hR
      have hd0 := decide_eq_false hR
      rw [hd0] at HG
      clear ho2 hrn1 hrn2 hd0
      rcases hh.out with ⟨rfl, rfl⟩ | ⟨rfl, rfl, e⟩ | ⟨rfl, rfl, e⟩
      all_goals clear hh
      all_goals have ho := ho.out
      · cases o <;> cases m
        all_goals simp only [Bool.true_and, Bool.false_and, Bool.true_or, Bool.not_true, Bool.not_false, Bool.false_eq_true, if_true, if_false, Int.add_zero] at HG
        all_goals (go_wp2_with (first
        | (go_at_call 60; refine (C8.out _ _ _ HG.out).mono ?_; rintro e w7 ⟨rfl, rfl⟩)
        | (go_at_call 34; refine (C9.out _ _ (by first | exact Or.inl rfl | exact Or.inr rfl)).mono ?_; rintro e w8 ⟨b, rfl, rfl⟩)); all_goals go_ret2; all_goals exact ⟨_, rfl, H7.out⟩)
      · cases mo1 <;> cases m
        all_goals simp only [Bool.true_and, Bool.false_and, Bool.true_or, Bool.not_true, Bool.not_false, Bool.false_eq_true, if_true, if_false, Int.add_zero] at HG
        all_goals (go_wp2_with (first
        | (go_at_call 60; refine (C8.out _ _ _ HG.out).mono ?_; rintro e w7 ⟨rfl, rfl⟩)
        | (go_at_call 34; refine (C9.out _ _ (by first | exact Or.inl rfl | exact Or.inr rfl)).mono ?_; rintro e w8 ⟨b, rfl, rfl⟩)); all_goals go_ret2; all_goals exact ⟨_, rfl, H7.out⟩)
      · cases o <;> cases m
        all_goals simp only [Bool.true_and, Bool.false_and, Bool.true_or, Bool.not_true, Bool.not_false, Bool.false_eq_true, if_true, if_false, Int.add_zero] at HG
        all_goals (go_wp2_with (first
        | (go_at_call 60; refine (C8.out _ _ _ HG.out).mono ?_; rintro e w7 ⟨rfl, rfl⟩)
        | (go_at_call 34; refine (C9.out _ _ (by first | exact Or.inl rfl | exact Or.inr rfl)).mono ?_; rintro e w8 ⟨b, rfl, rfl⟩)); all_goals go_ret2; all_goals exact ⟨_, rfl, H7.out⟩)
  · have hlt' : qi < 9007199254740992 := by omega
    have HG := key _ _ (g1.out hlt')
    clear g1 g2 key ho2 hrn1 hrn2 hge hq1
    rcases hh.out with ⟨rfl, rfl⟩ | ⟨rfl, rfl, e⟩ | ⟨rfl, rfl, e⟩
    · clear hh ho
      cases m
      all_goals simp only [Bool.false_eq_true, if_false, Int.add_zero] at HG
      all_goals (go_wp2_with (first
        | (go_at_call 60; refine (C8.out _ _ _ HG.out).mono ?_; rintro e w7 ⟨rfl, rfl⟩)
        | (go_at_call 34; refine (C9.out _ _ (by first | exact Or.inl rfl | exact Or.inr rfl)).mono ?_; rintro e w8 ⟨b, rfl, rfl⟩)); all_goals go_ret2; all_goals exact ⟨_, rfl, H7.out⟩)
    · clear hh
      have ho := ho.out
      cases mo1 <;> cases m
      all_goals simp only [Bool.false_eq_true, if_true, if_false, Int.add_zero] at HG
      all_goals (go_wp2_with (first
        | (go_at_call 60; refine (C8.out _ _ _ HG.out).mono ?_; rintro e w7 ⟨rfl, rfl⟩)
        | (go_at_call 34; refine (C9.out _ _ (by first | exact Or.inl rfl | exact Or.inr rfl)).mono ?_; rintro e w8 ⟨b, rfl, rfl⟩)); all_goals go_ret2; all_goals exact ⟨_, rfl, H7.out⟩)
    · clear hh ho
      cases m
      all_goals simp only [Bool.false_eq_true, if_true, if_false, Int.add_zero] at HG
      all_goals (go_wp2_with (first
        | (go_at_call 60; refine (C8.out _ _ _ HG.out).mono ?_; rintro e w7 ⟨rfl, rfl⟩)
        | (go_at_call 34; refine (C9.out _ _ (by first | exact Or.inl rfl | exact Or.inr rfl)).mono ?_; rintro e w8 ⟨b, rfl, rfl⟩)); all_goals go_ret2; all_goals exact ⟨_, rfl, H7.out⟩)
set_option maxHeartbeats 8000000 in
theorem near_hi (m : Bool) (a d : Value) (A D X Y q R F : Nat) (u bA bD nn h qi : Int) (mo1 o o2 : Bool) (Good : Int → Int → Prop) (w : World) (ha : Nm w a A) (hd : Nm w d D)
   (va : Option Addr) (vn vc : Nat) (hs : a = .slice va vn vc) (hvn : vn ≠ 0) (hu : max (bA - bD - 53) (-1074) = u) (hlt : 0 ≤ u) (b1 : 0 ≤ bA) (b1' : bA < 20000000) (b2 : 0 ≤ bD) (b2' : bD < 20000000) 
   (C1 : Hid (∀ wz v, Nm wz v A → Calls Tryd.prog 84 #[v] wz fun e w' => e = .returned (.int .i64 bA) ∧ w' = wz))
   (C2 : Hid (∀ wz v, Nm wz v D → Calls Tryd.prog 84 #[v] wz fun e w' => e = .returned (.int .i64 bD) ∧ w' = wz))
   (C3 : Hid (∀ wz v, Nm wz v D → Calls Tryd.prog 80 #[v, .int .i64 u] wz fun e w' => ∃ x, e = .returned x ∧ Nm w' x Y ∧ Fr wz w'))
   (C4 : Hid (∀ wz v u, Nm wz v A → Nm wz u Y → Calls Tryd.prog 91 #[v, u] wz fun e w' => ∃ x y yn yc, e = .returned (.tuple #[x, .slice y yn yc]) ∧ Nm w' x q ∧ Nm w' (.slice y yn yc) R ∧ (yn = 0 ↔ R = 0) ∧ Fr wz w'))
   (C5 : Hid (∀ wz v, Nm wz v q → Calls Tryd.prog 92 #[v] wz fun e w' => e = .returned (.int .u64 qi) ∧ w' = wz))
   (C6 : Hid (∀ wz v, Nm wz v R → Calls Tryd.prog 80 #[v, .int .i64 1] wz fun e w' => ∃ x, e = .returned x ∧ Nm w' x (R * 2) ∧ Fr wz w'))
   (C7 : Hid (∀ wz v u, Nm wz v (R * 2) → Nm wz u Y → Calls Tryd.prog 87 #[v, u] wz fun e w' => e = .returned (.int .i64 h) ∧ Fr wz w'))
   (C8 : Hid (∀ wz M u', Good M u' → Calls Tryd.prog 60 #[.float .f64 (floatOfInt .f64 M), .int .i64 u'] wz fun e w' => e = .returned (.float .f64 F) ∧ w' = wz))
   (C9 : Hid (∀ wz y, (y = F ∨ y = Op.negFloat .f64 F) → Calls Tryd.prog 34 #[.float .f64 y, .int .i64 0] wz fun e w' => ∃ b, e = .returned (.bool b) ∧ w' = wz))
   (hq0 : 0 ≤ qi) (hq1 : qi < 18014398509481984)
   (hh : Hid (h = -1 ∧ mo1 = false ∨ h = 0 ∧ mo1 = o ∧ R ≠ 0 ∨ h = 1 ∧ mo1 = true ∧ R ≠ 0))
   (ho : Hid ((bits BinOp.and IntKind.u64 qi 1 == 1) = o)) (ho2 : Hid ((bits BinOp.and IntKind.u64 (qi / 2) 1 == 1) = o2))
   (g1 : Hid (qi < 9007199254740992 → Good (qi + if mo1 then 1 else 0) u)) (g2 : Hid (9007199254740992 ≤ qi → Good (qi / 2 + if o && (!decide (R = 0) || o2) then 1 else 0) (u + 1))) :
    Calls Tryd.prog 79 #[.bool m, a, d] w fun e w' => NearP w (if m then Op.negFloat .f64 F else F) e w' := by
  subst hs
  go_enter Tryd.func79, Tryd.ntmps79
  go_wp2_with fail
  refine (C1.out _ _ ha).mono ?_
  rintro e w1 ⟨rfl, rfl⟩
  go_wp2_with fail
  refine (C2.out _ _ hd).mono ?_
  rintro e w1 ⟨rfl, rfl⟩
  go_wp2_with fail
  refine (C3.out _ _ hd).mono ?_
  rintro e w2 ⟨a2, rfl, ha2, f2⟩
  have hu1 : -1074 ≤ u := by omega
  have hu2 : u < 20000000 := by omega
  clear hu b1 b2 b1' b2' C1 C2 C3 hvn
  go_wp2_with fail
  refine (C4.out _ _ _ (ha.mono f2) ha2).mono ?_
  rintro e w3 ⟨qv, ra, rn, rc, rfl, hqv, hrv, hrn, f3⟩
  go_wp2_with fail
  refine (C5.out _ _ hqv).mono ?_
  rintro e w4 ⟨rfl, rfl⟩
  go_wp2_with fail
  refine (C6.out _ _ hrv).mono ?_
  rintro e w5 ⟨tv, rfl, htv, f5⟩
  go_wp2_with fail
  refine (C7.out _ _ _ htv (ha2.mono (f3.trans f5))).mono ?_
  rintro e w6 ⟨rfl, f6⟩
  have f7 := (f2.trans f3).trans (f5.trans f6)
  have hrn1 : R = 0 → ((rn : Int) == 0) = true := fun e => by rw [hrn.2 e]; rfl
  have hrn2 : R ≠ 0 → ((rn : Int) == 0) = false := fun e => by rw [beq_eq_false_iff_ne]; intro e'; exact e (hrn.1 (by omega))
  have H7 : Hid _ := f7
  clear C4 C5 C6 C7 f2 f3 f5 f6 hd ha ha2 htv hqv hrv hrn f7
  have key : ∀ M u' : Int, Good M u' → Hid (Good M u') := fun _ _ h => h
  by_cases hge : 9007199254740992 ≤ qi
  · have HG := key _ _ (g2.out hge)
    clear g1 g2 key
    by_cases hR : R = 0
    · have hrn0 := hrn1 hR
      rcases hh.out with ⟨rfl, rfl⟩ | ⟨_, _, e⟩ | ⟨_, _, e⟩
      rotate_left
      · exact absurd hR e
      · exact absurd hR e
      clear hrn1 hrn2 hh
      subst hR
      have ho := ho.out
      have ho2 := ho2.out
      cases o <;> cases o2 <;> cases m
      all_goals simp only [Bool.true_and, Bool.false_and, Bool.false_or, Bool.not_true, Bool.not_false, decide_true, Bool.false_eq_true, if_true, if_false, Int.add_zero] at HG
      all_goals (go_wp2_with (first
        | (go_at_call 60; refine (C8.out _ _ _ HG.out).mono ?_; rintro e w7 ⟨rfl, rfl⟩)
        | (go_at_call 34; refine (C9.out _ _ (by first | exact Or.inl rfl | exact Or.inr rfl)).mono ?_; rintro e w8 ⟨b, rfl, rfl⟩)); all_goals go_ret2; all_goals exact ⟨_, rfl, H7.out⟩)
    · have hrn0 := hrn2 hR
      have hd0 := decide_eq_false hR
      rw [hd0] at HG
      clear ho2 hrn1 hrn2 hd0
      rcases hh.out with ⟨rfl, rfl⟩ | ⟨rfl, rfl, e⟩ | ⟨rfl, rfl, e⟩
      all_goals clear hh
      all_goals have ho := ho.out
      · cases o <;> cases m
        all_goals simp only [Bool.true_and, Bool.false_and, Bool.true_or, Bool.not_true, Bool.not_false, Bool.false_eq_true, if_true, if_false, Int.add_zero] at HG
        all_goals (go_wp2_with (first
        | (go_at_call 60; refine (C8.out _ _ _ HG.out).mono ?_; rintro e w7 ⟨rfl, rfl⟩)
        | (go_at_call 34; refine (C9.out _ _ (by first | exact Or.inl rfl | exact Or.inr rfl)).mono ?_; rintro e w8 ⟨b, rfl, rfl⟩)); all_goals go_ret2; all_goals exact ⟨_, rfl, H7.out⟩)
      · cases mo1 <;> cases m
        all_goals simp only [Bool.true_and, Bool.false_and, Bool.true_or, Bool.not_true, Bool.not_false, Bool.false_eq_true, if_true, if_false, Int.add_zero] at HG
        all_goals (go_wp2_with (first
        | (go_at_call 60; refine (C8.out _ _ _ HG.out).mono ?_; rintro e w7 ⟨rfl, rfl⟩)
        | (go_at_call 34; refine (C9.out _ _ (by first | exact Or.inl rfl | exact Or.inr rfl)).mono ?_; rintro e w8 ⟨b, rfl, rfl⟩)); all_goals go_ret2; all_goals exact ⟨_, rfl, H7.out⟩)
      · cases o <;> cases m
        all_goals simp only [Bool.true_and, Bool.false_and, Bool.true_or, Bool.not_true, Bool.not_false, Bool.false_eq_true, if_true, if_false, Int.add_zero] at HG
        all_goals (go_wp2_with (first
        | (go_at_call 60; refine (C8.out _ _ _ HG.out).mono ?_; rintro e w7 ⟨rfl, rfl⟩)
        | (go_at_call 34; refine (C9.out _ _ (by first | exact Or.inl rfl | exact Or.inr rfl)).mono ?_; rintro e w8 ⟨b, rfl, rfl⟩)); all_goals go_ret2; all_goals exact ⟨_, rfl, H7.out⟩)
  · have hlt' : qi < 9007199254740992 := by omega
    have HG := key _ _ (g1.out hlt')
    clear g1 g2 key ho2 hrn1 hrn2 hge hq1
    rcases hh.out with ⟨rfl, rfl⟩ | ⟨rfl, rfl, e⟩ | ⟨rfl, rfl, e⟩
    · clear hh ho
      cases m
      all_goals simp only [Bool.false_eq_true, if_false, Int.add_zero] at HG
      all_goals (go_wp2_with (first
        | (go_at_call 60; refine (C8.out _ _ _ HG.out).mono ?_; rintro e w7 ⟨rfl, rfl⟩)
        | (go_at_call 34; refine (C9.out _ _ (by first | exact Or.inl rfl | exact Or.inr rfl)).mono ?_; rintro e w8 ⟨b, rfl, rfl⟩)); all_goals go_ret2; all_goals exact ⟨_, rfl, H7.out⟩)
    · clear hh
      have ho := ho.out
      cases mo1 <;> cases m
      all_goals simp only [Bool.false_eq_true, if_true, if_false, Int.add_zero] at HG
      all_goals (go_wp2_with (first
        | (go_at_call 60; refine (C8.out _ _ _ HG.out).mono ?_; rintro e w7 ⟨rfl, rfl⟩)
        | (go_at_call 34; refine (C9.out _ _ (by first | exact Or.inl rfl | exact Or.inr rfl)).mono ?_; rintro e w8 ⟨b, rfl, rfl⟩)); all_goals go_ret2; all_goals exact ⟨_, rfl, H7.out⟩)
    · clear hh ho
      cases m
      all_goals simp only [Bool.false_eq_true, if_true, if_false, Int.add_zero] at HG
      all_goals (go_wp2_with (first
        | (go_at_call 60; refine (C8.out _ _ _ HG.out).mono ?_; rintro e w7 ⟨rfl, rfl⟩)
        | (go_at_call 34; refine (C9.out _ _ (by first | exact Or.inl rfl | exact Or.inr rfl)).mono ?_; rintro e w8 ⟨b, rfl, rfl⟩)); all_goals go_ret2; all_goals exact ⟨_, rfl, H7.out⟩)
end Go.Proofs.YtlbikopancleoaaDoor
/-
  OWN TEXT: the float nearest to a fraction whose worth is a whole number of halves, quarters .. : what nearest answers.
-/
namespace Go.Proofs.YtlbikopancleoaaDoor
open Go.ChangeShapes Go.WideShapes Go.ChangeAt Go.RowKit
open Bg
set_option linter.unusedVariables false
theorem near_arith (A D n e c j : Nat) (hA : 0 < A) (hD : 0 < D) (h : A * 2 ^ (c + e) = D * n) (hj : j = A.log2 + c - (D.log2 + 53)) :
    n / 2 ^ (e + j) < 18014398509481984 ∧ (j = 0 ∨ 4503599627370496 ≤ n / 2 ^ (e + j)) ∧ 0 < n := by
  have hn : 0 < n := by
    rcases Nat.eq_zero_or_pos n with z | z
    · rw [z, Nat.mul_zero] at h
      have := Nat.mul_pos hA (Nat.two_pow_pos (c + e))
      omega
    · exact z
  have a1 := Fl.log2_le A (by omega)
  have a2 := Fl.log2_lt A (by omega)
  have d1 := Fl.log2_le D (by omega)
  have d2 := Fl.log2_lt D (by omega)
  have v1 := Fl.log2_le n (by omega)
  have v2 := Fl.log2_lt n (by omega)
  have p1 : A.log2 + (c + e) < D.log2 + 1 + (n.log2 + 1) := by
    refine (Nat.pow_lt_pow_iff_right (a := 2) (by omega)).1 ?_
    rw [Nat.pow_add 2 A.log2, Nat.pow_add 2 (D.log2 + 1)]
    calc 2 ^ A.log2 * 2 ^ (c + e) ≤ A * 2 ^ (c + e) := Nat.mul_le_mul_right _ a1
      _ = D * n := h
      _ < _ := Nat.mul_lt_mul'' d2 v2
  have p2 : D.log2 + n.log2 < A.log2 + 1 + (c + e) := by
    refine (Nat.pow_lt_pow_iff_right (a := 2) (by omega)).1 ?_
    rw [Nat.pow_add 2 D.log2, Nat.pow_add 2 (A.log2 + 1)]
    calc 2 ^ D.log2 * 2 ^ n.log2 ≤ D * n := Nat.mul_le_mul d1 v1
      _ = A * 2 ^ (c + e) := h.symm
      _ < _ := Nat.mul_lt_mul_of_pos_right a2 (Nat.two_pow_pos _)
  refine ⟨?_, ?_, hn⟩
  · refine (Nat.div_lt_iff_lt_mul (Nat.two_pow_pos _)).2 ?_
    calc n < 2 ^ (n.log2 + 1) := v2
      _ ≤ 2 ^ (54 + (e + j)) := Nat.pow_le_pow_right (by omega) (by omega)
      _ = 18014398509481984 * 2 ^ (e + j) := by rw [Nat.pow_add 2 54 (e + j)]
  · by_cases z : j = 0
    · exact Or.inl z
    · refine Or.inr ((Nat.le_div_iff_mul_le (Nat.two_pow_pos _)).2 ?_)
      calc 4503599627370496 * 2 ^ (e + j) = 2 ^ (52 + (e + j)) := by rw [Nat.pow_add 2 52 (e + j)]
        _ ≤ 2 ^ n.log2 := Nat.pow_le_pow_right (by omega) (by omega)
        _ ≤ n := v1

/-- .. by a power of two -/
theorem sc_of_nat (N c : Nat) (u : Int) (hc : c = 1074) (hN : N ≤ 9007199254740992) (hu : 0 ≤ u + c) : scF (floatOfInt .f64 (N : Int)) u = Fl.wd false (Fl.rq (N * 2 ^ (u + c).toNat) 0) := by
  rw [float_of_nat N c hc]
  by_cases z : N = 0
  · subst z
    rw [Nat.zero_mul, Nat.zero_mul]
    rfl
  · have hlog : (N * 2 ^ c).log2 < 2098 := by
      rw [Fl.log2_mul N c z]
      have : N.log2 < 54 := (Nat.log2_lt z).2 (by omega)
      omega
    obtain ⟨h1, h2⟩ := Fl.rq_rep (N * 2 ^ c) ⟨N, c, rfl, hN⟩ hlog
    have hr : Fl.rg (Fl.wd false (Fl.rq (N * 2 ^ c) 0)) = Fl.rq (N * 2 ^ c) 0 := Fl.rg_wd _ _ (by omega)
    have hs : Fl.sg (Fl.wd false (Fl.rq (N * 2 ^ c) 0)) = false := Fl.sg_wd _ _ (by omega)
    have hz : ¬ Fl.rq (N * 2 ^ c) 0 = 0 := by
      intro e
      rw [e] at h1
      have : N * 2 ^ c ≠ 0 := Nat.mul_ne_zero z (by have := Nat.two_pow_pos c; omega)
      exact this h1.symm
    unfold scF
    have hf : Fl.finB (Fl.wd false (Fl.rq (N * 2 ^ c) 0)) = true := by unfold Fl.finB; rw [hr]; exact decide_eq_true h2
    rw [hf, hr, hs, decide_eq_false hz, h1, if_pos (by rfl), Fl.rz_shift]
    unfold Fl.rz
    rw [show (-(u + (c : Int))).toNat = 0 by omega]

/-- which figures and units give the float of rung 'r' -/
def GoodF (r c : Nat) (M u : Int) : Prop := ∃ N : Nat, M = N ∧ N ≤ 9007199254740992 ∧ -(c : Int) ≤ u ∧ u ≤ 20000 ∧ r = Fl.rq (N * 2 ^ (u + c).toNat) 0

theorem neg_wd (r : Nat) (h : r ≤ 9218868437227405312) : Op.negFloat .f64 (Fl.wd false r) = Fl.wd true r := by
  rw [Fl.neg_eq (Fl.wd_lt _ _ (by omega))]
  show Fl.ng r = 9223372036854775808 + r
  unfold Fl.ng
  rw [if_pos (by omega), Nat.add_comm]

theorem near_shared (n e c j : Nat) (u : Int) (hc : c = 1074) (hju : u + c = (j : Int)) (hub : u < 19000) (q1 : n / 2 ^ (e + j) < 18014398509481984) (q2 : j = 0 ∨ 4503599627370496 ≤ n / 2 ^ (e + j)) (n0 : 0 < n) :
    ∀ X Y : Nat, 0 < Y → X * 2 ^ (e + j) = Y * n → X.log2 < 32000 →
      (∀ wz v u, Nm wz v X → Nm wz u Y → Calls Tryd.prog 91 #[v, u] wz fun e w' => ∃ x y yn yc, e = .returned (.tuple #[x, .slice y yn yc]) ∧ Nm w' x (X / Y) ∧ Nm w' (.slice y yn yc) (X % Y) ∧ (yn = 0 ↔ X % Y = 0) ∧ Fr wz w') ∧
      (∀ wz v, Nm wz v (X / Y) → Calls Tryd.prog 92 #[v] wz fun e w' => e = .returned (.int .u64 ((X / Y : Nat) : Int)) ∧ w' = wz) ∧
      (∀ wz v, Nm wz v (X % Y) → Calls Tryd.prog 80 #[v, .int .i64 1] wz fun e w' => ∃ x, e = .returned x ∧ Nm w' x (X % Y * 2) ∧ Fr wz w') ∧
      (∀ wz v u, Nm wz v (X % Y * 2) → Nm wz u Y → Calls Tryd.prog 87 #[v, u] wz fun e w' => e = .returned (.int .i64 (cmpI (X % Y * 2) Y)) ∧ Fr wz w') ∧
      (0 : Int) ≤ ((X / Y : Nat) : Int) ∧ ((X / Y : Nat) : Int) < 18014398509481984 ∧
      (cmpI (X % Y * 2) Y = -1 ∧ decide (Y < 2 * (X % Y) ∨ (Y = 2 * (X % Y) ∧ X / Y % 2 = 1)) = false ∨ cmpI (X % Y * 2) Y = 0 ∧ decide (Y < 2 * (X % Y) ∨ (Y = 2 * (X % Y) ∧ X / Y % 2 = 1)) = decide (X / Y % 2 = 1) ∧ X % Y ≠ 0 ∨ cmpI (X % Y * 2) Y = 1 ∧ decide (Y < 2 * (X % Y) ∨ (Y = 2 * (X % Y) ∧ X / Y % 2 = 1)) = true ∧ X % Y ≠ 0) ∧
      ((bits BinOp.and IntKind.u64 ((X / Y : Nat) : Int) 1 == 1) = decide (X / Y % 2 = 1)) ∧
      ((bits BinOp.and IntKind.u64 (((X / Y : Nat) : Int) / 2) 1 == 1) = decide (X / Y / 2 % 2 = 1)) ∧
      (((X / Y : Nat) : Int) < 9007199254740992 → GoodF (Fl.rq n e) c (((X / Y : Nat) : Int) + if decide (Y < 2 * (X % Y) ∨ (Y = 2 * (X % Y) ∧ X / Y % 2 = 1)) then 1 else 0) u) ∧
      (9007199254740992 ≤ ((X / Y : Nat) : Int) → GoodF (Fl.rq n e) c (((X / Y : Nat) : Int) / 2 + if decide (X / Y % 2 = 1) && (!decide (X % Y = 0) || decide (X / Y / 2 % 2 = 1)) then 1 else 0) (u + 1)) := by
  have hjt : (u + (c : Int)).toNat = j := by omega
  intro X Y hY hXY hlX
  obtain ⟨e1, e2⟩ := Fl.div_same X Y n (2 ^ (e + j)) hY (Nat.two_pow_pos _) hXY
  have f1 := Fl.fig_one X Y n (2 ^ (e + j)) (e + j) rfl hY hXY
  have f2 := Fl.fig_two X Y n (2 ^ (e + j)) (e + j) rfl hY hXY
  have hlt := Nat.mod_lt X hY
  have q1' := q1
  have q2' := q2
  rw [← e1] at q1' q2'
  have g1 : X / Y < 9007199254740992 → GoodF (Fl.rq n e) c (((X / Y : Nat) : Int) + if decide (Y < 2 * (X % Y) ∨ (Y = 2 * (X % Y) ∧ X / Y % 2 = 1)) then 1 else 0) u := by
    intro hq
    refine ⟨Fl.rne n (e + j), ?_, ?_, by omega, by omega, ?_⟩
    · rw [f1]
      by_cases c1 : Y < 2 * (X % Y) ∨ (Y = 2 * (X % Y) ∧ X / Y % 2 = 1)
      · rw [if_pos c1, decide_eq_true c1, if_pos rfl]; rfl
      · rw [if_neg c1, decide_eq_false c1, if_neg (by simp)]; rfl
    · rw [f1]; split <;> omega
    · rw [hjt]
      exact Fl.rq_round n e j n0 (by omega) (by omega)
  have g2 : 9007199254740992 ≤ X / Y → GoodF (Fl.rq n e) c (((X / Y : Nat) : Int) / 2 + if decide (X / Y % 2 = 1) && (!decide (X % Y = 0) || decide (X / Y / 2 % 2 = 1)) then 1 else 0) (u + 1) := by
    intro hq
    have e3 : n / 2 ^ (e + (j + 1)) = X / Y / 2 := by
      rw [← Nat.add_assoc, Nat.pow_succ, ← Nat.div_div_eq_div_mul, e1]
    refine ⟨Fl.rne n (e + j + 1), ?_, ?_, by omega, by omega, ?_⟩
    · rw [f2]
      by_cases c1 : X / Y % 2 = 1 ∧ (¬ X % Y = 0 ∨ X / Y / 2 % 2 = 1)
      · have : (decide (X / Y % 2 = 1) && (!decide (X % Y = 0) || decide (X / Y / 2 % 2 = 1))) = true := by
          rw [Bool.and_eq_true, Bool.or_eq_true, Bool.not_eq_true', decide_eq_true_eq, decide_eq_true_eq, decide_eq_false_iff_not]; exact c1
        rw [if_pos c1, this, if_pos rfl]; rfl
      · have : (decide (X / Y % 2 = 1) && (!decide (X % Y = 0) || decide (X / Y / 2 % 2 = 1))) = false := by
          rw [← Bool.not_eq_true, Bool.and_eq_true, Bool.or_eq_true, Bool.not_eq_true', decide_eq_true_eq, decide_eq_true_eq, decide_eq_false_iff_not]; exact c1
        rw [if_neg c1, this, if_neg (by simp)]; rfl
    · rw [f2]; split <;> omega
    · have := Fl.rq_round n e (j + 1) n0 (by omega) (by omega)
      rw [show (u + 1 + (c : Int)).toNat = j + 1 by omega]
      exact this
  generalize hQ : X / Y = Q at *
  generalize hR : X % Y = R at *
  refine ⟨?_, ?_, ?_, ?_, by omega, by omega, ?_, ?_, ?_, fun hq => g1 (by omega), fun hq => g2 (by omega)⟩
  · intro wz v u hv hu
    refine (divWords_any v u X Y wz hv hu (by omega) hY).mono ?_
    rintro e w' ⟨q, r, rfl, hq, hr, hf⟩
    rw [hQ] at hq
    rw [hR] at hr
    obtain ⟨y, yn, yc, rfl, hy⟩ := nm_slice hr
    exact ⟨q, y, yn, yc, rfl, hq, hr, hy, hf⟩
  · intro wz v hv
    have := toUint_any v Q wz hv
    rw [Nat.mod_eq_of_lt (by omega)] at this
    exact this
  · intro wz v hv
    have hl : R.log2 < 32000000 := by
      have hr : R ≤ X := by rw [← hR]; exact Nat.mod_le _ _
      by_cases z : R = 0
      · rw [z]; decide
      · have := (Nat.le_log2 (by omega)).2 (Nat.le_trans (Fl.log2_le R z) hr)
        omega
    have := up_words v R 1 wz hv hl (by omega)
    rw [Nat.pow_one] at this
    exact this
  · intro wz v u hv hu
    exact cmpWords_any v u _ _ wz hv hu
  · rcases Nat.lt_trichotomy (R * 2) Y with c1 | c1 | c1
    · exact Or.inl ⟨cmpI_lt c1, decide_eq_false (by omega)⟩
    · refine Or.inr (Or.inl ⟨cmpI_eq c1, ?_, by omega⟩)
      rw [decide_eq_decide]; omega
    · exact Or.inr (Or.inr ⟨cmpI_gt c1, decide_eq_true (by omega), by omega⟩)
  · rw [and_one_u64 _ (by omega) (by omega), Bool.eq_iff_iff, beq_iff_eq, decide_eq_true_eq]; omega
  · rw [and_one_u64 _ (by omega) (by omega), Bool.eq_iff_iff, beq_iff_eq, decide_eq_true_eq]; omega

theorem near_dy (m : Bool) (a d : Value) (A D n e c : Nat) (w : World) (ha : Nm w a A) (hd : Nm w d D) (hA : 0 < A) (hD : 0 < D) (lA : A.log2 < 16000) (lD : D.log2 < 16000) (hc : c = 1074) (h : A * 2 ^ (c + e) = D * n) :
    Calls Tryd.prog 79 #[.bool m, a, d] w fun x w' => NearP w (Fl.wd m (Fl.rq n e)) x w' := by
  obtain ⟨va, vn, vc, hs, hvn⟩ := nm_slice ha
  have hvn' : vn ≠ 0 := fun z => by have := hvn.1 z; omega
  have eA : bitLen A = A.log2 + 1 := by unfold bitLen; rw [if_neg (by omega)]
  have eD : bitLen D = D.log2 + 1 := by unfold bitLen; rw [if_neg (by omega)]
  obtain ⟨u, hu⟩ : ∃ u : Int, max ((bitLen A : Int) - bitLen D - 53) (-1074) = u := ⟨_, rfl⟩
  obtain ⟨j, hj⟩ : ∃ j, j = A.log2 + c - (D.log2 + 53) := ⟨_, rfl⟩
  have hju : u + c = (j : Int) := by omega
  have hjt : (u + (c : Int)).toNat = j := by omega
  obtain ⟨q1, q2, n0⟩ := near_arith A D n e c j hA hD h hj
  have hub : u < 19000 := by omega
  have C1 : Hid (∀ wz v, Nm wz v A → Calls Tryd.prog 84 #[v] wz fun e w' => e = .returned (.int .i64 (bitLen A : Int)) ∧ w' = wz) := fun wz v hv => bitLen_any v A wz hv (by omega)
  have C2 : Hid (∀ wz v, Nm wz v D → Calls Tryd.prog 84 #[v] wz fun e w' => e = .returned (.int .i64 (bitLen D : Int)) ∧ w' = wz) := fun wz v hv => bitLen_any v D wz hv (by omega)
  have C8 : Hid (∀ wz M u', GoodF (Fl.rq n e) c M u' → Calls Tryd.prog 60 #[.float .f64 (floatOfInt .f64 M), .int .i64 u'] wz fun e' w' => e' = .returned (.float .f64 (Fl.wd false (Fl.rq n e))) ∧ w' = wz) := by
    intro wz M u' hg
    obtain ⟨N, rfl, hN, hu1, hu2, hr⟩ := hg
    have e1 := sc_of_nat N c u' hc hN (by omega)
    have e2 := float_of_nat N c hc
    have := Ldexp_any (floatOfInt .f64 (N : Int)) u' wz (by rw [e2]; exact Fl.wd_lt _ _ (by have := Fl.rq_le (N * 2 ^ c) 0; omega)) (by omega) (by omega)
    rw [e1, ← hr] at this
    exact this
  have hle := Fl.rq_le n e
  have C9 : Hid (∀ wz y, (y = Fl.wd false (Fl.rq n e) ∨ y = Op.negFloat .f64 (Fl.wd false (Fl.rq n e))) → Calls Tryd.prog 34 #[.float .f64 y, .int .i64 0] wz fun e w' => ∃ b, e = .returned (.bool b) ∧ w' = wz) := by
    intro wz y hy
    have hy' : y < 18446744073709551616 := by
      rcases hy with rfl | rfl
      · exact Fl.wd_lt _ _ (by omega)
      · rw [neg_wd _ hle]; exact Fl.wd_lt _ _ (by omega)
    refine (isInf_any y 0 wz hy' (Or.inl rfl)).mono ?_
    rintro e w' ⟨rfl, rfl⟩
    exact ⟨_, rfl, rfl⟩
  have FIN : ∀ x w', NearP w (if m then Op.negFloat .f64 (Fl.wd false (Fl.rq n e)) else Fl.wd false (Fl.rq n e)) x w' → NearP w (Fl.wd m (Fl.rq n e)) x w' := by
    intro x w' hx
    rw [neg_wd _ hle] at hx
    have e1 : (if m = true then Fl.wd true (Fl.rq n e) else Fl.wd false (Fl.rq n e)) = Fl.wd m (Fl.rq n e) := by
      generalize Fl.rq n e = r
      cases m
      · rw [if_neg (by decide)]
      · rw [if_pos rfl]
    rw [e1] at hx
    exact hx
  have shared := near_shared n e c j u hc hju hub q1 q2 n0
  by_cases hneg : u < 0
  · obtain ⟨N, hN⟩ : ∃ N : Nat, -u = (N : Int) := ⟨(-u).toNat, by omega⟩
    have hX : A * 2 ^ N * 2 ^ (e + j) = D * n := by
      rw [Nat.mul_assoc, ← Nat.pow_add, show N + (e + j) = c + e by omega, h]
    have hlX : (A * 2 ^ N).log2 < 32000 := by rw [Fl.log2_mul A N (by omega)]; omega
    obtain ⟨s1, s2, s3, s4, s5, s6, s7, s8, s9, s10, s11⟩ := shared (A * 2 ^ N) D hD hX hlX
    refine (near_lo m a d A D (A * 2 ^ N) D _ _ (Fl.wd false (Fl.rq n e)) u (bitLen A) (bitLen D) N _ _ _ _ _ (GoodF (Fl.rq n e) c) w ha hd va vn vc hs hvn' hu hneg (by omega) (by omega) (by omega) (by omega) hN C1 C2 ?_ s1 s2 s3 s4 C8 C9 s5 s6 s7 s8 s9 s10 s11).mono FIN
    intro wz v hv
    exact up_words v A N wz hv (by omega) (by omega)
  · obtain ⟨N, hN⟩ : ∃ N : Nat, u = (N : Int) := ⟨u.toNat, by omega⟩
    have hX : A * 2 ^ (e + j) = D * 2 ^ N * n := by
      rw [Nat.mul_right_comm, ← h, Nat.mul_assoc, ← Nat.pow_add]
      congr 2
      omega
    obtain ⟨s1, s2, s3, s4, s5, s6, s7, s8, s9, s10, s11⟩ := shared A (D * 2 ^ N) (Nat.mul_pos hD (Nat.two_pow_pos N)) hX (by omega)
    refine (near_hi m a d A D A (D * 2 ^ N) _ _ (Fl.wd false (Fl.rq n e)) u (bitLen A) (bitLen D) 0 _ _ _ _ _ (GoodF (Fl.rq n e) c) w ha hd va vn vc hs hvn' hu (by omega) (by omega) (by omega) (by omega) (by omega) C1 C2 ?_ s1 s2 s3 s4 C8 C9 s5 s6 s7 s8 s9 s10 s11).mono FIN
    intro wz v hv
    rw [hN]
    exact up_words v D N wz hv (by omega) (by omega)
end Go.Proofs.YtlbikopancleoaaDoor
