/-
  OWN TEXT: package solve, of floats: Off.
-/
import Derived.Test.YtjfkdmddfeeheaaJSvLToSvN
namespace Go.Proofs.Ytjfkdmddfeeheaa
open Go.ChangeShapes Go.WideShapes Go.ChangeAt Go.RowKit
set_option linter.unusedVariables false
attribute [local go_sem] frombits_call tobits_call run_neg

attribute [local go_sem] stof14 store14
namespace Sv
/-- without its sign -/
def abC (x : Nat) : Nat := Fl.bitsF (Fl.rg x)
theorem ab_c (x : Nat) : Fl.bitsF (Fl.rg x) = abC (Fl.bitsF x) := by
  unfold abC
  by_cases h : Fl.nan x = true
  · rw [c_nan h, c_nan (by rw [Fl.nan_rg]; exact h)]; decide
  · rw [c_num (Bool.eq_false_iff.2 h)]
/-- how far off the first k rows are -/
def offV (n : Nat) (A : M) (x b : Nat → Nat) : Nat → Nat
  | 0 => 0
  | k + 1 => mxC (offV n A x b k) (abC (op .sub (osum (A k) x n) (b k)))
def two {α : Type} (a b : α) : Nat → α := fun i => if i = 0 then a else b
def offK (n : Nat) (l : Nat → Nat) (A : M) (nx : Nat) (x : Nat → Nat) (nb : Nat) (b : Nat → Nat) : Int := chkA n l A 2 (two nx nb) (two x b)
def offE (n : Nat) (l : Nat → Nat) (A : M) (nx : Nat) (x : Nat → Nat) (nb : Nat) (b : Nat → Nat) : Int :=
  if offK n l A nx x nb b = 0 then (if Fl.finB (offV n A x b n) then 0 else 6) else offK n l A nx x nb b
def offX (n : Nat) (l : Nat → Nat) (A : M) (nx : Nat) (x : Nat → Nat) (nb : Nat) (b : Nat → Nat) : Nat :=
  if offK n l A nx x nb b = 0 then (if Fl.finB (offV n A x b n) then offV n A x b n else 0) else 0
theorem Lm.two {w : World} {v v' : Value} {n n' : Nat} {F F' : Nat → Nat} (h : Ls w v n F) (h' : Ls w v' n' F') (t : TypeId) : Lm (w.alloc (.cells #[v, v'] t)) (.slice (some ⟨w.heap.size, 0, none⟩) 2 2) 2 (two n n') (two F F') :=
  Or.inr ⟨w.heap.size, 0, 2, rfl, Nat.le_refl _, by simp, fun i hi => by
    rcases (show i = 0 ∨ i = 1 by omega) with rfl | rfl
    · exact ⟨v, by simp, h.bw (bw_new w _)⟩
    · exact ⟨v', by simp, h'.bw (bw_new w _)⟩⟩
end Sv
set_option maxHeartbeats 8000000 in
theorem off14 {w : World} {va vx vb : Value} {n nx nb : Nat} {l : Nat → Nat} {A : Sv.M} {X b : Nat → Nat} (ha : Sv.Lm w va n l A) (hx : Sv.Ls w vx nx X) (hb : Sv.Ls w vb nb b) (hn : n < 1000000) :
    Calls Try.prog 13 #[va, vx, vb] w fun e w' => ∃ x, e = .returned (.tuple #[.float .f64 x, .int .i64 (Sv.offE n l A nx X nb b)]) ∧ x < 18446744073709551616 ∧ Fl.bitsF x = Sv.offX n l A nx X nb b ∧ Bw w w' := by
  obtain ⟨vp, vn, vc, rfl⟩ : ∃ p k c, vb = .slice p k c := by rcases hb with ⟨⟨_, _, rfl, _⟩, _⟩ | ⟨_, _, _, rfl, _⟩ <;> exact ⟨_, _, _, rfl⟩
  obtain ⟨up, un, uc, rfl⟩ : ∃ p k c, vx = .slice p k c := by rcases hx with ⟨⟨_, _, rfl, _⟩, _⟩ | ⟨_, _, _, rfl, _⟩ <;> exact ⟨_, _, _, rfl⟩
  have HA := Sv.hid (And.intro ha (And.intro hx hb))
  clear ha hx hb
  go_enter Try.func13, Try.ntmps13
  go_wp2_with fail
  refine (floats14 _).mono ?_
  rintro e' w1 ⟨rfl, b1⟩
  have b2 := Sv.bw_new w1 (.cells #[.func (.func 70) #[] #[], .func (.func 71) #[] #[], .func (.func 31) #[] #[], .func (.func 72) #[] #[], .func (.func 73) #[] #[]] 73)
  have b3 := Sv.bw_new (w1.alloc (.cells #[.func (.func 70) #[] #[], .func (.func 71) #[] #[], .func (.func 31) #[] #[], .func (.func 72) #[] #[], .func (.func 73) #[] #[]] 73)) (.cells #[.slice up un uc, .slice vp vn vc] 24)
  have z0 : ∀ (w : World) (o : Obj), (w.alloc o).heap.size = w.heap.size + 1 := fun w o => by simp
  have CH := Sv.hid (check14 (((HA.out.1.bw b1).bw b2).bw b3) (Sv.Lm.two ((HA.out.2.1.bw b1).bw b2) ((HA.out.2.2.bw b1).bw b2) 24) hn (by omega))
  simp only [z0] at CH
  have HX := Sv.hid (And.intro ((Sv.Bx.made w1).bw b3) (bw_trans (bw_trans b1 b2) b3))
  clear b1 b2 b3 z0
  go_wp2_with fail
  refine CH.out.mono ?_
  rintro e' w2 ⟨rfl, b3⟩
  replace HX := Sv.hid (And.intro (HX.out.1.bw b3) (bw_trans HX.out.2 b3))
  clear CH b3
  generalize w1.heap.size = C at HX ⊢
  by_cases z : Sv.chkA n l A 2 (Sv.two nx nb) (Sv.two X b) = 0
  · obtain ⟨y1, y2⟩ := Sv.chkA_zero z
    obtain ⟨⟨hn0, hn1⟩, hl, _⟩ := Sv.chk_zero y1
    have hnx : nx = n := (Sv.chkB_zero y2 0 (by omega)).1
    have hnb : nb = n := (Sv.chkB_zero y2 1 (by omega)).1
    have HE : Hid (Sv.offE n l A nx X nb b = (if Fl.finB (Sv.offV n A X b n) then 0 else 6) ∧ Sv.offX n l A nx X nb b = (if Fl.finB (Sv.offV n A X b n) then Sv.offV n A X b n else 0)) := by
      show _ ∧ _
      unfold Sv.offE Sv.offX Sv.offK
      rw [if_pos z, if_pos z]
      exact ⟨rfl, rfl⟩
    rw [z]
    clear z y1 y2
    obtain ⟨ha, hx, hb⟩ := HA.out
    obtain ⟨ab, ao, ac, rfl, hac, habl, hra⟩ := ha.resolve_left (fun h => by omega)
    obtain ⟨xb, xo, xc, hxe, hxc, hrx⟩ := hx.resolve_left (fun h => by omega)
    obtain ⟨bb, bo, bc, hbe, hbc, hrb⟩ := hb.resolve_left (fun h => by omega)
    simp only [Value.slice.injEq] at hbe hxe
    obtain ⟨rfl, rfl, rfl⟩ := hbe
    obtain ⟨rfl, rfl, rfl⟩ := hxe
    subst hnx
    have HRA := Sv.hid hra
    have HRX := Sv.hid hrx
    have HRB := Sv.hid hrb
    have HB := Sv.hid (And.intro hnb (And.intro hl habl))
    clear ha hx hb hra hrx hrb HA hnb hl habl hac hxc hbc
    go_wp2
    go_loopw [10, 28] (fun v i wr => ∃ (k o : Nat), k ≤ un ∧ i = .int .i64 k ∧ v = .float .f64 o ∧ o < 18446744073709551616 ∧ Fl.bitsF o = Sv.offV un A X b k ∧ Sv.Bx wr C ∧ Bw w wr) (fun _ i _ => un - (intOf i).toNat)
    case atStart => exact ⟨0, 0, Nat.zero_le _, rfl, rfl, by decide, (show Fl.bitsF 0 = 0 by decide), HX.out.1, HX.out.2⟩
    case round =>
      clear HX
      obtain ⟨k, o, hk, rfl, rfl, ho, hq, hbx, hbw⟩ := hrel
      have HQ := Sv.hid hq
      clear hq
      by_cases hk1 : k < un
      · have hk2 : (k : Int) < un := by omega
        obtain ⟨hnb, hl, habl⟩ := HB.out
        obtain ⟨r, e0, hr⟩ := HRA.out k hk1
        replace e0 := (Below.cell hbw (p := ⟨ab, ao + k, none⟩) habl).trans e0
        rw [hl k hk1] at hr
        obtain ⟨rb, ro, rc, rfl, _, hr⟩ := hr.resolve_left (fun h => by omega)
        have HR := Sv.hid hr
        have KX := Sv.hid (And.intro hbx hbw)
        clear hr hbx hbw hnb hl habl
        go_wp2
        clear e0
        go_loopw [13, 35] (fun v i wr => ∃ (j sx : Nat), j ≤ un ∧ i = .int .i64 j ∧ v = .float .f64 sx ∧ sx < 18446744073709551616 ∧ Fl.bitsF sx = Sv.osum (A k) X j ∧ Sv.Bx wr C ∧ Bw w wr) (fun _ i _ => un - (intOf i).toNat)
        case atStart => exact ⟨0, 0, Nat.zero_le _, rfl, rfl, by decide, (show Fl.bitsF 0 = 0 by decide), KX.out.1, KX.out.2⟩
        case round =>
          clear KX
          obtain ⟨j, sx, hj, rfl, rfl, hsx, hq, hbx, hbw⟩ := hrel
          have HS := Sv.hid hq
          clear hq
          by_cases hj1 : j < un
          · have hj2 : (j : Int) < un := by omega
            obtain ⟨x, e1, hx, q1⟩ := (HR.out.bw hbw).2 j hj1
            replace hbx := hbx.bw (Bw.refl wr).drew
            have hbw2 := bw_trans hbw (Bw.refl wr).drew
            obtain ⟨y, e2, hy, q2⟩ := (HRX.out.bw hbw2).2 j hj1
            have LT : Hid (C < wr.drew.heap.size ∧ xb < wr.drew.heap.size) := ⟨hbx.1, (HRX.out.bw hbw2).1⟩
            have S0 : wr.drew.cell? ⟨C, 0, none⟩ = some (.func (.func 70) #[] #[]) ∧ wr.drew.cell? ⟨xb, xo + j, none⟩ = some (.float .f64 y) := ⟨hbx.2.1, e2⟩
            have Q12 := Sv.hid (And.intro q1 q2)
            have KX := Sv.hid (And.intro hbx hbw2)
            clear hbx hbw hbw2 e2 q1 q2
            go_wp2_with fail
            refine wp_region_K (fun w' => w'.cell? ⟨C, 0, none⟩ = some (.func (.func 70) #[] #[]) ∧ w'.cell? ⟨xb, xo + j, none⟩ = some (.float .f64 y)) 10 11 #[false, false, false, false, false, false, false, false, false, false, false] (by kernel_rfl) (by kernel_rfl) (by kernel_rfl) ?_
            generalize wr.drew = W at *
            refine wpAnyK_take 0 40 (v := ?v0) rfl (by kernel_rfl) (by kernel_rfl) (by kernel_rfl) (by kernel_rfl) (by kernel_rfl) (fun _ _ _ h => h) rfl (Or.inl ⟨by rfl, ?h0⟩) (by assumption) ?r0
            case h0 => (intro w hSw; go_simp; with_reducible rfl)
            simp only [Act.put, List.setIfInBounds_toArray, List.set_cons_zero, List.set_cons_succ]
            refine wpAnyK_take 1 41 (v := ?v1) rfl (by kernel_rfl) (by kernel_rfl) (by kernel_rfl) (by kernel_rfl) (by kernel_rfl) (fun _ _ _ h => h) rfl (Or.inl ⟨by rfl, ?h1⟩) (by assumption) ?r1
            case h1 => (intro w hSw; go_simp; with_reducible rfl)
            simp only [Act.put, List.setIfInBounds_toArray, List.set_cons_zero, List.set_cons_succ]
            refine wpAnyK_take 2 42 (v := ?v2) rfl (by kernel_rfl) (by kernel_rfl) (by kernel_rfl) (by kernel_rfl) (by kernel_rfl) (fun _ _ _ h => h) rfl (Or.inl ⟨by rfl, ?h2⟩) (by assumption) ?r2
            case h2 => (intro w hSw; go_simp; with_reducible rfl)
            simp only [Act.put, List.setIfInBounds_toArray, List.set_cons_zero, List.set_cons_succ]
            refine wpAnyK_take 3 43 (v := ?v3) rfl (by kernel_rfl) (by kernel_rfl) (by kernel_rfl) (by kernel_rfl) (by kernel_rfl) (fun _ _ _ h => h) rfl (Or.inl ⟨by rfl, ?h3⟩) (by assumption) ?r3
            case h3 => (intro w hSw; go_simp; with_reducible rfl)
            simp only [Act.put, List.setIfInBounds_toArray, List.set_cons_zero, List.set_cons_succ]
            refine wpAnyK_take 4 44 (v := ?v4) rfl (by kernel_rfl) (by kernel_rfl) (by kernel_rfl) (by kernel_rfl) (by kernel_rfl) (fun _ _ _ h => h) rfl (Or.inl ⟨by rfl, ?h4⟩) (by assumption) ?r4
            case h4 => (intro w hSw; go_simp; with_reducible rfl)
            simp only [Act.put, List.setIfInBounds_toArray, List.set_cons_zero, List.set_cons_succ]
            refine wpAnyK_take 5 45 (v := ?v5) rfl (by kernel_rfl) (by kernel_rfl) (by kernel_rfl) (by kernel_rfl) (by kernel_rfl) (fun _ _ _ h => h) rfl (Or.inl ⟨by rfl, ?h5⟩) (by assumption) ?r5
            case h5 => (intro w hSw; go_simp; with_reducible rfl)
            simp only [Act.put, List.setIfInBounds_toArray, List.set_cons_zero, List.set_cons_succ]
            refine wpAnyK_take 6 46 (v := ?v6) rfl (by kernel_rfl) (by kernel_rfl) (by kernel_rfl) (by kernel_rfl) (by kernel_rfl) (fun _ _ _ h => h) rfl (Or.inl ⟨by rfl, ?h6⟩) (by assumption) ?r6
            case h6 => (intro w hSw; go_simp; with_reducible rfl)
            simp only [Act.put, List.setIfInBounds_toArray, List.set_cons_zero, List.set_cons_succ]
            refine wpAnyK_take 7 47 (v := ?v7) rfl (by kernel_rfl) (by kernel_rfl) (by kernel_rfl) (by kernel_rfl) (by kernel_rfl) (fun _ _ _ h => h) rfl (Or.inl ⟨by rfl, ?h7⟩) (by assumption) ?r7
            case h7 => (intro w hSw; go_simp; with_reducible rfl)
            simp only [Act.put, List.setIfInBounds_toArray, List.set_cons_zero, List.set_cons_succ]
            refine wpAnyK_one 8 (by kernel_rfl) rfl (fun K hK => ?_)
            go_simp
            go_wp2_with (go_at_call 70; refine (times14 _ _ _).mono ?_; rintro e' w7 ⟨p, rfl, hp, b7⟩)
            have S7 : w7.cell? ⟨C, 0, none⟩ = some (.func (.func 70) #[] #[]) ∧ w7.cell? ⟨xb, xo + j, none⟩ = some (.float .f64 y) := ⟨(Below.cell b7 (p := ⟨C, 0, none⟩) LT.out.1).trans S0.1, (Below.cell b7 (p := ⟨xb, xo + j, none⟩) LT.out.2).trans S0.2⟩
            obtain ⟨r, w8, hr1, hr2, E8, b8⟩ := Sv.run Sv.iAdd sx p w7
            have S8 : w8.cell? ⟨C, 0, none⟩ = some (.func (.func 70) #[] #[]) ∧ w8.cell? ⟨xb, xo + j, none⟩ = some (.float .f64 y) := ⟨(Below.cell b8 (p := ⟨C, 0, none⟩) (Nat.lt_of_lt_of_le LT.out.1 b7.size)).trans S7.1, (Below.cell b8 (p := ⟨xb, xo + j, none⟩) (Nat.lt_of_lt_of_le LT.out.2 b7.size)).trans S7.2⟩
            have HR2 := Sv.hid hr2
            have HP2 := Sv.hid hp
            clear hr2 hp
            refine hK.out _ _ (fun _ _ => S7) ?_
            clear hK K
            simp only [List.setIfInBounds_toArray, List.set_cons_zero, List.set_cons_succ]
            refine wpAnyK_one 9 (by kernel_rfl) rfl (fun K hK => ?_)
            go_simp
            refine hK.out _ _ (fun _ _ => S8) ?_
            clear hK K
            simp only [List.setIfInBounds_toArray, List.set_cons_zero, List.set_cons_succ]
            refine wpAnyK_one 10 (by kernel_rfl) rfl (fun K hK => ?_)
            go_simp
            refine hK.out _ _ (fun h => absurd rfl h) ?_
            clear hK K
            simp only [List.setIfInBounds_toArray, List.set_cons_zero, List.set_cons_succ]
            refine wpAnyK_done (by kernel_rfl) ?_ _
            obtain ⟨hbx, hbw⟩ := KX.out
            have KN := Sv.hid (And.intro ((hbx.bw b7).bw b8) (bw_trans (bw_trans hbw b7) b8))
            have HN : Hid (Fl.bitsF r = Sv.osum (A k) X (j + 1)) := by
              show Fl.bitsF r = Sv.op .add (Sv.osum (A k) X j) (Sv.op .mul (A k j) (X j))
              rw [HR2.out, HP2.out.2, HS.out, Q12.out.1, Q12.out.2]
            clear hbx hbw b7 b8 S0 S7 S8 E8 KX LT W
            go_wp2
            go_roundw
            case rel => exact ⟨j + 1, r, by omega, by simp, rfl, hr1, HN.out, KN.out.1, KN.out.2⟩
            case measure => simp [intOf]; omega
          · have hj3 : j = un := by omega
            obtain ⟨y, e2, hy, q2⟩ := (HRB.out.bw hbw).2 k (by have := HB.out.1; omega)
            obtain ⟨r, w8, hr1, hr2, E8, b8⟩ := Sv.run Sv.iSub sx y wr
            rw [HS.out, q2, hj3] at hr2
            have HN : Hid (Fl.bitsF (Sv.mx o (Fl.rg r)) = Sv.offV un A X b (k + 1) ∧ Sv.mx o (Fl.rg r) < 18446744073709551616) := by
              refine ⟨?_, Sv.mx_lt ho (by have := Fl.rg_lt r; omega)⟩
              rw [Sv.mx_c, Sv.ab_c, hr2, HQ.out]
              rfl
            have KX := Sv.hid (And.intro (hbx.bw b8) (bw_trans hbw b8))
            have hbk : (k : Int) < vn := by have := HB.out.1; omega
            have MX := Sv.hid (fun wz => max14 o (Fl.rg r) wz ho (by have := Fl.rg_lt r; omega))
            have AB := Sv.hid (fun wz => abs_any r wz hr1)
            clear hbx hbw b8 hr2 q2
            subst hj3
            go_wp2_with fail
            refine (AB.out _).mono ?_
            rintro e' w9 ⟨rfl, hw9⟩
            subst hw9
            go_wp2_with fail
            refine (MX.out _).mono ?_
            rintro e' w9 ⟨rfl, hw9⟩
            subst hw9
            clear AB MX E8 e2
            generalize Sv.mx o (Fl.rg r) = mm at HN ⊢
            go_wp2
            go_roundw
            case rel => exact ⟨k + 1, mm, by omega, by simp, rfl, HN.out.2, HN.out.1, KX.out.1, KX.out.2⟩
            case measure => simp [intOf]; omega
      · have hk3 : k = un := by omega
        have c5 := hbx.2.2.2.2.2
        have FI := Sv.hid (fun wz => isfin14 o wz ho)
        rw [← Sv.fin_c o, HQ.out] at FI
        rw [hk3] at FI HQ
        have KX := Sv.hid hbw
        subst hk3
        generalize hfi : Fl.finB (Sv.offV k A X b k) = fi at FI HE
        clear hfi hbx hbw
        cases fi
        · have HD3 : Hid (Sv.offE k l A k X vn b = 6 ∧ Sv.offX k l A k X vn b = 0) := HE.out
          go_wp2_with fail
          refine (FI.out _).mono ?_
          rintro e' w9 ⟨rfl, hw9⟩
          subst hw9
          go_wp2
          go_ret2
          exact ⟨0, by rw [HD3.out.1]; rfl, by decide, by rw [HD3.out.2]; decide, KX.out⟩
        · have HD3 : Hid (Sv.offE k l A k X vn b = 0 ∧ Sv.offX k l A k X vn b = Sv.offV k A X b k) := HE.out
          go_wp2_with fail
          refine (FI.out _).mono ?_
          rintro e' w9 ⟨rfl, hw9⟩
          subst hw9
          go_wp2
          go_ret2
          exact ⟨o, by rw [HD3.out.1]; rfl, ho, by rw [HD3.out.2]; exact HQ.out, KX.out⟩
  · have HE : Hid (Sv.offE n l A nx X nb b = Sv.chkA n l A 2 (Sv.two nx nb) (Sv.two X b) ∧ Sv.offX n l A nx X nb b = 0) := by
      show _ ∧ _
      unfold Sv.offE Sv.offX Sv.offK
      rw [if_neg z, if_neg z]
      exact ⟨rfl, rfl⟩
    have z2 : (Sv.chkA n l A 2 (Sv.two nx nb) (Sv.two X b) == 0) = false := by rw [beq_eq_false_iff_ne]; exact z
    clear z
    go_wp2
    go_ret2
    exact ⟨0, by rw [HE.out.1]; rfl, by decide, by rw [HE.out.2]; decide, HX.out.2⟩
end Go.Proofs.Ytjfkdmddfeeheaa
/-
  OWN TEXT: rows of rows that grow by append; small systems that are written out.
-/
namespace Go.Proofs.Ytjfkdmddfeeheaa
open Go.ChangeShapes Go.WideShapes Go.ChangeAt Go.RowKit
set_option linter.unusedVariables false
attribute [local go_sem] frombits_call tobits_call run_neg

namespace Sv
/-- the slice v owns n rows of m floats, each in a block of its own -/
structure Mg (w : World) (base : Nat) (v : Value) (n m c : Nat) (f : Nat → Nat) (A : M) : Prop where
  own : w.ownsRow base 24 1 v n ((List.range n).map fun i => .slice (some ⟨f i, 0, none⟩) m c)
  row : ∀ i, i < n → Rw w base (f i) m c (A i)
  far : ∀ i, i < n → some (f i) ≠ v.ownBlock
  inj : ∀ i j, i < n → j < n → f i = f j → i = j
theorem Mg.nil (w : World) (base m c : Nat) (f : Nat → Nat) (A : M) : Mg w base (.slice none 0 0) 0 m c f A :=
  ⟨World.ownsRow_nil _ _ _ _, fun i hi => absurd hi (by omega), fun i hi => absurd hi (by omega), fun i j hi => absurd hi (by omega)⟩
theorem Mg.gb {w w' : World} {base n m c : Nat} {v : Value} {f : Nat → Nat} {A : M} {r : Option Nat} (h : Mg w base v n m c f A) (k : w.grownBy w' r) (hv : v.ownBlock = none ∨ v.ownBlock ≠ r) (hf : ∀ i, i < n → some (f i) ≠ r) : Mg w' base v n m c f A :=
  ⟨h.own.kept k hv, fun i hi => (h.row i hi).gb k (hf i hi), h.far, h.inj⟩
theorem Mg.bw {w w' : World} {base n m c : Nat} {v : Value} {f : Nat → Nat} {A : M} (h : Mg w base v n m c f A) (k : Bw w w') : Mg w' base v n m c f A :=
  h.gb (gb_bw k none) (by cases v.ownBlock <;> simp) (fun i _ => by simp)
theorem Mg.ext {w : World} {base n m c : Nat} {v : Value} {f : Nat → Nat} {A A' : M} (h : Mg w base v n m c f A) (e : ∀ i j, i < n → j < m → A i j = A' i j) : Mg w base v n m c f A' :=
  ⟨h.own, fun i hi => (h.row i hi).ext (fun j hj => e i j hi hj), h.far, h.inj⟩
/-- one more row was appended -/
theorem Mg.next {w w' : World} {base k m c g N : Nat} {v v' : Value} {f : Nat → Nat} {A : M} {F : Nat → Nat} (h : Mg w base v k m c f A) (hr : Rw w base g m c F) (hg : some g ≠ v.ownBlock) (hgf : ∀ i, i < k → f i ≠ g)
    (hown : w'.ownsRow base 24 1 v' (k + 1) (((List.range k).map fun i => .slice (some ⟨f i, 0, none⟩) m c) ++ [.slice (some ⟨g, 0, none⟩) m c])) (hgrow : w.grownBy w' v.ownBlock) (hat : v.ownBlock = v'.ownBlock ∨ v'.ownBlock = some N) (hN : w.heap.size ≤ N) :
    Mg w' base v' (k + 1) m c (fun i => if i = k then g else f i) (fun i => if i = k then F else A i) := by
  have key : ∀ x, x < w.heap.size → some x ≠ v.ownBlock → some x ≠ v'.ownBlock := fun x hx hne e => by
    rcases hat with q | q
    · rw [q] at hne; exact hne e
    · rw [q] at e; cases e; omega
  refine ⟨?_, fun i hi => ?_, fun i hi => ?_, fun i j hi hj e => ?_⟩
  · rw [List.range_succ, List.map_append]
    have e1 : ((List.range k).map fun i => Value.slice (some ⟨if i = k then g else f i, 0, none⟩) m c) = (List.range k).map fun i => Value.slice (some ⟨f i, 0, none⟩) m c :=
      List.map_congr_left fun i hi => by rw [if_neg (by have := List.mem_range.1 hi; omega)]
    rw [e1]
    simp only [List.map_cons, List.map_nil, if_true]
    exact hown
  · by_cases e : i = k
    · simp only [e, if_true]; exact hr.gb hgrow hg
    · simp only [if_neg e]; exact (h.row i (by omega)).gb hgrow (h.far i (by omega))
  · by_cases e : i = k
    · simp only [e, if_true]; exact key g hr.lt.2 hg
    · simp only [if_neg e]; exact key _ (h.row i (by omega)).lt.2 (h.far i (by omega))
  · by_cases a : i = k <;> by_cases b : j = k
    · omega
    · simp only [a, if_true, if_neg b] at e; exact absurd e.symm (hgf j (by omega))
    · simp only [b, if_true, if_neg a] at e; exact absurd e (hgf i (by omega))
    · simp only [if_neg a, if_neg b] at e; exact h.inj i j (by omega) (by omega) e
theorem Rw.mle {w : World} {base B n c : Nat} {F : Nat → Nat} (h : Rw w base B n c F) : n ≤ c := by
  obtain ⟨X, ho, _⟩ := h
  rcases ho.2 with ⟨q, _⟩ | ⟨g, cap, cur, q, _, _, l, _⟩
  · simp at q
  · simp only [Value.slice.injEq, true_and] at q
    omega
theorem Mg.lm {w : World} {base n m c : Nat} {v : Value} {f : Nat → Nat} {A : M} (h : Mg w base v n m c f A) : Lm w v n (fun _ => m) A := by
  by_cases h0 : n = 0
  · subst h0
    rcases h.own.2 with ⟨e, _⟩ | ⟨g, cap, cur, e, hb, hg, hc, _⟩
    · exact Or.inl ⟨by rw [e]; exact Sv.emp.nil, rfl⟩
    · exact Or.inr ⟨g, 0, cap, e, hc, by have := h.own.lt g (by rw [e]; rfl); omega, fun i hi => absurd hi (by omega)⟩
  · obtain ⟨g, cap, e, hb, hlt⟩ := h.own.form (by omega)
    subst e
    have hc : n ≤ cap := by
      rcases h.own.2 with ⟨q, _⟩ | ⟨g', cap', cur, q, _, _, l, _⟩
      · simp at q
      · simp only [Value.slice.injEq, true_and] at q
        omega
    refine Or.inr ⟨g, 0, cap, rfl, hc, hlt, fun i hi => ?_⟩
    refine ⟨.slice (some ⟨f i, 0, none⟩) m c, ?_, Or.inr ⟨f i, 0, c, rfl, (h.row i hi).mle, (h.row i hi).rd⟩⟩
    rw [Nat.zero_add, h.own.cellAt i (by omega)]
    simp [hi]
theorem Lm.ext {w : World} {v : Value} {n : Nat} {l l' : Nat → Nat} {A A' : M} (h : Lm w v n l A) (hl : ∀ i, i < n → l i = l' i) (e : ∀ i j, i < n → j < l i → A i j = A' i j) : Lm w v n l' A' := by
  rcases h with h | ⟨b, o, c, e1, hc, hb, h⟩
  · exact Or.inl h
  · refine Or.inr ⟨b, o, c, e1, hc, hb, fun i hi => ?_⟩
    obtain ⟨r, q, z⟩ := h i hi
    rw [← hl i hi]
    exact ⟨r, q, z.ext (fun j hj => e i j hi hj)⟩
/-- a list that is written out -/
def lst (l : List Nat) : Nat → Nat := fun j => Fl.bitsF (l.getD j 0)
theorem Ls.lit (w : World) (l : List Nat) (t : TypeId) (hl : ∀ x ∈ l, x < 18446744073709551616) : Ls (w.alloc (.cells (l.map fun x => Value.float .f64 x).toArray t)) (.slice (some ⟨w.heap.size, 0, none⟩) l.length l.length) l.length (lst l) := by
  refine Or.inr ⟨w.heap.size, 0, l.length, rfl, Nat.le_refl _, by simp, fun j hj => ⟨l[j], ?_, hl _ (List.getElem_mem hj), ?_⟩⟩
  · rw [Nat.zero_add]
    simp [hj]
  · unfold lst
    simp [List.getD, hj]
end Sv
end Go.Proofs.Ytjfkdmddfeeheaa
