/-
  OWN TEXT: what the method set of package eddybig's fractions does: the fraction, made smaller by a common divisor.
-/
import Derived.Test.YtpfaaimfembhdaaJBgOToBgT
import Derived.Deep.RegionHeld
import Derived.Test.YtpfaaimfembhdaaJFlCToFlG
import Derived.Test.YtpfaaimfembhdaaJFnToFnStairs
namespace Go.Proofs.Ytpfaaimfembhdaa
open Go.ChangeShapes Go.WideShapes Go.ChangeAt Go.RowKit
open Bg
set_option linter.unusedVariables false
/-- what a call leaves that has set the fraction at block B to N by M, m telling whether it is below nought -/
def Sd (w : World) (B : Nat) (m : Bool) (N M : Nat) (e : Ending) (w' : World) : Prop :=
  ∃ w1 xv yv A D, e = .returned (.pointer (some ⟨B, 0, none⟩)) ∧ Fr w w1 ∧ Nm w1 xv A ∧ Nm w1 yv D ∧ w' = st w1 B (m && decide (A ≠ 0)) xv yv ∧ A * M = N * den D ∧ A ≤ N ∧ den D ≤ M
theorem red_div (N M G : Nat) (h1 : G ∣ N) (h2 : G ∣ M) (hN : 0 < N) (hM : 0 < M) : N / G * M = N * den (M / G) ∧ N / G ≤ N ∧ den (M / G) ≤ M ∧ N / G ≠ 0 := by
  obtain ⟨a, rfl⟩ := h1
  obtain ⟨b, rfl⟩ := h2
  have hG : 0 < G := by
    rcases Nat.eq_zero_or_pos G with h | h
    · subst h; simp at hN
    · exact h
  have hb : 0 < b := by
    rcases Nat.eq_zero_or_pos b with h | h
    · subst h; simp at hM
    · exact h
  have ha : 0 < a := by
    rcases Nat.eq_zero_or_pos a with h | h
    · subst h; simp at hN
    · exact h
  rw [Nat.mul_div_cancel_left _ hG, Nat.mul_div_cancel_left _ hG]
  have e : den b = b := by unfold den; rw [if_neg (by omega)]
  rw [e]
  refine ⟨by grind, Nat.le_mul_of_pos_left _ hG, Nat.le_mul_of_pos_left _ hG, by omega⟩
set_option maxHeartbeats 8000000 in
set_option maxRecDepth 100000 in
theorem rset_any (B : Nat) (m : Bool) (av dv : Value) (N M : Nat) (s0 : Bool) (A0 D0 : Nat) (w : World) (hz : Rt w B s0 A0 D0) (ha : Nm w av N) (hd : Nm w dv M) (hM : 0 < M) (hNl : N.log2 < 32000000) (hMl : M.log2 < 32000000) :
    Calls Try.prog 46 #[.pointer (some ⟨B, 0, none⟩), .bool m, av, dv] w fun e w' => Sd w B m N M e w' := by
  obtain ⟨z1, hz1, hz2⟩ := hz.c1
  obtain ⟨z2, hz3, hz4⟩ := hz.c2
  have hz0 := hz.c0
  have f2 := hz.nw.2.2 2
  have hnw := hz.nw
  -- the end: the words xv, yv are set
  have fin : ∀ w1 xv yv A D, Fr w w1 → Nm w1 xv A → Nm w1 yv D → A * M = N * den D → A ≤ N → den D ≤ M →
      Calls Try.prog 60 #[.pointer (some ⟨B, 0, none⟩), .bool m, xv] w1 fun e w' => e = .returned (.pointer (some ⟨B, 0, none⟩)) ∧ w' = (w1.setCell ⟨B, 1, none⟩ xv).setCell ⟨B, 0, none⟩ (.bool (m && decide (A ≠ 0))) ∧ (∃ u, w'.cell? ⟨B, 2, none⟩ = some u) ∧ w'.frozen? ⟨B, 2, none⟩ = false ∧ Sd w B m N M e (w'.setCell ⟨B, 2, none⟩ yv) := by
    intro w1 xv yv A D hf hx hy e1 e2 e3
    have g := hz.mono hf
    obtain ⟨y1, hy1, hy2⟩ := g.c1
    obtain ⟨y2, hy3, hy4⟩ := g.c2
    refine (iset_any B m xv A w1 g.nw hx _ _ g.c0 hy1).mono ?_
    rintro e w' ⟨rfl, rfl⟩
    refine ⟨rfl, rfl, ⟨y2, ?_⟩, ?_, ?_⟩
    · rw [World.cell?_setCell_other _ _ _ _ (by intro k; cases k), World.cell?_setCell_other _ _ _ _ (by intro k; cases k)]
      exact hy3
    · rw [World.frozen?_setCell, World.frozen?_setCell]; exact g.nw.2.2 2
    · exact ⟨w1, xv, yv, A, D, rfl, hf, hx, hy, rfl, e1, e2, e3⟩
  have FIN : Hid _ := fin
  clear fin
  by_cases hN : N = 0
  · subst hN
    obtain ⟨a, n, c, rfl, hn⟩ := nm_slice ha
    have hn0 : n = 0 := hn.2 rfl
    subst hn0
    go_enter Try.func46, Try.ntmps46
    go_wp2_with fail
    refine (trim_same _ 0 _ ha).mono ?_
    rintro e w1 ⟨rfl, rfl⟩
    go_wp2_with fail
    refine (trim_same _ M _ hd).mono ?_
    rintro e w2 ⟨rfl, rfl⟩
    go_wp2_with fail
    refine (iset_any B false _ 0 _ hnw (nm_nil _) _ _ hz0 hz1).mono ?_
    rintro e w3 ⟨rfl, rfl⟩
    have hc2 : ((w2.setCell ⟨B, 1, none⟩ (.slice none 0 0)).setCell ⟨B, 0, none⟩ (.bool (false && decide ((0 : Nat) ≠ 0)))).cell? ⟨B, 2, none⟩ = some z2 := by
      rw [World.cell?_setCell_other _ _ _ _ (by intro k; cases k), World.cell?_setCell_other _ _ _ _ (by intro k; cases k)]
      exact hz3
    have hf2 : ((w2.setCell ⟨B, 1, none⟩ (.slice none 0 0)).setCell ⟨B, 0, none⟩ (.bool (false && decide ((0 : Nat) ≠ 0)))).frozen? ⟨B, 2, none⟩ = false := by
      rw [World.frozen?_setCell, World.frozen?_setCell]; exact f2
    go_wp2
    go_ret
    refine ⟨w2, .slice none 0 0, .slice none 0 0, 0, 0, rfl, Fr.refl _, nm_nil _, nm_nil _, ?_, by simp, by omega, by unfold den; simp; omega⟩
    cases m <;> rfl
  · obtain ⟨a, n, c, rfl, hn⟩ := nm_slice ha
    have hn0 : n ≠ 0 := mt hn.1 hN
    have hn0I : (n : Int) ≠ 0 := by omega
    have hn0B : ((n : Int) == 0) = false := beq_eq_false_iff_ne.2 hn0I
    have hNp : 0 < N := by omega
    have hMd : den M = M := by unfold den; rw [if_neg (by omega)]
    have HSK : Hid (N * M = N * den M ∧ N ≤ N ∧ den M ≤ M) := by rw [hMd]; exact ⟨rfl, Nat.le_refl _, Nat.le_refl _⟩
    have hd' := hd
    rcases nm_one hd with ⟨b, o, cc, rfl, hcell, hc1, hc2, hb, hMw⟩ | ⟨a', n', c', rfl, hn', hM1, hc1, hc2⟩
    · by_cases hM1 : M = 1
      · have hM1I : (M : Int) = 1 := by omega
        go_enter Try.func46, Try.ntmps46
        go_wp2_with fail
        refine (trim_same _ N _ ha).mono ?_
        rintro e w1 ⟨rfl, rfl⟩
        go_wp2_with fail
        refine (trim_same _ M _ hd').mono ?_
        rintro e w2 ⟨rfl, rfl⟩
        go_wp2_with fail
        refine (FIN.out _ _ _ N M (Fr.refl _) ha hd' HSK.out.1 HSK.out.2.1 HSK.out.2.2).mono ?_
        rintro e wq ⟨rfl, hwq, ⟨uq, huq⟩, hfq, hsq⟩
        clear hwq
        go_wp2
        go_ret
        exact hsq
      · have hM1I : (M : Int) ≠ 1 := by omega
        have hM1B : ((M : Int) == 1) = false := beq_eq_false_iff_ne.2 hM1I
        go_enter Try.func46, Try.ntmps46
        go_wp2_with fail
        refine (trim_same _ N _ ha).mono ?_
        rintro e w1 ⟨rfl, rfl⟩
        go_wp2_with fail
        refine (trim_same _ M _ hd').mono ?_
        rintro e w2 ⟨rfl, rfl⟩
        go_wp2_with fail
        refine (common_any _ _ N M _ ha hd' hNl hMl hNp).mono ?_
        rintro e w3 ⟨gv, G, rfl, hg, hG1, hG2, hf3⟩
        have ha3 := ha.mono hf3
        have hd3 := hd'.mono hf3
        have HR : Hid _ := red_div N M G hG1 hG2 hNp hM
        have hGp : 0 < G := by
          rcases Nat.eq_zero_or_pos G with h | h
          · subst h; obtain ⟨k, hk⟩ := hG1; simp at hk; omega
          · exact h
        rcases nm_one hg with ⟨gb, go, gc, rfl, hgc, g1, g2, hgb, hGw⟩ | ⟨ga, gn, gc, rfl, hgn, hG1', g1, g2⟩
        · by_cases hGe : G = 1
          · have hGeI : (G : Int) = 1 := by omega
            go_wp2_with fail
            refine (FIN.out _ _ _ N M hf3 ha3 hd3 HSK.out.1 HSK.out.2.1 HSK.out.2.2).mono ?_
            rintro e wq ⟨rfl, hwq, ⟨uq, huq⟩, hfq, hsq⟩
            clear hwq
            go_wp2
            go_ret
            exact hsq
          · have hGeI : (G : Int) ≠ 1 := by omega
            have hGeB : ((G : Int) == 1) = false := beq_eq_false_iff_ne.2 hGeI
            go_wp2_with fail
            refine (divWords_any _ _ N G _ ha3 hg hNl hGp).mono ?_
            rintro e w4 ⟨q1, r1, rfl, hq1, hr1, hf4⟩
            go_wp2_with fail
            refine (divWords_any _ _ M G _ (hd3.mono hf4) (hg.mono hf4) hMl hGp).mono ?_
            rintro e w5 ⟨q2, r2, rfl, hq2, hr2, hf5⟩
            obtain ⟨qa, qn, qc, rfl, _⟩ := nm_slice hq2
            go_wp2_with fail
            refine (FIN.out _ _ _ _ _ (hf3.trans (hf4.trans hf5)) (hq1.mono hf5) hq2 HR.out.1 HR.out.2.1 HR.out.2.2.1).mono ?_
            rintro e wq ⟨rfl, hwq, ⟨uq, huq⟩, hfq, hsq⟩
            clear hwq
            go_wp2
            go_ret
            exact hsq
        · have hgnI : (gn : Int) ≠ 1 := by omega
          have hgnB : ((gn : Int) == 1) = false := beq_eq_false_iff_ne.2 hgnI
          go_wp2_with fail
          refine (divWords_any _ _ N G _ ha3 hg hNl hGp).mono ?_
          rintro e w4 ⟨q1, r1, rfl, hq1, hr1, hf4⟩
          go_wp2_with fail
          refine (divWords_any _ _ M G _ (hd3.mono hf4) (hg.mono hf4) hMl hGp).mono ?_
          rintro e w5 ⟨q2, r2, rfl, hq2, hr2, hf5⟩
          obtain ⟨qa, qn, qc, rfl, _⟩ := nm_slice hq2
          go_wp2_with fail
          refine (FIN.out _ _ _ _ _ (hf3.trans (hf4.trans hf5)) (hq1.mono hf5) hq2 HR.out.1 HR.out.2.1 HR.out.2.2.1).mono ?_
          rintro e wq ⟨rfl, hwq, ⟨uq, huq⟩, hfq, hsq⟩
          clear hwq
          go_wp2
          go_ret
          exact hsq
    · have hn'I : (n' : Int) ≠ 1 := by omega
      have hn'B : ((n' : Int) == 1) = false := beq_eq_false_iff_ne.2 hn'I
      go_enter Try.func46, Try.ntmps46
      go_wp2_with fail
      refine (trim_same _ N _ ha).mono ?_
      rintro e w1 ⟨rfl, rfl⟩
      go_wp2_with fail
      refine (trim_same _ M _ hd').mono ?_
      rintro e w2 ⟨rfl, rfl⟩
      go_wp2_with fail
      refine (common_any _ _ N M _ ha hd' hNl hMl hNp).mono ?_
      rintro e w3 ⟨gv, G, rfl, hg, hG1, hG2, hf3⟩
      have ha3 := ha.mono hf3
      have hd3 := hd'.mono hf3
      have HR : Hid _ := red_div N M G hG1 hG2 hNp hM
      have hGp : 0 < G := by
        rcases Nat.eq_zero_or_pos G with h | h
        · subst h; obtain ⟨k, hk⟩ := hG1; simp at hk; omega
        · exact h
      rcases nm_one hg with ⟨gb, go, gc, rfl, hgc, g1, g2, hgb, hGw⟩ | ⟨ga, gn, gc, rfl, hgn, hG1', g1, g2⟩
      · by_cases hGe : G = 1
        · have hGeI : (G : Int) = 1 := by omega
          go_wp2_with fail
          refine (FIN.out _ _ _ N M hf3 ha3 hd3 HSK.out.1 HSK.out.2.1 HSK.out.2.2).mono ?_
          rintro e wq ⟨rfl, hwq, ⟨uq, huq⟩, hfq, hsq⟩
          clear hwq
          go_wp2
          go_ret
          exact hsq
        · have hGeI : (G : Int) ≠ 1 := by omega
          have hGeB : ((G : Int) == 1) = false := beq_eq_false_iff_ne.2 hGeI
          go_wp2_with fail
          refine (divWords_any _ _ N G _ ha3 hg hNl hGp).mono ?_
          rintro e w4 ⟨q1, r1, rfl, hq1, hr1, hf4⟩
          go_wp2_with fail
          refine (divWords_any _ _ M G _ (hd3.mono hf4) (hg.mono hf4) hMl hGp).mono ?_
          rintro e w5 ⟨q2, r2, rfl, hq2, hr2, hf5⟩
          obtain ⟨qa, qn, qc, rfl, _⟩ := nm_slice hq2
          go_wp2_with fail
          refine (FIN.out _ _ _ _ _ (hf3.trans (hf4.trans hf5)) (hq1.mono hf5) hq2 HR.out.1 HR.out.2.1 HR.out.2.2.1).mono ?_
          rintro e wq ⟨rfl, hwq, ⟨uq, huq⟩, hfq, hsq⟩
          clear hwq
          go_wp2
          go_ret
          exact hsq
      · have hgnI : (gn : Int) ≠ 1 := by omega
        have hgnB : ((gn : Int) == 1) = false := beq_eq_false_iff_ne.2 hgnI
        go_wp2_with fail
        refine (divWords_any _ _ N G _ ha3 hg hNl hGp).mono ?_
        rintro e w4 ⟨q1, r1, rfl, hq1, hr1, hf4⟩
        go_wp2_with fail
        refine (divWords_any _ _ M G _ (hd3.mono hf4) (hg.mono hf4) hMl hGp).mono ?_
        rintro e w5 ⟨q2, r2, rfl, hq2, hr2, hf5⟩
        obtain ⟨qa, qn, qc, rfl, _⟩ := nm_slice hq2
        go_wp2_with fail
        refine (FIN.out _ _ _ _ _ (hf3.trans (hf4.trans hf5)) (hq1.mono hf5) hq2 HR.out.1 HR.out.2.1 HR.out.2.2.1).mono ?_
        rintro e wq ⟨rfl, hwq, ⟨uq, huq⟩, hfq, hsq⟩
        clear hwq
        go_wp2
        go_ret
        exact hsq
end Go.Proofs.Ytpfaaimfembhdaa
/-
  OWN TEXT: what the methods below, Sign, Cmp of package eddybig's fractions return; sums of its whole numbers.
-/
namespace Go.Proofs.Ytpfaaimfembhdaa
open Go.ChangeShapes Go.WideShapes Go.ChangeAt Go.RowKit
open Bg
set_option linter.unusedVariables false
def sv (s : Bool) (A : Nat) : Int := if s then -(A : Int) else A
def sgI (s : Bool) (A : Nat) : Int := if A = 0 then 0 else if s then -1 else 1
def crI (x y : Int) : Int := if x < y then -1 else if x = y then 0 else 1
theorem nm_ones (w : World) : Nm (w.alloc (.cells #[.int .u32 1] 70)) (.slice (some ⟨w.heap.size, 0, none⟩) 1 1) 1 := by
  refine ⟨_, [1], 1, rfl, Nat.le_refl _, by omega, Or.inr ⟨w.heap.size, 0, rfl, by simp, fun i hi => ?_⟩, ?_, by simp [vL], by simp [tn]⟩
  · have : i = 0 := by simpa using hi
    subst this
    simp
  · intro i
    rcases i with _ | i <;> simp
set_option maxHeartbeats 4000000 in
theorem below_any (B : Nat) (s : Bool) (A D : Nat) (w : World) (h : Rt w B s A D) :
    Calls Try.prog 38 #[.pointer (some ⟨B, 0, none⟩)] w fun e w' => ∃ v, e = .returned v ∧ Nm w' v (den D) ∧ Fr w w' := by
  obtain ⟨v, h1, h2⟩ := h.c2
  obtain ⟨a, n, c, rfl, hn⟩ := nm_slice h2
  by_cases hD : D = 0
  · have hn0 : n = 0 := hn.2 hD
    subst hn0
    subst hD
    go_enter Try.func38, Try.ntmps38
    go_wp2
    go_ret
    refine ⟨_, rfl, ?_, (Fr.refl _).alloc _ _⟩
    exact nm_ones w
  · have hn0 : (n : Int) ≠ 0 := by have := mt hn.1 hD; omega
    have hn0B : ((n : Int) == 0) = false := beq_eq_false_iff_ne.2 hn0
    go_enter Try.func38, Try.ntmps38
    go_wp2
    go_ret
    refine ⟨_, rfl, ?_, Fr.refl _⟩
    rw [show den D = D by unfold den; rw [if_neg hD]]
    exact h2
theorem isign_any (B : Nat) (s : Bool) (A : Nat) (w : World) (v : Value) (h0 : w.cell? ⟨B, 0, none⟩ = some (.bool s)) (h1 : w.cell? ⟨B, 1, none⟩ = some v) (h2 : Nm w v A) :
    Calls Try.prog 40 #[.pointer (some ⟨B, 0, none⟩)] w fun e w' => e = .returned (.int .i64 (sgI s A)) ∧ w' = w := by
  obtain ⟨a, n, c, rfl, hn⟩ := nm_slice h2
  by_cases hD : A = 0
  · have hn0 : n = 0 := hn.2 hD
    subst hn0
    subst hD
    go_enter Try.func40, Try.ntmps40
    go_wp2
    go_ret
    exact ⟨rfl, rfl⟩
  · have hn0 : (n : Int) ≠ 0 := by have := mt hn.1 hD; omega
    have hn0B : ((n : Int) == 0) = false := beq_eq_false_iff_ne.2 hn0
    cases s
    all_goals
      go_enter Try.func40, Try.ntmps40
      go_wp2
      go_ret
      exact ⟨by unfold sgI; rw [if_neg hD]; rfl, rfl⟩
theorem sign_any (B : Nat) (s : Bool) (A D : Nat) (w : World) (h : Rt w B s A D) :
    Calls Try.prog 14 #[.pointer (some ⟨B, 0, none⟩)] w fun e w' => e = .returned (.int .i64 (sgI s A)) ∧ w' = w := by
  obtain ⟨v, h1, h2⟩ := h.c1
  go_enter Try.func14, Try.ntmps14
  go_wp2_with fail
  refine (isign_any B s A _ v h.c0 h1 h2).mono ?_
  rintro e w1 ⟨rfl, rfl⟩
  go_wp2
  go_ret
  exact ⟨rfl, rfl⟩
theorem sgI_cases (s : Bool) (A : Nat) : (sgI s A = -1 ∧ A ≠ 0 ∧ s = true) ∨ (sgI s A = 0 ∧ A = 0) ∨ (sgI s A = 1 ∧ A ≠ 0 ∧ s = false) := by
  unfold sgI
  by_cases h : A = 0
  · simp [h]
  · cases s <;> simp [h]
theorem log2_mul (a b : Nat) : (a * b).log2 ≤ a.log2 + b.log2 + 1 := by
  by_cases z : a * b = 0
  · rw [z]; simp
  · have h1 := Nat.lt_log2_self (n := a)
    have h2 := Nat.lt_log2_self (n := b)
    have h3 : a * b < 2 ^ (a.log2 + 1) * 2 ^ (b.log2 + 1) := Nat.mul_lt_mul_of_lt_of_lt h1 h2
    rw [← Nat.pow_add] at h3
    have := (Nat.log2_lt z).2 h3
    omega
theorem cr_lt (s t : Bool) (A E d f : Nat) (hd : 0 < d) (hf : 0 < f) (h : sgI s A < sgI t E) : crI (sv s A * f) (sv t E * d) = -1 := by
  have : sv s A * f < sv t E * d := by
    rcases sgI_cases s A with ⟨a, b, c⟩ | ⟨a, b⟩ | ⟨a, b, c⟩ <;> rcases sgI_cases t E with ⟨a', b', c'⟩ | ⟨a', b'⟩ | ⟨a', b', c'⟩ <;> rw [a, a'] at h <;> (try omega)
    · subst b' c
      have := Nat.mul_pos (Nat.pos_of_ne_zero b) hf
      have e1 : sv true A * (f : Int) = -((A * f : Nat) : Int) := by simp [sv, Int.neg_mul]
      have e2 : sv t 0 * (d : Int) = 0 := by cases t <;> simp [sv]
      rw [e1, e2]; omega
    · subst c c'
      have := Nat.mul_pos (Nat.pos_of_ne_zero b) hf
      have := Nat.mul_pos (Nat.pos_of_ne_zero b') hd
      have e1 : sv true A * (f : Int) = -((A * f : Nat) : Int) := by simp [sv, Int.neg_mul]
      have e2 : sv false E * (d : Int) = ((E * d : Nat) : Int) := by simp [sv]
      rw [e1, e2]; omega
    · subst b c'
      have := Nat.mul_pos (Nat.pos_of_ne_zero b') hd
      have e2 : sv false E * (d : Int) = ((E * d : Nat) : Int) := by simp [sv]
      rw [e2]; simp [sv]; omega
  unfold crI
  rw [if_pos this]
theorem crI_swap (x y : Int) : crI x y = - crI y x := by
  unfold crI
  split <;> (try split) <;> (try split) <;> omega
theorem cr_gt (s t : Bool) (A E d f : Nat) (hd : 0 < d) (hf : 0 < f) (h : sgI t E < sgI s A) : crI (sv s A * f) (sv t E * d) = 1 := by
  rw [crI_swap, cr_lt t s E A f d hf hd h]; rfl
theorem cr_no (s t : Bool) (d f : Nat) : crI (sv s 0 * f) (sv t 0 * d) = 0 := by
  have : sv s 0 = 0 := by cases s <;> rfl
  have h2 : sv t 0 = 0 := by cases t <;> rfl
  rw [this, h2]; simp [crI]
theorem cr_same (s : Bool) (A E d f : Nat) : crI (sv s A * f) (sv s E * d) = if s then - cmpI (A * f) (E * d) else cmpI (A * f) (E * d) := by
  cases s
  · have e1 : sv false A * (f : Int) = ((A * f : Nat) : Int) := by simp [sv]
    have e2 : sv false E * (d : Int) = ((E * d : Nat) : Int) := by simp [sv]
    rw [e1, e2]
    unfold crI cmpI
    generalize A * f = a
    generalize E * d = b
    simp only [Bool.false_eq_true, if_false]
    split <;> (try split) <;> (try split) <;> (try split) <;> omega
  · have e1 : sv true A * (f : Int) = -((A * f : Nat) : Int) := by simp [sv, Int.neg_mul]
    have e2 : sv true E * (d : Int) = -((E * d : Nat) : Int) := by simp [sv, Int.neg_mul]
    rw [e1, e2]
    unfold crI cmpI
    generalize A * f = a
    generalize E * d = b
    simp only [if_true]
    split <;> (try split) <;> (try split) <;> (try split) <;> omega
set_option maxHeartbeats 8000000 in
theorem cmp_any (B C : Nat) (s t : Bool) (A D E F : Nat) (w : World) (h : Rt w B s A D) (k : Rt w C t E F) (hA : A.log2 < 32000000) (hD : (den D).log2 < 32000000) (hE : E.log2 < 32000000) (hF : (den F).log2 < 32000000) :
    Calls Try.prog 12 #[.pointer (some ⟨B, 0, none⟩), .pointer (some ⟨C, 0, none⟩)] w fun e w' => e = .returned (.int .i64 (crI (sv s A * den F) (sv t E * den D))) ∧ Fr w w' := by
  obtain ⟨v, h1, h2⟩ := h.c1
  obtain ⟨u, k1, k2⟩ := k.c1
  have h0 := h.c0
  have k0 := k.c0
  have S1 : Hid (Calls Try.prog 14 #[.pointer (some ⟨B, 0, none⟩)] w fun e w' => e = .returned (.int .i64 (sgI s A)) ∧ w' = w) := sign_any B s A D w h
  have S2 : Hid (Calls Try.prog 14 #[.pointer (some ⟨C, 0, none⟩)] w fun e w' => e = .returned (.int .i64 (sgI t E)) ∧ w' = w) := sign_any C t E F w k
  have HLT : Hid _ := cr_lt s t A E (den D) (den F) (den_pos _) (den_pos _)
  have HGT : Hid _ := cr_gt s t A E (den D) (den F) (den_pos _) (den_pos _)
  by_cases hc : sgI s A ≠ sgI t E ∨ sgI s A = 0
  · have HR : Hid (crI (sv s A * den F) (sv t E * den D) = if sgI s A < sgI t E then -1 else if sgI t E < sgI s A then 1 else 0) := by
      show _ = _
      split
      · next c => exact HLT.out c
      · split
        · next c => exact HGT.out c
        · have e1 : sgI s A = 0 := by rcases hc with c | c <;> omega
          have e2 : sgI t E = 0 := by omega
          rcases sgI_cases s A with ⟨a, _⟩ | ⟨_, b⟩ | ⟨a, _⟩ <;> rcases sgI_cases t E with ⟨a', _⟩ | ⟨_, b'⟩ | ⟨a', _⟩ <;> (try omega)
          subst b b'
          exact cr_no _ _ _ _
    rw [HR.out]
    clear HLT HGT HR
    have hr1 : -1 ≤ sgI s A ∧ sgI s A ≤ 1 := by rcases sgI_cases s A with ⟨a, _⟩ | ⟨a, _⟩ | ⟨a, _⟩ <;> omega
    have hr2 : -1 ≤ sgI t E ∧ sgI t E ≤ 1 := by rcases sgI_cases t E with ⟨a, _⟩ | ⟨a, _⟩ | ⟨a, _⟩ <;> omega
    generalize sgI s A = x at *
    generalize sgI t E = y at *
    obtain ⟨r1, r2⟩ := hr1
    obtain ⟨r3, r4⟩ := hr2
    have hx : x = -1 ∨ x = 0 ∨ x = 1 := by omega
    have hy : y = -1 ∨ y = 0 ∨ y = 1 := by omega
    clear r1 r2 r3 r4
    rcases hx with rfl | rfl | rfl <;> rcases hy with rfl | rfl | rfl <;> (try (exfalso; omega))
    all_goals
      clear hc
      go_enter Try.func12, Try.ntmps12
      go_wp2_with (first
        | (go_at_call_of 14 B; refine S1.out.mono ?_; rintro e wq ⟨rfl, rfl⟩)
        | (go_at_call_of 14 C; refine S2.out.mono ?_; rintro e wq ⟨rfl, rfl⟩))
      go_ret
      exact ⟨rfl, Fr.refl _⟩
  · have e1 : sgI s A = sgI t E := by omega
    have e2 : sgI s A ≠ 0 := by omega
    have hst : s = t := by
      rcases sgI_cases s A with ⟨a, _, c⟩ | ⟨a, _⟩ | ⟨a, _, c⟩ <;> rcases sgI_cases t E with ⟨a', _, c'⟩ | ⟨a', _⟩ | ⟨a', _, c'⟩ <;> (try omega)
      · rw [c, c']
      · rw [c, c']
    subst hst
    rw [cr_same]
    rw [← e1] at S2
    have hr1 : sgI s A = if s then -1 else 1 := by
      rcases sgI_cases s A with ⟨a, _, c⟩ | ⟨a, _⟩ | ⟨a, _, c⟩
      · rw [a, c]; rfl
      · exact absurd a e2
      · rw [a, c]; rfl
    rw [hr1] at S1 S2
    clear HLT HGT hc e1 e2 hr1
    obtain ⟨va, vn, vc, rfl, _⟩ := nm_slice h2
    obtain ⟨ua, un, uc, rfl, _⟩ := nm_slice k2
    have CE : ∀ w', Fr w w' → w'.cell? ⟨B, 1, none⟩ = some (.slice va vn vc) ∧ w'.cell? ⟨C, 1, none⟩ = some (.slice ua un uc) ∧ w'.cell? ⟨B, 0, none⟩ = some (.bool s) := fun w' f =>
      ⟨(f.1.cell (p := ⟨B, 1, none⟩) h.nw.1).trans h1, (f.1.cell (p := ⟨C, 1, none⟩) k.nw.1).trans k1, (f.1.cell (p := ⟨B, 0, none⟩) h.nw.1).trans h0⟩
    have BL2 : Hid (∀ wz, Fr w wz → Calls Try.prog 38 #[.pointer (some ⟨C, 0, none⟩)] wz fun e w' => ∃ x, e = .returned x ∧ Nm w' x (den F) ∧ Fr wz w' ∧ Fr w w' ∧ w'.cell? ⟨B, 1, none⟩ = some (.slice va vn vc) ∧ w'.cell? ⟨C, 1, none⟩ = some (.slice ua un uc) ∧ w'.cell? ⟨B, 0, none⟩ = some (.bool s)) := by
      intro wz hz
      refine (below_any C s E F wz (k.mono hz)).mono ?_
      rintro e w' ⟨x, rfl, hx, hf⟩
      exact ⟨x, rfl, hx, hf, hz.trans hf, CE _ (hz.trans hf)⟩
    have BL1 : Hid (∀ wz, Fr w wz → Calls Try.prog 38 #[.pointer (some ⟨B, 0, none⟩)] wz fun e w' => ∃ x, e = .returned x ∧ Nm w' x (den D) ∧ Fr wz w' ∧ Fr w w' ∧ w'.cell? ⟨B, 1, none⟩ = some (.slice va vn vc) ∧ w'.cell? ⟨C, 1, none⟩ = some (.slice ua un uc) ∧ w'.cell? ⟨B, 0, none⟩ = some (.bool s)) := by
      intro wz hz
      refine (below_any B s A D wz (h.mono hz)).mono ?_
      rintro e w' ⟨x, rfl, hx, hf⟩
      exact ⟨x, rfl, hx, hf, hz.trans hf, CE _ (hz.trans hf)⟩
    have M1 : Hid (∀ wz v1, Fr w wz → Nm wz v1 (den F) → Calls Try.prog 37 #[.slice va vn vc, v1] wz fun e w' => ∃ x, e = .returned x ∧ Nm w' x (A * den F) ∧ Fr wz w' ∧ Fr w w' ∧ w'.cell? ⟨B, 1, none⟩ = some (.slice va vn vc) ∧ w'.cell? ⟨C, 1, none⟩ = some (.slice ua un uc) ∧ w'.cell? ⟨B, 0, none⟩ = some (.bool s)) := by
      intro wz v1 hz hm
      refine (mulWords_any _ v1 A (den F) wz (h2.mono hz) hm hA hF).mono ?_
      rintro e w' ⟨x, rfl, hx, hf⟩
      exact ⟨x, rfl, hx, hf, hz.trans hf, CE _ (hz.trans hf)⟩
    have M2 : Hid (∀ wz v1, Fr w wz → Nm wz v1 (den D) → Calls Try.prog 37 #[.slice ua un uc, v1] wz fun e w' => ∃ x, e = .returned x ∧ Nm w' x (E * den D) ∧ Fr wz w' ∧ Fr w w' ∧ w'.cell? ⟨B, 1, none⟩ = some (.slice va vn vc) ∧ w'.cell? ⟨C, 1, none⟩ = some (.slice ua un uc) ∧ w'.cell? ⟨B, 0, none⟩ = some (.bool s)) := by
      intro wz v1 hz hm
      refine (mulWords_any _ v1 E (den D) wz (k2.mono hz) hm hE hD).mono ?_
      rintro e w' ⟨x, rfl, hx, hf⟩
      exact ⟨x, rfl, hx, hf, hz.trans hf, CE _ (hz.trans hf)⟩
    have CM : Hid (∀ wz a b, Fr w wz → Nm wz a (A * den F) → Nm wz b (E * den D) → Calls Try.prog 36 #[a, b] wz fun e w' => e = .returned (.int .i64 (cmpI (A * den F) (E * den D))) ∧ Fr w w' ∧ w'.cell? ⟨B, 0, none⟩ = some (.bool s) ∧ w'.cell? ⟨B, 1, none⟩ = some (.slice va vn vc) ∧ w'.cell? ⟨C, 1, none⟩ = some (.slice ua un uc)) := by
      intro wz a b hz ha hb
      refine (cmpWords_any a b _ _ wz ha hb).mono ?_
      rintro e w' ⟨rfl, hf⟩
      exact ⟨rfl, hz.trans hf, (CE _ (hz.trans hf)).2.2, (CE _ (hz.trans hf)).1, (CE _ (hz.trans hf)).2.1⟩
    have hci : -1 ≤ cmpI (A * den F) (E * den D) ∧ cmpI (A * den F) (E * den D) ≤ 1 := by
      unfold cmpI; split
      · omega
      · split <;> omega
    generalize cmpI (A * den F) (E * den D) = ci at *
    generalize A * den F = x1 at *
    generalize E * den D = x2 at *
    obtain ⟨ci1, ci2⟩ := hci
    clear CE hA hD hE hF h k
    have hsg : ∃ σ : Int, σ = (if s then -1 else 1) ∧ ((σ == 0) = false) ∧ σ ≠ 0 := by cases s <;> exact ⟨_, rfl, rfl, by decide⟩
    obtain ⟨σ, hσ, hσ1, hσ2⟩ := hsg
    rw [← hσ] at S1 S2
    clear hσ
    go_enter Try.func12, Try.ntmps12
    go_wp2_with (first
      | (go_at_call_of 14 B; refine S1.out.mono ?_; rintro e wq ⟨rfl, rfl⟩)
      | (go_at_call_of 14 C; refine S2.out.mono ?_; rintro e wq ⟨rfl, rfl⟩))
    go_region_held (fun w' => w'.cell? ⟨B, 1, none⟩ = some (.slice va vn vc) ∧ w'.cell? ⟨C, 1, none⟩ = some (.slice ua un uc)) (go_keep) (first
      | (go_at_call_of 38 C; refine (BL2.out _ ?_).mono ?_; exact (Fr.refl _).drew; rintro e w1 ⟨b1, rfl, hb1, f1, f1', g11, g12, g13⟩)
      | (go_at_call_of 37 b1; refine (M1.out _ _ f1' hb1).mono ?_; rintro e w2 ⟨m1, rfl, hm1, f2, f2', g21, g22, g23⟩)
      | (go_at_call_of 38 B; refine (BL1.out _ f2').mono ?_; rintro e w3 ⟨b2, rfl, hb2, f3, f3', g31, g32, g33⟩)
      | (go_at_call_of 37 b2; refine (M2.out _ _ f3' hb2).mono ?_; rintro e w4 ⟨m2, rfl, hm2, f4, f4', g41, g42, g43⟩)
      | (go_at_call 36; refine (CM.out _ _ _ f4' ((hm1.mono f3).mono f4) hm2).mono ?_; rintro e w5 ⟨rfl, f5', g53, g51, g52⟩))
    all_goals cases s
    all_goals (try go_wp2)
    all_goals go_ret
    all_goals exact ⟨by simp, f5'⟩
end Go.Proofs.Ytpfaaimfembhdaa
/-
  OWN TEXT: what the methods added and Add of package eddybig's whole numbers do.
-/
namespace Go.Proofs.Ytpfaaimfembhdaa
open Go.ChangeShapes Go.WideShapes Go.ChangeAt Go.RowKit
open Bg
set_option linter.unusedVariables false
/-- a whole number lies at block B -/
structure Iv (w : World) (B : Nat) (s : Bool) (A : Nat) : Prop where
  nw : Nw w B
  c0 : w.cell? ⟨B, 0, none⟩ = some (.bool s)
  c1 : ∃ v, w.cell? ⟨B, 1, none⟩ = some v ∧ Nm w v A
theorem Iv.mono {w w' : World} {B : Nat} {s : Bool} {A : Nat} (h : Iv w B s A) (f : Fr w w') : Iv w' B s A := by
  have g : ∀ i, w'.cell? ⟨B, i, none⟩ = w.cell? ⟨B, i, none⟩ := fun i => f.1.cell (p := ⟨B, i, none⟩) h.nw.1
  obtain ⟨v, h1, h2⟩ := h.c1
  exact ⟨h.nw.mono f, (g 0).trans h.c0, ⟨v, (g 1).trans h1, h2.mono f⟩⟩
def siW (w : World) (B : Nat) (s : Bool) (x : Value) : World := (w.setCell ⟨B, 1, none⟩ x).setCell ⟨B, 0, none⟩ (.bool s)
theorem Fr.si {a b : World} (h : Fr a b) {B : Nat} (hB : a.heap.size ≤ B) (s : Bool) (x : Value) : Fr a (siW b B s x) :=
  (h.setCell (p := ⟨B, 1, none⟩) hB x).setCell (p := ⟨B, 0, none⟩) hB _
theorem Iv.si {w : World} {B : Nat} {s0 : Bool} {A0 : Nat} (h : Iv w B s0 A0) {x : Value} {A : Nat} (hx : Nm w x A) (s : Bool) : Iv (siW w B s x) B s A := by
  obtain ⟨v, h1, h2⟩ := h.c1
  obtain ⟨a, n, c, rfl, _⟩ := nm_slice hx
  have n1 := h.nw.set 1 (.slice a n c) v h1 (by intro x k; cases k)
  have e0 : (w.setCell ⟨B, 1, none⟩ (.slice a n c)).cell? ⟨B, 0, none⟩ = some (.bool s0) := (World.cell?_setCell_other _ _ _ _ (by intro k; cases k)).trans h.c0
  have e1 : (w.setCell ⟨B, 1, none⟩ (.slice a n c)).cell? ⟨B, 1, none⟩ = some (.slice a n c) := World.cell?_setCell_same _ _ _ h1
  have n2 := n1.set 0 (.bool s) _ e0 (by intro x k; cases k)
  exact ⟨n2, World.cell?_setCell_same _ _ _ e0, ⟨_, (World.cell?_setCell_other _ _ _ _ (by intro k; cases k)).trans e1, (hx.off h.nw _ _).off n1 _ _⟩⟩
/-- the number at B stays while another block is set -/
theorem Iv.other {w : World} {B C : Nat} {s t : Bool} {A E : Nat} (h : Iv w B s A) (k : Iv w C t E) (hne : B ≠ C) (s' : Bool) {x : Value} {X : Nat} (hx : Nm w x X) : Iv (siW w C s' x) B s A := by
  obtain ⟨v, h1, h2⟩ := h.c1
  obtain ⟨u, k1, k2⟩ := k.c1
  obtain ⟨a, n, c, rfl, _⟩ := nm_slice hx
  have n1 := k.nw.set 1 (.slice a n c) u k1 (by intro x k; cases k)
  have g : ∀ i, (siW w C s' (.slice a n c)).cell? ⟨B, i, none⟩ = w.cell? ⟨B, i, none⟩ := fun i =>
    (World.cell?_of_block (a := ⟨B, i, none⟩) (Below.heap_setCell _ _ _ _ hne)).trans (World.cell?_of_block (a := ⟨B, i, none⟩) (Below.heap_setCell _ _ _ _ hne))
  refine ⟨⟨by simpa [siW, World.setCell] using h.nw.1, fun i x => by rw [g]; exact h.nw.2.1 i x, fun i => by unfold siW; rw [World.frozen?_setCell, World.frozen?_setCell]; exact h.nw.2.2 i⟩, (g 0).trans h.c0, ⟨v, (g 1).trans h1, (h2.off k.nw _ _).off n1 _ _⟩⟩
theorem Nm.si {w : World} {C : Nat} {t : Bool} {E : Nat} {v : Value} {N : Nat} (h : Nm w v N) (k : Iv w C t E) (s' : Bool) {x : Value} {X : Nat} (hx : Nm w x X) : Nm (siW w C s' x) v N := by
  obtain ⟨u, k1, k2⟩ := k.c1
  obtain ⟨a, n, c, rfl, _⟩ := nm_slice hx
  exact (h.off k.nw _ _).off (k.nw.set 1 (.slice a n c) u k1 (by intro x k; cases k)) _ _
theorem log2_add (a b : Nat) (k : Nat) (ha : a.log2 < k) (hb : b.log2 < k) : (a + b).log2 < k + 1 := by
  have h1 := Nat.lt_log2_self (n := a)
  have h2 := Nat.lt_log2_self (n := b)
  have h3 : 2 ^ (a.log2 + 1) ≤ 2 ^ k := Nat.pow_le_pow_right (by omega) (by omega)
  have h4 : 2 ^ (b.log2 + 1) ≤ 2 ^ k := Nat.pow_le_pow_right (by omega) (by omega)
  refine log2_lt_of _ _ ?_ (by omega)
  rw [Nat.pow_succ]; omega
def Si (w : World) (B : Nat) (X : Int) (K : Nat) (e : Ending) (w' : World) : Prop :=
  ∃ w1 xv A s, e = .returned (.pointer (some ⟨B, 0, none⟩)) ∧ Fr w w1 ∧ Nm w1 xv A ∧ w' = siW w1 B s xv ∧ sv s A = X ∧ A ≤ K
theorem sv_and (s : Bool) (A : Nat) : sv (s && decide (A ≠ 0)) A = sv s A := by
  by_cases h : A = 0
  · subst h; cases s <;> rfl
  · simp [h]
set_option maxHeartbeats 4000000 in
theorem iadded_any (B : Nat) (v u : Value) (N M : Nat) (s t s0 : Bool) (A0 : Nat) (w : World) (hz : Iv w B s0 A0) (hv : Nm w v N) (hu : Nm w u M) (hN : N.log2 < 32000000) (hM : M.log2 < 32000000) :
    Calls Try.prog 73 #[.pointer (some ⟨B, 0, none⟩), v, .bool s, u, .bool t] w fun e w' => Si w B (sv s N + sv t M) (N + M) e w' := by
  have fin : ∀ w1 xv A m X, Fr w w1 → Nm w1 xv A → sv m A = X → A ≤ N + M → Calls Try.prog 60 #[.pointer (some ⟨B, 0, none⟩), .bool m, xv] w1 fun e w' => e = .returned (.pointer (some ⟨B, 0, none⟩)) ∧ Si w B X (N + M) e w' := by
    intro w1 xv A m X hf hx e1 e2
    have g := hz.mono hf
    obtain ⟨y1, hy1, hy2⟩ := g.c1
    refine (iset_any B m xv A w1 g.nw hx _ _ g.c0 hy1).mono ?_
    rintro e w' ⟨rfl, rfl⟩
    exact ⟨rfl, w1, xv, A, m && decide (A ≠ 0), rfl, hf, hx, rfl, by rw [sv_and]; exact e1, e2⟩
  have FIN : Hid _ := fin
  clear fin
  by_cases hst : s = t
  · subst hst
    have HE : Hid (sv s (N + M) = sv s N + sv s M) := by show _ = _; cases s <;> simp [sv] <;> omega
    generalize sv s N + sv s M = X at *
    go_enter Try.func73, Try.ntmps73
    go_wp2_with (first
      | (go_at_call 90; refine (addWords_any _ _ N M _ hv hu hN hM).mono ?_; rintro e w1 ⟨x, rfl, hx, hf1⟩)
      | (go_at_call 60; refine (FIN.out _ _ _ _ _ hf1 hx HE.out (Nat.le_refl _)).mono ?_; rintro e w2 ⟨rfl, hsi⟩))
    go_ret
    exact hsi
  · have hcm : (cmpI N M < 0 ∧ N < M) ∨ (¬ cmpI N M < 0 ∧ M ≤ N) := by
      unfold cmpI
      split
      · left; omega
      · split <;> (right; omega)
    have hst' : ∀ b : Bool, b = (s == t) → b = false := by intro b hb; rw [hb]; simpa using hst
    rcases hcm with ⟨hc, hlt⟩ | ⟨hc, hle⟩
    · have HE : Hid (sv t (M - N) = sv s N + sv t M) := by show _ = _; cases s <;> cases t <;> simp [sv] at hst ⊢ <;> omega
      generalize sv s N + sv t M = X at *
      generalize hci : cmpI N M = ci at *
      cases s <;> cases t <;> (try (exfalso; exact hst rfl))
      all_goals
        clear hst hst'
        go_enter Try.func73, Try.ntmps73
        go_wp2_with (first
          | (go_at_call 36; refine (cmpWords_any _ _ N M _ hv hu).mono ?_; rintro e w1 ⟨rfl, hf1⟩; rw [hci])
          | (go_at_call 91; refine (subWords_any _ _ M N _ (hu.mono hf1) (hv.mono hf1) hM (Nat.le_of_lt hlt)).mono ?_; rintro e w2 ⟨x, rfl, hx, hf2⟩)
          | (go_at_call 60; refine (FIN.out _ _ _ _ _ (hf1.trans hf2) hx HE.out (by omega)).mono ?_; rintro e w3 ⟨rfl, hsi⟩))
        go_ret
        exact hsi
    · have HE : Hid (sv s (N - M) = sv s N + sv t M) := by show _ = _; cases s <;> cases t <;> simp [sv] at hst ⊢ <;> omega
      generalize sv s N + sv t M = X at *
      generalize hci : cmpI N M = ci at *
      cases s <;> cases t <;> (try (exfalso; exact hst rfl))
      all_goals
        clear hst hst'
        go_enter Try.func73, Try.ntmps73
        go_wp2_with (first
          | (go_at_call 36; refine (cmpWords_any _ _ N M _ hv hu).mono ?_; rintro e w1 ⟨rfl, hf1⟩; rw [hci])
          | (go_at_call 91; refine (subWords_any _ _ N M _ (hv.mono hf1) (hu.mono hf1) hN hle).mono ?_; rintro e w2 ⟨x, rfl, hx, hf2⟩)
          | (go_at_call 60; refine (FIN.out _ _ _ _ _ (hf1.trans hf2) hx HE.out (by omega)).mono ?_; rintro e w3 ⟨rfl, hsi⟩))
        go_ret
        exact hsi
set_option maxHeartbeats 4000000 in
theorem iadd_any (B C E : Nat) (N M : Nat) (s t s0 : Bool) (A0 : Nat) (w : World) (hz : Iv w B s0 A0) (hx : Iv w C s N) (hy : Iv w E t M) (hN : N.log2 < 32000000) (hM : M.log2 < 32000000) :
    Calls Try.prog 61 #[.pointer (some ⟨B, 0, none⟩), .pointer (some ⟨C, 0, none⟩), .pointer (some ⟨E, 0, none⟩)] w fun e w' => Si w B (sv s N + sv t M) (N + M) e w' := by
  obtain ⟨v, h1, h2⟩ := hx.c1
  obtain ⟨u, k1, k2⟩ := hy.c1
  have h0 := hx.c0
  have k0 := hy.c0
  obtain ⟨va, vn, vc, rfl, _⟩ := nm_slice h2
  obtain ⟨ua, un, uc, rfl, _⟩ := nm_slice k2
  have HH : Hid (∀ wz, Fr w wz → Calls Try.prog 73 #[.pointer (some ⟨B, 0, none⟩), .slice va vn vc, .bool s, .slice ua un uc, .bool t] wz fun e w' => e = .returned (.pointer (some ⟨B, 0, none⟩)) ∧ Si w B (sv s N + sv t M) (N + M) e w') := by
    intro wz hz'
    refine (iadded_any B _ _ N M s t s0 A0 wz (hz.mono hz') (h2.mono hz') (k2.mono hz') hN hM).mono ?_
    rintro e w1 ⟨w2, xv, A, s1, rfl, r2, r3, r4, r5, r6⟩
    exact ⟨rfl, w2, xv, A, s1, rfl, hz'.trans r2, r3, r4, r5, r6⟩
  generalize sv s N + sv t M = X at *
  generalize N + M = K at *
  go_enter Try.func61, Try.ntmps61
  go_wp2_with fail
  go_region_with (first
    | (go_at_call 73; refine (HH.out _ ?_).mono ?_; exact (Fr.refl _).drew; rintro e w1 ⟨rfl, hsi⟩))
  all_goals (try go_wp2)
  all_goals go_ret
  all_goals exact hsi
end Go.Proofs.Ytpfaaimfembhdaa
/-
  OWN TEXT: what the methods added, Add, Sub, Mul, Quo of package eddybig's fractions do, in the worth of fractions.
-/
namespace Go.Proofs.Ytpfaaimfembhdaa
open Go.ChangeShapes Go.WideShapes Go.ChangeAt Go.RowKit
open Bg
set_option linter.unusedVariables false
/-- the fraction at B is worth p by q; k bounds its bits -/
def Rv (w : World) (B : Nat) (p : Int) (q k : Nat) : Prop := ∃ s A D, Rt w B s A D ∧ sv s A * q = p * den D ∧ A.log2 < k ∧ (den D).log2 < k
theorem Rv.mono {w w' : World} {B : Nat} {p : Int} {q k : Nat} (h : Rv w B p q k) (f : Fr w w') : Rv w' B p q k := by
  obtain ⟨s, A, D, h1, h2⟩ := h
  exact ⟨s, A, D, h1.mono f, h2⟩
/-- what a call leaves that has set the fraction at B: its worth; all else as it was -/
def Sv (w : World) (B : Nat) (p : Int) (q k : Nat) (e : Ending) (w' : World) : Prop :=
  e = .returned (.pointer (some ⟨B, 0, none⟩)) ∧ Rv w' B p q k ∧ ∃ w1 s x d, Fr w w1 ∧ w' = st w1 B s x d
theorem Sv.fr {w w0 : World} {B : Nat} {p : Int} {q k : Nat} {e : Ending} {w' : World} (h : Sv w B p q k e w') (f : Fr w0 w) (hB : w0.heap.size ≤ B) : Fr w0 w' := by
  obtain ⟨_, _, w1, s, x, d, h1, rfl⟩ := h
  exact (f.trans h1).st hB _ _ _
theorem sv_abs (s : Bool) (A : Nat) : (sv s A).natAbs = A := by cases s <;> simp [sv]
theorem sd_sv {w : World} {B : Nat} {m : Bool} {N M : Nat} {e : Ending} {w' : World} {s0 : Bool} {A0 D0 : Nat} (hz : Rt w B s0 A0 D0) (h : Sd w B m N M e w') (p : Int) (q k : Nat) (hM : 0 < M) (hp : sv m N * q = p * M) (hN : N.log2 < k) (hMk : M.log2 < k) : Sv w B p q k e w' := by
  obtain ⟨w1, xv, yv, A, D, rfl, hf, hx, hy, rfl, e1, e2, e3⟩ := h
  refine ⟨rfl, ⟨_, A, D, (hz.mono hf).st hx hy _, ?_, Nat.lt_of_le_of_lt (log2_up e2) hN, Nat.lt_of_le_of_lt (log2_up e3) hMk⟩, w1, _, _, _, hf, rfl⟩
  rw [sv_and]
  -- sv m A * q = p * den D, from A * M = N * den D and sv m N * q = p * M
  have e4 : sv m A * M = sv m N * den D := by
    have : ((A * M : Nat) : Int) = ((N * den D : Nat) : Int) := by rw [e1]
    rw [Int.natCast_mul, Int.natCast_mul] at this
    cases m
    · simpa [sv] using this
    · simp only [sv, if_true, Int.neg_mul]
      rw [this]
  have e5 : (sv m A * q) * M = (p * den D) * M := by
    calc (sv m A * q) * M = (sv m A * M) * q := by grind
      _ = (sv m N * den D) * q := by rw [e4]
      _ = (sv m N * q) * den D := by grind
      _ = (p * M) * den D := by rw [hp]
      _ = (p * den D) * M := by grind
  exact Int.eq_of_mul_eq_mul_right (by omega) e5
theorem Sv.pre {w w0 : World} {B : Nat} {p : Int} {q k : Nat} {e : Ending} {w' : World} (h : Sv w B p q k e w') (f : Fr w0 w) : Sv w0 B p q k e w' := by
  obtain ⟨h1, h2, w1, s, x, d, h3, h4⟩ := h
  exact ⟨h1, h2, w1, s, x, d, f.trans h3, h4⟩
theorem st_other (w : World) (B C i : Nat) (h : C ≠ B) (s : Bool) (x d : Value) : (st w B s x d).cell? ⟨C, i, none⟩ = w.cell? ⟨C, i, none⟩ :=
  ((World.cell?_of_block (a := ⟨C, i, none⟩) (Below.heap_setCell _ _ _ _ h)).trans (World.cell?_of_block (a := ⟨C, i, none⟩) (Below.heap_setCell _ _ _ _ h))).trans (World.cell?_of_block (a := ⟨C, i, none⟩) (Below.heap_setCell _ _ _ _ h))
theorem sv_mul (s : Bool) (A d : Nat) : sv s (A * d) = sv s A * d := by cases s <;> simp [sv, Int.neg_mul]
theorem iv_made (w : World) (B : Nat) (hB : B = w.heap.size) (w' : World) (hw : w' = w.alloc (.cells #[.bool false, .slice none 0 0] 41)) : Iv w' B false 0 := by
  subst hB hw
  refine ⟨⟨by simp, fun i x => ?_, fun i => World.frozen?_alloc_at _ _ _ _ rfl⟩, by simp, ⟨.slice none 0 0, by simp, nm_nil _⟩⟩
  rw [World.cell?_alloc_at _ _ _ _ rfl]
  rcases i with _ | _ | i <;> simp
set_option maxHeartbeats 8000000 in
theorem radded_any (B C E : Nat) (s t s0 r : Bool) (A D X F A0 D0 : Nat) (k k' : Nat) (w : World) (hz : Rt w B s0 A0 D0) (hx : Rt w C s A D) (hy : Rt w E t X F) (hA : A.log2 < k) (hD : (den D).log2 < k) (hX : X.log2 < k') (hF : (den F).log2 < k') (hk : k + k' + 2 < 32000000) :
    Calls Try.prog 45 #[.pointer (some ⟨B, 0, none⟩), .pointer (some ⟨C, 0, none⟩), .pointer (some ⟨E, 0, none⟩), .bool r] w fun e w' => Sv w B (sv s A * den F + sv (t != r) X * den D) (den D * den F) (k + k' + 2) e w' := by
  obtain ⟨v, h1, h2⟩ := hx.c1
  obtain ⟨u, k1, k2⟩ := hy.c1
  have h0 := hx.c0
  have k0 := hy.c0
  obtain ⟨va, vn, vc, rfl, _⟩ := nm_slice h2
  obtain ⟨ua, un, uc, rfl, _⟩ := nm_slice k2
  have CE : ∀ w', Fr w w' → w'.cell? ⟨C, 0, none⟩ = some (.bool s) ∧ w'.cell? ⟨C, 1, none⟩ = some (.slice va vn vc) ∧ w'.cell? ⟨E, 0, none⟩ = some (.bool t) ∧ w'.cell? ⟨E, 1, none⟩ = some (.slice ua un uc) := fun w' f =>
    ⟨(f.1.cell (p := ⟨C, 0, none⟩) hx.nw.1).trans h0, (f.1.cell (p := ⟨C, 1, none⟩) hx.nw.1).trans h1, (f.1.cell (p := ⟨E, 0, none⟩) hy.nw.1).trans k0, (f.1.cell (p := ⟨E, 1, none⟩) hy.nw.1).trans k1⟩
  have BLy : Hid (∀ wz, Fr w wz → Calls Try.prog 38 #[.pointer (some ⟨E, 0, none⟩)] wz fun e w' => ∃ x, e = .returned x ∧ Nm w' x (den F) ∧ Fr wz w' ∧ Fr w w' ∧ w'.cell? ⟨C, 0, none⟩ = some (.bool s) ∧ w'.cell? ⟨C, 1, none⟩ = some (.slice va vn vc) ∧ w'.cell? ⟨E, 0, none⟩ = some (.bool t) ∧ w'.cell? ⟨E, 1, none⟩ = some (.slice ua un uc)) := by
    intro wz hz'
    refine (below_any E t X F wz (hy.mono hz')).mono ?_
    rintro e w' ⟨x, rfl, hx', hf⟩
    exact ⟨x, rfl, hx', hf, hz'.trans hf, CE _ (hz'.trans hf)⟩
  have BLx : Hid (∀ wz, Fr w wz → Calls Try.prog 38 #[.pointer (some ⟨C, 0, none⟩)] wz fun e w' => ∃ x, e = .returned x ∧ Nm w' x (den D) ∧ Fr wz w' ∧ Fr w w' ∧ w'.cell? ⟨C, 0, none⟩ = some (.bool s) ∧ w'.cell? ⟨C, 1, none⟩ = some (.slice va vn vc) ∧ w'.cell? ⟨E, 0, none⟩ = some (.bool t) ∧ w'.cell? ⟨E, 1, none⟩ = some (.slice ua un uc)) := by
    intro wz hz'
    refine (below_any C s A D wz (hx.mono hz')).mono ?_
    rintro e w' ⟨x, rfl, hx', hf⟩
    exact ⟨x, rfl, hx', hf, hz'.trans hf, CE _ (hz'.trans hf)⟩
  have M1 : Hid (∀ wz v1, Fr w wz → Nm wz v1 (den F) → Calls Try.prog 37 #[.slice va vn vc, v1] wz fun e w' => ∃ x, e = .returned x ∧ Nm w' x (A * den F) ∧ Fr wz w' ∧ Fr w w' ∧ w'.cell? ⟨C, 0, none⟩ = some (.bool s) ∧ w'.cell? ⟨C, 1, none⟩ = some (.slice va vn vc) ∧ w'.cell? ⟨E, 0, none⟩ = some (.bool t) ∧ w'.cell? ⟨E, 1, none⟩ = some (.slice ua un uc)) := by
    intro wz v1 hz' hm
    refine (mulWords_any _ v1 A (den F) wz (h2.mono hz') hm (by omega) (by omega)).mono ?_
    rintro e w' ⟨x, rfl, hx', hf⟩
    exact ⟨x, rfl, hx', hf, hz'.trans hf, CE _ (hz'.trans hf)⟩
  have M2 : Hid (∀ wz v1, Fr w wz → Nm wz v1 (den D) → Calls Try.prog 37 #[.slice ua un uc, v1] wz fun e w' => ∃ x, e = .returned x ∧ Nm w' x (X * den D) ∧ Fr wz w' ∧ Fr w w' ∧ w'.cell? ⟨C, 0, none⟩ = some (.bool s) ∧ w'.cell? ⟨C, 1, none⟩ = some (.slice va vn vc) ∧ w'.cell? ⟨E, 0, none⟩ = some (.bool t) ∧ w'.cell? ⟨E, 1, none⟩ = some (.slice ua un uc)) := by
    intro wz v1 hz' hm
    refine (mulWords_any _ v1 X (den D) wz (k2.mono hz') hm (by omega) (by omega)).mono ?_
    rintro e w' ⟨x, rfl, hx', hf⟩
    exact ⟨x, rfl, hx', hf, hz'.trans hf, CE _ (hz'.trans hf)⟩
  obtain ⟨Ba, hBa⟩ : ∃ Ba, Ba = w.heap.size := ⟨_, rfl⟩
  obtain ⟨Bb, hBb⟩ : ∃ Bb, Bb = w.heap.size + 1 := ⟨_, rfl⟩
  have SA : Hid (∀ wz xv N m sP AP sQ AQ, Fr w wz → Iv wz Ba sP AP → Iv wz Bb sQ AQ → Nm wz xv N → Calls Try.prog 60 #[.pointer (some ⟨Ba, 0, none⟩), .bool m, xv] wz fun e w' => e = .returned (.pointer (some ⟨Ba, 0, none⟩)) ∧ Iv w' Ba (m && decide (N ≠ 0)) N ∧ Iv w' Bb sQ AQ ∧ Fr w w' ∧ w'.cell? ⟨C, 0, none⟩ = some (.bool s) ∧ w'.cell? ⟨C, 1, none⟩ = some (.slice va vn vc) ∧ w'.cell? ⟨E, 0, none⟩ = some (.bool t) ∧ w'.cell? ⟨E, 1, none⟩ = some (.slice ua un uc)) := by
    intro wz xv N m sP AP sQ AQ hz' iP iQ hxv
    obtain ⟨y1, hy1, hy2⟩ := iP.c1
    refine (iset_any Ba m xv N wz iP.nw hxv _ _ iP.c0 hy1).mono ?_
    rintro e w' ⟨rfl, rfl⟩
    exact ⟨rfl, iP.si hxv _, iQ.other iP (by omega) _ hxv, hz'.si (by omega) _ _, CE _ (hz'.si (by omega) _ _)⟩
  have SB : Hid (∀ wz xv N m sP AP sQ AQ, Fr w wz → Iv wz Bb sP AP → Iv wz Ba sQ AQ → Nm wz xv N → Calls Try.prog 60 #[.pointer (some ⟨Bb, 0, none⟩), .bool m, xv] wz fun e w' => e = .returned (.pointer (some ⟨Bb, 0, none⟩)) ∧ Iv w' Bb (m && decide (N ≠ 0)) N ∧ Iv w' Ba sQ AQ ∧ Fr w w' ∧ w'.cell? ⟨C, 0, none⟩ = some (.bool s) ∧ w'.cell? ⟨C, 1, none⟩ = some (.slice va vn vc) ∧ w'.cell? ⟨E, 0, none⟩ = some (.bool t) ∧ w'.cell? ⟨E, 1, none⟩ = some (.slice ua un uc)) := by
    intro wz xv N m sP AP sQ AQ hz' iP iQ hxv
    obtain ⟨y1, hy1, hy2⟩ := iP.c1
    refine (iset_any Bb m xv N wz iP.nw hxv _ _ iP.c0 hy1).mono ?_
    rintro e w' ⟨rfl, rfl⟩
    exact ⟨rfl, iP.si hxv _, iQ.other iP (by omega) _ hxv, hz'.si (by omega) _ _, CE _ (hz'.si (by omega) _ _)⟩
  have hw1 : Iv (w.alloc (.cells #[.bool false, .slice none 0 0] 41)) Ba false 0 := iv_made w Ba hBa _ rfl
  have hw2 : Iv ((w.alloc (.cells #[.bool false, .slice none 0 0] 41)).alloc (.cells #[.bool false, .slice none 0 0] 41)) Ba false 0 := hw1.mono ((Fr.refl _).alloc _ _)
  have hw3 : Iv ((w.alloc (.cells #[.bool false, .slice none 0 0] 41)).alloc (.cells #[.bool false, .slice none 0 0] 41)) Bb false 0 := iv_made _ Bb (by rw [hBb]; simp) _ rfl
  have hF2 : Fr w ((w.alloc (.cells #[.bool false, .slice none 0 0] 41)).alloc (.cells #[.bool false, .slice none 0 0] 41)) := ((Fr.refl _).alloc _ _).alloc _ _
  obtain ⟨i1, i2, i3, i4⟩ := CE _ hF2
  have HBa : Hid (Ba = w.heap.size) := hBa
  have HBb : Hid (Bb = w.heap.size + 1) := hBb
  have hge1 : w.heap.size ≤ Ba := by omega
  have hge2 : w.heap.size ≤ Bb := by omega
  have hne : Ba ≠ Bb := by omega
  have hBlt : B < w.heap.size := hz.nw.1
  clear hw1 hBa hBb
  go_enter Try.func45, Try.ntmps45
  go_wp2_with fail
  rw [← HBb.out, ← HBa.out]
  generalize (w.alloc (.cells #[.bool false, .slice none 0 0] 41)).alloc (.cells #[.bool false, .slice none 0 0] 41) = w2 at *
  go_region_held (fun w' => w'.cell? ⟨C, 0, none⟩ = some (.bool s) ∧ w'.cell? ⟨C, 1, none⟩ = some (.slice va vn vc) ∧ w'.cell? ⟨E, 0, none⟩ = some (.bool t) ∧ w'.cell? ⟨E, 1, none⟩ = some (.slice ua un uc)) (go_keep) (first
    | (go_at_call_of 38 E; refine (BLy.out _ ?_).mono ?_; exact hF2.drew; rintro e w3 ⟨b1, rfl, hb1, f3, f3', g31, g32, g33, g34⟩)
    | (go_at_call_of 37 b1; refine (M1.out _ _ f3' hb1).mono ?_; rintro e w4 ⟨m1, rfl, hm1, f4, f4', g41, g42, g43, g44⟩)
    | (go_at_call_of 60 Ba; refine (SA.out _ _ _ _ _ _ _ _ f4' (hw2.mono (((Fr.refl w2).drew.trans f3).trans f4)) (hw3.mono (((Fr.refl w2).drew.trans f3).trans f4)) hm1).mono ?_; rintro e w5 ⟨rfl, ia5, ib5, f5', g51, g52, g53, g54⟩))
  go_wp2_with fail
  go_region_held (fun w' => w'.cell? ⟨C, 0, none⟩ = some (.bool s) ∧ w'.cell? ⟨C, 1, none⟩ = some (.slice va vn vc) ∧ w'.cell? ⟨E, 0, none⟩ = some (.bool t) ∧ w'.cell? ⟨E, 1, none⟩ = some (.slice ua un uc)) (go_keep) (first
    | (go_at_call_of 38 C; refine (BLx.out _ ?_).mono ?_; exact f5'.drew; rintro e w6 ⟨b2, rfl, hb2, f6, f6', g61, g62, g63, g64⟩)
    | (go_at_call_of 37 b2; refine (M2.out _ _ f6' hb2).mono ?_; rintro e w7 ⟨m2, rfl, hm2, f7, f7', g71, g72, g73, g74⟩)
    | (go_at_call_of 60 Bb; refine (SB.out _ _ _ _ _ _ _ _ f7' (ib5.mono (((Fr.refl w5).drew.trans f6).trans f7)) (ia5.mono (((Fr.refl w5).drew.trans f6).trans f7)) hm2).mono ?_; rintro e w8 ⟨rfl, ib8, ia8, f8', g81, g82, g83, g84⟩))
  clear M1 M2 SA SB hb1 hb2 hm1 hm2 ia5 ib5 f3 f4 f6 f7
  go_wp2_with (first
    | (go_at_call_of 38 C; refine (BLx.out _ f8').mono ?_; rintro e w9 ⟨b3, rfl, hb3, f9, f9', g91, g92, g93, g94⟩)
    | (go_at_call_of 38 E; refine (BLy.out _ f9').mono ?_; rintro e w10 ⟨b4, rfl, hb4, f10, f10', g101, g102, g103, g104⟩)
    | (go_at_call_of 37 b4; refine (mulWords_any _ _ _ _ _ (hb3.mono f10) hb4 (by omega) (by omega)).mono ?_; rintro e w11 ⟨dv, rfl, hdv, f11⟩)
    | fail)
  have F811 : Fr w8 w11 := (f9.trans f10).trans f11
  have l1 : (A * den F).log2 < k + k' := by have := log2_mul A (den F); omega
  have l2 : (X * den D).log2 < k + k' := by have := log2_mul X (den D); omega
  have l3 : (den D * den F).log2 < k + k' := by have := log2_mul (den D) (den F); omega
  refine (iadd_any Ba Ba Bb _ _ _ _ _ _ _ (ia8.mono F811) (ia8.mono F811) (ib8.mono F811) (by omega) (by omega)).mono ?_
  rintro e w12 ⟨w12', xv, N, s3, rfl, q1, q2, rfl, q4, q5⟩
  have ia12 : Iv (siW w12' Ba s3 xv) Ba s3 N := ((ia8.mono F811).mono q1).si q2 s3
  have dv12 : Nm (siW w12' Ba s3 xv) dv (den D * den F) := (hdv.mono q1).si ((ia8.mono F811).mono q1) s3 q2
  have f12' : Fr w (siW w12' Ba s3 xv) := ((f8'.trans F811).trans q1).si hge1 _ _
  generalize siW w12' Ba s3 xv = w12 at *
  obtain ⟨yv, hc1, hnx⟩ := ia12.c1
  have hc0 := ia12.c0
  obtain ⟨ya, yn, yc, rfl, _⟩ := nm_slice hnx
  have hlt : Ba < w12.heap.size := ia12.nw.1
  have RS : Hid (∀ wz, Fr w12 wz → Calls Try.prog 46 #[.pointer (some ⟨B, 0, none⟩), .bool s3, .slice ya yn yc, dv] wz fun e w' => e = .returned (.pointer (some ⟨B, 0, none⟩)) ∧ Sv w B (sv s A * den F + sv (t != r) X * den D) (den D * den F) (k + k' + 2) e w' ∧ w'.cell? ⟨Ba, 0, none⟩ = some (.bool s3) ∧ w'.cell? ⟨Ba, 1, none⟩ = some (.slice ya yn yc)) := by
    intro wz hz'
    have hN : N.log2 < k + k' + 1 := Nat.lt_of_le_of_lt (log2_up q5) (log2_add _ _ _ l1 l2)
    have hp0 : 0 < den D * den F := Nat.mul_pos (den_pos _) (den_pos _)
    have hzz := hz.mono (f12'.trans hz')
    refine (rset_any B s3 _ dv N (den D * den F) s0 A0 D0 wz hzz (hnx.mono hz') (dv12.mono hz') hp0 (by omega) (by omega)).mono ?_
    intro e w' hsd
    have hv := sd_sv hzz hsd (sv s A * den F + sv (t != r) X * den D) (den D * den F) (k + k' + 2) hp0 (by
      rw [q4, sv_and, sv_and, sv_mul, sv_mul]
      cases t <;> cases r <;> rfl) (by omega) (by omega)
    obtain ⟨w1, x1, y1, A1, D1, e1, e2, e3, e4, e5, _⟩ := hsd
    refine ⟨e1, hv.pre (f12'.trans hz'), ?_, ?_⟩
    · rw [e5, st_other _ _ _ _ (by omega)]
      exact ((hz'.trans e2).1.cell (p := ⟨Ba, 0, none⟩) hlt).trans hc0
    · rw [e5, st_other _ _ _ _ (by omega)]
      exact ((hz'.trans e2).1.cell (p := ⟨Ba, 1, none⟩) hlt).trans hc1
  clear q1 q2 q4 q5 ia8 ib8 ia12 dv12 hdv hb3 hb4 f9 f10 f11 f9' f10' g91 g92 g93 g94 g101 g102 g103 g104 l1 l2 l3 F811 BLx BLy CE
  go_wp2_with fail
  go_region_held (fun w' => w'.cell? ⟨Ba, 0, none⟩ = some (.bool s3) ∧ w'.cell? ⟨Ba, 1, none⟩ = some (.slice ya yn yc)) (go_keep) (first
    | (go_at_call_of 46 B; refine (RS.out _ ?_).mono ?_; exact (Fr.refl _).drew; rintro e w13 ⟨rfl, hsv, j1, j2⟩))
  all_goals (try go_wp2)
  all_goals go_ret
  all_goals exact hsv
end Go.Proofs.Ytpfaaimfembhdaa
/-
  OWN TEXT: sums, differences and the order of package eddybig's fractions, in the worth of fractions; a float's fraction.
-/
namespace Go.Proofs.Ytpfaaimfembhdaa
open Go.ChangeShapes Go.WideShapes Go.ChangeAt Go.RowKit
open Bg
set_option linter.unusedVariables false
theorem grown_cell {w w' : World} (h : Grown w w') {b o : Nat} (hb : b < w.heap.size) : w'.cell? ⟨b, o, none⟩ = w.cell? ⟨b, o, none⟩ :=
  h.1.cell hb (fun f => f)
theorem Hs.grown {w w' : World} {a : Option Addr} {l : List Nat} (h : Hs w a l) (f : Grown w w') : Hs w' a l := by
  rcases h with h | ⟨b, o, h1, h2, h3⟩
  · exact Or.inl h
  · exact Or.inr ⟨b, o, h1, Nat.lt_of_lt_of_le h2 f.2.2, fun i hi => (grown_cell f h2).trans (h3 i hi)⟩
theorem Nm.grown {w w' : World} {v : Value} {N : Nat} (h : Nm w v N) (f : Grown w w') : Nm w' v N := by
  obtain ⟨a, l, cap, h1, h2, h3, h4, h5⟩ := h
  exact ⟨a, l, cap, h1, h2, h3, h4.grown f, h5⟩
theorem Rt.grown {w w' : World} {B : Nat} {s : Bool} {A D : Nat} (h : Rt w B s A D) (f : Grown w w') : Rt w' B s A D := by
  have g : ∀ i, w'.cell? ⟨B, i, none⟩ = w.cell? ⟨B, i, none⟩ := fun i => grown_cell f h.nw.1
  obtain ⟨v, h1, h2⟩ := h.c1
  obtain ⟨u, h3, h4⟩ := h.c2
  exact ⟨⟨Nat.lt_of_lt_of_le h.nw.1 f.2.2, fun i x => by rw [g]; exact h.nw.2.1 i x, fun i => (f.2.1 _).trans (h.nw.2.2 i)⟩, (g 0).trans h.c0, ⟨v, (g 1).trans h1, h2.grown f⟩, ⟨u, (g 2).trans h3, h4.grown f⟩⟩
theorem Rv.grown {w w' : World} {B : Nat} {p : Int} {q k : Nat} (h : Rv w B p q k) (f : Grown w w') : Rv w' B p q k := by
  obtain ⟨s, A, D, h1, h2⟩ := h
  exact ⟨s, A, D, h1.grown f, h2⟩
theorem Rv.conv {w : World} {B : Nat} {P p : Int} {Q q k : Nat} (h : Rv w B P Q k) (hQ : 0 < Q) (e : P * q = p * Q) : Rv w B p q k := by
  obtain ⟨s, A, D, h1, h2, h3⟩ := h
  refine ⟨s, A, D, h1, ?_, h3⟩
  have : (sv s A * q) * Q = (p * den D) * Q := by
    have e1 : (sv s A * q) * Q = (sv s A * Q) * q := by grind
    have e2 : (P * den D) * q = (P * q) * den D := by grind
    have e3 : (p * Q) * den D = (p * den D) * Q := by grind
    rw [e1, h2, e2, e, e3]
  exact Int.eq_of_mul_eq_mul_right (by omega) this
theorem Sv.conv {w : World} {B : Nat} {P p : Int} {Q q k : Nat} {e : Ending} {w' : World} (h : Sv w B P Q k e w') (hQ : 0 < Q) (he : P * q = p * Q) : Sv w B p q k e w' :=
  ⟨h.1, h.2.1.conv hQ he, h.2.2⟩
theorem radd_any (B C E : Nat) (p p' : Int) (q q' k k' : Nat) (w : World) (s0 : Bool) (A0 D0 : Nat) (hz : Rt w B s0 A0 D0) (hx : Rv w C p q k) (hy : Rv w E p' q' k') (hk : k + k' + 2 < 32000000) :
    Calls Try.prog 18 #[.pointer (some ⟨B, 0, none⟩), .pointer (some ⟨C, 0, none⟩), .pointer (some ⟨E, 0, none⟩)] w fun e w' => Sv w B (p * q' + p' * q) (q * q') (k + k' + 2) e w' := by
  obtain ⟨s, A, D, h1, h2, h3, h4⟩ := hx
  obtain ⟨t, X, F, k1, k2, k3, k4⟩ := hy
  go_enter Try.func18, Try.ntmps18
  go_wp2_with fail
  refine (radded_any B C E s t s0 false A D X F A0 D0 k k' w hz h1 k1 h3 h4 k3 k4 hk).mono ?_
  intro e w1 hs
  have hs2 : Sv w B (p * q' + p' * q) (q * q') (k + k' + 2) e w1 := hs.conv (Nat.mul_pos (den_pos _) (den_pos _)) (by
    rw [show (t != false) = t by cases t <;> rfl]
    rw [Int.natCast_mul, Int.natCast_mul]
    have e1 : (sv s A * den F + sv t X * den D) * ((q : Int) * q') = (sv s A * q) * den F * q' + (sv t X * q') * den D * q := by grind
    rw [e1, h2, k2]; grind)
  obtain ⟨rfl, r2⟩ := hs2
  go_wp2
  go_ret
  exact ⟨rfl, r2⟩
theorem rsub_any (B C E : Nat) (p p' : Int) (q q' k k' : Nat) (w : World) (s0 : Bool) (A0 D0 : Nat) (hz : Rt w B s0 A0 D0) (hx : Rv w C p q k) (hy : Rv w E p' q' k') (hk : k + k' + 2 < 32000000) :
    Calls Try.prog 16 #[.pointer (some ⟨B, 0, none⟩), .pointer (some ⟨C, 0, none⟩), .pointer (some ⟨E, 0, none⟩)] w fun e w' => Sv w B (p * q' - p' * q) (q * q') (k + k' + 2) e w' := by
  obtain ⟨s, A, D, h1, h2, h3, h4⟩ := hx
  obtain ⟨t, X, F, k1, k2, k3, k4⟩ := hy
  go_enter Try.func16, Try.ntmps16
  go_wp2_with fail
  refine (radded_any B C E s t s0 true A D X F A0 D0 k k' w hz h1 k1 h3 h4 k3 k4 hk).mono ?_
  intro e w1 hs
  have hs2 : Sv w B (p * q' - p' * q) (q * q') (k + k' + 2) e w1 := hs.conv (Nat.mul_pos (den_pos _) (den_pos _)) (by
    rw [show sv (t != true) X = - sv t X by cases t <;> simp [sv]]
    rw [Int.natCast_mul, Int.natCast_mul]
    have e1 : (sv s A * den F + -sv t X * den D) * ((q : Int) * q') = (sv s A * q) * den F * q' - (sv t X * q') * den D * q := by grind
    rw [e1, h2, k2]; grind)
  obtain ⟨rfl, r2⟩ := hs2
  go_wp2
  go_ret
  exact ⟨rfl, r2⟩
theorem crI_scale (x y c : Int) (h : 0 < c) : crI (x * c) (y * c) = crI x y := by
  unfold crI
  have e1 : x * c < y * c ↔ x < y := ⟨fun k => Int.lt_of_mul_lt_mul_right k (by omega), fun k => Int.mul_lt_mul_of_pos_right k h⟩
  have e2 : x * c = y * c ↔ x = y := ⟨fun k => Int.eq_of_mul_eq_mul_right (by omega) k, fun k => by rw [k]⟩
  simp only [e1, e2]
theorem rcmp_any (B C : Nat) (p p' : Int) (q q' k : Nat) (w : World) (hx : Rv w B p q k) (hy : Rv w C p' q' k) (hq : 0 < q) (hq' : 0 < q') (hk : k ≤ 32000000) :
    Calls Try.prog 12 #[.pointer (some ⟨B, 0, none⟩), .pointer (some ⟨C, 0, none⟩)] w fun e w' => e = .returned (.int .i64 (crI (p * q') (p' * q))) ∧ Fr w w' := by
  obtain ⟨s, A, D, h1, h2, h3, h4⟩ := hx
  obtain ⟨t, X, F, k1, k2, k3, k4⟩ := hy
  have e : crI (sv s A * den F) (sv t X * den D) = crI (p * q') (p' * q) := by
    have c1 : (0 : Int) < (q : Int) * q' := Int.mul_pos (by omega) (by omega)
    have c2 : (0 : Int) < (den D : Int) * den F := Int.mul_pos (by have := den_pos D; omega) (by have := den_pos F; omega)
    rw [← crI_scale (sv s A * den F) (sv t X * den D) _ c1, ← crI_scale (p * q') (p' * q) _ c2]
    have e1 : sv s A * den F * ((q : Int) * q') = (sv s A * q) * den F * q' := by grind
    have e2 : sv t X * den D * ((q : Int) * q') = (sv t X * q') * den D * q := by grind
    rw [e1, e2, h2, k2]
    congr 1
    · grind
    · grind
  rw [← e]
  exact cmp_any B C s t A D X F w h1 k1 (by omega) (by omega) (by omega) (by omega)
end Go.Proofs.Ytpfaaimfembhdaa
