/-
  OWN TEXT: what the method set of package eddybig's fractions does: the fraction, made smaller by a common divisor.
-/
import Derived.Test.YthfdcembajhgcaaBgT
namespace Go.Proofs.Ythfdcembajhgcaa
open Go.ChangeShapes Go.WideShapes Go.ChangeAt Go.RowKit
open Bg
set_option linter.unusedVariables false
/-- what a call leaves that has set the fraction at block B to N by M, m telling whether it is below nought -/
def Sd (w : World) (B : Nat) (m : Bool) (N M : Nat) (e : Ending) (w' : World) : Prop :=
  ∃ w1 xv yv A D, e = .returned (.pointer (some ⟨B, 0, none⟩)) ∧ Fr w w1 ∧ Nm w1 xv A ∧ Nm w1 yv D ∧ w' = st w1 B (m && decide (A ≠ 0)) xv yv ∧ A * M = N * den D ∧ A ≤ N ∧ den D ≤ M
theorem red_div (N M G : Nat) (h1 : G ∣ N) (h2 : G ∣ M) (hN : 0 < N) (hM : 0 < M) : N / G * M = N * den (M / G) ∧ N / G ≤ N ∧ den (M / G) ≤ M ∧ N / G ≠ 0 := by
  obtain ⟨a, rfl⟩ := h1
  obtain ⟨b, rfl⟩ := h2
  have hG : 0 < G := by
    rcases Nat.eq_zero_or_pos G with h | h
    · subst h; simp at hN
    · exact h
  have hb : 0 < b := by
    rcases Nat.eq_zero_or_pos b with h | h
    · subst h; simp at hM
    · exact h
  have ha : 0 < a := by
    rcases Nat.eq_zero_or_pos a with h | h
    · subst h; simp at hN
    · exact h
  rw [Nat.mul_div_cancel_left _ hG, Nat.mul_div_cancel_left _ hG]
  have e : den b = b := by unfold den; rw [if_neg (by omega)]
  rw [e]
  refine ⟨by grind, Nat.le_mul_of_pos_left _ hG, Nat.le_mul_of_pos_left _ hG, by omega⟩
set_option maxHeartbeats 8000000 in
set_option maxRecDepth 100000 in
theorem rset_any (B : Nat) (m : Bool) (av dv : Value) (N M : Nat) (s0 : Bool) (A0 D0 : Nat) (w : World) (hz : Rt w B s0 A0 D0) (ha : Nm w av N) (hd : Nm w dv M) (hM : 0 < M) (hNl : N.log2 < 32000000) (hMl : M.log2 < 32000000) :
    Calls Try.prog 42 #[.pointer (some ⟨B, 0, none⟩), .bool m, av, dv] w fun e w' => Sd w B m N M e w' := by
  obtain ⟨z1, hz1, hz2⟩ := hz.c1
  obtain ⟨z2, hz3, hz4⟩ := hz.c2
  have hz0 := hz.c0
  have f2 := hz.nw.2.2 2
  have hnw := hz.nw
  -- the end: the words xv, yv are set
  have fin : ∀ w1 xv yv A D, Fr w w1 → Nm w1 xv A → Nm w1 yv D → A * M = N * den D → A ≤ N → den D ≤ M →
      Calls Try.prog 39 #[.pointer (some ⟨B, 0, none⟩), .bool m, xv] w1 fun e w' => e = .returned (.pointer (some ⟨B, 0, none⟩)) ∧ w' = (w1.setCell ⟨B, 1, none⟩ xv).setCell ⟨B, 0, none⟩ (.bool (m && decide (A ≠ 0))) ∧ (∃ u, w'.cell? ⟨B, 2, none⟩ = some u) ∧ w'.frozen? ⟨B, 2, none⟩ = false ∧ Sd w B m N M e (w'.setCell ⟨B, 2, none⟩ yv) := by
    intro w1 xv yv A D hf hx hy e1 e2 e3
    have g := hz.mono hf
    obtain ⟨y1, hy1, hy2⟩ := g.c1
    obtain ⟨y2, hy3, hy4⟩ := g.c2
    refine (iset_any B m xv A w1 g.nw hx _ _ g.c0 hy1).mono ?_
    rintro e w' ⟨rfl, rfl⟩
    refine ⟨rfl, rfl, ⟨y2, ?_⟩, ?_, ?_⟩
    · rw [World.cell?_setCell_other _ _ _ _ (by intro k; cases k), World.cell?_setCell_other _ _ _ _ (by intro k; cases k)]
      exact hy3
    · rw [World.frozen?_setCell, World.frozen?_setCell]; exact g.nw.2.2 2
    · exact ⟨w1, xv, yv, A, D, rfl, hf, hx, hy, rfl, e1, e2, e3⟩
  have FIN : Hid _ := fin
  clear fin
  by_cases hN : N = 0
  · subst hN
    obtain ⟨a, n, c, rfl, hn⟩ := nm_slice ha
    have hn0 : n = 0 := hn.2 rfl
    subst hn0
    go_enter Try.func42, Try.ntmps42
    go_wp2_with fail
    refine (trim_same _ 0 _ ha).mono ?_
    rintro e w1 ⟨rfl, rfl⟩
    go_wp2_with fail
    refine (trim_same _ M _ hd).mono ?_
    rintro e w2 ⟨rfl, rfl⟩
    go_wp2_with fail
    refine (iset_any B false _ 0 _ hnw (nm_nil _) _ _ hz0 hz1).mono ?_
    rintro e w3 ⟨rfl, rfl⟩
    have hc2 : ((w2.setCell ⟨B, 1, none⟩ (.slice none 0 0)).setCell ⟨B, 0, none⟩ (.bool (false && decide ((0 : Nat) ≠ 0)))).cell? ⟨B, 2, none⟩ = some z2 := by
      rw [World.cell?_setCell_other _ _ _ _ (by intro k; cases k), World.cell?_setCell_other _ _ _ _ (by intro k; cases k)]
      exact hz3
    have hf2 : ((w2.setCell ⟨B, 1, none⟩ (.slice none 0 0)).setCell ⟨B, 0, none⟩ (.bool (false && decide ((0 : Nat) ≠ 0)))).frozen? ⟨B, 2, none⟩ = false := by
      rw [World.frozen?_setCell, World.frozen?_setCell]; exact f2
    go_wp2
    go_ret
    refine ⟨w2, .slice none 0 0, .slice none 0 0, 0, 0, rfl, Fr.refl _, nm_nil _, nm_nil _, ?_, by simp, by omega, by unfold den; simp; omega⟩
    cases m <;> rfl
  · obtain ⟨a, n, c, rfl, hn⟩ := nm_slice ha
    have hn0 : n ≠ 0 := mt hn.1 hN
    have hn0I : (n : Int) ≠ 0 := by omega
    have hn0B : ((n : Int) == 0) = false := beq_eq_false_iff_ne.2 hn0I
    have hNp : 0 < N := by omega
    have hMd : den M = M := by unfold den; rw [if_neg (by omega)]
    have HSK : Hid (N * M = N * den M ∧ N ≤ N ∧ den M ≤ M) := by rw [hMd]; exact ⟨rfl, Nat.le_refl _, Nat.le_refl _⟩
    have hd' := hd
    rcases nm_one hd with ⟨b, o, cc, rfl, hcell, hc1, hc2, hb, hMw⟩ | ⟨a', n', c', rfl, hn', hM1, hc1, hc2⟩
    · by_cases hM1 : M = 1
      · have hM1I : (M : Int) = 1 := by omega
        go_enter Try.func42, Try.ntmps42
        go_wp2_with fail
        refine (trim_same _ N _ ha).mono ?_
        rintro e w1 ⟨rfl, rfl⟩
        go_wp2_with fail
        refine (trim_same _ M _ hd').mono ?_
        rintro e w2 ⟨rfl, rfl⟩
        go_wp2_with fail
        refine (FIN.out _ _ _ N M (Fr.refl _) ha hd' HSK.out.1 HSK.out.2.1 HSK.out.2.2).mono ?_
        rintro e wq ⟨rfl, hwq, ⟨uq, huq⟩, hfq, hsq⟩
        clear hwq
        go_wp2
        go_ret
        exact hsq
      · have hM1I : (M : Int) ≠ 1 := by omega
        have hM1B : ((M : Int) == 1) = false := beq_eq_false_iff_ne.2 hM1I
        go_enter Try.func42, Try.ntmps42
        go_wp2_with fail
        refine (trim_same _ N _ ha).mono ?_
        rintro e w1 ⟨rfl, rfl⟩
        go_wp2_with fail
        refine (trim_same _ M _ hd').mono ?_
        rintro e w2 ⟨rfl, rfl⟩
        go_wp2_with fail
        refine (common_any _ _ N M _ ha hd' hNl hMl hNp).mono ?_
        rintro e w3 ⟨gv, G, rfl, hg, hG1, hG2, hf3⟩
        have ha3 := ha.mono hf3
        have hd3 := hd'.mono hf3
        have HR : Hid _ := red_div N M G hG1 hG2 hNp hM
        have hGp : 0 < G := by
          rcases Nat.eq_zero_or_pos G with h | h
          · subst h; obtain ⟨k, hk⟩ := hG1; simp at hk; omega
          · exact h
        rcases nm_one hg with ⟨gb, go, gc, rfl, hgc, g1, g2, hgb, hGw⟩ | ⟨ga, gn, gc, rfl, hgn, hG1', g1, g2⟩
        · by_cases hGe : G = 1
          · have hGeI : (G : Int) = 1 := by omega
            go_wp2_with fail
            refine (FIN.out _ _ _ N M hf3 ha3 hd3 HSK.out.1 HSK.out.2.1 HSK.out.2.2).mono ?_
            rintro e wq ⟨rfl, hwq, ⟨uq, huq⟩, hfq, hsq⟩
            clear hwq
            go_wp2
            go_ret
            exact hsq
          · have hGeI : (G : Int) ≠ 1 := by omega
            have hGeB : ((G : Int) == 1) = false := beq_eq_false_iff_ne.2 hGeI
            go_wp2_with fail
            refine (divWords_any _ _ N G _ ha3 hg hNl hGp).mono ?_
            rintro e w4 ⟨q1, r1, rfl, hq1, hr1, hf4⟩
            go_wp2_with fail
            refine (divWords_any _ _ M G _ (hd3.mono hf4) (hg.mono hf4) hMl hGp).mono ?_
            rintro e w5 ⟨q2, r2, rfl, hq2, hr2, hf5⟩
            obtain ⟨qa, qn, qc, rfl, _⟩ := nm_slice hq2
            go_wp2_with fail
            refine (FIN.out _ _ _ _ _ (hf3.trans (hf4.trans hf5)) (hq1.mono hf5) hq2 HR.out.1 HR.out.2.1 HR.out.2.2.1).mono ?_
            rintro e wq ⟨rfl, hwq, ⟨uq, huq⟩, hfq, hsq⟩
            clear hwq
            go_wp2
            go_ret
            exact hsq
        · have hgnI : (gn : Int) ≠ 1 := by omega
          have hgnB : ((gn : Int) == 1) = false := beq_eq_false_iff_ne.2 hgnI
          go_wp2_with fail
          refine (divWords_any _ _ N G _ ha3 hg hNl hGp).mono ?_
          rintro e w4 ⟨q1, r1, rfl, hq1, hr1, hf4⟩
          go_wp2_with fail
          refine (divWords_any _ _ M G _ (hd3.mono hf4) (hg.mono hf4) hMl hGp).mono ?_
          rintro e w5 ⟨q2, r2, rfl, hq2, hr2, hf5⟩
          obtain ⟨qa, qn, qc, rfl, _⟩ := nm_slice hq2
          go_wp2_with fail
          refine (FIN.out _ _ _ _ _ (hf3.trans (hf4.trans hf5)) (hq1.mono hf5) hq2 HR.out.1 HR.out.2.1 HR.out.2.2.1).mono ?_
          rintro e wq ⟨rfl, hwq, ⟨uq, huq⟩, hfq, hsq⟩
          clear hwq
          go_wp2
          go_ret
          exact hsq
    · have hn'I : (n' : Int) ≠ 1 := by omega
      have hn'B : ((n' : Int) == 1) = false := beq_eq_false_iff_ne.2 hn'I
      go_enter Try.func42, Try.ntmps42
      go_wp2_with fail
      refine (trim_same _ N _ ha).mono ?_
      rintro e w1 ⟨rfl, rfl⟩
      go_wp2_with fail
      refine (trim_same _ M _ hd').mono ?_
      rintro e w2 ⟨rfl, rfl⟩
      go_wp2_with fail
      refine (common_any _ _ N M _ ha hd' hNl hMl hNp).mono ?_
      rintro e w3 ⟨gv, G, rfl, hg, hG1, hG2, hf3⟩
      have ha3 := ha.mono hf3
      have hd3 := hd'.mono hf3
      have HR : Hid _ := red_div N M G hG1 hG2 hNp hM
      have hGp : 0 < G := by
        rcases Nat.eq_zero_or_pos G with h | h
        · subst h; obtain ⟨k, hk⟩ := hG1; simp at hk; omega
        · exact h
      rcases nm_one hg with ⟨gb, go, gc, rfl, hgc, g1, g2, hgb, hGw⟩ | ⟨ga, gn, gc, rfl, hgn, hG1', g1, g2⟩
      · by_cases hGe : G = 1
        · have hGeI : (G : Int) = 1 := by omega
          go_wp2_with fail
          refine (FIN.out _ _ _ N M hf3 ha3 hd3 HSK.out.1 HSK.out.2.1 HSK.out.2.2).mono ?_
          rintro e wq ⟨rfl, hwq, ⟨uq, huq⟩, hfq, hsq⟩
          clear hwq
          go_wp2
          go_ret
          exact hsq
        · have hGeI : (G : Int) ≠ 1 := by omega
          have hGeB : ((G : Int) == 1) = false := beq_eq_false_iff_ne.2 hGeI
          go_wp2_with fail
          refine (divWords_any _ _ N G _ ha3 hg hNl hGp).mono ?_
          rintro e w4 ⟨q1, r1, rfl, hq1, hr1, hf4⟩
          go_wp2_with fail
          refine (divWords_any _ _ M G _ (hd3.mono hf4) (hg.mono hf4) hMl hGp).mono ?_
          rintro e w5 ⟨q2, r2, rfl, hq2, hr2, hf5⟩
          obtain ⟨qa, qn, qc, rfl, _⟩ := nm_slice hq2
          go_wp2_with fail
          refine (FIN.out _ _ _ _ _ (hf3.trans (hf4.trans hf5)) (hq1.mono hf5) hq2 HR.out.1 HR.out.2.1 HR.out.2.2.1).mono ?_
          rintro e wq ⟨rfl, hwq, ⟨uq, huq⟩, hfq, hsq⟩
          clear hwq
          go_wp2
          go_ret
          exact hsq
      · have hgnI : (gn : Int) ≠ 1 := by omega
        have hgnB : ((gn : Int) == 1) = false := beq_eq_false_iff_ne.2 hgnI
        go_wp2_with fail
        refine (divWords_any _ _ N G _ ha3 hg hNl hGp).mono ?_
        rintro e w4 ⟨q1, r1, rfl, hq1, hr1, hf4⟩
        go_wp2_with fail
        refine (divWords_any _ _ M G _ (hd3.mono hf4) (hg.mono hf4) hMl hGp).mono ?_
        rintro e w5 ⟨q2, r2, rfl, hq2, hr2, hf5⟩
        obtain ⟨qa, qn, qc, rfl, _⟩ := nm_slice hq2
        go_wp2_with fail
        refine (FIN.out _ _ _ _ _ (hf3.trans (hf4.trans hf5)) (hq1.mono hf5) hq2 HR.out.1 HR.out.2.1 HR.out.2.2.1).mono ?_
        rintro e wq ⟨rfl, hwq, ⟨uq, huq⟩, hfq, hsq⟩
        clear hwq
        go_wp2
        go_ret
        exact hsq
end Go.Proofs.Ythfdcembajhgcaa
