/-
  OWN TEXT: package solve, of floats: Det.
-/
import Derived.Test.YtjfkdmddfeeheaaJSvJToSvK
namespace Go.Proofs.Ytjfkdmddfeeheaa
open Go.ChangeShapes Go.WideShapes Go.ChangeAt Go.RowKit
set_option linter.unusedVariables false
attribute [local go_sem] frombits_call tobits_call run_neg

attribute [local go_sem] stof14 store14
namespace Sv
/-- the sign turned -/
def ngC (x : Nat) : Nat := Fl.bitsF (Fl.ng x)
theorem ng_c (x : Nat) : Fl.bitsF (Fl.ng x) = ngC (Fl.bitsF x) := by
  unfold ngC
  by_cases h : Fl.nan x = true
  · rw [c_nan h, c_nan (by rw [Fl.nan_ng]; exact h)]; decide
  · rw [c_num (Bool.eq_false_iff.2 h)]
/-- how many rows are taken -/
def upTo (n : Nat) (A : M) : Nat → Nat
  | 0 => 0
  | k + 1 => if good n A k then k + 1 else upTo n A k
theorem good_mono {n : Nat} {A : M} {k j : Nat} (h : good n A k) (hj : j ≤ k) : good n A j := fun i hi => h i (by omega)
theorem upTo_of {n : Nat} {A : M} {K : Nat} (h : good n A K) : ∀ {m : Nat}, K < m → (K + 1 = m ∨ ¬ good n A (K + 1)) → upTo n A m = K + 1
  | 0, hm, _ => absurd hm (by omega)
  | m + 1, hm, hb => by
    unfold upTo
    by_cases e : K = m
    · subst e; rw [if_pos h]
    · rw [if_neg (fun g => by rcases hb with hb | hb; omega; exact hb (good_mono g (by omega))), upTo_of h (by omega) (Or.inr (by rcases hb with hb | hb; omega; exact hb))]
/-- the product of the pivots, k of them done -/
def dd (n : Nat) (A : M) : Nat → Nat
  | 0 => 4607182418800017408
  | k + 1 => if tk n A k = k then op .mul (dd n A k) (piv n A k) else ngC (op .mul (dd n A k) (piv n A k))
theorem dd_c (n : Nat) (A : M) : ∀ k, Fl.bitsF (dd n A k) = dd n A k
  | 0 => by show Fl.bitsF 4607182418800017408 = 4607182418800017408; decide
  | k + 1 => by unfold dd; split; exact op_c _ _ _; unfold ngC; exact c_c _
/-- what Det tells: the number, the error -/
def detV (n : Nat) (A : M) : Nat := if nought (piv n A (upTo n A n - 1)) then 0 else if Fl.finB (dd n A (upTo n A n)) then dd n A (upTo n A n) else 0
def detC (n : Nat) (A : M) : Int := if nought (piv n A (upTo n A n - 1)) then 0 else if Fl.finB (dd n A (upTo n A n)) then 0 else 6
def detE (n : Nat) (l : Nat → Nat) (A : M) : Int := if chk n l A = 0 then detC n A else chk n l A
def detX (n : Nat) (l : Nat → Nat) (A : M) : Nat := if chk n l A = 0 then detV n A else 0
theorem chkA_none (n : Nat) (l : Nat → Nat) (A : M) (lb : Nat → Nat) (B : M) : chkA n l A 0 lb B = chk n l A := by
  unfold chkA
  split
  · rename_i h; rw [h]; rfl
  · rfl
/-- a row that has been a pivot's stays -/
theorem row_stays (n : Nat) (A : M) {k : Nat} : ∀ {m : Nat}, k < m → st n A m k = swap (st n A k) k (tk n A k) k
  | 0, h => absurd h (by omega)
  | m + 1, h => by
    funext j
    show elim (swap (st n A m) m (tk n A m)) m k j = _
    unfold elim
    rw [if_neg (by omega)]
    by_cases e : k = m
    · subst e; rfl
    · have := tk_ge n m A
      rw [swap_sw, show sw m (tk n A m) k = k by unfold sw; rw [if_neg e, if_neg (by omega)], row_stays n A (m := m) (by omega)]
theorem diag (n : Nat) (A : M) {k m : Nat} (h : k < m) : st n A m k k = piv n A k := by rw [row_stays n A h, swap_piv]
theorem diag' (n : Nat) (A : M) {k m : Nat} (h : k ≤ m) : swap (st n A m) m (tk n A m) k k = piv n A k := by
  by_cases e : k = m
  · subst e; exact swap_piv n A k
  · have := tk_ge n m A
    rw [swap_sw, show sw m (tk n A m) k = k by unfold sw; rw [if_neg e, if_neg (by omega)], diag n A (by omega)]
end Sv
set_option maxHeartbeats 8000000 in
theorem det14 {w : World} {va : Value} {n : Nat} {l : Nat → Nat} {A : Sv.M} (ha : Sv.Lm w va n l A) (hn : n < 1000000) :
    Calls Try.prog 10 #[va] w fun e w' => ∃ x, e = .returned (.tuple #[.float .f64 x, .int .i64 (Sv.detE n l A)]) ∧ x < 18446744073709551616 ∧ Fl.bitsF x = Sv.detX n l A ∧ Bw w w' := by
  have HA := Sv.hid ha
  clear ha
  go_enter Try.func10, Try.ntmps10
  go_wp2_with fail
  refine (floats14 _).mono ?_
  rintro e' w1 ⟨rfl, b1⟩
  have b2 := Sv.bw_new w1 (.cells #[.func (.func 70) #[] #[], .func (.func 71) #[] #[], .func (.func 31) #[] #[], .func (.func 72) #[] #[], .func (.func 73) #[] #[]] 73)
  have CH := Sv.hid (check14 ((HA.out.bw b1).bw b2) (q := 0) (lb := fun _ => 0) (B := fun _ _ => 0) (Or.inl ⟨Sv.emp.nil, rfl⟩) hn (by omega))
  rw [Sv.chkA_none] at CH
  have HX := Sv.hid (And.intro (Sv.Bx.made w1) (bw_trans b1 b2))
  clear b1 b2
  go_wp2_with fail
  refine CH.out.mono ?_
  rintro e' w2 ⟨rfl, b3⟩
  replace HX := Sv.hid (And.intro (HX.out.1.bw b3) (bw_trans HX.out.2 b3))
  clear CH b3
  generalize w1.heap.size = C at HX ⊢
  by_cases z : Sv.chk n l A = 0
  · obtain ⟨⟨hn0, hn1⟩, hl, _⟩ := Sv.chk_zero z
    have HE : Hid (Sv.detE n l A = Sv.detC n A ∧ Sv.detX n l A = Sv.detV n A) := by show _ ∧ _; unfold Sv.detE Sv.detX; rw [if_pos z, if_pos z]; exact ⟨rfl, rfl⟩
    rw [z]
    clear z
    obtain ⟨ab, ao, ac, rfl, hac, habl, ha⟩ := HA.out.resolve_left (fun h => by omega)
    have CP := Sv.hid (copied14 (w := w2) (n := n) (m := n) (ca := ac) (o := ao) (b := ab) (A := A) (l := l) (by have := HX.out.2.size; omega) (fun i hi => by
      obtain ⟨r, e, q⟩ := ha i hi
      exact ⟨r, (Below.cell HX.out.2 (p := ⟨ab, ao + i, none⟩) habl).trans e, q.bw HX.out.2⟩) hl (by omega) hn0 (by omega))
    clear ha HA hac habl
    go_wp2_with fail
    refine CP.out.mono ?_
    rintro e' w3 ⟨R, f, rfl, hMt, b3⟩
    clear CP
    obtain ⟨S1, eS⟩ : ∃ S1, w2.heap.size = S1 := ⟨_, rfl⟩
    rw [eS] at hMt
    have HS1 : Hid (C < S1 ∧ w.heap.size ≤ S1) := ⟨by rw [← eS]; exact HX.out.1.1, by rw [← eS]; exact HX.out.2.size⟩
    replace HX := Sv.hid (And.intro (HX.out.1.bw b3) (bw_trans HX.out.2 b3))
    have ST := Sv.hid (steps14 hMt hn0 hn1 (by omega) (by omega))
    obtain ⟨c0, c1, c2, c3, c4, c5⟩ := HX.out.1
    clear hMt b3 eS
    go_wp2_with fail
    refine ST.out.mono ?_
    clear ST c0 c1 c2 c3 c4 c5
    intro e' w4 hst
    obtain ⟨tv, f', c, sg, hb4, rfl, hcn, hown, G, hMt, hdg, hup⟩ : ∃ (tv : Value) (f' : Nat → Nat) (c : Nat) (sg : Bool), Below S1 w3 w4 ∧ e' = .returned (.tuple #[tv, .bool sg]) ∧ c < n ∧ w4.ownsRow (w3.heap.size + 1) 3 1 tv (c + 1) (Sv.tks n A (c + 1)) ∧ ∃ G : Sv.M, Sv.Mt w4 S1 R n n (n + 1) f' G ∧ (∀ k, k ≤ c → G k k = Sv.piv n A k) ∧ Sv.upTo n A n = c + 1 := by
      obtain ⟨tv, f', hb, ⟨rfl, hgd, ho, hM⟩ | ⟨K, hK, rfl, hgd, hbad, ho, hM⟩⟩ := hst
      · refine ⟨tv, f', n - 1, false, hb, rfl, by omega, ?_, _, hM, fun k hk => Sv.diag n A (by omega), ?_⟩
        · rw [show n - 1 + 1 = n by omega]; exact ho
        · exact Sv.upTo_of (Sv.good_mono hgd (by omega)) (by omega) (Or.inl (by omega))
      · refine ⟨tv, f', K, true, hb, rfl, hK, ho, _, hM, fun k hk => Sv.diag' n A hk, ?_⟩
        exact Sv.upTo_of hgd hK (Or.inr (fun g => by have := g K (by omega); rw [hbad] at this; cases this))
    clear hst
    obtain ⟨g, cap, rfl, _, _⟩ := hown.form (by omega)
    replace HX := Sv.hid (And.intro (HX.out.1.below hb4 HS1.out.1) (Sv.bw_below HX.out.2 hb4 HS1.out.2))
    have e1 := (hMt.bw (Bw.refl _).drew).cell (i := c) hcn
    obtain ⟨x, e2, hx, q⟩ := ((hMt.bw (Bw.refl _).drew).row c hcn).cell (j := c) hcn
    obtain ⟨bc, ebc⟩ : ∃ bc, f' c = bc := ⟨_, rfl⟩
    rw [ebc] at e1 e2
    have S0 : w4.drew.cell? ⟨C, 3, none⟩ = some (.func (.func 72) #[] #[]) ∧ w4.drew.cell? ⟨R, c, none⟩ = some (.slice (some ⟨bc, 0, none⟩) n (n + 1)) ∧ w4.drew.cell? ⟨bc, c, none⟩ = some (.float .f64 x) := ⟨HX.out.1.2.2.2.2.1, e1, e2⟩
    have hc1 : (c : Int) < n := by omega
    have hc2 : (c : Int) + 1 - 1 = c := by omega
    rw [hdg c (Nat.le_refl _)] at q
    have HD : Hid (Sv.detC n A = (if Sv.nought x then 0 else if Fl.finB (Sv.dd n A (c + 1)) then 0 else 6) ∧ Sv.detV n A = (if Sv.nought x then 0 else if Fl.finB (Sv.dd n A (c + 1)) then Sv.dd n A (c + 1) else 0)) := by
      show _ ∧ _
      unfold Sv.detC Sv.detV
      rw [hup, show c + 1 - 1 = c by omega, ← q, Sv.nought_c]
      exact ⟨rfl, rfl⟩
    have bd : Bw w4 w4.drew := (Bw.refl w4).drew
    have KM := Sv.hid (And.intro (hown.kept (Sv.gb_bw bd none) (by simp [Value.ownBlock])) (And.intro (hMt.bw bd) hdg))
    replace HX := Sv.hid (And.intro (HX.out.1.bw bd) (bw_trans HX.out.2 bd))
    clear bd
    clear hb4 hown hMt hdg hup e1 e2 ebc q
    go_wp2_with fail
    refine wp_region_K (fun w' => w'.cell? ⟨C, 3, none⟩ = some (.func (.func 72) #[] #[]) ∧ w'.cell? ⟨R, c, none⟩ = some (.slice (some ⟨bc, 0, none⟩) n (n + 1)) ∧ w'.cell? ⟨bc, c, none⟩ = some (.float .f64 x)) 9 10 #[false, false, false, false, false, false, false, false, false, false] (by kernel_rfl) (by kernel_rfl) (by kernel_rfl) ?_
    generalize w4.drew = W at *
    refine wpAnyK_take 0 31 (v := ?v0) rfl (by kernel_rfl) (by kernel_rfl) (by kernel_rfl) (by kernel_rfl) (by kernel_rfl) (fun _ _ _ h => h) rfl (Or.inl ⟨by rfl, ?h0⟩) (by assumption) ?r0
    case h0 => (intro w hSw; go_simp; with_reducible rfl)
    simp only [Act.put, List.setIfInBounds_toArray, List.set_cons_zero, List.set_cons_succ]
    refine wpAnyK_take 1 32 (v := ?v1) rfl (by kernel_rfl) (by kernel_rfl) (by kernel_rfl) (by kernel_rfl) (by kernel_rfl) (fun _ _ _ h => h) rfl (Or.inl ⟨by rfl, ?h1⟩) (by assumption) ?r1
    case h1 => (intro w hSw; go_simp; with_reducible rfl)
    simp only [Act.put, List.setIfInBounds_toArray, List.set_cons_zero, List.set_cons_succ]
    refine wpAnyK_take 2 33 (v := ?v2) rfl (by kernel_rfl) (by kernel_rfl) (by kernel_rfl) (by kernel_rfl) (by kernel_rfl) (fun _ _ _ h => h) rfl (Or.inl ⟨by rfl, ?h2⟩) (by assumption) ?r2
    case h2 => (intro w hSw; go_simp; with_reducible rfl)
    simp only [Act.put, List.setIfInBounds_toArray, List.set_cons_zero, List.set_cons_succ]
    refine wpAnyK_take 3 34 (v := ?v3) rfl (by kernel_rfl) (by kernel_rfl) (by kernel_rfl) (by kernel_rfl) (by kernel_rfl) (fun _ _ _ h => h) rfl (Or.inl ⟨by rfl, ?h3⟩) (by assumption) ?r3
    case h3 => (intro w hSw; go_simp; with_reducible rfl)
    simp only [Act.put, List.setIfInBounds_toArray, List.set_cons_zero, List.set_cons_succ]
    refine wpAnyK_take 4 35 (v := ?v4) rfl (by kernel_rfl) (by kernel_rfl) (by kernel_rfl) (by kernel_rfl) (by kernel_rfl) (fun _ _ _ h => h) rfl (Or.inl ⟨by rfl, ?h4⟩) (by assumption) ?r4
    case h4 => (intro w hSw; go_simp; with_reducible rfl)
    simp only [Act.put, List.setIfInBounds_toArray, List.set_cons_zero, List.set_cons_succ]
    refine wpAnyK_take 5 36 (v := ?v5) rfl (by kernel_rfl) (by kernel_rfl) (by kernel_rfl) (by kernel_rfl) (by kernel_rfl) (fun _ _ _ h => h) rfl (Or.inl ⟨by rfl, ?h5⟩) (by assumption) ?r5
    case h5 => (intro w hSw; go_simp; with_reducible rfl)
    simp only [Act.put, List.setIfInBounds_toArray, List.set_cons_zero, List.set_cons_succ]
    refine wpAnyK_take 6 37 (v := ?v6) rfl (by kernel_rfl) (by kernel_rfl) (by kernel_rfl) (by kernel_rfl) (by kernel_rfl) (fun _ _ _ h => h) rfl (Or.inl ⟨by rfl, ?h6⟩) (by assumption) ?r6
    case h6 => (intro w hSw; go_simp; with_reducible rfl)
    simp only [Act.put, List.setIfInBounds_toArray, List.set_cons_zero, List.set_cons_succ]
    refine wpAnyK_take 7 38 (v := ?v7) rfl (by kernel_rfl) (by kernel_rfl) (by kernel_rfl) (by kernel_rfl) (by kernel_rfl) (fun _ _ _ h => h) rfl (Or.inl ⟨by rfl, ?h7⟩) (by assumption) ?r7
    case h7 => (intro w hSw; go_simp; with_reducible rfl)
    simp only [Act.put, List.setIfInBounds_toArray, List.set_cons_zero, List.set_cons_succ]
    refine wpAnyK_take 8 39 (v := ?v8) rfl (by kernel_rfl) (by kernel_rfl) (by kernel_rfl) (by kernel_rfl) (by kernel_rfl) (fun _ _ _ h => h) rfl (Or.inl ⟨by rfl, ?h8⟩) (by assumption) ?r8
    case h8 => (intro w hSw; go_simp; with_reducible rfl)
    simp only [Act.put, List.setIfInBounds_toArray, List.set_cons_zero, List.set_cons_succ]
    refine wpAnyK_one 9 (by kernel_rfl) rfl (fun K hK => ?_)
    go_simp
    go_wp2_with (go_at_call 72; refine (nought14 _ _).mono ?_; rintro e' w7 ⟨rfl, hw7⟩; subst hw7)
    refine hK.out _ _ (fun h => absurd rfl h) ?_
    clear hK K
    simp only [List.setIfInBounds_toArray, List.set_cons_zero, List.set_cons_succ]
    refine wpAnyK_done (by kernel_rfl) ?_ _
    clear S0
    generalize hnx : Sv.nought x = nx at HD ⊢
    clear hnx hx
    cases nx
    · have HD2 : Hid (Sv.detC n A = (if Fl.finB (Sv.dd n A (c + 1)) then 0 else 6) ∧ Sv.detV n A = (if Fl.finB (Sv.dd n A (c + 1)) then Sv.dd n A (c + 1) else 0)) := HD.out
      clear HD
      go_wp2
      go_loopw [10, 43] (fun v i wr => ∃ (t d : Nat), t ≤ c + 1 ∧ i = .int .i64 t ∧ v = .float .f64 d ∧ d < 18446744073709551616 ∧ Fl.bitsF d = Sv.dd n A t ∧ Bw w7 wr) (fun _ i _ => c + 1 - (intOf i).toNat)
      case atStart => exact ⟨0, 4607182418800017408, Nat.zero_le _, rfl, rfl, by decide, Sv.dd_c n A 0, Bw.refl _⟩
      case round =>
        obtain ⟨t, d, ht, rfl, rfl, hd, hq, hbw⟩ := hrel
        have HQ := Sv.hid hq
        clear hq
        by_cases ht1 : t < c + 1
        · have ht2 : (t : Int) < (c : Int) + 1 := by omega
          obtain ⟨hown, hMt, hdg⟩ := KM.out
          have e0 := (Below.cell hbw (p := ⟨g, t, none⟩) (hown.lt g rfl).2).trans ((hown.cellAt t (by omega)).trans (show (Sv.tks n A (c + 1))[t]? = some (.int .i64 (Sv.tk n A t)) by unfold Sv.tks; simp [ht1]))
          have e1 := (hMt.bw hbw).cell (i := t) (by omega)
          obtain ⟨y, e2, hy, q2⟩ := ((hMt.bw hbw).row t (by omega)).cell (j := t) (by omega)
          rw [hdg t (by omega)] at q2
          have ht3 : (t : Int) < n := by omega
          generalize f' t = bt at e1 e2
          obtain ⟨r, w8, hr1, hr2, E8, b8⟩ := Sv.run Sv.iMul d y wr
          rw [HQ.out, q2] at hr2
          have HR2 := Sv.hid hr2
          replace hbw := bw_trans hbw b8
          clear hown hMt hdg q2 hr2 b8
          by_cases zt : Sv.tk n A t = t
          · rw [zt] at e0
            have HN : Hid (Fl.bitsF r = Sv.dd n A (t + 1)) := by show _ = _; rw [Sv.dd, if_pos zt]; exact HR2.out
            go_wp2
            go_roundw
            case rel => exact ⟨t + 1, r, by omega, by simp, rfl, hr1, HN.out, hbw⟩
            case measure => simp [intOf]; omega
          · have zt2 : ((Sv.tk n A t : Int) == (t : Int)) = false := by rw [beq_eq_false_iff_ne]; omega
            have HN : Hid (Fl.bitsF (Op.negFloat .f64 r) = Sv.dd n A (t + 1) ∧ Op.negFloat .f64 r < 18446744073709551616) := by
              show _ ∧ _
              rw [Fl.neg_eq hr1, Sv.dd, if_neg zt, Sv.ng_c, HR2.out]
              exact ⟨rfl, Fl.ng_lt hr1⟩
            clear zt
            generalize Sv.tk n A t = tt at *
            go_wp2
            go_roundw
            case rel => exact ⟨t + 1, _, by omega, by simp, rfl, HN.out.2, HN.out.1, hbw⟩
            case measure => simp [intOf]; omega
        · have ht3 : t = c + 1 := by omega
          subst ht3
          have hnl : ¬ ((c + 1 : Nat) : Int) < (c : Int) + 1 := by omega
          have c5 := (HX.out.1.bw hbw).2.2.2.2.2
          have FI := Sv.hid (fun wz => isfin14 d wz hd)
          rw [← Sv.fin_c d, HQ.out] at FI
          generalize hfi : Fl.finB (Sv.dd n A (c + 1)) = fi at *
          clear hfi
          cases fi
          · have HD3 : Hid (Sv.detC n A = 6 ∧ Sv.detV n A = 0) := HD2.out
            clear HD2
            go_wp2_with fail
            refine (FI.out _).mono ?_
            rintro e' w9 ⟨rfl, hw9⟩
            subst hw9
            go_wp2
            go_ret2
            exact ⟨0, by rw [HE.out.1, HD3.out.1]; rfl, by decide, by rw [HE.out.2, HD3.out.2]; decide, bw_trans HX.out.2 hbw⟩
          · have HD3 : Hid (Sv.detC n A = 0 ∧ Sv.detV n A = Sv.dd n A (c + 1)) := HD2.out
            clear HD2
            go_wp2_with fail
            refine (FI.out _).mono ?_
            rintro e' w9 ⟨rfl, hw9⟩
            subst hw9
            go_wp2
            go_ret2
            exact ⟨d, by rw [HE.out.1, HD3.out.1]; rfl, hd, by rw [HE.out.2, HD3.out.2]; exact HQ.out, bw_trans HX.out.2 hbw⟩
    · have HD2 : Hid (Sv.detC n A = 0 ∧ Sv.detV n A = 0) := HD.out
      go_wp2
      go_ret2
      exact ⟨0, by rw [HE.out.1, HD2.out.1]; rfl, by decide, by rw [HE.out.2, HD2.out.2]; decide, HX.out.2⟩
  · have HE : Hid (Sv.detE n l A = Sv.chk n l A ∧ Sv.detX n l A = 0) := by show _ ∧ _; unfold Sv.detE Sv.detX; rw [if_neg z, if_neg z]; exact ⟨rfl, rfl⟩
    have z2 : (Sv.chk n l A == 0) = false := by rw [beq_eq_false_iff_ne]; exact z
    clear z
    go_wp2
    go_ret2
    exact ⟨0, by rw [HE.out.1]; rfl, by decide, by rw [HE.out.2]; decide, HX.out.2⟩
end Go.Proofs.Ytjfkdmddfeeheaa
/-
  OWN TEXT: package solve, of floats: Pivots.
-/
namespace Go.Proofs.Ytjfkdmddfeeheaa
open Go.ChangeShapes Go.WideShapes Go.ChangeAt Go.RowKit
set_option linter.unusedVariables false
attribute [local go_sem] frombits_call tobits_call run_neg

attribute [local go_sem] stof14 store14
namespace Sv
/-- which row stands at t behind k steps -/
def pm (n : Nat) (A : M) : Nat → Nat → Nat
  | 0 => fun t => t
  | k + 1 => fun t => pm n A k (sw k (tk n A k) t)
def pivE (n : Nat) (l : Nat → Nat) (A : M) : Int := if chk n l A = 0 then (if good n A n then 0 else 141) else chk n l A
/-- whole numbers as values -/
def iv (X : Nat → Nat) (n : Nat) : List Value := (List.range n).map fun j => .int .i64 (X j)
theorem iv_len (X : Nat → Nat) (n : Nat) : (iv X n).length = n := by simp [iv]
theorem iv_get (X : Nat → Nat) (n j : Nat) (h : j < n) : (iv X n)[j]? = some (.int .i64 (X j)) := by simp [iv, h]
theorem iv_set (X : Nat → Nat) (n i x : Nat) : (iv X n).set i (.int .i64 x) = iv (fun t => if t = i then x else X t) n := by
  unfold iv
  rw [range_set]
  congr 1
  funext t
  by_cases h : t = i
  · simp only [if_pos h]
  · simp only [if_neg h]
theorem sw_val (X : Nat → Nat) (t i j : Nat) : (if j = i then X t else if j = t then X i else X j) = X (sw t i j) := by
  unfold sw
  by_cases z : j = t
  · subst z
    by_cases y : j = i
    · subst y; simp
    · rw [if_neg y, if_pos rfl, if_pos rfl]
  · by_cases y : j = i
    · subst y; rw [if_pos rfl, if_neg z, if_pos rfl]
    · rw [if_neg y, if_neg z, if_neg z, if_neg y]
theorem iv_ext (X Y : Nat → Nat) (n : Nat) (h : ∀ j, j < n → X j = Y j) : iv X n = iv Y n := by
  unfold iv
  exact List.map_congr_left fun j hj => by rw [h j (List.mem_range.1 hj)]
def zi (n : Nat) : Array Value := madeCells #[.int .i64 0] n
theorem zi_list (n : Nat) : (zi n).toList = iv (fun _ => 0) n := by
  apply List.ext_getElem?
  intro j
  by_cases h : j < n
  · rw [iv_get _ _ _ h]; simp [zi, madeCells, h, Nat.mod_one]
  · rw [List.getElem?_eq_none (by simp [zi, madeCells]; omega), List.getElem?_eq_none (by rw [iv_len]; omega)]
theorem makeI (a b : Int) (n : Nat) (ha : a = n) (hb : b = n) (h : n ≤ 1000000) (w : World) :
    (Instr.makeSlice 29 (.int .i64 a) (.int .i64 b)).run Try.prog w = .ok (.slice (some ⟨w.heap.size, 0, none⟩) n n) (w.alloc (.cells (zi n) 3)) := by
  subst ha hb
  obtain ⟨i, hi, he⟩ := Option.map_eq_some_iff.1 info_i
  simp only [Prod.mk.injEq] at he
  have hr := run_make (P := Try.prog) w 29 3 i (.int .i64 0) und_i hi he.1 .i64 .i64 n n (by omega) (by omega) (by rw [he.2.2]; omega) (by omega)
  rw [he.2.1] at hr
  simp only [Int.toNat_natCast, Nat.mul_one] at hr
  exact hr
theorem ownsI_made (w : World) {base : Nat} (hb : base ≤ w.heap.size) (n : Nat) (hn : n ≤ 1000000) : (w.alloc (.cells (zi n) 3)).ownsRow base 3 1 (.slice (some ⟨w.heap.size, 0, none⟩) n n) n (iv (fun _ => 0) n) := by
  have h := World.ownsRow_lit (base := base) (e := 3) (size := 1) w (zi n) n hb (by unfold maxLen; omega) (by simp [zi, size_madeCells])
  rw [zi_list] at h
  exact h
end Sv
theorem steps14p {w : World} {base R n m : Nat} {f : Nat → Nat} {A : Sv.M} (h : Sv.Mt w base R n m (n + 1) f A) (hn0 : 0 < n) (hn : n ≤ 128) (hm : n ≤ m) (hm2 : m ≤ n + 1) :
    Calls Try.prog 42 #[(.agg #[.func (.func 70) #[] #[], .func (.func 71) #[] #[], .func (.func 31) #[] #[], .func (.func 72) #[] #[], .func (.func 73) #[] #[]]), .slice (some ⟨R, 0, none⟩) n n] w fun e w' => ∃ (tv : Value) (sg : Bool) (c : Nat), e = .returned (.tuple #[tv, .bool sg]) ∧ Below base w w' ∧ w'.ownsRow (w.heap.size + 1) 3 1 tv c (Sv.tks n A c) ∧ ((sg = false ∧ c = n ∧ Sv.good n A n) ∨ (sg = true ∧ ¬ Sv.good n A n)) := by
  refine (steps14 h hn0 hn hm hm2).mono ?_
  rintro e w' ⟨tv, f', hb, ⟨rfl, hgd, ho, hM⟩ | ⟨K, hK, rfl, hgd, hbad, ho, hM⟩⟩
  · exact ⟨tv, false, n, rfl, hb, ho, Or.inl ⟨rfl, rfl, hgd⟩⟩
  · exact ⟨tv, true, K + 1, rfl, hb, ho, Or.inr ⟨rfl, fun g => by have := g K hK; rw [hbad] at this; cases this⟩⟩
set_option maxHeartbeats 8000000 in
theorem pivots14 {w : World} {va : Value} {n : Nat} {l : Nat → Nat} {A : Sv.M} (ha : Sv.Lm w va n l A) (hn : n < 1000000) :
    Calls Try.prog 9 #[va] w fun e w' => ∃ v, Sv.Pr e v (Sv.pivE n l A) ∧ Bw w w' ∧ ((Sv.pivE n l A ≠ 0 ∧ v = .slice none 0 0) ∨ (Sv.pivE n l A = 0 ∧ ∃ B, v = .slice (some ⟨B, 0, none⟩) n n ∧ w'.ownsRow w.heap.size 3 1 v n (Sv.iv (Sv.pm n A n) n))) := by
  have HA := Sv.hid ha
  clear ha
  go_enter Try.func9, Try.ntmps9
  go_wp2_with fail
  refine (floats14 _).mono ?_
  rintro e' w1 ⟨rfl, b1⟩
  have b2 := Sv.bw_new w1 (.cells #[.func (.func 70) #[] #[], .func (.func 71) #[] #[], .func (.func 31) #[] #[], .func (.func 72) #[] #[], .func (.func 73) #[] #[]] 73)
  have CH := Sv.hid (check14 ((HA.out.bw b1).bw b2) (q := 0) (lb := fun _ => 0) (B := fun _ _ => 0) (Or.inl ⟨Sv.emp.nil, rfl⟩) hn (by omega))
  rw [Sv.chkA_none] at CH
  have HX := Sv.hid (And.intro (Sv.Bx.made w1) (bw_trans b1 b2))
  clear b1 b2
  go_wp2_with fail
  refine CH.out.mono ?_
  rintro e' w2 ⟨rfl, b3⟩
  replace HX := Sv.hid (And.intro (HX.out.1.bw b3) (bw_trans HX.out.2 b3))
  clear CH b3
  generalize w1.heap.size = C at HX ⊢
  by_cases z : Sv.chk n l A = 0
  · obtain ⟨⟨hn0, hn1⟩, hl, _⟩ := Sv.chk_zero z
    have HE : Hid (Sv.pivE n l A = if Sv.good n A n then 0 else 141) := by show _ = _; unfold Sv.pivE; rw [if_pos z]
    rw [z]
    clear z
    obtain ⟨ab, ao, ac, rfl, hac, habl, ha⟩ := HA.out.resolve_left (fun h => by omega)
    have bd : Bw w2 w2.drew := (Bw.refl w2).drew
    replace HX := Sv.hid (And.intro (HX.out.1.bw bd) (bw_trans HX.out.2 bd))
    have CP := Sv.hid (copied14 (w := w2.drew) (n := n) (m := n) (ca := ac) (o := ao) (b := ab) (A := A) (l := l) (by have := HX.out.2.size; omega) (fun i hi => by
      obtain ⟨r, e, q⟩ := ha i hi
      exact ⟨r, (Below.cell HX.out.2 (p := ⟨ab, ao + i, none⟩) habl).trans e, q.bw HX.out.2⟩) hl (by omega) hn0 (by omega))
    have S0 : w2.drew.cell? ⟨C, 0, none⟩ = some (.func (.func 70) #[] #[]) ∧ w2.drew.cell? ⟨C, 1, none⟩ = some (.func (.func 71) #[] #[]) ∧ w2.drew.cell? ⟨C, 2, none⟩ = some (.func (.func 31) #[] #[]) ∧ w2.drew.cell? ⟨C, 3, none⟩ = some (.func (.func 72) #[] #[]) ∧ w2.drew.cell? ⟨C, 4, none⟩ = some (.func (.func 73) #[] #[]) := HX.out.1.2
    clear ha HA hac habl bd
    go_wp2_with fail
    refine wp_region_K (fun w' => w'.cell? ⟨C, 0, none⟩ = some (.func (.func 70) #[] #[]) ∧ w'.cell? ⟨C, 1, none⟩ = some (.func (.func 71) #[] #[]) ∧ w'.cell? ⟨C, 2, none⟩ = some (.func (.func 31) #[] #[]) ∧ w'.cell? ⟨C, 3, none⟩ = some (.func (.func 72) #[] #[]) ∧ w'.cell? ⟨C, 4, none⟩ = some (.func (.func 73) #[] #[])) 8 9 #[false, false, false, false, false, false, false, false, false] (by kernel_rfl) (by kernel_rfl) (by kernel_rfl) ?_
    generalize w2.drew = W at *
    refine wpAnyK_take 0 20 (v := ?v0) rfl (by kernel_rfl) (by kernel_rfl) (by kernel_rfl) (by kernel_rfl) (by kernel_rfl) (fun _ _ _ h => h) rfl (Or.inl ⟨by rfl, ?h0⟩) (by assumption) ?r0
    case h0 => (intro w hSw; go_simp; with_reducible rfl)
    simp only [Act.put, List.setIfInBounds_toArray, List.set_cons_zero, List.set_cons_succ]
    refine wpAnyK_take 1 21 (v := ?v1) rfl (by kernel_rfl) (by kernel_rfl) (by kernel_rfl) (by kernel_rfl) (by kernel_rfl) (fun _ _ _ h => h) rfl (Or.inl ⟨by rfl, ?h1⟩) (by assumption) ?r1
    case h1 => (intro w hSw; go_simp; with_reducible rfl)
    simp only [Act.put, List.setIfInBounds_toArray, List.set_cons_zero, List.set_cons_succ]
    refine wpAnyK_one 2 (by kernel_rfl) rfl (fun K hK => ?_)
    go_simp
    go_wp2_with (go_at_call 43; refine CP.out.mono ?_; rintro e' w3 ⟨R, f, rfl, hMt, b3⟩)
    have S3 : w3.cell? ⟨C, 0, none⟩ = some (.func (.func 70) #[] #[]) ∧ w3.cell? ⟨C, 1, none⟩ = some (.func (.func 71) #[] #[]) ∧ w3.cell? ⟨C, 2, none⟩ = some (.func (.func 31) #[] #[]) ∧ w3.cell? ⟨C, 3, none⟩ = some (.func (.func 72) #[] #[]) ∧ w3.cell? ⟨C, 4, none⟩ = some (.func (.func 73) #[] #[]) := (HX.out.1.bw b3).2
    obtain ⟨S1, eS⟩ : ∃ S1, W.heap.size = S1 := ⟨_, rfl⟩
    rw [eS] at hMt
    have HS1 : Hid (C < S1 ∧ w.heap.size ≤ S1) := ⟨by rw [← eS]; exact HX.out.1.1, by rw [← eS]; exact HX.out.2.size⟩
    replace HX := Sv.hid (And.intro (HX.out.1.bw b3) (bw_trans HX.out.2 b3))
    have HW := Sv.hid (show w.heap.size ≤ w3.heap.size from HX.out.2.size)
    have ST := Sv.hid (steps14p hMt hn0 hn1 (by omega) (by omega))
    clear hMt b3 eS
    refine hK.out _ _ (fun _ _ => S3) ?_
    clear hK K
    simp only [List.setIfInBounds_toArray, List.set_cons_zero, List.set_cons_succ]
    refine wpAnyK_one 3 (by kernel_rfl) rfl (fun K hK => ?_)
    go_simp
    go_wp2_with (go_at_call 42; refine ST.out.mono ?_; rintro e' w4 ⟨tv, sg, c, rfl, hb4, hown, hc⟩)
    clear ST
    replace HX := Sv.hid (And.intro (HX.out.1.below hb4 HS1.out.1) (Sv.bw_below HX.out.2 hb4 HS1.out.2))
    have S4 : w4.cell? ⟨C, 0, none⟩ = some (.func (.func 70) #[] #[]) ∧ w4.cell? ⟨C, 1, none⟩ = some (.func (.func 71) #[] #[]) ∧ w4.cell? ⟨C, 2, none⟩ = some (.func (.func 31) #[] #[]) ∧ w4.cell? ⟨C, 3, none⟩ = some (.func (.func 72) #[] #[]) ∧ w4.cell? ⟨C, 4, none⟩ = some (.func (.func 73) #[] #[]) := HX.out.1.2
    have HO := Sv.hid hown
    clear hb4 hown
    go_wp2
    refine hK.out _ _ (fun _ _ => S4) ?_
    clear hK K
    simp only [List.setIfInBounds_toArray, List.set_cons_zero, List.set_cons_succ]
    refine wpAnyK_take 4 19 (v := ?v4) rfl (by kernel_rfl) (by kernel_rfl) (by kernel_rfl) (by kernel_rfl) (by kernel_rfl) (fun _ _ _ h => h) rfl (Or.inl ⟨by rfl, ?h4⟩) (by assumption) ?r4
    case h4 => (intro w hSw; go_simp; with_reducible rfl)
    simp only [Act.put, List.setIfInBounds_toArray, List.set_cons_zero, List.set_cons_succ]
    refine wpAnyK_take 5 24 (v := ?v5) rfl (by kernel_rfl) (by kernel_rfl) (by kernel_rfl) (by kernel_rfl) (by kernel_rfl) (fun _ _ _ h => h) rfl (Or.inl ⟨by rfl, ?h5⟩) (by assumption) ?r5
    case h5 => (intro w hSw; go_simp; with_reducible rfl)
    simp only [Act.put, List.setIfInBounds_toArray, List.set_cons_zero, List.set_cons_succ]
    refine wpAnyK_take 6 25 (v := ?v6) rfl (by kernel_rfl) (by kernel_rfl) (by kernel_rfl) (by kernel_rfl) (by kernel_rfl) (fun _ _ _ h => h) rfl (Or.inl ⟨by rfl, ?h6⟩) (by assumption) ?r6
    case h6 => (intro w hSw; go_simp; with_reducible rfl)
    simp only [Act.put, List.setIfInBounds_toArray, List.set_cons_zero, List.set_cons_succ]
    refine wpAnyK_one 7 (by kernel_rfl) rfl (fun K hK => ?_)
    go_simp
    refine hK.out _ _ (fun _ _ => S4) ?_
    clear hK K
    simp only [List.setIfInBounds_toArray, List.set_cons_zero, List.set_cons_succ]
    refine wpAnyK_one 8 (by kernel_rfl) rfl (fun K hK => ?_)
    go_simp
    refine hK.out _ _ (fun h => absurd rfl h) ?_
    clear hK K
    simp only [List.setIfInBounds_toArray, List.set_cons_zero, List.set_cons_succ]
    refine wpAnyK_done (by kernel_rfl) ?_ _
    clear S0 S3 S4
    rcases hc with ⟨rfl, rfl, hgd⟩ | ⟨rfl, hgd⟩
    · have HE2 : Hid (Sv.pivE c l A = 0) := by show _ = _; rw [HE.out, if_pos hgd]
      clear HE hgd
      obtain ⟨g, cap, rfl, hgl, hgl2⟩ := HO.out.form (by omega)
      have hmk := Sv.makeI (c : Int) (c : Int) c rfl rfl (by omega)
      have HN := Sv.hid (Sv.ownsI_made w4 (base := w.heap.size) HX.out.2.size c (by omega))
      have HBW := Sv.hid (Sv.bw_new w4 (.cells (Sv.zi c) 3))
      have HNB : Hid (w.heap.size ≤ w4.heap.size) := HX.out.2.size
      go_wp2
      clear hmk
      generalize w4.alloc (.cells (Sv.zi c) 3) = W5 at *
      obtain ⟨B, eB⟩ : ∃ B, w4.heap.size = B := ⟨_, rfl⟩
      have EB := Sv.hid eB
      rw [eB] at HN ⊢
      clear eB
      go_loopw [32] (fun v wr => ∃ k : Nat, k ≤ c ∧ v = .int .i64 k ∧ wr.ownsRow w.heap.size 3 1 (.slice (some ⟨B, 0, none⟩) c c) c (Sv.iv (fun t => if t < k then t else 0) c) ∧ Bw w4 wr) (fun v _ => c - (intOf v).toNat)
      case atStart =>
        refine ⟨0, Nat.zero_le _, rfl, ?_, HBW.out⟩
        rw [Sv.iv_ext _ (fun _ => 0) c (fun j hj => if_neg (by omega))]
        exact HN.out
      case round =>
        clear HN HBW
        obtain ⟨k, hk, rfl, hn2, hbw⟩ := hrel
        by_cases hk1 : k < c
        · have hk2 : (k : Int) < c := by omega
          obtain ⟨o1, g1⟩ := hn2.stored k (.int .i64 k)
          rw [Sv.iv_set, Sv.iv_ext _ (fun t => if t < k + 1 then t else 0) c (fun j hj => by
            by_cases z : j = k
            · subst z; rw [if_pos rfl, if_pos (by omega)]
            · rw [if_neg z]
              by_cases y : j < k
              · rw [if_pos y, if_pos (by omega)]
              · rw [if_neg y, if_neg (by omega)])] at o1
          have hb2 : Bw w4 _ := Sv.gb_below hbw g1 hbw.size (by have := EB.out; omega)
          have e1 := (hn2.cellAt k (by omega)).trans (Sv.iv_get _ _ _ hk1)
          have e2 := hn2.frozenAt k
          rw [if_neg (by omega)] at e1
          have KN := Sv.hid (And.intro o1 hb2)
          clear o1 g1 hb2 hn2 hbw
          go_wp2
          go_roundw
          case rel => exact ⟨k + 1, by omega, by simp, KN.out.1, KN.out.2⟩
          case measure => simp [intOf]; omega
        · have hk3 : k = c := by omega
          subst hk3
          have KN : Hid (wr.ownsRow w.heap.size 3 1 (.slice (some ⟨B, 0, none⟩) k k) k (Sv.iv (Sv.pm k A 0) k) ∧ Bw w4 wr) := by
            rw [Sv.iv_ext _ (Sv.pm k A 0) k (fun j hj => by rw [if_pos hj]; rfl)] at hn2
            exact ⟨hn2, hbw⟩
          clear hn2 hbw
          go_wp2
          go_loopw [42] (fun v wr => ∃ t : Nat, t ≤ k ∧ v = .int .i64 t ∧ wr.ownsRow w.heap.size 3 1 (.slice (some ⟨B, 0, none⟩) k k) k (Sv.iv (Sv.pm k A t) k) ∧ Bw w4 wr) (fun v _ => k - (intOf v).toNat)
          case atStart => exact ⟨0, Nat.zero_le _, rfl, KN.out.1, KN.out.2⟩
          case round =>
            clear KN
            obtain ⟨t, ht, rfl, hn2, hbw⟩ := hrel
            by_cases ht1 : t < k
            · have ht2 : (t : Int) < k := by omega
              obtain ⟨i, hi⟩ : ∃ i, Sv.tk k A t = i := ⟨_, rfl⟩
              have hi1 : i < k := by rw [← hi]; exact Sv.tk_lt A ht1
              have hi2 : (i : Int) < k := by omega
              have e0 := (Below.cell hbw (p := ⟨g, t, none⟩) hgl2).trans ((HO.out.cellAt t (by omega)).trans (show (Sv.tks k A k)[t]? = some (.int .i64 (Sv.tk k A t)) by unfold Sv.tks; simp [ht1]))
              rw [hi] at e0
              have bd : Bw wr wr.drew := (Bw.refl wr).drew
              replace hn2 := hn2.kept (Sv.gb_bw bd none) (by simp [Value.ownBlock])
              replace hbw := bw_trans hbw bd
              obtain ⟨X, hX⟩ : ∃ X : Nat → Nat, Sv.pm k A t = X := ⟨_, rfl⟩
              rw [hX] at hn2
              have e1 := (hn2.cellAt t (by omega)).trans (Sv.iv_get _ _ _ ht1)
              have e2 := (hn2.cellAt i (by omega)).trans (Sv.iv_get _ _ _ hi1)
              have e3 := hn2.frozenAt t
              obtain ⟨o1, g1⟩ := hn2.stored t (.int .i64 (X i))
              obtain ⟨o2, g2⟩ := o1.stored i (.int .i64 (X t))
              have hb2 : Bw w4 _ := Sv.gb_below (Sv.gb_below hbw g1 hbw.size (by have := EB.out; omega)) g2 (by have := hbw.size; have := g1.size; omega) (by have := EB.out; omega)
              rw [Sv.iv_set, Sv.iv_set, Sv.iv_ext _ (Sv.pm k A (t + 1)) k (fun j hj => by
                show _ = Sv.pm k A t (Sv.sw t (Sv.tk k A t) j)
                rw [hi, hX]
                exact Sv.sw_val X t i j)] at o2
              have hu : ∃ u, (wr.drew.setCell ⟨B, t, none⟩ (.int .i64 (X i))).cell? ⟨B, i, none⟩ = some u := by
                by_cases z : i = t
                · subst z; exact ⟨_, World.cell?_setCell_same _ _ _ e1⟩
                · exact ⟨_, (World.cell?_setCell_other _ _ _ _ (by intro q; cases q; exact z rfl)).trans e2⟩
              obtain ⟨u, hu⟩ := hu
              have hfz := o1.frozenAt i
              have S0 : wr.drew.cell? ⟨B, t, none⟩ = some (.int .i64 (X t)) ∧ wr.drew.cell? ⟨B, i, none⟩ = some (.int .i64 (X i)) ∧ wr.drew.frozen? ⟨B, t, none⟩ = false := ⟨e1, e2, e3⟩
              have KN := Sv.hid (And.intro o2 hb2)
              clear o1 g1 o2 g2 hb2 hn2 hbw e1 e2 e3 hi hX bd
              go_wp2_with fail
              refine wp_region_K (fun w' => w'.cell? ⟨B, t, none⟩ = some (.int .i64 (X t)) ∧ w'.cell? ⟨B, i, none⟩ = some (.int .i64 (X i)) ∧ w'.frozen? ⟨B, t, none⟩ = false) 13 16 #[false, false, false, false, false, false, false, false, false, false, false, false, false, false, false, false] (by kernel_rfl) (by kernel_rfl) (by kernel_rfl) ?_
              generalize wr.drew = W1 at *
              refine wpAnyK_take 0 47 (v := ?vb0) rfl (by kernel_rfl) (by kernel_rfl) (by kernel_rfl) (by kernel_rfl) (by kernel_rfl) (fun _ _ _ h => h) rfl (Or.inl ⟨by rfl, ?hb0⟩) (by assumption) ?rb0
              case hb0 => (intro w hSw; go_simp; with_reducible rfl)
              simp only [Act.put, List.setIfInBounds_toArray, List.set_cons_zero, List.set_cons_succ]
              refine wpAnyK_take 1 48 (v := ?vb1) rfl (by kernel_rfl) (by kernel_rfl) (by kernel_rfl) (by kernel_rfl) (by kernel_rfl) (fun _ _ _ h => h) rfl (Or.inl ⟨by rfl, ?hb1⟩) (by assumption) ?rb1
              case hb1 => (intro w hSw; go_simp; with_reducible rfl)
              simp only [Act.put, List.setIfInBounds_toArray, List.set_cons_zero, List.set_cons_succ]
              refine wpAnyK_take 4 51 (v := ?vb4) rfl (by kernel_rfl) (by kernel_rfl) (by kernel_rfl) (by kernel_rfl) (by kernel_rfl) (fun _ _ _ h => h) rfl (Or.inl ⟨by rfl, ?hb4⟩) (by assumption) ?rb4
              case hb4 => (intro w hSw; go_simp; with_reducible rfl)
              simp only [Act.put, List.setIfInBounds_toArray, List.set_cons_zero, List.set_cons_succ]
              refine wpAnyK_take 5 52 (v := ?vb5) rfl (by kernel_rfl) (by kernel_rfl) (by kernel_rfl) (by kernel_rfl) (by kernel_rfl) (fun _ _ _ h => h) rfl (Or.inl ⟨by rfl, ?hb5⟩) (by assumption) ?rb5
              case hb5 => (intro w hSw; go_simp; with_reducible rfl)
              simp only [Act.put, List.setIfInBounds_toArray, List.set_cons_zero, List.set_cons_succ]
              refine wpAnyK_take 6 53 (v := ?vb6) rfl (by kernel_rfl) (by kernel_rfl) (by kernel_rfl) (by kernel_rfl) (by kernel_rfl) (fun _ _ _ h => h) rfl (Or.inl ⟨by rfl, ?hb6⟩) (by assumption) ?rb6
              case hb6 => (intro w hSw; go_simp; with_reducible rfl)
              simp only [Act.put, List.setIfInBounds_toArray, List.set_cons_zero, List.set_cons_succ]
              refine wpAnyK_take 7 54 (v := ?vb7) rfl (by kernel_rfl) (by kernel_rfl) (by kernel_rfl) (by kernel_rfl) (by kernel_rfl) (fun _ _ _ h => h) rfl (Or.inl ⟨by rfl, ?hb7⟩) (by assumption) ?rb7
              case hb7 => (intro w hSw; go_simp; with_reducible rfl)
              simp only [Act.put, List.setIfInBounds_toArray, List.set_cons_zero, List.set_cons_succ]
              refine wpAnyK_take 8 55 (v := ?vb8) rfl (by kernel_rfl) (by kernel_rfl) (by kernel_rfl) (by kernel_rfl) (by kernel_rfl) (fun _ _ _ h => h) rfl (Or.inl ⟨by rfl, ?hb8⟩) (by assumption) ?rb8
              case hb8 => (intro w hSw; go_simp; with_reducible rfl)
              simp only [Act.put, List.setIfInBounds_toArray, List.set_cons_zero, List.set_cons_succ]
              refine wpAnyK_take 9 56 (v := ?vb9) rfl (by kernel_rfl) (by kernel_rfl) (by kernel_rfl) (by kernel_rfl) (by kernel_rfl) (fun _ _ _ h => h) rfl (Or.inl ⟨by rfl, ?hb9⟩) (by assumption) ?rb9
              case hb9 => (intro w hSw; go_simp; with_reducible rfl)
              simp only [Act.put, List.setIfInBounds_toArray, List.set_cons_zero, List.set_cons_succ]
              refine wpAnyK_take 10 57 (v := ?vb10) rfl (by kernel_rfl) (by kernel_rfl) (by kernel_rfl) (by kernel_rfl) (by kernel_rfl) (fun _ _ _ h => h) rfl (Or.inl ⟨by rfl, ?hb10⟩) (by assumption) ?rb10
              case hb10 => (intro w hSw; go_simp; with_reducible rfl)
              simp only [Act.put, List.setIfInBounds_toArray, List.set_cons_zero, List.set_cons_succ]
              refine wpAnyK_take 11 58 (v := ?vb11) rfl (by kernel_rfl) (by kernel_rfl) (by kernel_rfl) (by kernel_rfl) (by kernel_rfl) (fun _ _ _ h => h) rfl (Or.inl ⟨by rfl, ?hb11⟩) (by assumption) ?rb11
              case hb11 => (intro w hSw; go_simp; with_reducible rfl)
              simp only [Act.put, List.setIfInBounds_toArray, List.set_cons_zero, List.set_cons_succ]
              refine wpAnyK_take 12 59 (v := ?vb12) rfl (by kernel_rfl) (by kernel_rfl) (by kernel_rfl) (by kernel_rfl) (by kernel_rfl) (fun _ _ _ h => h) rfl (Or.inl ⟨by rfl, ?hb12⟩) (by assumption) ?rb12
              case hb12 => (intro w hSw; go_simp; with_reducible rfl)
              simp only [Act.put, List.setIfInBounds_toArray, List.set_cons_zero, List.set_cons_succ]
              refine wpAnyK_pure 2 49 (v := ?vb2) rfl (by kernel_rfl) (by kernel_rfl) (by kernel_rfl) (by decide) (fun _ _ _ h => h) rfl (Or.inl ⟨by rfl, ?hb2⟩) (by assumption) ?rb2
              case hb2 => (intro w hSw; go_simp; with_reducible rfl)
              simp only [Act.put, List.setIfInBounds_toArray, List.set_cons_zero, List.set_cons_succ]
              refine wpAnyK_pure 3 50 (v := ?vb3) rfl (by kernel_rfl) (by kernel_rfl) (by kernel_rfl) (by decide) (fun _ _ _ h => h) rfl (Or.inl ⟨by rfl, ?hb3⟩) (by assumption) ?rb3
              case hb3 => (intro w hSw; go_simp; with_reducible rfl)
              simp only [Act.put, List.setIfInBounds_toArray, List.set_cons_zero, List.set_cons_succ]
              refine wpAnyK_one 13 (by kernel_rfl) rfl (fun K hK => ?_)
              go_simp
              refine hK.out _ _ (fun h => absurd rfl h) ?_
              clear hK K
              simp only [List.setIfInBounds_toArray, List.set_cons_zero, List.set_cons_succ]
              refine wpAnyK_anew (fun _ => True) 15 (by kernel_rfl) ?_
              have S1' : True := trivial
              refine wpAnyK_take 14 60 (v := ?vb14) rfl (by kernel_rfl) (by kernel_rfl) (by kernel_rfl) (by kernel_rfl) (by kernel_rfl) (fun _ _ _ h => h) rfl (Or.inl ⟨by rfl, ?hb14⟩) (by assumption) ?rb14
              case hb14 => (intro w hSw; go_simp; with_reducible rfl)
              simp only [Act.put, List.setIfInBounds_toArray, List.set_cons_zero, List.set_cons_succ]
              refine wpAnyK_one 15 (by kernel_rfl) rfl (fun K hK => ?_)
              go_simp
              refine hK.out _ _ (fun h => absurd rfl h) ?_
              clear hK K
              simp only [List.setIfInBounds_toArray, List.set_cons_zero, List.set_cons_succ]
              refine wpAnyK_done (by kernel_rfl) ?_ _
              clear S0 hu hfz S1'
              go_wp2
              go_roundw
              case rel => exact ⟨t + 1, by omega, by simp, KN.out.1, KN.out.2⟩
              case measure => simp [intOf]; omega
            · have ht3 : t = k := by omega
              subst ht3
              have KN := Sv.hid (And.intro hn2 hbw)
              clear hn2 hbw
              go_wp2
              go_ret2
              exact ⟨_, by rw [HE2.out]; rfl, bw_trans HX.out.2 KN.out.2, Or.inr ⟨HE2.out, B, rfl, KN.out.1⟩⟩
    · have HE2 : Hid (Sv.pivE n l A = 141) := by show _ = _; rw [HE.out, if_neg hgd]
      clear HE hgd
      go_wp2
      go_ret2
      exact ⟨_, by rw [HE2.out]; rfl, HX.out.2, Or.inl ⟨by rw [HE2.out]; decide, rfl⟩⟩
  · have HE : Hid (Sv.pivE n l A = Sv.chk n l A) := by show _ = _; unfold Sv.pivE; rw [if_neg z]
    have z2 : (Sv.chk n l A == 0) = false := by rw [beq_eq_false_iff_ne]; exact z
    have HZ := Sv.hid z
    clear z
    go_wp2
    go_ret2
    exact ⟨_, by rw [HE.out]; rfl, HX.out.2, Or.inl ⟨by rw [HE.out]; exact HZ.out, rfl⟩⟩
end Go.Proofs.Ytjfkdmddfeeheaa
/-
  OWN TEXT: math.Max, for every two floats.
-/
namespace Go.Proofs.Ytjfkdmddfeeheaa
open Go.ChangeShapes Go.WideShapes Go.ChangeAt Go.RowKit
set_option linter.unusedVariables false
attribute [local go_sem] frombits_call tobits_call run_neg

namespace Sv
/-- the greater one -/
def mx (x y : Nat) : Nat := if Fl.nan x || Fl.nan y then (if x = 9218868437227405312 ∨ y = 9218868437227405312 then 9218868437227405312 else 9221120237041090561) else if Fl.rg x = 0 ∧ Fl.rg y = 0 then (if Fl.sg x then y else x) else if Fl.ltF y x then x else y
def mxC (x y : Nat) : Nat := Fl.bitsF (mx x y)
theorem mx_c (x y : Nat) : Fl.bitsF (mx x y) = mxC (Fl.bitsF x) (Fl.bitsF y) := by
  unfold mxC
  by_cases a : Fl.nan x = true
  · have ha : (9221120237041090560 : Nat) ≠ 9218868437227405312 := by decide
    have hx : x ≠ 9218868437227405312 := fun e => by rw [e] at a; exact absurd a (by decide)
    rw [c_nan a]
    unfold mx
    rw [a, nan_c, show Fl.nan 9221120237041090560 = true by decide]
    simp only [Bool.true_or, if_true, hx, ha, false_or]
    by_cases b : Fl.nan y = true
    · rw [c_nan b]
      have hy : y ≠ 9218868437227405312 := fun e => by rw [e] at b; exact absurd b (by decide)
      rw [if_neg hy, if_neg ha]
    · rw [c_num (Bool.eq_false_iff.2 b)]
  · rw [c_num (Bool.eq_false_iff.2 a)]
    by_cases b : Fl.nan y = true
    · have hb : (9221120237041090560 : Nat) ≠ 9218868437227405312 := by decide
      have hy : y ≠ 9218868437227405312 := fun e => by rw [e] at b; exact absurd b (by decide)
      rw [c_nan b]
      unfold mx
      rw [b, show Fl.nan 9221120237041090560 = true by decide]
      simp only [Bool.or_true, if_true, hy, hb, or_false]
    · rw [c_num (Bool.eq_false_iff.2 b)]
theorem mx_lt {x y : Nat} (hx : x < 18446744073709551616) (hy : y < 18446744073709551616) : mx x y < 18446744073709551616 := by
  unfold mx
  repeat' split
  all_goals first | decide | assumption
/-- what a word reads as -/
theorem read_cases {x : Nat} (hx : x < 18446744073709551616) : (Fl.nan x = true ∧ x ≠ 9218868437227405312 ∧ ∃ f, Ieee.double.read x = .nan (Fl.sg x) f) ∨ (Fl.nan x = false ∧ Fl.rg x = 9218868437227405312 ∧ Ieee.double.read x = .infinity (Fl.sg x) ∧ (x = 9218868437227405312 ↔ Fl.sg x = false)) ∨ (Fl.nan x = false ∧ (x ≠ 9218868437227405312 ∧ Fl.rg x < 9218868437227405312) ∧ ∃ m e, Ieee.double.read x = .number (Fl.sg x) m e ∧ (m = 0 ↔ Fl.rg x = 0)) := by
  rcases Nat.lt_trichotomy (Fl.rg x) 9218868437227405312 with h | h | h
  · right; right
    refine ⟨by unfold Fl.nan; exact decide_eq_false (by omega), ⟨fun e => by rw [e] at h; exact absurd h (by decide), h⟩, ?_⟩
    rw [Fl.read_eq]
    by_cases k : Fl.rg x < 4503599627370496
    · rw [if_pos k]; exact ⟨_, _, rfl, Iff.rfl⟩
    · rw [if_neg k, if_pos h]; exact ⟨_, _, rfl, by omega⟩
  · right; left
    refine ⟨by unfold Fl.nan; exact decide_eq_false (by omega), h, Fl.read_inf h, ?_⟩
    rw [Fl.sg_lt hx, decide_eq_false_iff_not]
    unfold Fl.rg at h
    omega
  · left
    exact ⟨decide_eq_true h, fun e => by rw [e] at h; exact absurd h (by decide), _, Fl.read_nan h⟩
theorem max_pick {x y : Nat} (hx : x < 18446744073709551616) (hy : y < 18446744073709551616) (P : Program) (w : World) : (Extern.MathDim.pick "math.archMax" false .gt #[.float .f64 x, .float .f64 y]).run P w = .ok (.float .f64 (mx x y)) w := by
  have key : ∀ r : Nat, r = mx x y → (Result.ok (Value.float .f64 r) w : Result Value) = .ok (.float .f64 (mx x y)) w := fun r h => by rw [h]
  apply key
  have hd : ∀ z, FloatKind.f64.decode z = Ieee.double.read z := fun z => rfl
  have he : FloatKind.f64.encode (.infinity false) = 9218868437227405312 := by decide
  have ho : (Ieee.double.read x).order (Ieee.double.read y) = Ieee.double.order x y := rfl
  have og : (Ieee.double.order x y == some .gt) = Fl.ltF y x := Fl.ord_gt x y
  simp only [hd, he, ho, og]
  unfold mx
  rcases read_cases hx with ⟨a1, a2, f, a3⟩ | ⟨a1, a2, a3, a4⟩ | ⟨a1, a2, m, e, a3, a4⟩ <;> rcases read_cases hy with ⟨b1, b2, g, b3⟩ | ⟨b1, b2, b3, b4⟩ | ⟨b1, b2, m', e', b3, b4⟩ <;> rw [a3, b3, a1, b1] <;> simp only [Ieee.Datum.isNaN, Ieee.Datum.isZero]
  · simp [a2, b2]
  · cases hs : Fl.sg y
    · simp [a2, b4.2 hs]
    · have : ¬ y = 9218868437227405312 := fun q => by have := b4.1 q; rw [hs] at this; cases this
      simp [a2, this]
  · simp [a2, b2.1]
  · cases hs : Fl.sg x
    · simp [b2, a4.2 hs]
    · have : ¬ x = 9218868437227405312 := fun q => by have := a4.1 q; rw [hs] at this; cases this
      simp [b2, this]
  · have kx := Fl.key_cases x
    have ky := Fl.key_cases y
    have l := Fl.ltF_of b1 a1
    cases hs : Fl.sg x <;> cases ht : Fl.sg y <;> simp [a2] <;> rw [l]
    · rw [a4.2 hs, b4.2 ht]; simp
    · rw [hs] at kx; rw [ht] at ky
      rw [if_pos (by simp at kx ky; exact decide_eq_true (by omega)), a4.2 hs]
    · rw [hs] at kx; rw [ht] at ky
      rw [if_neg (by simp at kx ky; simp; omega), b4.2 ht]
  · have kx := Fl.key_cases x
    have ky := Fl.key_cases y
    have l := Fl.ltF_of b1 a1
    cases hs : Fl.sg x <;> simp [a2] 
    rw [l, if_pos (by rw [hs] at kx; simp at kx; exact decide_eq_true (by omega)), a4.2 hs]
  · simp [a2.1, b2]
  · have kx := Fl.key_cases x
    have ky := Fl.key_cases y
    have l := Fl.ltF_of b1 a1
    cases hs : Fl.sg y <;> simp [b2]
    rw [l, if_neg (by rw [hs] at ky; simp at ky; simp; omega), b4.2 hs]
  · by_cases zm : m = 0
    · by_cases zn : m' = 0
      · have h1 := a4.1 zm
        have h2 := b4.1 zn
        subst zm zn
        cases hs : Fl.sg x <;> simp [h1, h2, Ieee.Datum.neg]
      · have h2 : ¬ Fl.rg y = 0 := fun q => zn (b4.2 q)
        subst zm
        simp [h2, zn]
    · have h2 : ¬ Fl.rg x = 0 := fun q => zm (a4.2 q)
      simp [h2, zm]
theorem max_call (x y : Nat) (w : World) (hx : x < 18446744073709551616) (hy : y < 18446744073709551616) : (callFunc 77 #[.float .f64 x, .float .f64 y]).run Try.prog w = .ok (.value (.float .f64 (mx x y))) w := by
  rw [run_callFunc_extern Try.func77 (by kernel_rfl) (by kernel_rfl) (by kernel_rfl) (show Extern.find Try.f77 = some (Extern.MathDim.pick "math.archMax" false .gt) by kernel_rfl)]
  rw [max_pick hx hy]
  rfl
end Sv
attribute [local go_sem] Sv.max_call
set_option maxRecDepth 100000 in
theorem max14 (x y : Nat) (w : World) (hx : x < 18446744073709551616) (hy : y < 18446744073709551616) : Calls Try.prog 45 #[.float .f64 x, .float .f64 y] w fun e w' => e = .returned (.float .f64 (Sv.mx x y)) ∧ w' = w := by
  go_enter Try.func45, Try.ntmps45
  go_wp2
  go_ret
  exact ⟨rfl, rfl⟩
end Go.Proofs.Ytjfkdmddfeeheaa
