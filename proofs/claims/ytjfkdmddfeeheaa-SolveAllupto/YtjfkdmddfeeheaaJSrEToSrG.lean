/-
  OWN TEXT: the steps of the first n columns do not hang on what stands beside them; the reference's Pivots and Det.
-/
import Derived.Test.YtjfkdmddfeeheaaJSrD
import Derived.Test.YtjfkdmddfeeheaaJSvMToSvP
namespace Go.Proofs.Ytjfkdmddfeeheaa
open Go.ChangeShapes Go.WideShapes Go.ChangeAt Go.RowKit
set_option linter.unusedVariables false
attribute [local go_sem] frombits_call tobits_call run_neg

attribute [local go_sem] stof14
namespace Sv
theorem best_cols {A A' : M} {k : Nat} (h : ∀ i, A i k = A' i k) : ∀ t, best A k t = best A' k t
  | 0 => rfl
  | t + 1 => by unfold best; rw [best_cols h t, h, h]
theorem st_cols {n : Nat} {A A' : M} (h : ∀ i j, j < n → A i j = A' i j) : ∀ k, k ≤ n → ∀ i j, j < n → st n A k i j = st n A' k i j
  | 0, _, i, j, hj => h i j hj
  | k + 1, hk, i, j, hj => by
    have ih := st_cols h k (by omega)
    have hp : pv n (st n A k) k = pv n (st n A' k) k := best_cols (fun r => ih r k (by omega)) _
    show elim (swap (st n A k) k (pv n (st n A k) k)) k i j = elim (swap (st n A' k) k (pv n (st n A' k) k)) k i j
    rw [hp]
    unfold elim less
    rw [swap_sw, swap_sw, swap_sw, swap_sw, ih _ j hj, ih _ k (by omega), ih _ k (by omega), ih _ j hj]
theorem tk_cols {n : Nat} {A A' : M} (h : ∀ i j, j < n → A i j = A' i j) {k : Nat} (hk : k < n) : tk n A k = tk n A' k := best_cols (fun r => st_cols h k (by omega) r k hk) _
theorem piv_cols {n : Nat} {A A' : M} (h : ∀ i j, j < n → A i j = A' i j) {k : Nat} (hk : k < n) : piv n A k = piv n A' k := by
  unfold piv
  rw [tk_cols h hk, st_cols h k (by omega) _ k hk]
theorem good_cols {n : Nat} {A A' : M} (h : ∀ i j, j < n → A i j = A' i j) {k : Nat} (hk : k ≤ n) : good n A k ↔ good n A' k :=
  ⟨fun g j hj => by rw [← piv_cols h (by omega)]; exact g j hj, fun g j hj => by rw [piv_cols h (by omega)]; exact g j hj⟩
theorem pm_cols {n : Nat} {A A' : M} (h : ∀ i j, j < n → A i j = A' i j) : ∀ {k : Nat}, k ≤ n → ∀ t, pm n A k t = pm n A' k t
  | 0, _, _ => rfl
  | k + 1, hk, t => by
    show pm n A k (sw k (tk n A k) t) = pm n A' k (sw k (tk n A' k) t)
    rw [tk_cols h (by omega), pm_cols h (by omega)]
theorem aug_cols (n : Nat) (A : M) (b : Nat → Nat) : ∀ i j, j < n → aug n A b i j = A i j := fun i j hj => by unfold aug; rw [if_pos hj]
theorem upTo_cols {n : Nat} {A A' : M} (h : ∀ i j, j < n → A i j = A' i j) : ∀ {k : Nat}, k ≤ n → upTo n A k = upTo n A' k
  | 0, _ => rfl
  | k + 1, hk => by
    unfold upTo
    rw [upTo_cols h (by omega)]
    by_cases g : good n A k
    · rw [if_pos g, if_pos ((good_cols h (by omega)).1 g)]
    · rw [if_neg g, if_neg (fun q => g ((good_cols h (by omega)).2 q))]
theorem dd_cols {n : Nat} {A A' : M} (h : ∀ i j, j < n → A i j = A' i j) : ∀ {k : Nat}, k ≤ n → dd n A k = dd n A' k
  | 0, _ => rfl
  | k + 1, hk => by
    unfold dd
    rw [dd_cols h (by omega), tk_cols h (by omega), piv_cols h (by omega)]
theorem upTo_le (n : Nat) (A : M) : ∀ k, upTo n A k ≤ k
  | 0 => Nat.le_refl _
  | k + 1 => by have := upTo_le n A k; unfold upTo; split <;> omega
theorem det_cols {n : Nat} {A A' : M} (h : ∀ i j, j < n → A i j = A' i j) (hn : 0 < n) : detV n A = detV n A' ∧ detC n A = detC n A' := by
  have hu := upTo_cols h (Nat.le_refl n)
  have hl := upTo_le n A' n
  unfold detV detC
  rw [hu, piv_cols h (by omega), dd_cols h hl]
  exact ⟨rfl, rfl⟩
/-- no product with what is not finite is finite -/
theorem mul_far (a : Nat) {b : Nat} (h : Fl.finB b = false) : Fl.finB (op .mul a b) = false := by
  unfold op
  by_cases n : Fl.nan b = true
  · rw [nan_right .mul iMul n]; decide
  · have hb : Fl.rg b = 9218868437227405312 := by
      have h1 := of_decide_eq_false h
      have h2 := Fl.nan_le (Bool.eq_false_iff.2 n)
      omega
    have hr := Fl.read_inf hb
    show Fl.finB (match Ieee.double.mul a b with | some z => Fl.bitsF z | none => 9221120237041090560) = false
    unfold Ieee.Format.mul
    rw [hr]
    cases e : Ieee.double.read a with
    | nan s f => show Fl.finB 9221120237041090560 = false; decide
    | infinity s => cases s <;> cases Fl.sg b <;> decide
    | number s m p =>
      cases m with
      | zero => show Fl.finB 9221120237041090560 = false; decide
      | succ m =>
        have hp : (Ieee.Datum.number s (m + 1) p).product (Ieee.Datum.infinity (Fl.sg b)) = some (Ieee.Datum.infinity (Fl.sg b ^^ s)) := by simp [Ieee.Datum.product]
        rw [hp]
        cases s <;> cases Fl.sg b <;> decide
theorem ng_far {a : Nat} (h : Fl.finB a = false) : Fl.finB (ngC a) = false := by
  unfold ngC
  rw [fin_c]
  unfold Fl.finB at h ⊢
  rw [Fl.rg_ng]
  exact h
theorem dd_far {n : Nat} {A : M} {k : Nat} (h : Fl.finB (piv n A k) = false) : Fl.finB (dd n A (k + 1)) = false := by
  unfold dd
  split
  · exact mul_far _ h
  · exact ng_far (mul_far _ h)
/-- the steps' answer, its slices written out -/
theorem StepsPost.form {w w' : World} {n : Nat} {AA : M} {e : Ending} (h : StepsPost w w' n AA e) (hn : 0 < n) : ∃ (R cR Bb cB Br cr Bp cp Bo co p : Nat) (ok : Bool), e = .returned (.agg #[.slice (some ⟨R, 0, none⟩) n cR, .slice (some ⟨Bb, 0, none⟩) n cB, .slice (some ⟨Br, 0, none⟩) n cr, .slice (some ⟨Bp, 0, none⟩) p cp, .slice (some ⟨Bo, 0, none⟩) p co, .bool ok]) ∧ Bw w w' ∧ 0 < p ∧ p ≤ n ∧
    ∃ (c f X Bf : Nat → Nat) (G : M), Mr w' w.heap.size (.slice (some ⟨R, 0, none⟩) n cR) n n c f G ∧ Rw w' w.heap.size Bb n cB Bf ∧ w'.ownsRow w.heap.size 3 1 (.slice (some ⟨Br, 0, none⟩) n cr) n (iv X n) ∧ Rw w' w.heap.size Bp p cp (piv n AA) ∧ w'.ownsRow w.heap.size 4 1 (.slice (some ⟨Bo, 0, none⟩) p co) p (bv (odd n AA) p) ∧
      ((ok = true ∧ p = n ∧ good n AA n ∧ G = st n AA n ∧ (∀ i, i < n → Bf i = st n AA n i n) ∧ ∀ i, i < n → X i = pm n AA n i) ∨
       (ok = false ∧ ∃ K, K < n ∧ p = K + 1 ∧ good n AA K ∧ bad (piv n AA K) = true)) := by
  obtain ⟨vA, vB, vR, vP, vO, ok, he, hbw, p, R, cR, c, f, X, Bf, G, rfl, hA, hB, hR, hP, hO, hc⟩ := h
  have hp : 0 < p ∧ p ≤ n := by rcases hc with ⟨_, q, _⟩ | ⟨_, K, q, r, _⟩ <;> omega
  obtain ⟨Bb, cB, rfl, _, _⟩ := hB.form hn
  obtain ⟨Br, cr, rfl, _, _⟩ := hR.form hn
  obtain ⟨Bp, cp, rfl, _, _⟩ := hP.form hp.1
  obtain ⟨Bo, co, rfl, _, _⟩ := hO.form hp.1
  exact ⟨R, cR, Bb, cB, Br, cr, Bp, cp, Bo, co, p, ok, he, hbw, hp.1, hp.2, c, f, X, Bf, G, hA, hB, hR, hP, hO, hc⟩
end Sv
set_option maxHeartbeats 4000000 in
theorem rpivots14 {w : World} {va : Value} {n : Nat} {l : Nat → Nat} {A : Sv.M} (ha : Sv.Lm w va n l A) (hn : n < 1000000) :
    Calls Try.prog 18 #[va] w fun e w' => ∃ v, Sv.Pr e v (Sv.pivE n l A) ∧ Bw w w' ∧ ((Sv.pivE n l A ≠ 0 ∧ v = .slice none 0 0) ∨ (Sv.pivE n l A = 0 ∧ ∃ B c, v = .slice (some ⟨B, 0, none⟩) n c ∧ w'.ownsRow w.heap.size 3 1 v n (Sv.iv (Sv.pm n A n) n))) := by
  have HA := Sv.hid ha
  have C := Sv.hid (rcheck14 ha hn)
  clear ha
  go_enter Try.func18, Try.ntmps18
  go_wp2_with fail
  refine C.out.mono ?_
  rintro e' w1 ⟨rfl, hw1⟩
  subst hw1
  clear C
  by_cases z : Sv.chk n l A = 0
  · obtain ⟨⟨hn0, hn1⟩, hl, _⟩ := Sv.chk_zero z
    have HE : Hid (Sv.pivE n l A = if Sv.good n A n then 0 else 141) := by show _ = _; unfold Sv.pivE; rw [if_pos z]
    rw [z]
    clear z
    obtain ⟨ab, ao, ac, rfl, hac, habl, ha⟩ := HA.out.resolve_left (fun h => by omega)
    have ST := Sv.hid (rsteps14 (ac := ac) (vb := .slice none 0 0) (nb := 0) (b := fun _ => 0) habl ha hl (Or.inl ⟨Sv.emp.nil, rfl⟩) hn0 hn1)
    clear ha HA hac habl
    go_wp2_with fail
    refine ST.out.mono ?_
    intro e' w2 h
    obtain ⟨R, cR, Bb, cB, Br, cr, Bp, cp, Bo, co, p, ok, rfl, hbw, _, _, c, f, X, Bf, G, hA, hB, hR, hP, hO, hc⟩ := h.form hn0
    have hcols := Sv.aug_cols n A (Sv.rs n 0 (fun _ => 0))
    have ba := Sv.bw_new w2 (.cells #[.slice (some ⟨R, 0, none⟩) n cR, .slice (some ⟨Bb, 0, none⟩) n cB, .slice (some ⟨Br, 0, none⟩) n cr, .slice (some ⟨Bp, 0, none⟩) p cp, .slice (some ⟨Bo, 0, none⟩) p co, .bool ok] 85)
    have HR := Sv.hid (hR.kept (Sv.gb_bw ba none) (by simp [Value.ownBlock]))
    have HBW := Sv.hid (bw_trans hbw ba)
    clear hA hB hR hP hO hbw ba h ST
    rcases hc with ⟨rfl, hpe, hg, _, _, hX⟩ | ⟨rfl, K, hK, hpe, hg, hb⟩
    · clear hpe
      have HE2 : Hid (Sv.pivE n l A = 0) := by show _ = _; rw [HE.out, if_pos ((Sv.good_cols hcols (Nat.le_refl _)).1 hg)]
      have HX : Hid (∀ i, i < n → X i = Sv.pm n A n i) := fun i hi => by rw [hX i hi, Sv.pm_cols hcols (Nat.le_refl _)]
      clear hX hg hcols
      go_wp2
      go_ret2
      exact ⟨_, by rw [HE2.out]; rfl, HBW.out, Or.inr ⟨HE2.out, Br, cr, rfl, by rw [← Sv.iv_ext X _ n HX.out]; exact HR.out⟩⟩
    · clear hpe
      have HE2 : Hid (Sv.pivE n l A = 141) := by show _ = _; rw [HE.out, if_neg (fun g => by have := (Sv.good_cols hcols (Nat.le_refl _)).2 g K hK; rw [hb] at this; cases this)]
      clear hb hg hcols
      go_wp2
      go_ret2
      exact ⟨_, by rw [HE2.out]; rfl, HBW.out, Or.inl ⟨by rw [HE2.out]; decide, rfl⟩⟩
  · have HE : Hid (Sv.pivE n l A = Sv.chk n l A) := by show _ = _; unfold Sv.pivE; rw [if_neg z]
    have z2 : (Sv.chk n l A == 0) = false := by rw [beq_eq_false_iff_ne]; exact z
    have HZ := Sv.hid z
    clear z
    go_wp2
    go_ret2
    exact ⟨_, by rw [HE.out]; rfl, Bw.refl _, Or.inl ⟨by rw [HE.out]; exact HZ.out, rfl⟩⟩
set_option maxHeartbeats 8000000 in
theorem rdet14 {w : World} {va : Value} {n : Nat} {l : Nat → Nat} {A : Sv.M} (ha : Sv.Lm w va n l A) (hn : n < 1000000) :
    Calls Try.prog 19 #[va] w fun e w' => ∃ x, e = .returned (.tuple #[.float .f64 x, .int .i64 (Sv.detE n l A)]) ∧ x < 18446744073709551616 ∧ Fl.bitsF x = Sv.detX n l A ∧ Bw w w' := by
  have HA := Sv.hid ha
  have C := Sv.hid (rcheck14 ha hn)
  clear ha
  go_enter Try.func19, Try.ntmps19
  go_wp2_with fail
  refine C.out.mono ?_
  rintro e' w1 ⟨rfl, hw1⟩
  subst hw1
  clear C
  by_cases z : Sv.chk n l A = 0
  · obtain ⟨⟨hn0, hn1⟩, hl, _⟩ := Sv.chk_zero z
    have hcols := Sv.aug_cols n A (Sv.rs n 0 (fun _ => 0))
    have HE : Hid (Sv.detE n l A = Sv.detC n (Sv.aug n A (Sv.rs n 0 (fun _ => 0))) ∧ Sv.detX n l A = Sv.detV n (Sv.aug n A (Sv.rs n 0 (fun _ => 0)))) := by
      show _ ∧ _
      unfold Sv.detE Sv.detX
      rw [if_pos z, if_pos z, (Sv.det_cols hcols hn0).1, (Sv.det_cols hcols hn0).2]
      exact ⟨rfl, rfl⟩
    rw [z]
    clear z hcols
    obtain ⟨ab, ao, ac, rfl, hac, habl, ha⟩ := HA.out.resolve_left (fun h => by omega)
    have ST := Sv.hid (rsteps14 (ac := ac) (vb := .slice none 0 0) (nb := 0) (b := fun _ => 0) habl ha hl (Or.inl ⟨Sv.emp.nil, rfl⟩) hn0 hn1)
    generalize Sv.aug n A (Sv.rs n 0 (fun _ => 0)) = AA at ST HE
    clear ha HA hac habl
    go_wp2_with fail
    refine ST.out.mono ?_
    intro e' w2 h
    obtain ⟨R, cR, Bb, cB, Br, cr, Bp, cp, Bo, co, p, ok, rfl, hbw, hp0, hpn, c, f, X, Bf, G, hA, hB, hR, hP, hO, hc⟩ := h.form hn0
    have ba := Sv.bw_new w2 (.cells #[.slice (some ⟨R, 0, none⟩) n cR, .slice (some ⟨Bb, 0, none⟩) n cB, .slice (some ⟨Br, 0, none⟩) n cr, .slice (some ⟨Bp, 0, none⟩) p cp, .slice (some ⟨Bo, 0, none⟩) p co, .bool ok] 85)
    have hD := Sv.Dc.made w2 (.slice (some ⟨R, 0, none⟩) n cR) (.slice (some ⟨Bb, 0, none⟩) n cB) (.slice (some ⟨Br, 0, none⟩) n cr) (.slice (some ⟨Bp, 0, none⟩) p cp) (.slice (some ⟨Bo, 0, none⟩) p co) (.bool ok) 85
    have KM := Sv.hid (And.intro (hP.bw ba) (And.intro (hO.kept (Sv.gb_bw ba none) (by simp [Value.ownBlock])) (And.intro hD (bw_trans hbw ba))))
    have hup : Sv.upTo n AA n = p := by
      rcases hc with ⟨_, q, hg, _⟩ | ⟨_, K, hK, q, hg, hb⟩
      · have := Sv.upTo_of (K := n - 1) (Sv.good_mono hg (by omega)) (m := n) (by omega) (Or.inl (by omega)); omega
      · have := Sv.upTo_of hg hK (Or.inr (fun g => by have := g K (by omega); rw [hb] at this; cases this)); omega
    have hnot : ∀ j, j < p - 1 → Sv.nought (Sv.piv n AA j) = false := fun j hj => by
      have key : Sv.bad (Sv.piv n AA j) = false := by rcases hc with ⟨_, q, hg, _⟩ | ⟨_, K, hK, q, hg, hb⟩ <;> exact hg j (by omega)
      unfold Sv.bad at key
      rw [Bool.or_eq_false_iff] at key
      exact key.1
    have hlast : (ok = true ∧ Sv.nought (Sv.piv n AA (p - 1)) = false) ∨ (ok = false ∧ (Sv.nought (Sv.piv n AA (p - 1)) = true ∨ Fl.finB (Sv.piv n AA (p - 1)) = false)) := by
      rcases hc with ⟨q1, q, hg, _⟩ | ⟨q1, K, hK, q, hg, hb⟩
      · refine Or.inl ⟨q1, ?_⟩
        have key := hg (p - 1) (by omega)
        unfold Sv.bad at key
        rw [Bool.or_eq_false_iff] at key
        exact key.1
      · refine Or.inr ⟨q1, ?_⟩
        rw [show p - 1 = K by omega]
        unfold Sv.bad at hb
        simpa using hb
    have HD : Hid (Sv.detC n AA = (if Sv.nought (Sv.piv n AA (p - 1)) then 0 else if Fl.finB (Sv.dd n AA p) then 0 else 6) ∧ Sv.detV n AA = (if Sv.nought (Sv.piv n AA (p - 1)) then 0 else if Fl.finB (Sv.dd n AA p) then Sv.dd n AA p else 0)) := by
      show _ ∧ _
      unfold Sv.detC Sv.detV
      rw [hup]
      exact ⟨rfl, rfl⟩
    have HN := Sv.hid hnot
    have HL := Sv.hid hlast
    clear hA hB hR hP hO hbw ba h ST hD hc hup hnot hlast
    go_wp2
    generalize w2.alloc (.cells #[.slice (some ⟨R, 0, none⟩) n cR, .slice (some ⟨Bb, 0, none⟩) n cB, .slice (some ⟨Br, 0, none⟩) n cr, .slice (some ⟨Bp, 0, none⟩) p cp, .slice (some ⟨Bo, 0, none⟩) p co, .bool ok] 85) = W0 at *
    generalize w2.heap.size = D at *
    go_loopw [6, 7] (fun v i wr => ∃ (s d : Nat), s ≤ p ∧ i = .int .i64 s ∧ v = .float .f64 d ∧ d < 18446744073709551616 ∧ Fl.bitsF d = Sv.dd n AA s ∧ (s = p → Sv.nought (Sv.piv n AA (p - 1)) = false) ∧ Bw W0 wr) (fun _ i _ => p - (intOf i).toNat)
    case atStart => exact ⟨0, 4607182418800017408, Nat.zero_le _, rfl, rfl, by decide, Sv.dd_c n AA 0, fun q => by omega, Bw.refl _⟩
    case round =>
      obtain ⟨s, d, hs, rfl, rfl, hd, hq, hnp, hbw⟩ := hrel
      obtain ⟨hP, hO, hD, hbw0⟩ := KM.out
      have d3 := (hD.bw hbw).2.2.2.2.1
      have d4 := (hD.bw hbw).2.2.2.2.2.1
      have d5 := (hD.bw hbw).2.2.2.2.2.2.1
      by_cases hs1 : s < p
      · have hs2 : (s : Int) < p := by omega
        obtain ⟨x, e1, hx, q1⟩ := (hP.bw hbw).cell hs1
        have e2 := (Below.cell hbw (p := ⟨Bo, s, none⟩) (hO.lt Bo rfl).2).trans ((hO.cellAt s (by omega)).trans (Sv.bv_get _ _ _ hs1))
        by_cases zx : Sv.nought x = true
        · have NX : (FloatKind.f64.format.order x 0 == some .eq) = true := by rw [Fl.o_eq, Sv.nought_eqF, zx]
          have hsp : s = p - 1 := by
            by_cases q : s = p - 1
            · exact q
            · have := HN.out s (by omega); rw [← q1, Sv.nought_c, zx] at this; cases this
          have HF : Hid (Sv.detC n AA = 0 ∧ Sv.detV n AA = 0) := by
            have h1 : Sv.nought (Sv.piv n AA (p - 1)) = true := by rw [← hsp, ← q1, Sv.nought_c, zx]
            have h2 := HD.out
            rw [h1] at h2
            exact h2
          have KB := Sv.hid (bw_trans hbw0 hbw)
          clear hP hO hD hbw0 hbw hnp hq q1 hsp zx e2
          go_wp2
          go_ret2
          exact ⟨0, by rw [HE.out.1, HF.out.1]; rfl, by decide, by rw [HE.out.2, HF.out.2]; decide, KB.out⟩
        · have NX : (FloatKind.f64.format.order x 0 == some .eq) = false := by rw [Fl.o_eq, Sv.nought_eqF, Bool.eq_false_iff.2 zx]
          obtain ⟨r, w8, hr1, hr2, E8, b8⟩ := Sv.run Sv.iMul d x wr
          rw [hq, q1] at hr2
          have HNP : Hid (s + 1 = p → Sv.nought (Sv.piv n AA (p - 1)) = false) := fun q => by
            rw [show p - 1 = s by omega, ← q1, Sv.nought_c]
            exact Bool.eq_false_iff.2 zx
          have KB := Sv.hid (bw_trans hbw b8)
          have HR2 := Sv.hid hr2
          have d4' := (hD.bw (bw_trans hbw b8)).2.2.2.2.2.1
          have e2' := (Below.cell (bw_trans hbw b8) (p := ⟨Bo, s, none⟩) (hO.lt Bo rfl).2).trans ((hO.cellAt s (by omega)).trans (Sv.bv_get _ _ _ hs1))
          clear hP hO hD hbw0 hbw hnp hq q1 hr2 b8 zx d4 e2 d5
          cases zo : Sv.odd n AA s
          · rw [zo] at e2'
            have HN2 : Hid (Fl.bitsF r = Sv.dd n AA (s + 1)) := by
              show _ = _
              unfold Sv.odd at zo
              rw [Sv.dd, if_pos (by simpa using zo)]
              exact HR2.out
            clear zo
            go_wp2
            go_roundw
            case rel => exact ⟨s + 1, r, by omega, by simp, rfl, hr1, HN2.out, HNP.out, KB.out⟩
            case measure => simp [intOf]; omega
          · rw [zo] at e2'
            have HN2 : Hid (Fl.bitsF (Op.negFloat .f64 r) = Sv.dd n AA (s + 1) ∧ Op.negFloat .f64 r < 18446744073709551616) := by
              show _ ∧ _
              unfold Sv.odd at zo
              rw [Fl.neg_eq hr1, Sv.dd, if_neg (by simpa using zo), Sv.ng_c, HR2.out]
              exact ⟨rfl, Fl.ng_lt hr1⟩
            clear zo
            go_wp2
            go_roundw
            case rel => exact ⟨s + 1, _, by omega, by simp, rfl, HN2.out.2, HN2.out.1, HNP.out, KB.out⟩
            case measure => simp [intOf]; omega
      · have hs3 : s = p := by omega
        have hnp2 := hnp hs3
        have hss : ¬ (s : Int) < p := by omega
        have HF0 := HD.out
        rw [hnp2] at HF0
        have KB := Sv.hid (bw_trans hbw0 hbw)
        rw [hs3] at hq
        have HQ := Sv.hid hq
        have FI := Sv.hid (fun wz => rfinite_any d wz)
        rw [← Sv.fin_c d, hq] at FI
        have hok : (ok = true) ∨ (ok = false ∧ Fl.finB (Sv.dd n AA p) = false) := by
          rcases HL.out with ⟨q, _⟩ | ⟨q, r | r⟩
          · exact Or.inl q
          · rw [hnp2] at r; cases r
          · refine Or.inr ⟨q, ?_⟩
            have := Sv.dd_far r
            rw [show p - 1 + 1 = p by omega] at this
            exact this
        have HF := Sv.hid HF0
        clear hP hO hD hbw0 hbw hnp hq HF0 d4 HN HL HD
        generalize hfi : Fl.finB (Sv.dd n AA p) = fi at FI HF hok
        clear hfi
        rcases hok with rfl | ⟨rfl, rfl⟩
        · cases fi
          · have HG : Hid (Sv.detC n AA = 6 ∧ Sv.detV n AA = 0) := HF.out
            go_wp2_with fail
            refine (FI.out _).mono ?_
            rintro e' w9 ⟨rfl, hw9⟩
            subst hw9
            go_wp2
            go_ret2
            exact ⟨0, by rw [HE.out.1, HG.out.1]; rfl, by decide, by rw [HE.out.2, HG.out.2]; decide, KB.out⟩
          · have HG : Hid (Sv.detC n AA = 0 ∧ Sv.detV n AA = Sv.dd n AA p) := HF.out
            go_wp2_with fail
            refine (FI.out _).mono ?_
            rintro e' w9 ⟨rfl, hw9⟩
            subst hw9
            go_wp2
            go_ret2
            exact ⟨d, by rw [HE.out.1, HG.out.1]; rfl, hd, by rw [HE.out.2, HG.out.2]; exact HQ.out, KB.out⟩
        · have HG : Hid (Sv.detC n AA = 6 ∧ Sv.detV n AA = 0) := HF.out
          go_wp2_with fail
          refine (FI.out _).mono ?_
          rintro e' w9 ⟨rfl, hw9⟩
          subst hw9
          go_wp2
          go_ret2
          exact ⟨0, by rw [HE.out.1, HG.out.1]; rfl, by decide, by rw [HE.out.2, HG.out.2]; decide, KB.out⟩
  · have HE : Hid (Sv.detE n l A = Sv.chk n l A ∧ Sv.detX n l A = 0) := by show _ ∧ _; unfold Sv.detE Sv.detX; rw [if_neg z, if_neg z]; exact ⟨rfl, rfl⟩
    have z2 : (Sv.chk n l A == 0) = false := by rw [beq_eq_false_iff_ne]; exact z
    clear z
    go_wp2
    go_ret2
    exact ⟨0, by rw [HE.out.1]; rfl, by decide, by rw [HE.out.2]; decide, Bw.refl _⟩
end Go.Proofs.Ytjfkdmddfeeheaa
/-
  OWN TEXT: the reference's Solve.
-/

namespace Go.Proofs.Ytjfkdmddfeeheaa
open Go.ChangeShapes Go.WideShapes Go.ChangeAt Go.RowKit
set_option linter.unusedVariables false
attribute [local go_sem] frombits_call tobits_call run_neg

attribute [local go_sem] stof14
theorem Sv.solE_of' {n nb : Nat} {l : Nat → Nat} {A : Sv.M} {b : Nat → Nat} {c : Int} (h : Sv.chkA n l A 1 (fun _ => nb) (fun _ => b) = c) (h0 : c ≠ 0) : Sv.solE n l A nb b = c := by unfold Sv.solE; rw [h, if_neg h0]
theorem Sv.rs_same (n : Nat) (b : Nat → Nat) : Sv.rs n n b = b := by funext i; unfold Sv.rs; rw [if_pos rfl]
theorem Sv.chkA_one (n : Nat) (l : Nat → Nat) (A : Sv.M) (nb : Nat) (b : Nat → Nat) (h : Sv.chk n l A = 0) : Sv.chkA n l A 1 (fun _ => nb) (fun _ => b) = Sv.chkL n nb b := by
  rw [Sv.chkA_yes h]
  show (if (0 : Int) = 0 then Sv.chkL n nb b else 0) = _
  rw [if_pos rfl]
set_option maxHeartbeats 8000000 in
theorem rsolve14 {w : World} {va vb : Value} {n nb : Nat} {l : Nat → Nat} {A : Sv.M} {b : Nat → Nat} (ha : Sv.Lm w va n l A) (hb : Sv.Ls w vb nb b) (hn : n < 1000000) (hnb : nb < 1000000) :
    Calls Try.prog 17 #[va, vb] w fun e w' => ∃ v, Sv.Pr e v (Sv.solE n l A nb b) ∧ Bw w w' ∧ ((Sv.solE n l A nb b ≠ 0 ∧ v = .slice none 0 0) ∨ (Sv.solE n l A nb b = 0 ∧ ∃ B, v = .slice (some ⟨B, 0, none⟩) n n ∧ Sv.Rw w' w.heap.size B n n (Sv.solX n A b))) := by
  have HA := Sv.hid (And.intro ha hb)
  have C := Sv.hid (rcheck14 ha hn)
  by_cases z : Sv.chk n l A = 0
  · obtain ⟨⟨hn0, hn1⟩, hl, _⟩ := Sv.chk_zero z
    have HK := Sv.hid (Sv.chkA_one n l A nb b z)
    rw [z] at C
    have L := Sv.hid (rlist14 n hb hnb hn)
    obtain ⟨ab, ao, ac, rfl, hac, habl, ha⟩ := ha.resolve_left (fun h => by omega)
    by_cases z2 : Sv.chkL n nb b = 0
    · have hnn : nb = n := by
        unfold Sv.chkL at z2
        split at z2
        · assumption
        · cases z2
      subst hnn
      rw [z2] at L
      have HE : Hid (Sv.solE nb l A nb b = if Sv.good nb (Sv.aug nb A b) nb then (if Sv.fin (Sv.solX nb A b) nb then 0 else 141) else 141) := by show _ = _; unfold Sv.solE; rw [HK.out, if_pos z2]
      have ST := Sv.hid (rsteps14 (ac := ac) habl ha hl hb hn0 hn1)
      rw [Sv.rs_same] at ST
      have HX : Hid (Sv.solX nb A b = Sv.bx (Sv.st nb (Sv.aug nb A b) nb) nb nb) := rfl
      clear ha HA hac habl hb z z2 HK
      go_enter Try.func17, Try.ntmps17
      go_wp2_with fail
      refine C.out.mono ?_
      rintro e' w1 ⟨rfl, hw1⟩
      subst hw1
      clear C
      go_wp2_with fail
      refine L.out.mono ?_
      rintro e' w1' ⟨rfl, hw1⟩
      subst hw1
      clear L
      go_wp2_with fail
      refine ST.out.mono ?_
      intro e' w2 h
      obtain ⟨R, cR, Bb, cB, Br, cr, Bp, cp, Bo, co, p, ok, rfl, hbw, hp0, hpn, c, f, X, Bf, G, hA, hB, hR, hP, hO, hc⟩ := h.form hn0
      have ba := Sv.bw_new w2 (.cells #[.slice (some ⟨R, 0, none⟩) nb cR, .slice (some ⟨Bb, 0, none⟩) nb cB, .slice (some ⟨Br, 0, none⟩) nb cr, .slice (some ⟨Bp, 0, none⟩) p cp, .slice (some ⟨Bo, 0, none⟩) p co, .bool ok] 85)
      have hD := Sv.Dc.made w2 (.slice (some ⟨R, 0, none⟩) nb cR) (.slice (some ⟨Bb, 0, none⟩) nb cB) (.slice (some ⟨Br, 0, none⟩) nb cr) (.slice (some ⟨Bp, 0, none⟩) p cp) (.slice (some ⟨Bo, 0, none⟩) p co) (.bool ok) 85
      rcases hc with ⟨rfl, hpe, hg, rfl, hBf, _⟩ | ⟨rfl, K, hK, hpe, hg, hbd⟩
      · have HE2 : Hid (Sv.solE nb l A nb b = if Sv.fin (Sv.solX nb A b) nb then 0 else 141) := by show _ = _; rw [HE.out, if_pos hg]
        obtain ⟨GG, hGG⟩ : ∃ GG, Sv.st nb (Sv.aug nb A b) nb = GG := ⟨_, rfl⟩
        rw [hGG] at hA hBf HX
        have hB2 := hB.ext (G := fun i => GG i nb) hBf
        have KM := Sv.hid (And.intro (hA.bw ba) (And.intro (hB2.bw ba) (And.intro hD (bw_trans hbw ba))))
        have hmk := Sv.makeF (nb : Int) (nb : Int) nb nb rfl rfl (by omega) (by omega)
        have D5 := hD.2.2.2.2.2.2.1
        clear hA hB hB2 hR hP hO h ST hpe hg hBf hGG HE
        have hbw0 := bw_trans hbw ba
        have b1 := Sv.bw_new (w2.alloc (.cells #[.slice (some ⟨R, 0, none⟩) nb cR, .slice (some ⟨Bb, 0, none⟩) nb cB, .slice (some ⟨Br, 0, none⟩) nb cr, .slice (some ⟨Bp, 0, none⟩) p cp, .slice (some ⟨Bo, 0, none⟩) p co, .bool true] 85)) (.cells (Sv.zf nb) 25)
        have hw1 := Sv.Rw.made (w2.alloc (.cells #[.slice (some ⟨R, 0, none⟩) nb cR, .slice (some ⟨Bb, 0, none⟩) nb cB, .slice (some ⟨Br, 0, none⟩) nb cr, .slice (some ⟨Bp, 0, none⟩) p cp, .slice (some ⟨Bo, 0, none⟩) p co, .bool true] 85)) (base := w1'.heap.size) hbw0.size nb nb (by omega) (by omega)
        have z0 : ∀ (w : World) (o : Obj), (w.alloc o).heap.size = w.heap.size + 1 := fun w o => by simp
        obtain ⟨hA, hB, hD', hbw1⟩ := KM.out
        have hlts : R < w2.heap.size + 1 ∧ Bb < w2.heap.size + 1 ∧ ∀ i, i < nb → f i < w2.heap.size + 1 := by
          have q1 := (hA.own.lt R rfl).2
          have q2 := hB.lt.2
          have q3 := fun i (hi : i < nb) => (hA.row i hi).lt.2
          rw [z0] at q1 q2
          refine ⟨q1, q2, fun i hi => ?_⟩
          have := q3 i hi
          rw [z0] at this
          exact this
        have HW := Sv.hid (And.intro hw1 (And.intro (hA.bw b1) (And.intro (hB.bw b1) (And.intro (hD'.bw b1) (bw_trans hbw1 b1)))))
        rw [z0] at HW
        clear hw1 b1 hA hB hD' hbw1 hbw0 hbw ba KM hD z0
        go_wp2
        clear hmk D5
        generalize (w2.alloc (.cells #[.slice (some ⟨R, 0, none⟩) nb cR, .slice (some ⟨Bb, 0, none⟩) nb cB, .slice (some ⟨Br, 0, none⟩) nb cr, .slice (some ⟨Bp, 0, none⟩) p cp, .slice (some ⟨Bo, 0, none⟩) p co, .bool true] 85)).alloc (.cells (Sv.zf nb) 25) = W0 at HW ⊢
        obtain ⟨B, eB⟩ : ∃ B, w2.heap.size + 1 = B := ⟨_, rfl⟩
        obtain ⟨D, eD⟩ : ∃ D, w2.heap.size = D := ⟨_, rfl⟩
        rw [eB, eD] at HW
        rw [eB, eD]
        have HF : Hid (D ≠ B ∧ R ≠ B ∧ Bb ≠ B ∧ ∀ i, i < nb → f i ≠ B) := ⟨by omega, by omega, by omega, fun i hi => by have := hlts.2.2 i hi; omega⟩
        clear eB eD hlts
        have OT : Hid (∀ wz, W0.grownBy wz (some B) → Sv.Mr wz w1'.heap.size (.slice (some ⟨R, 0, none⟩) nb cR) nb nb c f GG ∧ Sv.Rw wz w1'.heap.size Bb nb cB (fun i => GG i nb) ∧ Sv.Dc wz D (.slice (some ⟨R, 0, none⟩) nb cR) (.slice (some ⟨Bb, 0, none⟩) nb cB) (.slice (some ⟨Br, 0, none⟩) nb cr) (.slice (some ⟨Bp, 0, none⟩) p cp) (.slice (some ⟨Bo, 0, none⟩) p co) (.bool true) ∧ Bw w1' wz) := fun wz g => by
          obtain ⟨h1, h2, h3, h4, h5⟩ := HW.out
          obtain ⟨f1, f2, f3, f4⟩ := HF.out
          exact ⟨h2.gb g (Or.inr (by simp only [Value.ownBlock, ne_eq, Option.some.injEq]; exact f2)) (fun i hi => by simp only [ne_eq, Option.some.injEq]; exact f4 i hi), h3.gb g (by simp only [ne_eq, Option.some.injEq]; exact f3), h4.gb g (by simp only [ne_eq, Option.some.injEq]; exact f1), Sv.gb_below h5 g h5.size h1.lt.1⟩
        go_loopw [10] (fun v wr => ∃ q : Nat, q ≤ nb ∧ v = .int .i64 ((nb : Int) - 1 - q) ∧ Sv.Rw wr w1'.heap.size B nb nb (Sv.bx GG nb q) ∧ W0.grownBy wr (some B)) (fun v _ => (intOf v + 1).toNat)
        case atStart => exact ⟨0, Nat.zero_le _, by simp, HW.out.1, World.grownBy.refl _ _⟩
        case round =>
          obtain ⟨q, hq, rfl, hX, hgr⟩ := hrel
          by_cases hq1 : q < nb
          · obtain ⟨i, hi⟩ : ∃ i, i = nb - 1 - q := ⟨_, rfl⟩
            have hs : (nb : Int) - 1 - (q : Int) = (i : Int) := by omega
            rw [hs]
            have hi0 : (0 : Int) ≤ i := by omega
            have hi2 : (i : Int) < nb := by omega
            have hin : i < nb := by omega
            have HI := Sv.hid hi
            obtain ⟨hM, hB, hD, hbw⟩ := OT.out _ hgr
            have d1 := hD.2.2.1
            obtain ⟨x0, e0, hx0, q0⟩ := hB.cell hin
            have Q0 := Sv.hid q0
            have KX := Sv.hid (And.intro hX hgr)
            clear hX hgr hM hB hD hbw q0 hi hs
            go_wp2
            clear d1 e0
            go_loopw [11, 12] (fun s v wr => ∃ (u sx : Nat), u ≤ nb - 1 - i ∧ v = .int .i64 ((i + 1 + u : Nat) : Int) ∧ s = .float .f64 sx ∧ sx < 18446744073709551616 ∧ Fl.bitsF sx = Sv.bsum GG nb i (Sv.bx GG nb q) u ∧ Sv.Rw wr w1'.heap.size B nb nb (Sv.bx GG nb q) ∧ W0.grownBy wr (some B)) (fun _ v _ => nb - (intOf v).toNat)
            case atStart => exact ⟨0, x0, Nat.zero_le _, by simp, rfl, hx0, Q0.out, KX.out.1, KX.out.2⟩
            case round =>
              clear KX
              obtain ⟨u, sx, hu, rfl, rfl, hsx, hqq, hX, hgr⟩ := hrel
              obtain ⟨j, hj⟩ : ∃ j, j = i + 1 + u := ⟨_, rfl⟩
              rw [← hj]
              have HJ := Sv.hid hj
              have HQ := Sv.hid hqq
              by_cases hu1 : u < nb - 1 - i
              · have bd : Bw wr wr.drew := (Bw.refl wr).drew
                replace hX := hX.bw bd
                replace hgr := hgr.trans (Sv.gb_bw bd _)
                obtain ⟨hM, hB, hD, hbw⟩ := OT.out _ hgr
                have hj2 : (j : Int) < nb := by omega
                obtain ⟨x, e2, hx, q1⟩ := (hM.row i hin).cell (j := j) (by omega)
                obtain ⟨y, e3, hy, q2⟩ := hX.cell (j := j) (by omega)
                have LT : Hid (D < wr.drew.heap.size ∧ R < wr.drew.heap.size ∧ f i < wr.drew.heap.size ∧ B < wr.drew.heap.size) := ⟨hD.1, (hM.own.lt R rfl).2, (hM.row i hin).lt.2, hX.lt.2⟩
                have S0 : wr.drew.cell? ⟨D, 0, none⟩ = some (.slice (some ⟨R, 0, none⟩) nb cR) ∧ wr.drew.cell? ⟨R, i, none⟩ = some (.slice (some ⟨f i, 0, none⟩) nb (c i)) ∧ wr.drew.cell? ⟨f i, j, none⟩ = some (.float .f64 x) ∧ wr.drew.cell? ⟨B, j, none⟩ = some (.float .f64 y) := ⟨hD.2.1, hM.cell hin, e2, e3⟩
                obtain ⟨pr, w7, hp1, hp2, E7, b7⟩ := Sv.run Sv.iMul x y wr.drew
                obtain ⟨r, w8, hr1, hr2, E8, b8⟩ := Sv.run Sv.iSub sx pr w7
                have S7 : w7.cell? ⟨D, 0, none⟩ = some (.slice (some ⟨R, 0, none⟩) nb cR) ∧ w7.cell? ⟨R, i, none⟩ = some (.slice (some ⟨f i, 0, none⟩) nb (c i)) ∧ w7.cell? ⟨f i, j, none⟩ = some (.float .f64 x) ∧ w7.cell? ⟨B, j, none⟩ = some (.float .f64 y) := ⟨(Below.cell b7 (p := ⟨D, 0, none⟩) LT.out.1).trans S0.1, (Below.cell b7 (p := ⟨R, i, none⟩) LT.out.2.1).trans S0.2.1, (Below.cell b7 (p := ⟨f i, j, none⟩) LT.out.2.2.1).trans S0.2.2.1, (Below.cell b7 (p := ⟨B, j, none⟩) LT.out.2.2.2).trans S0.2.2.2⟩
                have S8 : w8.cell? ⟨D, 0, none⟩ = some (.slice (some ⟨R, 0, none⟩) nb cR) ∧ w8.cell? ⟨R, i, none⟩ = some (.slice (some ⟨f i, 0, none⟩) nb (c i)) ∧ w8.cell? ⟨f i, j, none⟩ = some (.float .f64 x) ∧ w8.cell? ⟨B, j, none⟩ = some (.float .f64 y) := ⟨(Below.cell b8 (p := ⟨D, 0, none⟩) (Nat.lt_of_lt_of_le LT.out.1 b7.size)).trans S7.1, (Below.cell b8 (p := ⟨R, i, none⟩) (Nat.lt_of_lt_of_le LT.out.2.1 b7.size)).trans S7.2.1, (Below.cell b8 (p := ⟨f i, j, none⟩) (Nat.lt_of_lt_of_le LT.out.2.2.1 b7.size)).trans S7.2.2.1, (Below.cell b8 (p := ⟨B, j, none⟩) (Nat.lt_of_lt_of_le LT.out.2.2.2 b7.size)).trans S7.2.2.2⟩
                rw [hqq, hp2, q1, q2] at hr2
                have HN : Hid (Fl.bitsF r = Sv.bsum GG nb i (Sv.bx GG nb q) (u + 1)) := by
                  show Fl.bitsF r = Sv.op .sub (Sv.bsum GG nb i (Sv.bx GG nb q) u) (Sv.op .mul (GG i (i + 1 + u)) (Sv.bx GG nb q (i + 1 + u)))
                  rw [hr2, HJ.out]
                have KX := Sv.hid (And.intro ((hX.bw b7).bw b8) ((hgr.trans (Sv.gb_bw b7 _)).trans (Sv.gb_bw b8 _)))
                clear hM hB hD hbw hX hgr e2 e3 q1 q2 hp2 hr2 b7 b8 LT hqq hj bd
                go_wp2_with fail
                refine wp_region_K (fun w' => w'.cell? ⟨D, 0, none⟩ = some (.slice (some ⟨R, 0, none⟩) nb cR) ∧ w'.cell? ⟨R, i, none⟩ = some (.slice (some ⟨f i, 0, none⟩) nb (c i)) ∧ w'.cell? ⟨f i, j, none⟩ = some (.float .f64 x) ∧ w'.cell? ⟨B, j, none⟩ = some (.float .f64 y)) 15 16 #[false, false, false, false, false, false, false, false, false, false, false, false, false, false, false, false] (by kernel_rfl) (by kernel_rfl) (by kernel_rfl) ?_
                generalize wr.drew = W at *
                refine wpAnyK_take 0 54 (v := ?v0) rfl (by kernel_rfl) (by kernel_rfl) (by kernel_rfl) (by kernel_rfl) (by kernel_rfl) (fun _ _ _ h => h) rfl (Or.inl ⟨by rfl, ?h0⟩) (by assumption) ?r0
                case h0 => (intro w hSw; go_simp; with_reducible rfl)
                simp only [Act.put, List.setIfInBounds_toArray, List.set_cons_zero, List.set_cons_succ]
                refine wpAnyK_take 1 55 (v := ?v1) rfl (by kernel_rfl) (by kernel_rfl) (by kernel_rfl) (by kernel_rfl) (by kernel_rfl) (fun _ _ _ h => h) rfl (Or.inl ⟨by rfl, ?h1⟩) (by assumption) ?r1
                case h1 => (intro w hSw; go_simp; with_reducible rfl)
                simp only [Act.put, List.setIfInBounds_toArray, List.set_cons_zero, List.set_cons_succ]
                refine wpAnyK_take 2 56 (v := ?v2) rfl (by kernel_rfl) (by kernel_rfl) (by kernel_rfl) (by kernel_rfl) (by kernel_rfl) (fun _ _ _ h => h) rfl (Or.inl ⟨by rfl, ?h2⟩) (by assumption) ?r2
                case h2 => (intro w hSw; go_simp; with_reducible rfl)
                simp only [Act.put, List.setIfInBounds_toArray, List.set_cons_zero, List.set_cons_succ]
                refine wpAnyK_take 3 57 (v := ?v3) rfl (by kernel_rfl) (by kernel_rfl) (by kernel_rfl) (by kernel_rfl) (by kernel_rfl) (fun _ _ _ h => h) rfl (Or.inl ⟨by rfl, ?h3⟩) (by assumption) ?r3
                case h3 => (intro w hSw; go_simp; with_reducible rfl)
                simp only [Act.put, List.setIfInBounds_toArray, List.set_cons_zero, List.set_cons_succ]
                refine wpAnyK_take 4 58 (v := ?v4) rfl (by kernel_rfl) (by kernel_rfl) (by kernel_rfl) (by kernel_rfl) (by kernel_rfl) (fun _ _ _ h => h) rfl (Or.inl ⟨by rfl, ?h4⟩) (by assumption) ?r4
                case h4 => (intro w hSw; go_simp; with_reducible rfl)
                simp only [Act.put, List.setIfInBounds_toArray, List.set_cons_zero, List.set_cons_succ]
                refine wpAnyK_take 5 59 (v := ?v5) rfl (by kernel_rfl) (by kernel_rfl) (by kernel_rfl) (by kernel_rfl) (by kernel_rfl) (fun _ _ _ h => h) rfl (Or.inl ⟨by rfl, ?h5⟩) (by assumption) ?r5
                case h5 => (intro w hSw; go_simp; with_reducible rfl)
                simp only [Act.put, List.setIfInBounds_toArray, List.set_cons_zero, List.set_cons_succ]
                refine wpAnyK_take 6 60 (v := ?v6) rfl (by kernel_rfl) (by kernel_rfl) (by kernel_rfl) (by kernel_rfl) (by kernel_rfl) (fun _ _ _ h => h) rfl (Or.inl ⟨by rfl, ?h6⟩) (by assumption) ?r6
                case h6 => (intro w hSw; go_simp; with_reducible rfl)
                simp only [Act.put, List.setIfInBounds_toArray, List.set_cons_zero, List.set_cons_succ]
                refine wpAnyK_take 7 61 (v := ?v7) rfl (by kernel_rfl) (by kernel_rfl) (by kernel_rfl) (by kernel_rfl) (by kernel_rfl) (fun _ _ _ h => h) rfl (Or.inl ⟨by rfl, ?h7⟩) (by assumption) ?r7
                case h7 => (intro w hSw; go_simp; with_reducible rfl)
                simp only [Act.put, List.setIfInBounds_toArray, List.set_cons_zero, List.set_cons_succ]
                refine wpAnyK_take 8 62 (v := ?v8) rfl (by kernel_rfl) (by kernel_rfl) (by kernel_rfl) (by kernel_rfl) (by kernel_rfl) (fun _ _ _ h => h) rfl (Or.inl ⟨by rfl, ?h8⟩) (by assumption) ?r8
                case h8 => (intro w hSw; go_simp; with_reducible rfl)
                simp only [Act.put, List.setIfInBounds_toArray, List.set_cons_zero, List.set_cons_succ]
                refine wpAnyK_take 9 63 (v := ?v9) rfl (by kernel_rfl) (by kernel_rfl) (by kernel_rfl) (by kernel_rfl) (by kernel_rfl) (fun _ _ _ h => h) rfl (Or.inl ⟨by rfl, ?h9⟩) (by assumption) ?r9
                case h9 => (intro w hSw; go_simp; with_reducible rfl)
                simp only [Act.put, List.setIfInBounds_toArray, List.set_cons_zero, List.set_cons_succ]
                refine wpAnyK_take 10 64 (v := ?v10) rfl (by kernel_rfl) (by kernel_rfl) (by kernel_rfl) (by kernel_rfl) (by kernel_rfl) (fun _ _ _ h => h) rfl (Or.inl ⟨by rfl, ?h10⟩) (by assumption) ?r10
                case h10 => (intro w hSw; go_simp; with_reducible rfl)
                simp only [Act.put, List.setIfInBounds_toArray, List.set_cons_zero, List.set_cons_succ]
                refine wpAnyK_take 11 65 (v := ?v11) rfl (by kernel_rfl) (by kernel_rfl) (by kernel_rfl) (by kernel_rfl) (by kernel_rfl) (fun _ _ _ h => h) rfl (Or.inl ⟨by rfl, ?h11⟩) (by assumption) ?r11
                case h11 => (intro w hSw; go_simp; with_reducible rfl)
                simp only [Act.put, List.setIfInBounds_toArray, List.set_cons_zero, List.set_cons_succ]
                refine wpAnyK_take 12 66 (v := ?v12) rfl (by kernel_rfl) (by kernel_rfl) (by kernel_rfl) (by kernel_rfl) (by kernel_rfl) (fun _ _ _ h => h) rfl (Or.inl ⟨by rfl, ?h12⟩) (by assumption) ?r12
                case h12 => (intro w hSw; go_simp; with_reducible rfl)
                simp only [Act.put, List.setIfInBounds_toArray, List.set_cons_zero, List.set_cons_succ]
                refine wpAnyK_one 13 (by kernel_rfl) rfl (fun K hK => ?_)
                go_simp
                refine hK.out _ _ (fun _ _ => S7) ?_
                clear hK K
                simp only [List.setIfInBounds_toArray, List.set_cons_zero, List.set_cons_succ]
                refine wpAnyK_one 14 (by kernel_rfl) rfl (fun K hK => ?_)
                go_simp
                refine hK.out _ _ (fun _ _ => S8) ?_
                clear hK K
                simp only [List.setIfInBounds_toArray, List.set_cons_zero, List.set_cons_succ]
                refine wpAnyK_one 15 (by kernel_rfl) rfl (fun K hK => ?_)
                go_simp
                refine hK.out _ _ (fun h => absurd rfl h) ?_
                clear hK K
                simp only [List.setIfInBounds_toArray, List.set_cons_zero, List.set_cons_succ]
                refine wpAnyK_done (by kernel_rfl) ?_ _
                clear S0 S7 S8 E7 E8
                go_wp2
                go_roundw
                case rel => exact ⟨u + 1, r, by omega, by have := HJ.out; simp; omega, rfl, hr1, HN.out, KX.out.1, KX.out.2⟩
                case measure => simp [intOf]; omega
              · have hu3 : u = nb - 1 - i := by omega
                have hj4 : ¬ (j : Int) < nb := by omega
                obtain ⟨hM, hB, hD, hbw⟩ := OT.out _ hgr
                obtain ⟨x, e2, hx, q1⟩ := (hM.row i hin).cell (j := i) (by omega)
                have d0 := hD.2.1
                have e1 := hM.cell hin
                obtain ⟨r, w8, hr1, hr2, E8, b8⟩ := Sv.run Sv.iQuo sx x wr
                rw [hqq, q1, hu3] at hr2
                have hX8 := hX.bw b8
                obtain ⟨y, e3, hy, _⟩ := hX8.cell (j := i) hin
                have e4 := hX8.frozen i
                obtain ⟨z1, g1⟩ := hX8.set i r hr1
                have KX : Hid (Sv.Rw (w8.setCell ⟨B, i, none⟩ (.float .f64 r)) w1'.heap.size B nb nb (Sv.bx GG nb (q + 1)) ∧ W0.grownBy (w8.setCell ⟨B, i, none⟩ (.float .f64 r)) (some B)) := by
                  refine ⟨z1.ext (fun t ht => ?_), (hgr.trans (Sv.gb_bw b8 _)).trans g1⟩
                  have hI := HI.out
                  show _ = if t = nb - 1 - q then _ else _
                  rw [← hI]
                  by_cases z : t = i
                  · subst z
                    rw [if_pos rfl, if_pos rfl, hr2]
                  · rw [if_neg z, if_neg z]
                clear hM hB hD hbw hX hX8 hgr q1 hr2 b8 z1 g1 hqq hj hu3
                go_wp2
                go_roundw
                case rel => exact ⟨q + 1, by omega, by have := HI.out; simp; omega, KX.out.1, KX.out.2⟩
                case measure => simp [intOf]
          · have hq3 : q = nb := by omega
            have hneg : ¬ (0 : Int) ≤ (nb : Int) - 1 - (q : Int) := by omega
            rw [hq3] at hX
            obtain ⟨hM, hB, hD, hbw⟩ := OT.out _ hgr
            have KX := Sv.hid (And.intro hX hbw)
            clear hX hgr hM hB hD hbw HW HF OT
            go_wp2
            go_loopw [13] (fun v ws => ∃ k : Nat, k ≤ nb ∧ v = .int .i64 k ∧ Sv.fin (Sv.bx GG nb nb) k ∧ ws = wr) (fun v _ => nb - (intOf v).toNat)
            case atStart => exact ⟨0, Nat.zero_le _, rfl, fun j hj => absurd hj (by omega), rfl⟩
            case round =>
              obtain ⟨k, hk, rfl, hf, hw⟩ := hrel
              subst hw
              have HFN := Sv.hid hf
              clear hf
              by_cases hk1 : k < nb
              · have hk2 : (k : Int) < nb := by omega
                obtain ⟨x, e1, hx, q1⟩ := KX.out.1.cell hk1
                have Q1 := Sv.hid q1
                clear q1
                cases y : Fl.finB x
                · have HE3 : Hid (Sv.solE nb l A nb b = 141) := by
                    show _ = _
                    rw [HE2.out, if_neg (fun g => by rw [HX.out] at g; have := g k hk1; rw [← Q1.out, Sv.fin_c, y] at this; cases this)]
                  go_wp2_with fail
                  refine (rfinite_any x _).mono ?_
                  rintro e' w9 ⟨rfl, hw9⟩
                  subst hw9
                  rw [y]
                  go_wp2
                  go_ret2
                  exact ⟨_, by rw [HE3.out]; rfl, KX.out.2, Or.inl ⟨by rw [HE3.out]; decide, rfl⟩⟩
                · go_wp2_with fail
                  refine (rfinite_any x _).mono ?_
                  rintro e' w9 ⟨rfl, hw9⟩
                  subst hw9
                  rw [y]
                  go_wp2
                  go_roundw
                  case rel =>
                    refine ⟨k + 1, by omega, by simp, fun j hj => ?_, trivial⟩
                    by_cases t : j = k
                    · subst t; rw [← Q1.out, Sv.fin_c, y]
                    · exact HFN.out j (by omega)
                  case measure => simp [intOf]; omega
              · have hk3 : k = nb := by omega
                have hk4 : ¬ (k : Int) < nb := by omega
                have HE3 : Hid (Sv.solE nb l A nb b = 0) := by
                  show _ = _
                  rw [HE2.out, if_pos (by rw [HX.out]; have := HFN.out; rw [hk3] at this; exact this)]
                clear hk3
                go_wp2
                go_ret2
                exact ⟨_, by rw [HE3.out]; rfl, KX.out.2, Or.inr ⟨HE3.out, B, rfl, by rw [HX.out]; exact KX.out.1⟩⟩
      · have HE2 : Hid (Sv.solE nb l A nb b = 141) := by show _ = _; rw [HE.out, if_neg (fun g => by have := g K hK; rw [hbd] at this; cases this)]
        have KB := Sv.hid (bw_trans hbw ba)
        clear hA hB hR hP hO h ST hD hpe hg hbd hbw ba
        go_wp2
        go_ret2
        exact ⟨_, by rw [HE2.out]; rfl, KB.out, Or.inl ⟨by rw [HE2.out]; decide, rfl⟩⟩
    · have HE : Hid (Sv.solE n l A nb b = Sv.chkL n nb b) := by show _ = _; unfold Sv.solE; rw [HK.out, if_neg z2]
      have z3 : (Sv.chkL n nb b == 0) = false := by rw [beq_eq_false_iff_ne]; exact z2
      have HZ := Sv.hid z2
      clear ha HA hac habl hb z z2 HK
      go_enter Try.func17, Try.ntmps17
      go_wp2_with fail
      refine C.out.mono ?_
      rintro e' w1 ⟨rfl, hw1⟩
      subst hw1
      clear C
      go_wp2_with fail
      refine L.out.mono ?_
      rintro e' w1' ⟨rfl, hw1⟩
      subst hw1
      clear L
      go_wp2
      go_ret2
      exact ⟨_, by rw [HE.out]; rfl, Bw.refl _, Or.inl ⟨by rw [HE.out]; exact HZ.out, rfl⟩⟩
  · have HE : Hid (Sv.solE n l A nb b = Sv.chk n l A) := by show _ = _; exact Sv.solE_of' (Sv.chkA_no rfl z) z
    have z3 : (Sv.chk n l A == 0) = false := by rw [beq_eq_false_iff_ne]; exact z
    have HZ := Sv.hid z
    clear ha HA hb z
    go_enter Try.func17, Try.ntmps17
    go_wp2_with fail
    refine C.out.mono ?_
    rintro e' w1 ⟨rfl, hw1⟩
    subst hw1
    clear C
    go_wp2
    go_ret2
    exact ⟨_, by rw [HE.out]; rfl, Bw.refl _, Or.inl ⟨by rw [HE.out]; exact HZ.out, rfl⟩⟩
end Go.Proofs.Ytjfkdmddfeeheaa
/-
  OWN TEXT: the reference's Off.
-/
namespace Go.Proofs.Ytjfkdmddfeeheaa
open Go.ChangeShapes Go.WideShapes Go.ChangeAt Go.RowKit
set_option linter.unusedVariables false
attribute [local go_sem] frombits_call tobits_call run_neg

attribute [local go_sem] stof14
namespace Sv
theorem offE_no {n nx nb : Nat} {l : Nat → Nat} {A : M} {X b : Nat → Nat} {c : Int} (h : chkA n l A 2 (two nx nb) (two X b) = c) (h0 : c ≠ 0) : offE n l A nx X nb b = c ∧ offX n l A nx X nb b = 0 := by
  unfold offE offX offK
  rw [h, if_neg h0, if_neg h0]
  exact ⟨rfl, rfl⟩
theorem chkA_two {n nx nb : Nat} {l : Nat → Nat} {A : M} {X b : Nat → Nat} (h : chk n l A = 0) : chkA n l A 2 (two nx nb) (two X b) = if chkL n nx X = 0 then chkL n nb b else chkL n nx X := by
  rw [chkA_yes h]
  show (if (if (0 : Int) = 0 then chkL n nx X else 0) = 0 then chkL n nb b else (if (0 : Int) = 0 then chkL n nx X else 0)) = _
  rw [if_pos rfl]
theorem chkL_len {n m : Nat} {b : Nat → Nat} (z : chkL n m b = 0) : m = n := by
  unfold chkL at z
  split at z
  · assumption
  · cases z
end Sv
set_option maxHeartbeats 8000000 in
theorem roff14 {w : World} {va vx vb : Value} {n nx nb : Nat} {l : Nat → Nat} {A : Sv.M} {X b : Nat → Nat} (ha : Sv.Lm w va n l A) (hx : Sv.Ls w vx nx X) (hb : Sv.Ls w vb nb b) (hn : n < 1000000) (hnx : nx < 1000000) (hnb : nb < 1000000) :
    Calls Try.prog 20 #[va, vx, vb] w fun e w' => ∃ x, e = .returned (.tuple #[.float .f64 x, .int .i64 (Sv.offE n l A nx X nb b)]) ∧ x < 18446744073709551616 ∧ Fl.bitsF x = Sv.offX n l A nx X nb b ∧ Bw w w' := by
  obtain ⟨vp, vn, vc, rfl⟩ : ∃ p k c, vb = .slice p k c := by rcases hb with ⟨⟨_, _, rfl, _⟩, _⟩ | ⟨_, _, _, rfl, _⟩ <;> exact ⟨_, _, _, rfl⟩
  obtain ⟨up, un, uc, rfl⟩ : ∃ p k c, vx = .slice p k c := by rcases hx with ⟨⟨_, _, rfl, _⟩, _⟩ | ⟨_, _, _, rfl, _⟩ <;> exact ⟨_, _, _, rfl⟩
  have HA := Sv.hid (And.intro ha (And.intro hx hb))
  have C := Sv.hid (rcheck14 ha hn)
  have L1 := Sv.hid (rlist14 n hx hnx hn)
  have L2 := Sv.hid (rlist14 n hb hnb hn)
  by_cases z : Sv.chk n l A = 0
  · obtain ⟨⟨hn0, hn1⟩, hl, _⟩ := Sv.chk_zero z
    have HK := Sv.hid (Sv.chkA_two (nx := nx) (nb := nb) (X := X) (b := b) z)
    rw [z] at C
    obtain ⟨ab, ao, ac, rfl, hac, habl, ha⟩ := ha.resolve_left (fun h => by omega)
    have HB := Sv.hid (And.intro ha (And.intro hl habl))
    clear ha hx hb hl habl hac z
    go_enter Try.func20, Try.ntmps20
    go_wp2_with fail
    refine C.out.mono ?_
    rintro e' w1 ⟨rfl, hw1⟩
    subst hw1
    clear C
    go_wp2_with fail
    refine L1.out.mono ?_
    rintro e' w1' ⟨rfl, hw1⟩
    subst hw1
    clear L1
    by_cases z1 : Sv.chkL n nx X = 0
    · have e1 := Sv.chkL_len z1
      rw [z1, if_pos rfl] at HK
      rw [z1]
      clear z1
      go_wp2_with fail
      refine L2.out.mono ?_
      rintro e' w1 ⟨rfl, hw1⟩
      subst hw1
      clear L2
      by_cases z2 : Sv.chkL n nb b = 0
      · have e2 := Sv.chkL_len z2
        rw [z2] at HK
        rw [z2]
        have HE : Hid (Sv.offE n l A nx X nb b = (if Fl.finB (Sv.offV n A X b n) then 0 else 6) ∧ Sv.offX n l A nx X nb b = (if Fl.finB (Sv.offV n A X b n) then Sv.offV n A X b n else 0)) := by
          show _ ∧ _
          unfold Sv.offE Sv.offX Sv.offK
          rw [if_pos HK.out, if_pos HK.out]
          exact ⟨rfl, rfl⟩
        clear z2 HK
        obtain ⟨ha, hx, hb⟩ := HA.out
        obtain ⟨xb, xo, xc, hxe, hxc, hrx⟩ := hx.resolve_left (fun h => by omega)
        obtain ⟨bb, bo, bc, hbe, hbc, hrb⟩ := hb.resolve_left (fun h => by omega)
        simp only [Value.slice.injEq] at hbe hxe
        obtain ⟨rfl, rfl, rfl⟩ := hbe
        obtain ⟨rfl, rfl, rfl⟩ := hxe
        subst e1
        have HRX := Sv.hid hrx
        have HRB := Sv.hid hrb
        have HNB := Sv.hid e2
        clear ha hx hb hrx hrb HA hxc hbc e2
        have hbw0 : Hid (Bw w1 w1) := Bw.refl _
        go_wp2
        go_loopw [9, 10] (fun v i wr => ∃ (k o : Nat), k ≤ un ∧ i = .int .i64 k ∧ v = .float .f64 o ∧ o < 18446744073709551616 ∧ Fl.bitsF o = Sv.offV un A X b k ∧ Bw w1 wr) (fun _ i _ => un - (intOf i).toNat)
        case atStart => exact ⟨0, 0, Nat.zero_le _, rfl, rfl, by decide, (show Fl.bitsF 0 = 0 by decide), Bw.refl _⟩
        case round =>
          obtain ⟨k, o, hk, rfl, rfl, ho, hq, hbw⟩ := hrel
          have HQ := Sv.hid hq
          clear hq
          by_cases hk1 : k < un
          · have hk2 : (k : Int) < un := by omega
            obtain ⟨ha, hl, habl⟩ := HB.out
            obtain ⟨r, e0, hr⟩ := ha k hk1
            rw [hl k hk1] at hr
            obtain ⟨rb, ro, rc, rfl, _, hr⟩ := hr.resolve_left (fun h => by omega)
            have HR := Sv.hid (And.intro hr (And.intro habl e0))
            have KX := Sv.hid hbw
            clear hr hbw ha hl habl e0
            go_wp2
            go_loopw [11, 12] (fun v i wr => ∃ (j sx : Nat), j ≤ un ∧ i = .int .i64 j ∧ v = .float .f64 sx ∧ sx < 18446744073709551616 ∧ Fl.bitsF sx = Sv.osum (A k) X j ∧ Bw w1 wr) (fun _ i _ => un - (intOf i).toNat)
            case atStart => exact ⟨0, 0, Nat.zero_le _, rfl, rfl, by decide, (show Fl.bitsF 0 = 0 by decide), KX.out⟩
            case round =>
              clear KX
              obtain ⟨j, sx, hj, rfl, rfl, hsx, hq, hbw⟩ := hrel
              have HS := Sv.hid hq
              clear hq
              by_cases hj1 : j < un
              · have hj2 : (j : Int) < un := by omega
                have hbw2 := bw_trans hbw (Bw.refl wr).drew
                obtain ⟨hr, habl, e0⟩ := HR.out
                obtain ⟨x, e1, hx, q1⟩ := (hr.bw hbw2).2 j hj1
                obtain ⟨y, e2, hy, q2⟩ := (HRX.out.bw hbw2).2 j hj1
                have LT : Hid (ab < wr.drew.heap.size ∧ rb < wr.drew.heap.size ∧ xb < wr.drew.heap.size) := ⟨Nat.lt_of_lt_of_le habl hbw2.size, (hr.bw hbw2).1, (HRX.out.bw hbw2).1⟩
                have S0 : wr.drew.cell? ⟨ab, ao + k, none⟩ = some (.slice (some ⟨rb, ro, none⟩) un rc) ∧ wr.drew.cell? ⟨rb, ro + j, none⟩ = some (.float .f64 x) ∧ wr.drew.cell? ⟨xb, xo + j, none⟩ = some (.float .f64 y) := ⟨(Below.cell hbw2 (p := ⟨ab, ao + k, none⟩) habl).trans e0, e1, e2⟩
                obtain ⟨pr, w7, hp1, hp2, E7, b7⟩ := Sv.run Sv.iMul x y wr.drew
                obtain ⟨r, w8, hr1, hr2, E8, b8⟩ := Sv.run Sv.iAdd sx pr w7
                have S7 : w7.cell? ⟨ab, ao + k, none⟩ = some (.slice (some ⟨rb, ro, none⟩) un rc) ∧ w7.cell? ⟨rb, ro + j, none⟩ = some (.float .f64 x) ∧ w7.cell? ⟨xb, xo + j, none⟩ = some (.float .f64 y) := ⟨(Below.cell b7 (p := ⟨ab, ao + k, none⟩) LT.out.1).trans S0.1, (Below.cell b7 (p := ⟨rb, ro + j, none⟩) LT.out.2.1).trans S0.2.1, (Below.cell b7 (p := ⟨xb, xo + j, none⟩) LT.out.2.2).trans S0.2.2⟩
                have S8 : w8.cell? ⟨ab, ao + k, none⟩ = some (.slice (some ⟨rb, ro, none⟩) un rc) ∧ w8.cell? ⟨rb, ro + j, none⟩ = some (.float .f64 x) ∧ w8.cell? ⟨xb, xo + j, none⟩ = some (.float .f64 y) := ⟨(Below.cell b8 (p := ⟨ab, ao + k, none⟩) (Nat.lt_of_lt_of_le LT.out.1 b7.size)).trans S7.1, (Below.cell b8 (p := ⟨rb, ro + j, none⟩) (Nat.lt_of_lt_of_le LT.out.2.1 b7.size)).trans S7.2.1, (Below.cell b8 (p := ⟨xb, xo + j, none⟩) (Nat.lt_of_lt_of_le LT.out.2.2 b7.size)).trans S7.2.2⟩
                have HN : Hid (Fl.bitsF r = Sv.osum (A k) X (j + 1)) := by
                  show Fl.bitsF r = Sv.op .add (Sv.osum (A k) X j) (Sv.op .mul (A k j) (X j))
                  rw [hr2, hp2, HS.out, q1, q2]
                have KX := Sv.hid (bw_trans (bw_trans hbw2 b7) b8)
                clear hbw hbw2 hr habl e0 e1 e2 q1 q2 hp2 hr2 b7 b8 LT
                go_wp2_with fail
                refine wp_region_K (fun w' => w'.cell? ⟨ab, ao + k, none⟩ = some (.slice (some ⟨rb, ro, none⟩) un rc) ∧ w'.cell? ⟨rb, ro + j, none⟩ = some (.float .f64 x) ∧ w'.cell? ⟨xb, xo + j, none⟩ = some (.float .f64 y)) 14 15 #[false, false, false, false, false, false, false, false, false, false, false, false, false, false, false] (by kernel_rfl) (by kernel_rfl) (by kernel_rfl) ?_
                generalize wr.drew = W at *
                refine wpAnyK_take 0 43 (v := ?v0) rfl (by kernel_rfl) (by kernel_rfl) (by kernel_rfl) (by kernel_rfl) (by kernel_rfl) (fun _ _ _ h => h) rfl (Or.inl ⟨by rfl, ?h0⟩) (by assumption) ?r0
                case h0 => (intro w hSw; go_simp; with_reducible rfl)
                simp only [Act.put, List.setIfInBounds_toArray, List.set_cons_zero, List.set_cons_succ]
                refine wpAnyK_take 1 44 (v := ?v1) rfl (by kernel_rfl) (by kernel_rfl) (by kernel_rfl) (by kernel_rfl) (by kernel_rfl) (fun _ _ _ h => h) rfl (Or.inl ⟨by rfl, ?h1⟩) (by assumption) ?r1
                case h1 => (intro w hSw; go_simp; with_reducible rfl)
                simp only [Act.put, List.setIfInBounds_toArray, List.set_cons_zero, List.set_cons_succ]
                refine wpAnyK_take 2 45 (v := ?v2) rfl (by kernel_rfl) (by kernel_rfl) (by kernel_rfl) (by kernel_rfl) (by kernel_rfl) (fun _ _ _ h => h) rfl (Or.inl ⟨by rfl, ?h2⟩) (by assumption) ?r2
                case h2 => (intro w hSw; go_simp; with_reducible rfl)
                simp only [Act.put, List.setIfInBounds_toArray, List.set_cons_zero, List.set_cons_succ]
                refine wpAnyK_take 3 46 (v := ?v3) rfl (by kernel_rfl) (by kernel_rfl) (by kernel_rfl) (by kernel_rfl) (by kernel_rfl) (fun _ _ _ h => h) rfl (Or.inl ⟨by rfl, ?h3⟩) (by assumption) ?r3
                case h3 => (intro w hSw; go_simp; with_reducible rfl)
                simp only [Act.put, List.setIfInBounds_toArray, List.set_cons_zero, List.set_cons_succ]
                refine wpAnyK_take 4 47 (v := ?v4) rfl (by kernel_rfl) (by kernel_rfl) (by kernel_rfl) (by kernel_rfl) (by kernel_rfl) (fun _ _ _ h => h) rfl (Or.inl ⟨by rfl, ?h4⟩) (by assumption) ?r4
                case h4 => (intro w hSw; go_simp; with_reducible rfl)
                simp only [Act.put, List.setIfInBounds_toArray, List.set_cons_zero, List.set_cons_succ]
                refine wpAnyK_take 5 48 (v := ?v5) rfl (by kernel_rfl) (by kernel_rfl) (by kernel_rfl) (by kernel_rfl) (by kernel_rfl) (fun _ _ _ h => h) rfl (Or.inl ⟨by rfl, ?h5⟩) (by assumption) ?r5
                case h5 => (intro w hSw; go_simp; with_reducible rfl)
                simp only [Act.put, List.setIfInBounds_toArray, List.set_cons_zero, List.set_cons_succ]
                refine wpAnyK_take 6 49 (v := ?v6) rfl (by kernel_rfl) (by kernel_rfl) (by kernel_rfl) (by kernel_rfl) (by kernel_rfl) (fun _ _ _ h => h) rfl (Or.inl ⟨by rfl, ?h6⟩) (by assumption) ?r6
                case h6 => (intro w hSw; go_simp; with_reducible rfl)
                simp only [Act.put, List.setIfInBounds_toArray, List.set_cons_zero, List.set_cons_succ]
                refine wpAnyK_take 7 50 (v := ?v7) rfl (by kernel_rfl) (by kernel_rfl) (by kernel_rfl) (by kernel_rfl) (by kernel_rfl) (fun _ _ _ h => h) rfl (Or.inl ⟨by rfl, ?h7⟩) (by assumption) ?r7
                case h7 => (intro w hSw; go_simp; with_reducible rfl)
                simp only [Act.put, List.setIfInBounds_toArray, List.set_cons_zero, List.set_cons_succ]
                refine wpAnyK_take 8 51 (v := ?v8) rfl (by kernel_rfl) (by kernel_rfl) (by kernel_rfl) (by kernel_rfl) (by kernel_rfl) (fun _ _ _ h => h) rfl (Or.inl ⟨by rfl, ?h8⟩) (by assumption) ?r8
                case h8 => (intro w hSw; go_simp; with_reducible rfl)
                simp only [Act.put, List.setIfInBounds_toArray, List.set_cons_zero, List.set_cons_succ]
                refine wpAnyK_take 9 52 (v := ?v9) rfl (by kernel_rfl) (by kernel_rfl) (by kernel_rfl) (by kernel_rfl) (by kernel_rfl) (fun _ _ _ h => h) rfl (Or.inl ⟨by rfl, ?h9⟩) (by assumption) ?r9
                case h9 => (intro w hSw; go_simp; with_reducible rfl)
                simp only [Act.put, List.setIfInBounds_toArray, List.set_cons_zero, List.set_cons_succ]
                refine wpAnyK_take 10 53 (v := ?v10) rfl (by kernel_rfl) (by kernel_rfl) (by kernel_rfl) (by kernel_rfl) (by kernel_rfl) (fun _ _ _ h => h) rfl (Or.inl ⟨by rfl, ?h10⟩) (by assumption) ?r10
                case h10 => (intro w hSw; go_simp; with_reducible rfl)
                simp only [Act.put, List.setIfInBounds_toArray, List.set_cons_zero, List.set_cons_succ]
                refine wpAnyK_take 11 54 (v := ?v11) rfl (by kernel_rfl) (by kernel_rfl) (by kernel_rfl) (by kernel_rfl) (by kernel_rfl) (fun _ _ _ h => h) rfl (Or.inl ⟨by rfl, ?h11⟩) (by assumption) ?r11
                case h11 => (intro w hSw; go_simp; with_reducible rfl)
                simp only [Act.put, List.setIfInBounds_toArray, List.set_cons_zero, List.set_cons_succ]
                refine wpAnyK_one 12 (by kernel_rfl) rfl (fun K hK => ?_)
                go_simp
                refine hK.out _ _ (fun _ _ => S7) ?_
                clear hK K
                simp only [List.setIfInBounds_toArray, List.set_cons_zero, List.set_cons_succ]
                refine wpAnyK_one 13 (by kernel_rfl) rfl (fun K hK => ?_)
                go_simp
                refine hK.out _ _ (fun _ _ => S8) ?_
                clear hK K
                simp only [List.setIfInBounds_toArray, List.set_cons_zero, List.set_cons_succ]
                refine wpAnyK_one 14 (by kernel_rfl) rfl (fun K hK => ?_)
                go_simp
                refine hK.out _ _ (fun h => absurd rfl h) ?_
                clear hK K
                simp only [List.setIfInBounds_toArray, List.set_cons_zero, List.set_cons_succ]
                refine wpAnyK_done (by kernel_rfl) ?_ _
                clear S0 S7 S8 E7 E8
                go_wp2
                go_roundw
                case rel => exact ⟨j + 1, r, by omega, by simp, rfl, hr1, HN.out, KX.out⟩
                case measure => simp [intOf]; omega
              · have hj3 : j = un := by omega
                obtain ⟨y, e2, hy, q2⟩ := (HRB.out.bw hbw).2 k (by have := HNB.out; omega)
                obtain ⟨r, w8, hr1, hr2, E8, b8⟩ := Sv.run Sv.iSub sx y wr
                rw [HS.out, q2, hj3] at hr2
                have HN : Hid (Fl.bitsF (Sv.mx o (Fl.rg r)) = Sv.offV un A X b (k + 1) ∧ Sv.mx o (Fl.rg r) < 18446744073709551616) := by
                  refine ⟨?_, Sv.mx_lt ho (by have := Fl.rg_lt r; omega)⟩
                  rw [Sv.mx_c, Sv.ab_c, hr2, HQ.out]
                  rfl
                have KX := Sv.hid (bw_trans hbw b8)
                have hbk : (k : Int) < vn := by have := HNB.out; omega
                have MX := Sv.hid (fun wz => max14 o (Fl.rg r) wz ho (by have := Fl.rg_lt r; omega))
                have AB := Sv.hid (fun wz => abs_any r wz hr1)
                clear hbw b8 hr2 q2
                subst hj3
                go_wp2_with fail
                refine (AB.out _).mono ?_
                rintro e' w9 ⟨rfl, hw9⟩
                subst hw9
                go_wp2_with fail
                refine (MX.out _).mono ?_
                rintro e' w9 ⟨rfl, hw9⟩
                subst hw9
                clear AB MX E8 e2
                generalize Sv.mx o (Fl.rg r) = mm at HN ⊢
                go_wp2
                go_roundw
                case rel => exact ⟨k + 1, mm, by omega, by simp, rfl, HN.out.2, HN.out.1, KX.out⟩
                case measure => simp [intOf]; omega
          · have hk3 : k = un := by omega
            have FI := Sv.hid (fun wz => rfinite_any o wz)
            rw [← Sv.fin_c o, HQ.out] at FI
            rw [hk3] at FI HQ
            have KX := Sv.hid hbw
            subst hk3
            generalize hfi : Fl.finB (Sv.offV k A X b k) = fi at FI HE
            clear hfi hbw
            cases fi
            · have HD3 : Hid (Sv.offE k l A k X vn b = 6 ∧ Sv.offX k l A k X vn b = 0) := HE.out
              go_wp2_with fail
              refine (FI.out _).mono ?_
              rintro e' w9 ⟨rfl, hw9⟩
              subst hw9
              go_wp2
              go_ret2
              exact ⟨0, by rw [HD3.out.1]; rfl, by decide, by rw [HD3.out.2]; decide, KX.out⟩
            · have HD3 : Hid (Sv.offE k l A k X vn b = 0 ∧ Sv.offX k l A k X vn b = Sv.offV k A X b k) := HE.out
              go_wp2_with fail
              refine (FI.out _).mono ?_
              rintro e' w9 ⟨rfl, hw9⟩
              subst hw9
              go_wp2
              go_ret2
              exact ⟨o, by rw [HD3.out.1]; rfl, ho, by rw [HD3.out.2]; exact HQ.out, KX.out⟩
      · have HE := Sv.hid (Sv.offE_no HK.out z2)
        generalize Sv.chkL n nb b = c at HE z2 ⊢
        have z3 : (c == 0) = false := by rw [beq_eq_false_iff_ne]; exact z2
        clear z2 HK HA HB
        go_wp2
        go_ret2
        exact ⟨0, by rw [HE.out.1]; rfl, by decide, by rw [HE.out.2]; decide, Bw.refl _⟩
    · rw [if_neg z1] at HK
      have HE := Sv.hid (Sv.offE_no HK.out z1)
      generalize Sv.chkL n nx X = c at HE z1 ⊢
      have z3 : (c == 0) = false := by rw [beq_eq_false_iff_ne]; exact z1
      clear z1 HK HA HB L2
      go_wp2
      go_ret2
      exact ⟨0, by rw [HE.out.1]; rfl, by decide, by rw [HE.out.2]; decide, Bw.refl _⟩
  · have HE := Sv.hid (Sv.offE_no (nx := nx) (nb := nb) (X := X) (b := b) (Sv.chkA_no rfl z) z)
    generalize Sv.chk n l A = c at HE z C ⊢
    have z3 : (c == 0) = false := by rw [beq_eq_false_iff_ne]; exact z
    clear z HA L1 L2 ha hx hb
    go_enter Try.func20, Try.ntmps20
    go_wp2_with fail
    refine C.out.mono ?_
    rintro e' w1 ⟨rfl, hw1⟩
    subst hw1
    go_wp2
    go_ret2
    exact ⟨0, by rw [HE.out.1]; rfl, by decide, by rw [HE.out.2]; decide, Bw.refl _⟩
end Go.Proofs.Ytjfkdmddfeeheaa
