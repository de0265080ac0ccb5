/-
 OWN TEXT: up to 3 rows of numbers up to 8: Det is near the determinant; where that is not nought the unknowns are numbers.
-/
import Derived.Test.YtjfkdmddfeeheaaJSwDToSwN
import Derived.Test.YtjfkdmddfeeheaaJSwAToSwC
import Derived.Test.YtjfkdmddfeeheaaJSvBToSvF
set_option linter.unusedVariables false
set_option exponentiation.threshold 3000
namespace Go.Proofs.Ytjfkdmddfeeheaa.Sv
theorem gr33 {k : Nat} (hk : k ≤ 2) : gr 8 k ≤ 33 := Rat.le_trans (gr_mono (by grind) hk) gr2
theorem gr33' {k : Nat} (hk : k ≤ 3) : gr 8 k ≤ 67 := by
 refine Rat.le_trans (gr_mono (by grind) hk) ?_
 show (8 : Rat) * (2 + 1 / 562949953421312) * (2 + 1 / 562949953421312) * (2 + 1 / 562949953421312) ≤ 67
 grind
theorem piv33 {n : Nat} {A : M} (h3 : n ≤ 3) (hM : Mb n A (fun _ => 8) 0) {k : Nat} (hk : k < n) (hg : good n A k) : Fi (piv n A k) ∧ Ab (rv (piv n A k)) 33 := by
 have h := Mb.all (by omega) (m8 n) hM (k := k) (by omega) hg
 have p := h (tk n A k) (tk_lt A hk) k (by omega)
 exact ⟨p.1, p.2.mono (gr33 (by omega))⟩
theorem noughtK {n : Nat} {A : M} (h3 : n ≤ 3) (hM : Mb n A (fun _ => 8) 0) {k : Nat} (hk : k < n) (hg : good n A k) (hb : bad (piv n A k) = true) : nought (piv n A k) = true ∧ rv (piv n A k) = 0 := by
 have p := (piv33 h3 hM hk hg).1
 have hz : nought (piv n A k) = true := by
  unfold bad at hb
  rw [Bool.or_eq_true] at hb
  rcases hb with q | q
  · exact q
  · rw [p.fin] at q; cases q
 exact ⟨hz, rv_zero (of_decide_eq_true hz)⟩
theorem ddS {n : Nat} {A : M} {k : Nat} {B E : Rat} (hp : Fi (piv n A k) ∧ Ab (rv (piv n A k)) 33) (h : Fi (dd n A k) ∧ Ab (rv (dd n A k)) B ∧ Ab (rv (dd n A k) - sgP n A k) E) (hB : B ≤ 1099511627776) :
  Fi (dd n A (k + 1)) ∧ Ab (rv (dd n A (k + 1))) (34 * B + 1) ∧ Ab (rv (dd n A (k + 1)) - sgP n A (k + 1)) (33 * E + 33 * (1 / 4503599627370496) * B + en) := by
 obtain ⟨f, a, e⟩ := dd_step h.1 hp.1 h.2.1 hp.2 h.2.2 hB
 have es : sgP n A (k + 1) = sgP n A k * rv (piv n A k) * sgn n A k := rfl
 rw [es]
 unfold dd sgn
 by_cases c : tk n A k = k
 ·
  rw [if_pos c, if_pos c, Rat.mul_one]
  exact ⟨f, a, e⟩
 ·
  rw [if_neg c, if_neg c]
  obtain ⟨f2, r⟩ := ng_rv f
  rw [r]
  refine ⟨f2, ?_, ?_⟩
  · unfold Ab at *; constructor <;> grind
  · unfold Ab at *; constructor <;> grind
theorem dd0 (n : Nat) (A : M) : Fi (dd n A 0) ∧ Ab (rv (dd n A 0)) 1 ∧ Ab (rv (dd n A 0) - sgP n A 0) 0 := by
 have e : rv (dd n A 0) = 1 := by
  show rv 4607182418800017408 = 1
  rw [rv_nat (by decide), Fl.vl_one]
  exact en_unit
 rw [e]
 refine ⟨(show Fi 4607182418800017408 from ⟨by decide, by decide⟩), ?_, ?_⟩
 · unfold Ab; constructor <;> grind
 ·
  show Ab (1 - 1) 0
  unfold Ab; constructor <;> grind
theorem ddE {n : Nat} {A : M} (h1 : 1 ≤ n) (h3 : n ≤ 3) (hM : Mb n A (fun _ => 8) 0) (hg : good n A n) : Fi (dd n A n) ∧ Ab (rv (dd n A n) - sgP n A n) (1 / 34359738368) := by
 have hel := en_le
 have he := en_pos
 have d1 := ddS (piv33 h3 hM (k := 0) (by omega) (good_mono0 hg (by omega))) (dd0 n A) (by grind)
 have h : n = 1 ∨ n = 2 ∨ n = 3 := by omega
 rcases h with rfl | rfl | rfl
 · exact ⟨d1.1, d1.2.2.mono (by grind)⟩
 ·
  have d2 := ddS (piv33 h3 hM (k := 1) (by omega) (good_mono0 hg (by omega))) d1 (by grind)
  exact ⟨d2.1, d2.2.2.mono (by grind)⟩
 ·
  have d2 := ddS (piv33 h3 hM (k := 1) (by omega) (good_mono0 hg (by omega))) d1 (by grind)
  have d3 := ddS (piv33 h3 hM (k := 2) (by omega) (good_mono0 hg (by omega))) d2 (by grind)
  exact ⟨d3.1, d3.2.2.mono (by grind)⟩
theorem det_bad {n : Nat} {A : M} {K : Nat} (hK : K < n) (hg : good n A K) (hb : bad (piv n A K) = true) (hz : nought (piv n A K) = true) : detV n A = 0 ∧ detC n A = 0 := by
 have hu : upTo n A n = K + 1 := upTo_of hg hK (by
  by_cases e : K + 1 = n
  · exact Or.inl e
  · exact Or.inr (fun g => by have := g K (by omega); rw [hb] at this; cases this))
 unfold detV detC
 rw [hu, Nat.add_sub_cancel, hz, if_pos rfl, if_pos rfl]
 exact ⟨rfl, rfl⟩
theorem det_full {n : Nat} {A : M} (h1 : 1 ≤ n) (hg : good n A n) (hf : Fi (dd n A n)) : detV n A = dd n A n ∧ detC n A = 0 := by
 have hu : upTo n A n = n := by
  have := upTo_of (K := n - 1) (m := n) (good_mono0 hg (by omega)) (by omega) (Or.inl (by omega))
  rw [this]; omega
 have hz : nought (piv n A (n - 1)) = false := by
  have := hg (n - 1) (by omega)
  unfold bad at this
  rw [Bool.or_eq_false_iff] at this
  exact this.1
 unfold detV detC
 rw [hu, hz, hf.fin]
 simp
/-- which way the steps end, and the determinant then -/
theorem ends {n : Nat} {A : M} (h1 : 1 ≤ n) (h3 : n ≤ 3) (hM : Mb n A (fun _ => 8) 0) : (good n A n ∧ Ab (DN n (rM A) - sgP n A n) (1 / 68719476736)) ∨ ((∃ K, K < n ∧ good n A K ∧ bad (piv n A K) = true) ∧ Ab (DN n (rM A)) (1 / 68719476736)) := by
 have g0 : good n A 0 := fun j hj => absurd hj (by omega)
 have z0 : ∀ x : Rat, Ab 0 x ↔ 0 ≤ x := fun x => by unfold Ab; constructor <;> grind
 have h : n = 1 ∨ n = 2 ∨ n = 3 := by omega
 rcases h with rfl | rfl | rfl
 ·
  have e : DN 1 (rM A) = sgP 1 A 1 := det1
  rw [e]
  cases b0 : bad (piv 1 A 0)
  ·
   refine Or.inl ⟨fun j hj => by obtain rfl : j = 0 := (by omega); exact b0, ?_⟩
   rw [show sgP 1 A 1 - sgP 1 A 1 = 0 by grind, z0]; grind
  ·
   refine Or.inr ⟨⟨0, by omega, g0, b0⟩, ?_⟩
   obtain ⟨_, r⟩ := noughtK h3 hM (k := 0) (by omega) g0 b0
   have es : sgP 1 A 1 = 1 * rv (piv 1 A 0) * sgn 1 A 0 := rfl
   rw [es, r, show (1 : Rat) * 0 * sgn 1 A 0 = 0 by grind, z0]; grind
 ·
  have e : DN 2 (rM A) = D2 (rM A) 0 := rfl
  rw [e]
  obtain ⟨k1, k2⟩ := det2 hM
  cases b0 : bad (piv 2 A 0)
  ·
   have g1 : good 2 A 1 := fun j hj => by obtain rfl : j = 0 := (by omega); exact b0
   have k := k2 b0
   cases b1 : bad (piv 2 A 1)
   · exact Or.inl ⟨fun j hj => by rcases (show j = 0 ∨ j = 1 by omega) with rfl | rfl; exact b0; exact b1, k⟩
   ·
    refine Or.inr ⟨⟨1, by omega, g1, b1⟩, ?_⟩
    obtain ⟨_, r⟩ := noughtK h3 hM (k := 1) (by omega) g1 b1
    have es : sgP 2 A 2 = sgP 2 A 1 * rv (piv 2 A 1) * sgn 2 A 1 := rfl
    rw [es, r, show sgP 2 A 1 * 0 * sgn 2 A 1 = 0 by grind, show D2 (rM A) 0 - 0 = D2 (rM A) 0 by grind] at k
    exact k
  ·
   refine Or.inr ⟨⟨0, by omega, g0, b0⟩, ?_⟩
   rw [k1 b0, z0]; grind
 ·
  have e : DN 3 (rM A) = D3 (rM A) := rfl
  rw [e]
  obtain ⟨k1, k2, k3⟩ := det3 hM
  cases b0 : bad (piv 3 A 0)
  ·
   have g1 : good 3 A 1 := fun j hj => by obtain rfl : j = 0 := (by omega); exact b0
   cases b1 : bad (piv 3 A 1)
   ·
    have g2 : good 3 A 2 := fun j hj => by rcases (show j = 0 ∨ j = 1 by omega) with rfl | rfl; exact b0; exact b1
    have k := k3 b0 b1
    cases b2 : bad (piv 3 A 2)
    · exact Or.inl ⟨fun j hj => by rcases (show j = 0 ∨ j = 1 ∨ j = 2 by omega) with rfl | rfl | rfl; exact b0; exact b1; exact b2, k⟩
    ·
     refine Or.inr ⟨⟨2, by omega, g2, b2⟩, ?_⟩
     obtain ⟨_, r⟩ := noughtK h3 hM (k := 2) (by omega) g2 b2
     have es : sgP 3 A 3 = sgP 3 A 2 * rv (piv 3 A 2) * sgn 3 A 2 := rfl
     rw [es, r, show sgP 3 A 2 * 0 * sgn 3 A 2 = 0 by grind, show D3 (rM A) - 0 = D3 (rM A) by grind] at k
     exact k
   · exact Or.inr ⟨⟨1, by omega, g1, b1⟩, k2 b0 b1⟩
  ·
   refine Or.inr ⟨⟨0, by omega, g0, b0⟩, ?_⟩
   rw [k1 b0, z0]; grind
/-- P14.6: Det -/
theorem det_near {n : Nat} {A : M} (h1 : 1 ≤ n) (h3 : n ≤ 3) (hM : Mb n A (fun _ => 8) 0) : detC n A = 0 ∧ Fi (detV n A) ∧ Ab (rv (detV n A) - DN n (rM A)) (1 / 268435456) := by
 rcases ends h1 h3 hM with ⟨hg, k⟩ | ⟨⟨K, hK, hg, hb⟩, k⟩
 ·
  obtain ⟨f, e⟩ := ddE h1 h3 hM hg
  obtain ⟨v, c⟩ := det_full h1 hg f
  rw [v]
  refine ⟨c, f, ?_⟩
  have := e.sub k
  rw [show rv (dd n A n) - sgP n A n - (DN n (rM A) - sgP n A n) = rv (dd n A n) - DN n (rM A) by grind] at this
  exact this.mono (by grind)
 ·
  obtain ⟨hz, _⟩ := noughtK h3 hM hK hg hb
  obtain ⟨v, c⟩ := det_bad hK hg hb hz
  rw [v]
  refine ⟨c, ⟨by decide, by decide⟩, ?_⟩
  have e : rv 0 = 0 := rv_zero (by decide)
  rw [e]
  unfold Ab at *; constructor <;> grind
/-- no pivot is small -/
theorem pivots_low {n : Nat} {A : M} (h1 : 1 ≤ n) (h3 : n ≤ 3) (hM : Mb n A (fun _ => 8) 0) (hD : 1 ≤ ab (DN n (rM A))) : good n A n ∧ ∀ k, k < n → 1 / 4096 ≤ ab (rv (piv n A k)) := by
 rcases ends h1 h3 hM with ⟨hg, e⟩ | ⟨_, e⟩
 case inr =>
  have := ab_le e
  grind
 refine ⟨hg, fun k hk => ?_⟩
 have hP : ¬ Ab (sgP n A n) (1 / 2) := by
  intro h
  have := h.add e
  rw [show sgP n A n + (DN n (rM A) - sgP n A n) = DN n (rM A) by grind] at this
  have := ab_le this
  grind
 rcases Classical.em (1 / 4096 ≤ ab (rv (piv n A k))) with c | c
 · exact c
 ·
  exfalso
  refine hP ?_
  have hs : Ab (rv (piv n A k)) (1 / 4096) := (ab_ab _).mono (by grind)
  have p := fun k (hk : k < n) => (piv33 h3 hM hk (good_mono0 hg (by omega))).2
  have one : Ab (sgP n A 0) 1 := by show Ab 1 1; unfold Ab; constructor <;> grind
  have stp : ∀ {k : Nat} {x b : Rat}, Ab (sgP n A k) x → Ab (rv (piv n A k)) b → Ab (sgP n A (k + 1)) (x * b) := fun {k x b} h1 h2 => by
   have := sgnR n A k (h1.mul h2)
   show Ab (sgP n A k * rv (piv n A k) * sgn n A k) (x * b)
   rw [Rat.mul_comm]
   exact this
  have h : n = 1 ∨ n = 2 ∨ n = 3 := by omega
  rcases h with rfl | rfl | rfl
  ·
   obtain rfl : k = 0 := by omega
   exact (stp one hs).mono (by grind)
  ·
   rcases (show k = 0 ∨ k = 1 by omega) with rfl | rfl
   · exact (stp (stp one hs) (p 1 (by omega))).mono (by grind)
   · exact (stp (stp one (p 0 (by omega))) hs).mono (by grind)
  ·
   rcases (show k = 0 ∨ k = 1 ∨ k = 2 by omega) with rfl | rfl | rfl
   · exact (stp (stp (stp one hs) (p 1 (by omega))) (p 2 (by omega))).mono (by grind)
   · exact (stp (stp (stp one (p 0 (by omega))) hs) (p 2 (by omega))).mono (by grind)
   · exact (stp (stp (stp one (p 0 (by omega))) (p 1 (by omega))) hs).mono (by grind)
theorem sub_step {s u x : Nat} {b X : Rat} (hs : Fi s) (hb : Ab (rv s) b) (hu : Fi u) (hu2 : Ab (rv u) 33) (hx : Fi x) (hx2 : Ab (rv x) X) (hX1 : 1 ≤ X) (hX2 : X ≤ 17592186044416) (hb2 : b ≤ 72057594037927936) :
  Fi (op .sub s (op .mul u x)) ∧ Ab (rv (op .sub s (op .mul u x))) (2 * (b + 34 * X)) := by
 have he := en_pos
 have hel := en_le
 have hb0 := hb.nn
 have k := hu2.mul hx2
 have f := mul_fi hu hx k (by grind)
 have e := mul_err hu hx f k
 have a : Ab (rv (op .mul u x)) (34 * X) := by
  have := k.add e
  rw [show rv u * rv x + (rv (op .mul u x) - rv u * rv x) = rv (op .mul u x) by grind] at this
  exact this.mono (by grind)
 have k2 := hb.sub a
 have f2 := sub_fi hs f k2 (by grind)
 have e2 := sub_err hs f f2 k2
 refine ⟨f2, ?_⟩
 have := k2.add e2
 rw [show rv s - rv (op .mul u x) + (rv (op .sub s (op .mul u x)) - (rv s - rv (op .mul u x))) = rv (op .sub s (op .mul u x)) by grind] at this
 exact this.mono (by grind)
/-- the unknowns are numbers -/
theorem sol_fi {n : Nat} {A : M} (h1 : 1 ≤ n) (h3 : n ≤ 3) (hM : Mb n A (fun _ => 8) 0) (hg : good n A n) (hL : ∀ k, k < n → 1 / 4096 ≤ ab (rv (piv n A k))) : ∀ j, j < n → Fi (bx (st n A n) n n j) := by
 have hMn := Mb.all (by omega) (m8 n) hM (k := n) (Nat.le_refl _) hg
 have hrow : ∀ i, i < n → ∀ j, j ≤ n → Fi (st n A n i j) ∧ Ab (rv (st n A n i j)) 33 := fun i hi j hj => by
  have hMi := Mb.all (by omega) (m8 n) hM (k := i) (by omega) (good_mono0 hg (by omega))
  have hB : Mb n (Bk n A i) (fun _ => 8) i := hMi.swap (t := 0) hi (tk_lt A hi)
  have e : st n A n i = Bk n A i i := row_stays n A hi
  rw [e]
  have := hB i hi j hj
  exact ⟨this.1, this.2.mono (gr33 (by omega))⟩
 have hdiag : ∀ i, i < n → 1 / 4096 ≤ ab (rv (st n A n i i)) := fun i hi => by rw [diag n A hi]; exact hL i hi
 -- one row
 have row : ∀ (i : Nat) (X : Rat), i < n → 1 ≤ X → X ≤ 17592186044416 → (∀ j, i < j → j < n → Fi (bx (st n A n) n n j) ∧ Ab (rv (bx (st n A n) n n j)) X) → Fi (bx (st n A n) n n i) ∧ Ab (rv (bx (st n A n) n n i)) (4194304 * X) := by
  intro i X hi hX1 hX2 hx
  have b0 : Fi (bsum (st n A n) n i (bx (st n A n) n n) 0) ∧ Ab (rv (bsum (st n A n) n i (bx (st n A n) n n) 0)) (33 * X) := ⟨(hrow i hi n (Nat.le_refl _)).1, (hrow i hi n (Nat.le_refl _)).2.mono (by grind)⟩
  have hb : Fi (bsum (st n A n) n i (bx (st n A n) n n) (n - 1 - i)) ∧ Ab (rv (bsum (st n A n) n i (bx (st n A n) n n) (n - 1 - i))) (336 * X) := by
   have s1 : i + 1 < n → Fi (bsum (st n A n) n i (bx (st n A n) n n) 1) ∧ Ab (rv (bsum (st n A n) n i (bx (st n A n) n n) 1)) (2 * (33 * X + 34 * X)) := fun h => by
    have u := hrow i hi (i + 1) (by omega)
    have xx := hx (i + 1) (by omega) h
    exact sub_step b0.1 b0.2 u.1 u.2 xx.1 xx.2 hX1 hX2 (by grind)
   have h : n - 1 - i = 0 ∨ n - 1 - i = 1 ∨ n - 1 - i = 2 := by omega
   rcases h with e | e | e
   · rw [e]; exact ⟨b0.1, b0.2.mono (by grind)⟩
   ·
    rw [e]
    have := s1 (by omega)
    exact ⟨this.1, this.2.mono (by grind)⟩
   ·
    rw [e]
    have q := s1 (by omega)
    have u := hrow i hi (i + 2) (by omega)
    have xx := hx (i + 2) (by omega) (by omega)
    have q2 := sub_step q.1 q.2 u.1 u.2 xx.1 xx.2 hX1 hX2 (by grind)
    exact ⟨q2.1, q2.2.mono (by grind)⟩
  rw [bx_eq (st n A n) hi]
  have d := hrow i hi i (by omega)
  have r := quo_ab (B := 336 * X) (L := 1 / 4096) (Q := 2097152 * X) hb.1 d.1 hb.2 (d.2.mono (by grind)) (by grind) (hdiag i hi) (by grind) (by grind) (by grind)
  exact ⟨r.1, r.2.mono (by grind)⟩
 have h : n = 1 ∨ n = 2 ∨ n = 3 := by omega
 rcases h with rfl | rfl | rfl
 ·
  intro j hj
  obtain rfl : j = 0 := by omega
  exact (row 0 1 (by omega) (by grind) (by grind) (fun j h1 h2 => absurd h2 (by omega))).1
 ·
  have r1 := row 1 1 (by omega) (by grind) (by grind) (fun j h1 h2 => absurd h2 (by omega))
  have r0 := row 0 (4194304 * 1) (by omega) (by grind) (by grind) (fun j h1 h2 => by obtain rfl : j = 1 := (by omega); exact r1)
  intro j hj
  rcases (show j = 0 ∨ j = 1 by omega) with rfl | rfl
  · exact r0.1
  · exact r1.1
 ·
  have r2 := row 2 1 (by omega) (by grind) (by grind) (fun j h1 h2 => absurd h2 (by omega))
  have r1 := row 1 (4194304 * 1) (by omega) (by grind) (by grind) (fun j h1 h2 => by obtain rfl : j = 2 := (by omega); exact r2)
  have r0 := row 0 (4194304 * (4194304 * 1)) (by omega) (by grind) (by grind) (fun j h1 h2 => by
   rcases (show j = 1 ∨ j = 2 by omega) with rfl | rfl
   · exact r1
   · exact ⟨r2.1, r2.2.mono (by grind)⟩)
  intro j hj
  rcases (show j = 0 ∨ j = 1 ∨ j = 2 by omega) with rfl | rfl | rfl
  · exact r0.1
  · exact r1.1
  · exact r2.1
end Go.Proofs.Ytjfkdmddfeeheaa.Sv
/-
 OWN TEXT: up to 3 rows of numbers up to 8: the unknowns are near the true ones (by what is left over of each row, and by cofactors).
-/
set_option linter.unusedVariables false
set_option exponentiation.threshold 3000
namespace Go.Proofs.Ytjfkdmddfeeheaa.Sv
theorem ab_mul (q y : Rat) : ab (q * y) = ab q * ab y := by
 unfold ab
 by_cases c1 : 0 ≤ q <;> by_cases c2 : 0 ≤ y
 · rw [if_pos c1, if_pos c2, if_pos (Rat.mul_nonneg c1 c2)]
 ·
  rw [if_pos c1, if_neg c2]
  have := Rat.mul_nonneg c1 (show 0 ≤ -y by grind)
  split <;> grind
 ·
  rw [if_neg c1, if_pos c2]
  have := Rat.mul_nonneg (show 0 ≤ -q by grind) c2
  split <;> grind
 ·
  rw [if_neg c1, if_neg c2]
  have := Rat.mul_nonneg (show 0 ≤ -q by grind) (show 0 ≤ -y by grind)
  split <;> grind
/-- row changes do not matter -/
theorem unsw {n : Nat} {A : M} {k : Nat} {X : Nat → Rat} {D : Rat} (hk : k < n) (h : ∀ i, k ≤ i → i < n → Ab (rs0 (Bk n A k) X n i k) D) : ∀ i, k ≤ i → i < n → Ab (rs0 (st n A k) X n i k) D := by
 intro i h1 h2
 have h3 := h (sw k (tk n A k) i) (sw_ge (tk_ge n k A) h1) (sw_lt hk (tk_lt A hk) h2)
 have e : Bk n A k (sw k (tk n A k) i) = st n A k i := by
  unfold Bk
  rw [swap_sw, sw_sw]
 unfold rs0 at h3 ⊢
 rw [e] at h3
 exact h3
section
variable {n : Nat} {A : M} {x : Nat → Nat} {S : Rat}
/-- the way back, row k -/
theorem backK (h3 : n ≤ 3) (hM : Mb n A (fun _ => 8) 0) (hg : good n A n) (hxe : x = bx (st n A n) n n) (hx : ∀ j, j < n → Fi (x j)) (hS : S = sumF (fun j => ab (rv (x j))) 0 n) {k : Nat} {g : Rat} (hk : k < n) (hg1 : gr 8 k ≤ g) (hg8 : 8 ≤ g) (hg2 : g ≤ 64) :
  Ab (rs0 (Bk n A k) (fun j => rv (x j)) n k k) (acc (4 * (1 / 4503599627370496) * (g * S) + 3 * g * en) (4 * (1 / 4503599627370496) * (g * S) + 4 * en) (n - 1 - k)) := by
 have he := en_pos
 have hel := en_le
 have hMk := Mb.all (by omega) (m8 n) hM (k := k) (by omega) (good_mono0 hg (by omega))
 have hB : Mb n (Bk n A k) (fun _ => 8) k := hMk.swap (t := 0) hk (tk_lt A hk)
 have hrow : st n A n k = Bk n A k k := row_stays n A hk
 have r := back_errA (U := st n A n) (n := n) (i := k) (x := x) (G := g) (S := S) (aX := fun j => ab (rv (x j))) (by omega) hk (by grind) (by grind)
  (fun j h1 h2 => by rw [hrow]; have := hB k hk j (by omega); exact ⟨this.1, this.2.mono hg1⟩)
  (by rw [hrow]; exact (hB k hk n (Nat.le_refl _)).1)
  (by rw [hrow, piv_Bk]; exact (not_bad (hg k hk)).1) hx (by rw [hxe]; exact bx_eq (st n A n) hk) (fun j => ab_ab _) hS
 rw [hrow] at r
 exact r
theorem stepK (h3 : n ≤ 3) (hM : Mb n A (fun _ => 8) 0) (hg : good n A n) (hS : S = sumF (fun j => ab (rv (x j))) 0 n) {k i : Nat} {g d D : Rat} (hk : k < n) (hki : k < i) (hi : i < n) (hg1 : gr 8 (k + 1) ≤ g) (hg8 : 8 ≤ g) (hg2 : g ≤ 64)
  (h1 : Ab (rs0 (Bk n A k) (fun j => rv (x j)) n k k) d) (h2 : Ab (rs0 (st n A (k + 1)) (fun j => rv (x j)) n i (k + 1)) D) :
  Ab (rs0 (Bk n A k) (fun j => rv (x j)) n i k) (d + D + (8 * (1 / 4503599627370496) * (g * S) + 1 / 4503599627370496 * d + 2 * (1 / 4503599627370496) * D + 3 * en)) := by
 have he := en_pos
 have hel := en_le
 have hMk := Mb.all (by omega) (m8 n) hM (k := k) (by omega) (good_mono0 hg (by omega))
 have hMk1 := Mb.all (by omega) (m8 n) hM (k := k + 1) (by omega) (good_mono0 hg (by omega))
 have hB : Mb n (Bk n A k) (fun _ => 8) k := hMk.swap (t := 0) hk (tk_lt A hk)
 have hgk : gr 8 k ≤ g := Rat.le_trans (gr_up (by grind) k) hg1
 exact step_resG (n := n) (A := A) (mm := fun _ => 8) (k := k) (i := i) (X := fun j => rv (x j)) (aX := fun j => ab (rv (x j))) (G := g) (S := S) (d := d) (D := D) (by omega) hk hki hi (by grind) (by grind) (m8 n)
  (fun r hr j hj => (hB r hr j (by omega)).2.mono hgk) (fun r hr j hj => (hMk1 r hr j (by omega)).2.mono hg1) (fun j hj => hgk) hMk (hg k hk) (fun j => ab_ab _) hS h1 h2
set_option maxHeartbeats 2000000 in
theorem left3 (h1 : 1 ≤ n) (h3 : n ≤ 3) (hM : Mb n A (fun _ => 8) 0) (hg : good n A n) (hxe : x = bx (st n A n) n n) (hx : ∀ j, j < n → Fi (x j)) (hS : S = sumF (fun j => ab (rv (x j))) 0 n) :
  ∀ i, i < n → Ab (rs0 A (fun j => rv (x j)) n i 0) (766 * (1 / 4503599627370496) * S + 5 * (1 / 1125899906842624)) := by
 have he := en_pos
 have hel := en_le
 have hS0 : 0 ≤ S := by rw [hS]; exact sumF_nn (fun j => ab_nn _) 0 n
 have B := fun {k : Nat} {g : Rat} => backK (n := n) (A := A) (x := x) (S := S) h3 hM hg hxe hx hS (k := k) (g := g)
 have St := fun {k i : Nat} {g d D : Rat} => stepK (n := n) (A := A) (x := x) (S := S) h3 hM hg hS (k := k) (i := i) (g := g) (d := d) (D := D)
 have g0 : gr 8 0 ≤ 8 := by rw [gr0]; exact Rat.le_refl
 have U0 : ∀ {D : Rat}, (∀ i, 0 ≤ i → i < n → Ab (rs0 (Bk n A 0) (fun j => rv (x j)) n i 0) D) → ∀ i, i < n → Ab (rs0 A (fun j => rv (x j)) n i 0) D := fun h i hi => unsw (k := 0) (by omega) h i (Nat.zero_le _) hi
 have h : n = 1 ∨ n = 2 ∨ n = 3 := by omega
 rcases h with rfl | rfl | rfl
 ·
  have b0 := B (k := 0) (g := 8) (by omega) g0 (by grind) (by grind)
  refine U0 fun i _ hi => ?_
  obtain rfl : i = 0 := by omega
  refine b0.mono ?_
  show 4 * (1 / 4503599627370496) * (8 * S) + 3 * 8 * en ≤ _
  grind
 ·
  have b1 : Ab (rs0 (Bk 2 A 1) (fun j => rv (x j)) 2 1 1) (68 * (1 / 4503599627370496) * S + 1 / 1125899906842624) := (B (k := 1) (g := 17) (by omega) gr1 (by grind) (by grind)).mono (by
   show 4 * (1 / 4503599627370496) * (17 * S) + 3 * 17 * en ≤ _
   grind)
  have b0 : Ab (rs0 (Bk 2 A 0) (fun j => rv (x j)) 2 0 0) (64 * (1 / 4503599627370496) * S + 1 / 1125899906842624) := (B (k := 0) (g := 8) (by omega) g0 (by grind) (by grind)).mono (by
   show 4 * (1 / 4503599627370496) * (8 * S) + 3 * 8 * en + (4 * (1 / 4503599627370496) * (8 * S) + 4 * en) ≤ _
   grind)
  have r1 := unsw (n := 2) (A := A) (k := 1) (X := fun j => rv (x j)) (D := 68 * (1 / 4503599627370496) * S + 1 / 1125899906842624) (by omega) (fun i h1 h2 => by obtain rfl : i = 1 := (by omega); exact b1)
  refine U0 fun i _ hi => ?_
  rcases (show i = 0 ∨ i = 1 by omega) with rfl | rfl
  · exact b0.mono (by grind)
  · exact (St (k := 0) (i := 1) (g := 17) (by omega) (by omega) (by omega) gr1 (by grind) (by grind) b0 (r1 1 (by omega) (by omega))).mono (by grind)
 ·
  have b2 : Ab (rs0 (Bk 3 A 2) (fun j => rv (x j)) 3 2 2) (132 * (1 / 4503599627370496) * S + 1 / 1125899906842624) := (B (k := 2) (g := 33) (by omega) gr2 (by grind) (by grind)).mono (by
   show 4 * (1 / 4503599627370496) * (33 * S) + 3 * 33 * en ≤ _
   grind)
  have b1 : Ab (rs0 (Bk 3 A 1) (fun j => rv (x j)) 3 1 1) (136 * (1 / 4503599627370496) * S + 1 / 1125899906842624) := (B (k := 1) (g := 17) (by omega) gr1 (by grind) (by grind)).mono (by
   show 4 * (1 / 4503599627370496) * (17 * S) + 3 * 17 * en + (4 * (1 / 4503599627370496) * (17 * S) + 4 * en) ≤ _
   grind)
  have b0 : Ab (rs0 (Bk 3 A 0) (fun j => rv (x j)) 3 0 0) (96 * (1 / 4503599627370496) * S + 1 / 1125899906842624) := (B (k := 0) (g := 8) (by omega) g0 (by grind) (by grind)).mono (by
   show 4 * (1 / 4503599627370496) * (8 * S) + 3 * 8 * en + (4 * (1 / 4503599627370496) * (8 * S) + 4 * en) + (4 * (1 / 4503599627370496) * (8 * S) + 4 * en) ≤ _
   grind)
  have r2 := unsw (n := 3) (A := A) (k := 2) (X := fun j => rv (x j)) (D := 132 * (1 / 4503599627370496) * S + 1 / 1125899906842624) (by omega) (fun i h1 h2 => by obtain rfl : i = 2 := (by omega); exact b2)
  have r1 := unsw (k := 1) (D := 533 * (1 / 4503599627370496) * S + 3 * (1 / 1125899906842624)) (X := fun j => rv (x j)) (A := A) (n := 3) (by omega) (fun i h1 h2 => by
   rcases (show i = 1 ∨ i = 2 by omega) with rfl | rfl
   · exact b1.mono (by grind)
   · exact (St (k := 1) (i := 2) (g := 33) (by omega) (by omega) (by omega) gr2 (by grind) (by grind) b1 (r2 2 (by omega) (by omega))).mono (by grind))
  refine U0 fun i _ hi => ?_
  rcases (show i = 0 ∨ i = 1 ∨ i = 2 by omega) with rfl | rfl | rfl
  · exact b0.mono (by grind)
  · exact (St (k := 0) (i := 1) (g := 17) (by omega) (by omega) (by omega) gr1 (by grind) (by grind) b0 (r1 1 (by omega) (by omega))).mono (by grind)
  · exact (St (k := 0) (i := 2) (g := 17) (by omega) (by omega) (by omega) gr1 (by grind) (by grind) b0 (r1 2 (by omega) (by omega))).mono (by grind)
end
/-- the matrix with its column j replaced by the right side -/
def rJ (n : Nat) (X : Nat → Nat → Rat) (j : Nat) : Nat → Nat → Rat := fun i k => if k = j then X i n else X i k
theorem three_cof {a b c d e f r0 r1 r2 R : Rat} (h1 : Ab a 128) (h2 : Ab b 128) (h3 : Ab c 128) (k0 : Ab r0 R) (k1 : Ab r1 R) (k2 : Ab r2 R) : Ab (a * r0 + b * r1 + c * r2) (384 * R) := by
 have := ((h1.mul k0).add (h2.mul k1)).add (h3.mul k2)
 exact this.mono (by grind)
theorem cof2 {a b c d : Rat} (h1 : Ab a 8) (h2 : Ab b 8) (h3 : Ab c 8) (h4 : Ab d 8) : Ab (a * b - c * d) 128 := by
 have := (h1.mul h2).sub (h3.mul h4)
 exact this.mono (by grind)
/-- Cramer's rule, with what is left over -/
theorem cramer {n : Nat} {X : Nat → Nat → Rat} {x : Nat → Rat} {R : Rat} (h1 : 1 ≤ n) (h3 : n ≤ 3) (hX : ∀ i, i < n → ∀ j, j < n → Ab (X i j) 8) (hr : ∀ i, i < n → Ab (sumF (fun j => X i j * x j) 0 n - X i n) R) :
  ∀ j, j < n → Ab (DN n X * x j - DN n (rJ n X j)) (384 * R) := by
 have hR : 0 ≤ R := (hr 0 (by omega)).nn
 have h : n = 1 ∨ n = 2 ∨ n = 3 := by omega
 rcases h with rfl | rfl | rfl
 ·
  intro j hj
  obtain rfl : j = 0 := by omega
  have k := hr 0 (by omega)
  have e : sumF (fun j => X 0 j * x j) 0 1 = 0 + X 0 0 * x 0 := rfl
  rw [e] at k
  refine Ab.mono (a := R) ?_ (by grind)
  show Ab (X 0 0 * x 0 - X 0 1) R
  refine Eq.subst (motive := fun z => Ab z _) ?_ k
  grind
 ·
  have e : ∀ i, sumF (fun j => X i j * x j) 0 2 = 0 + X i 0 * x 0 + X i 1 * x 1 := fun i => rfl
  have k0 := hr 0 (by omega)
  have k1 := hr 1 (by omega)
  rw [e] at k0 k1
  have m := fun i j hi hj => (hX i hi j hj).mono (show (8 : Rat) ≤ 128 by grind)
  have z : Ab (0 : Rat) 128 := by unfold Ab; constructor <;> grind
  have n2 : ∀ {v : Rat}, Ab v 128 → Ab (-v) 128 := fun h => by unfold Ab at *; constructor <;> grind
  have t0 := three_cof (d := 0) (e := 0) (f := 0) (m 1 1 (by omega) (by omega)) (n2 (m 0 1 (by omega) (by omega))) z k0 k1 k0
  have t1 := three_cof (d := 0) (e := 0) (f := 0) (n2 (m 1 0 (by omega) (by omega))) (m 0 0 (by omega) (by omega)) z k0 k1 k0
  intro j hj
  rcases (show j = 0 ∨ j = 1 by omega) with rfl | rfl
  ·
   refine Eq.subst (motive := fun z => Ab z _) ?_ t0
   show _ = (X 0 0 * X 1 1 - X 0 1 * X 1 0) * x 0 - (X 0 2 * X 1 1 - X 0 1 * X 1 2)
   grind
  ·
   refine Eq.subst (motive := fun z => Ab z _) ?_ t1
   show _ = (X 0 0 * X 1 1 - X 0 1 * X 1 0) * x 1 - (X 0 0 * X 1 2 - X 0 2 * X 1 0)
   grind
 ·
  have e : ∀ i, sumF (fun j => X i j * x j) 0 3 = 0 + X i 0 * x 0 + X i 1 * x 1 + X i 2 * x 2 := fun i => rfl
  have k0 := hr 0 (by omega)
  have k1 := hr 1 (by omega)
  have k2 := hr 2 (by omega)
  rw [e] at k0 k1 k2
  have m := fun i j hi hj => hX i hi j hj
  have c := fun i1 j1 i2 j2 i3 j3 i4 j4 q1 q2 q3 q4 q5 q6 q7 q8 => cof2 (m i1 j1 q1 q2) (m i2 j2 q3 q4) (m i3 j3 q5 q6) (m i4 j4 q7 q8)
  have t0 := three_cof (d := 0) (e := 0) (f := 0) (c 1 1 2 2 1 2 2 1 (by omega) (by omega) (by omega) (by omega) (by omega) (by omega) (by omega) (by omega)) (c 0 2 2 1 0 1 2 2 (by omega) (by omega) (by omega) (by omega) (by omega) (by omega) (by omega) (by omega)) (c 0 1 1 2 0 2 1 1 (by omega) (by omega) (by omega) (by omega) (by omega) (by omega) (by omega) (by omega)) k0 k1 k2
  have t1 := three_cof (d := 0) (e := 0) (f := 0) (c 1 2 2 0 1 0 2 2 (by omega) (by omega) (by omega) (by omega) (by omega) (by omega) (by omega) (by omega)) (c 0 0 2 2 0 2 2 0 (by omega) (by omega) (by omega) (by omega) (by omega) (by omega) (by omega) (by omega)) (c 0 2 1 0 0 0 1 2 (by omega) (by omega) (by omega) (by omega) (by omega) (by omega) (by omega) (by omega)) k0 k1 k2
  have t2 := three_cof (d := 0) (e := 0) (f := 0) (c 1 0 2 1 1 1 2 0 (by omega) (by omega) (by omega) (by omega) (by omega) (by omega) (by omega) (by omega)) (c 0 1 2 0 0 0 2 1 (by omega) (by omega) (by omega) (by omega) (by omega) (by omega) (by omega) (by omega)) (c 0 0 1 1 0 1 1 0 (by omega) (by omega) (by omega) (by omega) (by omega) (by omega) (by omega) (by omega)) k0 k1 k2
  intro j hj
  rcases (show j = 0 ∨ j = 1 ∨ j = 2 by omega) with rfl | rfl | rfl
  ·
   refine Eq.subst (motive := fun z => Ab z _) ?_ t0
   show _ = (X 0 0 * (X 1 1 * X 2 2 - X 1 2 * X 2 1) - X 0 1 * (X 1 0 * X 2 2 - X 1 2 * X 2 0) + X 0 2 * (X 1 0 * X 2 1 - X 1 1 * X 2 0)) * x 0 - (X 0 3 * (X 1 1 * X 2 2 - X 1 2 * X 2 1) - X 0 1 * (X 1 3 * X 2 2 - X 1 2 * X 2 3) + X 0 2 * (X 1 3 * X 2 1 - X 1 1 * X 2 3))
   grind
  ·
   refine Eq.subst (motive := fun z => Ab z _) ?_ t1
   show _ = (X 0 0 * (X 1 1 * X 2 2 - X 1 2 * X 2 1) - X 0 1 * (X 1 0 * X 2 2 - X 1 2 * X 2 0) + X 0 2 * (X 1 0 * X 2 1 - X 1 1 * X 2 0)) * x 1 - (X 0 0 * (X 1 3 * X 2 2 - X 1 2 * X 2 3) - X 0 3 * (X 1 0 * X 2 2 - X 1 2 * X 2 0) + X 0 2 * (X 1 0 * X 2 3 - X 1 3 * X 2 0))
   grind
  ·
   refine Eq.subst (motive := fun z => Ab z _) ?_ t2
   show _ = (X 0 0 * (X 1 1 * X 2 2 - X 1 2 * X 2 1) - X 0 1 * (X 1 0 * X 2 2 - X 1 2 * X 2 0) + X 0 2 * (X 1 0 * X 2 1 - X 1 1 * X 2 0)) * x 2 - (X 0 0 * (X 1 1 * X 2 3 - X 1 3 * X 2 1) - X 0 1 * (X 1 0 * X 2 3 - X 1 3 * X 2 0) + X 0 3 * (X 1 0 * X 2 1 - X 1 1 * X 2 0))
   grind
theorem finish {n : Nat} {x Dj : Nat → Rat} {D S : Rat} (h1 : 1 ≤ n) (h3 : n ≤ 3) (hS : S = sumF (fun j => ab (x j)) 0 n) (hD : 1 ≤ ab D) (hj : ∀ j, j < n → Ab (Dj j) 3072)
  (hK : ∀ j, j < n → Ab (D * x j - Dj j) (384 * (766 * (1 / 4503599627370496) * S + 5 * (1 / 1125899906842624)))) : ∀ j, j < n → Ab (x j - Dj j / D) (1 / 1048576) := by
 have hS0 : 0 ≤ S := by rw [hS]; exact sumF_nn (fun j => ab_nn _) 0 n
 have hx : ∀ j, j < n → ab (x j) ≤ 3072 + 384 * (766 * (1 / 4503599627370496) * S + 5 * (1 / 1125899906842624)) := fun j h => by
  have k := (hK j h).add (hj j h)
  rw [show D * x j - Dj j + Dj j = D * x j by grind] at k
  have k2 := ab_le k
  rw [ab_mul] at k2
  have k3 := Rat.mul_le_mul_of_nonneg_right hD (ab_nn (x j))
  grind
 have hS2 : S ≤ 9217 := by
  have h : n = 1 ∨ n = 2 ∨ n = 3 := by omega
  rcases h with rfl | rfl | rfl
  ·
   have e : S = 0 + ab (x 0) := hS
   have a0 := hx 0 (by omega)
   grind
  ·
   have e : S = 0 + ab (x 0) + ab (x 1) := hS
   have a0 := hx 0 (by omega)
   have a1 := hx 1 (by omega)
   grind
  ·
   have e : S = 0 + ab (x 0) + ab (x 1) + ab (x 2) := hS
   have a0 := hx 0 (by omega)
   have a1 := hx 1 (by omega)
   have a2 := hx 2 (by omega)
   grind
 intro j h
 have hD0 : D ≠ 0 := by
  intro e
  rw [e] at hD
  have : ab 0 = 0 := by unfold ab; split <;> grind
  rw [this] at hD
  grind
 have k := ab_le (hK j h)
 have e : D * x j - Dj j = D * (x j - Dj j / D) := by
  have e2 : D * (Dj j / D) = Dj j := by
   rw [Rat.div_def, Rat.mul_comm, Rat.mul_assoc, Rat.mul_comm D⁻¹ D, Rat.mul_inv_cancel D hD0, Rat.mul_one]
  grind
 rw [e, ab_mul] at k
 have k3 := Rat.mul_le_mul_of_nonneg_right hD (ab_nn (x j - Dj j / D))
 refine (ab_ab _).mono ?_
 generalize ab (x j - Dj j / D) = y at *
 grind
/-- P14.6: Solve -/
theorem whole_near {n : Nat} {A : M} (h1 : 1 ≤ n) (h3 : n ≤ 3) (hM : Mb n A (fun _ => 8) 0) (hD : 1 ≤ ab (DN n (rM A))) (hj : ∀ j, j < n → Ab (DN n (rJ n (rM A) j)) 3072) :
  good n A n ∧ (∀ j, j < n → Fi (bx (st n A n) n n j)) ∧ ∀ j, j < n → Ab (rv (bx (st n A n) n n j) - DN n (rJ n (rM A) j) / DN n (rM A)) (1 / 1048576) := by
 obtain ⟨hg, hL⟩ := pivots_low h1 h3 hM hD
 have hx := sol_fi h1 h3 hM hg hL
 refine ⟨hg, hx, ?_⟩
 have l := left3 h1 h3 hM hg rfl hx rfl
 have hX : ∀ i, i < n → ∀ j, j < n → Ab (rM A i j) 8 := fun i hi j hj => (hM i hi j (by omega)).2
 have c := cramer (x := fun j => rv (bx (st n A n) n n j)) h1 h3 hX (fun i hi => by
  have := l i hi
  unfold rs0 at this
  rw [Nat.sub_zero] at this
  exact this)
 exact finish h1 h3 rfl hD hj c
end Go.Proofs.Ytjfkdmddfeeheaa.Sv
/-
 OWN TEXT: eddylaw14's plain, simple: what they say of a system.
-/
namespace Go.Proofs.Ytjfkdmddfeeheaa
open Go.ChangeShapes Go.WideShapes Go.ChangeAt Go.RowKit
set_option linter.unusedVariables false
attribute [local go_sem] frombits_call tobits_call run_neg
namespace Sv
def plB (x : Nat) : Bool := Fl.eqF x 0 || (Fl.leF 4427038433705197568 (Fl.rg x) && Fl.leF (Fl.rg x) 4787326403894837248)
/-- a float is nought, or from 2^-40 to 2^40, without its sign -/
def Pl (x : Nat) : Prop := Fi x ∧ (Fl.rg x = 0 ∨ 4427038433705197568 ≤ Fl.rg x) ∧ Fl.rg x ≤ 4787326403894837248
theorem key_nat {x : Nat} (h : x < 9223372036854775808) : Fl.key x = (x : Int) := by
 have e := Fl.key_wd false x h
 exact e
theorem plB_yes {x : Nat} (hx : x < 18446744073709551616) (h : plB x = true) : Pl (Fl.bitsF x) := by
 have hn : Fl.nan x = false ∧ (Fl.rg x = 0 ∨ 4427038433705197568 ≤ Fl.rg x) ∧ Fl.rg x ≤ 4787326403894837248 := by
  unfold plB at h
  rw [Bool.or_eq_true, Bool.and_eq_true] at h
  rcases h with h | ⟨h1, h2⟩
  ·
   unfold Fl.eqF at h
   simp only [Bool.and_eq_true, Bool.not_eq_true', decide_eq_true_eq] at h
   obtain ⟨⟨h1, _⟩, h2⟩ := h
   rw [show Fl.key 0 = 0 by decide] at h2
   have : Fl.rg x = 0 := by unfold Fl.key at h2; split at h2 <;> omega
   exact ⟨h1, Or.inl this, by omega⟩
  ·
   unfold Fl.leF at h1 h2
   simp only [Bool.and_eq_true, Bool.not_eq_true', decide_eq_true_eq] at h1 h2
   rw [Fl.nan_rg, Fl.key_rg, key_nat (by decide)] at h1 h2
   exact ⟨h1.1.2, Or.inr (by have := h1.2; omega), by have := h2.2; omega⟩
 obtain ⟨h1, h2, h3⟩ := hn
 rw [c_num h1]
 exact ⟨⟨hx, by omega⟩, h2, h3⟩
theorem Lm.row1 {w : World} {b o c n : Nat} {l : Nat → Nat} {A : M} (h : Lm w (.slice (some ⟨b, o, none⟩) n c) n l A) {i : Nat} (hi : i < n) : b < w.heap.size ∧ ∃ r, w.cell? ⟨b, o + i, none⟩ = some r ∧ Ls w r (l i) (A i) := by
 rcases h with ⟨_, h⟩ | ⟨b', o', c', e, _, hb, h⟩
 · omega
 · cases e; exact ⟨hb, h i hi⟩
theorem Ls.cell1 {w : World} {b o c n : Nat} {F : Nat → Nat} (h : Ls w (.slice (some ⟨b, o, none⟩) n c) n F) {j : Nat} (hj : j < n) : ∃ x, w.cell? ⟨b, o + j, none⟩ = some (.float .f64 x) ∧ x < 18446744073709551616 ∧ Fl.bitsF x = F j := by
 rcases h with ⟨_, h⟩ | ⟨b', o', c', e, _, h⟩
 · omega
 · cases e; exact h.2 j hj
/-- a row of a system, of n floats -/
theorem Lm.row2 {w : World} {b o c n : Nat} {l : Nat → Nat} {A : M} (h : Lm w (.slice (some ⟨b, o, none⟩) n c) n l A) {i : Nat} (hi : i < n) (hl : l i = n) : ∃ rb ro rc, w.cell? ⟨b, o + i, none⟩ = some (.slice (some ⟨rb, ro, none⟩) n rc) ∧ n ≤ rc ∧ Rd w rb ro n (A i) := by
 obtain ⟨_, r, e, hr⟩ := h.row1 hi
 obtain ⟨rb, ro, rc, rfl, h1, h2⟩ := hr.resolve_left (fun h => by omega)
 rw [hl] at e h1 h2
 exact ⟨rb, ro, rc, e, h1, h2⟩
/-- a system of 1 to 8 unknowns, whose floats are so -/
def Sp (n nb : Nat) (l : Nat → Nat) (A : M) (b : Nat → Nat) : Prop := 1 ≤ n ∧ n ≤ 8 ∧ nb = n ∧ (∀ i, i < n → l i = n) ∧ (∀ i, i < n → Pl (b i)) ∧ ∀ i, i < n → ∀ j, j < n → Pl (A i j)
def Sm (n nb : Nat) (l : Nat → Nat) (A : M) (b : Nat → Nat) (w : World) (e : Ending) (w' : World) : Prop := ∃ r, e = .returned (.bool r) ∧ Bw w w' ∧ (r = true → Sp n nb l A b)
theorem Sm.no {n nb : Nat} {l : Nat → Nat} {A : M} {b : Nat → Nat} {w w' : World} (k : Bw w w') : Sm n nb l A b w (.returned (.bool false)) w' := ⟨false, rfl, k, fun h => by cases h⟩
theorem Sm.yes {n nb : Nat} {l : Nat → Nat} {A : M} {b : Nat → Nat} {w w' : World} (k : Bw w w') (h : Sp n nb l A b) : Sm n nb l A b w (.returned (.bool true)) w' := ⟨true, rfl, k, fun _ => h⟩
end Sv
set_option maxRecDepth 4000 in
theorem plain14 (x : Nat) (w : World) (hx : x < 18446744073709551616) : Calls Try.prog 57 #[.float .f64 x] w fun e w' => e = .returned (.bool (Sv.plB x)) ∧ w' = w := by
 have g1 := Fl.o_eq x 0
 have g2 := Fl.o_ge (Fl.rg x) 4427038433705197568
 have g3 := Fl.o_le (Fl.rg x) 4787326403894837248
 unfold Sv.plB
 generalize Fl.eqF x 0 = b1 at *
 generalize Fl.leF 4427038433705197568 (Fl.rg x) = b2 at *
 generalize Fl.leF (Fl.rg x) 4787326403894837248 = b3 at *
 have HX := Sv.hid hx
 clear hx
 cases b1 <;> cases b2 <;> cases b3 <;>
 ·
  go_enter Try.func57, Try.ntmps57
  go_wp2_with (go_at_call 31; refine (abs_any _ _ HX.out).mono ?_; rintro e w' ⟨rfl, rfl⟩)
  go_ret
  exact ⟨rfl, rfl⟩
set_option maxHeartbeats 4000000 in
theorem simple14 {w : World} {va vb : Value} {n nb : Nat} {l : Nat → Nat} {A : Sv.M} {b : Nat → Nat} (ha : Sv.Lm w va n l A) (hb : Sv.Ls w vb nb b) :
  Calls Try.prog 28 #[va, vb] w fun e w' => Sv.Sm n nb l A b w e w' := by
 have la := ha
 by_cases hm : n < 1 ∨ 8 < n
 ·
  rcases ha with ⟨⟨p0, c0, rfl, hp0⟩, rfl⟩ | ⟨b, o, c, rfl, hc, _, h⟩
  ·
   rcases hb with ⟨⟨p1, c1, rfl, hp1⟩, rfl⟩ | ⟨b', o', c', rfl, hc', _⟩
   ·
    go_enter Try.func28, Try.ntmps28
    go_wp2
    go_ret
    exact Sv.Sm.no (Bw.refl _)
   ·
    go_enter Try.func28, Try.ntmps28
    go_wp2
    go_ret
    exact Sv.Sm.no (Bw.refl _)
  ·
   clear h hb
   rcases hm with hm | hm
   ·
    have hm1 : (n : Int) < 1 := by omega
    go_enter Try.func28, Try.ntmps28
    go_wp2
    go_ret
    exact Sv.Sm.no (Bw.refl _)
   ·
    have hm1 : ¬ (n : Int) < 1 := by omega
    have hm2 : 8 < (n : Int) := by omega
    go_enter Try.func28, Try.ntmps28
    go_wp2
    go_ret
    exact Sv.Sm.no (Bw.refl _)
 obtain ⟨ab, ao, ac, rfl, hc, hbl, ha⟩ := ha.resolve_left (fun h => hm (by omega))
 have HA := Sv.hid ha
 have HM := Sv.hid hm
 have hm1 : ¬ (n : Int) < 1 := by omega
 have hm2 : ¬ 8 < (n : Int) := by omega
 clear ha hm
 by_cases hbn : nb = n
 case neg =>
  rcases hb with ⟨⟨p1, c1, rfl, hp1⟩, rfl⟩ | ⟨b', o', c', rfl, hc', _⟩
  ·
   have z1 : ((0 : Int) == n) = false := by rw [beq_eq_false_iff_ne]; omega
   go_enter Try.func28, Try.ntmps28
   go_wp2
   go_ret
   exact Sv.Sm.no (Bw.refl _)
  ·
   have z1 : ((nb : Int) == n) = false := by rw [beq_eq_false_iff_ne]; omega
   go_enter Try.func28, Try.ntmps28
   go_wp2
   go_ret
   exact Sv.Sm.no (Bw.refl _)
 subst hbn
 have hb0 := hb
 obtain ⟨bb, bo, bc, rfl, hbc, hbr⟩ := hb0.resolve_left (fun h => HM.out (by omega))
 clear hbr
 have hn8 : nb ≤ 8 := by have := HM.out; omega
 have LA := Sv.hid la
 have LB := Sv.hid hb
 clear la hb HA
 go_enter Try.func28, Try.ntmps28
 go_wp2
 clear hm1 hm2
 go_loopw [5] (fun i wr => ∃ k : Nat, k ≤ nb ∧ i = .int .i64 k ∧ Bw w wr ∧ (∀ i, i < k → l i = nb) ∧ (∀ i, i < k → Sv.Pl (b i)) ∧ ∀ i, i < k → ∀ j, j < nb → Sv.Pl (A i j)) (fun i _ => nb - (intOf i).toNat)
 case atStart => exact ⟨0, Nat.zero_le _, rfl, Bw.refl w, fun j hj => absurd hj (by omega), fun j hj => absurd hj (by omega), fun j hj => absurd hj (by omega)⟩
 case round =>
  obtain ⟨k, hk, rfl, hbw, hl, hpb, hpa⟩ := hrel
  have HR := Sv.hid (And.intro hl (And.intro hpb hpa))
  clear hl hpb hpa
  by_cases hk1 : k < nb
  ·
   have hk2 : (k : Int) < nb := by omega
   obtain ⟨_, r, e, hr⟩ := (LA.out.bw hbw).row1 hk1
   by_cases z : l k = nb
   case neg =>
    rcases hr with ⟨⟨p0, c0, rfl, hp0⟩, hr⟩ | ⟨rb, ro, rc, rfl, _, _⟩
    ·
     have z1 : ((0 : Int) == nb) = false := by rw [beq_eq_false_iff_ne]; omega
     clear hr z
     go_wp2
     go_ret
     exact Sv.Sm.no hbw
    ·
     have z1 : ((l k : Int) == nb) = false := by rw [beq_eq_false_iff_ne]; omega
     have z2 : ¬ (l k : Int) = nb := by omega
     have z3 : (l k == nb) = false := by rw [beq_eq_false_iff_ne]; omega
     generalize l k = m at *
     go_wp2
     go_ret
     exact Sv.Sm.no hbw
   obtain ⟨rb, ro, rc, rfl, hrc, hrd⟩ := hr.resolve_left (fun h => by omega)
   rw [z] at e hrc hrd
   have HD := Sv.hid hrd
   obtain ⟨x, ex, hx, hxb⟩ := (LB.out.bw hbw).cell1 hk1
   have HQ := Sv.hid hxb
   have HB0 := Sv.hid hbw
   clear hr hrd hxb
   cases hp : Sv.plB x
   ·
    go_wp2_with fail
    refine (plain14 x _ hx).mono ?_
    rw [hp]
    rintro e' w1 ⟨rfl, rfl⟩
    go_wp2
    go_ret
    exact Sv.Sm.no HB0.out
   have HP : Hid (Sv.Pl (b k)) := by have := Sv.plB_yes hx hp; rw [HQ.out] at this; exact this
   have HZ := Sv.hid z
   clear hbw z
   go_wp2_with fail
   refine (plain14 x _ hx).mono ?_
   rw [hp]
   rintro e' w1 ⟨rfl, rfl⟩
   clear hp ex hx HQ
   go_wp2
   go_loopw [6] (fun i wr' => ∃ t : Nat, t ≤ nb ∧ i = .int .i64 t ∧ Bw w wr' ∧ (∀ j, j < t → Sv.Pl (A k j))) (fun i _ => nb - (intOf i).toNat)
   case atStart => exact ⟨0, Nat.zero_le _, rfl, HB0.out, fun j hj => absurd hj (by omega)⟩
   case round =>
    clear HB0 HD e
    obtain ⟨t, ht, rfl, hbw, hpt⟩ := hrel
    obtain ⟨rb, ro, rc, e, hrc, hd⟩ := (LA.out.bw hbw).row2 hk1 HZ.out
    have HT := Sv.hid hpt
    have HB0 := Sv.hid hbw
    clear hpt
    by_cases ht1 : t < nb
    ·
     have ht2 : (t : Int) < nb := by omega
     obtain ⟨x, ex, hx, hxb⟩ := hd.2 t ht1
     have HQ := Sv.hid hxb
     clear hxb hd hbw
     cases hp : Sv.plB x
     ·
      go_wp2_with fail
      refine (plain14 x _ hx).mono ?_
      rw [hp]
      rintro e' w1 ⟨rfl, rfl⟩
      go_wp2
      go_ret
      exact Sv.Sm.no HB0.out
     have HP2 : Hid (Sv.Pl (A k t)) := by have := Sv.plB_yes hx hp; rw [HQ.out] at this; exact this
     go_wp2_with fail
     refine (plain14 x _ hx).mono ?_
     rw [hp]
     rintro e' w1 ⟨rfl, rfl⟩
     clear hp ex hx HQ e
     go_wp2
     go_roundw
     case rel =>
      refine ⟨t + 1, by omega, by simp, HB0.out, fun j hj => ?_⟩
      by_cases y : j = t
      · subst y; exact HP2.out
      · exact HT.out j (by omega)
     case measure => simp [intOf]; omega
    ·
     have ht3 : t = nb := by omega
     clear hd e hbw
     have hnt : ¬ (t : Int) < nb := by omega
     go_wp2
     go_roundw
     case rel =>
      refine ⟨k + 1, by omega, by simp, HB0.out, fun i hi => ?_, fun i hi => ?_, fun i hi => ?_⟩
      ·
       by_cases y : i = k
       · subst y; exact HZ.out
       · exact HR.out.1 i (by omega)
      ·
       by_cases y : i = k
       · subst y; exact HP.out
       · exact HR.out.2.1 i (by omega)
      ·
       by_cases y : i = k
       · subst y; rw [← ht3]; exact HT.out
       · exact HR.out.2.2 i (by omega)
     case measure => simp [intOf]; omega
  ·
   have hk3 : k = nb := by omega
   subst hk3
   go_wp2
   go_ret
   exact Sv.Sm.yes hbw ⟨by have := HM.out; omega, by have := HM.out; omega, rfl, HR.out⟩
end Go.Proofs.Ytjfkdmddfeeheaa
