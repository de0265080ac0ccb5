/-
  OWN TEXT: how great the numbers of the law PolyWhole get; its 'like'.
-/
import Derived.Test.YtpfgboinjjobpaaPyQ
namespace Go.Proofs.Ytpfgboinjjobpaa
open Go.ChangeShapes Go.WideShapes Go.ChangeAt Go.RowKit
set_option linter.unusedVariables false
attribute [local go_sem] frombits_call tobits_call run_neg run_store_cx
/-- A, and Z times what stands, and A .. -/
def hrn (A Z : Nat) : Nat → Nat
  | 0 => A
  | t + 1 => hrn A Z t * Z + A
theorem hrn_up {A Z : Nat} (hZ : 1 ≤ Z) (t : Nat) : hrn A Z t ≤ hrn A Z (t + 1) := by
  show hrn A Z t ≤ hrn A Z t * Z + A
  have := Nat.le_mul_of_pos_right (hrn A Z t) (show 0 < Z by omega)
  omega
theorem hrn_mono {A Z : Nat} (hZ : 1 ≤ Z) {t n : Nat} (h : t ≤ n) : hrn A Z t ≤ hrn A Z n := by
  induction n with
  | zero => rw [show t = 0 by omega]; exact Nat.le_refl _
  | succ n ih =>
    by_cases k : t = n + 1
    · rw [k]; exact Nat.le_refl _
    · exact Nat.le_trans (ih (by omega)) (hrn_up hZ n)
theorem steps_of {l : List Py.G} {n N A Z : Nat} (hl : ∀ i, Py.Le (Py.co l i) A) (hZ : 1 ≤ Z) (hn : n ≤ N) (hN : hrn A Z N ≤ 9007199254740992) : Steps l n Z (fun k => hrn A Z (n - k)) := by
  refine ⟨?_, fun k hk => ⟨A, hl k, ?_⟩, fun k hk => Nat.le_trans (hrn_mono hZ (by omega)) hN⟩
  · simp only [Nat.sub_self]; exact hl n
  · simp only
    rw [show n - k = (n - (k + 1)) + 1 by omega]
    exact Nat.le_refl _
theorem ev_le {l : List Py.G} {z : Py.G} {A Z : Nat} (hl : ∀ i, Py.Le (Py.co l i) A) (hz : Py.Le z Z) (n : Nat) (hn : l.length = n + 1) : Py.Le (Py.ev l z) (hrn A Z n) := by
  induction n generalizing l with
  | zero =>
    match l, hn with
    | [c], _ =>
      rw [Py.ev, Py.ev, Py.nought_gm, Py.nought_ga]
      exact hl 0
  | succ n ih =>
    match l, hn with
    | c :: r, hn =>
      rw [Py.ev]
      exact ((ih (fun i => hl (i + 1)) (by simpa using hn)).mul hz).add (hl 0)
/-- a shifted polynomial -/
theorem steps_shift {l l' : List Py.G} {g : Py.G} {n m : Nat} (hn : l.length = n + 1) (h6 : n ≤ 6) (hm : m ≤ n) (hl : ∀ i, Py.Le (Py.co l i) 12) (hg : Py.Le g 12) (hc : ∀ i, Py.co l' i = Py.co (Py.shs g l n) i) : Steps l' m 12 (fun k => 2 * (12 * 2 ^ n) * 24 ^ (n - k)) := by
  have hb : ∀ i, Py.Le (Py.co l' i) (12 * 2 ^ n * 24 ^ (n - i)) := fun i => by rw [hc]; exact Py.shs_le g l 12 12 n hn hg hl (by omega) n (Nat.le_refl _) i
  refine ⟨(hb m).mono ?_, fun k hk => ⟨_, hb k, ?_⟩, fun k hk => ?_⟩
  · exact Nat.mul_le_mul_right _ (by omega)
  · simp only
    rw [show n - k = (n - (k + 1)) + 1 by omega, Nat.pow_succ]
    generalize 12 * 2 ^ n = a
    generalize 24 ^ (n - (k + 1)) = q
    have e1 : 2 * a * q * 12 = 24 * (a * q) := by
      rw [Nat.mul_assoc 2 a q]; omega
    have e2 : a * (q * 24) = 24 * (a * q) := by rw [← Nat.mul_assoc]; omega
    have e3 : 2 * a * (q * 24) = 48 * (a * q) := by rw [Nat.mul_assoc 2 a, ← Nat.mul_assoc a]; omega
    omega
  · simp only
    have h1 : 2 ^ n ≤ 2 ^ 6 := Nat.pow_le_pow_right (by omega) h6
    have h2 : 24 ^ (n - k) ≤ 24 ^ 6 := Nat.pow_le_pow_right (by omega) (by omega)
    refine Nat.le_trans (Nat.mul_le_mul (Nat.mul_le_mul_left 2 (Nat.mul_le_mul_left 12 h1)) h2) (by decide)
theorem shift_le {l : List Py.G} {g : Py.G} {n : Nat} (hn : l.length = n + 1) (h6 : n ≤ 6) (hl : ∀ i, Py.Le (Py.co l i) 12) (hg : Py.Le g 12) : ∀ j, j ≤ n → ∀ i, Py.Le (Py.co (Py.shs g l j) i) 146767085568 := fun j hj i => by
  refine (Py.shs_le g l 12 12 n hn hg hl (by omega) j hj i).mono ?_
  have h1 : 2 ^ j ≤ 2 ^ 6 := Nat.pow_le_pow_right (by omega) (by omega)
  have h2 : 24 ^ (n - i) ≤ 24 ^ 6 := Nat.pow_le_pow_right (by omega) (by omega)
  exact Nat.le_trans (Nat.mul_le_mul (Nat.mul_le_mul_left 12 h1) h2) (by decide)
theorem e8_mul {g h : Py.G} (hg : E8 g) (hh : E8 h) : Py.Le (Py.gm g h) 128 := by
  have n8 : ∀ m : Int, m.natAbs ≤ 8 → m * m ≤ 64 := fun m hm => by
    have : m * m = (m.natAbs * m.natAbs : Nat) := by rw [Int.natAbs_mul_self]
    rw [this]
    have := Nat.mul_le_mul hm hm
    omega
  have a1 := n8 _ hg.1
  have a2 := n8 _ hg.2
  have b1 := n8 _ hh.1
  have b2 := n8 _ hh.2
  show (g.1 * h.1 - g.2 * h.2) * (g.1 * h.1 - g.2 * h.2) + (g.1 * h.2 + g.2 * h.1) * (g.1 * h.2 + g.2 * h.1) ≤ _
  have e : (g.1 * h.1 - g.2 * h.2) * (g.1 * h.1 - g.2 * h.2) + (g.1 * h.2 + g.2 * h.1) * (g.1 * h.2 + g.2 * h.1) = (g.1 * g.1 + g.2 * g.2) * (h.1 * h.1 + h.2 * h.2) := by grind
  rw [e]
  have n3 := Py.sq_nonneg h.1
  have n4 := Py.sq_nonneg h.2
  have m := Int.mul_le_mul (show g.1 * g.1 + g.2 * g.2 ≤ 128 by omega) (show h.1 * h.1 + h.2 * h.2 ≤ 128 by omega) (by omega) (by decide)
  exact Int.le_trans m (by decide)
theorem ts_le8 {a b : List Py.G} (ha : ∀ i, E8 (Py.co a i)) (hb : ∀ i, E8 (Py.co b i)) (j k : Nat) : Py.Le (Py.ts a b j k) (k * 128) := by
  induction k with
  | zero => exact Py.Le.nought _
  | succ k ih =>
    rw [Py.ts, Nat.add_mul, Nat.one_mul]
    refine ih.add ?_
    by_cases c : k ≤ j
    · rw [if_pos c]; exact e8_mul (ha _) (hb _)
    · rw [if_neg c]; exact Py.Le.nought _
set_option maxHeartbeats 4000000 in
theorem llike8 {c : Nat} {w : World} {b o cap b' o' cap' n : Nat} {l : List Py.G} (hn : l.length = n) (hm : n ≤ 1000) (h : Gl c w b o l) (h' : Gl c w b' o' l) : Calls Try.prog 16 #[.slice (some ⟨b, o, none⟩) n cap, .slice (some ⟨b', o', none⟩) n cap'] w fun e w' => e = .returned (.bool true) ∧ Bw w w' := by
  have HN := hide hn
  have HG := hide h
  have HG' := hide h'
  clear hn h h'
  go_enter Try.func16, Try.ntmps16
  go_wp2
  go_loopw [5] (fun i wr => ∃ k : Nat, k ≤ n ∧ i = .int .i64 k ∧ Bw w wr) (fun i _ => n - (intOf i).toNat)
  case atStart => exact ⟨0, Nat.zero_le _, rfl, Bw.refl _⟩
  case round =>
    obtain ⟨k, hk, rfl, hbw⟩ := hrel
    by_cases hk1 : k < n
    · obtain ⟨x, y, e1, q1⟩ := (HG.out.bw hbw).2 k (by have := HN.out; omega)
      obtain ⟨u, v, e2, q2⟩ := (HG'.out.bw hbw).2 k (by have := HN.out; omega)
      have P : Hid (∀ wz, Calls Try.prog 12 #[.complex .f64 x y, .complex .f64 u v] wz fun e w' => e = .returned (.bool true) ∧ w' = wz) := fun wz => by
        have := rLike8 q1 q2 wz
        rw [decide_eq_true rfl] at this
        exact this
      clear q1 q2
      have hk2 : (k : Int) < n := by omega
      go_wp2_with fail
      have S0 : wr.drew.cell? ⟨b, o + k, none⟩ = some (.complex .f64 x y) ∧ wr.drew.cell? ⟨b', o' + k, none⟩ = some (.complex .f64 u v) := ⟨e1, e2⟩
      refine wp_region_K (fun w' => w'.cell? ⟨b, o + k, none⟩ = some (.complex .f64 x y) ∧ w'.cell? ⟨b', o' + k, none⟩ = some (.complex .f64 u v)) 9 10 #[false, false, false, false, false, false, false, false, false, false] (by kernel_rfl) (by kernel_rfl) (by kernel_rfl) ?_
      refine wpAnyK_take 0 18 (v := ?v0) rfl (by kernel_rfl) (by kernel_rfl) (by kernel_rfl) (by kernel_rfl) (by kernel_rfl) (fun _ _ _ h => h) rfl (Or.inl ⟨by rfl, ?h0⟩) (by assumption) ?r0
      case h0 => (intro w hSw; go_simp; with_reducible rfl)
      simp only [Act.put, List.setIfInBounds_toArray, List.set_cons_zero, List.set_cons_succ]
      refine wpAnyK_take 1 19 (v := ?v1) rfl (by kernel_rfl) (by kernel_rfl) (by kernel_rfl) (by kernel_rfl) (by kernel_rfl) (fun _ _ _ h => h) rfl (Or.inl ⟨by rfl, ?h1⟩) (by assumption) ?r1
      case h1 => (intro w hSw; go_simp; with_reducible rfl)
      simp only [Act.put, List.setIfInBounds_toArray, List.set_cons_zero, List.set_cons_succ]
      refine wpAnyK_take 2 20 (v := ?v2) rfl (by kernel_rfl) (by kernel_rfl) (by kernel_rfl) (by kernel_rfl) (by kernel_rfl) (fun _ _ _ h => h) rfl (Or.inl ⟨by rfl, ?h2⟩) (by assumption) ?r2
      case h2 => (intro w hSw; go_simp; with_reducible rfl)
      simp only [Act.put, List.setIfInBounds_toArray, List.set_cons_zero, List.set_cons_succ]
      refine wpAnyK_take 3 21 (v := ?v3) rfl (by kernel_rfl) (by kernel_rfl) (by kernel_rfl) (by kernel_rfl) (by kernel_rfl) (fun _ _ _ h => h) rfl (Or.inl ⟨by rfl, ?h3⟩) (by assumption) ?r3
      case h3 => (intro w hSw; go_simp; with_reducible rfl)
      simp only [Act.put, List.setIfInBounds_toArray, List.set_cons_zero, List.set_cons_succ]
      refine wpAnyK_take 4 22 (v := ?v4) rfl (by kernel_rfl) (by kernel_rfl) (by kernel_rfl) (by kernel_rfl) (by kernel_rfl) (fun _ _ _ h => h) rfl (Or.inl ⟨by rfl, ?h4⟩) (by assumption) ?r4
      case h4 => (intro w hSw; go_simp; with_reducible rfl)
      simp only [Act.put, List.setIfInBounds_toArray, List.set_cons_zero, List.set_cons_succ]
      refine wpAnyK_take 5 23 (v := ?v5) rfl (by kernel_rfl) (by kernel_rfl) (by kernel_rfl) (by kernel_rfl) (by kernel_rfl) (fun _ _ _ h => h) rfl (Or.inl ⟨by rfl, ?h5⟩) (by assumption) ?r5
      case h5 => (intro w hSw; go_simp; with_reducible rfl)
      simp only [Act.put, List.setIfInBounds_toArray, List.set_cons_zero, List.set_cons_succ]
      refine wpAnyK_take 6 24 (v := ?v6) rfl (by kernel_rfl) (by kernel_rfl) (by kernel_rfl) (by kernel_rfl) (by kernel_rfl) (fun _ _ _ h => h) rfl (Or.inl ⟨by rfl, ?h6⟩) (by assumption) ?r6
      case h6 => (intro w hSw; go_simp; with_reducible rfl)
      simp only [Act.put, List.setIfInBounds_toArray, List.set_cons_zero, List.set_cons_succ]
      refine wpAnyK_take 7 25 (v := ?v7) rfl (by kernel_rfl) (by kernel_rfl) (by kernel_rfl) (by kernel_rfl) (by kernel_rfl) (fun _ _ _ h => h) rfl (Or.inl ⟨by rfl, ?h7⟩) (by assumption) ?r7
      case h7 => (intro w hSw; go_simp; with_reducible rfl)
      simp only [Act.put, List.setIfInBounds_toArray, List.set_cons_zero, List.set_cons_succ]
      refine wpAnyK_one 8 (by kernel_rfl) rfl (fun K hK => ?_)
      go_simp
      go_wp2_with (go_at_call 12; refine (P.out _).mono ?_; rintro e' w7 ⟨rfl, hw7⟩; subst hw7)
      refine hK.out _ _ (fun _ _ => S0) ?_
      clear hK K
      simp only [List.setIfInBounds_toArray, List.set_cons_zero, List.set_cons_succ]
      refine wpAnyK_one 9 (by kernel_rfl) rfl (fun K hK => ?_)
      go_simp
      refine hK.out _ _ (fun h => absurd rfl h) ?_
      clear hK K
      simp only [List.setIfInBounds_toArray, List.set_cons_zero, List.set_cons_succ]
      refine wpAnyK_done (by kernel_rfl) ?_ _
      clear S0 e1 e2 P
      go_wp2
      go_roundw
      case rel => exact ⟨k + 1, by omega, by simp, hbw.drew⟩
      case measure => simp [intOf]; omega
    · have hk3 : k = n := by omega
      subst hk3
      go_wp2
      go_ret
      exact ⟨rfl, hbw⟩
end Go.Proofs.Ytpfgboinjjobpaa
