/-
  OWN TEXT: the law's small functions; whole numbers up to some thousands as floats, to the bit: sums and differences.
-/
import Derived.Test.YtgljnklaabbidaaGreatJElBToElC
import Derived.Test.YtgljnklaabbidaaGreatJPyAToPyC
import Derived.Test.YtgljnklaabbidaaGreatJElG
import Derived.Test.YtgljnklaabbidaaGreatJEqA
namespace Go.Proofs.YtgljnklaabbidaaGreat
open Go.ChangeShapes Go.WideShapes Go.ChangeAt Go.RowKit
set_option linter.unusedVariables false
attribute [local go_sem] frombits_call tobits_call run_neg
set_option exponentiation.threshold 3000
set_option maxHeartbeats 1000000 in
theorem gof15 (x y : Int) (w : World) : Calls Tryz.prog 5 #[.agg #[.int .i16 x, .int .i16 y]] w fun e w' => e = .returned (.complex .f64 (floatOfInt .f64 x) (floatOfInt .f64 y)) ∧ Bw w w' := by
  have g : Bw w (w.alloc (.cells #[.int .i16 x, .int .i16 y] 24)) := Below.alloc (Bw.refl w) (Nat.le_refl _) _
  have c0 : (w.alloc (.cells #[.int .i16 x, .int .i16 y] 24)).cell? ⟨w.heap.size, 0, none⟩ = some (.int .i16 x) := by simp
  have c1 : (w.alloc (.cells #[.int .i16 x, .int .i16 y] 24)).cell? ⟨w.heap.size, 1, none⟩ = some (.int .i16 y) := by simp
  go_enter Tryz.func5, Tryz.ntmps5
  go_wp2
  go_ret
  exact ⟨rfl, g⟩
namespace El
def Sm (p : Bool) (x y : Int) : Prop := p = true → (x.natAbs ≤ 1000 ∧ y.natAbs ≤ 1000)
end El
set_option maxHeartbeats 1000000 in
theorem gsmall15 (x y : Int) (w : World) : Calls Tryz.prog 6 #[.agg #[.int .i16 x, .int .i16 y]] w fun e w' => ∃ p, e = .returned (.bool p) ∧ El.Sm p x y ∧ Bw w w' := by
  have g : Bw w (w.alloc (.cells #[.int .i16 x, .int .i16 y] 24)) := Below.alloc (Bw.refl w) (Nat.le_refl _) _
  have c0 : (w.alloc (.cells #[.int .i16 x, .int .i16 y] 24)).cell? ⟨w.heap.size, 0, none⟩ = some (.int .i16 x) := by simp
  have c1 : (w.alloc (.cells #[.int .i16 x, .int .i16 y] 24)).cell? ⟨w.heap.size, 1, none⟩ = some (.int .i16 y) := by simp
  go_enter Tryz.func6, Tryz.ntmps6
  go_wp2
  all_goals go_ret
  all_goals first
    | exact Or.inl ⟨rfl, (fun h => by cases h), g⟩
    | exact ⟨false, rfl, (fun h => by cases h), g⟩
    | refine ⟨decide (y ≤ 1000), rfl, (fun h => ?_), g⟩
  all_goals (have k := of_decide_eq_true h; omega)
namespace El
/-- the word x is the whole number n, a nought without its sign -/
def wP (x : Nat) (n : Int) : Prop := wI 1074 x n ∧ Fl.sg x = decide (n < 0)
theorem wP.uni {x y : Nat} {n : Int} (h : wP x n) (k : wP y n) : x = y := by
  have hv : Fl.vl (Fl.rg x) = Fl.vl (Fl.rg y) := by rw [h.1.vl, k.1.vl]
  have hr := Fl.vl_inj.1 hv
  have hs : Fl.sg x = Fl.sg y := by rw [h.2, k.2]
  have l1 := h.1.1
  have l2 := k.1.1
  unfold Fl.rg at hr
  unfold Fl.sg at hs
  have hs' := decide_eq_decide.1 hs
  omega
theorem wP.lt {x : Nat} {n : Int} (h : wP x n) : x < 18446744073709551616 := h.1.1
theorem wP.nan {x : Nat} {n : Int} (h : wP x n) : Fl.nan x = false := h.1.nan
theorem wP.wi {x : Nat} {n : Int} (h : wP x n) (b : n.natAbs ≤ 100000) : El.wi x = true := wI.within rfl h.1 (by omega)
theorem wP.of {s : Bool} {n : Int} (hn : n.natAbs ≤ 9007199254740992) (hs : s = decide (n < 0)) : wP (Fl.wd s (Fl.rq (n.natAbs * 2 ^ 1074) 0)) n := by
  refine ⟨wI_of rfl hn (fun _ => hs), ?_⟩
  obtain ⟨h1, h2⟩ := Fl.rq_rep (n.natAbs * 2 ^ 1074) ⟨n.natAbs, 1074, rfl, hn⟩ (small_log rfl hn)
  rw [Fl.sg_wd _ _ (by omega), hs]
theorem wP.add {a b : Nat} {m n : Int} (ha : wP a m) (hb : wP b n) (hs : (m + n).natAbs ≤ 9007199254740992) : ∃ r, wP r (m + n) ∧ floatBits .add .f64 a b = some r := by
  have e := Fl.add_fin ha.1.2.1 hb.1.2.1
  obtain ⟨k1, k2⟩ := mul_sign (n := m + n) (Nat.two_pow_pos 1074)
  rw [ha.1.2.2, hb.1.2.2, ← Int.add_mul, Int.natAbs_mul, Int.natAbs_natCast] at e
  refine ⟨_, wP.of hs ?_, e⟩
  by_cases z : m + n = 0
  · rw [if_pos (k1.2 z), ha.2, hb.2, z]
    by_cases q : m < 0
    · rw [decide_eq_false (show ¬ n < 0 by omega), Bool.and_false]; rfl
    · rw [decide_eq_false q, Bool.false_and]; rfl
  · rw [if_neg (fun q => z (k1.1 q))]
    exact decide_eq_decide.2 k2
theorem wP.sub {a b : Nat} {m n : Int} (ha : wP a m) (hb : wP b n) (hs : (m - n).natAbs ≤ 9007199254740992) : ∃ r, wP r (m - n) ∧ floatBits .sub .f64 a b = some r := by
  have e := Fl.sub_fin hb.1.1 ha.1.2.1 hb.1.2.1
  obtain ⟨k1, k2⟩ := mul_sign (n := m - n) (Nat.two_pow_pos 1074)
  rw [ha.1.2.2, hb.1.2.2, ← Int.sub_mul, Int.natAbs_mul, Int.natAbs_natCast] at e
  refine ⟨_, wP.of hs ?_, e⟩
  by_cases z : m - n = 0
  · have q : n = m := by omega
    subst q
    rw [if_pos (k1.2 z), ha.2, hb.2, z]
    cases decide (n < 0) <;> rfl
  · rw [if_neg (fun q => z (k1.1 q))]
    exact decide_eq_decide.2 k2
theorem thou_all : ∀ k : Fin 2001, floatOfInt .f64 ((k.val : Int) - 1000) < 18446744073709551616 ∧ Fl.rg (floatOfInt .f64 ((k.val : Int) - 1000)) < 9218868437227405312 ∧ Fl.val (floatOfInt .f64 ((k.val : Int) - 1000)) = ((k.val : Int) - 1000) * ((2 ^ 1074 : Nat) : Int) ∧ Fl.sg (floatOfInt .f64 ((k.val : Int) - 1000)) = decide (((k.val : Int) - 1000) < 0) := by decide +kernel
theorem wP_thou (m : Int) (h : m.natAbs ≤ 1000) : wP (floatOfInt .f64 m) m := by
  have h := thou_all ⟨(m + 1000).toNat, by omega⟩
  simp only at h
  rw [show (((m + 1000).toNat : Nat) : Int) - 1000 = m by omega] at h
  exact ⟨⟨h.1, h.2.1, h.2.2.1⟩, h.2.2.2⟩
end El
theorem psubP {a b u v : Nat} {m n m' n' : Int} (ha : El.wP a m) (hb : El.wP b n) (hu : El.wP u m') (hv : El.wP v n') (h1 : (m - m').natAbs ≤ 100000) (h2 : (n - n').natAbs ≤ 100000) : ∃ r s, El.wP r (m - m') ∧ El.wP s (n - n') ∧ ∀ w, Calls Tryz.prog 14 #[.complex .f64 a b, .complex .f64 u v] w fun e w' => e = .returned (.complex .f64 r s) ∧ w' = w := by
  obtain ⟨r, hr, e1⟩ := ha.sub hu (by omega)
  obtain ⟨s, hs, e2⟩ := hb.sub hv (by omega)
  refine ⟨r, s, hr, hs, fun w => ?_⟩
  have e := fun (t : TypeId) (w : World) => csum_run8 (Or.inr rfl) (fun t => (run_some e1).2 t w) (fun t => (run_some e2).2 t w) t
  clear ha hb hu hv hr hs e1 e2 h1 h2
  go_enter Tryz.func14, Tryz.ntmps14
  go_wp2
  go_ret
  exact ⟨rfl, rfl⟩
theorem paddP {a b u v : Nat} {m n m' n' : Int} (ha : El.wP a m) (hb : El.wP b n) (hu : El.wP u m') (hv : El.wP v n') (h1 : (m + m').natAbs ≤ 100000) (h2 : (n + n').natAbs ≤ 100000) : ∃ r s, El.wP r (m + m') ∧ El.wP s (n + n') ∧ ∀ w, Calls Tryz.prog 9 #[.complex .f64 a b, .complex .f64 u v] w fun e w' => e = .returned (.complex .f64 r s) ∧ w' = w := by
  obtain ⟨r, hr, e1⟩ := ha.add hu (by omega)
  obtain ⟨s, hs, e2⟩ := hb.add hv (by omega)
  refine ⟨r, s, hr, hs, fun w => ?_⟩
  have e := fun (t : TypeId) (w : World) => csum_run8 (Or.inl rfl) (fun t => (run_some e1).2 t w) (fun t => (run_some e2).2 t w) t
  clear ha hb hu hv hr hs e1 e2 h1 h2
  go_enter Tryz.func9, Tryz.ntmps9
  go_wp2
  go_ret
  exact ⟨rfl, rfl⟩
theorem El.same_c {x y : Nat} (h : Fl.bitsF x = Fl.bitsF y) : simR x y := by
  by_cases nx : Fl.nan x = true
  · refine Or.inr ⟨nx, ?_⟩
    rw [← Sv.nan_c, ← h, Sv.nan_c]; exact nx
  · left
    have ny : ¬ Fl.nan y = true := by rw [← Sv.nan_c, ← h, Sv.nan_c]; exact nx
    rw [Sv.c_num (Bool.eq_false_iff.2 nx), Sv.c_num (Bool.eq_false_iff.2 ny)] at h
    exact h
theorem psame_c {a b x y : Nat} (h : El.c2 a b = El.c2 x y) (w : World) : Calls Tryz.prog 13 #[.complex .f64 a b, .complex .f64 x y] w fun e w' => e = .returned (.bool true) ∧ w' = w := by
  have h1 := El.same_c (congrArg Prod.fst h : Fl.bitsF a = Fl.bitsF x)
  have h2 := El.same_c (congrArg Prod.snd h : Fl.bitsF b = Fl.bitsF y)
  have R1 : Hid (∀ wz, Calls Tryz.prog 24 #[.float .f64 a, .float .f64 x] wz fun e w' => e = .returned (.bool true) ∧ w' = wz) := fun wz => by have m := same_any a x wz; rw [h1.same] at m; exact m
  have R2 : Hid (∀ wz, Calls Tryz.prog 24 #[.float .f64 b, .float .f64 y] wz fun e w' => e = .returned (.bool true) ∧ w' = wz) := fun wz => by have m := same_any b y wz; rw [h2.same] at m; exact m
  clear h h1 h2
  go_enter Tryz.func13, Tryz.ntmps13
  go_wp2_with fail
  refine (R1.out _).mono ?_
  rintro e' w ⟨rfl, rfl⟩
  go_wp2_with fail
  refine (R2.out _).mono ?_
  rintro e' w ⟨rfl, rfl⟩
  go_wp2
  go_ret
  exact ⟨rfl, rfl⟩
end Go.Proofs.YtgljnklaabbidaaGreat
/-
  OWN TEXT: whole powers as floats; what one row of bits a part comes to at whole numbers.
-/
namespace Go.Proofs.YtgljnklaabbidaaGreat
open Go.ChangeShapes Go.WideShapes Go.ChangeAt Go.RowKit
set_option linter.unusedVariables false
set_option exponentiation.threshold 3000
namespace El
theorem vl8 : Fl.vl 4620693217682128896 = 8 * 2 ^ 1074 := by decide +kernel
theorem key_pos {p : Nat} (h : 0 < Fl.key p) : Fl.sg p = false ∧ Fl.rg p ≠ 0 := by
  unfold Fl.key at h
  cases q : Fl.sg p with
  | false => rw [q] at h; simp at h; exact ⟨rfl, by omega⟩
  | true => rw [q] at h; simp at h; omega
/-- a whole float from 1 to 8 -/
theorem wh_of {p : Nat} (hp : p < 18446744073709551616) (np : Fl.nan p = false) (hw : wh p = true) (h0 : 0 < Fl.key p) (h8 : Fl.rg p ≤ 4620693217682128896) : ∃ k : Nat, 1 ≤ k ∧ k ≤ 8 ∧ p = floatOfInt .f64 (k : Int) := by
  obtain ⟨s0, r0⟩ := key_pos h0
  obtain ⟨U, hU⟩ : ∃ U, U = 2 ^ 1074 := ⟨_, rfl⟩
  have up : 0 < U := by rw [hU]; exact Nat.two_pow_pos _
  have hv : Fl.vl (Fl.rg p) ≤ 8 * U := by
    rw [hU, ← vl8]
    rcases Nat.lt_or_ge (Fl.rg p) 4620693217682128896 with q | q
    · exact Nat.le_of_lt (Fl.vl_mono q)
    · rw [show Fl.rg p = 4620693217682128896 by omega]; exact Nat.le_refl _
  have hv2 : Fl.vl (Fl.rg p) ≤ 4194304 * 2 ^ 1074 := by rw [← hU]; exact Nat.le_trans hv (Nat.mul_le_mul_right U (by decide))
  obtain ⟨k, hk, e1, e2, e3⟩ := Fl.whole_int 1074 rfl (by omega) hv2
  rw [← hU] at e1 e2
  unfold wh at hw
  rw [np] at hw
  simp only [Bool.not_false, Bool.true_and] at hw
  unfold Fl.eqF at hw
  simp only [Bool.and_eq_true, decide_eq_true_eq] at hw
  obtain ⟨⟨n1, n2⟩, ke⟩ := hw
  have hl : Fl.rq (k * U) 0 < 9223372036854775808 := by
    have := (Fl.rq_rep (k * U) ⟨k, 1074, by rw [hU], by omega⟩ (by rw [hU]; exact small_log rfl (by omega))).2
    omega
  have rw1 : Fl.rg (Fl.whF p) = Fl.rq (k * U) 0 := by rw [e1]; exact Fl.rg_wd _ _ hl
  have sw1 : Fl.sg (Fl.whF p) = false := by rw [e1, Fl.sg_wd _ _ hl]; exact s0
  have hrr : Fl.rg (Fl.whF p) = Fl.rg p := by
    unfold Fl.key at ke
    rw [sw1, s0] at ke
    have ke' : ((Fl.rg (Fl.whF p) : Nat) : Int) = (Fl.rg p : Nat) := by simpa using ke
    omega
  have hvk : Fl.vl (Fl.rg p) = k * U := by rw [← hrr, rw1, e2]
  have k8 : k ≤ 8 := by
    rw [hvk] at hv
    exact Nat.le_of_mul_le_mul_right hv up
  have k1 : 1 ≤ k := by
    rcases Nat.eq_zero_or_pos k with z | z
    · exfalso
      rw [z, Nat.zero_mul] at hvk
      exact Fl.vl_pos r0 hvk
    · exact z
  refine ⟨k, k1, k8, ?_⟩
  have hP : wP p k := by
    refine ⟨⟨hp, by omega, ?_⟩, by rw [s0, decide_eq_false (by omega)]⟩
    unfold Fl.val
    rw [s0, if_neg (by decide), hvk, hU]
    simp
  exact hP.uni (wP_thou k (by omega))
/-- doublets' powers -/
theorem dtab : ∀ i : Fin 8, floatToIntVal .f64 (floatOfInt .f64 ((i.val + 1 : Nat) : Int)) .i64 = some ((i.val + 1 : Nat) : Int) ∧ ((floatBits .add .f64 (floatOfInt .f64 ((i.val + 1 : Nat) : Int)) 4607182418800017408).bind fun q => floatBits .mul .f64 (floatOfInt .f64 ((i.val + 1 : Nat) : Int)) q).isSome = true := by decide +kernel
theorem dpow {k : Nat} (h1 : 1 ≤ k) (h8 : k ≤ 8) : floatToIntVal .f64 (floatOfInt .f64 (k : Int)) .i64 = some (k : Int) ∧ ∃ p1 pm, floatBits .add .f64 (floatOfInt .f64 (k : Int)) 4607182418800017408 = some p1 ∧ floatBits .mul .f64 (floatOfInt .f64 (k : Int)) p1 = some pm := by
  have h := dtab ⟨k - 1, by omega⟩
  simp only [show k - 1 + 1 = k by omega] at h
  refine ⟨h.1, ?_⟩
  have h2 := h.2
  cases e : floatBits .add .f64 (floatOfInt .f64 (k : Int)) 4607182418800017408 with
  | none => rw [e] at h2; cases h2
  | some q =>
    rw [e] at h2
    cases e2 : floatBits .mul .f64 (floatOfInt .f64 (k : Int)) q with
    | none => simp only [Option.bind_some] at h2; rw [e2] at h2; cases h2
    | some r => exact ⟨q, r, rfl, e2⟩
/-- corners' whole powers -/
def sb (k : Nat) (c : Nat) : Nat := (floatBits .sub .f64 (floatOfInt .f64 (k : Int)) c).getD 0
theorem ctab : ∀ i : Fin 4, floatBits .sub .f64 (floatOfInt .f64 ((i.val + 1 : Nat) : Int)) 4607182418800017408 = some (sb (i.val + 1) 4607182418800017408) ∧ floatBits .sub .f64 (floatOfInt .f64 ((i.val + 1 : Nat) : Int)) 4611686018427387904 = some (sb (i.val + 1) 4611686018427387904) ∧
    (floatBits .mul .f64 (floatOfInt .f64 ((i.val + 1 : Nat) : Int)) (sb (i.val + 1) 4607182418800017408)).isSome = true ∧ floatToIntVal .f64 (sb (i.val + 1) 4607182418800017408) .i64 = some ((i.val : Nat) : Int) ∧ (0 < i.val → floatToIntVal .f64 (sb (i.val + 1) 4611686018427387904) .i64 = some ((i.val - 1 : Nat) : Int)) ∧
    Fl.eqF (floatOfInt .f64 ((i.val + 1 : Nat) : Int)) 4607182418800017408 = decide (i.val = 0) ∧ Fl.eqF (floatOfInt .f64 ((i.val + 1 : Nat) : Int)) 4611686018427387904 = decide (i.val = 1) := by decide +kernel
theorem cpow {k : Nat} (h1 : 1 ≤ k) (h4 : k ≤ 4) : ∃ p1 p2 pm, floatBits .sub .f64 (floatOfInt .f64 (k : Int)) 4607182418800017408 = some p1 ∧ floatBits .sub .f64 (floatOfInt .f64 (k : Int)) 4611686018427387904 = some p2 ∧ floatBits .mul .f64 (floatOfInt .f64 (k : Int)) p1 = some pm ∧ floatToIntVal .f64 p1 .i64 = some ((k - 1 : Nat) : Int) ∧ (1 < k → floatToIntVal .f64 p2 .i64 = some ((k - 2 : Nat) : Int)) ∧
    Fl.eqF (floatOfInt .f64 (k : Int)) 4607182418800017408 = decide (k = 1) ∧ Fl.eqF (floatOfInt .f64 (k : Int)) 4611686018427387904 = decide (k = 2) := by
  have h := ctab ⟨k - 1, by omega⟩
  simp only [show k - 1 + 1 = k by omega] at h
  obtain ⟨a1, a2, a3, a4, a5, a6, a7⟩ := h
  obtain ⟨pm, hpm⟩ := Option.isSome_iff_exists.1 a3
  refine ⟨_, _, pm, a1, a2, hpm, a4, fun q => ?_, ?_, ?_⟩
  · rw [a5 (by omega), show k - 1 - 1 = k - 2 by omega]
  · rw [a6]; exact decide_eq_decide.2 (by omega)
  · rw [a7]; exact decide_eq_decide.2 (by omega)
/-- the broken ones: differences and a product are there -/
theorem rg_of_key {p c : Nat} (h1 : 0 < Fl.key p) (h2 : Fl.leF p c = true) (hc : c < 9223372036854775808) : Fl.rg p ≤ c := by
  obtain ⟨s0, r0⟩ := key_pos h1
  unfold Fl.leF at h2
  simp only [Bool.and_eq_true, decide_eq_true_eq] at h2
  have h3 := h2.2
  unfold Fl.key at h3
  have sc : Fl.sg c = false := by unfold Fl.sg; exact decide_eq_false (by omega)
  have rc : Fl.rg c = c := by unfold Fl.rg; omega
  rw [s0, sc, rc] at h3
  simp at h3
  omega
theorem key_of_le {p c : Nat} (h : Fl.leF c p = true) (hc : 0 < c) (hc' : c < 9223372036854775808) : 0 < Fl.key p := by
  unfold Fl.leF at h
  simp only [Bool.and_eq_true, decide_eq_true_eq] at h
  have h3 := h.2
  have sc : Fl.sg c = false := by unfold Fl.sg; exact decide_eq_false (by omega)
  have rc : Fl.rg c = c := by unfold Fl.rg; omega
  have hk : Fl.key c = c := by unfold Fl.key; rw [sc, rc]; rfl
  rw [hk] at h3
  omega
theorem vl4 : Fl.vl 4616189618054758400 = 4 * 2 ^ 1074 := by decide +kernel
theorem sub_there {p c : Nat} (h0 : 0 < Fl.key p) (h4 : Fl.rg p ≤ 4616189618054758400) (hc0 : 0 < c) (hc : c ≤ 4611686018427387904) : ∃ q, floatBits .sub .f64 p c = some q ∧ Fl.rg q < 9218868437227405312 := by
  have rc : Fl.rg c = c := by unfold Fl.rg; omega
  have sc : Fl.sg c = false := by unfold Fl.sg; exact decide_eq_false (by omega)
  have e := Fl.sub_fin (x := p) (y := c) (by omega) (by omega) (by omega)
  refine ⟨_, e, ?_⟩
  obtain ⟨U, hU⟩ : ∃ U, U = 2 ^ 1074 := ⟨_, rfl⟩
  obtain ⟨s0, _⟩ := key_pos h0
  have v1 : Fl.vl (Fl.rg p) ≤ 4 * U := by
    rw [hU, ← vl4]
    rcases Nat.lt_or_ge (Fl.rg p) 4616189618054758400 with q | q
    · exact Nat.le_of_lt (Fl.vl_mono q)
    · rw [show Fl.rg p = 4616189618054758400 by omega]; exact Nat.le_refl _
  have v2 : Fl.vl (Fl.rg c) ≤ 4 * U := by
    rw [hU, ← vl4, rc]
    exact Nat.le_of_lt (Fl.vl_mono (by omega))
  have hb : (Fl.val p - Fl.val c).natAbs ≤ 8 * U := by
    unfold Fl.val
    rw [s0, sc, if_neg (by decide), if_neg (by decide)]
    omega
  have hr : Fl.rq (Fl.val p - Fl.val c).natAbs 0 ≤ Fl.rq (8 * U) 0 := Fl.rq_mono _ _ _ hb
  have h8 := (Fl.rq_rep (8 * U) ⟨8, 1074, by rw [hU], by decide⟩ (by rw [hU]; exact small_log rfl (by decide))).2
  rw [Fl.rg_wd _ _ (by omega)]
  omega
theorem mul_there {p q : Nat} (hp : Fl.rg p < 9218868437227405312) (hq : Fl.rg q < 9218868437227405312) : ∃ r, floatBits .mul .f64 p q = some r := ⟨_, Fl.mul_fin hp hq⟩
-- whole numbers
def zW (a : Z) (g : Py.G) : Prop := wC 1074 a.1 a.2 g
theorem op_some {o : BinOp} {a b r : Nat} (e : floatBits o .f64 a b = some r) (nr : Fl.nan r = false) : Sv.op o a b = r := by unfold Sv.op; rw [e]; exact Sv.c_num nr
theorem op_mul {a b : Nat} {m n : Int} (ha : wI 1074 a m) (hb : wI 1074 b n) (hs : (m * n).natAbs ≤ 9007199254740992) : wI 1074 (Sv.op .mul a b) (m * n) := by
  have e : floatBits .mul .f64 a b = some _ := Fl.mul_fin ha.2.1 hb.2.1
  have h := wI.mul rfl ha hb hs (run_some e).1
  rw [op_some e h.nan]
  exact h
theorem op_add {a b : Nat} {m n : Int} (ha : wI 1074 a m) (hb : wI 1074 b n) (hs : (m + n).natAbs ≤ 9007199254740992) : wI 1074 (Sv.op .add a b) (m + n) := by
  have e : floatBits .add .f64 a b = some _ := Fl.add_fin ha.2.1 hb.2.1
  have h := wI.add rfl ha hb hs (run_some e).1
  rw [op_some e h.nan]
  exact h
theorem op_sub {a b : Nat} {m n : Int} (ha : wI 1074 a m) (hb : wI 1074 b n) (hs : (m - n).natAbs ≤ 9007199254740992) : wI 1074 (Sv.op .sub a b) (m - n) := by
  have e : floatBits .sub .f64 a b = some _ := Fl.sub_fin hb.1 ha.2.1 hb.2.1
  have h := wI.sub rfl ha hb hs (run_some e).1
  rw [op_some e h.nan]
  exact h
theorem zW.mul {a b : Z} {g h : Py.G} {M K : Nat} (ha : zW a g) (hb : zW b h) (lg : Py.Le g M) (lh : Py.Le h K) (hs : M * K ≤ 9007199254740992) : zW (zmul a b) (Py.gm g h) := by
  obtain ⟨b1, b2, b3, b4⟩ := lg.prods lh
  obtain ⟨k1, k2⟩ := (lg.mul lh).one
  exact ⟨op_sub (op_mul ha.1 hb.1 (Nat.le_trans b1 hs)) (op_mul ha.2 hb.2 (Nat.le_trans b2 hs)) (Nat.le_trans k1 hs), op_add (op_mul ha.1 hb.2 (Nat.le_trans b3 hs)) (op_mul ha.2 hb.1 (Nat.le_trans b4 hs)) (Nat.le_trans k2 hs)⟩
theorem zW.one {a : Z} {g : Py.G} {M : Nat} (ha : zW a g) (lg : Py.Le g M) (hs : M ≤ 9007199254740992) : zW (zscale a 4607182418800017408) g := by
  obtain ⟨k1, k2⟩ := lg.one
  have h1 := op_mul ha.1 (w_unit rfl) (by rw [Int.mul_one]; exact Nat.le_trans k1 hs)
  have h2 := op_mul ha.2 (w_unit rfl) (by rw [Int.mul_one]; exact Nat.le_trans k2 hs)
  rw [Int.mul_one] at h1 h2
  exact ⟨h1, h2⟩
theorem c2_num {x y : Nat} (nx : Fl.nan x = false) (ny : Fl.nan y = false) : c2 x y = (x, y) := by unfold c2; rw [Sv.c_num nx, Sv.c_num ny]
theorem zW.fin {a : Z} {g : Py.G} (h : zW a g) : El.fin a = true := by
  unfold El.fin
  rw [h.1.fin, h.2.fin]
  rfl
/-- words of one row that are whole numbers -/
theorem zW.of {u v : Nat} {a : Z} {g : Py.G} (h : zW a g) (e : c2 u v = a) : wC 1074 u v g := by
  have e1 : Fl.bitsF u = a.1 := congrArg Prod.fst e
  have e2 : Fl.bitsF v = a.2 := congrArg Prod.snd e
  have n1 : Fl.nan u = false := by rw [← Sv.nan_c, e1]; exact h.1.nan
  have n2 : Fl.nan v = false := by rw [← Sv.nan_c, e2]; exact h.2.nan
  rw [Sv.c_num n1] at e1
  rw [Sv.c_num n2] at e2
  subst e1 e2
  exact h
end El
theorem El.ceq_run {a b u v : Nat} {g h : Py.G} (h1 : wC 1074 a b g) (h2 : wC 1074 u v h) (t : TypeId) (w : World) : (binOp .eql t (.complex .f64 a b) (.complex .f64 u v)).run Tryz.prog w = .ok (.bool (decide (g = h))) w := by
  have e : (binOp .eql t (.complex .f64 a b) (.complex .f64 u v)).run Tryz.prog w = .ok (.bool ((FloatKind.f64.format.order a u == some .eq) && (FloatKind.f64.format.order b v == some .eq))) w := rfl
  rw [e, Fl.o_eq, Fl.o_eq, h1.1.eq h2.1, h1.2.eq h2.2]
  congr 2
  rw [Bool.eq_iff_iff]
  simp only [Bool.and_eq_true, decide_eq_true_eq]
  exact ⟨fun q => Prod.ext q.1 q.2, fun q => by rw [q]; exact ⟨rfl, rfl⟩⟩
end Go.Proofs.YtgljnklaabbidaaGreat
/-
  OWN TEXT: all that the law asks of an element of whole parts, kind by kind.
-/
namespace Go.Proofs.YtgljnklaabbidaaGreat
open Go.ChangeShapes Go.WideShapes Go.ChangeAt Go.RowKit
set_option linter.unusedVariables false
attribute [local go_sem] frombits_call tobits_call run_neg El.run_store_cx El.run_store_fl
/-- numbers of whole parts, moved likewise -/
structure El.Env (X1 Y1 X2 Y2 X3 Y3 X4 Y4 : Int) (a b s t x y u v a1 b1 x1 y1 dx dy : Nat) : Prop where
  ha : El.wP a X1
  hb : El.wP b Y1
  hs : El.wP s X2
  ht : El.wP t Y2
  hx : El.wP x X3
  hy : El.wP y Y3
  hu : El.wP u X4
  hv : El.wP v Y4
  ha1 : El.wP a1 (X1 + X4)
  hb1 : El.wP b1 (Y1 + Y4)
  hx1 : El.wP x1 (X3 + X4)
  hy1 : El.wP y1 (Y3 + Y4)
  hdx : El.wP dx (X3 - X1)
  hdy : El.wP dy (Y3 - Y1)
  n1 : X1.natAbs ≤ 1000 ∧ Y1.natAbs ≤ 1000
  n2 : X2.natAbs ≤ 1000 ∧ Y2.natAbs ≤ 1000
  n3 : X3.natAbs ≤ 1000 ∧ Y3.natAbs ≤ 1000
  n4 : X4.natAbs ≤ 1000 ∧ Y4.natAbs ≤ 1000
  ad : ∀ w, Calls Tryz.prog 9 #[.complex .f64 a b, .complex .f64 u v] w fun e w' => e = .returned (.complex .f64 a1 b1) ∧ w' = w
  az : ∀ w, Calls Tryz.prog 9 #[.complex .f64 x y, .complex .f64 u v] w fun e w' => e = .returned (.complex .f64 x1 y1) ∧ w' = w
  sd : ∀ w, Calls Tryz.prog 14 #[.complex .f64 x y, .complex .f64 a b] w fun e w' => e = .returned (.complex .f64 dx dy) ∧ w' = w
  se : ∀ w, Calls Tryz.prog 14 #[.complex .f64 x1 y1, .complex .f64 a1 b1] w fun e w' => e = .returned (.complex .f64 dx dy) ∧ w' = w
theorem El.env_of (X1 Y1 X2 Y2 X3 Y3 X4 Y4 : Int) (n1 : X1.natAbs ≤ 1000 ∧ Y1.natAbs ≤ 1000) (n2 : X2.natAbs ≤ 1000 ∧ Y2.natAbs ≤ 1000) (n3 : X3.natAbs ≤ 1000 ∧ Y3.natAbs ≤ 1000) (n4 : X4.natAbs ≤ 1000 ∧ Y4.natAbs ≤ 1000) :
    ∃ a1 b1 x1 y1 dx dy, El.Env X1 Y1 X2 Y2 X3 Y3 X4 Y4 (floatOfInt .f64 X1) (floatOfInt .f64 Y1) (floatOfInt .f64 X2) (floatOfInt .f64 Y2) (floatOfInt .f64 X3) (floatOfInt .f64 Y3) (floatOfInt .f64 X4) (floatOfInt .f64 Y4) a1 b1 x1 y1 dx dy := by
  have ha := El.wP_thou X1 n1.1
  have hb := El.wP_thou Y1 n1.2
  have hs := El.wP_thou X2 n2.1
  have ht := El.wP_thou Y2 n2.2
  have hx := El.wP_thou X3 n3.1
  have hy := El.wP_thou Y3 n3.2
  have hu := El.wP_thou X4 n4.1
  have hv := El.wP_thou Y4 n4.2
  obtain ⟨a1, b1, ha1, hb1, ad⟩ := paddP ha hb hu hv (by omega) (by omega)
  obtain ⟨x1, y1, hx1, hy1, az⟩ := paddP hx hy hu hv (by omega) (by omega)
  obtain ⟨dx, dy, hdx, hdy, sd⟩ := psubP hx hy ha hb (by omega) (by omega)
  obtain ⟨ex, ey, hex, hey, se⟩ := psubP hx1 hy1 ha1 hb1 (by omega) (by omega)
  rw [show X3 + X4 - (X1 + X4) = X3 - X1 by omega] at hex
  rw [show Y3 + Y4 - (Y1 + Y4) = Y3 - Y1 by omega] at hey
  obtain rfl := hex.uni hdx
  obtain rfl := hey.uni hdy
  exact ⟨a1, b1, x1, y1, _, _, ha, hb, hs, ht, hx, hy, hu, hv, ha1, hb1, hx1, hy1, hdx, hdy, n1, n2, n3, n4, ad, az, sd, se⟩
theorem place_P {a b : Nat} {m n : Int} (ha : El.wP a m) (hb : El.wP b n) (h1 : m.natAbs ≤ 100000) (h2 : n.natAbs ≤ 100000) : ∀ wz, Calls Tryz.prog 29 #[.complex .f64 a b] wz fun e w' => e = .returned (.bool true) ∧ w' = wz := by
  intro wz
  have h := eplace_any a b wz ha.lt hb.lt
  rw [ha.wi h1, hb.wi h2] at h
  exact h
theorem kn1 {a b s t p : Nat} {X1 Y1 X2 Y2 : Int} (ha : El.wP a X1) (hb : El.wP b Y1) (hs : El.wP s X2) (ht : El.wP t Y2) (n1 : X1.natAbs ≤ 100000 ∧ Y1.natAbs ≤ 100000) (n2 : X2.natAbs ≤ 100000 ∧ Y2.natAbs ≤ 100000) (hp : p < 18446744073709551616) (w : World) : Calls Tryz.prog 19 #[El.E 1 a b s t p] w fun e w' => e = .returned (.tuple #[if El.wi p && ((Fl.eqF a 0 && Fl.eqF b 0) && Fl.eqF p 0) then .iface 60 (El.E 1 a b s t p) else .nilIface, .int .i64 (if El.wi p then (if ((Fl.eqF a 0 && Fl.eqF b 0) && Fl.eqF p 0) then 0 else 150) else 5)]) ∧ Bw w w' := by
  have h := known1_q a b s t p true true (El.wi p) ((Fl.eqF a 0 && Fl.eqF b 0) && Fl.eqF p 0) w (place_P ha hb n1.1 n1.2) (place_P hs ht n2.1 n2.2) (fun wz => within_any p 4787326403894837248 wz hp) (fun _ _ wz => may1 a b s t p wz ha.lt hb.lt ha.nan hb.nan)
  simpa only [Bool.true_and] using h
theorem kn1_ok {a b s t p : Nat} {X1 Y1 X2 Y2 : Int} (ha : El.wP a X1) (hb : El.wP b Y1) (hs : El.wP s X2) (ht : El.wP t Y2) (n1 : X1.natAbs ≤ 100000 ∧ Y1.natAbs ≤ 100000) (n2 : X2.natAbs ≤ 100000 ∧ Y2.natAbs ≤ 100000) (hp : p < 18446744073709551616) (h1 : El.wi p = true) (h2 : ((Fl.eqF a 0 && Fl.eqF b 0) && Fl.eqF p 0) = true) (w : World) : Calls Tryz.prog 19 #[El.E 1 a b s t p] w fun e w' => e = .returned (.tuple #[.iface 60 (El.E 1 a b s t p), .int .i64 0]) ∧ Bw w w' := by
  have h := kn1 ha hb hs ht n1 n2 hp w
  rw [h1, h2] at h
  exact h
theorem chk1 {a b s t p : Nat} {X1 Y1 X2 Y2 : Int} (ha : El.wP a X1) (hb : El.wP b Y1) (hs : El.wP s X2) (ht : El.wP t Y2) (n1 : X1.natAbs ≤ 100000 ∧ Y1.natAbs ≤ 100000) (n2 : X2.natAbs ≤ 100000 ∧ Y2.natAbs ≤ 100000) (hp : p < 18446744073709551616) : ∃ er : Int, (∀ w, Calls Tryz.prog 7 #[El.E 1 a b s t p] w fun e w' => e = .returned (.int .i64 er) ∧ Bw w w') ∧ (er = 0 → El.wi p = true ∧ ((Fl.eqF a 0 && Fl.eqF b 0) && Fl.eqF p 0) = true) := by
  refine ⟨if El.wi p then (if ((Fl.eqF a 0 && Fl.eqF b 0) && Fl.eqF p 0) then 0 else 150) else 5, fun w => check_er 1 a b s t p _ _ w (fun wz => kn1 ha hb hs ht n1 n2 hp wz), fun h => ?_⟩
  cases q : El.wi p with
  | false => rw [q] at h; simp at h
  | true =>
    refine ⟨rfl, ?_⟩
    rw [q] at h
    generalize ((Fl.eqF a 0 && Fl.eqF b 0) && Fl.eqF p 0) = m at h ⊢
    cases m with
    | false => exact absurd h (by decide)
    | true => rfl
theorem kn2 {a b s t p : Nat} {X1 Y1 X2 Y2 : Int} (ha : El.wP a X1) (hb : El.wP b Y1) (hs : El.wP s X2) (ht : El.wP t Y2) (n1 : X1.natAbs ≤ 100000 ∧ Y1.natAbs ≤ 100000) (n2 : X2.natAbs ≤ 100000 ∧ Y2.natAbs ≤ 100000) (hp : p < 18446744073709551616) (w : World) : Calls Tryz.prog 19 #[El.E 2 a b s t p] w fun e w' => e = .returned (.tuple #[if El.wi p && (Fl.eqF p 0) then .iface 63 (El.E 2 a b s t p) else .nilIface, .int .i64 (if El.wi p then (if (Fl.eqF p 0) then 0 else 150) else 5)]) ∧ Bw w w' := by
  have h := known2_q a b s t p true true (El.wi p) (Fl.eqF p 0) w (place_P ha hb n1.1 n1.2) (place_P hs ht n2.1 n2.2) (fun wz => within_any p 4787326403894837248 wz hp) (fun _ _ wz => may2 a b s t p wz)
  simpa only [Bool.true_and] using h
theorem kn2_ok {a b s t p : Nat} {X1 Y1 X2 Y2 : Int} (ha : El.wP a X1) (hb : El.wP b Y1) (hs : El.wP s X2) (ht : El.wP t Y2) (n1 : X1.natAbs ≤ 100000 ∧ Y1.natAbs ≤ 100000) (n2 : X2.natAbs ≤ 100000 ∧ Y2.natAbs ≤ 100000) (hp : p < 18446744073709551616) (h1 : El.wi p = true) (h2 : (Fl.eqF p 0) = true) (w : World) : Calls Tryz.prog 19 #[El.E 2 a b s t p] w fun e w' => e = .returned (.tuple #[.iface 63 (El.E 2 a b s t p), .int .i64 0]) ∧ Bw w w' := by
  have h := kn2 ha hb hs ht n1 n2 hp w
  rw [h1, h2] at h
  exact h
theorem chk2 {a b s t p : Nat} {X1 Y1 X2 Y2 : Int} (ha : El.wP a X1) (hb : El.wP b Y1) (hs : El.wP s X2) (ht : El.wP t Y2) (n1 : X1.natAbs ≤ 100000 ∧ Y1.natAbs ≤ 100000) (n2 : X2.natAbs ≤ 100000 ∧ Y2.natAbs ≤ 100000) (hp : p < 18446744073709551616) : ∃ er : Int, (∀ w, Calls Tryz.prog 7 #[El.E 2 a b s t p] w fun e w' => e = .returned (.int .i64 er) ∧ Bw w w') ∧ (er = 0 → El.wi p = true ∧ (Fl.eqF p 0) = true) := by
  refine ⟨if El.wi p then (if (Fl.eqF p 0) then 0 else 150) else 5, fun w => check_er 2 a b s t p _ _ w (fun wz => kn2 ha hb hs ht n1 n2 hp wz), fun h => ?_⟩
  cases q : El.wi p with
  | false => rw [q] at h; simp at h
  | true =>
    refine ⟨rfl, ?_⟩
    rw [q] at h
    generalize (Fl.eqF p 0) = m at h ⊢
    cases m with
    | false => exact absurd h (by decide)
    | true => rfl
theorem kn3 {a b s t p : Nat} {X1 Y1 X2 Y2 : Int} (ha : El.wP a X1) (hb : El.wP b Y1) (hs : El.wP s X2) (ht : El.wP t Y2) (n1 : X1.natAbs ≤ 100000 ∧ Y1.natAbs ≤ 100000) (n2 : X2.natAbs ≤ 100000 ∧ Y2.natAbs ≤ 100000) (hp : p < 18446744073709551616) (w : World) : Calls Tryz.prog 19 #[El.E 3 a b s t p] w fun e w' => e = .returned (.tuple #[if El.wi p && (El.wh p && Fl.leF 4607182418800017408 p && Fl.leF p 4620693217682128896) then .iface 64 (El.E 3 a b s t p) else .nilIface, .int .i64 (if El.wi p then (if (El.wh p && Fl.leF 4607182418800017408 p && Fl.leF p 4620693217682128896) then 0 else 150) else 5)]) ∧ Bw w w' := by
  have h := known3_q a b s t p true true (El.wi p) (El.wh p && Fl.leF 4607182418800017408 p && Fl.leF p 4620693217682128896) w (place_P ha hb n1.1 n1.2) (place_P hs ht n2.1 n2.2) (fun wz => within_any p 4787326403894837248 wz hp) (fun _ q wz => may3 a b s t p wz hp (El.wi_nan q))
  simpa only [Bool.true_and] using h
theorem kn3_ok {a b s t p : Nat} {X1 Y1 X2 Y2 : Int} (ha : El.wP a X1) (hb : El.wP b Y1) (hs : El.wP s X2) (ht : El.wP t Y2) (n1 : X1.natAbs ≤ 100000 ∧ Y1.natAbs ≤ 100000) (n2 : X2.natAbs ≤ 100000 ∧ Y2.natAbs ≤ 100000) (hp : p < 18446744073709551616) (h1 : El.wi p = true) (h2 : (El.wh p && Fl.leF 4607182418800017408 p && Fl.leF p 4620693217682128896) = true) (w : World) : Calls Tryz.prog 19 #[El.E 3 a b s t p] w fun e w' => e = .returned (.tuple #[.iface 64 (El.E 3 a b s t p), .int .i64 0]) ∧ Bw w w' := by
  have h := kn3 ha hb hs ht n1 n2 hp w
  rw [h1, h2] at h
  exact h
theorem chk3 {a b s t p : Nat} {X1 Y1 X2 Y2 : Int} (ha : El.wP a X1) (hb : El.wP b Y1) (hs : El.wP s X2) (ht : El.wP t Y2) (n1 : X1.natAbs ≤ 100000 ∧ Y1.natAbs ≤ 100000) (n2 : X2.natAbs ≤ 100000 ∧ Y2.natAbs ≤ 100000) (hp : p < 18446744073709551616) : ∃ er : Int, (∀ w, Calls Tryz.prog 7 #[El.E 3 a b s t p] w fun e w' => e = .returned (.int .i64 er) ∧ Bw w w') ∧ (er = 0 → El.wi p = true ∧ (El.wh p && Fl.leF 4607182418800017408 p && Fl.leF p 4620693217682128896) = true) := by
  refine ⟨if El.wi p then (if (El.wh p && Fl.leF 4607182418800017408 p && Fl.leF p 4620693217682128896) then 0 else 150) else 5, fun w => check_er 3 a b s t p _ _ w (fun wz => kn3 ha hb hs ht n1 n2 hp wz), fun h => ?_⟩
  cases q : El.wi p with
  | false => rw [q] at h; simp at h
  | true =>
    refine ⟨rfl, ?_⟩
    rw [q] at h
    generalize (El.wh p && Fl.leF 4607182418800017408 p && Fl.leF p 4620693217682128896) = m at h ⊢
    cases m with
    | false => exact absurd h (by decide)
    | true => rfl
theorem kn4 {a b s t p : Nat} {X1 Y1 X2 Y2 : Int} (ha : El.wP a X1) (hb : El.wP b Y1) (hs : El.wP s X2) (ht : El.wP t Y2) (n1 : X1.natAbs ≤ 100000 ∧ Y1.natAbs ≤ 100000) (n2 : X2.natAbs ≤ 100000 ∧ Y2.natAbs ≤ 100000) (hp : p < 18446744073709551616) (w : World) : Calls Tryz.prog 19 #[El.E 4 a b s t p] w fun e w' => e = .returned (.tuple #[if El.wi p && (Fl.leF 4598175219545276416 p && Fl.leF p 4616189618054758400) then .iface 61 (El.E 4 a b s t p) else .nilIface, .int .i64 (if El.wi p then (if (Fl.leF 4598175219545276416 p && Fl.leF p 4616189618054758400) then 0 else 150) else 5)]) ∧ Bw w w' := by
  have h := known4_q a b s t p true true (El.wi p) (Fl.leF 4598175219545276416 p && Fl.leF p 4616189618054758400) w (place_P ha hb n1.1 n1.2) (place_P hs ht n2.1 n2.2) (fun wz => within_any p 4787326403894837248 wz hp) (fun _ _ wz => may4 a b s t p wz)
  simpa only [Bool.true_and] using h
theorem kn4_ok {a b s t p : Nat} {X1 Y1 X2 Y2 : Int} (ha : El.wP a X1) (hb : El.wP b Y1) (hs : El.wP s X2) (ht : El.wP t Y2) (n1 : X1.natAbs ≤ 100000 ∧ Y1.natAbs ≤ 100000) (n2 : X2.natAbs ≤ 100000 ∧ Y2.natAbs ≤ 100000) (hp : p < 18446744073709551616) (h1 : El.wi p = true) (h2 : (Fl.leF 4598175219545276416 p && Fl.leF p 4616189618054758400) = true) (w : World) : Calls Tryz.prog 19 #[El.E 4 a b s t p] w fun e w' => e = .returned (.tuple #[.iface 61 (El.E 4 a b s t p), .int .i64 0]) ∧ Bw w w' := by
  have h := kn4 ha hb hs ht n1 n2 hp w
  rw [h1, h2] at h
  exact h
theorem chk4 {a b s t p : Nat} {X1 Y1 X2 Y2 : Int} (ha : El.wP a X1) (hb : El.wP b Y1) (hs : El.wP s X2) (ht : El.wP t Y2) (n1 : X1.natAbs ≤ 100000 ∧ Y1.natAbs ≤ 100000) (n2 : X2.natAbs ≤ 100000 ∧ Y2.natAbs ≤ 100000) (hp : p < 18446744073709551616) : ∃ er : Int, (∀ w, Calls Tryz.prog 7 #[El.E 4 a b s t p] w fun e w' => e = .returned (.int .i64 er) ∧ Bw w w') ∧ (er = 0 → El.wi p = true ∧ (Fl.leF 4598175219545276416 p && Fl.leF p 4616189618054758400) = true) := by
  refine ⟨if El.wi p then (if (Fl.leF 4598175219545276416 p && Fl.leF p 4616189618054758400) then 0 else 150) else 5, fun w => check_er 4 a b s t p _ _ w (fun wz => kn4 ha hb hs ht n1 n2 hp wz), fun h => ?_⟩
  cases q : El.wi p with
  | false => rw [q] at h; simp at h
  | true =>
    refine ⟨rfl, ?_⟩
    rw [q] at h
    generalize (Fl.leF 4598175219545276416 p && Fl.leF p 4616189618054758400) = m at h ⊢
    cases m with
    | false => exact absurd h (by decide)
    | true => rfl
set_option maxHeartbeats 4000000 in
theorem known0 (k : Int) (a b s t p : Nat) (w : World) (h1 : ¬ k = 1) (h2 : ¬ k = 2) (h3 : ¬ k = 3) (h4 : ¬ k = 4) : Calls Tryz.prog 19 #[El.E k a b s t p] w fun e w' => e = .returned (.tuple #[.nilIface, .int .i64 150]) ∧ Bw w w' := by
  have G := El.bw_new w (.cells #[.int .u8 k, .complex .f64 a b, .complex .f64 s t, .float .f64 p] 30)
  have KO := El.hid (fun wz => kindof0 k a b s t p wz h1 h2 h3 h4)
  unfold El.E at *
  go_enter Tryz.func19, Tryz.ntmps19
  go_wp2_with fail
  refine (KO.out _).mono ?_
  rintro e' w1 ⟨rfl, b1⟩
  replace G := bw_trans G b1
  clear b1
  go_wp2
  go_ret2
  exact ⟨rfl, G⟩
/-- what the law asks -/
structure El.Bun (k : Int) (a b s t p x y u v x1 y1 a2 b2 : Nat) (YP YQ YS YL : El.Z) : Prop where
  mv : ∀ w, Calls Tryz.prog 8 #[El.E k a b s t p, .complex .f64 u v] w fun e w' => e = .returned (.tuple #[El.E k a2 b2 s t p, .int .i64 0]) ∧ Bw w w'
  p1 : ∀ w, Calls Tryz.prog 10 #[El.E k a b s t p, .complex .f64 x y] w fun e w' => ∃ u v er, e = .returned (.tuple #[.complex .f64 u v, .int .i64 er]) ∧ El.c2 u v = El.tz YP ∧ er = El.te YP ∧ Bw w w'
  p2 : ∀ w, Calls Tryz.prog 10 #[El.E k a2 b2 s t p, .complex .f64 x1 y1] w fun e w' => ∃ u v er, e = .returned (.tuple #[.complex .f64 u v, .int .i64 er]) ∧ El.c2 u v = El.tz YQ ∧ er = El.te YQ ∧ Bw w w'
  s1 : ∀ w, Calls Tryz.prog 11 #[El.E k a b s t p, .complex .f64 x y] w fun e w' => ∃ u v er, e = .returned (.tuple #[.complex .f64 u v, .int .i64 er]) ∧ El.c2 u v = El.tz YS ∧ er = El.te YS ∧ Bw w w'
  s2 : ∀ w, Calls Tryz.prog 11 #[El.E k a2 b2 s t p, .complex .f64 x1 y1] w fun e w' => ∃ u v er, e = .returned (.tuple #[.complex .f64 u v, .int .i64 er]) ∧ El.c2 u v = El.tz YS ∧ er = El.te YS ∧ Bw w w'
  l1 : ∀ w, Calls Tryz.prog 12 #[El.E k a b s t p, .complex .f64 x y] w fun e w' => ∃ u v er, e = .returned (.tuple #[.complex .f64 u v, .int .i64 er]) ∧ El.c2 u v = El.tz YL ∧ er = El.te YL ∧ Bw w w'
  l2 : ∀ w, Calls Tryz.prog 12 #[El.E k a2 b2 s t p, .complex .f64 x1 y1] w fun e w' => ∃ u v er, e = .returned (.tuple #[.complex .f64 u v, .int .i64 er]) ∧ El.c2 u v = El.tz YL ∧ er = El.te YL ∧ Bw w w'
theorem bun1 {X1 Y1 X2 Y2 X3 Y3 X4 Y4 : Int} {a b s t x y u v a1 b1 x1 y1 dx dy p : Nat} (E : El.Env X1 Y1 X2 Y2 X3 Y3 X4 Y4 a b s t x y u v a1 b1 x1 y1 dx dy) (hp : p < 18446744073709551616) (h1 : El.wi p = true) (h2 : ((Fl.eqF a 0 && Fl.eqF b 0) && Fl.eqF p 0) = true) : El.Bun 1 a b s t p x y u v x1 y1 a b (El.zmul (El.c2 s t) (El.c2 x y)) (El.zmul (El.c2 s t) (El.c2 x1 y1)) (El.c2 s t) (El.c2 0 0) := by
  obtain ⟨ha, hb, hs, ht, hx, hy, hu, hv, ha1, hb1, hx1, hy1, hdx, hdy, n1, n2, n3, n4, ad, az, sd, se⟩ := E
  have ls := hs.lt
  have lt := ht.lt
  have m1 : X1.natAbs ≤ 100000 ∧ Y1.natAbs ≤ 100000 := by omega
  have m2 : X2.natAbs ≤ 100000 ∧ Y2.natAbs ≤ 100000 := by omega
  have K1 := fun w => kn1_ok ha hb hs ht m1 m2 hp h1 h2 w
  have K2 := K1
  have Z1 := place_P hx hy (by omega) (by omega)
  have Z2 := place_P hu hv (by omega) (by omega)
  have Z3 := place_P hx1 hy1 (by omega) (by omega)
  have Q1 := fun w => asked_ok 1 a b s t p x y _ w K1 Z1
  have Q2 := fun w => asked_ok 1 a b s t p u v _ w K1 Z2
  have Q3 := fun w => asked_ok 1 a b s t p x1 y1 _ w K2 Z3
  have N1 := fun w => answered_ok 1 a b s t p _ w K2
  have sp := fun (x y : Nat) (w : World) => (spd1 a b s t p x y w).mono (R' := fun e w' => ∃ u v, e = .returned (.complex .f64 u v) ∧ El.c2 u v = El.c2 s t ∧ u < 18446744073709551616 ∧ v < 18446744073709551616 ∧ Bw w w') fun e w' h => ⟨s, t, h.1, rfl, ls, lt, h.2⟩
  have sl := fun (x y : Nat) (w : World) => (slo1 a b s t p x y w).mono (R' := fun e w' => ∃ u v, e = .returned (.complex .f64 u v) ∧ El.c2 u v = El.c2 0 0 ∧ u < 18446744073709551616 ∧ v < 18446744073709551616 ∧ Bw w w') fun e w' h => ⟨0, 0, h.1, rfl, by decide, by decide, h.2⟩
  exact ⟨fun w => moved_stay 1 a b s t p u v _ false w Q2 (fun w => nature1 a b s t p w) N1,
    fun w => pub_pot1 a b s t p x y _ w Q1 (fun w => pot1 a b s t p x y w), fun w => pub_pot1 a b s t p x1 y1 _ w Q3 (fun w => pot1 a b s t p x1 y1 w),
    fun w => pub_spd1 a b s t p x y _ w Q1 (fun w => sp x y w), fun w => pub_spd1 a b s t p x1 y1 _ w Q3 (fun w => sp x1 y1 w),
    fun w => pub_slo1 a b s t p x y _ w Q1 (fun w => sl x y w), fun w => pub_slo1 a b s t p x1 y1 _ w Q3 (fun w => sl x1 y1 w)⟩
theorem bun2 {X1 Y1 X2 Y2 X3 Y3 X4 Y4 : Int} {a b s t x y u v a1 b1 x1 y1 dx dy p : Nat} (E : El.Env X1 Y1 X2 Y2 X3 Y3 X4 Y4 a b s t x y u v a1 b1 x1 y1 dx dy) (hp : p < 18446744073709551616) (h1 : El.wi p = true) (h2 : (Fl.eqF p 0) = true) : ∃ YP YS YL, El.Bun 2 a b s t p x y u v x1 y1 a1 b1 YP YP YS YL := by
  obtain ⟨ha, hb, hs, ht, hx, hy, hu, hv, ha1, hb1, hx1, hy1, hdx, hdy, n1, n2, n3, n4, ad, az, sd, se⟩ := E
  have ls := hs.lt
  have lt := ht.lt
  have m1 : X1.natAbs ≤ 100000 ∧ Y1.natAbs ≤ 100000 := by omega
  have m2 : X2.natAbs ≤ 100000 ∧ Y2.natAbs ≤ 100000 := by omega
  have K1 := fun w => kn2_ok ha hb hs ht m1 m2 hp h1 h2 w
  have K2 := fun w => kn2_ok ha1 hb1 hs ht (by omega) m2 hp h1 h2 w
  have Z1 := place_P hx hy (by omega) (by omega)
  have Z2 := place_P hu hv (by omega) (by omega)
  have Z3 := place_P hx1 hy1 (by omega) (by omega)
  have Q1 := fun w => asked_ok 2 a b s t p x y _ w K1 Z1
  have Q2 := fun w => asked_ok 2 a b s t p u v _ w K1 Z2
  have Q3 := fun w => asked_ok 2 a1 b1 s t p x1 y1 _ w K2 Z3
  have N1 := fun w => answered_ok 2 a1 b1 s t p _ w K2
  refine ⟨El.zmul (El.zscale (El.c2 s t) El.H1) (El.zlog dx dy), El.zdiv (El.zscale (El.c2 s t) El.H1) (El.c2 dx dy), El.zdiv (El.zneg (El.zscale (El.c2 s t) El.H1)) (El.zpow (El.c2 dx dy) 2), ?_⟩
  exact ⟨fun w => moved_go 2 a b s t p u v a1 b1 _ true w Q2 (fun w => nature2 a b s t p w) ad N1,
    fun w => pub_pot2 a b s t p x y _ w Q1 (fun w => pot2 a b s t p x y dx dy w sd hdx.lt hdy.lt), fun w => pub_pot2 a1 b1 s t p x1 y1 _ w Q3 (fun w => pot2 a1 b1 s t p x1 y1 dx dy w se hdx.lt hdy.lt),
    fun w => pub_spd2 a b s t p x y _ w Q1 (fun w => spd2 a b s t p x y dx dy w sd hdx.lt hdy.lt), fun w => pub_spd2 a1 b1 s t p x1 y1 _ w Q3 (fun w => spd2 a1 b1 s t p x1 y1 dx dy w se hdx.lt hdy.lt),
    fun w => pub_slo2 a b s t p x y _ w Q1 (fun w => slo2 a b s t p x y dx dy w sd hdx.lt hdy.lt), fun w => pub_slo2 a1 b1 s t p x1 y1 _ w Q3 (fun w => slo2 a1 b1 s t p x1 y1 dx dy w se hdx.lt hdy.lt)⟩
theorem bun3 {X1 Y1 X2 Y2 X3 Y3 X4 Y4 : Int} {a b s t x y u v a1 b1 x1 y1 dx dy p : Nat} (E : El.Env X1 Y1 X2 Y2 X3 Y3 X4 Y4 a b s t x y u v a1 b1 x1 y1 dx dy) (hp : p < 18446744073709551616) (h1 : El.wi p = true) (h2 : (El.wh p && Fl.leF 4607182418800017408 p && Fl.leF p 4620693217682128896) = true) : ∃ YP YS YL, El.Bun 3 a b s t p x y u v x1 y1 a1 b1 YP YP YS YL := by
  have h2' := h2
  simp only [Bool.and_eq_true] at h2'
  have h0 := El.key_of_le h2'.1.2 (by decide) (by decide)
  obtain ⟨n, g1, g8, rfl⟩ := El.wh_of hp (El.wi_nan h1) h2'.1.1 h0 (El.rg_of_key h0 h2'.2 (by decide))
  obtain ⟨d1, p1, pm, d2, d3⟩ := El.dpow g1 g8
  generalize floatOfInt .f64 (n : Int) = p at *
  obtain ⟨ha, hb, hs, ht, hx, hy, hu, hv, ha1, hb1, hx1, hy1, hdx, hdy, n1, n2, n3, n4, ad, az, sd, se⟩ := E
  have ls := hs.lt
  have lt := ht.lt
  have m1 : X1.natAbs ≤ 100000 ∧ Y1.natAbs ≤ 100000 := by omega
  have m2 : X2.natAbs ≤ 100000 ∧ Y2.natAbs ≤ 100000 := by omega
  have K1 := fun w => kn3_ok ha hb hs ht m1 m2 hp h1 h2 w
  have K2 := fun w => kn3_ok ha1 hb1 hs ht (by omega) m2 hp h1 h2 w
  have Z1 := place_P hx hy (by omega) (by omega)
  have Z2 := place_P hu hv (by omega) (by omega)
  have Z3 := place_P hx1 hy1 (by omega) (by omega)
  have Q1 := fun w => asked_ok 3 a b s t p x y _ w K1 Z1
  have Q2 := fun w => asked_ok 3 a b s t p u v _ w K1 Z2
  have Q3 := fun w => asked_ok 3 a1 b1 s t p x1 y1 _ w K2 Z3
  have N1 := fun w => answered_ok 3 a1 b1 s t p _ w K2
  refine ⟨El.dterm s t p dx dy 4607182418800017408 0, El.dterm s t p dx dy (Op.negFloat .f64 p) 1, El.dterm s t p dx dy pm 2, ?_⟩
  exact ⟨fun w => moved_go 3 a b s t p u v a1 b1 _ true w Q2 (fun w => nature3 a b s t p w) ad N1,
    fun w => pub_pot3 a b s t p x y _ w Q1 (fun w => pot3 a b s t p x y dx dy n w sd hdx.lt hdy.lt d1 g8), fun w => pub_pot3 a1 b1 s t p x1 y1 _ w Q3 (fun w => pot3 a1 b1 s t p x1 y1 dx dy n w se hdx.lt hdy.lt d1 g8),
    fun w => pub_spd3 a b s t p x y _ w Q1 (fun w => spd3 a b s t p x y dx dy n w sd hdx.lt hdy.lt d1 g8), fun w => pub_spd3 a1 b1 s t p x1 y1 _ w Q3 (fun w => spd3 a1 b1 s t p x1 y1 dx dy n w se hdx.lt hdy.lt d1 g8),
    fun w => pub_slo3 a b s t p x y _ w Q1 (fun w => slo3 a b s t p x y dx dy n w sd hdx.lt hdy.lt d1 g8 d2 d3), fun w => pub_slo3 a1 b1 s t p x1 y1 _ w Q3 (fun w => slo3 a1 b1 s t p x1 y1 dx dy n w se hdx.lt hdy.lt d1 g8 d2 d3)⟩
/-- a corner of a whole power above 1 -/
theorem bun4w {X1 Y1 X2 Y2 X3 Y3 X4 Y4 : Int} {a b s t x y u v a1 b1 x1 y1 dx dy p : Nat} (E : El.Env X1 Y1 X2 Y2 X3 Y3 X4 Y4 a b s t x y u v a1 b1 x1 y1 dx dy) (hp : p < 18446744073709551616) (h1 : El.wi p = true) (h2 : (Fl.leF 4598175219545276416 p && Fl.leF p 4616189618054758400) = true) {n : Nat} (hw : El.wh p = true) (g1 : 1 ≤ n) (g4 : n ≤ 4) (hn : p = floatOfInt .f64 (n : Int)) : ∃ YS YL, El.Bun 4 a b s t p x y u v x1 y1 a1 b1 (El.cterm s t p dx dy 4607182418800017408 p) (El.cterm s t p dx dy 4607182418800017408 p) YS YL := by
  have np := El.wi_nan h1
  obtain ⟨p1, p2, pm, c1, c2, c3, c4, c5, c6, c7⟩ := El.cpow g1 g4
  have d1 := (El.dpow g1 (by omega)).1
  rw [← hn] at c1 c2 c3 c6 d1
  clear hn c7
  obtain ⟨ha, hb, hs, ht, hx, hy, hu, hv, ha1, hb1, hx1, hy1, hdx, hdy, n1, n2, n3, n4, ad, az, sd, se⟩ := E
  have ls := hs.lt
  have lt := ht.lt
  have m1 : X1.natAbs ≤ 100000 ∧ Y1.natAbs ≤ 100000 := by omega
  have m2 : X2.natAbs ≤ 100000 ∧ Y2.natAbs ≤ 100000 := by omega
  have K1 := fun w => kn4_ok ha hb hs ht m1 m2 hp h1 h2 w
  have K2 := fun w => kn4_ok ha1 hb1 hs ht (by omega) m2 hp h1 h2 w
  have Z1 := place_P hx hy (by omega) (by omega)
  have Z2 := place_P hu hv (by omega) (by omega)
  have Z3 := place_P hx1 hy1 (by omega) (by omega)
  have Q1 := fun w => asked_ok 4 a b s t p x y _ w K1 Z1
  have Q2 := fun w => asked_ok 4 a b s t p u v _ w K1 Z2
  have Q3 := fun w => asked_ok 4 a1 b1 s t p x1 y1 _ w K2 Z3
  have N1 := fun w => answered_ok 4 a1 b1 s t p _ w K2
  have PT := fun (A B X Y : Nat) (hd : ∀ w, Calls Tryz.prog 14 #[.complex .f64 X Y, .complex .f64 A B] w fun e w' => e = .returned (.complex .f64 dx dy) ∧ w' = w) (w : World) => pot4 A B s t p X Y dx dy w (fun w => ctermW A B s t p X Y dx dy 4607182418800017408 p n w hd hdx.lt hdy.lt hp np hw d1 (by omega))
  have SP := fun (A B X Y : Nat) (hd : ∀ w, Calls Tryz.prog 14 #[.complex .f64 X Y, .complex .f64 A B] w fun e w' => e = .returned (.complex .f64 dx dy) ∧ w' = w) (w : World) => spd4 A B s t p X Y dx dy w c1 (fun w => ctermW A B s t p X Y dx dy p p1 (n - 1) w hd hdx.lt hdy.lt hp np hw c4 (by omega))
  by_cases q : n = 1
  · have e0 : Fl.eqF p 4607182418800017408 = true := by rw [c6]; exact decide_eq_true q
    have SL := fun (A B X Y : Nat) (w : World) => (slo4one A B s t p X Y w e0).mono (R' := fun e w' => ∃ u v, e = .returned (.complex .f64 u v) ∧ El.c2 u v = El.c2 0 0 ∧ u < 18446744073709551616 ∧ v < 18446744073709551616 ∧ Bw w w') fun e w' h => ⟨0, 0, h.1, rfl, by decide, by decide, h.2⟩
    refine ⟨El.cterm s t p dx dy p p1, El.c2 0 0, ?_⟩
    exact ⟨fun w => moved_go 4 a b s t p u v a1 b1 _ _ w Q2 (fun w => nature4 a b s t p w) ad N1,
      fun w => pub_pot4 a b s t p x y _ w Q1 (fun w => PT a b x y sd w), fun w => pub_pot4 a1 b1 s t p x1 y1 _ w Q3 (fun w => PT a1 b1 x1 y1 se w),
      fun w => pub_spd4 a b s t p x y _ w Q1 (fun w => SP a b x y sd w), fun w => pub_spd4 a1 b1 s t p x1 y1 _ w Q3 (fun w => SP a1 b1 x1 y1 se w),
      fun w => pub_slo4 a b s t p x y _ w Q1 (fun w => SL a b x y w), fun w => pub_slo4 a1 b1 s t p x1 y1 _ w Q3 (fun w => SL a1 b1 x1 y1 w)⟩
  · have e0 : Fl.eqF p 4607182418800017408 = false := by rw [c6]; exact decide_eq_false q
    have SL := fun (A B X Y : Nat) (hd : ∀ w, Calls Tryz.prog 14 #[.complex .f64 X Y, .complex .f64 A B] w fun e w' => e = .returned (.complex .f64 dx dy) ∧ w' = w) (w : World) => slo4 A B s t p X Y dx dy w e0 c1 c2 c3 (fun w => ctermW A B s t p X Y dx dy pm p2 (n - 2) w hd hdx.lt hdy.lt hp np hw (c5 (by omega)) (by omega))
    refine ⟨El.cterm s t p dx dy p p1, El.cterm s t p dx dy pm p2, ?_⟩
    exact ⟨fun w => moved_go 4 a b s t p u v a1 b1 _ _ w Q2 (fun w => nature4 a b s t p w) ad N1,
      fun w => pub_pot4 a b s t p x y _ w Q1 (fun w => PT a b x y sd w), fun w => pub_pot4 a1 b1 s t p x1 y1 _ w Q3 (fun w => PT a1 b1 x1 y1 se w),
      fun w => pub_spd4 a b s t p x y _ w Q1 (fun w => SP a b x y sd w), fun w => pub_spd4 a1 b1 s t p x1 y1 _ w Q3 (fun w => SP a1 b1 x1 y1 se w),
      fun w => pub_slo4 a b s t p x y _ w Q1 (fun w => SL a b x y sd w), fun w => pub_slo4 a1 b1 s t p x1 y1 _ w Q3 (fun w => SL a1 b1 x1 y1 se w)⟩
/-- a corner of a broken power -/
theorem bun4b {X1 Y1 X2 Y2 X3 Y3 X4 Y4 : Int} {a b s t x y u v a1 b1 x1 y1 dx dy p : Nat} (E : El.Env X1 Y1 X2 Y2 X3 Y3 X4 Y4 a b s t x y u v a1 b1 x1 y1 dx dy) (hp : p < 18446744073709551616) (h1 : El.wi p = true) (h2 : (Fl.leF 4598175219545276416 p && Fl.leF p 4616189618054758400) = true) (hw : El.wh p = false) : ∃ YP YS YL, El.Bun 4 a b s t p x y u v x1 y1 a1 b1 YP YP YS YL := by
  have np := El.wi_nan h1
  have h2' := h2
  simp only [Bool.and_eq_true] at h2'
  have h0 := El.key_of_le h2'.1 (by decide) (by decide)
  have h4 := El.rg_of_key h0 h2'.2 (by decide)
  obtain ⟨p1, c1, r1⟩ := El.sub_there (c := 4607182418800017408) h0 h4 (by decide) (by decide)
  obtain ⟨p2, c2, r2⟩ := El.sub_there (c := 4611686018427387904) h0 h4 (by decide) (by decide)
  obtain ⟨pm, c3⟩ := El.mul_there (p := p) (q := p1) (by omega) r1
  obtain ⟨ha, hb, hs, ht, hx, hy, hu, hv, ha1, hb1, hx1, hy1, hdx, hdy, n1, n2, n3, n4, ad, az, sd, se⟩ := E
  have ls := hs.lt
  have lt := ht.lt
  have m1 : X1.natAbs ≤ 100000 ∧ Y1.natAbs ≤ 100000 := by omega
  have m2 : X2.natAbs ≤ 100000 ∧ Y2.natAbs ≤ 100000 := by omega
  have K1 := fun w => kn4_ok ha hb hs ht m1 m2 hp h1 h2 w
  have K2 := fun w => kn4_ok ha1 hb1 hs ht (by omega) m2 hp h1 h2 w
  have Z1 := place_P hx hy (by omega) (by omega)
  have Z2 := place_P hu hv (by omega) (by omega)
  have Z3 := place_P hx1 hy1 (by omega) (by omega)
  have Q1 := fun w => asked_ok 4 a b s t p x y _ w K1 Z1
  have Q2 := fun w => asked_ok 4 a b s t p u v _ w K1 Z2
  have Q3 := fun w => asked_ok 4 a1 b1 s t p x1 y1 _ w K2 Z3
  have N1 := fun w => answered_ok 4 a1 b1 s t p _ w K2
  have nx := hdx.nan
  have ny := hdy.nan
  have PT := fun (A B X Y : Nat) (hd : ∀ w, Calls Tryz.prog 14 #[.complex .f64 X Y, .complex .f64 A B] w fun e w' => e = .returned (.complex .f64 dx dy) ∧ w' = w) (w : World) => pot4 A B s t p X Y dx dy w (fun w => ctermB A B s t p X Y dx dy 4607182418800017408 p w hd hdx.lt hdy.lt nx ny hp np hw)
  have SP := fun (A B X Y : Nat) (hd : ∀ w, Calls Tryz.prog 14 #[.complex .f64 X Y, .complex .f64 A B] w fun e w' => e = .returned (.complex .f64 dx dy) ∧ w' = w) (w : World) => spd4 A B s t p X Y dx dy w c1 (fun w => ctermB A B s t p X Y dx dy p p1 w hd hdx.lt hdy.lt nx ny hp np hw)
  cases e0 : Fl.eqF p 4607182418800017408 with
  | true =>
    have SL := fun (A B X Y : Nat) (w : World) => (slo4one A B s t p X Y w e0).mono (R' := fun e w' => ∃ u v, e = .returned (.complex .f64 u v) ∧ El.c2 u v = El.c2 0 0 ∧ u < 18446744073709551616 ∧ v < 18446744073709551616 ∧ Bw w w') fun e w' h => ⟨0, 0, h.1, rfl, by decide, by decide, h.2⟩
    refine ⟨El.cterm s t p dx dy 4607182418800017408 p, El.cterm s t p dx dy p p1, El.c2 0 0, ?_⟩
    exact ⟨fun w => moved_go 4 a b s t p u v a1 b1 _ _ w Q2 (fun w => nature4 a b s t p w) ad N1,
      fun w => pub_pot4 a b s t p x y _ w Q1 (fun w => PT a b x y sd w), fun w => pub_pot4 a1 b1 s t p x1 y1 _ w Q3 (fun w => PT a1 b1 x1 y1 se w),
      fun w => pub_spd4 a b s t p x y _ w Q1 (fun w => SP a b x y sd w), fun w => pub_spd4 a1 b1 s t p x1 y1 _ w Q3 (fun w => SP a1 b1 x1 y1 se w),
      fun w => pub_slo4 a b s t p x y _ w Q1 (fun w => SL a b x y w), fun w => pub_slo4 a1 b1 s t p x1 y1 _ w Q3 (fun w => SL a1 b1 x1 y1 w)⟩
  | false =>
    have SL := fun (A B X Y : Nat) (hd : ∀ w, Calls Tryz.prog 14 #[.complex .f64 X Y, .complex .f64 A B] w fun e w' => e = .returned (.complex .f64 dx dy) ∧ w' = w) (w : World) => slo4 A B s t p X Y dx dy w e0 c1 c2 c3 (fun w => ctermB A B s t p X Y dx dy pm p2 w hd hdx.lt hdy.lt nx ny hp np hw)
    refine ⟨El.cterm s t p dx dy 4607182418800017408 p, El.cterm s t p dx dy p p1, El.cterm s t p dx dy pm p2, ?_⟩
    exact ⟨fun w => moved_go 4 a b s t p u v a1 b1 _ _ w Q2 (fun w => nature4 a b s t p w) ad N1,
      fun w => pub_pot4 a b s t p x y _ w Q1 (fun w => PT a b x y sd w), fun w => pub_pot4 a1 b1 s t p x1 y1 _ w Q3 (fun w => PT a1 b1 x1 y1 se w),
      fun w => pub_spd4 a b s t p x y _ w Q1 (fun w => SP a b x y sd w), fun w => pub_spd4 a1 b1 s t p x1 y1 _ w Q3 (fun w => SP a1 b1 x1 y1 se w),
      fun w => pub_slo4 a b s t p x y _ w Q1 (fun w => SL a b x y sd w), fun w => pub_slo4 a1 b1 s t p x1 y1 _ w Q3 (fun w => SL a1 b1 x1 y1 se w)⟩
end Go.Proofs.YtgljnklaabbidaaGreat
/-
  OWN TEXT: the test of life of layer 15, by the evaluator; a source's speed at the source is known otherwise.
-/
namespace Go.Proofs.YtgljnklaabbidaaGreat
open Go.ChangeShapes Go.WideShapes Go.ChangeAt Go.RowKit
set_option linter.unusedVariables false
set_option maxRecDepth 1000000
theorem speed00 (w : World) : Calls Tryz.prog 11 #[El.E 2 0 0 4607182418800017408 0 0, .complex .f64 0 0] w fun e w' => e = .returned (.tuple #[.complex .f64 0 0, .int .i64 6]) ∧ Bw w w' := by
  have w0 : El.wP 0 0 := El.wP_thou 0 (by decide)
  have w1 : El.wP 4607182418800017408 1 := El.wP_thou 1 (by decide)
  obtain ⟨dx, dy, hdx, hdy, sd⟩ := psubP w0 w0 w0 w0 (by decide) (by decide)
  obtain rfl := hdx.uni w0
  obtain rfl := hdy.uni w0
  have K := fun w => kn2_ok w0 w0 w1 w0 (by decide) (by decide) (show 0 < 18446744073709551616 by decide) (by decide) (by decide) w
  have Q := fun w => asked_ok 2 0 0 4607182418800017408 0 0 0 0 _ w K (place_P w0 w0 (by decide) (by decide))
  refine (pub_spd2 0 0 4607182418800017408 0 0 0 0 _ w Q (fun w => spd2 0 0 4607182418800017408 0 0 0 0 _ _ w sd w0.lt w0.lt)).mono ?_
  rintro e w' ⟨u, v, er, rfl, h, rfl, b⟩
  have hf : El.fin (El.zdiv (El.zscale (El.c2 4607182418800017408 0) El.H1) (El.c2 0 0)) = false := by decide +kernel
  unfold El.tz at h
  unfold El.te
  rw [hf] at h ⊢
  have z : ∀ u, Fl.bitsF u = 0 → u = 0 := by
    intro u hu
    by_cases n : Fl.nan u = true
    · rw [Sv.c_nan n] at hu; exact absurd hu (by decide)
    · rw [Sv.c_num (Bool.eq_false_iff.2 n)] at hu; exact hu
  have e1 := z u (congrArg Prod.fst h)
  have e2 := z v (congrArg Prod.snd h)
  subst e1 e2
  exact ⟨rfl, b⟩
def kn15A : List Value := [.agg ⟨[.int .u8 2, .complex .f64 0 0, .complex .f64 4607182418800017408 0, .float .f64 0]⟩, .complex .f64 0 0]
noncomputable def kn15 : Kn := fun f args _ => bif Nat.beq f 11 then (bif eqL eq2 args kn15A then some (.tuple ⟨[.complex .f64 0 0, .int .i64 6]⟩) else none) else none
theorem kn15_ok : KnOk Tryz.prog kn15 := by
  intro f args M v hM hk
  unfold kn15 at hk
  cases q : Nat.beq f 11 with
  | false => rw [q] at hk; cases hk
  | true =>
    rw [q, cond_true] at hk
    rw [Nat.beq_eq] at q
    subst q
    cases q2 : eqL eq2 args kn15A with
    | false => rw [q2] at hk; cases hk
    | true =>
      rw [q2] at hk
      cases hk
      have ea : args = kn15A := eqL_ok (fun _ _ => eq2_ok) q2
      subst ea
      refine ⟨⟨_, Tryz.func11, by kernel_rfl⟩, fun w0 r w args' hr hl => ?_⟩
      have e : args' = kn15A := hl.same (f := flat) (fun _ _ k hf => k.same hf) (by decide)
      subst e
      refine (speed00 w).mono fun x w' hx => ?_
      obtain ⟨rfl, hx⟩ := hx
      exact ⟨r, _, Rho.le.refl r, rfl, VRel.of_flat r (by decide), hr.below_step hx, Keep.refl r _⟩
theorem awake15_run : ((xcallN kn15 Tryz.prog exF kpF hsF 100000 40 4 [] ⟨roTab.length, m0⟩ (fun v M => some (v, M)) (fun _ _ => none)).any fun x => eq3 (.bool true) x.1) = true := by decide +kernel
theorem awake15_ev (w : World) : Calls Tryz.prog 4 #[] w fun e w' => e = .returned (.bool true) ∧ Bw w w' :=
  xevaluatedN kn15_ok exF_ok plainX mixedX (by decide) kpF hsF 100000 40 (args := []) (v := .bool true) rfl rfl awake15_run w (fun g l h => by cases h) (fun g l h => by cases h)
end Go.Proofs.YtgljnklaabbidaaGreat
