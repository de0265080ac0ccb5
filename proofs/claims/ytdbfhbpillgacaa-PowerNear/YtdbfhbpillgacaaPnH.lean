/-
  OWN TEXT: the law PowerNear, for every number.
-/
import Derived.Test.YtdbfhbpillgacaaPnA
import Derived.Test.YtdbfhbpillgacaaPnG
import Derived.Deep.RegionHeld
namespace Go.Proofs.Ytdbfhbpillgacaa
open Go.ChangeShapes Go.WideShapes Go.ChangeAt Go.RowKit
set_option linter.unusedVariables false
attribute [local go_sem] frombits_call tobits_call run_neg
set_option maxHeartbeats 1000000 in
theorem number7n_any (x y : Nat) (w : World) : Calls Try.prog 23 #[.agg #[.int .u64 (x : Int), .int .u64 (y : Int)]] w fun e w' => e = .returned (.complex .f64 x y) ∧ Bw w w' := by
  have g : Bw w (w.alloc (.cells #[.int .u64 (x : Int), .int .u64 (y : Int)] 39)) := Below.alloc (Bw.refl w) (Nat.le_refl _) _
  have c0 : (w.alloc (.cells #[.int .u64 (x : Int), .int .u64 (y : Int)] 39)).cell? ⟨w.heap.size, 0, none⟩ = some (.int .u64 (x : Int)) := by simp
  have c1 : (w.alloc (.cells #[.int .u64 (x : Int), .int .u64 (y : Int)] 39)).cell? ⟨w.heap.size, 1, none⟩ = some (.int .u64 (y : Int)) := by simp
  go_enter Try.func23, Try.ntmps23
  go_wp2
  generalize w.alloc (.cells #[.int .u64 (x : Int), .int .u64 (y : Int)] 39) = W at *
  generalize w.heap.size = B at c0 c1 ⊢
  go_region_held (fun w' => w'.cell? ⟨B, 0, none⟩ = some (.int .u64 (x : Int)) ∧ w'.cell? ⟨B, 1, none⟩ = some (.int .u64 (y : Int))) (go_keep) (go_in)
  go_wp2
  go_ret
  exact ⟨rfl, g.drew⟩
/-- a float is near to itself -/
theorem close_self (a m : Nat) (w : World) (ha : a < 18446744073709551616) (hf : Fl.rg a < 9218868437227405312) (hm : m ≤ 9218868437227405312) : Calls Try.prog 32 #[.float .f64 a, .float .f64 a, .float .f64 m] w fun e w' => e = .returned (.bool true) ∧ w' = w := by
  have r1 := fun (ty : TypeId) w => run_float_arith (P := Try.prog) w .sub ty .f64 _ _ _ (sub_same5 ha hf)
  have AB : Hid (∀ wz, Calls Try.prog 29 #[.float .f64 0] wz fun e w' => e = .returned (.float .f64 0) ∧ w' = wz) := fun wz => abs_any 0 wz (by decide)
  have o := Fl.o_le 0 m
  have n : Fl.nan m = false := by unfold Fl.nan; rw [(rg_rung hm).1]; exact decide_eq_false (by omega)
  have k : Fl.key m = (m : Int) := by unfold Fl.key; rw [(rg_rung hm).2, if_neg (by decide), (rg_rung hm).1]
  rw [Fl.leF_of (by decide) n, k, show Fl.key 0 = 0 by decide, decide_eq_true (by omega)] at o
  clear n k hm hf ha
  go_enter Try.func32, Try.ntmps32
  go_wp2_with (go_at_call 29; refine (AB.out _).mono ?_; rintro e w ⟨rfl, rfl⟩)
  go_ret
  exact ⟨rfl, rfl⟩
theorem tur_0 : turV 0 = some (0, 4607182418800017408) := by decide +kernel
theorem tur_m : turV 9223372036854775808 = some (9223372036854775808, 4607182418800017408) := by decide +kernel
/-- the exponential's parts are the products -/
theorem near_parts {x y e s c p q pc ps : Nat} (hx : x < 18446744073709551616) (hy : y < 18446744073709551616) (he : e < 18446744073709551616) (fe : Fl.rg e < 9218868437227405312) (se : Fl.sg e = false) (hf : fitB y = true) (h : expR x e) (ht : turR y s c) (hE : cexR x y p q) (h1 : opR .mul e c pc) (h2 : opR .mul e s ps) :
    Fl.rg pc < 9218868437227405312 ∧ Fl.rg ps < 9218868437227405312 ∧ p = pc ∧ q = ps := by
  obtain ⟨b1, b2⟩ := tur_bd hy hf ht
  obtain ⟨m1, m2⟩ := mul_small fe b2 h1
  obtain ⟨m3, m4⟩ := mul_small fe b1 h2
  refine ⟨m1, m3, ?_⟩
  obtain ⟨e', k1, k2⟩ := hE
  have ee : e = e' := by
    rcases h.sim hx k1 with q | ⟨q, _⟩
    · exact q
    · rw [nan_fin fe] at q; cases q
  subst ee
  have eqn : ∀ {u v : Nat}, simR u v → Fl.rg u < 9218868437227405312 → u = v := fun {u v} hs hu => by
    rcases hs with q | ⟨q, _⟩
    · exact q
    · rw [nan_fin hu] at q; cases q
  by_cases z : Fl.eqF y 0 = true
  · rw [if_pos z] at k2
    have ny : Fl.nan y = false := by
      cases n : Fl.nan y
      · rfl
      · unfold Fl.eqF at z; rw [n] at z; cases z
    rw [Fl.eqF_of ny (by decide), show Fl.key 0 = 0 by decide] at z
    have kz := of_decide_eq_true z
    have rz : Fl.rg y = 0 := by rw [Fl.rg_key, kz]; rfl
    have hs := Fl.wd_self hy
    rw [rz] at hs
    have tv : (s, c) = (y, 4607182418800017408) := by
      cases sy : Fl.sg y
      · rw [sy] at hs
        have e0 : y = 0 := hs.symm
        subst e0
        exact tur_val ht tur_0
      · rw [sy] at hs
        have e0 : y = 9223372036854775808 := hs.symm
        subst e0
        exact tur_val ht tur_m
    rw [Prod.mk.injEq] at tv
    obtain ⟨rfl, rfl⟩ := tv
    rw [k2.1, k2.2]
    refine ⟨?_, ?_⟩
    · have ew := mul_word fe (by decide) h1
      rw [show Fl.sg 4607182418800017408 = false by decide, Bool.xor_false, show Fl.rg 4607182418800017408 = 4607182418800017408 by decide, Fl.vl_one] at ew
      have := Fl.rq_mul (Fl.vl (Fl.rg e)) 1074 0
      rw [Nat.zero_add] at this
      rw [this, Fl.rq_vl _ (by omega), Fl.wd_self he] at ew
      exact ew.symm
    -- a product with a nought is that nought, by signs
    have ew := mul_word fe (by omega) h2
    rw [rz, show Fl.vl 0 = 0 by decide, Nat.mul_zero] at ew
    have z0 : Fl.rq 0 1074 = 0 := by unfold Fl.rq; rfl
    rw [z0] at ew
    rw [se, Bool.false_xor] at ew
    rw [ew]
    exact hs.symm
  · rw [if_neg z] at k2
    obtain ⟨s', c', a1, a2, a3⟩ := k2
    obtain ⟨t1, t2⟩ := ht.sim hy a1
    exact ⟨(eqn (h1.sim isMul a2 (simR.refl _) t2) m1).symm, (eqn (h2.sim isMul a3 (simR.refl _) t1) m3).symm⟩
set_option maxHeartbeats 8000000 in
set_option maxRecDepth 100000 in
theorem powernear_any (x y : Nat) (w : World) (hx : x < 18446744073709551616) (hy : y < 18446744073709551616) : Calls Try.prog 6 #[.agg #[.int .u64 (x : Int), .int .u64 (y : Int)]] w fun e w' => e = .returned (.bool true) ∧ Below w.heap.size w w' := by
  go_enter Try.func6, Try.ntmps6
  go_wp2_with fail
  have g0 : Bw w (w.alloc (.cells #[.int .u64 (x : Int), .int .u64 (y : Int)] 39)) := Below.alloc (Bw.refl w) (Nat.le_refl _) _
  have c0 : (w.alloc (.cells #[.int .u64 (x : Int), .int .u64 (y : Int)] 39)).cell? ⟨w.heap.size, 0, none⟩ = some (.int .u64 (x : Int)) := by simp
  have c1 : (w.alloc (.cells #[.int .u64 (x : Int), .int .u64 (y : Int)] 39)).cell? ⟨w.heap.size, 1, none⟩ = some (.int .u64 (y : Int)) := by simp
  have hs : w.heap.size < (w.alloc (.cells #[.int .u64 (x : Int), .int .u64 (y : Int)] 39)).heap.size := by simp
  generalize w.alloc (.cells #[.int .u64 (x : Int), .int .u64 (y : Int)] 39) = W at *
  obtain ⟨B, hB⟩ : ∃ B, B = w.heap.size := ⟨_, rfl⟩
  rw [← hB] at c0 c1 hs
  refine (alive7_any _).mono ?_
  rintro e w1 ⟨rfl, b⟩
  have d0 := (Below.cell b (p := ⟨B, 0, none⟩) hs).trans c0
  have d1 := (Below.cell b (p := ⟨B, 1, none⟩) hs).trans c1
  have G := bw_trans g0 b
  clear b g0 c0 c1 hs
  rw [← hB]
  have HBB : Hid (B = w.heap.size) := hB
  clear hB
  go_wp2_with fail
  refine (number7n_any x y _).mono ?_
  rintro e w1b ⟨rfl, b⟩
  replace G := bw_trans G b
  clear b d0 d1
  go_wp2_with fail
  refine (exp_any x _ hx).mono ?_
  rintro e w2 ⟨ex, rfl, h1, b⟩
  have HE : Hid (expR x ex) := h1
  have hex : ex < 18446744073709551616 := h1.1
  replace G := bw_trans G b
  clear b h1
  go_wp2_with fail
  refine (abs_any y _ hy).mono ?_
  rintro e w2 ⟨rfl, rfl⟩
  have o1 : (FloatKind.f64.format.order (Fl.rg y) 4697254411347427328 == some .lt || FloatKind.f64.format.order (Fl.rg y) 4697254411347427328 == some .eq) = fitB y := Fl.o_le (Fl.rg y) 4697254411347427328
  have o2 := Fl.o_ge ex 103582791429521408
  generalize Fl.rg y = Y at o1 ⊢
  cases f : fitB y
  · rw [f] at o1
    clear f o2
    go_wp2
    go_ret
    exact ⟨rfl, G⟩
  · rw [f] at o1
    have FY : Hid (fitB y = true) := f
    clear f
    cases k : Fl.leF 103582791429521408 ex
    · rw [k] at o2
      clear k
      go_wp2
      go_ret
      exact ⟨rfl, G⟩
    · rw [k] at o2
      have nex : Fl.nan ex = false := by
        cases n : Fl.nan ex
        · rfl
        · unfold Fl.leF at k; rw [n] at k; simp at k
      have sex : Fl.sg ex = false := by
        rw [Fl.leF_of (by decide) nex, show Fl.key 103582791429521408 = 103582791429521408 by decide] at k
        have k1 := of_decide_eq_true k
        have k2 : Fl.key ex = if Fl.sg ex then -(Fl.rg ex : Int) else Fl.rg ex := rfl
        cases s : Fl.sg ex
        · rfl
        · rw [s] at k2; simp at k2; omega
      clear k
      have IE : Hid (∀ wz, Calls Try.prog 30 #[.float .f64 ex, .int .i64 1] wz fun e w' => e = .returned (.bool (decide (ex = 9218868437227405312))) ∧ w' = wz) := fun wz => isInf_up ex wz hex
      go_wp2_with fail
      refine (IE.out _).mono ?_
      rintro e w2 ⟨rfl, rfl⟩
      clear IE
      cases i : decide (ex = 9218868437227405312)
      · have fex : Fl.rg ex < 9218868437227405312 := by
          have n := nex
          unfold Fl.nan at n
          have n1 := of_decide_eq_false n
          have n2 := of_decide_eq_false i
          rcases Nat.lt_or_ge (Fl.rg ex) 9218868437227405312 with q | q
          · exact q
          · exfalso
            have r : Fl.rg ex = 9218868437227405312 := by omega
            have ws := Fl.wd_self hex
            rw [sex, r, wd_false] at ws
            exact n2 ws.symm
        have FX : Hid (Fl.rg ex < 9218868437227405312 ∧ Fl.sg ex = false) := ⟨fex, sex⟩
        -- the bound
        obtain ⟨m, w0, hm, _, _⟩ := op_run .mul isMul ex 4372995238176751616 w
        have hmm : m ≤ 9218868437227405312 ∧ floatBits .mul .f64 ex 4372995238176751616 = some m := by
          obtain ⟨q1, q2⟩ := mul_small fex (show Fl.rg 4372995238176751616 ≤ 4607182418800017408 by decide) hm
          have ew := mul_word fex (by decide) hm
          rw [sex, show Fl.sg 4372995238176751616 = false by decide, Bool.xor_false, wd_false] at ew
          exact ⟨by rw [ew]; exact Fl.rq_le _ _, q2⟩
        have rm := fun (ty : TypeId) w => run_float_arith (P := Try.prog) w .mul ty .f64 _ _ _ hmm.2
        have HM : Hid (m ≤ 9218868437227405312) := hmm.1
        clear hm hmm nex fex sex i
        go_wp2_with fail
        refine (turn_any y _ hy).mono ?_
        rintro e w3 ⟨s, c, rfl, h1, b⟩
        have HT : Hid (turR y s c) := h1
        replace G := bw_trans G b
        clear b h1
        go_wp2_with fail
        refine (cexp_any x y _ hx hy).mono ?_
        rintro e w4 ⟨p, q, rfl, h1, _, _, b⟩
        replace G := bw_trans G b
        obtain ⟨pc, _, hpc, _, _⟩ := op_run .mul isMul ex c w
        obtain ⟨ps, _, hps, _, _⟩ := op_run .mul isMul ex s w
        obtain ⟨n1, n2, rfl, rfl⟩ := near_parts hx hy hex FX.out.1 FX.out.2 FY.out HE.out HT.out h1 hpc hps
        obtain ⟨b1, b2⟩ := tur_bd hy FY.out HT.out
        have rc := fun (ty : TypeId) w => run_float_arith (P := Try.prog) w .mul ty .f64 _ _ _ (mul_small FX.out.1 b2 hpc).2
        have rs := fun (ty : TypeId) w => run_float_arith (P := Try.prog) w .mul ty .f64 _ _ _ (mul_small FX.out.1 b1 hps).2
        have P1 : Hid (p < 18446744073709551616 ∧ Fl.rg p < 9218868437227405312) := ⟨hpc.1, n1⟩
        have P2 : Hid (q < 18446744073709551616 ∧ Fl.rg q < 9218868437227405312) := ⟨hps.1, n2⟩
        clear b h1 hpc hps n1 n2 b1 b2 HT HE FX FY
        go_wp2_with fail
        refine (close_self p m _ P1.out.1 P1.out.2 HM.out).mono ?_
        rintro e w4 ⟨rfl, rfl⟩
        go_wp2_with fail
        refine (close_self q m _ P2.out.1 P2.out.2 HM.out).mono ?_
        rintro e w4 ⟨rfl, rfl⟩
        go_wp2
        go_ret
        exact ⟨rfl, G⟩
      · clear i nex sex
        go_wp2
        go_ret
        exact ⟨rfl, G⟩
end Go.Proofs.Ytdbfhbpillgacaa
