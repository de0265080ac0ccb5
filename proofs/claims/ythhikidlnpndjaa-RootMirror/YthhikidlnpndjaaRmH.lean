/-
  OWN TEXT: the law RootMirror, for every number.
-/
import Derived.Test.YthhikidlnpndjaaRoW
import Derived.Test.YthhikidlnpndjaaRmG
import Derived.Test.YthhikidlnpndjaaRpA
import Derived.Deep.RegionHeld
namespace Go.Proofs.Ythhikidlnpndjaa
open Go.ChangeShapes Go.WideShapes Go.ChangeAt Go.RowKit
set_option linter.unusedVariables false
attribute [local go_sem] frombits_call tobits_call run_neg
set_option maxHeartbeats 1000000 in
theorem number6m_any (x y : Nat) (w : World) : Calls Try.prog 5 #[.agg #[.int .u64 (x : Int), .int .u64 (y : Int)]] w fun e w' => e = .returned (.complex .f64 x y) ∧ Bw w w' := by
  have g : Bw w (w.alloc (.cells #[.int .u64 (x : Int), .int .u64 (y : Int)] 24)) := Below.alloc (Bw.refl w) (Nat.le_refl _) _
  have c0 : (w.alloc (.cells #[.int .u64 (x : Int), .int .u64 (y : Int)] 24)).cell? ⟨w.heap.size, 0, none⟩ = some (.int .u64 (x : Int)) := by simp
  have c1 : (w.alloc (.cells #[.int .u64 (x : Int), .int .u64 (y : Int)] 24)).cell? ⟨w.heap.size, 1, none⟩ = some (.int .u64 (y : Int)) := by simp
  go_enter Try.func5, Try.ntmps5
  go_wp2
  generalize w.alloc (.cells #[.int .u64 (x : Int), .int .u64 (y : Int)] 24) = W at *
  generalize w.heap.size = B at c0 c1 ⊢
  go_region_held (fun w' => w'.cell? ⟨B, 0, none⟩ = some (.int .u64 (x : Int)) ∧ w'.cell? ⟨B, 1, none⟩ = some (.int .u64 (y : Int))) (go_keep) (go_in)
  go_wp2
  go_ret
  exact ⟨rfl, g.drew⟩
theorem like6_yes {a b : Nat} (h : simR a b) (w : World) : Calls Try.prog 7 #[.float .f64 a, .float .f64 b] w fun e w' => e = .returned (.bool true) ∧ w' = w := by
  have g0 := Fl.o_ne a a
  have g1 := Fl.o_ne b b
  have g2 := Fl.o_eq a b
  rw [Fl.eqF_self, Bool.not_not] at g0 g1
  cases c : Fl.eqF a b
  · rw [c] at g2
    have n : Fl.nan a = true ∧ Fl.nan b = true := by
      rcases h with e | e
      · subst e
        rw [Fl.eqF_self] at c
        have : Fl.nan a = true := by simpa using c
        exact ⟨this, this⟩
      · exact e
    rw [n.1] at g0
    rw [n.2] at g1
    clear c n h
    go_enter Try.func7, Try.ntmps7
    go_wp2
    go_ret
    exact ⟨rfl, rfl⟩
  · rw [c] at g2
    clear c h g0 g1
    go_enter Try.func7, Try.ntmps7
    go_wp2
    go_ret
    exact ⟨rfl, rfl⟩
theorem key_rung {r : Nat} (h : r ≤ 9218868437227405312) : Fl.key r = (r : Int) := by
  obtain ⟨h1, h2⟩ := rg_rung h
  unfold Fl.key; rw [h2, if_neg (by decide), h1]
theorem le_rung {r s : Nat} (hr : r ≤ 9218868437227405312) (hs : s ≤ 9218868437227405312) : Fl.leF r s = decide (r ≤ s) := by
  rw [Fl.leF_of (nan_rung hr) (nan_rung hs), key_rung hr, key_rung hs]
  by_cases c : r ≤ s
  · rw [decide_eq_true c, decide_eq_true (by omega)]
  · rw [decide_eq_false c, decide_eq_false (by omega)]
theorem lt_rung {r s : Nat} (hr : r ≤ 9218868437227405312) (hs : s ≤ 9218868437227405312) : Fl.ltF r s = decide (r < s) := by
  rw [Fl.ltF_of (nan_rung hr) (nan_rung hs), key_rung hr, key_rung hs]
  by_cases c : r < s
  · rw [decide_eq_true c, decide_eq_true (by omega)]
  · rw [decide_eq_false c, decide_eq_false (by omega)]
theorem max_run {r s : Nat} (hr : r ≤ 9218868437227405312) (hs : s ≤ 9218868437227405312) (ts : Array TypeId) (t : TypeId) (w : World) : (Builtin.max_ ts t #[.float .f64 r, .float .f64 s]).run Try.prog w = .ok (.float .f64 (max r s)) w := by
  have g1 := Fl.o_lt r s
  have g2 := Fl.o_gt r s
  have g3 := Fl.o_eq r s
  rw [lt_rung hr hs] at g1
  rw [lt_rung hs hr] at g2
  rw [Fl.eqF_of (nan_rung hr) (nan_rung hs), key_rung hr, key_rung hs] at g3
  have hd : (FloatKind.f64.decode r).neg = false := by
    rcases Nat.lt_or_ge r 9218868437227405312 with g | g
    · obtain ⟨m, k, hm, _⟩ := Fl.read_fin (x := r) (by rw [(rg_rung hr).1]; exact g)
      show (Ieee.double.read r).neg = false
      rw [hm]
      exact (rg_rung hr).2
    · have e : r = 9218868437227405312 := by omega
      subst e
      decide
  have e : Builtin.max_ ts t #[.float .f64 r, .float .f64 s] = Builtin.max2 (.float .f64 r) (.float .f64 s) := by
    show List.foldlM Builtin.max2 (.float .f64 r) [.float .f64 s] = _
    simp [List.foldlM]
  rw [e]
  unfold Builtin.max2
  simp only []
  cases ho : FloatKind.f64.format.order r s with
  | none =>
    rw [ho] at g1 g2 g3
    have a1 := of_decide_eq_false g1.symm
    have a2 := of_decide_eq_false g2.symm
    have a3 := of_decide_eq_false g3.symm
    omega
  | some o =>
    rw [ho] at g1 g2 g3
    cases o with
    | lt =>
      have a1 := of_decide_eq_true g1.symm
      rw [show max r s = s by omega]; rfl
    | gt =>
      have a2 := of_decide_eq_true g2.symm
      rw [show max r s = r by omega]; rfl
    | eq =>
      have a3 := of_decide_eq_true g3.symm
      simp only [hd]
      rw [show max r s = r by omega]; rfl
theorem inf6_any (w : World) : Calls Try.prog 17 #[.int .i64 1] w fun e w' => e = .returned (.float .f64 9218868437227405312) ∧ w' = w := by
  go_enter Try.func17, Try.ntmps17
  go_wp2
  go_ret
  exact ⟨rfl, rfl⟩
theorem next_up_any {t : Nat} (ht : t < 9218868437227405312) (w : World) : Calls Try.prog 16 #[.float .f64 t, .float .f64 9218868437227405312] w fun e w' => e = .returned (.float .f64 (t + 1)) ∧ w' = w := by
  have N1 : Hid (∀ wz, Calls Try.prog 37 #[.float .f64 t] wz fun e w' => e = .returned (.bool false) ∧ w' = wz) := fun wz => by have k := isNaN_any t wz; rw [nan_rung (by omega)] at k; exact k
  have N2 : Hid (∀ wz, Calls Try.prog 37 #[.float .f64 9218868437227405312] wz fun e w' => e = .returned (.bool false) ∧ w' = wz) := fun wz => isNaN_any 9218868437227405312 wz
  have g1 := Fl.o_eq t 9218868437227405312
  have g2 := Fl.o_eq t 0
  have g3 := Fl.o_gt 9218868437227405312 t
  have g4 := Fl.o_gt t 0
  rw [Fl.eqF_of (nan_rung (by omega)) (by decide), key_rung (by omega), show Fl.key 9218868437227405312 = 9218868437227405312 by decide, decide_eq_false (by omega)] at g1
  rw [Fl.eqF_of (nan_rung (by omega)) (by decide), key_rung (by omega), show Fl.key 0 = 0 by decide] at g2
  rw [lt_rung (by omega) (by omega), decide_eq_true ht] at g3
  rw [lt_rung (by omega) (by omega)] at g4
  by_cases z : t = 0
  · subst z
    replace g2 : (FloatKind.f64.format.order 0 0 == some .eq) = true := by decide
    have C : Hid (∀ wz, Calls Try.prog 18 #[.float .f64 1, .float .f64 9218868437227405312] wz fun e w' => e = .returned (.float .f64 1) ∧ w' = wz) := fun wz => copysign_any 1 9218868437227405312 wz (by decide) (by decide)
    clear g3 g4
    go_enter Try.func16, Try.ntmps16
    go_wp2_with fail
    refine (N1.out _).mono ?_
    rintro e' w ⟨rfl, rfl⟩
    go_wp2_with fail
    refine (N2.out _).mono ?_
    rintro e' w ⟨rfl, rfl⟩
    go_wp2_with (go_at_call 18; refine (C.out _).mono ?_; rintro e w ⟨rfl, rfl⟩)
    go_ret
    exact ⟨rfl, rfl⟩
  · rw [decide_eq_false (by omega)] at g2
    rw [decide_eq_true (by omega)] at g4
    go_enter Try.func16, Try.ntmps16
    go_wp2_with fail
    refine (N1.out _).mono ?_
    rintro e' w ⟨rfl, rfl⟩
    go_wp2_with fail
    refine (N2.out _).mono ?_
    rintro e' w ⟨rfl, rfl⟩
    go_wp2
    go_ret
    exact ⟨rfl, rfl⟩
set_option maxHeartbeats 8000000 in
set_option maxRecDepth 100000 in
theorem rootmirror_any (x y : Nat) (w : World) (hx : x < 18446744073709551616) (hy : y < 18446744073709551616) : Calls Try.prog 3 #[.agg #[.int .u64 (x : Int), .int .u64 (y : Int)]] w fun e w' => e = .returned (.bool true) ∧ Below w.heap.size w w' := by
  have nx := Fl.ng_lt hx
  have ny := Fl.ng_lt hy
  go_enter Try.func3, Try.ntmps3
  go_wp2_with fail
  have g0 : Bw w (w.alloc (.cells #[.int .u64 (x : Int), .int .u64 (y : Int)] 24)) := Below.alloc (Bw.refl w) (Nat.le_refl _) _
  have c0 : (w.alloc (.cells #[.int .u64 (x : Int), .int .u64 (y : Int)] 24)).cell? ⟨w.heap.size, 0, none⟩ = some (.int .u64 (x : Int)) := by simp
  have c1 : (w.alloc (.cells #[.int .u64 (x : Int), .int .u64 (y : Int)] 24)).cell? ⟨w.heap.size, 1, none⟩ = some (.int .u64 (y : Int)) := by simp
  have hs : w.heap.size < (w.alloc (.cells #[.int .u64 (x : Int), .int .u64 (y : Int)] 24)).heap.size := by simp
  generalize w.alloc (.cells #[.int .u64 (x : Int), .int .u64 (y : Int)] 24) = W at *
  obtain ⟨B, hB⟩ : ∃ B, B = w.heap.size := ⟨_, rfl⟩
  rw [← hB] at c0 c1 hs
  refine (awake6_any _).mono ?_
  rintro e w1 ⟨rfl, b⟩
  have d0 := (Below.cell b (p := ⟨B, 0, none⟩) hs).trans c0
  have d1 := (Below.cell b (p := ⟨B, 1, none⟩) hs).trans c1
  have G := bw_trans g0 b
  clear b g0 c0 c1 hs
  rw [← hB]
  have HBB : Hid (B = w.heap.size) := hB
  clear hB
  go_wp2_with fail
  refine (number6m_any x y _).mono ?_
  rintro e w1b ⟨rfl, b⟩
  replace G := bw_trans G b
  clear b d0 d1
  go_wp2_with fail
  refine (length_any x y _ hx hy).mono ?_
  rintro e w2 ⟨l, rfl, h1, b⟩
  have L : Hid (lenR x y l) := h1
  replace G := bw_trans G b
  clear b h1
  go_wp2_with fail
  refine (conj_any x y _ hy).mono ?_
  rintro e w2 ⟨rfl, rfl⟩
  go_wp2_with fail
  refine (length_any x (Fl.ng y) _ hx ny).mono ?_
  rintro e w3 ⟨l1, rfl, h1, b⟩
  have S1 : Hid (simR l l1) := len_same L.out h1 (Or.inl ⟨rfl, Fl.rg_ng y⟩)
  replace G := bw_trans G b
  clear b h1
  go_wp2_with fail
  refine (like6_yes S1.out _).mono ?_
  rintro e w3 ⟨rfl, rfl⟩
  clear S1
  go_wp2_with fail
  refine (neg2_any x y _ hx hy).mono ?_
  rintro e w3 ⟨rfl, rfl⟩
  go_wp2_with fail
  refine (length_any (Fl.ng x) (Fl.ng y) _ nx ny).mono ?_
  rintro e w4 ⟨l2, rfl, h1, b⟩
  have S1 : Hid (simR l l2) := len_same L.out h1 (Or.inl ⟨Fl.rg_ng x, Fl.rg_ng y⟩)
  replace G := bw_trans G b
  clear b h1
  go_wp2_with fail
  refine (like6_yes S1.out _).mono ?_
  rintro e w4 ⟨rfl, rfl⟩
  clear S1
  go_wp2_with fail
  refine (mirror_any x y _ hx).mono ?_
  rintro e w4 ⟨rfl, rfl⟩
  go_wp2_with fail
  refine (length_any (Fl.ng x) y _ nx hy).mono ?_
  rintro e w5 ⟨l3, rfl, h1, b⟩
  have S1 : Hid (simR l l3) := len_same L.out h1 (Or.inl ⟨Fl.rg_ng x, rfl⟩)
  replace G := bw_trans G b
  clear b h1
  go_wp2_with fail
  refine (like6_yes S1.out _).mono ?_
  rintro e w5 ⟨rfl, rfl⟩
  clear S1
  go_wp2_with fail
  refine (times_any x y _ hy).mono ?_
  rintro e w5 ⟨rfl, rfl⟩
  go_wp2_with fail
  refine (length_any (Fl.ng y) x _ ny hx).mono ?_
  rintro e w6 ⟨l4, rfl, h1, b⟩
  have S1 : Hid (simR l l4) := len_same L.out h1 (Or.inr ⟨Fl.rg_ng y, rfl⟩)
  replace G := bw_trans G b
  clear b h1
  go_wp2_with fail
  refine (like6_yes S1.out _).mono ?_
  rintro e w6 ⟨rfl, rfl⟩
  clear S1
  have o0 := Fl.o_ne x x
  have o1 := Fl.o_ne y y
  rw [Fl.eqF_self, Bool.not_not] at o0 o1
  cases n0 : Fl.nan x
  · rw [n0] at o0
    cases n1 : Fl.nan y
    · rw [n1] at o1
      have NX : Hid (Fl.nan x = false ∧ Fl.nan y = false) := ⟨n0, n1⟩
      clear n0 n1
      go_wp2_with fail
      refine (root_any6 x y _ hx hy).mono ?_
      rintro e w7 ⟨p, m, rfl, h1, b⟩
      have R1 : Hid (rooR x y p m) := h1
      replace G := bw_trans G b
      clear b h1
      go_wp2_with fail
      refine (conj_any x y _ hy).mono ?_
      rintro e w7 ⟨rfl, rfl⟩
      go_wp2_with fail
      refine (root_any6 x (Fl.ng y) _ hx ny).mono ?_
      rintro e w8 ⟨p', m', rfl, h1, b⟩
      obtain ⟨r1, r2, r3, r4, rfl, rfl, r5, r6⟩ := rooR_mir hx hy NX.out.1 NX.out.2 R1.out h1
      replace G := bw_trans G b
      have SP : Hid (∀ wz, Calls Try.prog 14 #[.float .f64 p'] wz fun e w' => e = .returned (.bool false) ∧ w' = wz) := fun wz => by have k := signbit_any p' wz r5; rw [r3] at k; exact k
      have SM : Hid (∀ wz, Calls Try.prog 14 #[.float .f64 m] wz fun e w' => e = .returned (.bool (Fl.sg y)) ∧ w' = wz) := fun wz => by have k := signbit_any m wz r6; rw [r4] at k; exact k
      have SY : Hid (∀ wz, Calls Try.prog 14 #[.float .f64 y] wz fun e w' => e = .returned (.bool (Fl.sg y)) ∧ w' = wz) := fun wz => signbit_any y wz hy
      have R6 : Hid (m < 18446744073709551616) := r6
      clear b h1 R1 r1 r2 r3 r4 r5 r6
      obtain ⟨B1, B2, B3, B4⟩ := len_bounds L.out NX.out.1 NX.out.2
      have el : Fl.rg l = l := by
        have k := Fl.wd_self L.out.1
        rw [B1, wd_false] at k
        exact k
      rw [el] at B2 B3
      have rx : Fl.rg x ≤ 9218868437227405312 := by have n := NX.out.1; unfold Fl.nan at n; have := of_decide_eq_false n; omega
      have ry : Fl.rg y ≤ 9218868437227405312 := by have n := NX.out.2; unfold Fl.nan at n; have := of_decide_eq_false n; omega
      have hmax : max (Fl.rg x) (Fl.rg y) ≤ l := by
        have k := (sma_big x y NX.out.1 NX.out.2)
        omega
      obtain ⟨t, w0, ht, _, _⟩ := op_run .add isAdd (Fl.rg x) (Fl.rg y) w
      obtain ⟨T1, T2, T3⟩ := B4 t ht
      have et : Fl.rg t = t := by
        have k := Fl.wd_self ht.1
        rw [T1, wd_false] at k
        exact k
      rw [et] at T2 T3
      rw [el] at T3
      have hsum : floatBits .add .f64 (Fl.rg x) (Fl.rg y) = some t := by
        rcases ht.2 with k | k
        · exact k
        · have := nan_rung T2
          rw [this] at k
          exact absurd k.2 (by decide)
      have rs := fun (ty : TypeId) w => run_float_arith (P := Try.prog) w .add ty .f64 _ _ _ hsum
      have rm := fun (ts : Array TypeId) (ty : TypeId) w => max_run rx ry ts ty w
      have AX : Hid (∀ wz, Calls Try.prog 15 #[.float .f64 x] wz fun e w' => e = .returned (.float .f64 (Fl.rg x)) ∧ w' = wz) := fun wz => abs_any x wz hx
      have AY : Hid (∀ wz, Calls Try.prog 15 #[.float .f64 y] wz fun e w' => e = .returned (.float .f64 (Fl.rg y)) ∧ w' = wz) := fun wz => abs_any y wz hy
      have q1 := Fl.o_ge l (max (Fl.rg x) (Fl.rg y))
      rw [le_rung (by omega) B2, decide_eq_true hmax] at q1
      have q2 := Fl.o_le l t
      rw [le_rung B2 T2] at q2
      have nu : l ≤ t ∨ (t < 9218868437227405312 ∧ l = t + 1) := by omega
      have NU : Hid (l ≤ t ∨ (t < 9218868437227405312 ∧ l = t + 1)) := nu
      clear nu
      have LB : Hid (l ≤ 9218868437227405312) := B2
      clear hsum ht B1 B2 B3 B4 T1 T2 T3 el et hmax L rx ry
      generalize Fl.rg x = X at *
      generalize Fl.rg y = Y at *
      generalize hM : max X Y = M at *
      clear hM
      go_wp2_with fail
      refine (conj_any p' m _ R6.out).mono ?_
      rintro e w8 ⟨rfl, rfl⟩
      go_wp2_with fail
      refine (same6_yes (simR.refl p') (simR.refl (Fl.ng m)) _).mono ?_
      rintro e w8 ⟨rfl, rfl⟩
      go_wp2_with fail
      refine (SP.out _).mono ?_
      rintro e w8 ⟨rfl, rfl⟩
      go_wp2_with fail
      refine (SM.out _).mono ?_
      rintro e w8 ⟨rfl, rfl⟩
      go_wp2_with fail
      refine (SY.out _).mono ?_
      rintro e w8 ⟨rfl, rfl⟩
      generalize Fl.sg y = sy at *
      have fin : ∀ (sy : Bool), True := fun _ => trivial
      cases hl : decide (l ≤ t)
      · rw [hl] at q2
        have hl' := of_decide_eq_false hl
        obtain ⟨t1, t2⟩ : t < 9218868437227405312 ∧ l = t + 1 := by rcases NU.out with k | k; exact absurd k hl'; exact k
        have NA : Hid (∀ wz, Calls Try.prog 16 #[.float .f64 t, .float .f64 9218868437227405312] wz fun e w' => e = .returned (.float .f64 l) ∧ w' = wz) := fun wz => by have k := next_up_any t1 wz; rw [← t2] at k; exact k
        have q3 := Fl.o_le l l
        rw [le_rung LB.out LB.out, decide_eq_true (Nat.le_refl _)] at q3
        clear hl hl' t1 t2 NU fin
        cases sy
        · go_wp2_with fail
          refine (AX.out _).mono ?_
          rintro e w8 ⟨rfl, rfl⟩
          go_wp2_with fail
          refine (AY.out _).mono ?_
          rintro e w8 ⟨rfl, rfl⟩
          go_wp2_with fail
          refine (inf6_any _).mono ?_
          rintro e w8 ⟨rfl, rfl⟩
          go_wp2_with fail
          refine (NA.out _).mono ?_
          rintro e w8 ⟨rfl, rfl⟩
          go_wp2
          go_ret
          exact ⟨rfl, G⟩
        · go_wp2_with fail
          refine (AX.out _).mono ?_
          rintro e w8 ⟨rfl, rfl⟩
          go_wp2_with fail
          refine (AY.out _).mono ?_
          rintro e w8 ⟨rfl, rfl⟩
          go_wp2_with fail
          refine (inf6_any _).mono ?_
          rintro e w8 ⟨rfl, rfl⟩
          go_wp2_with fail
          refine (NA.out _).mono ?_
          rintro e w8 ⟨rfl, rfl⟩
          go_wp2
          go_ret
          exact ⟨rfl, G⟩
      · rw [hl] at q2
        clear hl NU fin
        cases sy
        · go_wp2_with fail
          refine (AX.out _).mono ?_
          rintro e w8 ⟨rfl, rfl⟩
          go_wp2_with fail
          refine (AY.out _).mono ?_
          rintro e w8 ⟨rfl, rfl⟩
          go_wp2
          go_ret
          exact ⟨rfl, G⟩
        · go_wp2_with fail
          refine (AX.out _).mono ?_
          rintro e w8 ⟨rfl, rfl⟩
          go_wp2_with fail
          refine (AY.out _).mono ?_
          rintro e w8 ⟨rfl, rfl⟩
          go_wp2
          go_ret
          exact ⟨rfl, G⟩
    · rw [n1] at o1
      clear n0 n1 L
      go_wp2
      go_ret
      exact ⟨rfl, G⟩
  · rw [n0] at o0
    clear n0 o1 L
    go_wp2
    go_ret
    exact ⟨rfl, G⟩
end Go.Proofs.Ythhikidlnpndjaa
