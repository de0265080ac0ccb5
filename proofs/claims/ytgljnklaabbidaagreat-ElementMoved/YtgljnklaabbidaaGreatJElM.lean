/-
  OWN TEXT: ElementMoved, for every input.
-/
import Derived.Test.YtgljnklaabbidaaGreatJElL
namespace Go.Proofs.YtgljnklaabbidaaGreat
open Go.ChangeShapes Go.WideShapes Go.ChangeAt Go.RowKit
set_option linter.unusedVariables false
set_option exponentiation.threshold 3000
namespace El
theorem sq_le {x : Int} {N : Nat} (h : x.natAbs ≤ N) : x * x ≤ (N : Int) * N := by
  have k := Nat.mul_le_mul h h
  have e : x * x = ((x.natAbs * x.natAbs : Nat) : Int) := Int.natAbs_mul_self.symm
  rw [e, ← Int.natCast_mul]
  exact Int.ofNat_le.2 k
theorem le_of {x y : Int} {N M : Nat} (hx : x.natAbs ≤ N) (hy : y.natAbs ≤ N) (h : 2 * (N * N) ≤ M * M) : Py.Le (x, y) M := by
  unfold Py.Le
  have h1 := sq_le hx
  have h2 := sq_le hy
  have h3 : ((2 * (N * N) : Nat) : Int) ≤ ((M * M : Nat) : Int) := Int.ofNat_le.2 h
  simp only [Int.natCast_mul] at h3
  show x * x + y * y ≤ _
  omega
theorem zW_c2 {a b : Nat} {m n : Int} (ha : wP a m) (hb : wP b n) : zW (c2 a b) (m, n) := by
  rw [c2_num ha.nan hb.nan]
  exact ⟨ha.1, hb.1⟩
theorem wh_one {p : Nat} (hp : p < 18446744073709551616) (h : Fl.eqF p 4607182418800017408 = true) : p = 4607182418800017408 := by
  unfold Fl.eqF at h
  simp only [Bool.and_eq_true, decide_eq_true_eq] at h
  have k := h.2
  have h0 : 0 < Fl.key p := by rw [k]; decide
  obtain ⟨s0, _⟩ := key_pos h0
  unfold Fl.key at k
  rw [s0, show Fl.sg 4607182418800017408 = false by decide, show Fl.rg 4607182418800017408 = 4607182418800017408 by decide] at k
  have k' : ((Fl.rg p : Nat) : Int) = ((4607182418800017408 : Nat) : Int) := by simpa using k
  unfold Fl.sg at s0
  unfold Fl.rg at k'
  have := of_decide_eq_false s0
  omega
theorem wh_two {p : Nat} (hp : p < 18446744073709551616) (h : Fl.eqF p 4611686018427387904 = true) : p = 4611686018427387904 := by
  unfold Fl.eqF at h
  simp only [Bool.and_eq_true, decide_eq_true_eq] at h
  have k := h.2
  have h0 : 0 < Fl.key p := by rw [k]; decide
  obtain ⟨s0, _⟩ := key_pos h0
  unfold Fl.key at k
  rw [s0, show Fl.sg 4611686018427387904 = false by decide, show Fl.rg 4611686018427387904 = 4611686018427387904 by decide] at k
  have k' : ((Fl.rg p : Nat) : Int) = ((4611686018427387904 : Nat) : Int) := by simpa using k
  unfold Fl.sg at s0
  unfold Fl.rg at k'
  have := of_decide_eq_false s0
  omega
theorem four_tab : ∀ i : Fin 4, ¬ Fl.rg (floatOfInt .f64 ((i.val + 5 : Nat) : Int)) ≤ 4616189618054758400 := by decide +kernel
/-- the last lines at a corner of a broken power -/
theorem tl_broken {p s t dx dy : Nat} {YP : Z} (hp : p < 18446744073709551616) (hw : wh p = false) : Tl 4 s t p dx dy YP := by
  refine Or.inr (Or.inr (Or.inr ⟨rfl, ?_, ?_⟩))
  · cases q : Fl.eqF p 4607182418800017408 with
    | false => rfl
    | true =>
      rw [wh_one hp q] at hw
      exact absurd hw (by decide +kernel)
  · cases q : Fl.eqF p 4611686018427387904 with
    | false => rfl
    | true =>
      rw [wh_two hp q] at hw
      exact absurd hw (by decide +kernel)
/-- the last lines at a corner of a whole power -/
theorem tl_whole {X1 Y1 X2 Y2 X3 Y3 X4 Y4 : Int} {a b s t x y u v a1 b1 x1 y1 dx dy p n : Nat} (E : Env X1 Y1 X2 Y2 X3 Y3 X4 Y4 a b s t x y u v a1 b1 x1 y1 dx dy) (hw : wh p = true) (g1 : 1 ≤ n) (g4 : n ≤ 4) (hn : p = floatOfInt .f64 (n : Int)) : Tl 4 s t p dx dy (cterm s t p dx dy 4607182418800017408 p) := by
  obtain ⟨p1, p2, pm, c1, c2', c3, c4, c5, c6, c7⟩ := cpow g1 g4
  have d1 := (dpow g1 (show n ≤ 8 by omega)).1
  rw [← hn] at c6 c7 d1
  have e2 := E.n1
  have e3 := E.n2
  have e4 := E.n3
  have LS : Py.Le (X2, Y2) 1500 := le_of e3.1 e3.2 (by decide)
  have LD : Py.Le (X3 - X1, Y3 - Y1) 3000 := le_of (N := 2000) (by omega) (by omega) (by decide)
  have ZS := zW_c2 E.hs E.ht
  have ZD := zW_c2 E.hdx E.hdy
  have Z1 := ZS.one LS (by decide)
  have CS : wC 1074 s t (X2, Y2) := ⟨E.hs.1, E.ht.1⟩
  have CD : wC 1074 dx dy (X3 - X1, Y3 - Y1) := ⟨E.hdx.1, E.hdy.1⟩
  obtain ⟨m, m', hm, cm⟩ := pmul8 rfl CS CD LS LD (by decide)
  have hone : Fl.bitsF 4607182418800017408 = 4607182418800017408 := by decide
  have hterm : cterm s t p dx dy 4607182418800017408 p = zmul (zscale (c2 s t) 4607182418800017408) (zpow (c2 dx dy) n) := by
    unfold cterm
    rw [if_pos hw, toN_of d1, hone]
  have fin : ∀ {a : Z} {g : Py.G}, zW a g → te a = 0 ∧ tz a = a := by
    intro a g h
    unfold te tz
    rw [h.fin]
    exact ⟨rfl, rfl⟩
  by_cases q1 : n = 1
  · have ZW := Z1.mul ZD LS LD (by decide)
    have hv : cterm s t p dx dy 4607182418800017408 p = zmul (zscale (c2 s t) 4607182418800017408) (c2 dx dy) := by rw [hterm, q1]; rfl
    rw [← hv] at ZW
    refine Or.inr (Or.inl ⟨rfl, by rw [c6]; exact decide_eq_true q1, by rw [c7]; exact decide_eq_false (by omega), (fin ZW).1, m, m', cm, fun u v e t w => ?_⟩)
    rw [(fin ZW).2] at e
    have h := ceq_run hm (ZW.of e) t w
    rw [decide_eq_true rfl] at h
    exact h
  · by_cases q2 : n = 2
    · have L2 : Py.Le (Py.gm (X3 - X1, Y3 - Y1) (X3 - X1, Y3 - Y1)) (3000 * 3000) := LD.mul LD
      have ZW := Z1.mul (ZD.mul ZD LD LD (by decide)) LS L2 (by decide)
      have hv : cterm s t p dx dy 4607182418800017408 p = zmul (zscale (c2 s t) 4607182418800017408) (zmul (c2 dx dy) (c2 dx dy)) := by rw [hterm, q2]; rfl
      rw [← hv] at ZW
      obtain ⟨k, k', hk, ck⟩ := pmul8 rfl hm CD (LS.mul LD) LD (by decide)
      refine Or.inr (Or.inr (Or.inl ⟨rfl, by rw [c6]; exact decide_eq_false q1, by rw [c7]; exact decide_eq_true q2, (fin ZW).1, m, m', k, k', cm, ck, fun u v e t w => ?_⟩))
      rw [(fin ZW).2] at e
      have h := ceq_run hk (ZW.of e) t w
      rw [Py.gm_assoc, decide_eq_true rfl] at h
      exact h
    · exact Or.inr (Or.inr (Or.inr ⟨rfl, by rw [c6]; exact decide_eq_false q1, by rw [c7]; exact decide_eq_false q2⟩))
end El
theorem elementmoved_any (k X1 Y1 X2 Y2 X3 Y3 X4 Y4 : Int) (p : Nat) (w : World) (hp : p < 18446744073709551616) :
    Calls Tryz.prog 3 #[.int .u8 k, .agg #[.int .i16 X1, .int .i16 Y1], .agg #[.int .i16 X2, .int .i16 Y2], .agg #[.int .i16 X3, .int .i16 Y3], .agg #[.int .i16 X4, .int .i16 Y4], .float .f64 p] w fun e w' => e = .returned (.bool true) ∧ Bw w w' := by
  refine law15 k X1 Y1 X2 Y2 X3 Y3 X4 Y4 _ _ _ _ _ _ _ _ p w (fun wz => gof15 X1 Y1 wz) (fun wz => gof15 X2 Y2 wz) (fun wz => gof15 X3 Y3 wz) (fun wz => gof15 X4 Y4 wz) ?_
  intro n1 n2 n3 n4
  obtain ⟨a1, b1, x1, y1, dx, dy, E⟩ := El.env_of X1 Y1 X2 Y2 X3 Y3 X4 Y4 n1 n2 n3 n4
  have m1 : X1.natAbs ≤ 100000 ∧ Y1.natAbs ≤ 100000 := by omega
  have m2 : X2.natAbs ≤ 100000 ∧ Y2.natAbs ≤ 100000 := by omega
  by_cases k1 : k = 1
  · subst k1
    obtain ⟨er, C, H⟩ := chk1 E.ha E.hb E.hs E.ht m1 m2 hp
    refine ⟨er, C, fun h => ?_⟩
    obtain ⟨h1, h2⟩ := H h
    exact ⟨x1, y1, _, _, dx, dy, _, _, _, _, bun1 E hp h1 h2, E.az, E.sd, fun h => absurd rfl h, Or.inl (by decide)⟩
  by_cases k2 : k = 2
  · subst k2
    obtain ⟨er, C, H⟩ := chk2 E.ha E.hb E.hs E.ht m1 m2 hp
    refine ⟨er, C, fun h => ?_⟩
    obtain ⟨h1, h2⟩ := H h
    obtain ⟨YP, YS, YL, B⟩ := bun2 E hp h1 h2
    exact ⟨x1, y1, _, _, dx, dy, _, _, _, _, B, E.az, E.sd, fun _ => rfl, Or.inl (by decide)⟩
  by_cases k3 : k = 3
  · subst k3
    obtain ⟨er, C, H⟩ := chk3 E.ha E.hb E.hs E.ht m1 m2 hp
    refine ⟨er, C, fun h => ?_⟩
    obtain ⟨h1, h2⟩ := H h
    obtain ⟨YP, YS, YL, B⟩ := bun3 E hp h1 h2
    exact ⟨x1, y1, _, _, dx, dy, _, _, _, _, B, E.az, E.sd, fun _ => rfl, Or.inl (by decide)⟩
  by_cases k4 : k = 4
  · subst k4
    obtain ⟨er, C, H⟩ := chk4 E.ha E.hb E.hs E.ht m1 m2 hp
    refine ⟨er, C, fun h => ?_⟩
    obtain ⟨h1, h2⟩ := H h
    cases hw : El.wh p with
    | false =>
      obtain ⟨YP, YS, YL, B⟩ := bun4b E hp h1 h2 hw
      exact ⟨x1, y1, _, _, dx, dy, _, _, _, _, B, E.az, E.sd, fun _ => rfl, El.tl_broken hp hw⟩
    | true =>
      have h2' := h2
      simp only [Bool.and_eq_true] at h2'
      have h0 := El.key_of_le h2'.1 (by decide) (by decide)
      have h4 := El.rg_of_key h0 h2'.2 (by decide)
      obtain ⟨n, g1, g8, hn⟩ := El.wh_of hp (El.wi_nan h1) hw h0 (by omega)
      have g4 : n ≤ 4 := by
        rcases Nat.lt_or_ge 4 n with q | q
        · exfalso
          have z := El.four_tab ⟨n - 5, by omega⟩
          simp only [show n - 5 + 5 = n by omega] at z
          rw [← hn] at z
          exact z h4
        · exact q
      obtain ⟨YS, YL, B⟩ := bun4w E hp h1 h2 hw g1 g4 hn
      exact ⟨x1, y1, _, _, dx, dy, _, _, _, _, B, E.az, E.sd, fun _ => rfl, El.tl_whole E hw g1 g4 hn⟩
  · exact ⟨150, fun w => check_er k _ _ _ _ p 150 .nilIface w (fun w => known0 k _ _ _ _ p w k1 k2 k3 k4), fun h => absurd h (by decide)⟩
end Go.Proofs.YtgljnklaabbidaaGreat
