/-
  OWN TEXT: package element: which elements may be; what the methods of the four kinds return, as functions of one row of bits a part.
-/
import Derived.Test.YtgljnklaabbidaaGreatJElBToElC
import Derived.Laws.FloatArith
namespace Go.Proofs.YtgljnklaabbidaaGreat
open Go.ChangeShapes Go.WideShapes Go.ChangeAt Go.RowKit
set_option linter.unusedVariables false
attribute [local go_sem] frombits_call tobits_call run_neg El.run_store_cx El.run_store_fl
namespace El
/-- an element lies at a block -/
structure St (w : World) (B : Nat) (k : Int) (a b s t p : Nat) : Prop where
  lt : B < w.heap.size
  c0 : w.cell? ⟨B, 0, none⟩ = some (.int .u8 k)
  c1 : w.cell? ⟨B, 1, none⟩ = some (.complex .f64 a b)
  c2 : w.cell? ⟨B, 2, none⟩ = some (.complex .f64 s t)
  c3 : w.cell? ⟨B, 3, none⟩ = some (.float .f64 p)
theorem St.bw {w w' : World} {B : Nat} {k : Int} {a b s t p : Nat} (h : St w B k a b s t p) (g : Bw w w') : St w' B k a b s t p :=
  ⟨Nat.lt_of_lt_of_le h.lt g.size, (Below.cell g (p := ⟨B, 0, none⟩) h.lt).trans h.c0, (Below.cell g (p := ⟨B, 1, none⟩) h.lt).trans h.c1, (Below.cell g (p := ⟨B, 2, none⟩) h.lt).trans h.c2, (Below.cell g (p := ⟨B, 3, none⟩) h.lt).trans h.c3⟩
theorem St.new (w : World) (k : Int) (a b s t p : Nat) (T : TypeId) : St (w.alloc (.cells #[.int .u8 k, .complex .f64 a b, .complex .f64 s t, .float .f64 p] T)) w.heap.size k a b s t p :=
  ⟨by simp, by simp, by simp, by simp, by simp⟩
theorem bw_new (w : World) (o : Obj) : Bw w (w.alloc o) := Below.alloc (Bw.refl w) (Nat.le_refl _) _
/-- a sign turned -/
def zng (x : Nat) : Nat := if Fl.nan x = true then x else Fl.ng x
def zneg (a : Z) : Z := (zng a.1, zng a.2)
theorem zng_c {x : Nat} (hx : x < 18446744073709551616) : Fl.bitsF (Fl.ng x) = zng (Fl.bitsF x) := by
  unfold zng
  rw [Sv.nan_c]
  by_cases h : Fl.nan x = true
  · rw [if_pos h, Sv.c_nan h, Sv.c_nan (by rw [Fl.nan_ng x]; exact h)]
  · rw [if_neg h, Sv.c_num (Bool.eq_false_iff.2 h), Sv.c_num (by rw [Fl.nan_ng x]; exact Bool.eq_false_iff.2 h)]
/-- 1 / (2 * H) -/
def H1 : Nat := 4594902181429758083
/-- a whole power's number -/
def toN (p : Nat) : Nat := match floatToIntVal .f64 p .i64 with | some n => n.toNat | none => 0
/-- what a doublet's formula comes to -/
def dterm (s t p dx dy times more : Nat) : Z := zdiv (zscale (c2 s t) (Fl.bitsF times)) (zpow (c2 dx dy) (toN p + more))
/-- what a corner's formula comes to -/
noncomputable def cterm (s t p dx dy times q : Nat) : Z :=
  if wh p = true then zmul (zscale (c2 s t) (Fl.bitsF times)) (zpow (c2 dx dy) (toN q))
  else if (Fl.eqF dx 0 && Fl.eqF dy 0 && Fl.ltF 0 q) = true then (0, 0) else zmul (zscale (c2 s t) (Fl.bitsF times)) (zreal dx dy q)
end El
set_option maxHeartbeats 4000000 in
theorem may1 (a b s t p : Nat) (w : World) (ha : a < 18446744073709551616) (hb : b < 18446744073709551616) (na : Fl.nan a = false) (nb : Fl.nan b = false) : Calls Tryz.prog 54 #[El.E 1 a b s t p] w fun e w' => e = .returned (.bool ((Fl.eqF a 0 && Fl.eqF b 0) && Fl.eqF p 0)) ∧ Bw w w' := by
  have A1 := El.hid (fun wz => enought_any a b wz ha hb na nb)
  have o := Fl.o_eq p 0
  clear na nb
  generalize (Fl.eqF a 0 && Fl.eqF b 0) = q at *
  generalize Fl.eqF p 0 = r at *
  have G := El.bw_new w (.cells #[.int .u8 1, .complex .f64 a b, .complex .f64 s t, .float .f64 p] 60)
  unfold El.E
  cases q
  · go_enter Tryz.func54, Tryz.ntmps54
    go_wp2_with fail
    refine (A1.out _).mono ?_
    rintro e' w1 ⟨rfl, hw⟩
    subst hw
    go_wp2
    go_ret
    exact ⟨rfl, G⟩
  · go_enter Tryz.func54, Tryz.ntmps54
    go_wp2_with fail
    refine (A1.out _).mono ?_
    rintro e' w1 ⟨rfl, hw⟩
    subst hw
    go_wp2
    go_ret
    exact ⟨rfl, G⟩
theorem may2 (a b s t p : Nat) (w : World) : Calls Tryz.prog 120 #[El.E 2 a b s t p] w fun e w' => e = .returned (.bool (Fl.eqF p 0)) ∧ Bw w w' := by
  have o := Fl.o_eq p 0
  generalize Fl.eqF p 0 = r at *
  have G := El.bw_new w (.cells #[.int .u8 2, .complex .f64 a b, .complex .f64 s t, .float .f64 p] 63)
  unfold El.E
  go_enter Tryz.func120, Tryz.ntmps120
  go_wp2
  go_ret
  exact ⟨rfl, G⟩
set_option maxHeartbeats 4000000 in
theorem may3 (a b s t p : Nat) (w : World) (hp : p < 18446744073709551616) (np : Fl.nan p = false) : Calls Tryz.prog 126 #[El.E 3 a b s t p] w fun e w' => e = .returned (.bool (El.wh p && Fl.leF 4607182418800017408 p && Fl.leF p 4620693217682128896)) ∧ Bw w w' := by
  have A1 := El.hid (fun wz => ewhole_any p wz hp np)
  have o := Fl.o_ge p 4607182418800017408
  have o' := Fl.o_le p 4620693217682128896
  clear np hp
  generalize El.wh p = q at *
  generalize Fl.leF 4607182418800017408 p = r at *
  generalize Fl.leF p 4620693217682128896 = r' at *
  have G := El.bw_new w (.cells #[.int .u8 3, .complex .f64 a b, .complex .f64 s t, .float .f64 p] 64)
  unfold El.E
  cases q <;> cases r
  · go_enter Tryz.func126, Tryz.ntmps126
    go_wp2_with fail
    refine (A1.out _).mono ?_
    rintro e' w1 ⟨rfl, hw⟩
    subst hw
    go_wp2
    go_ret
    exact ⟨rfl, G⟩
  · go_enter Tryz.func126, Tryz.ntmps126
    go_wp2_with fail
    refine (A1.out _).mono ?_
    rintro e' w1 ⟨rfl, hw⟩
    subst hw
    go_wp2
    go_ret
    exact ⟨rfl, G⟩
  · go_enter Tryz.func126, Tryz.ntmps126
    go_wp2_with fail
    refine (A1.out _).mono ?_
    rintro e' w1 ⟨rfl, hw⟩
    subst hw
    go_wp2
    go_ret
    exact ⟨rfl, G⟩
  · go_enter Tryz.func126, Tryz.ntmps126
    go_wp2_with fail
    refine (A1.out _).mono ?_
    rintro e' w1 ⟨rfl, hw⟩
    subst hw
    go_wp2
    go_ret
    exact ⟨rfl, G⟩
set_option maxHeartbeats 4000000 in
theorem may4 (a b s t p : Nat) (w : World) : Calls Tryz.prog 61 #[El.E 4 a b s t p] w fun e w' => e = .returned (.bool (Fl.leF 4598175219545276416 p && Fl.leF p 4616189618054758400)) ∧ Bw w w' := by
  have o := Fl.o_ge p 4598175219545276416
  have o' := Fl.o_le p 4616189618054758400
  generalize Fl.leF 4598175219545276416 p = r at *
  generalize Fl.leF p 4616189618054758400 = r' at *
  have G := El.bw_new w (.cells #[.int .u8 4, .complex .f64 a b, .complex .f64 s t, .float .f64 p] 61)
  unfold El.E
  cases r
  · go_enter Tryz.func61, Tryz.ntmps61
    go_wp2
    go_ret
    exact ⟨rfl, G⟩
  · go_enter Tryz.func61, Tryz.ntmps61
    go_wp2
    go_ret
    exact ⟨rfl, G⟩
theorem pot1 (a b s t p x y : Nat) (w : World) : Calls Tryz.prog 55 #[El.E 1 a b s t p, .complex .f64 x y] w fun e w' => ∃ u v, e = .returned (.complex .f64 u v) ∧ El.c2 u v = El.zmul (El.c2 s t) (El.c2 x y) ∧ u < 18446744073709551616 ∧ v < 18446744073709551616 ∧ Bw w w' := by
  have G := El.bw_new w (.cells #[.int .u8 1, .complex .f64 a b, .complex .f64 s t, .float .f64 p] 60)
  unfold El.E
  go_enter Tryz.func55, Tryz.ntmps55
  go_wp2_with fail
  refine (zmul_any s t x y _).mono ?_
  rintro e' w1 ⟨u, v, rfl, h, l, m, b1⟩
  have H := El.hid h
  clear h
  go_wp2
  go_ret
  exact ⟨u, v, rfl, H.out, l, m, bw_trans G b1⟩
theorem spd1 (a b s t p x y : Nat) (w : World) : Calls Tryz.prog 57 #[El.E 1 a b s t p, .complex .f64 x y] w fun e w' => e = .returned (.complex .f64 s t) ∧ Bw w w' := by
  have G := El.bw_new w (.cells #[.int .u8 1, .complex .f64 a b, .complex .f64 s t, .float .f64 p] 60)
  unfold El.E
  go_enter Tryz.func57, Tryz.ntmps57
  go_wp2
  go_ret
  exact ⟨rfl, G⟩
theorem slo1 (a b s t p x y : Nat) (w : World) : Calls Tryz.prog 56 #[El.E 1 a b s t p, .complex .f64 x y] w fun e w' => e = .returned (.complex .f64 0 0) ∧ Bw w w' := by
  have G := El.bw_new w (.cells #[.int .u8 1, .complex .f64 a b, .complex .f64 s t, .float .f64 p] 60)
  unfold El.E
  go_enter Tryz.func56, Tryz.ntmps56
  go_wp2
  go_ret
  exact ⟨rfl, G⟩
theorem spread_any (a b s t p : Nat) (w : World) : Calls Tryz.prog 124 #[El.E 2 a b s t p] w fun e w' => ∃ u v, e = .returned (.complex .f64 u v) ∧ El.c2 u v = El.zscale (El.c2 s t) El.H1 ∧ u < 18446744073709551616 ∧ v < 18446744073709551616 ∧ Bw w w' := by
  have G := El.bw_new w (.cells #[.int .u8 2, .complex .f64 a b, .complex .f64 s t, .float .f64 p] 63)
  have e1 : ∀ (t : TypeId) (w : World), (binOp .mul t (.float .f64 4611686018427387904) (.float .f64 4614256656552045848)).run Tryz.prog w = .ok (.float .f64 4618760256179416344) w := fun t w => run_float_arith (P := Tryz.prog) w .mul t .f64 _ _ _ (by decide +kernel)
  have e2 : ∀ (t : TypeId) (w : World), (binOp .quo t (.float .f64 4607182418800017408) (.float .f64 4618760256179416344)).run Tryz.prog w = .ok (.float .f64 4594902181429758083) w := fun t w => run_float_arith (P := Tryz.prog) w .quo t .f64 _ _ _ (by decide +kernel)
  unfold El.E
  go_enter Tryz.func124, Tryz.ntmps124
  go_wp2_with fail
  refine (pi_any _).mono ?_
  rintro e' w1 ⟨rfl, hw⟩
  subst hw
  go_wp2_with fail
  refine (zscale_any s t 4594902181429758083 _).mono ?_
  rintro e' w1 ⟨u, v, rfl, h, l, m, b1⟩
  have H := El.hid h
  clear h
  go_wp2
  go_ret
  exact ⟨u, v, rfl, H.out.trans (by rw [show Fl.bitsF 4594902181429758083 = El.H1 by decide]), l, m, bw_trans G b1⟩
set_option maxHeartbeats 8000000 in
theorem pot2 (a b s t p x y dx dy : Nat) (w : World) (hd : Hid (∀ wz, Calls Tryz.prog 14 #[.complex .f64 x y, .complex .f64 a b] wz fun e w' => e = .returned (.complex .f64 dx dy) ∧ w' = wz)) (hx : dx < 18446744073709551616) (hy : dy < 18446744073709551616) : Calls Tryz.prog 121 #[El.E 2 a b s t p, .complex .f64 x y] w fun e w' => ∃ u v, e = .returned (.complex .f64 u v) ∧ El.c2 u v = El.zmul (El.zscale (El.c2 s t) El.H1) (El.zlog dx dy) ∧ u < 18446744073709551616 ∧ v < 18446744073709551616 ∧ Bw w w' := by
  have S0 := (El.St.new w 2 a b s t p 63).bw (Bw.refl _).drew
  have G : Bw w (w.alloc (.cells #[.int .u8 2, .complex .f64 a b, .complex .f64 s t, .float .f64 p] 63)).drew := (El.bw_new w _).drew
  unfold El.E
  go_enter Tryz.func121, Tryz.ntmps121
  go_wp2_with fail
  refine wp_region_K (fun w' => El.St w' w.heap.size 2 a b s t p) 9 10 #[false, false, false, false, false, false, false, false, false, false] (by kernel_rfl) (by kernel_rfl) (by kernel_rfl) ?_
  generalize hW : (w.alloc (.cells #[.int .u8 2, .complex .f64 a b, .complex .f64 s t, .float .f64 p] 63)).drew = W at *
  generalize w.heap.size = B at *
  clear hW
  refine wpAnyK_take 0 5 (v := ?v0) rfl (by kernel_rfl) (by kernel_rfl) (by kernel_rfl) (by kernel_rfl) (by kernel_rfl) (fun _ _ _ h => h) rfl (Or.inl ⟨by rfl, ?h0⟩) (by assumption) ?r0
  case h0 => (intro w hSw; obtain ⟨_, h0, h1, h2, h3⟩ := hSw; go_simp; with_reducible rfl)
  simp only [Act.put, List.setIfInBounds_toArray, List.set_cons_zero, List.set_cons_succ]
  refine wpAnyK_take 2 7 (v := ?v2) rfl (by kernel_rfl) (by kernel_rfl) (by kernel_rfl) (by kernel_rfl) (by kernel_rfl) (fun _ _ _ h => h) rfl (Or.inl ⟨by rfl, ?h2⟩) (by assumption) ?r2
  case h2 => (intro w hSw; obtain ⟨_, h0, h1, h2, h3⟩ := hSw; go_simp; with_reducible rfl)
  simp only [Act.put, List.setIfInBounds_toArray, List.set_cons_zero, List.set_cons_succ]
  refine wpAnyK_take 3 8 (v := ?v3) rfl (by kernel_rfl) (by kernel_rfl) (by kernel_rfl) (by kernel_rfl) (by kernel_rfl) (fun _ _ _ h => h) rfl (Or.inl ⟨by rfl, ?h3⟩) (by assumption) ?r3
  case h3 => (intro w hSw; obtain ⟨_, h0, h1, h2, h3⟩ := hSw; go_simp; with_reducible rfl)
  simp only [Act.put, List.setIfInBounds_toArray, List.set_cons_zero, List.set_cons_succ]
  refine wpAnyK_take 4 9 (v := ?v4) rfl (by kernel_rfl) (by kernel_rfl) (by kernel_rfl) (by kernel_rfl) (by kernel_rfl) (fun _ _ _ h => h) rfl (Or.inl ⟨by rfl, ?h4⟩) (by assumption) ?r4
  case h4 => (intro w hSw; obtain ⟨_, h0, h1, h2, h3⟩ := hSw; go_simp; with_reducible rfl)
  simp only [Act.put, List.setIfInBounds_toArray, List.set_cons_zero, List.set_cons_succ]
  refine wpAnyK_take 5 10 (v := ?v5) rfl (by kernel_rfl) (by kernel_rfl) (by kernel_rfl) (by kernel_rfl) (by kernel_rfl) (fun _ _ _ h => h) rfl (Or.inl ⟨by rfl, ?h5⟩) (by assumption) ?r5
  case h5 => (intro w hSw; obtain ⟨_, h0, h1, h2, h3⟩ := hSw; go_simp; with_reducible rfl)
  simp only [Act.put, List.setIfInBounds_toArray, List.set_cons_zero, List.set_cons_succ]
  refine wpAnyK_one 1 (by kernel_rfl) rfl (fun K hK => ?_)
  go_simp
  go_wp2_with (go_at_call 124; refine (spread_any a b s t p _).mono ?_; rintro e' w1 ⟨u, v, rfl, h1, l1, m1, b1⟩)
  have S1 := S0.bw b1
  have Q1 := El.hid h1
  clear h1
  refine hK.out _ _ (fun _ _ => S1) ?_
  clear hK K
  simp only [List.setIfInBounds_toArray, List.set_cons_zero, List.set_cons_succ]
  refine wpAnyK_one 6 (by kernel_rfl) rfl (fun K hK => ?_)
  go_simp
  go_wp2_with (go_at_call 14; refine (hd.out _).mono ?_; rintro e' w9 ⟨rfl, hw9⟩; subst hw9)
  refine hK.out _ _ (fun _ _ => S1) ?_
  clear hK K
  simp only [List.setIfInBounds_toArray, List.set_cons_zero, List.set_cons_succ]
  refine wpAnyK_one 7 (by kernel_rfl) rfl (fun K hK => ?_)
  go_simp
  go_wp2_with (go_at_call 74; refine (zlog_any dx dy _ hx hy).mono ?_; rintro e' w2 ⟨u2, v2, rfl, h2, b2⟩)
  have S2 := S1.bw b2
  have Q2 := El.hid h2
  clear h2
  refine hK.out _ _ (fun _ _ => S2) ?_
  clear hK K
  simp only [List.setIfInBounds_toArray, List.set_cons_zero, List.set_cons_succ]
  refine wpAnyK_one 8 (by kernel_rfl) rfl (fun K hK => ?_)
  go_simp
  go_wp2_with (go_at_call 15; refine (zmul_any u v u2 v2 _).mono ?_; rintro e' w3 ⟨u3, v3, rfl, h3, l3, m3, b3⟩)
  have S3 := S2.bw b3
  have Q3 := El.hid h3
  clear h3
  refine hK.out _ _ (fun _ _ => S3) ?_
  clear hK K
  simp only [List.setIfInBounds_toArray, List.set_cons_zero, List.set_cons_succ]
  refine wpAnyK_one 9 (by kernel_rfl) rfl (fun K hK => ?_)
  go_simp
  refine hK.out _ _ (fun h => absurd rfl h) ?_
  clear hK K
  simp only [List.setIfInBounds_toArray, List.set_cons_zero, List.set_cons_succ]
  refine wpAnyK_done (by kernel_rfl) ?_ _
  go_wp2
  go_ret
  exact ⟨u3, v3, rfl, by rw [Q3.out, Q1.out, Q2.out], l3, m3, bw_trans (bw_trans (bw_trans G b1) b2) b3⟩
set_option maxHeartbeats 8000000 in
theorem spd2 (a b s t p x y dx dy : Nat) (w : World) (hd : Hid (∀ wz, Calls Tryz.prog 14 #[.complex .f64 x y, .complex .f64 a b] wz fun e w' => e = .returned (.complex .f64 dx dy) ∧ w' = wz)) (hx : dx < 18446744073709551616) (hy : dy < 18446744073709551616) : Calls Tryz.prog 123 #[El.E 2 a b s t p, .complex .f64 x y] w fun e w' => ∃ u v, e = .returned (.complex .f64 u v) ∧ El.c2 u v = El.zdiv (El.zscale (El.c2 s t) El.H1) (El.c2 dx dy) ∧ u < 18446744073709551616 ∧ v < 18446744073709551616 ∧ Bw w w' := by
  have S0 := (El.St.new w 2 a b s t p 63).bw (Bw.refl _).drew
  have G : Bw w (w.alloc (.cells #[.int .u8 2, .complex .f64 a b, .complex .f64 s t, .float .f64 p] 63)).drew := (El.bw_new w _).drew
  unfold El.E
  go_enter Tryz.func123, Tryz.ntmps123
  go_wp2_with fail
  refine wp_region_K (fun w' => El.St w' w.heap.size 2 a b s t p) 8 9 #[false, false, false, false, false, false, false, false, false] (by kernel_rfl) (by kernel_rfl) (by kernel_rfl) ?_
  generalize hW : (w.alloc (.cells #[.int .u8 2, .complex .f64 a b, .complex .f64 s t, .float .f64 p] 63)).drew = W at *
  generalize w.heap.size = B at *
  clear hW
  refine wpAnyK_take 0 5 (v := ?v0) rfl (by kernel_rfl) (by kernel_rfl) (by kernel_rfl) (by kernel_rfl) (by kernel_rfl) (fun _ _ _ h => h) rfl (Or.inl ⟨by rfl, ?h0⟩) (by assumption) ?r0
  case h0 => (intro w hSw; obtain ⟨_, h0, h1, h2, h3⟩ := hSw; go_simp; with_reducible rfl)
  simp only [Act.put, List.setIfInBounds_toArray, List.set_cons_zero, List.set_cons_succ]
  refine wpAnyK_take 2 7 (v := ?v2) rfl (by kernel_rfl) (by kernel_rfl) (by kernel_rfl) (by kernel_rfl) (by kernel_rfl) (fun _ _ _ h => h) rfl (Or.inl ⟨by rfl, ?h2⟩) (by assumption) ?r2
  case h2 => (intro w hSw; obtain ⟨_, h0, h1, h2, h3⟩ := hSw; go_simp; with_reducible rfl)
  simp only [Act.put, List.setIfInBounds_toArray, List.set_cons_zero, List.set_cons_succ]
  refine wpAnyK_take 3 8 (v := ?v3) rfl (by kernel_rfl) (by kernel_rfl) (by kernel_rfl) (by kernel_rfl) (by kernel_rfl) (fun _ _ _ h => h) rfl (Or.inl ⟨by rfl, ?h3⟩) (by assumption) ?r3
  case h3 => (intro w hSw; obtain ⟨_, h0, h1, h2, h3⟩ := hSw; go_simp; with_reducible rfl)
  simp only [Act.put, List.setIfInBounds_toArray, List.set_cons_zero, List.set_cons_succ]
  refine wpAnyK_take 4 9 (v := ?v4) rfl (by kernel_rfl) (by kernel_rfl) (by kernel_rfl) (by kernel_rfl) (by kernel_rfl) (fun _ _ _ h => h) rfl (Or.inl ⟨by rfl, ?h4⟩) (by assumption) ?r4
  case h4 => (intro w hSw; obtain ⟨_, h0, h1, h2, h3⟩ := hSw; go_simp; with_reducible rfl)
  simp only [Act.put, List.setIfInBounds_toArray, List.set_cons_zero, List.set_cons_succ]
  refine wpAnyK_take 5 10 (v := ?v5) rfl (by kernel_rfl) (by kernel_rfl) (by kernel_rfl) (by kernel_rfl) (by kernel_rfl) (fun _ _ _ h => h) rfl (Or.inl ⟨by rfl, ?h5⟩) (by assumption) ?r5
  case h5 => (intro w hSw; obtain ⟨_, h0, h1, h2, h3⟩ := hSw; go_simp; with_reducible rfl)
  simp only [Act.put, List.setIfInBounds_toArray, List.set_cons_zero, List.set_cons_succ]
  refine wpAnyK_one 1 (by kernel_rfl) rfl (fun K hK => ?_)
  go_simp
  go_wp2_with (go_at_call 124; refine (spread_any a b s t p _).mono ?_; rintro e' w1 ⟨u, v, rfl, h1, l1, m1, b1⟩)
  have S1 := S0.bw b1
  have Q1 := El.hid h1
  clear h1
  refine hK.out _ _ (fun _ _ => S1) ?_
  clear hK K
  simp only [List.setIfInBounds_toArray, List.set_cons_zero, List.set_cons_succ]
  refine wpAnyK_one 6 (by kernel_rfl) rfl (fun K hK => ?_)
  go_simp
  go_wp2_with (go_at_call 14; refine (hd.out _).mono ?_; rintro e' w9 ⟨rfl, hw9⟩; subst hw9)
  refine hK.out _ _ (fun _ _ => S1) ?_
  clear hK K
  simp only [List.setIfInBounds_toArray, List.set_cons_zero, List.set_cons_succ]
  refine wpAnyK_one 7 (by kernel_rfl) rfl (fun K hK => ?_)
  go_simp
  go_wp2_with (go_at_call 71; refine (zdiv_any u v dx dy _ hx hy).mono ?_; rintro e' w3 ⟨u3, v3, rfl, h3, l3, m3, b3⟩)
  have S3 := S1.bw b3
  have Q3 := El.hid h3
  clear h3
  refine hK.out _ _ (fun _ _ => S3) ?_
  clear hK K
  simp only [List.setIfInBounds_toArray, List.set_cons_zero, List.set_cons_succ]
  refine wpAnyK_one 8 (by kernel_rfl) rfl (fun K hK => ?_)
  go_simp
  refine hK.out _ _ (fun h => absurd rfl h) ?_
  clear hK K
  simp only [List.setIfInBounds_toArray, List.set_cons_zero, List.set_cons_succ]
  refine wpAnyK_done (by kernel_rfl) ?_ _
  go_wp2
  go_ret
  exact ⟨u3, v3, rfl, by rw [Q3.out, Q1.out], l3, m3, bw_trans (bw_trans G b1) b3⟩
set_option maxHeartbeats 8000000 in
theorem slo2 (a b s t p x y dx dy : Nat) (w : World) (hd : Hid (∀ wz, Calls Tryz.prog 14 #[.complex .f64 x y, .complex .f64 a b] wz fun e w' => e = .returned (.complex .f64 dx dy) ∧ w' = wz)) (hx : dx < 18446744073709551616) (hy : dy < 18446744073709551616) : Calls Tryz.prog 122 #[El.E 2 a b s t p, .complex .f64 x y] w fun e w' => ∃ u v, e = .returned (.complex .f64 u v) ∧ El.c2 u v = El.zdiv (El.zneg (El.zscale (El.c2 s t) El.H1)) (El.zpow (El.c2 dx dy) 2) ∧ u < 18446744073709551616 ∧ v < 18446744073709551616 ∧ Bw w w' := by
  have S0 := (El.St.new w 2 a b s t p 63).bw (Bw.refl _).drew
  have G : Bw w (w.alloc (.cells #[.int .u8 2, .complex .f64 a b, .complex .f64 s t, .float .f64 p] 63)).drew := (El.bw_new w _).drew
  unfold El.E
  go_enter Tryz.func122, Tryz.ntmps122
  go_wp2_with fail
  refine wp_region_K (fun w' => El.St w' w.heap.size 2 a b s t p) 10 11 #[false, false, false, false, false, false, false, false, false, false, false] (by kernel_rfl) (by kernel_rfl) (by kernel_rfl) ?_
  generalize hW : (w.alloc (.cells #[.int .u8 2, .complex .f64 a b, .complex .f64 s t, .float .f64 p] 63)).drew = W at *
  generalize w.heap.size = B at *
  clear hW
  refine wpAnyK_take 0 5 (v := ?v0) rfl (by kernel_rfl) (by kernel_rfl) (by kernel_rfl) (by kernel_rfl) (by kernel_rfl) (fun _ _ _ h => h) rfl (Or.inl ⟨by rfl, ?h0⟩) (by assumption) ?r0
  case h0 => (intro w hSw; obtain ⟨_, h0, h1, h2, h3⟩ := hSw; go_simp; with_reducible rfl)
  simp only [Act.put, List.setIfInBounds_toArray, List.set_cons_zero, List.set_cons_succ]
  refine wpAnyK_take 3 8 (v := ?v3) rfl (by kernel_rfl) (by kernel_rfl) (by kernel_rfl) (by kernel_rfl) (by kernel_rfl) (fun _ _ _ h => h) rfl (Or.inl ⟨by rfl, ?h3⟩) (by assumption) ?r3
  case h3 => (intro w hSw; obtain ⟨_, h0, h1, h2, h3⟩ := hSw; go_simp; with_reducible rfl)
  simp only [Act.put, List.setIfInBounds_toArray, List.set_cons_zero, List.set_cons_succ]
  refine wpAnyK_take 4 9 (v := ?v4) rfl (by kernel_rfl) (by kernel_rfl) (by kernel_rfl) (by kernel_rfl) (by kernel_rfl) (fun _ _ _ h => h) rfl (Or.inl ⟨by rfl, ?h4⟩) (by assumption) ?r4
  case h4 => (intro w hSw; obtain ⟨_, h0, h1, h2, h3⟩ := hSw; go_simp; with_reducible rfl)
  simp only [Act.put, List.setIfInBounds_toArray, List.set_cons_zero, List.set_cons_succ]
  refine wpAnyK_take 5 10 (v := ?v5) rfl (by kernel_rfl) (by kernel_rfl) (by kernel_rfl) (by kernel_rfl) (by kernel_rfl) (fun _ _ _ h => h) rfl (Or.inl ⟨by rfl, ?h5⟩) (by assumption) ?r5
  case h5 => (intro w hSw; obtain ⟨_, h0, h1, h2, h3⟩ := hSw; go_simp; with_reducible rfl)
  simp only [Act.put, List.setIfInBounds_toArray, List.set_cons_zero, List.set_cons_succ]
  refine wpAnyK_take 6 11 (v := ?v6) rfl (by kernel_rfl) (by kernel_rfl) (by kernel_rfl) (by kernel_rfl) (by kernel_rfl) (fun _ _ _ h => h) rfl (Or.inl ⟨by rfl, ?h6⟩) (by assumption) ?r6
  case h6 => (intro w hSw; obtain ⟨_, h0, h1, h2, h3⟩ := hSw; go_simp; with_reducible rfl)
  simp only [Act.put, List.setIfInBounds_toArray, List.set_cons_zero, List.set_cons_succ]
  refine wpAnyK_one 1 (by kernel_rfl) rfl (fun K hK => ?_)
  go_simp
  go_wp2_with (go_at_call 124; refine (spread_any a b s t p _).mono ?_; rintro e' w1 ⟨u, v, rfl, h1, l1, m1, b1⟩)
  have S1 := S0.bw b1
  have Q1 := El.hid h1
  clear h1
  refine hK.out _ _ (fun _ _ => S1) ?_
  clear hK K
  simp only [List.setIfInBounds_toArray, List.set_cons_zero, List.set_cons_succ]
  refine wpAnyK_one 2 (by kernel_rfl) rfl (fun K hK => ?_)
  go_simp
  go_wp2_with (go_at_call 125; refine (neg2_any u v _ l1 m1).mono ?_; rintro e' w9 ⟨rfl, hw9⟩; subst hw9)
  refine hK.out _ _ (fun _ _ => S1) ?_
  clear hK K
  simp only [List.setIfInBounds_toArray, List.set_cons_zero, List.set_cons_succ]
  refine wpAnyK_one 7 (by kernel_rfl) rfl (fun K hK => ?_)
  go_simp
  go_wp2_with (go_at_call 14; refine (hd.out _).mono ?_; rintro e' w9 ⟨rfl, hw9⟩; subst hw9)
  refine hK.out _ _ (fun _ _ => S1) ?_
  clear hK K
  simp only [List.setIfInBounds_toArray, List.set_cons_zero, List.set_cons_succ]
  refine wpAnyK_one 8 (by kernel_rfl) rfl (fun K hK => ?_)
  go_simp
  go_wp2_with (go_at_call 68; refine (zwhole_any dx dy 2 _ (by decide) hx hy).mono ?_; rintro e' w2 ⟨u2, v2, rfl, h2, l2, m2, b2⟩)
  have S2 := S1.bw b2
  have Q2 := El.hid h2
  clear h2
  refine hK.out _ _ (fun _ _ => S2) ?_
  clear hK K
  simp only [List.setIfInBounds_toArray, List.set_cons_zero, List.set_cons_succ]
  refine wpAnyK_one 9 (by kernel_rfl) rfl (fun K hK => ?_)
  go_simp
  go_wp2_with (go_at_call 71; refine (zdiv_any (Fl.ng u) (Fl.ng v) u2 v2 _ l2 m2).mono ?_; rintro e' w3 ⟨u3, v3, rfl, h3, l3, m3, b3⟩)
  have S3 := S2.bw b3
  have Q3 := El.hid h3
  clear h3
  refine hK.out _ _ (fun _ _ => S3) ?_
  clear hK K
  simp only [List.setIfInBounds_toArray, List.set_cons_zero, List.set_cons_succ]
  refine wpAnyK_one 10 (by kernel_rfl) rfl (fun K hK => ?_)
  go_simp
  refine hK.out _ _ (fun h => absurd rfl h) ?_
  clear hK K
  simp only [List.setIfInBounds_toArray, List.set_cons_zero, List.set_cons_succ]
  refine wpAnyK_done (by kernel_rfl) ?_ _
  go_wp2
  go_ret
  refine ⟨u3, v3, rfl, ?_, l3, m3, bw_trans (bw_trans (bw_trans G b1) b2) b3⟩
  have q1 := Q1.out
  rw [Q3.out, Q2.out, ← q1]
  unfold El.zneg El.c2
  simp only
  rw [El.zng_c l1, El.zng_c m1]
end Go.Proofs.YtgljnklaabbidaaGreat
/-
  OWN TEXT: package element: what the methods of doublets and corners return, as functions of one row of bits a part.
-/
namespace Go.Proofs.YtgljnklaabbidaaGreat
open Go.ChangeShapes Go.WideShapes Go.ChangeAt Go.RowKit
set_option linter.unusedVariables false
attribute [local go_sem] frombits_call tobits_call run_neg El.run_store_cx El.run_store_fl
theorem El.conv_run {b : Nat} {n : Int} (h : floatToIntVal .f64 b .i64 = some n) (w : World) : (convert 25 3 (.float .f64 b)).run Tryz.prog w = .ok (.int .i64 n) w :=
  run_convert_float_int (P := Tryz.prog) w 25 3 .f64 .i64 b n (by kernel_rfl) (by kernel_rfl) h
theorem El.toN_of {p n : Nat} (h : floatToIntVal .f64 p .i64 = some (n : Int)) : El.toN p = n := by
  unfold El.toN
  rw [h]
  simp
theorem El.ar {op : BinOp} {a b x : Nat} (e : floatBits op .f64 a b = some x) (t : TypeId) (w : World) : (binOp op t (.float .f64 a) (.float .f64 b)).run Tryz.prog w = .ok (.float .f64 x) w := run_float_arith (P := Tryz.prog) w op t .f64 _ _ _ e
set_option maxHeartbeats 16000000 in
theorem dterm_any (a b s t p x y dx dy times more n : Nat) (w : World) (hd : Hid (∀ wz, Calls Tryz.prog 14 #[.complex .f64 x y, .complex .f64 a b] wz fun e w' => e = .returned (.complex .f64 dx dy) ∧ w' = wz)) (hx : dx < 18446744073709551616) (hy : dy < 18446744073709551616) (hn : floatToIntVal .f64 p .i64 = some (n : Int)) (h8 : n ≤ 8) (hm : more ≤ 2) : Calls Tryz.prog 130 #[El.E 3 a b s t p, .complex .f64 x y, .float .f64 times, .int .i64 (more : Int)] w fun e w' => ∃ u v, e = .returned (.complex .f64 u v) ∧ El.c2 u v = El.dterm s t p dx dy times more ∧ u < 18446744073709551616 ∧ v < 18446744073709551616 ∧ Bw w w' := by
  have S0 := (El.St.new w 3 a b s t p 64).bw (Bw.refl _).drew
  have G : Bw w (w.alloc (.cells #[.int .u8 3, .complex .f64 a b, .complex .f64 s t, .float .f64 p] 64)).drew := (El.bw_new w _).drew
  have CV := El.conv_run hn
  have TN := El.hid (El.toN_of hn)
  obtain ⟨km, hkm⟩ : ∃ km, km = n + more := ⟨_, rfl⟩
  have K1 : (n : Int) + (more : Int) = (km : Int) := by omega
  have K2 : IntKind.i64.wrap (km : Int) = (km : Int) := by simp [IntKind.wrap, IntKind.bits, IntKind.signed]; omega
  have K3 := El.hid (show km ≤ 10 by omega)
  have K4 := El.hid hkm
  clear hn h8 hm hkm
  unfold El.E
  go_enter Tryz.func130, Tryz.ntmps130
  go_wp2_with fail
  refine (hd.out _).mono ?_
  rintro e' w9 ⟨rfl, hw9⟩
  subst hw9
  go_wp2_with fail
  refine wp_region_K (fun w' => El.St w' w.heap.size 3 a b s t p) 14 15 #[false, false, false, false, false, false, false, false, false, false, false, false, false, false, false] (by kernel_rfl) (by kernel_rfl) (by kernel_rfl) ?_
  generalize hW : (w.alloc (.cells #[.int .u8 3, .complex .f64 a b, .complex .f64 s t, .float .f64 p] 64)).drew = W at *
  generalize w.heap.size = B at *
  clear hW
  refine wpAnyK_take 0 15 (v := ?v0) rfl (by kernel_rfl) (by kernel_rfl) (by kernel_rfl) (by kernel_rfl) (by kernel_rfl) (fun _ _ _ h => h) rfl (Or.inl ⟨by rfl, ?h0⟩) (by assumption) ?r0
  case h0 => (intro w hSw; obtain ⟨_, h0, h1, h2, h3⟩ := hSw; go_simp; with_reducible rfl)
  simp only [Act.put, List.setIfInBounds_toArray, List.set_cons_zero, List.set_cons_succ]
  refine wpAnyK_take 1 16 (v := ?v1) rfl (by kernel_rfl) (by kernel_rfl) (by kernel_rfl) (by kernel_rfl) (by kernel_rfl) (fun _ _ _ h => h) rfl (Or.inl ⟨by rfl, ?h1⟩) (by assumption) ?r1
  case h1 => (intro w hSw; obtain ⟨_, h0, h1, h2, h3⟩ := hSw; go_simp; with_reducible rfl)
  simp only [Act.put, List.setIfInBounds_toArray, List.set_cons_zero, List.set_cons_succ]
  refine wpAnyK_take 2 17 (v := ?v2) rfl (by kernel_rfl) (by kernel_rfl) (by kernel_rfl) (by kernel_rfl) (by kernel_rfl) (fun _ _ _ h => h) rfl (Or.inl ⟨by rfl, ?h2⟩) (by assumption) ?r2
  case h2 => (intro w hSw; obtain ⟨_, h0, h1, h2, h3⟩ := hSw; go_simp; with_reducible rfl)
  simp only [Act.put, List.setIfInBounds_toArray, List.set_cons_zero, List.set_cons_succ]
  refine wpAnyK_take 3 18 (v := ?v3) rfl (by kernel_rfl) (by kernel_rfl) (by kernel_rfl) (by kernel_rfl) (by kernel_rfl) (fun _ _ _ h => h) rfl (Or.inl ⟨by rfl, ?h3⟩) (by assumption) ?r3
  case h3 => (intro w hSw; obtain ⟨_, h0, h1, h2, h3⟩ := hSw; go_simp; with_reducible rfl)
  simp only [Act.put, List.setIfInBounds_toArray, List.set_cons_zero, List.set_cons_succ]
  refine wpAnyK_take 5 20 (v := ?v5) rfl (by kernel_rfl) (by kernel_rfl) (by kernel_rfl) (by kernel_rfl) (by kernel_rfl) (fun _ _ _ h => h) rfl (Or.inl ⟨by rfl, ?h5⟩) (by assumption) ?r5
  case h5 => (intro w hSw; obtain ⟨_, h0, h1, h2, h3⟩ := hSw; go_simp; with_reducible rfl)
  simp only [Act.put, List.setIfInBounds_toArray, List.set_cons_zero, List.set_cons_succ]
  refine wpAnyK_take 6 21 (v := ?v6) rfl (by kernel_rfl) (by kernel_rfl) (by kernel_rfl) (by kernel_rfl) (by kernel_rfl) (fun _ _ _ h => h) rfl (Or.inl ⟨by rfl, ?h6⟩) (by assumption) ?r6
  case h6 => (intro w hSw; obtain ⟨_, h0, h1, h2, h3⟩ := hSw; go_simp; with_reducible rfl)
  simp only [Act.put, List.setIfInBounds_toArray, List.set_cons_zero, List.set_cons_succ]
  refine wpAnyK_take 7 22 (v := ?v7) rfl (by kernel_rfl) (by kernel_rfl) (by kernel_rfl) (by kernel_rfl) (by kernel_rfl) (fun _ _ _ h => h) rfl (Or.inl ⟨by rfl, ?h7⟩) (by assumption) ?r7
  case h7 => (intro w hSw; obtain ⟨_, h0, h1, h2, h3⟩ := hSw; go_simp; with_reducible rfl)
  simp only [Act.put, List.setIfInBounds_toArray, List.set_cons_zero, List.set_cons_succ]
  refine wpAnyK_take 8 23 (v := ?v8) rfl (by kernel_rfl) (by kernel_rfl) (by kernel_rfl) (by kernel_rfl) (by kernel_rfl) (fun _ _ _ h => h) rfl (Or.inl ⟨by rfl, ?h8⟩) (by assumption) ?r8
  case h8 => (intro w hSw; obtain ⟨_, h0, h1, h2, h3⟩ := hSw; go_simp; with_reducible rfl)
  simp only [Act.put, List.setIfInBounds_toArray, List.set_cons_zero, List.set_cons_succ]
  refine wpAnyK_take 9 24 (v := ?v9) rfl (by kernel_rfl) (by kernel_rfl) (by kernel_rfl) (by kernel_rfl) (by kernel_rfl) (fun _ _ _ h => h) rfl (Or.inl ⟨by rfl, ?h9⟩) (by assumption) ?r9
  case h9 => (intro w hSw; obtain ⟨_, h0, h1, h2, h3⟩ := hSw; go_simp; with_reducible rfl)
  simp only [Act.put, List.setIfInBounds_toArray, List.set_cons_zero, List.set_cons_succ]
  refine wpAnyK_take 10 25 (v := ?v10) rfl (by kernel_rfl) (by kernel_rfl) (by kernel_rfl) (by kernel_rfl) (by kernel_rfl) (fun _ _ _ h => h) rfl (Or.inl ⟨by rfl, ?h10⟩) (by assumption) ?r10
  case h10 => (intro w hSw; obtain ⟨_, h0, h1, h2, h3⟩ := hSw; go_simp; with_reducible rfl)
  simp only [Act.put, List.setIfInBounds_toArray, List.set_cons_zero, List.set_cons_succ]
  refine wpAnyK_take 11 26 (v := ?v11) rfl (by kernel_rfl) (by kernel_rfl) (by kernel_rfl) (by kernel_rfl) (by kernel_rfl) (fun _ _ _ h => h) rfl (Or.inl ⟨by rfl, ?h11⟩) (by assumption) ?r11
  case h11 => (intro w hSw; obtain ⟨_, h0, h1, h2, h3⟩ := hSw; go_simp; with_reducible rfl)
  simp only [Act.put, List.setIfInBounds_toArray, List.set_cons_zero, List.set_cons_succ]
  refine wpAnyK_one 4 (by kernel_rfl) rfl (fun K hK => ?_)
  go_simp
  go_wp2_with (go_at_call 66; refine (zscale_any s t times _).mono ?_; rintro e' w1 ⟨u, v, rfl, h1, l1, m1, b1⟩)
  have S1 := S0.bw b1
  have Q1 := El.hid h1
  clear h1
  refine hK.out _ _ (fun _ _ => S1) ?_
  clear hK K
  simp only [List.setIfInBounds_toArray, List.set_cons_zero, List.set_cons_succ]
  refine wpAnyK_one 12 (by kernel_rfl) rfl (fun K hK => ?_)
  go_simp
  go_wp2_with (go_at_call 68; refine (zwhole_any dx dy km _ K3.out hx hy).mono ?_; rintro e' w2 ⟨u2, v2, rfl, h2, l2, m2, b2⟩)
  have S2 := S1.bw b2
  have Q2 := El.hid h2
  clear h2
  refine hK.out _ _ (fun _ _ => S2) ?_
  clear hK K
  simp only [List.setIfInBounds_toArray, List.set_cons_zero, List.set_cons_succ]
  refine wpAnyK_one 13 (by kernel_rfl) rfl (fun K hK => ?_)
  go_simp
  go_wp2_with (go_at_call 71; refine (zdiv_any u v u2 v2 _ l2 m2).mono ?_; rintro e' w3 ⟨u3, v3, rfl, h3, l3, m3, b3⟩)
  have S3 := S2.bw b3
  have Q3 := El.hid h3
  clear h3
  refine hK.out _ _ (fun _ _ => S3) ?_
  clear hK K
  simp only [List.setIfInBounds_toArray, List.set_cons_zero, List.set_cons_succ]
  refine wpAnyK_one 14 (by kernel_rfl) rfl (fun K hK => ?_)
  go_simp
  refine hK.out _ _ (fun h => absurd rfl h) ?_
  clear hK K
  simp only [List.setIfInBounds_toArray, List.set_cons_zero, List.set_cons_succ]
  refine wpAnyK_done (by kernel_rfl) ?_ _
  go_wp2
  go_ret
  refine ⟨u3, v3, rfl, ?_, l3, m3, bw_trans (bw_trans (bw_trans G b1) b2) b3⟩
  unfold El.dterm
  rw [Q3.out, Q2.out, Q1.out, TN.out, ← K4.out]
set_option maxHeartbeats 8000000 in
theorem pot3 (a b s t p x y dx dy n : Nat) (w : World) (hd : Hid (∀ wz, Calls Tryz.prog 14 #[.complex .f64 x y, .complex .f64 a b] wz fun e w' => e = .returned (.complex .f64 dx dy) ∧ w' = wz)) (hx : dx < 18446744073709551616) (hy : dy < 18446744073709551616) (hn : floatToIntVal .f64 p .i64 = some (n : Int)) (h8 : n ≤ 8) : Calls Tryz.prog 127 #[El.E 3 a b s t p, .complex .f64 x y] w fun e w' => ∃ u v, e = .returned (.complex .f64 u v) ∧ El.c2 u v = El.dterm s t p dx dy 4607182418800017408 0 ∧ u < 18446744073709551616 ∧ v < 18446744073709551616 ∧ Bw w w' := by
  have G := El.bw_new w (.cells #[.int .u8 3, .complex .f64 a b, .complex .f64 s t, .float .f64 p] 64)
  have D := El.hid (fun times more w (hm : more ≤ 2) => dterm_any a b s t p x y dx dy times more n w hd hx hy hn h8 hm)
  clear hd hn h8
  unfold El.E at *
  go_enter Tryz.func127, Tryz.ntmps127
  go_wp2_with fail
  refine (D.out 4607182418800017408 0 _ (by decide)).mono ?_
  rintro e' w1 ⟨u, v, rfl, h, l, m, b1⟩
  have Q := El.hid h
  clear h
  go_wp2
  go_ret
  exact ⟨u, v, rfl, Q.out, l, m, bw_trans G b1⟩
set_option maxHeartbeats 8000000 in
theorem spd3 (a b s t p x y dx dy n : Nat) (w : World) (hd : Hid (∀ wz, Calls Tryz.prog 14 #[.complex .f64 x y, .complex .f64 a b] wz fun e w' => e = .returned (.complex .f64 dx dy) ∧ w' = wz)) (hx : dx < 18446744073709551616) (hy : dy < 18446744073709551616) (hn : floatToIntVal .f64 p .i64 = some (n : Int)) (h8 : n ≤ 8) : Calls Tryz.prog 129 #[El.E 3 a b s t p, .complex .f64 x y] w fun e w' => ∃ u v, e = .returned (.complex .f64 u v) ∧ El.c2 u v = El.dterm s t p dx dy (Op.negFloat .f64 p) 1 ∧ u < 18446744073709551616 ∧ v < 18446744073709551616 ∧ Bw w w' := by
  have G := El.bw_new w (.cells #[.int .u8 3, .complex .f64 a b, .complex .f64 s t, .float .f64 p] 64)
  have D := El.hid (fun times more w (hm : more ≤ 2) => dterm_any a b s t p x y dx dy times more n w hd hx hy hn h8 hm)
  clear hd hn h8
  unfold El.E at *
  go_enter Tryz.func129, Tryz.ntmps129
  go_wp2_with fail
  refine (D.out (Op.negFloat .f64 p) 1 _ (by decide)).mono ?_
  rintro e' w1 ⟨u, v, rfl, h, l, m, b1⟩
  have Q := El.hid h
  clear h
  go_wp2
  go_ret
  exact ⟨u, v, rfl, Q.out, l, m, bw_trans G b1⟩
set_option maxHeartbeats 8000000 in
theorem slo3 (a b s t p x y dx dy n : Nat) (w : World) (hd : Hid (∀ wz, Calls Tryz.prog 14 #[.complex .f64 x y, .complex .f64 a b] wz fun e w' => e = .returned (.complex .f64 dx dy) ∧ w' = wz)) (hx : dx < 18446744073709551616) (hy : dy < 18446744073709551616) (hn : floatToIntVal .f64 p .i64 = some (n : Int)) (h8 : n ≤ 8) {p1 pm : Nat} (h1 : floatBits .add .f64 p 4607182418800017408 = some p1) (h2 : floatBits .mul .f64 p p1 = some pm) : Calls Tryz.prog 128 #[El.E 3 a b s t p, .complex .f64 x y] w fun e w' => ∃ u v, e = .returned (.complex .f64 u v) ∧ El.c2 u v = El.dterm s t p dx dy pm 2 ∧ u < 18446744073709551616 ∧ v < 18446744073709551616 ∧ Bw w w' := by
  have G := El.bw_new w (.cells #[.int .u8 3, .complex .f64 a b, .complex .f64 s t, .float .f64 p] 64)
  have D := El.hid (fun times more w (hm : more ≤ 2) => dterm_any a b s t p x y dx dy times more n w hd hx hy hn h8 hm)
  have e1 := El.ar h1
  have e2 := El.ar h2
  clear h1 h2
  clear hd hn h8
  unfold El.E at *
  go_enter Tryz.func128, Tryz.ntmps128
  go_wp2_with fail
  refine (D.out pm 2 _ (by decide)).mono ?_
  rintro e' w1 ⟨u, v, rfl, h, l, m, b1⟩
  have Q := El.hid h
  clear h
  go_wp2
  go_ret
  exact ⟨u, v, rfl, Q.out, l, m, bw_trans G b1⟩
set_option maxHeartbeats 8000000 in
theorem ctermW (a b s t p x y dx dy times q n : Nat) (w : World) (hd : Hid (∀ wz, Calls Tryz.prog 14 #[.complex .f64 x y, .complex .f64 a b] wz fun e w' => e = .returned (.complex .f64 dx dy) ∧ w' = wz)) (hx : dx < 18446744073709551616) (hy : dy < 18446744073709551616) (hp : p < 18446744073709551616) (np : Fl.nan p = false) (hw : El.wh p = true) (hn : floatToIntVal .f64 q .i64 = some (n : Int)) (h8 : n ≤ 10) : Calls Tryz.prog 65 #[El.E 4 a b s t p, .complex .f64 x y, .float .f64 times, .float .f64 q] w fun e w' => ∃ u v, e = .returned (.complex .f64 u v) ∧ El.c2 u v = El.cterm s t p dx dy times q ∧ u < 18446744073709551616 ∧ v < 18446744073709551616 ∧ Bw w w' := by
  have S0 := El.St.new w 4 a b s t p 61
  have G := El.bw_new w (.cells #[.int .u8 4, .complex .f64 a b, .complex .f64 s t, .float .f64 p] 61)
  have A1 := El.hid (fun wz => ewhole_any p wz hp np)
  rw [hw] at A1
  have CV := El.conv_run hn
  have HV : Hid (∀ z, El.zmul (El.zscale (El.c2 s t) (Fl.bitsF times)) (El.zpow (El.c2 dx dy) n) = z → z = El.cterm s t p dx dy times q) := by
    intro z hz
    unfold El.cterm
    rw [if_pos hw, El.toN_of hn]
    exact hz.symm
  have K := El.hid h8
  clear hn h8 hw np
  unfold El.E
  go_enter Tryz.func65, Tryz.ntmps65
  go_wp2_with fail
  refine (hd.out _).mono ?_
  rintro e' w9 ⟨rfl, hw9⟩
  subst hw9
  go_wp2_with fail
  refine (zscale_any s t times _).mono ?_
  rintro e' w1 ⟨u, v, rfl, h1, l1, m1, b1⟩
  have Q1 := El.hid h1
  replace G := bw_trans G b1
  obtain ⟨_, c0, c1, c2, c3⟩ := S0.bw b1
  clear h1 S0 b1
  go_wp2_with fail
  refine (A1.out _).mono ?_
  rintro e' w9 ⟨rfl, hw9⟩
  subst hw9
  go_wp2_with fail
  refine (zwhole_any dx dy n _ K.out hx hy).mono ?_
  rintro e' w2 ⟨u2, v2, rfl, h2, l2, m2, b2⟩
  have Q2 := El.hid h2
  replace G := bw_trans G b2
  clear h2 b2 c0 c1 c2 c3
  go_wp2_with fail
  refine (zmul_any u v u2 v2 _).mono ?_
  rintro e' w3 ⟨u3, v3, rfl, h3, l3, m3, b3⟩
  have Q3 := El.hid h3
  replace G := bw_trans G b3
  clear h3 b3
  go_wp2
  go_ret
  refine ⟨u3, v3, rfl, HV.out _ ?_, l3, m3, G⟩
  rw [Q3.out, Q1.out, Q2.out]
set_option maxHeartbeats 8000000 in
theorem ctermB (a b s t p x y dx dy times q : Nat) (w : World) (hd : Hid (∀ wz, Calls Tryz.prog 14 #[.complex .f64 x y, .complex .f64 a b] wz fun e w' => e = .returned (.complex .f64 dx dy) ∧ w' = wz)) (hx : dx < 18446744073709551616) (hy : dy < 18446744073709551616) (nx : Fl.nan dx = false) (ny : Fl.nan dy = false) (hp : p < 18446744073709551616) (np : Fl.nan p = false) (hw : El.wh p = false) : Calls Tryz.prog 65 #[El.E 4 a b s t p, .complex .f64 x y, .float .f64 times, .float .f64 q] w fun e w' => ∃ u v, e = .returned (.complex .f64 u v) ∧ El.c2 u v = El.cterm s t p dx dy times q ∧ u < 18446744073709551616 ∧ v < 18446744073709551616 ∧ Bw w w' := by
  have S0 := El.St.new w 4 a b s t p 61
  have G := El.bw_new w (.cells #[.int .u8 4, .complex .f64 a b, .complex .f64 s t, .float .f64 p] 61)
  have A1 := El.hid (fun wz => ewhole_any p wz hp np)
  rw [hw] at A1
  have A2 := El.hid (fun wz => enought_any dx dy wz hx hy nx ny)
  have o := Fl.o_gt q 0
  have HV : Hid (El.cterm s t p dx dy times q = if (Fl.eqF dx 0 && Fl.eqF dy 0 && Fl.ltF 0 q) = true then (0, 0) else El.zmul (El.zscale (El.c2 s t) (Fl.bitsF times)) (El.zreal dx dy q)) := by
    show El.cterm s t p dx dy times q = _
    unfold El.cterm
    rw [if_neg (by rw [hw]; decide)]
  clear hw np nx ny
  generalize (Fl.eqF dx 0 && Fl.eqF dy 0) = A at *
  generalize Fl.ltF 0 q = B at *
  unfold El.E
  cases A <;> cases B
  · go_enter Tryz.func65, Tryz.ntmps65
    go_wp2_with fail
    refine (hd.out _).mono ?_
    rintro e' w9 ⟨rfl, hw9⟩
    subst hw9
    go_wp2_with fail
    refine (zscale_any s t times _).mono ?_
    rintro e' w1 ⟨u, v, rfl, h1, l1, m1, b1⟩
    have Q1 := El.hid h1
    replace G := bw_trans G b1
    obtain ⟨_, c0, c1, c2, c3⟩ := S0.bw b1
    clear h1 S0 b1
    go_wp2_with fail
    refine (A1.out _).mono ?_
    rintro e' w9 ⟨rfl, hw9⟩
    subst hw9
    go_wp2_with fail
    refine (A2.out _).mono ?_
    rintro e' w9 ⟨rfl, hw9⟩
    subst hw9
    go_wp2_with fail
    refine (zreal_any dx dy q _ hx hy).mono ?_
    rintro e' w2 ⟨u2, v2, rfl, h2, b2⟩
    have Q2 := El.hid h2
    replace G := bw_trans G b2
    clear h2 b2 c0 c1 c2 c3
    go_wp2_with fail
    refine (zmul_any u v u2 v2 _).mono ?_
    rintro e' w3 ⟨u3, v3, rfl, h3, l3, m3, b3⟩
    have Q3 := El.hid h3
    replace G := bw_trans G b3
    clear h3 b3
    go_wp2
    go_ret
    refine ⟨u3, v3, rfl, ?_, l3, m3, G⟩
    rw [HV.out, Q3.out, Q1.out, Q2.out]
    rfl
  
  · go_enter Tryz.func65, Tryz.ntmps65
    go_wp2_with fail
    refine (hd.out _).mono ?_
    rintro e' w9 ⟨rfl, hw9⟩
    subst hw9
    go_wp2_with fail
    refine (zscale_any s t times _).mono ?_
    rintro e' w1 ⟨u, v, rfl, h1, l1, m1, b1⟩
    have Q1 := El.hid h1
    replace G := bw_trans G b1
    obtain ⟨_, c0, c1, c2, c3⟩ := S0.bw b1
    clear h1 S0 b1
    go_wp2_with fail
    refine (A1.out _).mono ?_
    rintro e' w9 ⟨rfl, hw9⟩
    subst hw9
    go_wp2_with fail
    refine (A2.out _).mono ?_
    rintro e' w9 ⟨rfl, hw9⟩
    subst hw9
    go_wp2_with fail
    refine (zreal_any dx dy q _ hx hy).mono ?_
    rintro e' w2 ⟨u2, v2, rfl, h2, b2⟩
    have Q2 := El.hid h2
    replace G := bw_trans G b2
    clear h2 b2 c0 c1 c2 c3
    go_wp2_with fail
    refine (zmul_any u v u2 v2 _).mono ?_
    rintro e' w3 ⟨u3, v3, rfl, h3, l3, m3, b3⟩
    have Q3 := El.hid h3
    replace G := bw_trans G b3
    clear h3 b3
    go_wp2
    go_ret
    refine ⟨u3, v3, rfl, ?_, l3, m3, G⟩
    rw [HV.out, Q3.out, Q1.out, Q2.out]
    rfl
  
  · go_enter Tryz.func65, Tryz.ntmps65
    go_wp2_with fail
    refine (hd.out _).mono ?_
    rintro e' w9 ⟨rfl, hw9⟩
    subst hw9
    go_wp2_with fail
    refine (zscale_any s t times _).mono ?_
    rintro e' w1 ⟨u, v, rfl, h1, l1, m1, b1⟩
    have Q1 := El.hid h1
    replace G := bw_trans G b1
    obtain ⟨_, c0, c1, c2, c3⟩ := S0.bw b1
    clear h1 S0 b1
    go_wp2_with fail
    refine (A1.out _).mono ?_
    rintro e' w9 ⟨rfl, hw9⟩
    subst hw9
    go_wp2_with fail
    refine (A2.out _).mono ?_
    rintro e' w9 ⟨rfl, hw9⟩
    subst hw9
    go_wp2_with fail
    refine (zreal_any dx dy q _ hx hy).mono ?_
    rintro e' w2 ⟨u2, v2, rfl, h2, b2⟩
    have Q2 := El.hid h2
    replace G := bw_trans G b2
    clear h2 b2 c0 c1 c2 c3
    go_wp2_with fail
    refine (zmul_any u v u2 v2 _).mono ?_
    rintro e' w3 ⟨u3, v3, rfl, h3, l3, m3, b3⟩
    have Q3 := El.hid h3
    replace G := bw_trans G b3
    clear h3 b3
    go_wp2
    go_ret
    refine ⟨u3, v3, rfl, ?_, l3, m3, G⟩
    rw [HV.out, Q3.out, Q1.out, Q2.out]
    rfl
  
  · go_enter Tryz.func65, Tryz.ntmps65
    go_wp2_with fail
    refine (hd.out _).mono ?_
    rintro e' w9 ⟨rfl, hw9⟩
    subst hw9
    go_wp2_with fail
    refine (zscale_any s t times _).mono ?_
    rintro e' w1 ⟨u, v, rfl, h1, l1, m1, b1⟩
    have Q1 := El.hid h1
    replace G := bw_trans G b1
    obtain ⟨_, c0, c1, c2, c3⟩ := S0.bw b1
    clear h1 S0 b1
    go_wp2_with fail
    refine (A1.out _).mono ?_
    rintro e' w9 ⟨rfl, hw9⟩
    subst hw9
    go_wp2_with fail
    refine (A2.out _).mono ?_
    rintro e' w9 ⟨rfl, hw9⟩
    subst hw9
    go_wp2
    go_ret
    exact ⟨0, 0, rfl, by rw [HV.out]; rfl, by decide, by decide, G⟩
set_option maxHeartbeats 8000000 in
theorem pot4 (a b s t p x y dx dy : Nat) (w : World) (D : Hid (∀ w, Calls Tryz.prog 65 #[El.E 4 a b s t p, .complex .f64 x y, .float .f64 4607182418800017408, .float .f64 p] w fun e w' => ∃ u v, e = .returned (.complex .f64 u v) ∧ El.c2 u v = El.cterm s t p dx dy 4607182418800017408 p ∧ u < 18446744073709551616 ∧ v < 18446744073709551616 ∧ Bw w w')) : Calls Tryz.prog 62 #[El.E 4 a b s t p, .complex .f64 x y] w fun e w' => ∃ u v, e = .returned (.complex .f64 u v) ∧ El.c2 u v = El.cterm s t p dx dy 4607182418800017408 p ∧ u < 18446744073709551616 ∧ v < 18446744073709551616 ∧ Bw w w' := by
  have G := El.bw_new w (.cells #[.int .u8 4, .complex .f64 a b, .complex .f64 s t, .float .f64 p] 61)
  unfold El.E at *
  go_enter Tryz.func62, Tryz.ntmps62
  go_wp2_with fail
  refine (D.out _).mono ?_
  rintro e' w1 ⟨u, v, rfl, h, l, m, b1⟩
  have Q := El.hid h
  clear h
  go_wp2
  go_ret
  exact ⟨u, v, rfl, Q.out, l, m, bw_trans G b1⟩
set_option maxHeartbeats 8000000 in
theorem spd4 (a b s t p x y dx dy : Nat) (w : World) {p1 : Nat} (h1 : floatBits .sub .f64 p 4607182418800017408 = some p1) (D : Hid (∀ w, Calls Tryz.prog 65 #[El.E 4 a b s t p, .complex .f64 x y, .float .f64 p, .float .f64 p1] w fun e w' => ∃ u v, e = .returned (.complex .f64 u v) ∧ El.c2 u v = El.cterm s t p dx dy p p1 ∧ u < 18446744073709551616 ∧ v < 18446744073709551616 ∧ Bw w w')) : Calls Tryz.prog 64 #[El.E 4 a b s t p, .complex .f64 x y] w fun e w' => ∃ u v, e = .returned (.complex .f64 u v) ∧ El.c2 u v = El.cterm s t p dx dy p p1 ∧ u < 18446744073709551616 ∧ v < 18446744073709551616 ∧ Bw w w' := by
  have G := El.bw_new w (.cells #[.int .u8 4, .complex .f64 a b, .complex .f64 s t, .float .f64 p] 61)
  have e1 := El.ar h1
  clear h1
  unfold El.E at *
  go_enter Tryz.func64, Tryz.ntmps64
  go_wp2_with fail
  refine (D.out _).mono ?_
  rintro e' w1 ⟨u, v, rfl, h, l, m, b1⟩
  have Q := El.hid h
  clear h
  go_wp2
  go_ret
  exact ⟨u, v, rfl, Q.out, l, m, bw_trans G b1⟩
set_option maxHeartbeats 8000000 in
theorem slo4 (a b s t p x y dx dy : Nat) (w : World) {p1 p2 pm : Nat} (h0 : Fl.eqF p 4607182418800017408 = false) (h1 : floatBits .sub .f64 p 4607182418800017408 = some p1) (h2 : floatBits .sub .f64 p 4611686018427387904 = some p2) (h3 : floatBits .mul .f64 p p1 = some pm) (D : Hid (∀ w, Calls Tryz.prog 65 #[El.E 4 a b s t p, .complex .f64 x y, .float .f64 pm, .float .f64 p2] w fun e w' => ∃ u v, e = .returned (.complex .f64 u v) ∧ El.c2 u v = El.cterm s t p dx dy pm p2 ∧ u < 18446744073709551616 ∧ v < 18446744073709551616 ∧ Bw w w')) : Calls Tryz.prog 63 #[El.E 4 a b s t p, .complex .f64 x y] w fun e w' => ∃ u v, e = .returned (.complex .f64 u v) ∧ El.c2 u v = El.cterm s t p dx dy pm p2 ∧ u < 18446744073709551616 ∧ v < 18446744073709551616 ∧ Bw w w' := by
  have G := El.bw_new w (.cells #[.int .u8 4, .complex .f64 a b, .complex .f64 s t, .float .f64 p] 61)
  have e1 := El.ar h1
  have e2 := El.ar h2
  have e3 := El.ar h3
  have o := Fl.o_eq p 4607182418800017408
  rw [h0] at o
  clear h0 h1 h2 h3
  unfold El.E at *
  go_enter Tryz.func63, Tryz.ntmps63
  go_wp2_with fail
  refine (D.out _).mono ?_
  rintro e' w1 ⟨u, v, rfl, h, l, m, b1⟩
  have Q := El.hid h
  clear h
  go_wp2
  go_ret
  exact ⟨u, v, rfl, Q.out, l, m, bw_trans G b1⟩
theorem slo4one (a b s t p x y : Nat) (w : World) (h0 : Fl.eqF p 4607182418800017408 = true) : Calls Tryz.prog 63 #[El.E 4 a b s t p, .complex .f64 x y] w fun e w' => e = .returned (.complex .f64 0 0) ∧ Bw w w' := by
  have G := El.bw_new w (.cells #[.int .u8 4, .complex .f64 a b, .complex .f64 s t, .float .f64 p] 61)
  have o := Fl.o_eq p 4607182418800017408
  rw [h0] at o
  clear h0
  unfold El.E at *
  go_enter Tryz.func63, Tryz.ntmps63
  go_wp2
  go_ret
  exact ⟨rfl, G⟩
end Go.Proofs.YtgljnklaabbidaaGreat
