/-
 OWN TEXT: package solve, of floats: the pivot's row is taken from another.
-/
import Derived.Test.YtjfkdmddfeeheaaJSvBToSvF
import Derived.Test.YtjfkdmddfeeheaaJBhL
namespace Go.Proofs.Ytjfkdmddfeeheaa
open Go.ChangeShapes Go.WideShapes Go.ChangeAt Go.RowKit
set_option linter.unusedVariables false
attribute [local go_sem] frombits_call tobits_call run_neg

theorem stof14 {P : Program} {w : World} {a : Addr} {m : Mode} (k : FloatKind) (x : Nat) : (store a (.float k x) m).run P w = stored P w a (.float k x) m := run_store P w a _ m rfl
attribute [local go_sem] stof14
set_option maxHeartbeats 4000000 in
theorem takeAway14 {w : World} {base B1 B2 k L D : Nat} {F G : Nat → Nat} (h1 : Sv.Rw w base B1 (k + L + 1) (k + D + 2) F) (h2 : Sv.Rw w base B2 (k + L + 1) (k + D + 2) G) (hne : B1 ≠ B2) (hk : k + L < 100000) (hD : L ≤ D + 1) :
  Calls Try.prog 76 #[(.agg #[.func (.func 70) #[] #[], .func (.func 71) #[] #[], .func (.func 31) #[] #[], .func (.func 72) #[] #[], .func (.func 73) #[] #[]]), .slice (some ⟨B1, k, none⟩) (L + 1) (D + 2), .slice (some ⟨B2, k, none⟩) (L + 1) (D + 2)] w fun e w' => e = .returned (.tuple #[]) ∧ Sv.Rw w' base B1 (k + L + 1) (k + D + 2) (fun j => if k < j then Sv.op .sub (F j) (Sv.op .mul (Sv.op .quo (F k) (G k)) (G j)) else F j) ∧ w.grownBy w' (some B1) := by
 have b0 := Sv.bw_new w (.cells #[.func (.func 70) #[] #[], .func (.func 71) #[] #[], .func (.func 31) #[] #[], .func (.func 72) #[] #[], .func (.func 73) #[] #[]] 73)
 have HX := Sv.hid (Sv.Bx.made w)
 obtain ⟨x, e1, hx, q1⟩ := (h1.bw b0).cell (j := k) (by omega)
 obtain ⟨y, e2, hy, q2⟩ := (h2.bw b0).cell (j := k) (by omega)
 have H1 := Sv.hid (h1.bw b0)
 have H2 := Sv.hid (h2.bw b0)
 have l1 := h1.lt
 have l2 := h2.lt
 have HC : Hid (w.heap.size ≠ B1) := by show _ ≠ _; omega
 have hs : (w.alloc (.cells #[.func (.func 70) #[] #[], .func (.func 71) #[] #[], .func (.func 31) #[] #[], .func (.func 72) #[] #[], .func (.func 73) #[] #[]] 73)).heap.size = w.heap.size + 1 := by simp
 have LT : Hid (w.heap.size < (w.alloc (.cells #[.func (.func 70) #[] #[], .func (.func 71) #[] #[], .func (.func 31) #[] #[], .func (.func 72) #[] #[], .func (.func 73) #[] #[]] 73)).drew.heap.size ∧ B1 < (w.alloc (.cells #[.func (.func 70) #[] #[], .func (.func 71) #[] #[], .func (.func 31) #[] #[], .func (.func 72) #[] #[], .func (.func 73) #[] #[]] 73)).drew.heap.size ∧ B2 < (w.alloc (.cells #[.func (.func 70) #[] #[], .func (.func 71) #[] #[], .func (.func 31) #[] #[], .func (.func 72) #[] #[], .func (.func 73) #[] #[]] 73)).drew.heap.size) := by
  show w.heap.size < (w.alloc (.cells #[.func (.func 70) #[] #[], .func (.func 71) #[] #[], .func (.func 31) #[] #[], .func (.func 72) #[] #[], .func (.func 73) #[] #[]] 73)).heap.size ∧ B1 < (w.alloc (.cells #[.func (.func 70) #[] #[], .func (.func 71) #[] #[], .func (.func 31) #[] #[], .func (.func 72) #[] #[], .func (.func 73) #[] #[]] 73)).heap.size ∧ B2 < (w.alloc (.cells #[.func (.func 70) #[] #[], .func (.func 71) #[] #[], .func (.func 31) #[] #[], .func (.func 72) #[] #[], .func (.func 73) #[] #[]] 73)).heap.size
  omega
 have c1 := HX.out.2.2.1
 have GB := Sv.hid (Sv.gb_bw b0.drew (some B1))
 have S0 : (w.alloc (.cells #[.func (.func 70) #[] #[], .func (.func 71) #[] #[], .func (.func 31) #[] #[], .func (.func 72) #[] #[], .func (.func 73) #[] #[]] 73)).drew.cell? ⟨w.heap.size, 1, none⟩ = some (.func (.func 71) #[] #[]) ∧ (w.alloc (.cells #[.func (.func 70) #[] #[], .func (.func 71) #[] #[], .func (.func 31) #[] #[], .func (.func 72) #[] #[], .func (.func 73) #[] #[]] 73)).drew.cell? ⟨B1, k, none⟩ = some (.float .f64 x) ∧ (w.alloc (.cells #[.func (.func 70) #[] #[], .func (.func 71) #[] #[], .func (.func 31) #[] #[], .func (.func 72) #[] #[], .func (.func 73) #[] #[]] 73)).drew.cell? ⟨B2, k, none⟩ = some (.float .f64 y) := ⟨c1, e1, e2⟩
 clear h1 h2 b0 hs c1 l1 l2 e1 e2
 have HX2 : Hid (Sv.Bx (w.alloc (.cells #[.func (.func 70) #[] #[], .func (.func 71) #[] #[], .func (.func 31) #[] #[], .func (.func 72) #[] #[], .func (.func 73) #[] #[]] 73)).drew w.heap.size) := HX.out.bw (Bw.refl _).drew
 have H12 : Hid (Sv.Rw (w.alloc (.cells #[.func (.func 70) #[] #[], .func (.func 71) #[] #[], .func (.func 31) #[] #[], .func (.func 72) #[] #[], .func (.func 73) #[] #[]] 73)).drew base B1 (k + L + 1) (k + D + 2) F ∧ Sv.Rw (w.alloc (.cells #[.func (.func 70) #[] #[], .func (.func 71) #[] #[], .func (.func 31) #[] #[], .func (.func 72) #[] #[], .func (.func 73) #[] #[]] 73)).drew base B2 (k + L + 1) (k + D + 2) G) := ⟨H1.out.bw (Bw.refl _).drew, H2.out.bw (Bw.refl _).drew⟩
 clear HX H1 H2
 go_enter Try.func76, Try.ntmps76
 go_wp2_with fail
 refine wp_region_K (fun w' => w'.cell? ⟨w.heap.size, 1, none⟩ = some (.func (.func 71) #[] #[]) ∧ w'.cell? ⟨B1, k, none⟩ = some (.float .f64 x) ∧ w'.cell? ⟨B2, k, none⟩ = some (.float .f64 y)) 9 10 #[false, false, false, false, false, false, false, false, false, false] (by kernel_rfl) (by kernel_rfl) (by kernel_rfl) ?_
 generalize (w.alloc (.cells #[.func (.func 70) #[] #[], .func (.func 71) #[] #[], .func (.func 31) #[] #[], .func (.func 72) #[] #[], .func (.func 73) #[] #[]] 73)).drew = W at *
 generalize w.heap.size = C at HX2 LT HC S0 ⊢
 refine wpAnyK_take 0 8 (v := ?v0) rfl (by kernel_rfl) (by kernel_rfl) (by kernel_rfl) (by kernel_rfl) (by kernel_rfl) (fun _ _ _ h => h) rfl (Or.inl ⟨by rfl, ?h0⟩) (by assumption) ?r0
 case h0 => (intro w hSw; go_simp; with_reducible rfl)
 simp only [Act.put, List.setIfInBounds_toArray, List.set_cons_zero, List.set_cons_succ]
 refine wpAnyK_take 1 9 (v := ?v1) rfl (by kernel_rfl) (by kernel_rfl) (by kernel_rfl) (by kernel_rfl) (by kernel_rfl) (fun _ _ _ h => h) rfl (Or.inl ⟨by rfl, ?h1⟩) (by assumption) ?r1
 case h1 => (intro w hSw; go_simp; with_reducible rfl)
 simp only [Act.put, List.setIfInBounds_toArray, List.set_cons_zero, List.set_cons_succ]
 refine wpAnyK_take 2 10 (v := ?v2) rfl (by kernel_rfl) (by kernel_rfl) (by kernel_rfl) (by kernel_rfl) (by kernel_rfl) (fun _ _ _ h => h) rfl (Or.inl ⟨by rfl, ?h2⟩) (by assumption) ?r2
 case h2 => (intro w hSw; go_simp; with_reducible rfl)
 simp only [Act.put, List.setIfInBounds_toArray, List.set_cons_zero, List.set_cons_succ]
 refine wpAnyK_take 3 11 (v := ?v3) rfl (by kernel_rfl) (by kernel_rfl) (by kernel_rfl) (by kernel_rfl) (by kernel_rfl) (fun _ _ _ h => h) rfl (Or.inl ⟨by rfl, ?h3⟩) (by assumption) ?r3
 case h3 => (intro w hSw; go_simp; with_reducible rfl)
 simp only [Act.put, List.setIfInBounds_toArray, List.set_cons_zero, List.set_cons_succ]
 refine wpAnyK_take 4 12 (v := ?v4) rfl (by kernel_rfl) (by kernel_rfl) (by kernel_rfl) (by kernel_rfl) (by kernel_rfl) (fun _ _ _ h => h) rfl (Or.inl ⟨by rfl, ?h4⟩) (by assumption) ?r4
 case h4 => (intro w hSw; go_simp; with_reducible rfl)
 simp only [Act.put, List.setIfInBounds_toArray, List.set_cons_zero, List.set_cons_succ]
 refine wpAnyK_take 5 13 (v := ?v5) rfl (by kernel_rfl) (by kernel_rfl) (by kernel_rfl) (by kernel_rfl) (by kernel_rfl) (fun _ _ _ h => h) rfl (Or.inl ⟨by rfl, ?h5⟩) (by assumption) ?r5
 case h5 => (intro w hSw; go_simp; with_reducible rfl)
 simp only [Act.put, List.setIfInBounds_toArray, List.set_cons_zero, List.set_cons_succ]
 refine wpAnyK_take 6 14 (v := ?v6) rfl (by kernel_rfl) (by kernel_rfl) (by kernel_rfl) (by kernel_rfl) (by kernel_rfl) (fun _ _ _ h => h) rfl (Or.inl ⟨by rfl, ?h6⟩) (by assumption) ?r6
 case h6 => (intro w hSw; go_simp; with_reducible rfl)
 simp only [Act.put, List.setIfInBounds_toArray, List.set_cons_zero, List.set_cons_succ]
 refine wpAnyK_take 7 15 (v := ?v7) rfl (by kernel_rfl) (by kernel_rfl) (by kernel_rfl) (by kernel_rfl) (by kernel_rfl) (fun _ _ _ h => h) rfl (Or.inl ⟨by rfl, ?h7⟩) (by assumption) ?r7
 case h7 => (intro w hSw; go_simp; with_reducible rfl)
 simp only [Act.put, List.setIfInBounds_toArray, List.set_cons_zero, List.set_cons_succ]
 refine wpAnyK_one 8 (by kernel_rfl) rfl (fun K hK => ?_)
 go_simp
 go_wp2_with (go_at_call 71; refine (over14 _ _ _).mono ?_; rintro e' w7 ⟨f, rfl, hf, b7⟩)
 have S7 : w7.cell? ⟨C, 1, none⟩ = some (.func (.func 71) #[] #[]) ∧ w7.cell? ⟨B1, k, none⟩ = some (.float .f64 x) ∧ w7.cell? ⟨B2, k, none⟩ = some (.float .f64 y) := ⟨(Below.cell b7 (p := ⟨C, 1, none⟩) LT.out.1).trans S0.1, (Below.cell b7 (p := ⟨B1, k, none⟩) LT.out.2.1).trans S0.2.1, (Below.cell b7 (p := ⟨B2, k, none⟩) LT.out.2.2).trans S0.2.2⟩
 refine hK.out _ _ (fun _ _ => S7) ?_
 clear hK K
 simp only [List.setIfInBounds_toArray, List.set_cons_zero, List.set_cons_succ]
 refine wpAnyK_one 9 (by kernel_rfl) rfl (fun K hK => ?_)
 go_simp
 refine hK.out _ _ (fun h => absurd rfl h) ?_
 clear hK K
 simp only [List.setIfInBounds_toArray, List.set_cons_zero, List.set_cons_succ]
 refine wpAnyK_done (by kernel_rfl) ?_ _
 replace H12 := Sv.hid (And.intro (H12.out.1.bw b7) (H12.out.2.bw b7))
 replace HX2 := Sv.hid (HX2.out.bw b7)
 replace GB := Sv.hid (GB.out.trans (Sv.gb_bw b7 _))
 have HFF := Sv.hid hf
 have Q12 := Sv.hid (And.intro q1 q2)
 clear S0 S7 b7 hf q1 q2 LT hx hy
 clear W
 go_wp2
 go_loopw [20] (fun i wr => ∃ t : Nat, t ≤ L ∧ i = .int .i64 t ∧ Sv.Rw wr base B1 (k + L + 1) (k + D + 2) (fun j => if k < j ∧ j ≤ k + t then Sv.op .sub (F j) (Sv.op .mul (Sv.op .quo (F k) (G k)) (G j)) else F j) ∧ Sv.Rw wr base B2 (k + L + 1) (k + D + 2) G ∧ Sv.Bx wr C ∧ w.grownBy wr (some B1)) (fun i _ => L - (intOf i).toNat)
 case atStart => exact ⟨0, Nat.zero_le _, rfl, H12.out.1.ext (fun j hj => by rw [if_neg (by omega)]), H12.out.2, HX2.out, GB.out⟩
 case round =>
  clear H12 HX2 GB
  obtain ⟨t, ht, rfl, h1, h2, hb, hg⟩ := hrel
  by_cases ht1 : t < L
  ·
   have ht2 : (t : Int) < L := by omega
   obtain ⟨j1, hj1⟩ : ∃ j1, j1 = t + 1 := ⟨_, rfl⟩
   have hs : (t : Int) + 1 = (j1 : Int) := by omega
   have hin : (j1 : Int) < (L : Int) + 1 := by omega
   obtain ⟨x, e1, hx, q1⟩ := h1.cell (j := k + j1) (by omega)
   obtain ⟨y, e2, hy, q2⟩ := h2.cell (j := k + j1) (by omega)
   rw [if_neg (by omega)] at q1
   have LT : Hid (C < wr.drew.heap.size ∧ B1 < wr.drew.heap.size ∧ B2 < wr.drew.heap.size) := ⟨hb.1, h1.lt.2, h2.lt.2⟩
   have HR := Sv.hid (And.intro (h1.bw (Bw.refl _).drew) (And.intro (h2.bw (Bw.refl _).drew) (And.intro (hb.bw (Bw.refl _).drew) (hg.trans (Sv.gb_bw (Bw.refl _).drew _)))))
   have S0 : wr.drew.cell? ⟨C, 0, none⟩ = some (.func (.func 70) #[] #[]) ∧ wr.drew.cell? ⟨B1, k + j1, none⟩ = some (.float .f64 x) ∧ wr.drew.cell? ⟨B2, k + j1, none⟩ = some (.float .f64 y) ∧ wr.drew.frozen? ⟨B1, k + j1, none⟩ = false := ⟨hb.2.1, e1, e2, h1.frozen _⟩
   have HJ := Sv.hid hj1
   have HQ := Sv.hid (And.intro q1 q2)
   clear h1 h2 hb hg e1 e2 hj1 q1 q2
   go_wp2_with fail
   have wg : IntKind.i64.wrap (j1 : Int) = j1 := wrap_small j1 (by omega) (by omega)
   refine wp_region_K (fun w' => w'.cell? ⟨C, 0, none⟩ = some (.func (.func 70) #[] #[]) ∧ w'.cell? ⟨B1, k + j1, none⟩ = some (.float .f64 x) ∧ w'.cell? ⟨B2, k + j1, none⟩ = some (.float .f64 y) ∧ w'.frozen? ⟨B1, k + j1, none⟩ = false) 16 17 #[false, false, false, false, false, false, false, false, false, false, false, false, false, false, false, false, false] (by kernel_rfl) (by kernel_rfl) (by kernel_rfl) ?_
   generalize wr.drew = W at *
   refine wpAnyK_take 0 23 (v := ?vb0) rfl (by kernel_rfl) (by kernel_rfl) (by kernel_rfl) (by kernel_rfl) (by kernel_rfl) (fun _ _ _ h => h) rfl (Or.inl ⟨by rfl, ?hb0⟩) (by assumption) ?rb0
   case hb0 => (intro w hSw; go_simp; with_reducible rfl)
   simp only [Act.put, List.setIfInBounds_toArray, List.set_cons_zero, List.set_cons_succ]
   refine wpAnyK_take 1 24 (v := ?vb1) rfl (by kernel_rfl) (by kernel_rfl) (by kernel_rfl) (by kernel_rfl) (by kernel_rfl) (fun _ _ _ h => h) rfl (Or.inl ⟨by rfl, ?hb1⟩) (by assumption) ?rb1
   case hb1 => (intro w hSw; go_simp; with_reducible rfl)
   simp only [Act.put, List.setIfInBounds_toArray, List.set_cons_zero, List.set_cons_succ]
   refine wpAnyK_take 2 25 (v := ?vb2) rfl (by kernel_rfl) (by kernel_rfl) (by kernel_rfl) (by kernel_rfl) (by kernel_rfl) (fun _ _ _ h => h) rfl (Or.inl ⟨by rfl, ?hb2⟩) (by assumption) ?rb2
   case hb2 => (intro w hSw; go_simp; with_reducible rfl)
   simp only [Act.put, List.setIfInBounds_toArray, List.set_cons_zero, List.set_cons_succ]
   refine wpAnyK_take 3 26 (v := ?vb3) rfl (by kernel_rfl) (by kernel_rfl) (by kernel_rfl) (by kernel_rfl) (by kernel_rfl) (fun _ _ _ h => h) rfl (Or.inl ⟨by rfl, ?hb3⟩) (by assumption) ?rb3
   case hb3 => (intro w hSw; go_simp; with_reducible rfl)
   simp only [Act.put, List.setIfInBounds_toArray, List.set_cons_zero, List.set_cons_succ]
   refine wpAnyK_take 4 27 (v := ?vb4) rfl (by kernel_rfl) (by kernel_rfl) (by kernel_rfl) (by kernel_rfl) (by kernel_rfl) (fun _ _ _ h => h) rfl (Or.inl ⟨by rfl, ?hb4⟩) (by assumption) ?rb4
   case hb4 => (intro w hSw; go_simp; with_reducible rfl)
   simp only [Act.put, List.setIfInBounds_toArray, List.set_cons_zero, List.set_cons_succ]
   refine wpAnyK_take 5 28 (v := ?vb5) rfl (by kernel_rfl) (by kernel_rfl) (by kernel_rfl) (by kernel_rfl) (by kernel_rfl) (fun _ _ _ h => h) rfl (Or.inl ⟨by rfl, ?hb5⟩) (by assumption) ?rb5
   case hb5 => (intro w hSw; go_simp; with_reducible rfl)
   simp only [Act.put, List.setIfInBounds_toArray, List.set_cons_zero, List.set_cons_succ]
   refine wpAnyK_take 6 29 (v := ?vb6) rfl (by kernel_rfl) (by kernel_rfl) (by kernel_rfl) (by kernel_rfl) (by kernel_rfl) (fun _ _ _ h => h) rfl (Or.inl ⟨by rfl, ?hb6⟩) (by assumption) ?rb6
   case hb6 => (intro w hSw; go_simp; with_reducible rfl)
   simp only [Act.put, List.setIfInBounds_toArray, List.set_cons_zero, List.set_cons_succ]
   refine wpAnyK_take 7 30 (v := ?vb7) rfl (by kernel_rfl) (by kernel_rfl) (by kernel_rfl) (by kernel_rfl) (by kernel_rfl) (fun _ _ _ h => h) rfl (Or.inl ⟨by rfl, ?hb7⟩) (by assumption) ?rb7
   case hb7 => (intro w hSw; go_simp; with_reducible rfl)
   simp only [Act.put, List.setIfInBounds_toArray, List.set_cons_zero, List.set_cons_succ]
   refine wpAnyK_take 8 31 (v := ?vb8) rfl (by kernel_rfl) (by kernel_rfl) (by kernel_rfl) (by kernel_rfl) (by kernel_rfl) (fun _ _ _ h => h) rfl (Or.inl ⟨by rfl, ?hb8⟩) (by assumption) ?rb8
   case hb8 => (intro w hSw; go_simp; with_reducible rfl)
   simp only [Act.put, List.setIfInBounds_toArray, List.set_cons_zero, List.set_cons_succ]
   refine wpAnyK_take 9 32 (v := ?vb9) rfl (by kernel_rfl) (by kernel_rfl) (by kernel_rfl) (by kernel_rfl) (by kernel_rfl) (fun _ _ _ h => h) rfl (Or.inl ⟨by rfl, ?hb9⟩) (by assumption) ?rb9
   case hb9 => (intro w hSw; go_simp; with_reducible rfl)
   simp only [Act.put, List.setIfInBounds_toArray, List.set_cons_zero, List.set_cons_succ]
   refine wpAnyK_take 10 33 (v := ?vb10) rfl (by kernel_rfl) (by kernel_rfl) (by kernel_rfl) (by kernel_rfl) (by kernel_rfl) (fun _ _ _ h => h) rfl (Or.inl ⟨by rfl, ?hb10⟩) (by assumption) ?rb10
   case hb10 => (intro w hSw; go_simp; with_reducible rfl)
   simp only [Act.put, List.setIfInBounds_toArray, List.set_cons_zero, List.set_cons_succ]
   refine wpAnyK_take 11 34 (v := ?vb11) rfl (by kernel_rfl) (by kernel_rfl) (by kernel_rfl) (by kernel_rfl) (by kernel_rfl) (fun _ _ _ h => h) rfl (Or.inl ⟨by rfl, ?hb11⟩) (by assumption) ?rb11
   case hb11 => (intro w hSw; go_simp; with_reducible rfl)
   simp only [Act.put, List.setIfInBounds_toArray, List.set_cons_zero, List.set_cons_succ]
   refine wpAnyK_take 12 35 (v := ?vb12) rfl (by kernel_rfl) (by kernel_rfl) (by kernel_rfl) (by kernel_rfl) (by kernel_rfl) (fun _ _ _ h => h) rfl (Or.inl ⟨by rfl, ?hb12⟩) (by assumption) ?rb12
   case hb12 => (intro w hSw; go_simp; with_reducible rfl)
   simp only [Act.put, List.setIfInBounds_toArray, List.set_cons_zero, List.set_cons_succ]
   refine wpAnyK_one 13 (by kernel_rfl) rfl (fun K hK => ?_)
   go_simp
   go_wp2_with (go_at_call 70; refine (times14 _ _ _).mono ?_; rintro e' w7 ⟨p, rfl, hp, b7⟩)
   have S7 : w7.cell? ⟨C, 0, none⟩ = some (.func (.func 70) #[] #[]) ∧ w7.cell? ⟨B1, k + j1, none⟩ = some (.float .f64 x) ∧ w7.cell? ⟨B2, k + j1, none⟩ = some (.float .f64 y) ∧ w7.frozen? ⟨B1, k + j1, none⟩ = false := ⟨(Below.cell b7 (p := ⟨C, 0, none⟩) LT.out.1).trans S0.1, (Below.cell b7 (p := ⟨B1, k + j1, none⟩) LT.out.2.1).trans S0.2.1, (Below.cell b7 (p := ⟨B2, k + j1, none⟩) LT.out.2.2).trans S0.2.2.1, (Below.frozen b7 (p := ⟨B1, k + j1, none⟩) LT.out.2.1).trans S0.2.2.2⟩
   obtain ⟨r, w8, hr1, hr2, E8, b8⟩ := Sv.run Sv.iSub x p w7
   have S8 : w8.cell? ⟨C, 0, none⟩ = some (.func (.func 70) #[] #[]) ∧ w8.cell? ⟨B1, k + j1, none⟩ = some (.float .f64 x) ∧ w8.cell? ⟨B2, k + j1, none⟩ = some (.float .f64 y) ∧ w8.frozen? ⟨B1, k + j1, none⟩ = false := ⟨(Below.cell b8 (p := ⟨C, 0, none⟩) (Nat.lt_of_lt_of_le LT.out.1 b7.size)).trans S7.1, (Below.cell b8 (p := ⟨B1, k + j1, none⟩) (Nat.lt_of_lt_of_le LT.out.2.1 b7.size)).trans S7.2.1, (Below.cell b8 (p := ⟨B2, k + j1, none⟩) (Nat.lt_of_lt_of_le LT.out.2.2 b7.size)).trans S7.2.2.1, (Below.frozen b8 (p := ⟨B1, k + j1, none⟩) (Nat.lt_of_lt_of_le LT.out.2.1 b7.size)).trans S7.2.2.2⟩
   have HR2 := Sv.hid hr2
   clear hr2
   refine hK.out _ _ (fun _ _ => S7) ?_
   clear hK K
   simp only [List.setIfInBounds_toArray, List.set_cons_zero, List.set_cons_succ]
   refine wpAnyK_one 14 (by kernel_rfl) rfl (fun K hK => ?_)
   go_simp
   refine hK.out _ _ (fun _ _ => S8) ?_
   clear hK K
   simp only [List.setIfInBounds_toArray, List.set_cons_zero, List.set_cons_succ]
   refine wpAnyK_take 15 38 (v := ?vb15) rfl (by kernel_rfl) (by kernel_rfl) (by kernel_rfl) (by kernel_rfl) (by kernel_rfl) (fun _ _ _ h => h) rfl (Or.inl ⟨by rfl, ?hb15⟩) (by assumption) ?rb15
   case hb15 => (intro w hSw; go_simp; with_reducible rfl)
   simp only [Act.put, List.setIfInBounds_toArray, List.set_cons_zero, List.set_cons_succ]
   refine wpAnyK_one 16 (by kernel_rfl) rfl (fun K hK => ?_)
   go_simp
   refine hK.out _ _ (fun h => absurd rfl h) ?_
   clear hK K
   simp only [List.setIfInBounds_toArray, List.set_cons_zero, List.set_cons_succ]
   refine wpAnyK_done (by kernel_rfl) ?_ _
   have R : Hid (Sv.Rw (w8.setCell ⟨B1, k + j1, none⟩ (.float .f64 r)) base B1 (k + L + 1) (k + D + 2) (fun j => if k < j ∧ j ≤ k + (t + 1) then Sv.op .sub (F j) (Sv.op .mul (Sv.op .quo (F k) (G k)) (G j)) else F j) ∧ Sv.Rw (w8.setCell ⟨B1, k + j1, none⟩ (.float .f64 r)) base B2 (k + L + 1) (k + D + 2) G ∧ Sv.Bx (w8.setCell ⟨B1, k + j1, none⟩ (.float .f64 r)) C ∧ w.grownBy (w8.setCell ⟨B1, k + j1, none⟩ (.float .f64 r)) (some B1)) := by
    obtain ⟨i1, i2, i3, i4⟩ := HR.out
    have hj := HJ.out
    obtain ⟨z1, z2⟩ := ((i1.bw b7).bw b8).set (k + j1) r hr1
    refine ⟨z1.ext (fun j hj2 => ?_), ((i2.bw b7).bw b8).gb z2 (by simp only [ne_eq, Option.some.injEq]; exact fun e => hne e.symm), ((i3.bw b7).bw b8).gb z2 (by simp only [ne_eq, Option.some.injEq]; exact HC.out), ((i4.trans (Sv.gb_bw b7 _)).trans (Sv.gb_bw b8 _)).trans z2⟩
    by_cases z : j = k + j1
    ·
     subst z
     rw [if_pos rfl, if_pos (by omega), HR2.out, hp.2, HFF.out.2, HQ.out.1, HQ.out.2, Q12.out.1, Q12.out.2]
    ·
     rw [if_neg z]
     by_cases y : k < j ∧ j ≤ k + t
     · rw [if_pos y, if_pos (by omega)]
     · rw [if_neg y, if_neg (by omega)]
   clear S0 S7 S8 HR b7 b8 E8 wg hs LT hp hx hy W
   go_wp2
   go_roundw
   case rel => exact ⟨t + 1, by omega, by simp, R.out.1, R.out.2.1, R.out.2.2.1, R.out.2.2.2⟩
   case measure => simp [intOf]; omega
  ·
   have ht3 : t = L := by omega
   subst ht3
   have R := Sv.hid (And.intro (h1.ext (G := fun j => if k < j then Sv.op .sub (F j) (Sv.op .mul (Sv.op .quo (F k) (G k)) (G j)) else F j) (fun j hj => by
    by_cases y : k < j
    · rw [if_pos (by omega), if_pos y]
    · rw [if_neg (by omega), if_neg y])) hg)
   clear h1 h2 hb hg
   go_wp2
   go_end0
   exact ⟨rfl, R.out.1, R.out.2⟩
end Go.Proofs.Ytjfkdmddfeeheaa
/-
 OWN TEXT: package solve, of floats: which row is the pivot's.
-/
namespace Go.Proofs.Ytjfkdmddfeeheaa
open Go.ChangeShapes Go.WideShapes Go.ChangeAt Go.RowKit
set_option linter.unusedVariables false
attribute [local go_sem] frombits_call tobits_call run_neg

set_option maxHeartbeats 8000000 in
theorem greatest14 {w : World} {base R n m c k : Nat} {f : Nat → Nat} {A : Sv.M} (h : Sv.Mt w base R n m c f A) (hk : k < n) (hkm : k < m) (hn : n ≤ 1000) (hm : m ≤ 1001) :
  Calls Try.prog 75 #[(.agg #[.func (.func 70) #[] #[], .func (.func 71) #[] #[], .func (.func 31) #[] #[], .func (.func 72) #[] #[], .func (.func 73) #[] #[]]), .slice (some ⟨R, 0, none⟩) n n, .int .i64 k] w fun e w' => e = .returned (.int .i64 (Sv.best A k (n - k))) ∧ Bw w w' := by
 have b0 := Sv.bw_new w (.cells #[.func (.func 70) #[] #[], .func (.func 71) #[] #[], .func (.func 31) #[] #[], .func (.func 72) #[] #[], .func (.func 73) #[] #[]] 73)
 have HX := Sv.hid (And.intro (Sv.Bx.made w) b0)
 have H := Sv.hid h
 have hk1 : (k : Int) < n := by omega
 clear h b0
 go_enter Try.func75, Try.ntmps75
 go_wp2
 generalize w.heap.size = C at HX ⊢
 generalize w.alloc (.cells #[.func (.func 70) #[] #[], .func (.func 71) #[] #[], .func (.func 31) #[] #[], .func (.func 72) #[] #[], .func (.func 73) #[] #[]] 73) = W0 at *
 go_loopw [7, 14] (fun v i wr => ∃ t : Nat, t ≤ n - k ∧ i = .int .i64 t ∧ v = .int .i64 (Sv.best A k t) ∧ Sv.Bx wr C ∧ Bw w wr) (fun _ i _ => n - k - (intOf i).toNat)
 case atStart => exact ⟨0, Nat.zero_le _, rfl, rfl, HX.out.1, HX.out.2⟩
 case round =>
  clear HX
  obtain ⟨t, ht, rfl, rfl, hx, hbw⟩ := hrel
  have hle := Sv.best_lt A k t
  by_cases ht1 : t < n - k
  ·
   have ht2 : (t : Int) < ((n - k : Nat) : Int) := by omega
   have h2 := (H.out.bw hbw).bw (Bw.refl wr).drew
   obtain ⟨kt, hkt⟩ : ∃ kt, kt = k + t := ⟨_, rfl⟩
   have hs : (k : Int) + (t : Int) = (kt : Int) := by omega
   have hin : (kt : Int) < n := by omega
   obtain ⟨bs, hbs⟩ : ∃ bs, Sv.best A k t = bs := ⟨_, rfl⟩
   have HBS := Sv.hid hbs
   rw [hbs] at hle ⊢
   have hin2 : (bs : Int) < n := by omega
   have e1 := h2.cell (i := kt) (by omega)
   have e2 := h2.cell (i := bs) (by omega)
   obtain ⟨x, e3, hx1, q1⟩ := (h2.row kt (by omega)).cell hkm
   obtain ⟨y, e4, hy1, q2⟩ := (h2.row bs (by omega)).cell hkm
   generalize f kt = b1 at *
   generalize f bs = b2 at *
   have S0 : wr.drew.cell? ⟨C, 2, none⟩ = some (.func (.func 31) #[] #[]) ∧ wr.drew.cell? ⟨R, kt, none⟩ = some (.slice (some ⟨b1, 0, none⟩) m c) ∧ wr.drew.cell? ⟨R, bs, none⟩ = some (.slice (some ⟨b2, 0, none⟩) m c) ∧ wr.drew.cell? ⟨b1, k, none⟩ = some (.float .f64 x) ∧ wr.drew.cell? ⟨b2, k, none⟩ = some (.float .f64 y) := ⟨hx.2.2.2.1, e1, e2, e3, e4⟩
   have HG : Hid (Sv.best A k (t + 1) = if Sv.gt x y then kt else bs) := by
    show Sv.best A k (t + 1) = _
    rw [Sv.best, hbs, ← hkt, ← q1, ← q2, Sv.gt_c]
   have HX := Sv.hid (hx.bw (Bw.refl wr).drew)
   replace hbw := bw_trans hbw (Bw.refl wr).drew
   clear hx e1 e2 e3 e4 h2 q1 q2 hbs hkt HBS
   have hkm2 : (k : Int) < m := by omega
   go_wp2_with fail
   have wg : IntKind.i64.wrap (kt : Int) = kt := wrap_small kt (by omega) (by omega)
   have GT : (FloatKind.f64.format.order (Fl.rg x) (Fl.rg y) == some .gt) = Sv.gt x y := by rw [Fl.o_gt, Sv.gt_ltF]
   refine wp_region_K (fun w' => w'.cell? ⟨C, 2, none⟩ = some (.func (.func 31) #[] #[]) ∧ w'.cell? ⟨R, kt, none⟩ = some (.slice (some ⟨b1, 0, none⟩) m c) ∧ w'.cell? ⟨R, bs, none⟩ = some (.slice (some ⟨b2, 0, none⟩) m c) ∧ w'.cell? ⟨b1, k, none⟩ = some (.float .f64 x) ∧ w'.cell? ⟨b2, k, none⟩ = some (.float .f64 y)) 22 23 #[false, false, false, false, false, false, false, false, false, false, false, false, false, false, false, false, false, false, false, false, false, false, false] (by kernel_rfl) (by kernel_rfl) (by kernel_rfl) ?_
   generalize wr.drew = W at *
   refine wpAnyK_take 0 17 (v := ?v0) rfl (by kernel_rfl) (by kernel_rfl) (by kernel_rfl) (by kernel_rfl) (by kernel_rfl) (fun _ _ _ h => h) rfl (Or.inl ⟨by rfl, ?h0⟩) (by assumption) ?r0
   case h0 => (intro w hSw; go_simp; with_reducible rfl)
   simp only [Act.put, List.setIfInBounds_toArray, List.set_cons_zero, List.set_cons_succ]
   refine wpAnyK_take 1 18 (v := ?v1) rfl (by kernel_rfl) (by kernel_rfl) (by kernel_rfl) (by kernel_rfl) (by kernel_rfl) (fun _ _ _ h => h) rfl (Or.inl ⟨by rfl, ?h1⟩) (by assumption) ?r1
   case h1 => (intro w hSw; go_simp; with_reducible rfl)
   simp only [Act.put, List.setIfInBounds_toArray, List.set_cons_zero, List.set_cons_succ]
   refine wpAnyK_take 2 19 (v := ?v2) rfl (by kernel_rfl) (by kernel_rfl) (by kernel_rfl) (by kernel_rfl) (by kernel_rfl) (fun _ _ _ h => h) rfl (Or.inl ⟨by rfl, ?h2⟩) (by assumption) ?r2
   case h2 => (intro w hSw; go_simp; with_reducible rfl)
   simp only [Act.put, List.setIfInBounds_toArray, List.set_cons_zero, List.set_cons_succ]
   refine wpAnyK_take 3 20 (v := ?v3) rfl (by kernel_rfl) (by kernel_rfl) (by kernel_rfl) (by kernel_rfl) (by kernel_rfl) (fun _ _ _ h => h) rfl (Or.inl ⟨by rfl, ?h3⟩) (by assumption) ?r3
   case h3 => (intro w hSw; go_simp; with_reducible rfl)
   simp only [Act.put, List.setIfInBounds_toArray, List.set_cons_zero, List.set_cons_succ]
   refine wpAnyK_take 4 21 (v := ?v4) rfl (by kernel_rfl) (by kernel_rfl) (by kernel_rfl) (by kernel_rfl) (by kernel_rfl) (fun _ _ _ h => h) rfl (Or.inl ⟨by rfl, ?h4⟩) (by assumption) ?r4
   case h4 => (intro w hSw; go_simp; with_reducible rfl)
   simp only [Act.put, List.setIfInBounds_toArray, List.set_cons_zero, List.set_cons_succ]
   refine wpAnyK_take 5 22 (v := ?v5) rfl (by kernel_rfl) (by kernel_rfl) (by kernel_rfl) (by kernel_rfl) (by kernel_rfl) (fun _ _ _ h => h) rfl (Or.inl ⟨by rfl, ?h5⟩) (by assumption) ?r5
   case h5 => (intro w hSw; go_simp; with_reducible rfl)
   simp only [Act.put, List.setIfInBounds_toArray, List.set_cons_zero, List.set_cons_succ]
   refine wpAnyK_take 6 23 (v := ?v6) rfl (by kernel_rfl) (by kernel_rfl) (by kernel_rfl) (by kernel_rfl) (by kernel_rfl) (fun _ _ _ h => h) rfl (Or.inl ⟨by rfl, ?h6⟩) (by assumption) ?r6
   case h6 => (intro w hSw; go_simp; with_reducible rfl)
   simp only [Act.put, List.setIfInBounds_toArray, List.set_cons_zero, List.set_cons_succ]
   refine wpAnyK_take 7 24 (v := ?v7) rfl (by kernel_rfl) (by kernel_rfl) (by kernel_rfl) (by kernel_rfl) (by kernel_rfl) (fun _ _ _ h => h) rfl (Or.inl ⟨by rfl, ?h7⟩) (by assumption) ?r7
   case h7 => (intro w hSw; go_simp; with_reducible rfl)
   simp only [Act.put, List.setIfInBounds_toArray, List.set_cons_zero, List.set_cons_succ]
   refine wpAnyK_take 8 25 (v := ?v8) rfl (by kernel_rfl) (by kernel_rfl) (by kernel_rfl) (by kernel_rfl) (by kernel_rfl) (fun _ _ _ h => h) rfl (Or.inl ⟨by rfl, ?h8⟩) (by assumption) ?r8
   case h8 => (intro w hSw; go_simp; with_reducible rfl)
   simp only [Act.put, List.setIfInBounds_toArray, List.set_cons_zero, List.set_cons_succ]
   refine wpAnyK_take 9 26 (v := ?v9) rfl (by kernel_rfl) (by kernel_rfl) (by kernel_rfl) (by kernel_rfl) (by kernel_rfl) (fun _ _ _ h => h) rfl (Or.inl ⟨by rfl, ?h9⟩) (by assumption) ?r9
   case h9 => (intro w hSw; go_simp; with_reducible rfl)
   simp only [Act.put, List.setIfInBounds_toArray, List.set_cons_zero, List.set_cons_succ]
   refine wpAnyK_take 10 27 (v := ?v10) rfl (by kernel_rfl) (by kernel_rfl) (by kernel_rfl) (by kernel_rfl) (by kernel_rfl) (fun _ _ _ h => h) rfl (Or.inl ⟨by rfl, ?h10⟩) (by assumption) ?r10
   case h10 => (intro w hSw; go_simp; with_reducible rfl)
   simp only [Act.put, List.setIfInBounds_toArray, List.set_cons_zero, List.set_cons_succ]
   refine wpAnyK_take 12 29 (v := ?v12) rfl (by kernel_rfl) (by kernel_rfl) (by kernel_rfl) (by kernel_rfl) (by kernel_rfl) (fun _ _ _ h => h) rfl (Or.inl ⟨by rfl, ?h12⟩) (by assumption) ?r12
   case h12 => (intro w hSw; go_simp; with_reducible rfl)
   simp only [Act.put, List.setIfInBounds_toArray, List.set_cons_zero, List.set_cons_succ]
   refine wpAnyK_take 13 30 (v := ?v13) rfl (by kernel_rfl) (by kernel_rfl) (by kernel_rfl) (by kernel_rfl) (by kernel_rfl) (fun _ _ _ h => h) rfl (Or.inl ⟨by rfl, ?h13⟩) (by assumption) ?r13
   case h13 => (intro w hSw; go_simp; with_reducible rfl)
   simp only [Act.put, List.setIfInBounds_toArray, List.set_cons_zero, List.set_cons_succ]
   refine wpAnyK_take 14 31 (v := ?v14) rfl (by kernel_rfl) (by kernel_rfl) (by kernel_rfl) (by kernel_rfl) (by kernel_rfl) (fun _ _ _ h => h) rfl (Or.inl ⟨by rfl, ?h14⟩) (by assumption) ?r14
   case h14 => (intro w hSw; go_simp; with_reducible rfl)
   simp only [Act.put, List.setIfInBounds_toArray, List.set_cons_zero, List.set_cons_succ]
   refine wpAnyK_take 15 32 (v := ?v15) rfl (by kernel_rfl) (by kernel_rfl) (by kernel_rfl) (by kernel_rfl) (by kernel_rfl) (fun _ _ _ h => h) rfl (Or.inl ⟨by rfl, ?h15⟩) (by assumption) ?r15
   case h15 => (intro w hSw; go_simp; with_reducible rfl)
   simp only [Act.put, List.setIfInBounds_toArray, List.set_cons_zero, List.set_cons_succ]
   refine wpAnyK_take 16 33 (v := ?v16) rfl (by kernel_rfl) (by kernel_rfl) (by kernel_rfl) (by kernel_rfl) (by kernel_rfl) (fun _ _ _ h => h) rfl (Or.inl ⟨by rfl, ?h16⟩) (by assumption) ?r16
   case h16 => (intro w hSw; go_simp; with_reducible rfl)
   simp only [Act.put, List.setIfInBounds_toArray, List.set_cons_zero, List.set_cons_succ]
   refine wpAnyK_take 17 34 (v := ?v17) rfl (by kernel_rfl) (by kernel_rfl) (by kernel_rfl) (by kernel_rfl) (by kernel_rfl) (fun _ _ _ h => h) rfl (Or.inl ⟨by rfl, ?h17⟩) (by assumption) ?r17
   case h17 => (intro w hSw; go_simp; with_reducible rfl)
   simp only [Act.put, List.setIfInBounds_toArray, List.set_cons_zero, List.set_cons_succ]
   refine wpAnyK_take 18 35 (v := ?v18) rfl (by kernel_rfl) (by kernel_rfl) (by kernel_rfl) (by kernel_rfl) (by kernel_rfl) (fun _ _ _ h => h) rfl (Or.inl ⟨by rfl, ?h18⟩) (by assumption) ?r18
   case h18 => (intro w hSw; go_simp; with_reducible rfl)
   simp only [Act.put, List.setIfInBounds_toArray, List.set_cons_zero, List.set_cons_succ]
   refine wpAnyK_take 19 36 (v := ?v19) rfl (by kernel_rfl) (by kernel_rfl) (by kernel_rfl) (by kernel_rfl) (by kernel_rfl) (fun _ _ _ h => h) rfl (Or.inl ⟨by rfl, ?h19⟩) (by assumption) ?r19
   case h19 => (intro w hSw; go_simp; with_reducible rfl)
   simp only [Act.put, List.setIfInBounds_toArray, List.set_cons_zero, List.set_cons_succ]
   refine wpAnyK_take 20 37 (v := ?v20) rfl (by kernel_rfl) (by kernel_rfl) (by kernel_rfl) (by kernel_rfl) (by kernel_rfl) (fun _ _ _ h => h) rfl (Or.inl ⟨by rfl, ?h20⟩) (by assumption) ?r20
   case h20 => (intro w hSw; go_simp; with_reducible rfl)
   simp only [Act.put, List.setIfInBounds_toArray, List.set_cons_zero, List.set_cons_succ]
   refine wpAnyK_one 11 (by kernel_rfl) rfl (fun K hK => ?_)
   go_simp
   go_wp2_with (go_at_call 31; refine (abs_any _ _ (by assumption)).mono ?_; rintro e' w7 ⟨rfl, hw7⟩; subst hw7)
   refine hK.out _ _ (fun _ _ => S0) ?_
   clear hK K
   simp only [List.setIfInBounds_toArray, List.set_cons_zero, List.set_cons_succ]
   refine wpAnyK_one 21 (by kernel_rfl) rfl (fun K hK => ?_)
   go_simp
   go_wp2_with (go_at_call 31; refine (abs_any _ _ (by assumption)).mono ?_; rintro e' w7 ⟨rfl, hw7⟩; subst hw7)
   refine hK.out _ _ (fun _ _ => S0) ?_
   clear hK K
   simp only [List.setIfInBounds_toArray, List.set_cons_zero, List.set_cons_succ]
   refine wpAnyK_one 22 (by kernel_rfl) rfl (fun K hK => ?_)
   go_simp
   refine hK.out _ _ (fun h => absurd rfl h) ?_
   clear hK K
   simp only [List.setIfInBounds_toArray, List.set_cons_zero, List.set_cons_succ]
   refine wpAnyK_done (by kernel_rfl) ?_ _
   clear S0 GT hx1 hy1
   generalize Sv.gt x y = g at HG ⊢
   cases g
   ·
    have HG2 : Hid (Sv.best A k (t + 1) = bs) := HG.out
    clear HG
    go_wp2
    go_roundw
    case rel => exact ⟨t + 1, by omega, by simp, by rw [HG2.out], HX.out, hbw⟩
    case measure => simp [intOf]; omega
   ·
    have HG2 : Hid (Sv.best A k (t + 1) = kt) := HG.out
    clear HG
    go_wp2
    go_roundw
    case rel => exact ⟨t + 1, by omega, by simp, by rw [HG2.out], HX.out, hbw⟩
    case measure => simp [intOf]; omega
  ·
   have ht3 : t = n - k := by omega
   subst ht3
   clear hx
   go_wp2
   go_ret
   exact ⟨rfl, hbw⟩
end Go.Proofs.Ytjfkdmddfeeheaa
