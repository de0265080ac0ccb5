/-
 OWN TEXT: package flow over whole complex numbers: the top of an element's speed over the common bottom.
-/
import Derived.Test.YtjpllggchjgjpaaGreatJFfGToFfK
namespace Go.Proofs.YtjpllggchjgjpaaGreat
open Go.ChangeShapes Go.WideShapes Go.ChangeAt Go.RowKit
set_option linter.unusedVariables false
set_option linter.unusedSimpArgs false
attribute [local go_sem] frombits_call tobits_call run_neg run_store_cx El.run_store_fl
set_option maxHeartbeats 16000000 in
theorem part_s {c : Nat} (hc : c = 1074) {w : World} {a a' ua : Option Addr} {cap cap' n un uc ea eb es et en Nb Ab : Nat} {cs : List (Py.G × Nat)} {z ez ev β : Py.G} 
  (ws : wC c es et ev) (ls : Py.Le ev 12) (hu : Ff.Pv c w z (.slice ua un uc) Nb Ab β) (hNb : Nb ≤ 9) (hAb : 5292 * Ab ≤ 1099511627776) :
  Calls Tryz.prog 40 #[.agg #[.slice a n cap, .slice a' n cap', .slice ua un uc], .agg #[.int .u8 1, .complex .f64 ea eb, .complex .f64 es et, .float .f64 (Ff.pw en)]] w fun r w' => ∃ u, r = .returned (.tuple #[u, .int .i64 0]) ∧ Ff.Pv c w' z u (Nb) (12 * Ab) (Py.gm ev β) ∧ Bw w w' := by
 have bA := bw_alloc w (.cells #[.slice a n cap, .slice a' n cap', .slice ua un uc] 76)
 have c0 : (w.alloc (.cells #[.slice a n cap, .slice a' n cap', .slice ua un uc] 76)).cell? ⟨w.heap.size, 0, none⟩ = some (.slice a n cap) := by simp
 have c1 : (w.alloc (.cells #[.slice a n cap, .slice a' n cap', .slice ua un uc] 76)).cell? ⟨w.heap.size, 1, none⟩ = some (.slice a' n cap') := by simp
 have c2 : (w.alloc (.cells #[.slice a n cap, .slice a' n cap', .slice ua un uc] 76)).cell? ⟨w.heap.size, 2, none⟩ = some (.slice ua un uc) := by simp
 have hW1 : (w.alloc (.cells #[.slice a n cap, .slice a' n cap', .slice ua un uc] 76)).heap.size = w.heap.size + 1 := by simp
 obtain ⟨W1, hW1e⟩ : ∃ v, v = w.alloc (.cells #[.slice a n cap, .slice a' n cap', .slice ua un uc] 76) := ⟨_, rfl⟩
 rw [← hW1e] at bA c0 c1 c2 hW1
 have bX := bw_alloc W1 (.cells #[.int .u8 1, .complex .f64 ea eb, .complex .f64 es et, .float .f64 (Ff.pw en)] 29)
 have x : ∀ i v, (#[.int .u8 1, .complex .f64 ea eb, .complex .f64 es et, .float .f64 (Ff.pw en)] : Array Value)[i]? = some v → (W1.alloc (.cells #[.int .u8 1, .complex .f64 ea eb, .complex .f64 es et, .float .f64 (Ff.pw en)] 29)).cell? ⟨W1.heap.size, i, none⟩ = some v := fun i v h => by
  rw [World.cell?_alloc_at _ _ _ _ rfl]; exact h
 have hW2 : W1.heap.size < (W1.alloc (.cells #[.int .u8 1, .complex .f64 ea eb, .complex .f64 es et, .float .f64 (Ff.pw en)] 29)).heap.size := by simp
 have hW3 : (W1.alloc (.cells #[.int .u8 1, .complex .f64 ea eb, .complex .f64 es et, .float .f64 (Ff.pw en)] 29)).heap.size = W1.heap.size + 1 := by simp
 obtain ⟨W, hWe⟩ : ∃ v, v = W1.alloc (.cells #[.int .u8 1, .complex .f64 ea eb, .complex .f64 es et, .float .f64 (Ff.pw en)] 29) := ⟨_, rfl⟩
 rw [← hWe] at bX x hW2 hW3
 have bW := bw_trans bA bX
 have SF := hide (fun wz (hb : Bw W wz) => (show wz.cell? ⟨w.heap.size, 0, none⟩ = some (.slice a n cap) ∧ wz.cell? ⟨w.heap.size, 1, none⟩ = some (.slice a' n cap') ∧ wz.cell? ⟨w.heap.size, 2, none⟩ = some (.slice ua un uc) ∧ wz.cell? ⟨W1.heap.size, 0, none⟩ = some (.int .u8 1) ∧ wz.cell? ⟨W1.heap.size, 1, none⟩ = some (.complex .f64 ea eb) ∧ wz.cell? ⟨W1.heap.size, 2, none⟩ = some (.complex .f64 es et) ∧ wz.cell? ⟨W1.heap.size, 3, none⟩ = some (.float .f64 (Ff.pw en)) from by
  have bb := bw_trans bX hb
  have h1 : w.heap.size < W1.heap.size := by omega
  exact ⟨(Below.cell bb (p := ⟨w.heap.size, 0, none⟩) h1).trans c0, (Below.cell bb (p := ⟨w.heap.size, 1, none⟩) h1).trans c1, (Below.cell bb (p := ⟨w.heap.size, 2, none⟩) h1).trans c2, (Below.cell hb (p := ⟨W1.heap.size, 0, none⟩) hW2).trans (x 0 _ rfl), (Below.cell hb (p := ⟨W1.heap.size, 1, none⟩) hW2).trans (x 1 _ rfl), (Below.cell hb (p := ⟨W1.heap.size, 2, none⟩) hW2).trans (x 2 _ rfl), (Below.cell hb (p := ⟨W1.heap.size, 3, none⟩) hW2).trans (x 3 _ rfl)⟩))
 have BW := hide bW
 have HW1e := hide hW1e
 have HWe := hide hWe
 have HW1 := hide hW1
 have HW3 := hide hW3
 have CC : Hid (c = 1074) := hc
 have HM := hide (fun (wz : World) (hb : Bw W wz) (D : Nat) (hD : Gl c wz D 0 [ev]) => pmul16 hc (z := z) (N := 0) (A := 12) (g := ev) (v := .slice (some ⟨D, 0, none⟩) 1 1) ⟨D, 0, 0, 1, [ev], rfl, Ff.may_c ev (ls.mono (by decide)), Nat.le_refl _, hD, fun i => Ff.co_c ev 12 i ls, Ff.ev_c ev z⟩ (hu.bw (bw_trans bW hb)) (by omega) (by omega))
 have WS := hide ws
 clear bA bX x c0 c1 c2 hW1e hWe hW1 hW2 hW3 bW
 clear hu ws ls hc hAb
 go_enter Tryz.func40, Tryz.ntmps40
 go_wp2_with fail
 rw [← HW1e.out, ← HWe.out, ← HW1.out, ← HW3.out]
 have bz := bw_alloc W (.cells #[.complex .f64 es et] 26)
 refine (HM.out _ bz _ (Ff.gl_one W _ WS.out)).mono ?_
 rintro e' w5 ⟨u, rfl, hu5, b5⟩
 have R := hide (And.intro (hu5.mono (N' := Nb) (A' := 12 * Ab) (by omega) (by omega)) (bw_trans (bw_trans BW.out bz) b5))
 clear hu5 b5 bz HM WS SF
 go_wp2
 go_ret2
 exact ⟨u, rfl, R.out⟩
set_option maxHeartbeats 16000000 in
theorem part_d {c : Nat} (hc : c = 1074) {w : World} {a a' ua : Option Addr} {cap cap' n un uc ea eb es et en Nb Ab : Nat} {cs : List (Py.G × Nat)} {z ez ev β : Py.G} (hn : cs.length = n) (hm : n ≤ 60) (hP : Ff.Pl c w a (cs.map Prod.fst)) (hF : Ff.Ni w a' (cs.map Prod.snd)) (wa : wC c ea eb ez) (hp1 : 1 ≤ en) (hp2 : en ≤ 2) (hh : Ff.Held cs ez (en + 1)) (hcs : ∀ p ∈ cs, (p.1.1.natAbs ≤ 4 ∧ p.1.2.natAbs ≤ 4) ∧ p.2 ≤ 3) (hM : (Ff.rl cs).length = Nb)
  (ws : wC c es et ev) (ls : Py.Le ev 12) (hu : Ff.Pv c w z (.slice ua un uc) Nb Ab β) (hNb : Nb ≤ 9) (hAb : 5292 * Ab ≤ 1099511627776) :
  Calls Tryz.prog 40 #[.agg #[.slice a n cap, .slice a' n cap', .slice ua un uc], .agg #[.int .u8 3, .complex .f64 ea eb, .complex .f64 es et, .float .f64 (Ff.pw en)]] w fun r w' => ∃ u, r = .returned (.tuple #[u, .int .i64 0]) ∧ Ff.Pv c w' z u (Nb - (en + 1)) (24 * 7 ^ (Nb - (en + 1))) (Py.gm (Ff.sk (-(en : Int)) ev) (Ff.prd (Ff.rl (Ff.cut cs ez (en + 1))) z)) ∧ Bw w w' := by
 have bA := bw_alloc w (.cells #[.slice a n cap, .slice a' n cap', .slice ua un uc] 76)
 have c0 : (w.alloc (.cells #[.slice a n cap, .slice a' n cap', .slice ua un uc] 76)).cell? ⟨w.heap.size, 0, none⟩ = some (.slice a n cap) := by simp
 have c1 : (w.alloc (.cells #[.slice a n cap, .slice a' n cap', .slice ua un uc] 76)).cell? ⟨w.heap.size, 1, none⟩ = some (.slice a' n cap') := by simp
 have c2 : (w.alloc (.cells #[.slice a n cap, .slice a' n cap', .slice ua un uc] 76)).cell? ⟨w.heap.size, 2, none⟩ = some (.slice ua un uc) := by simp
 have hW1 : (w.alloc (.cells #[.slice a n cap, .slice a' n cap', .slice ua un uc] 76)).heap.size = w.heap.size + 1 := by simp
 obtain ⟨W1, hW1e⟩ : ∃ v, v = w.alloc (.cells #[.slice a n cap, .slice a' n cap', .slice ua un uc] 76) := ⟨_, rfl⟩
 rw [← hW1e] at bA c0 c1 c2 hW1
 have bX := bw_alloc W1 (.cells #[.int .u8 3, .complex .f64 ea eb, .complex .f64 es et, .float .f64 (Ff.pw en)] 29)
 have x : ∀ i v, (#[.int .u8 3, .complex .f64 ea eb, .complex .f64 es et, .float .f64 (Ff.pw en)] : Array Value)[i]? = some v → (W1.alloc (.cells #[.int .u8 3, .complex .f64 ea eb, .complex .f64 es et, .float .f64 (Ff.pw en)] 29)).cell? ⟨W1.heap.size, i, none⟩ = some v := fun i v h => by
  rw [World.cell?_alloc_at _ _ _ _ rfl]; exact h
 have hW2 : W1.heap.size < (W1.alloc (.cells #[.int .u8 3, .complex .f64 ea eb, .complex .f64 es et, .float .f64 (Ff.pw en)] 29)).heap.size := by simp
 have hW3 : (W1.alloc (.cells #[.int .u8 3, .complex .f64 ea eb, .complex .f64 es et, .float .f64 (Ff.pw en)] 29)).heap.size = W1.heap.size + 1 := by simp
 obtain ⟨W, hWe⟩ : ∃ v, v = W1.alloc (.cells #[.int .u8 3, .complex .f64 ea eb, .complex .f64 es et, .float .f64 (Ff.pw en)] 29) := ⟨_, rfl⟩
 rw [← hWe] at bX x hW2 hW3
 have bW := bw_trans bA bX
 have SF := hide (fun wz (hb : Bw W wz) => (show wz.cell? ⟨w.heap.size, 0, none⟩ = some (.slice a n cap) ∧ wz.cell? ⟨w.heap.size, 1, none⟩ = some (.slice a' n cap') ∧ wz.cell? ⟨w.heap.size, 2, none⟩ = some (.slice ua un uc) ∧ wz.cell? ⟨W1.heap.size, 0, none⟩ = some (.int .u8 3) ∧ wz.cell? ⟨W1.heap.size, 1, none⟩ = some (.complex .f64 ea eb) ∧ wz.cell? ⟨W1.heap.size, 2, none⟩ = some (.complex .f64 es et) ∧ wz.cell? ⟨W1.heap.size, 3, none⟩ = some (.float .f64 (Ff.pw en)) from by
  have bb := bw_trans bX hb
  have h1 : w.heap.size < W1.heap.size := by omega
  exact ⟨(Below.cell bb (p := ⟨w.heap.size, 0, none⟩) h1).trans c0, (Below.cell bb (p := ⟨w.heap.size, 1, none⟩) h1).trans c1, (Below.cell bb (p := ⟨w.heap.size, 2, none⟩) h1).trans c2, (Below.cell hb (p := ⟨W1.heap.size, 0, none⟩) hW2).trans (x 0 _ rfl), (Below.cell hb (p := ⟨W1.heap.size, 1, none⟩) hW2).trans (x 1 _ rfl), (Below.cell hb (p := ⟨W1.heap.size, 2, none⟩) hW2).trans (x 2 _ rfl), (Below.cell hb (p := ⟨W1.heap.size, 3, none⟩) hW2).trans (x 3 _ rfl)⟩))
 have BW := hide bW
 have HW1e := hide hW1e
 have HWe := hide hWe
 have HW1 := hide hW1
 have HW3 := hide hW3
 have CC : Hid (c = 1074) := hc
 obtain ⟨k, k1, k2, k3, k4⟩ := hh.at
 have hce := Ff.cut_old cs ez (en + 1) k k1 k2 k3
 have hcl := Ff.cut_len hh
 have hfb : (cs.map Prod.snd).getD k 0 ≤ 3 := by
  have := (hcs (cs[k]'k1) (List.getElem_mem _)).2
  simpa [List.getD, k1] using this
 have hcc := Ff.cut_all (z := ez) (m := en + 1) hcs
 have hml : (Ff.rl (Ff.cut cs ez (en + 1))).length = Nb - (en + 1) := by omega
 have WO := hide (fun (wz : World) (hb : Bw w wz) => (show Calls Tryz.prog 67 #[.agg #[.slice a n cap, .slice a' n cap', .slice ua un uc], .agg #[.int .u8 3, .complex .f64 ea eb, .complex .f64 es et, .float .f64 (Ff.pw en)]] wz fun r w' => ∃ a'' cap'', r = .returned (.slice a'' (Nb - (en + 1)) cap'') ∧ Ff.Pl c w' a'' (Ff.rl (Ff.cut cs ez (en + 1))) ∧ Bw wz w' from by
  have h := without16 (c := c) (w := wz) (a := a) (a' := a') (ab := ua) (cap := cap) (cap' := cap') (n := n) (nb := un) (capb := uc) (k := k) (f := (cs.map Prod.snd).getD k 0) (cs := cs) (e := ⟨3, ea, eb, es, et, en, ez, ev⟩) hn hm (by omega) wa (by show en ≤ 3; omega) rfl k2 k3 rfl k4 (by omega) (hP.bw hb) (hF.bw hb) (by show (Ff.rl (cs.set k (ez, (cs.map Prod.snd).getD k 0 - (en + 1)))).length ≤ 64; rw [← hce]; omega)
  change Calls _ _ _ _ (fun r w' => ∃ a'' cap'', r = .returned (.slice a'' (Ff.rl (cs.set k (ez, (cs.map Prod.snd).getD k 0 - (en + 1)))).length cap'') ∧ Ff.Pl c w' a'' (Ff.rl (cs.set k (ez, (cs.map Prod.snd).getD k 0 - (en + 1)))) ∧ Bw wz w') at h
  rw [← hce, hml] at h
  exact h))
 obtain ⟨r, s, hrs, hsc⟩ := pscale16 (p := Op.negFloat .f64 (Ff.pw en)) (m := -(en : Int)) (K := 2) hc ws (by rw [Fl.neg_eq (Ff.pw_wI hc (show en ≤ 3 by omega)).1]; exact (Ff.pw_wI hc (by omega)).ng) ls (by omega) (by decide)
 have SC := hide hsc
 have TO := hide (fun (wz : World) (a2 : Option Addr) (cap2 : Nat) (hp : Ff.Pl c wz a2 (Ff.rl (Ff.cut cs ez (en + 1)))) => times16 (cap := cap2) (Z := 6) (S := 24) hc z hml (by omega) hp (Ff.rl_co hcc) (by decide) (Nat.le_trans (Nat.mul_le_mul_left 24 (Nat.pow_le_pow_right (by decide) (show Nb - (en + 1) ≤ 9 by omega))) (by decide)) (by decide) hrs (Ff.sk_le (K := 2) ls (by omega)))
 clear bA bX x c0 c1 c2 hW1e hWe hW1 hW2 hW3 bW
 clear hu ws ls hc hAb hn hm hP hF wa hh hcs hM k1 k2 k3 k4 hce hcl hfb hcc hml hrs hsc
 have S0 := SF.out W.drew (Bw.refl W).drew
 have B0 := hide (bw_trans BW.out (Bw.refl W).drew)
 have Z0 := hide (Bw.refl W).drew
 obtain ⟨mm, hmm⟩ : ∃ mm, Nb - (en + 1) = mm := ⟨_, rfl⟩
 rw [hmm] at TO WO ⊢
 go_enter Tryz.func40, Tryz.ntmps40
 go_wp2_with fail
 rw [← HW1e.out, ← HWe.out, ← HW1.out]
 refine wp_region_K (fun w' => w'.cell? ⟨w.heap.size, 0, none⟩ = some (.slice a n cap) ∧ w'.cell? ⟨w.heap.size, 1, none⟩ = some (.slice a' n cap') ∧ w'.cell? ⟨w.heap.size, 2, none⟩ = some (.slice ua un uc) ∧ w'.cell? ⟨W1.heap.size, 0, none⟩ = some (.int .u8 3) ∧ w'.cell? ⟨W1.heap.size, 1, none⟩ = some (.complex .f64 ea eb) ∧ w'.cell? ⟨W1.heap.size, 2, none⟩ = some (.complex .f64 es et) ∧ w'.cell? ⟨W1.heap.size, 3, none⟩ = some (.float .f64 (Ff.pw en))) 13 14 #[false, false, false, false, false, false, false, false, false, false, false, false, false, false] (by kernel_rfl) (by kernel_rfl) (by kernel_rfl) ?_
 generalize hWd : W.drew = Wd at *
 refine wpAnyK_take 0 42 (v := ?v0) rfl (by kernel_rfl) (by kernel_rfl) (by kernel_rfl) (by kernel_rfl) (by kernel_rfl) (fun _ _ _ h => h) rfl (Or.inl ⟨by rfl, ?h0⟩) (by assumption) ?r0
 case h0 => (intro w hSw; obtain ⟨s0, s1, s2, s3, s4, s5, s6⟩ := hSw; go_simp; with_reducible rfl)
 simp only [Act.put, List.setIfInBounds_toArray, List.set_cons_zero, List.set_cons_succ]
 refine wpAnyK_take 1 43 (v := ?v1) rfl (by kernel_rfl) (by kernel_rfl) (by kernel_rfl) (by kernel_rfl) (by kernel_rfl) (fun _ _ _ h => h) rfl (Or.inl ⟨by rfl, ?h1⟩) (by assumption) ?r1
 case h1 => (intro w hSw; obtain ⟨s0, s1, s2, s3, s4, s5, s6⟩ := hSw; go_simp; with_reducible rfl)
 simp only [Act.put, List.setIfInBounds_toArray, List.set_cons_zero, List.set_cons_succ]
 refine wpAnyK_take 2 44 (v := ?v2) rfl (by kernel_rfl) (by kernel_rfl) (by kernel_rfl) (by kernel_rfl) (by kernel_rfl) (fun _ _ _ h => h) rfl (Or.inl ⟨by rfl, ?h2⟩) (by assumption) ?r2
 case h2 => (intro w hSw; obtain ⟨s0, s1, s2, s3, s4, s5, s6⟩ := hSw; go_simp; with_reducible rfl)
 simp only [Act.put, List.setIfInBounds_toArray, List.set_cons_zero, List.set_cons_succ]
 refine wpAnyK_take 3 45 (v := ?v3) rfl (by kernel_rfl) (by kernel_rfl) (by kernel_rfl) (by kernel_rfl) (by kernel_rfl) (fun _ _ _ h => h) rfl (Or.inl ⟨by rfl, ?h3⟩) (by assumption) ?r3
 case h3 => (intro w hSw; obtain ⟨s0, s1, s2, s3, s4, s5, s6⟩ := hSw; go_simp; with_reducible rfl)
 simp only [Act.put, List.setIfInBounds_toArray, List.set_cons_zero, List.set_cons_succ]
 refine wpAnyK_take 4 46 (v := ?v4) rfl (by kernel_rfl) (by kernel_rfl) (by kernel_rfl) (by kernel_rfl) (by kernel_rfl) (fun _ _ _ h => h) rfl (Or.inl ⟨by rfl, ?h4⟩) (by assumption) ?r4
 case h4 => (intro w hSw; obtain ⟨s0, s1, s2, s3, s4, s5, s6⟩ := hSw; go_simp; with_reducible rfl)
 simp only [Act.put, List.setIfInBounds_toArray, List.set_cons_zero, List.set_cons_succ]
 refine wpAnyK_take 6 48 (v := ?v6) rfl (by kernel_rfl) (by kernel_rfl) (by kernel_rfl) (by kernel_rfl) (by kernel_rfl) (fun _ _ _ h => h) rfl (Or.inl ⟨by rfl, ?h6⟩) (by assumption) ?r6
 case h6 => (intro w hSw; obtain ⟨s0, s1, s2, s3, s4, s5, s6⟩ := hSw; go_simp; with_reducible rfl)
 simp only [Act.put, List.setIfInBounds_toArray, List.set_cons_zero, List.set_cons_succ]
 refine wpAnyK_take 7 49 (v := ?v7) rfl (by kernel_rfl) (by kernel_rfl) (by kernel_rfl) (by kernel_rfl) (by kernel_rfl) (fun _ _ _ h => h) rfl (Or.inl ⟨by rfl, ?h7⟩) (by assumption) ?r7
 case h7 => (intro w hSw; obtain ⟨s0, s1, s2, s3, s4, s5, s6⟩ := hSw; go_simp; with_reducible rfl)
 simp only [Act.put, List.setIfInBounds_toArray, List.set_cons_zero, List.set_cons_succ]
 refine wpAnyK_one 5 (by kernel_rfl) rfl (fun K hK => ?_)
 go_simp
 go_wp2_with (go_at_call 66; refine (SC.out _).mono ?_; rintro e' w7 ⟨rfl, hw7⟩; subst hw7)
 refine hK.out _ _ (fun _ _ => S0) ?_
 clear hK K
 simp only [List.setIfInBounds_toArray, List.set_cons_zero, List.set_cons_succ]
 refine wpAnyK_one 8 (by kernel_rfl) rfl (fun K hK => ?_)
 go_simp
 go_wp2_with (go_at_call 67; refine (WO.out _ B0.out).mono ?_; rintro e' w9 ⟨a2, cap2, rfl, hp9, b9⟩; have b09 := bw_trans Z0.out b9; have T9 := hide (TO.out _ a2 cap2 hp9))
 refine hK.out _ _ (fun _ _ => SF.out _ b09) ?_
 clear hK K
 simp only [List.setIfInBounds_toArray, List.set_cons_zero, List.set_cons_succ]
 refine wpAnyK_one 9 (by kernel_rfl) rfl (fun K hK => ?_)
 go_simp
 go_wp2_with (go_at_call 65; refine T9.out.mono ?_; rintro e' w11 ⟨u, rfl, hu11, b11⟩; have b011 := bw_trans b09 b11)
 refine hK.out _ _ (fun _ _ => SF.out _ b011) ?_
 clear hK K
 simp only [List.setIfInBounds_toArray, List.set_cons_zero, List.set_cons_succ]
 have S11 := SF.out _ b011
 refine wpAnyK_take 10 52 (v := ?v10) rfl (by kernel_rfl) (by kernel_rfl) (by kernel_rfl) (by kernel_rfl) (by kernel_rfl) (fun _ _ _ h => h) rfl (Or.inl ⟨by rfl, ?h10⟩) (by assumption) ?r10
 case h10 => (intro w hSw; obtain ⟨s0, s1, s2, s3, s4, s5, s6⟩ := hSw; go_simp; with_reducible rfl)
 simp only [Act.put, List.setIfInBounds_toArray, List.set_cons_zero, List.set_cons_succ]
 refine wpAnyK_take 11 53 (v := ?v11) rfl (by kernel_rfl) (by kernel_rfl) (by kernel_rfl) (by kernel_rfl) (by kernel_rfl) (fun _ _ _ h => h) rfl (Or.inl ⟨by rfl, ?h11⟩) (by assumption) ?r11
 case h11 => (intro w hSw; obtain ⟨s0, s1, s2, s3, s4, s5, s6⟩ := hSw; go_simp; with_reducible rfl)
 simp only [Act.put, List.setIfInBounds_toArray, List.set_cons_zero, List.set_cons_succ]
 refine wpAnyK_one 12 (by kernel_rfl) rfl (fun K hK => ?_)
 go_simp
 refine hK.out _ _ (fun _ _ => SF.out _ b011) ?_
 clear hK K
 simp only [List.setIfInBounds_toArray, List.set_cons_zero, List.set_cons_succ]
 refine wpAnyK_one 13 (by kernel_rfl) rfl (fun K hK => ?_)
 go_simp
 refine hK.out _ _ (fun h => absurd rfl h) ?_
 clear hK K
 simp only [List.setIfInBounds_toArray, List.set_cons_zero, List.set_cons_succ]
 refine wpAnyK_done (by kernel_rfl) ?_ _
 have R := hide (And.intro hu11 (bw_trans BW.out b011))
 clear hu11 b11 b011 b9 b09 hp9 S11 S0 TO WO SC T9
 go_wp2
 go_ret2
 exact ⟨u, rfl, R.out⟩
set_option maxHeartbeats 16000000 in
theorem part_c {c : Nat} (hc : c = 1074) {w : World} {a a' ua : Option Addr} {cap cap' n un uc ea eb es et en Nb Ab : Nat} {cs : List (Py.G × Nat)} {z ez ev β : Py.G} (wa : wC c ea eb ez) (la : Py.Le ez 6) (hp1 : 1 ≤ en) (hp2 : en ≤ 3)
  (ws : wC c es et ev) (ls : Py.Le ev 12) (hu : Ff.Pv c w z (.slice ua un uc) Nb Ab β) (hNb : Nb ≤ 9) (hAb : 5292 * Ab ≤ 1099511627776) :
  Calls Tryz.prog 40 #[.agg #[.slice a n cap, .slice a' n cap', .slice ua un uc], .agg #[.int .u8 4, .complex .f64 ea eb, .complex .f64 es et, .float .f64 (Ff.pw en)]] w fun r w' => ∃ u, r = .returned (.tuple #[u, .int .i64 0]) ∧ Ff.Pv c w' z u (Nb + 2) (5292 * Ab) (Py.gm (Py.gm (Ff.sk (en : Int) ev) (Ff.prd (List.replicate (en - 1) ez) z)) β) ∧ Bw w w' := by
 have bA := bw_alloc w (.cells #[.slice a n cap, .slice a' n cap', .slice ua un uc] 76)
 have c0 : (w.alloc (.cells #[.slice a n cap, .slice a' n cap', .slice ua un uc] 76)).cell? ⟨w.heap.size, 0, none⟩ = some (.slice a n cap) := by simp
 have c1 : (w.alloc (.cells #[.slice a n cap, .slice a' n cap', .slice ua un uc] 76)).cell? ⟨w.heap.size, 1, none⟩ = some (.slice a' n cap') := by simp
 have c2 : (w.alloc (.cells #[.slice a n cap, .slice a' n cap', .slice ua un uc] 76)).cell? ⟨w.heap.size, 2, none⟩ = some (.slice ua un uc) := by simp
 have hW1 : (w.alloc (.cells #[.slice a n cap, .slice a' n cap', .slice ua un uc] 76)).heap.size = w.heap.size + 1 := by simp
 obtain ⟨W1, hW1e⟩ : ∃ v, v = w.alloc (.cells #[.slice a n cap, .slice a' n cap', .slice ua un uc] 76) := ⟨_, rfl⟩
 rw [← hW1e] at bA c0 c1 c2 hW1
 have bX := bw_alloc W1 (.cells #[.int .u8 4, .complex .f64 ea eb, .complex .f64 es et, .float .f64 (Ff.pw en)] 29)
 have x : ∀ i v, (#[.int .u8 4, .complex .f64 ea eb, .complex .f64 es et, .float .f64 (Ff.pw en)] : Array Value)[i]? = some v → (W1.alloc (.cells #[.int .u8 4, .complex .f64 ea eb, .complex .f64 es et, .float .f64 (Ff.pw en)] 29)).cell? ⟨W1.heap.size, i, none⟩ = some v := fun i v h => by
  rw [World.cell?_alloc_at _ _ _ _ rfl]; exact h
 have hW2 : W1.heap.size < (W1.alloc (.cells #[.int .u8 4, .complex .f64 ea eb, .complex .f64 es et, .float .f64 (Ff.pw en)] 29)).heap.size := by simp
 have hW3 : (W1.alloc (.cells #[.int .u8 4, .complex .f64 ea eb, .complex .f64 es et, .float .f64 (Ff.pw en)] 29)).heap.size = W1.heap.size + 1 := by simp
 obtain ⟨W, hWe⟩ : ∃ v, v = W1.alloc (.cells #[.int .u8 4, .complex .f64 ea eb, .complex .f64 es et, .float .f64 (Ff.pw en)] 29) := ⟨_, rfl⟩
 rw [← hWe] at bX x hW2 hW3
 have bW := bw_trans bA bX
 have SF := hide (fun wz (hb : Bw W wz) => (show wz.cell? ⟨w.heap.size, 0, none⟩ = some (.slice a n cap) ∧ wz.cell? ⟨w.heap.size, 1, none⟩ = some (.slice a' n cap') ∧ wz.cell? ⟨w.heap.size, 2, none⟩ = some (.slice ua un uc) ∧ wz.cell? ⟨W1.heap.size, 0, none⟩ = some (.int .u8 4) ∧ wz.cell? ⟨W1.heap.size, 1, none⟩ = some (.complex .f64 ea eb) ∧ wz.cell? ⟨W1.heap.size, 2, none⟩ = some (.complex .f64 es et) ∧ wz.cell? ⟨W1.heap.size, 3, none⟩ = some (.float .f64 (Ff.pw en)) from by
  have bb := bw_trans bX hb
  have h1 : w.heap.size < W1.heap.size := by omega
  exact ⟨(Below.cell bb (p := ⟨w.heap.size, 0, none⟩) h1).trans c0, (Below.cell bb (p := ⟨w.heap.size, 1, none⟩) h1).trans c1, (Below.cell bb (p := ⟨w.heap.size, 2, none⟩) h1).trans c2, (Below.cell hb (p := ⟨W1.heap.size, 0, none⟩) hW2).trans (x 0 _ rfl), (Below.cell hb (p := ⟨W1.heap.size, 1, none⟩) hW2).trans (x 1 _ rfl), (Below.cell hb (p := ⟨W1.heap.size, 2, none⟩) hW2).trans (x 2 _ rfl), (Below.cell hb (p := ⟨W1.heap.size, 3, none⟩) hW2).trans (x 3 _ rfl)⟩))
 have BW := hide bW
 have HW1e := hide hW1e
 have HWe := hide hWe
 have HW1 := hide hW1
 have HW3 := hide hW3
 have CC : Hid (c = 1074) := hc
 obtain ⟨q, hq⟩ : ∃ q, en - 1 = q := ⟨_, rfl⟩
 rw [hq]
 obtain ⟨r, s, hrs, hsc⟩ := pscale16 (p := Ff.pw en) (m := (en : Int)) (K := 3) hc ws (Ff.pw_wI hc (by omega)) ls (by omega) (by decide)
 have SC := hide hsc
 have RE := hide (fun wz => repeated16 ea eb q ez (by omega) wa wz)
 have CV := El.conv_run (Ff.pw_int hp2)
 have wr := hide (show IntKind.i64.wrap ((en : Int) - 1) = (q : Int) by rw [IntKind.wrap_i64]; omega)
 have TO := hide (fun (wz : World) (D : Nat) (hD : Gl c wz D 0 (List.replicate q ez)) => times16 (a := some ⟨D, 0, none⟩) (cap := q) (Z := 6) (S := 36) hc z (List.length_replicate) (by omega) (Or.inr ⟨D, 0, rfl, hD⟩) (fun i => by
  rcases Nat.lt_or_ge i q with h | h
  · rw [Ff.rep_co q i ez h]; exact la
  · rw [Py.co_out (by simpa using h)]; exact Py.Le.nought _) (by decide) (Nat.le_trans (Nat.mul_le_mul_left 36 (Nat.pow_le_pow_right (by decide) (show q ≤ 2 by omega))) (by decide)) (by decide) hrs (Ff.sk_le (K := 3) ls (by omega)))
 have HM := hide (fun (wz : World) (hb : Bw W wz) (v : Value) (hv : Ff.Pv c wz z v q (36 * (6 + 1) ^ q) (Py.gm (Ff.sk (en : Int) ev) (Ff.prd (List.replicate q ez) z))) => pmul16 hc (hv.mono (N' := 2) (A' := 1764) (by omega) (Nat.le_trans (Nat.mul_le_mul_left 36 (Nat.pow_le_pow_right (by decide) (show q ≤ 2 by omega))) (by decide))) (hu.bw (bw_trans bW hb)) (by omega) (by omega))
 clear bA bX x c0 c1 c2 hW1e hWe hW1 hW2 hW3 bW
 clear hu ws ls hc hAb wa la hp1 hp2 hq hrs hsc
 have S0 := SF.out W.drew (Bw.refl W).drew
 have Z0 := hide (Bw.refl W).drew
 go_enter Tryz.func40, Tryz.ntmps40
 go_wp2_with fail
 rw [← HW1e.out, ← HWe.out, ← HW1.out]
 refine wp_region_K (fun w' => w'.cell? ⟨w.heap.size, 0, none⟩ = some (.slice a n cap) ∧ w'.cell? ⟨w.heap.size, 1, none⟩ = some (.slice a' n cap') ∧ w'.cell? ⟨w.heap.size, 2, none⟩ = some (.slice ua un uc) ∧ w'.cell? ⟨W1.heap.size, 0, none⟩ = some (.int .u8 4) ∧ w'.cell? ⟨W1.heap.size, 1, none⟩ = some (.complex .f64 ea eb) ∧ w'.cell? ⟨W1.heap.size, 2, none⟩ = some (.complex .f64 es et) ∧ w'.cell? ⟨W1.heap.size, 3, none⟩ = some (.float .f64 (Ff.pw en))) 17 18 #[false, false, false, false, false, false, false, false, false, false, false, false, false, false, false, false, false, false] (by kernel_rfl) (by kernel_rfl) (by kernel_rfl) ?_
 generalize hWd : W.drew = Wd at *
 refine wpAnyK_take 0 55 (v := ?v0) rfl (by kernel_rfl) (by kernel_rfl) (by kernel_rfl) (by kernel_rfl) (by kernel_rfl) (fun _ _ _ h => h) rfl (Or.inl ⟨by rfl, ?h0⟩) (by assumption) ?r0
 case h0 => (intro w hSw; obtain ⟨s0, s1, s2, s3, s4, s5, s6⟩ := hSw; go_simp; with_reducible rfl)
 simp only [Act.put, List.setIfInBounds_toArray, List.set_cons_zero, List.set_cons_succ]
 refine wpAnyK_take 1 56 (v := ?v1) rfl (by kernel_rfl) (by kernel_rfl) (by kernel_rfl) (by kernel_rfl) (by kernel_rfl) (fun _ _ _ h => h) rfl (Or.inl ⟨by rfl, ?h1⟩) (by assumption) ?r1
 case h1 => (intro w hSw; obtain ⟨s0, s1, s2, s3, s4, s5, s6⟩ := hSw; go_simp; with_reducible rfl)
 simp only [Act.put, List.setIfInBounds_toArray, List.set_cons_zero, List.set_cons_succ]
 refine wpAnyK_take 2 57 (v := ?v2) rfl (by kernel_rfl) (by kernel_rfl) (by kernel_rfl) (by kernel_rfl) (by kernel_rfl) (fun _ _ _ h => h) rfl (Or.inl ⟨by rfl, ?h2⟩) (by assumption) ?r2
 case h2 => (intro w hSw; obtain ⟨s0, s1, s2, s3, s4, s5, s6⟩ := hSw; go_simp; with_reducible rfl)
 simp only [Act.put, List.setIfInBounds_toArray, List.set_cons_zero, List.set_cons_succ]
 refine wpAnyK_take 3 58 (v := ?v3) rfl (by kernel_rfl) (by kernel_rfl) (by kernel_rfl) (by kernel_rfl) (by kernel_rfl) (fun _ _ _ h => h) rfl (Or.inl ⟨by rfl, ?h3⟩) (by assumption) ?r3
 case h3 => (intro w hSw; obtain ⟨s0, s1, s2, s3, s4, s5, s6⟩ := hSw; go_simp; with_reducible rfl)
 simp only [Act.put, List.setIfInBounds_toArray, List.set_cons_zero, List.set_cons_succ]
 refine wpAnyK_take 5 60 (v := ?v5) rfl (by kernel_rfl) (by kernel_rfl) (by kernel_rfl) (by kernel_rfl) (by kernel_rfl) (fun _ _ _ h => h) rfl (Or.inl ⟨by rfl, ?h5⟩) (by assumption) ?r5
 case h5 => (intro w hSw; obtain ⟨s0, s1, s2, s3, s4, s5, s6⟩ := hSw; go_simp; with_reducible rfl)
 simp only [Act.put, List.setIfInBounds_toArray, List.set_cons_zero, List.set_cons_succ]
 refine wpAnyK_take 6 61 (v := ?v6) rfl (by kernel_rfl) (by kernel_rfl) (by kernel_rfl) (by kernel_rfl) (by kernel_rfl) (fun _ _ _ h => h) rfl (Or.inl ⟨by rfl, ?h6⟩) (by assumption) ?r6
 case h6 => (intro w hSw; obtain ⟨s0, s1, s2, s3, s4, s5, s6⟩ := hSw; go_simp; with_reducible rfl)
 simp only [Act.put, List.setIfInBounds_toArray, List.set_cons_zero, List.set_cons_succ]
 refine wpAnyK_take 7 62 (v := ?v7) rfl (by kernel_rfl) (by kernel_rfl) (by kernel_rfl) (by kernel_rfl) (by kernel_rfl) (fun _ _ _ h => h) rfl (Or.inl ⟨by rfl, ?h7⟩) (by assumption) ?r7
 case h7 => (intro w hSw; obtain ⟨s0, s1, s2, s3, s4, s5, s6⟩ := hSw; go_simp; with_reducible rfl)
 simp only [Act.put, List.setIfInBounds_toArray, List.set_cons_zero, List.set_cons_succ]
 refine wpAnyK_take 8 63 (v := ?v8) rfl (by kernel_rfl) (by kernel_rfl) (by kernel_rfl) (by kernel_rfl) (by kernel_rfl) (fun _ _ _ h => h) rfl (Or.inl ⟨by rfl, ?h8⟩) (by assumption) ?r8
 case h8 => (intro w hSw; obtain ⟨s0, s1, s2, s3, s4, s5, s6⟩ := hSw; go_simp; with_reducible rfl)
 simp only [Act.put, List.setIfInBounds_toArray, List.set_cons_zero, List.set_cons_succ]
 refine wpAnyK_take 9 64 (v := ?v9) rfl (by kernel_rfl) (by kernel_rfl) (by kernel_rfl) (by kernel_rfl) (by kernel_rfl) (fun _ _ _ h => h) rfl (Or.inl ⟨by rfl, ?h9⟩) (by assumption) ?r9
 case h9 => (intro w hSw; obtain ⟨s0, s1, s2, s3, s4, s5, s6⟩ := hSw; go_simp; with_reducible rfl)
 simp only [Act.put, List.setIfInBounds_toArray, List.set_cons_zero, List.set_cons_succ]
 refine wpAnyK_take 10 65 (v := ?v10) rfl (by kernel_rfl) (by kernel_rfl) (by kernel_rfl) (by kernel_rfl) (by kernel_rfl) (fun _ _ _ h => h) rfl (Or.inl ⟨by rfl, ?h10⟩) (by assumption) ?r10
 case h10 => (intro w hSw; obtain ⟨s0, s1, s2, s3, s4, s5, s6⟩ := hSw; go_simp; with_reducible rfl)
 simp only [Act.put, List.setIfInBounds_toArray, List.set_cons_zero, List.set_cons_succ]
 refine wpAnyK_one 4 (by kernel_rfl) rfl (fun K hK => ?_)
 go_simp
 go_wp2_with (go_at_call 66; refine (SC.out _).mono ?_; rintro e' w7 ⟨rfl, hw7⟩; subst hw7)
 refine hK.out _ _ (fun _ _ => S0) ?_
 clear hK K
 simp only [List.setIfInBounds_toArray, List.set_cons_zero, List.set_cons_succ]
 refine wpAnyK_one 11 (by kernel_rfl) rfl (fun K hK => ?_)
 go_simp
 go_wp2_with (go_at_call 68; rw [wr.out]; refine (RE.out _).mono ?_; rintro e' w9 ⟨rfl, hp9, b9⟩; have b09 := bw_trans Z0.out b9; have T9 := hide (TO.out _ _ hp9))
 refine hK.out _ _ (fun _ _ => SF.out _ b09) ?_
 clear hK K
 simp only [List.setIfInBounds_toArray, List.set_cons_zero, List.set_cons_succ]
 refine wpAnyK_one 12 (by kernel_rfl) rfl (fun K hK => ?_)
 go_simp
 go_wp2_with (go_at_call 65; refine T9.out.mono ?_; rintro e' w11 ⟨u, rfl, hu11, b11⟩; have b011 := bw_trans b09 b11)
 refine hK.out _ _ (fun _ _ => SF.out _ b011) ?_
 clear hK K
 simp only [List.setIfInBounds_toArray, List.set_cons_zero, List.set_cons_succ]
 have S11 := SF.out _ b011
 refine wpAnyK_take 13 54 (v := ?v13) rfl (by kernel_rfl) (by kernel_rfl) (by kernel_rfl) (by kernel_rfl) (by kernel_rfl) (fun _ _ _ h => h) rfl (Or.inl ⟨by rfl, ?h13⟩) (by assumption) ?r13
 case h13 => (intro w hSw; obtain ⟨s0, s1, s2, s3, s4, s5, s6⟩ := hSw; go_simp; with_reducible rfl)
 simp only [Act.put, List.setIfInBounds_toArray, List.set_cons_zero, List.set_cons_succ]
 refine wpAnyK_take 14 68 (v := ?v14) rfl (by kernel_rfl) (by kernel_rfl) (by kernel_rfl) (by kernel_rfl) (by kernel_rfl) (fun _ _ _ h => h) rfl (Or.inl ⟨by rfl, ?h14⟩) (by assumption) ?r14
 case h14 => (intro w hSw; obtain ⟨s0, s1, s2, s3, s4, s5, s6⟩ := hSw; go_simp; with_reducible rfl)
 simp only [Act.put, List.setIfInBounds_toArray, List.set_cons_zero, List.set_cons_succ]
 refine wpAnyK_take 15 69 (v := ?v15) rfl (by kernel_rfl) (by kernel_rfl) (by kernel_rfl) (by kernel_rfl) (by kernel_rfl) (fun _ _ _ h => h) rfl (Or.inl ⟨by rfl, ?h15⟩) (by assumption) ?r15
 case h15 => (intro w hSw; obtain ⟨s0, s1, s2, s3, s4, s5, s6⟩ := hSw; go_simp; with_reducible rfl)
 simp only [Act.put, List.setIfInBounds_toArray, List.set_cons_zero, List.set_cons_succ]
 refine wpAnyK_one 16 (by kernel_rfl) rfl (fun K hK => ?_)
 go_simp
 refine hK.out _ _ (fun _ _ => SF.out _ b011) ?_
 clear hK K
 simp only [List.setIfInBounds_toArray, List.set_cons_zero, List.set_cons_succ]
 refine wpAnyK_one 17 (by kernel_rfl) rfl (fun K hK => ?_)
 go_simp
 refine hK.out _ _ (fun h => absurd rfl h) ?_
 clear hK K
 simp only [List.setIfInBounds_toArray, List.set_cons_zero, List.set_cons_succ]
 refine wpAnyK_done (by kernel_rfl) ?_ _
 have M11 := hide (HM.out _ b011 u hu11)
 have R := hide b011
 obtain ⟨s0, s1, s2, s3, s4, s5, s6⟩ := S11
 obtain ⟨u1, u2, u3, rfl⟩ := hu11.form
 clear hu11 b11 b011 b9 b09 hp9 S0 TO SC T9 RE HM
 go_wp2_with fail
 refine M11.out.mono ?_
 rintro e' w13 ⟨u, rfl, hu13, b13⟩
 have R2 := hide (And.intro (hu13.mono (N' := Nb + 2) (A' := 5292 * Ab) (by omega) (by omega)) (bw_trans (bw_trans BW.out R.out) b13))
 clear hu13 b13 M11
 go_wp2
 go_ret2
 exact ⟨u, rfl, R2.out⟩
end Go.Proofs.YtjpllggchjgjpaaGreat

/-
 OWN TEXT: package flow over whole complex numbers: which flows may be; no broken corner.
-/
namespace Go.Proofs.YtjpllggchjgjpaaGreat
open Go.ChangeShapes Go.WideShapes Go.ChangeAt Go.RowKit
set_option linter.unusedVariables false
set_option linter.unusedSimpArgs false
attribute [local go_sem] frombits_call tobits_call run_neg run_store_cx El.run_store_fl
namespace Ff
theorem pw_facts : ∀ k : Fin 4, El.wi (pw k.val) = true ∧ pw k.val < 18446744073709551616 ∧ (k.val = 0 → Fl.eqF (pw k.val) 0 = true) ∧ (1 ≤ k.val → (El.wh (pw k.val) && Fl.leF 4607182418800017408 (pw k.val) && Fl.leF (pw k.val) 4620693217682128896) = true ∧ (Fl.leF 4598175219545276416 (pw k.val) && Fl.leF (pw k.val) 4616189618054758400) = true ∧ El.wh (pw k.val) = true) := by decide +kernel
/-- what kind of thing an element is told to be -/
def Fe.kind (e : Fe) : Value := if e.k = 1 then .iface 117 e.val else if e.k = 3 then .iface 129 e.val else .iface 118 e.val
theorem Fe.ok.known {c : Nat} {e : Fe} (h : e.ok c) (w : World) : Calls Tryz.prog 53 #[El.E e.k e.a e.b e.s e.t (pw e.n)] w fun r w' => r = .returned (.tuple #[e.kind, .int .i64 0]) ∧ Bw w w' := by
 obtain ⟨f1, f2, f3, f4⟩ := pw_facts ⟨e.n, by have := h.n3; omega⟩
 have n1 : e.at_.1.natAbs ≤ 100000 ∧ e.at_.2.natAbs ≤ 100000 := ⟨by have := h.la.1; omega, by have := h.la.2; omega⟩
 have n2 : e.st.1.natAbs ≤ 100000 ∧ e.st.2.natAbs ≤ 100000 := ⟨by have := h.ls.1; omega, by have := h.ls.2; omega⟩
 unfold Fe.kind Fe.val
 rcases h.kd with ⟨k1, k2, k3, k4, _⟩ | ⟨k1, k2, k3⟩ | ⟨k1, k2, k3⟩
 ·
  rw [k1, if_pos rfl]
  refine kn1_ok h.pa.1 h.pa.2 h.ps.1 h.ps.2 n1 n2 f2 f1 ?_ w
  rw [k2, k3]
  have := f3 k4
  rw [this]
  decide +kernel
 ·
  rw [k1, if_neg (by decide), if_pos rfl]
  exact kn3_ok h.pa.1 h.pa.2 h.ps.1 h.ps.2 n1 n2 f2 f1 (f4 k2).1 w
 ·
  rw [k1, if_neg (by decide), if_neg (by decide)]
  exact kn4_ok h.pa.1 h.pa.2 h.ps.1 h.ps.2 n1 n2 f2 f1 (f4 k2).2.1 w
end Ff
theorem echeck16 {c : Nat} {e : Ff.Fe} (h : e.ok c) (w : World) : Calls Tryz.prog 42 #[.agg #[.int .u8 e.k, .complex .f64 e.a e.b, .complex .f64 e.s e.t, .float .f64 (Ff.pw e.n)]] w fun r w' => r = .returned (.int .i64 0) ∧ Bw w w' :=
 check_er e.k e.a e.b e.s e.t (Ff.pw e.n) 0 e.kind w (fun wz => h.known wz)
set_option maxHeartbeats 8000000 in
theorem broken16 {c : Nat} {w : World} {a : Option Addr} {cap n : Nat} {es : List Ff.Fe} (hn : es.length = n) (hm : n ≤ 3) (hE : Ff.Es w a es) (ho : ∀ e ∈ es, e.ok c) :
  Calls Tryz.prog 38 #[.slice a n cap] w fun e w' => e = .returned (.bool false) ∧ Bw w w' := by
 have HN := hide hn
 have HE := hide hE
 have HO := hide ho
 clear hn hE ho
 go_enter Tryz.func38, Tryz.ntmps38
 go_wp2
 go_loopw [7] (fun i wr => ∃ (k : Nat), k ≤ n ∧ i = .int .i64 k ∧ Bw w wr) (fun i _ => n - (intOf i).toNat)
 case atStart => exact ⟨0, Nat.zero_le _, rfl, Bw.refl _⟩
 case round =>
  obtain ⟨k, hk, rfl, hbw⟩ := hrel
  by_cases hk1 : k < n
  ·
   have hk2 : (k : Int) < n := by omega
   obtain ⟨e, he⟩ : ∃ e, es[k]? = some e := ⟨es[k]'(by have := HN.out; omega), by simp [show k < es.length by have := HN.out; omega]⟩
   have hok := HO.out e (List.mem_of_getElem? he)
   obtain ⟨b, o, rfl, _, hcell⟩ := (HE.out.bw hbw).resolve_left (by have := HN.out; omega)
   obtain ⟨e0, e1, e2, e3⟩ := hcell k e he
   have bX := bw_alloc wr (.cells #[.int .u8 e.k, .complex .f64 e.a e.b, .complex .f64 e.s e.t, .float .f64 (Ff.pw e.n)] 29)
   have R := hide (bw_trans hbw bX)
   have WH := hide (fun wz => whole16 e.n hok.n3 wz)
   have KD := hide hok.kd
   clear hcell hok hbw bX
   by_cases q : e.k = 4
   ·
    rw [q] at e0
    obtain ⟨ek, ea, eb, es', et, en, ez, ev⟩ := e
    simp only at q e0 e1 e2 e3 R WH KD
    subst q
    go_wp2_with fail
    refine (WH.out _).mono ?_
    rintro e' w5 ⟨rfl, hw5⟩
    subst hw5
    clear e0 e1 e2 e3 WH
    go_wp2
    go_roundw
    case rel => exact ⟨k + 1, by omega, by simp, R.out⟩
    case measure => simp [intOf]; omega
   ·
    go_wp2
    go_roundw
    case rel => exact ⟨k + 1, by omega, by simp, R.out⟩
    case measure => simp [intOf]; omega
  ·
   have hk3 : k = n := by omega
   subst hk3
   go_wp2
   go_ret
   exact ⟨rfl, hbw⟩
set_option maxHeartbeats 8000000 in
theorem fcheck16 {c : Nat} {w : World} {a : Option Addr} {cap n : Nat} {es : List Ff.Fe} (hn : es.length = n) (hm : n ≤ 3) (hE : Ff.Es w a es) (ho : ∀ e ∈ es, e.ok c) :
  Calls Tryz.prog 19 #[.agg #[.slice a n cap]] w fun e w' => e = .returned (.int .i64 0) ∧ Bw w w' := by
 have bA := bw_alloc w (.cells #[.slice a n cap] 24)
 have c0 : (w.alloc (.cells #[.slice a n cap] 24)).cell? ⟨w.heap.size, 0, none⟩ = some (.slice a n cap) := by simp
 have HN := hide hn
 have HE := hide (hE.bw bA)
 have HO := hide ho
 have h256 : ¬ (256 : Int) < (n : Int) := by omega
 clear hn hE ho
 go_enter Tryz.func19, Tryz.ntmps19
 go_wp2
 go_wp2
 generalize w.alloc (.cells #[.slice a n cap] 24) = W at *
 go_loopw [13] (fun i wr => ∃ (k : Nat), k ≤ n ∧ i = .int .i64 k ∧ Bw W wr) (fun i _ => n - (intOf i).toNat)
 case atStart => exact ⟨0, Nat.zero_le _, rfl, Bw.refl _⟩
 case round =>
  obtain ⟨k, hk, rfl, hbw⟩ := hrel
  by_cases hk1 : k < n
  ·
   have hk2 : (k : Int) < n := by omega
   obtain ⟨e, he⟩ : ∃ e, es[k]? = some e := ⟨es[k]'(by have := HN.out; omega), by simp [show k < es.length by have := HN.out; omega]⟩
   have hok := HO.out e (List.mem_of_getElem? he)
   obtain ⟨b, o, rfl, _, hcell⟩ := (HE.out.bw hbw).resolve_left (by have := HN.out; omega)
   obtain ⟨e0, e1, e2, e3⟩ := hcell k e he
   have bX := bw_alloc wr (.cells #[.int .u8 e.k, .complex .f64 e.a e.b, .complex .f64 e.s e.t, .float .f64 (Ff.pw e.n)] 29)
   have R := hide (bw_trans hbw bX)
   have CK := hide (fun wz => echeck16 hok wz)
   clear hcell hok hbw bX
   go_wp2_with fail
   refine (CK.out _).mono ?_
   rintro e' w5 ⟨rfl, b5⟩
   have R2 := hide (bw_trans R.out b5)
   clear e0 e1 e2 e3 CK b5
   go_wp2
   go_roundw
   case rel => exact ⟨k + 1, by omega, by simp, R2.out⟩
   case measure => simp [intOf]; omega
  ·
   have hk3 : k = n := by omega
   subst hk3
   go_wp2
   go_ret
   exact ⟨rfl, bw_trans bA hbw⟩
end Go.Proofs.YtjpllggchjgjpaaGreat

/-
 OWN TEXT: package flow over whole complex numbers: the top of an element's speed, of whatever kind; the fraction.
-/
namespace Go.Proofs.YtjpllggchjgjpaaGreat
open Go.ChangeShapes Go.WideShapes Go.ChangeAt Go.RowKit
set_option linter.unusedVariables false
set_option linter.unusedSimpArgs false
attribute [local go_sem] frombits_call tobits_call run_neg run_store_cx El.run_store_fl
namespace Ff
def partv (cs : List (Py.G × Nat)) (z β : Py.G) (e : Fe) : Py.G :=
 if e.k = 1 then Py.gm e.st β else if e.k = 3 then Py.gm (sk (-(e.n : Int)) e.st) (prd (rl (cut cs e.at_ (e.n + 1))) z) else Py.gm (Py.gm (sk (e.n : Int) e.st) (prd (List.replicate (e.n - 1) e.at_) z)) β
/-- degrees and coefficients of the tops -/
def Bnd (M N A : Nat) (es : List Fe) : Prop := (M ≤ 6 ∧ N = 8 ∧ A = 622598508) ∨ (M ≤ 9 ∧ N = 7 ∧ A = 19765032 ∧ ∀ e ∈ es, e.k = 3)
theorem Bnd.small {M N A : Nat} {es : List Fe} (h : Bnd M N A es) : M ≤ 9 ∧ A ≤ 622598508 ∧ N ≤ 8 := by rcases h with h | h <;> omega
theorem pow7 {m n : Nat} (h : m ≤ n) : 7 ^ m ≤ 7 ^ n := Nat.pow_le_pow_right (by decide) h
end Ff
theorem part16 {c : Nat} (hc : c = 1074) {w : World} {a a' ua : Option Addr} {cap cap' n un uc N A : Nat} {cs : List (Py.G × Nat)} {z β : Py.G} {es : List Ff.Fe} {e : Ff.Fe} (hok : e.ok c) (he : e ∈ es) (hh : e.k = 3 → Ff.Held cs e.at_ (e.n + 1)) (hn : cs.length = n) (hm : n ≤ 60) (hP : Ff.Pl c w a (cs.map Prod.fst)) (hF : Ff.Ni w a' (cs.map Prod.snd)) (hcs : ∀ p ∈ cs, (p.1.1.natAbs ≤ 4 ∧ p.1.2.natAbs ≤ 4) ∧ p.2 ≤ 3)
  (hu : Ff.Pv c w z (.slice ua un uc) (Ff.rl cs).length (7 ^ (Ff.rl cs).length) β) (hb : Ff.Bnd (Ff.rl cs).length N A es) :
  Calls Tryz.prog 40 #[.agg #[.slice a n cap, .slice a' n cap', .slice ua un uc], .agg #[.int .u8 e.k, .complex .f64 e.a e.b, .complex .f64 e.s e.t, .float .f64 (Ff.pw e.n)]] w fun r w' => ∃ u, r = .returned (.tuple #[u, .int .i64 0]) ∧ Ff.Pv c w' z u N A (Ff.partv cs z β e) ∧ Bw w w' := by
 obtain ⟨M, hM⟩ : ∃ M, (Ff.rl cs).length = M := ⟨_, rfl⟩
 rw [hM] at hu hb
 have hM9 := hb.small.1
 have hAb : 5292 * 7 ^ M ≤ 1099511627776 := Nat.le_trans (Nat.mul_le_mul_left _ (Ff.pow7 hM9)) (by decide)
 unfold Ff.partv
 rcases hok.kd with ⟨k1, _⟩ | ⟨k1, k2, k3⟩ | ⟨k1, k2, k3⟩
 ·
  rw [if_pos k1, k1]
  rcases hb with ⟨h1, rfl, rfl⟩ | ⟨_, _, _, h⟩
  ·
   refine (part_s (cs := cs) (ez := e.at_) hc hok.ws hok.lst hu hM9 hAb).mono fun r w' q => ?_
   obtain ⟨u, q1, q2, q3⟩ := q
   exact ⟨u, q1, q2.mono (by omega) (Nat.le_trans (Nat.mul_le_mul_left 12 (Ff.pow7 h1)) (by decide)), q3⟩
  · have := h e he; omega
 ·
  rw [if_neg (by omega), if_pos k1, k1]
  refine (part_d hc hn hm hP hF hok.wa k2 k3 (hh k1) hcs hM hok.ws hok.lst hu hM9 hAb).mono fun r w' q => ?_
  obtain ⟨u, q1, q2, q3⟩ := q
  refine ⟨u, q1, ?_, q3⟩
  rcases hb with ⟨h1, rfl, rfl⟩ | ⟨h1, rfl, rfl, _⟩
  · exact q2.mono (by omega) (Nat.le_trans (Nat.mul_le_mul_left 24 (Ff.pow7 (show M - (e.n + 1) ≤ 6 by omega))) (by decide))
  · exact q2.mono (by omega) (Nat.le_trans (Nat.mul_le_mul_left 24 (Ff.pow7 (show M - (e.n + 1) ≤ 7 by omega))) (by decide))
 ·
  rw [if_neg (by omega), if_neg (by omega), k1]
  rcases hb with ⟨h1, rfl, rfl⟩ | ⟨_, _, _, h⟩
  ·
   refine (part_c (cs := cs) hc hok.wa hok.lat k2 k3 hok.ws hok.lst hu hM9 hAb).mono fun r w' q => ?_
   obtain ⟨u, q1, q2, q3⟩ := q
   exact ⟨u, q1, q2.mono (by omega) (Nat.le_trans (Nat.mul_le_mul_left 5292 (Ff.pow7 h1)) (by decide)), q3⟩
  · have := h e he; omega
namespace Ff
/-- the sum of the tops -/
def sumv (cs : List (Py.G × Nat)) (z β : Py.G) (es : List Fe) : Py.G := es.foldl (fun g e => Py.ga g (partv cs z β e)) (0, 0)
theorem sumv_succ {cs : List (Py.G × Nat)} {z β : Py.G} {es : List Fe} {i : Nat} {e : Fe} (h : es[i]? = some e) : sumv cs z β (es.take (i + 1)) = Py.ga (sumv cs z β (es.take i)) (partv cs z β e) := by
 unfold sumv
 rw [List.take_add_one, h, List.foldl_append]
 rfl
theorem res_frac {fn : Func} {i j l : Tmp} (hr : fn.results = #[.cell i 45, .tmp j, .tmp l]) (tmps : Array Value) (w : World) (B : Nat) {x y : Value} (hi : tmps.getD i undef = .pointer (some ⟨B, 0, none⟩)) (h0 : w.cell? ⟨B, 0, none⟩ = some x) (h1 : w.cell? ⟨B, 1, none⟩ = some y) : (results fn tmps).run Tryz.prog w = .ok (.tuple #[.agg #[x, y], tmps.getD j undef, tmps.getD l undef]) w := by
 have hi' : tmps[i]?.getD undef = .pointer (some ⟨B, 0, none⟩) := by simpa using hi
 have hl : (loadVar 45 ⟨B, 0, none⟩).run Tryz.prog w = .ok (.agg #[x, y]) w := by
  refine run_loadVar_mid w B 0 45 [x, y] _ (fun j v hv => ?_) Tryz.underlying45 rfl (by kernel_rfl)
  match j, hv with
  | 0, hv => cases hv; exact h0
  | 1, hv => cases hv; exact h1
 simp [results, hr, hi', asAddr, hl]
end Ff
set_option maxHeartbeats 16000000 in
theorem fraction16 {c : Nat} (hc : c = 1074) {w : World} {a : Option Addr} {cap n N A : Nat} {es : List Ff.Fe} (z : Py.G) (hn : es.length = n) (hm : n ≤ 3) (hE : Ff.Es w a es) (ho : ∀ e ∈ es, e.ok c) (hB : Ff.Bnd (Ff.rl (Ff.cm es)).length N A es) :
  Calls Tryz.prog 17 #[.agg #[.slice a n cap]] w fun e w' => ∃ vT vB, e = .returned (.tuple #[.agg #[vT, vB], .bool true, .int .i64 0]) ∧
   Ff.Pv c w' z vT N (3 * A) (Ff.sumv (Ff.cm es) z (Ff.prd (Ff.rl (Ff.cm es)) z) es) ∧ Ff.Pv c w' z vB (Ff.rl (Ff.cm es)).length (7 ^ (Ff.rl (Ff.cm es)).length) (Ff.prd (Ff.rl (Ff.cm es)) z) ∧ Bw w w' := by
 have bA := bw_alloc w (.cells #[.slice a n cap] 24)
 have c0 : (w.alloc (.cells #[.slice a n cap] 24)).cell? ⟨w.heap.size, 0, none⟩ = some (.slice a n cap) := by simp
 have hs1 : (w.alloc (.cells #[.slice a n cap] 24)).heap.size = w.heap.size + 1 := by simp
 obtain ⟨W1, hW1⟩ : ∃ v, v = w.alloc (.cells #[.slice a n cap] 24) := ⟨_, rfl⟩
 rw [← hW1] at bA c0 hs1
 have b2 := bw_alloc W1 (.cells #[.slice none 0 0, .slice none 0 0] 45)
 have r0 : (W1.alloc (.cells #[.slice none 0 0, .slice none 0 0] 45)).cell? ⟨W1.heap.size, 0, none⟩ = some (.slice none 0 0) := by simp
 have r1 : (W1.alloc (.cells #[.slice none 0 0, .slice none 0 0] 45)).cell? ⟨W1.heap.size, 1, none⟩ = some (.slice none 0 0) := by simp
 have rz := Ff.fz_new W1 #[.slice none 0 0, .slice none 0 0] 45
 have hs2 : (W1.alloc (.cells #[.slice none 0 0, .slice none 0 0] 45)).heap.size = W1.heap.size + 1 := by simp
 obtain ⟨W2, hW2⟩ : ∃ v, v = W1.alloc (.cells #[.slice none 0 0, .slice none 0 0] 45) := ⟨_, rfl⟩
 rw [← hW2] at b2 r0 r1 rz hs2
 have bW := bw_trans bA b2
 have SF := hide (fun wz (hb : Bw W2 wz) => (show wz.cell? ⟨w.heap.size, 0, none⟩ = some (.slice a n cap) ∧ wz.cell? ⟨W1.heap.size, 0, none⟩ = some (.slice none 0 0) ∧ wz.cell? ⟨W1.heap.size, 1, none⟩ = some (.slice none 0 0) ∧ wz.frozen? ⟨W1.heap.size, 0, none⟩ = false ∧ wz.frozen? ⟨W1.heap.size, 1, none⟩ = false from by
  have h1 : w.heap.size < W1.heap.size := by omega
  have h2 : W1.heap.size < W2.heap.size := by omega
  exact ⟨(Below.cell (bw_trans b2 hb) (p := ⟨w.heap.size, 0, none⟩) h1).trans c0, (Below.cell hb (p := ⟨W1.heap.size, 0, none⟩) h2).trans r0, (Below.cell hb (p := ⟨W1.heap.size, 1, none⟩) h2).trans r1, (Below.frozen hb (p := ⟨W1.heap.size, 0, none⟩) h2).trans (rz 0), (Below.frozen hb (p := ⟨W1.heap.size, 1, none⟩) h2).trans (rz 1)⟩))
 have CK := hide (fcheck16 (cap := cap) hn hm (hE.bw bW) ho)
 have BR := hide (fun wz (hb : Bw w wz) => broken16 (cap := cap) hn hm (hE.bw hb) ho)
 have CM := hide (fun wz (hb : Bw w wz) => common16 hc (cap := cap) z hn hm (hE.bw hb) ho)
 have HE := hide hE
 have HO := hide ho
 have HN := hide hn
 have HB := hide hB
 have HC := hide hc
 have BW := hide bW
 have SZ := hide (And.intro hs1 hs2)
 have HW1 := hide hW1
 have HW2 := hide hW2
 obtain ⟨s0, s1, s2, s3, s4⟩ := SF.out W2 (Bw.refl W2)
 have S1' := hide hs1
 clear bA c0 hs1 b2 r0 r1 rz hs2 bW hE ho hn hB hc hW1 hW2
 go_enter Tryz.func17, Tryz.ntmps17
 go_wp2_with fail
 rw [← HW1.out, ← HW2.out, ← S1'.out]
 refine CK.out.mono ?_
 rintro e' w3 ⟨rfl, b3⟩
 have BR2 := hide (BR.out _ (bw_trans BW.out b3))
 obtain ⟨s0, s1, s2, s3, s4⟩ := SF.out w3 b3
 clear CK BR
 go_wp2_with fail
 refine BR2.out.mono ?_
 rintro e' w4 ⟨rfl, b4⟩
 have b34 := bw_trans b3 b4
 have CM2 := hide (CM.out _ (bw_trans BW.out b34))
 obtain ⟨s0, s1, s2, s3, s4⟩ := SF.out w4 b34
 clear BR2 CM b3 b4
 go_wp2_with fail
 refine CM2.out.mono ?_
 rintro e' w5 ⟨p, cp, q, cq, u, rfl, hpl, hni, hpv, b5, hiu⟩
 have b345 := bw_trans b34 b5
 obtain ⟨ua, un, uc, rfl⟩ := hpv.form
 obtain ⟨s0, s1, s2, s3, s4⟩ := SF.out w5 b345
 have bC := bw_alloc w5 (.cells #[.slice p (Ff.cm es).length cp, .slice q (Ff.cm es).length cq, .slice ua un uc] 76)
 have bT := bw_alloc (w5.alloc (.cells #[.slice p (Ff.cm es).length cp, .slice q (Ff.cm es).length cq, .slice ua un uc] 76)) (.cells #[.complex .f64 0 0] 26)
 have sC : (w5.alloc (.cells #[.slice p (Ff.cm es).length cp, .slice q (Ff.cm es).length cq, .slice ua un uc] 76)).heap.size = w5.heap.size + 1 := by simp
 have g0 : (w5.alloc (.cells #[.slice p (Ff.cm es).length cp, .slice q (Ff.cm es).length cq, .slice ua un uc] 76)).cell? ⟨w5.heap.size, 0, none⟩ = some (.slice p (Ff.cm es).length cp) := by simp
 have g1 : (w5.alloc (.cells #[.slice p (Ff.cm es).length cp, .slice q (Ff.cm es).length cq, .slice ua un uc] 76)).cell? ⟨w5.heap.size, 1, none⟩ = some (.slice q (Ff.cm es).length cq) := by simp
 have g2 : (w5.alloc (.cells #[.slice p (Ff.cm es).length cp, .slice q (Ff.cm es).length cq, .slice ua un uc] 76)).cell? ⟨w5.heap.size, 2, none⟩ = some (.slice ua un uc) := by simp
 have bCT := bw_trans bC bT
 have b6 := bw_trans b345 bCT
 have gT := hide (Ff.gl_one (c := c) (z := (0, 0)) (w5.alloc (.cells #[.slice p (Ff.cm es).length cp, .slice q (Ff.cm es).length cq, .slice ua un uc] 76)) 26 (wC.nought c))
 obtain ⟨s0, s1, s2, s3, s4⟩ := SF.out _ b6
 obtain ⟨W6, hW6⟩ : ∃ v, v = (w5.alloc (.cells #[.slice p (Ff.cm es).length cp, .slice q (Ff.cm es).length cq, .slice ua un uc] 76)).alloc (.cells #[.complex .f64 0 0] 26) := ⟨_, rfl⟩
 have HG := hide (show W6.cell? ⟨w5.heap.size, 0, none⟩ = some (.slice p (Ff.cm es).length cp) ∧ W6.cell? ⟨w5.heap.size, 1, none⟩ = some (.slice q (Ff.cm es).length cq) ∧ W6.cell? ⟨w5.heap.size, 2, none⟩ = some (.slice ua un uc) ∧ w5.heap.size < W6.heap.size from by
  have h1 : w5.heap.size < (w5.alloc (.cells #[.slice p (Ff.cm es).length cp, .slice q (Ff.cm es).length cq, .slice ua un uc] 76)).heap.size := by omega
  rw [hW6]
  exact ⟨(Below.cell bT (p := ⟨w5.heap.size, 0, none⟩) h1).trans g0, (Below.cell bT (p := ⟨w5.heap.size, 1, none⟩) h1).trans g1, (Below.cell bT (p := ⟨w5.heap.size, 2, none⟩) h1).trans g2, Nat.lt_of_lt_of_le h1 bT.size⟩)
 have HF := hide (show Ff.Pl c W6 p ((Ff.cm es).map Prod.fst) ∧ Ff.Ni W6 q ((Ff.cm es).map Prod.snd) ∧ Ff.Pv c W6 z (.slice ua un uc) (Ff.rl (Ff.cm es)).length (7 ^ (Ff.rl (Ff.cm es)).length) (Ff.prd (Ff.rl (Ff.cm es)) z) ∧ Bw W2 W6 ∧ Ff.Pv c W6 z (.slice (some ⟨w5.heap.size + 1, 0, none⟩) 1 1) 0 0 (0, 0) from by
  rw [hW6]
  refine ⟨hpl.bw bCT, hni.bw bCT, hpv.bw bCT, b6, ⟨w5.heap.size + 1, 0, 0, 1, [(0, 0)], rfl, Ff.may_c _ (Py.Le.nought _), Nat.le_refl _, by rw [← sC]; exact gT.out, fun i => Ff.co_c _ 0 i (Py.Le.nought _), Ff.ev_c _ z⟩⟩)
 have HU := hide hiu
 have H25 := hide b345.size
 have H24 := hide b34.size
 have HW6 := hide hW6
 have HSC := hide sC
 clear CM2 bC bT sC g0 g1 g2 bCT gT hpl hni hpv b5 hiu b34 b345 hW6
 go_wp2
 rw [← HW6.out] at *
 clear HW6 b6
 obtain ⟨C0, hC0⟩ : ∃ C0, w5.heap.size = C0 := ⟨_, rfl⟩
 rw [hC0] at HG HF ⊢
 obtain ⟨cs, hcs⟩ : ∃ cs, Ff.cm es = cs := ⟨_, rfl⟩
 obtain ⟨β, hβ⟩ : ∃ β, Ff.prd (Ff.rl cs) z = β := ⟨_, rfl⟩
 have HCS := hide hcs
 have Hβ := hide hβ
 have HCA := hide (Ff.cm_all (es := es) HO.out)
 have HHE := hide (fun (e : Ff.Fe) (he : e ∈ es) (hk : e.k = 3) => Ff.held_cm he hk)
 rw [hcs] at HF HG HB HCA HHE ⊢
 rw [hβ] at HF
 have HC0 := hide hC0
 have HAN := hide HB.out.small
 have HLN := hide (show cs.length ≤ 60 by have := HCA.out.1; have := HN.out; omega)
 clear hC0 hcs hβ s0 s1 s2 s3 s4
 go_loopw [8, 37] (fun vT i wr => ∃ k : Nat, k ≤ n ∧ i = .int .i64 k ∧ Ff.Pv c wr z vT N (k * A) (Ff.sumv cs z β (es.take k)) ∧ (∀ g, vT.ownBlock = some g → W2.heap.size ≤ g) ∧ Bw W6 wr) (fun _ i _ => n - (intOf i).toNat)
 case atStart =>
  refine ⟨0, Nat.zero_le _, rfl, HF.out.2.2.2.2.mono (Nat.zero_le _) (Nat.zero_le _), fun g e => ?_, Bw.refl _⟩
  simp only [Value.ownBlock, Option.some.injEq] at e
  have := H25.out
  have := HC0.out
  omega
 case round =>
  obtain ⟨k, hk, rfl, hT, hown, hb⟩ := hrel
  obtain ⟨hg0, hg1, hg2, hgl⟩ := HG.out
  obtain ⟨hpl, hni, hpv, b26, _⟩ := HF.out
  have b2r := bw_trans b26 hb
  by_cases hk1 : k < n
  ·
   have hk2 : (k : Int) < n := by omega
   obtain ⟨e, he⟩ : ∃ e, es[k]? = some e := ⟨es[k]'(by have := HN.out; omega), by simp [show k < es.length by have := HN.out; omega]⟩
   have hem := List.mem_of_getElem? he
   obtain ⟨b, o, rfl, _, hcell⟩ := (HE.out.bw (bw_trans BW.out b2r)).resolve_left (by have := HN.out; omega)
   obtain ⟨e0, e1, e2, e3⟩ := hcell k e he
   have bX := bw_alloc wr (.cells #[.int .u8 e.k, .complex .f64 e.a e.b, .complex .f64 e.s e.t, .float .f64 (Ff.pw e.n)] 29)
   have bX2 := bw_trans hb bX
   have q0 := (Below.cell bX2 (p := ⟨C0, 0, none⟩) hgl).trans hg0
   have q1 := (Below.cell bX2 (p := ⟨C0, 1, none⟩) hgl).trans hg1
   have q2 := (Below.cell bX2 (p := ⟨C0, 2, none⟩) hgl).trans hg2
   have PT := hide (part16 (cap := cp) (cap' := cq) HC.out (HO.out e hem) hem (HHE.out e hem) rfl HLN.out (hpl.bw bX2) (hni.bw bX2) HCA.out.2 (hpv.bw bX2) HB.out)
   have HS := hide (Ff.sumv_succ (cs := cs) (z := z) (β := β) he)
   obtain ⟨ta, tn, tc, rfl⟩ := hT.form
   have AD := hide (fun (wz : World) (u : Value) (hz : Bw wr wz) (hu : Ff.Pv c wz z u N A (Ff.partv cs z β e)) => padd16 HC.out (hT.bw hz) hu (by
    have h1 := HAN.out.2.1
    have h2 : k * A ≤ 3 * A := Nat.mul_le_mul_right _ (by omega)
    omega))
   have KB := hide (And.intro hb (And.intro bX b2r))
   clear hcell hem hg0 hg1 hg2 hpl hni hpv bX2 b2r hb bX hT hown
   go_wp2_with fail
   refine PT.out.mono ?_
   rintro e' w7 ⟨u, rfl, hu7, b7⟩
   have AD2 := hide (AD.out w7 u (bw_trans KB.out.2.1 b7) hu7)
   obtain ⟨ua2, un2, uc2, rfl⟩ := hu7.form
   have K7 := hide (bw_trans (bw_trans KB.out.1 KB.out.2.1) b7)
   clear PT AD hu7 b7 e0 e1 e2 e3 q0 q1 q2
   go_wp2_with fail
   refine AD2.out.mono ?_
   rintro e' w8 ⟨u2, rfl, hu8, b8, hi8⟩
   have R : Hid (Ff.Pv c w8 z u2 N ((k + 1) * A) (Ff.sumv cs z β (es.take (k + 1))) ∧ (∀ g, u2.ownBlock = some g → W2.heap.size ≤ g) ∧ Bw W6 w8) := by
    rw [HS.out]
    refine ⟨hu8.mono (by omega) (by rw [Nat.succ_mul]; exact Nat.le_refl _), fun g e => ?_, bw_trans K7.out b8⟩
    have h1 := hi8 g e
    have h2 := K7.out.size
    have h3 := b26.size
    omega
   clear AD2 hu8 b8 hi8 K7 KB
   go_wp2
   go_roundw
   case rel => exact ⟨k + 1, by omega, by simp, R.out.1, R.out.2.1, R.out.2.2⟩
   case measure => simp [intOf]; omega
  ·
   have hk3 : k = n := by omega
   subst hk3
   have hTT : es.take k = es := List.take_of_length_le (by have := HN.out; omega)
   rw [hTT] at hT
   obtain ⟨ta, tn, tc, rfl⟩ := hT.form
   obtain ⟨s0, s1, s2, s3, s4⟩ := SF.out _ b2r
   have q2 := (Below.cell hb (p := ⟨C0, 2, none⟩) hgl).trans hg2
   have hR2 : W1.heap.size < W2.heap.size := by have := SZ.out.2; omega
   have FIN : Hid (∀ V, V = (wr.setCell ⟨W1.heap.size, 0, none⟩ (.slice ta tn tc)).setCell ⟨W1.heap.size, 1, none⟩ (.slice ua un uc) →
     (V.cell? ⟨W1.heap.size, 0, none⟩ = some (.slice ta tn tc) ∧ V.cell? ⟨W1.heap.size, 1, none⟩ = some (.slice ua un uc)) ∧ Ff.Pv c V z (.slice ta tn tc) N (3 * A) (Ff.sumv cs z β es) ∧ Ff.Pv c V z (.slice ua un uc) (Ff.rl cs).length (7 ^ (Ff.rl cs).length) β ∧ Bw w V) := by
    rintro V rfl
    have nT : (Value.slice ta tn tc).ownBlock ≠ some W1.heap.size := fun e => by have := hown _ e; omega
    have nU : (Value.slice ua un uc).ownBlock ≠ some W1.heap.size := fun e => by
     have h1 := HU.out _ e
     have h2 := H24.out
     omega
    refine ⟨⟨?_, ?_⟩, ?_, ?_, ?_⟩
    · rw [Ff.set_off (by decide)]; exact Ff.set_any s1
    · exact Ff.set_any (by rw [Ff.set_off (by decide)]; exact s2)
    · exact ((hT.mono (Nat.le_refl _) (Nat.mul_le_mul_right A hm)).set nT).set nT
    · exact ((hpv.bw hb).set nU).set nU
    ·
     have h1 : w.heap.size ≤ W1.heap.size := by have := SZ.out.1; omega
     exact Below.setCell (Below.setCell (bw_trans BW.out b2r) h1 _) h1 _
   clear hpl hni hpv hg0 hg1 hg2 hT hown
   go_wp2
   obtain ⟨⟨f0, f1⟩, rest⟩ := FIN.out _ rfl
   refine bodyPost_ret (Ff.res_frac rfl _ _ W1.heap.size rfl f0 f1) rfl ?_
   rw [HCS.out, Hβ.out]
   exact ⟨_, _, rfl, rest⟩
end Go.Proofs.YtjpllggchjgjpaaGreat

/-
 OWN TEXT: package flow over whole complex numbers: what elements' speeds are.
-/
namespace Go.Proofs.YtjpllggchjgjpaaGreat
open Go.ChangeShapes Go.WideShapes Go.ChangeAt Go.RowKit
set_option linter.unusedVariables false
set_option linter.unusedSimpArgs false
namespace Ff
/-- the speed of a stream, of a corner -/
def exv (z : Py.G) (e : Fe) : Py.G := if e.k = 1 then e.st else Py.gm (sk (e.n : Int) e.st) (gp (Py.gs z e.at_) (e.n - 1))
def SpY (z : Py.G) (e : Fe) (Y : El.Z) : Prop := (e.k ≠ 3 ∧ El.zW Y (exv z e)) ∨ (e.k = 3 ∧ ∃ a b : El.Z, Y = El.zdiv a b ∧ El.zW a (sk (-(e.n : Int)) e.st) ∧ El.zW b (gp (Py.gs z e.at_) (e.n + 1)))
theorem gp_one (g : Py.G) : gp g 1 = g := one_gm g
theorem gp_le {g : Py.G} {M : Nat} (h : Py.Le g M) : ∀ n, Py.Le (gp g n) (M ^ n)
 | 0 => by show (1 : Int) * 1 + 0 * 0 ≤ ((1 : Nat) : Int) * ((1 : Nat) : Int); decide
 | n + 1 => by
  rw [Nat.pow_succ]
  exact (gp_le h n).mul h
theorem zpow_W {a : El.Z} {g : Py.G} (h : El.zW a g) (lg : Py.Le g 12) : ∀ n, n ≤ 3 → El.zW (El.zpow a n) (gp g n)
 | 0, _ => wC.one rfl
 | 1, _ => by rw [gp_one]; exact h
 | 2, _ => by
  have h2 := h.mul h lg lg (by decide)
  show El.zW (El.zmul a a) (Py.gm (gp g 1) g)
  rw [gp_one]
  exact h2
 | 3, _ => by
  have h2 := h.mul h lg lg (by decide)
  have h3 := h2.mul h (lg.mul lg) lg (by decide)
  show El.zW (El.zmul (El.zmul a a) a) (Py.gm (Py.gm (gp g 1) g) g)
  rw [gp_one]
  exact h3
theorem zscale_W {a : El.Z} {g : Py.G} {p K M : Nat} {m : Int} (h : El.zW a g) (hp : wI 1074 p m) (lg : Py.Le g M) (hm : m.natAbs ≤ K) (hs : K * M ≤ 9007199254740992) : El.zW (El.zscale a p) (sk m g) := by
 have hb := (sk_le (m := m) lg hm).one
 exact ⟨El.op_mul h.1 hp (Nat.le_trans hb.1 hs), El.op_mul h.2 hp (Nat.le_trans hb.2 hs)⟩
theorem c2_W {x y : Nat} {g : Py.G} (h : wC 1074 x y g) : El.zW (El.c2 x y) g := by
 rw [El.c2_num h.1.nan h.2.nan]
 exact h
end Ff
theorem espeed16 {e : Ff.Fe} (h : e.ok 1074) {zx zy : Nat} {z : Py.G} (hx : El.wP zx z.1) (hy : El.wP zy z.2) (hz : z.1.natAbs ≤ 4 ∧ z.2.natAbs ≤ 4) :
  ∃ Y, Ff.SpY z e Y ∧ ∀ w, Calls Tryz.prog 23 #[.agg #[.int .u8 e.k, .complex .f64 e.a e.b, .complex .f64 e.s e.t, .float .f64 (Ff.pw e.n)], .complex .f64 zx zy] w fun r w' => ∃ u v er, r = .returned (.tuple #[.complex .f64 u v, .int .i64 er]) ∧ El.c2 u v = El.tz Y ∧ er = El.te Y ∧ Bw w w' := by
 have m1 := h.la
 have m2 := h.ls
 obtain ⟨dx, dy, hdx, hdy, sd⟩ := psubP hx hy h.pa.1 h.pa.2 (by omega) (by omega)
 have Z1 := place_P hx hy (by omega) (by omega)
 have hD : El.zW (El.c2 dx dy) (Py.gs z e.at_) := Ff.c2_W ⟨hdx.1, hdy.1⟩
 have lD : Py.Le (Py.gs z e.at_) 12 := Ff.le_natAbs (K := 8) ⟨by show (z.1 - e.at_.1).natAbs ≤ 8; omega, by show (z.2 - e.at_.2).natAbs ≤ 8; omega⟩ (by decide)
 obtain ⟨f1, f2, f3, f4⟩ := Ff.pw_facts ⟨e.n, by have := h.n3; omega⟩
 have hS : El.zW (El.c2 e.s e.t) e.st := Ff.c2_W h.ws
 have hpn := Ff.pw_wI (c := 1074) rfl h.n3
 have KN := fun w => h.known w
 have AK := fun w => asked_ok e.k e.a e.b e.s e.t (Ff.pw e.n) zx zy e.kind w KN Z1
 unfold Ff.Fe.kind Ff.Fe.val at AK
 rcases h.kd with ⟨k1, k2, k3, k4, _⟩ | ⟨k1, k2, k3⟩ | ⟨k1, k2, k3⟩
 ·
  rw [k1, if_pos rfl] at AK
  refine ⟨El.c2 e.s e.t, Or.inl ⟨by omega, by unfold Ff.exv; rw [if_pos k1]; exact hS⟩, fun w => ?_⟩
  rw [k1]
  exact pub_spd1 e.a e.b e.s e.t (Ff.pw e.n) zx zy _ w AK (fun w => (spd1 e.a e.b e.s e.t (Ff.pw e.n) zx zy w).mono fun r w' q => ⟨_, _, q.1, rfl, h.ws.1.1, h.ws.2.1, q.2⟩)
 ·
  rw [k1, if_neg (by decide), if_pos rfl] at AK
  refine ⟨El.dterm e.s e.t (Ff.pw e.n) dx dy (Op.negFloat .f64 (Ff.pw e.n)) 1, Or.inr ⟨k1, _, _, rfl, ?_, ?_⟩, fun w => ?_⟩
  ·
   rw [Fl.neg_eq f2, Sv.c_num (hpn.ng.nan)]
   exact Ff.zscale_W hS hpn.ng h.lst (show (-(e.n : Int)).natAbs ≤ 2 by omega) (by decide)
  ·
   rw [El.toN_of (Ff.pw_int h.n3)]
   exact Ff.zpow_W hD lD _ (by omega)
  ·
   rw [k1]
   exact pub_spd3 e.a e.b e.s e.t (Ff.pw e.n) zx zy _ w AK (fun w => spd3 e.a e.b e.s e.t (Ff.pw e.n) zx zy dx dy e.n w sd hdx.lt hdy.lt (Ff.pw_int h.n3) (by omega))
 ·
  rw [k1, if_neg (by decide), if_neg (by decide)] at AK
  obtain ⟨p1, p2, pm, c1, c2, c3, c4, c5, c6, c7⟩ := El.cpow k2 (show e.n ≤ 4 by omega)
  rw [Ff.pw_of h.n3] at c1
  have hw : El.wh (Ff.pw e.n) = true := (f4 k2).2.2
  refine ⟨El.cterm e.s e.t (Ff.pw e.n) dx dy (Ff.pw e.n) p1, Or.inl ⟨by omega, ?_⟩, fun w => ?_⟩
  ·
   unfold Ff.exv El.cterm
   rw [if_pos hw, El.toN_of c4, Sv.c_num hpn.nan, if_neg (show ¬ e.k = 1 by omega)]
   exact (Ff.zscale_W (K := 3) hS hpn h.lst (by omega) (by decide)).mul (Ff.zpow_W hD lD _ (by omega)) (Ff.sk_le (K := 3) h.lst (by omega)) (Ff.gp_le lD _) (by
    have : 12 ^ (e.n - 1) ≤ 12 ^ 2 := Nat.pow_le_pow_right (by decide) (by omega)
    have h2 : (12 : Nat) ^ 2 = 144 := by decide
    omega)
  ·
   rw [k1]
   exact pub_spd4 e.a e.b e.s e.t (Ff.pw e.n) zx zy _ w AK (fun w => spd4 e.a e.b e.s e.t (Ff.pw e.n) zx zy dx dy w c1 (fun w => ctermW e.a e.b e.s e.t (Ff.pw e.n) zx zy dx dy (Ff.pw e.n) p1 (e.n - 1) w sd hdx.lt hdy.lt f2 hpn.nan hw c4 (by omega)))
end Go.Proofs.YtjpllggchjgjpaaGreat

