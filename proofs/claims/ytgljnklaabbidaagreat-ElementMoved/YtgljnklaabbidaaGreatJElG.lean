/-
  OWN TEXT: package element: potentials, speeds, slopes of elements that may be; one that lies elsewhere.
-/
import Derived.Test.YtgljnklaabbidaaGreatJElF
namespace Go.Proofs.YtgljnklaabbidaaGreat
open Go.ChangeShapes Go.WideShapes Go.ChangeAt Go.RowKit
set_option linter.unusedVariables false
attribute [local go_sem] frombits_call tobits_call run_neg El.run_store_cx El.run_store_fl
namespace El
/-- an element of the call's own lies at a block -/
structure Sw (w : World) (B : Nat) (k : Int) (a b s t p : Nat) : Prop where
  st : St w B k a b s t p
  fz : ∀ i, w.frozen? ⟨B, i, none⟩ = false
theorem Sw.bw {w w' : World} {B : Nat} {k : Int} {a b s t p : Nat} (h : Sw w B k a b s t p) (g : Bw w w') : Sw w' B k a b s t p :=
  ⟨h.st.bw g, fun i => (Below.frozen g (p := ⟨B, i, none⟩) h.st.lt).trans (h.fz i)⟩
theorem Sw.new (w : World) (k : Int) (a b s t p : Nat) (T : TypeId) : Sw (w.alloc (.cells #[.int .u8 k, .complex .f64 a b, .complex .f64 s t, .float .f64 p] T)) w.heap.size k a b s t p :=
  ⟨St.new w k a b s t p T, fun i => World.frozen?_alloc_at _ _ _ _ rfl⟩
theorem Sw.new2 (w : World) (o : Obj) (k : Int) (a b s t p : Nat) (T : TypeId) : Sw ((w.alloc o).alloc (.cells #[.int .u8 k, .complex .f64 a b, .complex .f64 s t, .float .f64 p] T)) (w.heap.size + 1) k a b s t p := by
  have h := Sw.new (w.alloc o) k a b s t p T
  rw [show (w.alloc o).heap.size = w.heap.size + 1 by simp] at h
  exact h
theorem set_cell {w : World} {B i : Nat} {v : Value} (h : ∃ u, w.cell? ⟨B, i, none⟩ = some u) : (w.setCell ⟨B, i, none⟩ v).cell? ⟨B, i, none⟩ = some v := by
  obtain ⟨u, h⟩ := h
  exact World.cell?_setCell_same' _ _ _ (by rw [h]; rfl)
theorem set_off {w : World} {B i j : Nat} {v : Value} (h : i ≠ j) : (w.setCell ⟨B, i, none⟩ v).cell? ⟨B, j, none⟩ = w.cell? ⟨B, j, none⟩ := by
  simp only [World.cell?, World.setCell, Array.getElem?_modify]
  cases hh : w.heap[B]? with
  | none => simp
  | some o => cases o <;> simp [Array.getElem?_setIfInBounds_ne h]
theorem Sw.set {w : World} {B : Nat} {k : Int} {a b s t p : Nat} (h : Sw w B k a b s t p) (k' : Int) (a' b' s' t' p' : Nat) :
    Sw ((((w.setCell ⟨B, 0, none⟩ (.int .u8 k')).setCell ⟨B, 1, none⟩ (.complex .f64 a' b')).setCell ⟨B, 2, none⟩ (.complex .f64 s' t')).setCell ⟨B, 3, none⟩ (.float .f64 p')) B k' a' b' s' t' p' := by
  obtain ⟨⟨h0, h1, h2, h3, h4⟩, h5⟩ := h
  refine ⟨⟨by simpa [World.setCell] using h0, ?_, ?_, ?_, ?_⟩, fun i => by simp only [World.frozen?_setCell]; exact h5 i⟩
  · rw [set_off (by decide), set_off (by decide), set_off (by decide)]; exact set_cell ⟨_, h1⟩
  · rw [set_off (by decide), set_off (by decide)]; exact set_cell ⟨_, by rw [set_off (by decide)]; exact h2⟩
  · rw [set_off (by decide)]; exact set_cell ⟨_, by rw [set_off (by decide), set_off (by decide)]; exact h3⟩
  · exact set_cell ⟨_, by rw [set_off (by decide), set_off (by decide), set_off (by decide)]; exact h4⟩
/-- what is told of a value -/
def tz (a : Z) : Z := if fin a = true then a else (0, 0)
def te (a : Z) : Int := if fin a = true then 0 else 6
end El
theorem El.load {w : World} {B : Nat} {k : Int} {a b s t p : Nat} (h : El.St w B k a b s t p) : (loadVar 30 ⟨B, 0, none⟩).run Tryz.prog w = .ok (El.E k a b s t p) w := by
  refine run_loadVar_mid w B 0 30 [.int .u8 k, .complex .f64 a b, .complex .f64 s t, .float .f64 p] _ (fun j v hv => ?_) Tryz.underlying30 rfl (by kernel_rfl)
  match j, hv with
  | 0, hv => cases hv; exact h.c0
  | 1, hv => cases hv; exact h.c1
  | 2, hv => cases hv; exact h.c2
  | 3, hv => cases hv; exact h.c3
theorem El.res_et {fn : Func} {i j : Tmp} (hr : fn.results = #[.cell i 30, .tmp j]) (tmps : Array Value) (w : World) (B : Nat) {k : Int} {a b s t p : Nat} (hi : tmps.getD i undef = .pointer (some ⟨B, 0, none⟩)) (h : El.St w B k a b s t p) : (results fn tmps).run Tryz.prog w = .ok (.tuple #[El.E k a b s t p, tmps.getD j undef]) w := by
  rw [results_cell_tmp hr, hi]
  simp only [asAddr, Sem.run_pure, Result.andThen_ok, El.load h]
set_option maxHeartbeats 4000000 in
theorem asked_ok (k : Int) (a b s t p x y : Nat) (V : Value) (w : World) (K : Hid (∀ wz, Calls Tryz.prog 19 #[El.E k a b s t p] wz fun e w' => e = .returned (.tuple #[V, .int .i64 0]) ∧ Bw wz w')) (Z : Hid (∀ wz, Calls Tryz.prog 29 #[.complex .f64 x y] wz fun e w' => e = .returned (.bool true) ∧ w' = wz)) : Calls Tryz.prog 20 #[El.E k a b s t p, .complex .f64 x y] w fun e w' => e = .returned (.tuple #[V, .int .i64 0]) ∧ Bw w w' := by
  have S0 := El.St.new w k a b s t p 30
  have G := El.bw_new w (.cells #[.int .u8 k, .complex .f64 a b, .complex .f64 s t, .float .f64 p] 30)
  unfold El.E at *
  go_enter Tryz.func20, Tryz.ntmps20
  go_wp2_with fail
  refine (K.out _).mono ?_
  rintro e' w1 ⟨rfl, b1⟩
  replace G := bw_trans G b1
  clear b1
  go_wp2_with fail
  refine (Z.out _).mono ?_
  rintro e' w9 ⟨rfl, hw9⟩
  subst hw9
  go_wp2
  go_ret2
  exact ⟨rfl, G⟩
theorem check_er (k : Int) (a b s t p : Nat) (er : Int) (V : Value) (w : World) (K : Hid (∀ wz, Calls Tryz.prog 19 #[El.E k a b s t p] wz fun e w' => e = .returned (.tuple #[V, .int .i64 er]) ∧ Bw wz w')) : Calls Tryz.prog 7 #[El.E k a b s t p] w fun e w' => e = .returned (.int .i64 er) ∧ Bw w w' := by
  have S0 := El.St.new w k a b s t p 30
  have G := El.bw_new w (.cells #[.int .u8 k, .complex .f64 a b, .complex .f64 s t, .float .f64 p] 30)
  unfold El.E at *
  go_enter Tryz.func7, Tryz.ntmps7
  go_wp2_with fail
  refine (K.out _).mono ?_
  rintro e' w1 ⟨rfl, b1⟩
  replace G := bw_trans G b1
  clear b1
  go_wp2
  go_ret
  exact ⟨rfl, G⟩
set_option maxHeartbeats 4000000 in
theorem answered_ok (k : Int) (a b s t p : Nat) (V : Value) (w : World) (K : Hid (∀ wz, Calls Tryz.prog 19 #[El.E k a b s t p] wz fun e w' => e = .returned (.tuple #[V, .int .i64 0]) ∧ Bw wz w')) : Calls Tryz.prog 22 #[El.E k a b s t p] w fun e w' => e = .returned (.tuple #[El.E k a b s t p, .int .i64 0]) ∧ Bw w w' := by
  have C := El.hid (fun wz => check_er k a b s t p 0 V wz K)
  clear K
  have S0 := (El.St.new w k a b s t p 30).bw (El.bw_new _ (.cells #[.int .u8 0, .complex .f64 0 0, .complex .f64 0 0, .float .f64 0] 30))
  have S1 := El.Sw.new2 w (.cells #[.int .u8 k, .complex .f64 a b, .complex .f64 s t, .float .f64 p] 30) 0 0 0 0 0 0 30
  have G := bw_trans (El.bw_new w (.cells #[.int .u8 k, .complex .f64 a b, .complex .f64 s t, .float .f64 p] 30)) (El.bw_new _ (.cells #[.int .u8 0, .complex .f64 0 0, .complex .f64 0 0, .float .f64 0] 30))
  unfold El.E at C
  go_enter Tryz.func22, Tryz.ntmps22
  unfold El.E
  go_wp2_with fail
  refine (C.out _).mono ?_
  rintro e' w1 ⟨rfl, b1⟩
  replace G := El.hid (bw_trans G b1)
  obtain ⟨_, c0, c1, c2, c3⟩ := S0.bw b1
  have R := El.hid ((S1.bw b1).set k a b s t p)
  obtain ⟨⟨_, d0, d1, d2, d3⟩, fz⟩ := S1.bw b1
  clear S0 S1 b1
  have HB : Hid (w.heap.size ≤ w.heap.size + 1) := Nat.le_succ _
  generalize w.heap.size + 1 = B1 at *
  go_wp2
  refine bodyPost_ret (El.res_et rfl _ _ _ rfl R.out.st) rfl ?_
  exact ⟨rfl, Below.setCell (Below.setCell (Below.setCell (Below.setCell G.out HB.out _) HB.out _) HB.out _) HB.out _⟩
theorem El.set_blk {w : World} {B B' i : Nat} {v : Value} (h : B' ≠ B) (j : Nat) : (w.setCell ⟨B', i, none⟩ v).cell? ⟨B, j, none⟩ = w.cell? ⟨B, j, none⟩ := by
  simp only [World.cell?, World.setCell, Array.getElem?_modify, if_neg h]
theorem El.Sw.off {w : World} {B B' i : Nat} {v : Value} {k : Int} {a b s t p : Nat} (h : El.Sw w B k a b s t p) (hb : B' ≠ B) : El.Sw (w.setCell ⟨B', i, none⟩ v) B k a b s t p := by
  obtain ⟨⟨h0, h1, h2, h3, h4⟩, h5⟩ := h
  exact ⟨⟨by simpa [World.setCell] using h0, (El.set_blk hb _).trans h1, (El.set_blk hb _).trans h2, (El.set_blk hb _).trans h3, (El.set_blk hb _).trans h4⟩, fun i => by rw [World.frozen?_setCell]; exact h5 i⟩
theorem told_z (x y : Nat) (w : World) (hx : x < 18446744073709551616) (hy : y < 18446744073709551616) : Calls Tryz.prog 23 #[.complex .f64 x y] w fun e w' => ∃ u v er, e = .returned (.tuple #[.complex .f64 u v, .int .i64 er]) ∧ El.c2 u v = El.tz (El.c2 x y) ∧ er = El.te (El.c2 x y) ∧ w' = w :=
  (told_any x y w hx hy).mono fun e w' h => by
    obtain ⟨rfl, rfl⟩ := h
    refine ⟨_, _, _, rfl, ?_, ?_, rfl⟩
    · unfold El.tz
      cases El.fin (El.c2 x y) <;> rfl
    · unfold El.te
      cases El.fin (El.c2 x y) <;> rfl
set_option maxHeartbeats 8000000 in
theorem moved_stay (k : Int) (a b s t p x y : Nat) (V : Value) (sg : Bool) (w : World) (AK : Hid (∀ wz, Calls Tryz.prog 20 #[El.E k a b s t p, .complex .f64 x y] wz fun e w' => e = .returned (.tuple #[V, .int .i64 0]) ∧ Bw wz w')) (NA : Hid (∀ wz, Calls Tryz.prog 21 #[V] wz fun e w' => e = .returned (.tuple #[.bool false, .bool sg]) ∧ Bw wz w')) (AN : Hid (∀ wz, Calls Tryz.prog 22 #[El.E k a b s t p] wz fun e w' => e = .returned (.tuple #[El.E k a b s t p, .int .i64 0]) ∧ Bw wz w')) : Calls Tryz.prog 8 #[El.E k a b s t p, .complex .f64 x y] w fun e w' => e = .returned (.tuple #[El.E k a b s t p, .int .i64 0]) ∧ Bw w w' := by
  have S0 := (El.Sw.new w k a b s t p 30).bw (El.bw_new _ (.cells #[.int .u8 0, .complex .f64 0 0, .complex .f64 0 0, .float .f64 0] 30))
  have S1 := El.Sw.new2 w (.cells #[.int .u8 k, .complex .f64 a b, .complex .f64 s t, .float .f64 p] 30) 0 0 0 0 0 0 30
  have G := bw_trans (El.bw_new w (.cells #[.int .u8 k, .complex .f64 a b, .complex .f64 s t, .float .f64 p] 30)) (El.bw_new _ (.cells #[.int .u8 0, .complex .f64 0 0, .complex .f64 0 0, .float .f64 0] 30))
  unfold El.E at AK AN
  go_enter Tryz.func8, Tryz.ntmps8
  unfold El.E
  go_wp2_with fail
  refine (AK.out _).mono ?_
  rintro e' w1 ⟨rfl, b1⟩
  replace G := El.hid (bw_trans G b1)
  replace S0 := S0.bw b1
  replace S1 := S1.bw b1
  clear b1
  have HB : Hid (w.heap.size ≤ w.heap.size + 1) := Nat.le_succ _
  have HN : Hid (w.heap.size ≠ w.heap.size + 1) := by show _ ≠ _; omega
  generalize w.heap.size + 1 = B1 at *
  go_wp2_with fail
  refine (NA.out _).mono ?_
  rintro e' w2 ⟨rfl, b2⟩
  replace G := El.hid (bw_trans G.out b2)
  replace S0 := S0.bw b2
  replace S1 := S1.bw b2
  clear b2
  obtain ⟨⟨_, c0, c1, c2, c3⟩, fz⟩ := S0
  go_wp2_with fail
  refine (AN.out _).mono ?_
  rintro e' w3 ⟨rfl, b3⟩
  replace S1 := S1.bw b3
  replace G := El.hid (bw_trans G.out b3)
  clear b3 c0 c1 c2 c3 fz
  have R := El.hid (S1.set k a b s t p)
  obtain ⟨⟨_, d0, d1, d2, d3⟩, fz⟩ := S1
  go_wp2
  refine bodyPost_ret (El.res_et rfl _ _ _ rfl R.out.st) rfl ?_
  exact ⟨rfl, Below.setCell (Below.setCell (Below.setCell (Below.setCell G.out HB.out _) HB.out _) HB.out _) HB.out _⟩
set_option maxHeartbeats 8000000 in
theorem moved_go (k : Int) (a b s t p x y a' b' : Nat) (V : Value) (sg : Bool) (w : World) (AK : Hid (∀ wz, Calls Tryz.prog 20 #[El.E k a b s t p, .complex .f64 x y] wz fun e w' => e = .returned (.tuple #[V, .int .i64 0]) ∧ Bw wz w')) (NA : Hid (∀ wz, Calls Tryz.prog 21 #[V] wz fun e w' => e = .returned (.tuple #[.bool true, .bool sg]) ∧ Bw wz w')) (AD : Hid (∀ wz, Calls Tryz.prog 9 #[.complex .f64 a b, .complex .f64 x y] wz fun e w' => e = .returned (.complex .f64 a' b') ∧ w' = wz)) (AN : Hid (∀ wz, Calls Tryz.prog 22 #[El.E k a' b' s t p] wz fun e w' => e = .returned (.tuple #[El.E k a' b' s t p, .int .i64 0]) ∧ Bw wz w')) : Calls Tryz.prog 8 #[El.E k a b s t p, .complex .f64 x y] w fun e w' => e = .returned (.tuple #[El.E k a' b' s t p, .int .i64 0]) ∧ Bw w w' := by
  have S0 := (El.Sw.new w k a b s t p 30).bw (El.bw_new _ (.cells #[.int .u8 0, .complex .f64 0 0, .complex .f64 0 0, .float .f64 0] 30))
  have S1 := El.Sw.new2 w (.cells #[.int .u8 k, .complex .f64 a b, .complex .f64 s t, .float .f64 p] 30) 0 0 0 0 0 0 30
  have G := bw_trans (El.bw_new w (.cells #[.int .u8 k, .complex .f64 a b, .complex .f64 s t, .float .f64 p] 30)) (El.bw_new _ (.cells #[.int .u8 0, .complex .f64 0 0, .complex .f64 0 0, .float .f64 0] 30))
  unfold El.E at AK AN
  go_enter Tryz.func8, Tryz.ntmps8
  unfold El.E
  go_wp2_with fail
  refine (AK.out _).mono ?_
  rintro e' w1 ⟨rfl, b1⟩
  replace G := El.hid (bw_trans G b1)
  replace S0 := S0.bw b1
  replace S1 := S1.bw b1
  clear b1
  have HB : Hid (w.heap.size ≤ w.heap.size + 1) := Nat.le_succ _
  have HN : Hid (w.heap.size ≠ w.heap.size + 1) := by show _ ≠ _; omega
  generalize w.heap.size + 1 = B1 at *
  go_wp2_with fail
  refine (NA.out _).mono ?_
  rintro e' w2 ⟨rfl, b2⟩
  replace G := El.hid (bw_trans G.out b2)
  replace S0 := S0.bw b2
  replace S1 := S1.bw b2
  clear b2
  obtain ⟨⟨_, c0, c1, c2, c3⟩, fz⟩ := S0
  go_wp2_with fail
  refine (AD.out _).mono ?_
  rintro e' w9 ⟨rfl, hw9⟩
  subst hw9
  go_wp2_with fail
  refine (AN.out _).mono ?_
  rintro e' w3 ⟨rfl, b3⟩
  replace S1 := (S1.off HN.out).bw b3
  replace G := El.hid (bw_trans (Below.setCell G.out (Nat.le_refl _) _) b3)
  clear b3 c0 c1 c2 c3 fz
  have R := El.hid (S1.set k a' b' s t p)
  obtain ⟨⟨_, d0, d1, d2, d3⟩, fz⟩ := S1
  go_wp2
  refine bodyPost_ret (El.res_et rfl _ _ _ rfl R.out.st) rfl ?_
  exact ⟨rfl, Below.setCell (Below.setCell (Below.setCell (Below.setCell G.out HB.out _) HB.out _) HB.out _) HB.out _⟩
set_option maxHeartbeats 8000000 in
theorem pub_pot1 (a b s t p x y : Nat) (Y : El.Z) (w : World) (AK : Hid (∀ wz, Calls Tryz.prog 20 #[El.E 1 a b s t p, .complex .f64 x y] wz fun e w' => e = .returned (.tuple #[(.iface 60 (El.E 1 a b s t p)), .int .i64 0]) ∧ Bw wz w')) (M : Hid (∀ wz, Calls Tryz.prog 55 #[El.E 1 a b s t p, .complex .f64 x y] wz fun e w' => ∃ u v, e = .returned (.complex .f64 u v) ∧ El.c2 u v = Y ∧ u < 18446744073709551616 ∧ v < 18446744073709551616 ∧ Bw wz w')) : Calls Tryz.prog 10 #[El.E 1 a b s t p, .complex .f64 x y] w fun e w' => ∃ u v er, e = .returned (.tuple #[.complex .f64 u v, .int .i64 er]) ∧ El.c2 u v = El.tz Y ∧ er = El.te Y ∧ Bw w w' := by
  have G := El.bw_new w (.cells #[.int .u8 1, .complex .f64 a b, .complex .f64 s t, .float .f64 p] 30)
  have HM : ∀ w, (method 204 60 (.agg #[.int .u8 1, .complex .f64 a b, .complex .f64 s t, .float .f64 p]) "eddy/element.potential").run Tryz.prog w = .ok (55, .agg #[.int .u8 1, .complex .f64 a b, .complex .f64 s t, .float .f64 p]) w := fun _ => by kernel_rfl
  unfold El.E at *
  go_enter Tryz.func10, Tryz.ntmps10
  go_wp2_with fail
  refine (AK.out _).mono ?_
  rintro e' w1 ⟨rfl, b1⟩
  replace G := bw_trans G b1
  clear b1
  go_wp2_with fail
  refine (M.out _).mono ?_
  rintro e' w2 ⟨u, v, rfl, h, l, m, b2⟩
  have Q := El.hid h
  replace G := bw_trans G b2
  clear h b2
  go_wp2_with fail
  refine (told_z u v _ l m).mono ?_
  rintro e' w9 ⟨u2, v2, er, rfl, h2, h3, hw9⟩
  subst hw9
  have Q2 := El.hid h2
  have Q3 := El.hid h3
  clear h2 h3
  go_wp2
  go_ret2
  exact ⟨u2, v2, er, rfl, Q2.out.trans (by rw [Q.out]), Q3.out.trans (by rw [Q.out]), G⟩
set_option maxHeartbeats 8000000 in
theorem pub_pot2 (a b s t p x y : Nat) (Y : El.Z) (w : World) (AK : Hid (∀ wz, Calls Tryz.prog 20 #[El.E 2 a b s t p, .complex .f64 x y] wz fun e w' => e = .returned (.tuple #[(.iface 63 (El.E 2 a b s t p)), .int .i64 0]) ∧ Bw wz w')) (M : Hid (∀ wz, Calls Tryz.prog 121 #[El.E 2 a b s t p, .complex .f64 x y] wz fun e w' => ∃ u v, e = .returned (.complex .f64 u v) ∧ El.c2 u v = Y ∧ u < 18446744073709551616 ∧ v < 18446744073709551616 ∧ Bw wz w')) : Calls Tryz.prog 10 #[El.E 2 a b s t p, .complex .f64 x y] w fun e w' => ∃ u v er, e = .returned (.tuple #[.complex .f64 u v, .int .i64 er]) ∧ El.c2 u v = El.tz Y ∧ er = El.te Y ∧ Bw w w' := by
  have G := El.bw_new w (.cells #[.int .u8 2, .complex .f64 a b, .complex .f64 s t, .float .f64 p] 30)
  have HM : ∀ w, (method 204 63 (.agg #[.int .u8 2, .complex .f64 a b, .complex .f64 s t, .float .f64 p]) "eddy/element.potential").run Tryz.prog w = .ok (121, .agg #[.int .u8 2, .complex .f64 a b, .complex .f64 s t, .float .f64 p]) w := fun _ => by kernel_rfl
  unfold El.E at *
  go_enter Tryz.func10, Tryz.ntmps10
  go_wp2_with fail
  refine (AK.out _).mono ?_
  rintro e' w1 ⟨rfl, b1⟩
  replace G := bw_trans G b1
  clear b1
  go_wp2_with fail
  refine (M.out _).mono ?_
  rintro e' w2 ⟨u, v, rfl, h, l, m, b2⟩
  have Q := El.hid h
  replace G := bw_trans G b2
  clear h b2
  go_wp2_with fail
  refine (told_z u v _ l m).mono ?_
  rintro e' w9 ⟨u2, v2, er, rfl, h2, h3, hw9⟩
  subst hw9
  have Q2 := El.hid h2
  have Q3 := El.hid h3
  clear h2 h3
  go_wp2
  go_ret2
  exact ⟨u2, v2, er, rfl, Q2.out.trans (by rw [Q.out]), Q3.out.trans (by rw [Q.out]), G⟩
set_option maxHeartbeats 8000000 in
theorem pub_pot3 (a b s t p x y : Nat) (Y : El.Z) (w : World) (AK : Hid (∀ wz, Calls Tryz.prog 20 #[El.E 3 a b s t p, .complex .f64 x y] wz fun e w' => e = .returned (.tuple #[(.iface 64 (El.E 3 a b s t p)), .int .i64 0]) ∧ Bw wz w')) (M : Hid (∀ wz, Calls Tryz.prog 127 #[El.E 3 a b s t p, .complex .f64 x y] wz fun e w' => ∃ u v, e = .returned (.complex .f64 u v) ∧ El.c2 u v = Y ∧ u < 18446744073709551616 ∧ v < 18446744073709551616 ∧ Bw wz w')) : Calls Tryz.prog 10 #[El.E 3 a b s t p, .complex .f64 x y] w fun e w' => ∃ u v er, e = .returned (.tuple #[.complex .f64 u v, .int .i64 er]) ∧ El.c2 u v = El.tz Y ∧ er = El.te Y ∧ Bw w w' := by
  have G := El.bw_new w (.cells #[.int .u8 3, .complex .f64 a b, .complex .f64 s t, .float .f64 p] 30)
  have HM : ∀ w, (method 204 64 (.agg #[.int .u8 3, .complex .f64 a b, .complex .f64 s t, .float .f64 p]) "eddy/element.potential").run Tryz.prog w = .ok (127, .agg #[.int .u8 3, .complex .f64 a b, .complex .f64 s t, .float .f64 p]) w := fun _ => by kernel_rfl
  unfold El.E at *
  go_enter Tryz.func10, Tryz.ntmps10
  go_wp2_with fail
  refine (AK.out _).mono ?_
  rintro e' w1 ⟨rfl, b1⟩
  replace G := bw_trans G b1
  clear b1
  go_wp2_with fail
  refine (M.out _).mono ?_
  rintro e' w2 ⟨u, v, rfl, h, l, m, b2⟩
  have Q := El.hid h
  replace G := bw_trans G b2
  clear h b2
  go_wp2_with fail
  refine (told_z u v _ l m).mono ?_
  rintro e' w9 ⟨u2, v2, er, rfl, h2, h3, hw9⟩
  subst hw9
  have Q2 := El.hid h2
  have Q3 := El.hid h3
  clear h2 h3
  go_wp2
  go_ret2
  exact ⟨u2, v2, er, rfl, Q2.out.trans (by rw [Q.out]), Q3.out.trans (by rw [Q.out]), G⟩
set_option maxHeartbeats 8000000 in
theorem pub_pot4 (a b s t p x y : Nat) (Y : El.Z) (w : World) (AK : Hid (∀ wz, Calls Tryz.prog 20 #[El.E 4 a b s t p, .complex .f64 x y] wz fun e w' => e = .returned (.tuple #[(.iface 61 (El.E 4 a b s t p)), .int .i64 0]) ∧ Bw wz w')) (M : Hid (∀ wz, Calls Tryz.prog 62 #[El.E 4 a b s t p, .complex .f64 x y] wz fun e w' => ∃ u v, e = .returned (.complex .f64 u v) ∧ El.c2 u v = Y ∧ u < 18446744073709551616 ∧ v < 18446744073709551616 ∧ Bw wz w')) : Calls Tryz.prog 10 #[El.E 4 a b s t p, .complex .f64 x y] w fun e w' => ∃ u v er, e = .returned (.tuple #[.complex .f64 u v, .int .i64 er]) ∧ El.c2 u v = El.tz Y ∧ er = El.te Y ∧ Bw w w' := by
  have G := El.bw_new w (.cells #[.int .u8 4, .complex .f64 a b, .complex .f64 s t, .float .f64 p] 30)
  have HM : ∀ w, (method 204 61 (.agg #[.int .u8 4, .complex .f64 a b, .complex .f64 s t, .float .f64 p]) "eddy/element.potential").run Tryz.prog w = .ok (62, .agg #[.int .u8 4, .complex .f64 a b, .complex .f64 s t, .float .f64 p]) w := fun _ => by kernel_rfl
  unfold El.E at *
  go_enter Tryz.func10, Tryz.ntmps10
  go_wp2_with fail
  refine (AK.out _).mono ?_
  rintro e' w1 ⟨rfl, b1⟩
  replace G := bw_trans G b1
  clear b1
  go_wp2_with fail
  refine (M.out _).mono ?_
  rintro e' w2 ⟨u, v, rfl, h, l, m, b2⟩
  have Q := El.hid h
  replace G := bw_trans G b2
  clear h b2
  go_wp2_with fail
  refine (told_z u v _ l m).mono ?_
  rintro e' w9 ⟨u2, v2, er, rfl, h2, h3, hw9⟩
  subst hw9
  have Q2 := El.hid h2
  have Q3 := El.hid h3
  clear h2 h3
  go_wp2
  go_ret2
  exact ⟨u2, v2, er, rfl, Q2.out.trans (by rw [Q.out]), Q3.out.trans (by rw [Q.out]), G⟩
set_option maxHeartbeats 8000000 in
theorem pub_spd1 (a b s t p x y : Nat) (Y : El.Z) (w : World) (AK : Hid (∀ wz, Calls Tryz.prog 20 #[El.E 1 a b s t p, .complex .f64 x y] wz fun e w' => e = .returned (.tuple #[(.iface 60 (El.E 1 a b s t p)), .int .i64 0]) ∧ Bw wz w')) (M : Hid (∀ wz, Calls Tryz.prog 57 #[El.E 1 a b s t p, .complex .f64 x y] wz fun e w' => ∃ u v, e = .returned (.complex .f64 u v) ∧ El.c2 u v = Y ∧ u < 18446744073709551616 ∧ v < 18446744073709551616 ∧ Bw wz w')) : Calls Tryz.prog 11 #[El.E 1 a b s t p, .complex .f64 x y] w fun e w' => ∃ u v er, e = .returned (.tuple #[.complex .f64 u v, .int .i64 er]) ∧ El.c2 u v = El.tz Y ∧ er = El.te Y ∧ Bw w w' := by
  have G := El.bw_new w (.cells #[.int .u8 1, .complex .f64 a b, .complex .f64 s t, .float .f64 p] 30)
  have HM : ∀ w, (method 204 60 (.agg #[.int .u8 1, .complex .f64 a b, .complex .f64 s t, .float .f64 p]) "eddy/element.speed").run Tryz.prog w = .ok (57, .agg #[.int .u8 1, .complex .f64 a b, .complex .f64 s t, .float .f64 p]) w := fun _ => by kernel_rfl
  unfold El.E at *
  go_enter Tryz.func11, Tryz.ntmps11
  go_wp2_with fail
  refine (AK.out _).mono ?_
  rintro e' w1 ⟨rfl, b1⟩
  replace G := bw_trans G b1
  clear b1
  go_wp2_with fail
  refine (M.out _).mono ?_
  rintro e' w2 ⟨u, v, rfl, h, l, m, b2⟩
  have Q := El.hid h
  replace G := bw_trans G b2
  clear h b2
  go_wp2_with fail
  refine (told_z u v _ l m).mono ?_
  rintro e' w9 ⟨u2, v2, er, rfl, h2, h3, hw9⟩
  subst hw9
  have Q2 := El.hid h2
  have Q3 := El.hid h3
  clear h2 h3
  go_wp2
  go_ret2
  exact ⟨u2, v2, er, rfl, Q2.out.trans (by rw [Q.out]), Q3.out.trans (by rw [Q.out]), G⟩
set_option maxHeartbeats 8000000 in
theorem pub_spd2 (a b s t p x y : Nat) (Y : El.Z) (w : World) (AK : Hid (∀ wz, Calls Tryz.prog 20 #[El.E 2 a b s t p, .complex .f64 x y] wz fun e w' => e = .returned (.tuple #[(.iface 63 (El.E 2 a b s t p)), .int .i64 0]) ∧ Bw wz w')) (M : Hid (∀ wz, Calls Tryz.prog 123 #[El.E 2 a b s t p, .complex .f64 x y] wz fun e w' => ∃ u v, e = .returned (.complex .f64 u v) ∧ El.c2 u v = Y ∧ u < 18446744073709551616 ∧ v < 18446744073709551616 ∧ Bw wz w')) : Calls Tryz.prog 11 #[El.E 2 a b s t p, .complex .f64 x y] w fun e w' => ∃ u v er, e = .returned (.tuple #[.complex .f64 u v, .int .i64 er]) ∧ El.c2 u v = El.tz Y ∧ er = El.te Y ∧ Bw w w' := by
  have G := El.bw_new w (.cells #[.int .u8 2, .complex .f64 a b, .complex .f64 s t, .float .f64 p] 30)
  have HM : ∀ w, (method 204 63 (.agg #[.int .u8 2, .complex .f64 a b, .complex .f64 s t, .float .f64 p]) "eddy/element.speed").run Tryz.prog w = .ok (123, .agg #[.int .u8 2, .complex .f64 a b, .complex .f64 s t, .float .f64 p]) w := fun _ => by kernel_rfl
  unfold El.E at *
  go_enter Tryz.func11, Tryz.ntmps11
  go_wp2_with fail
  refine (AK.out _).mono ?_
  rintro e' w1 ⟨rfl, b1⟩
  replace G := bw_trans G b1
  clear b1
  go_wp2_with fail
  refine (M.out _).mono ?_
  rintro e' w2 ⟨u, v, rfl, h, l, m, b2⟩
  have Q := El.hid h
  replace G := bw_trans G b2
  clear h b2
  go_wp2_with fail
  refine (told_z u v _ l m).mono ?_
  rintro e' w9 ⟨u2, v2, er, rfl, h2, h3, hw9⟩
  subst hw9
  have Q2 := El.hid h2
  have Q3 := El.hid h3
  clear h2 h3
  go_wp2
  go_ret2
  exact ⟨u2, v2, er, rfl, Q2.out.trans (by rw [Q.out]), Q3.out.trans (by rw [Q.out]), G⟩
set_option maxHeartbeats 8000000 in
theorem pub_spd3 (a b s t p x y : Nat) (Y : El.Z) (w : World) (AK : Hid (∀ wz, Calls Tryz.prog 20 #[El.E 3 a b s t p, .complex .f64 x y] wz fun e w' => e = .returned (.tuple #[(.iface 64 (El.E 3 a b s t p)), .int .i64 0]) ∧ Bw wz w')) (M : Hid (∀ wz, Calls Tryz.prog 129 #[El.E 3 a b s t p, .complex .f64 x y] wz fun e w' => ∃ u v, e = .returned (.complex .f64 u v) ∧ El.c2 u v = Y ∧ u < 18446744073709551616 ∧ v < 18446744073709551616 ∧ Bw wz w')) : Calls Tryz.prog 11 #[El.E 3 a b s t p, .complex .f64 x y] w fun e w' => ∃ u v er, e = .returned (.tuple #[.complex .f64 u v, .int .i64 er]) ∧ El.c2 u v = El.tz Y ∧ er = El.te Y ∧ Bw w w' := by
  have G := El.bw_new w (.cells #[.int .u8 3, .complex .f64 a b, .complex .f64 s t, .float .f64 p] 30)
  have HM : ∀ w, (method 204 64 (.agg #[.int .u8 3, .complex .f64 a b, .complex .f64 s t, .float .f64 p]) "eddy/element.speed").run Tryz.prog w = .ok (129, .agg #[.int .u8 3, .complex .f64 a b, .complex .f64 s t, .float .f64 p]) w := fun _ => by kernel_rfl
  unfold El.E at *
  go_enter Tryz.func11, Tryz.ntmps11
  go_wp2_with fail
  refine (AK.out _).mono ?_
  rintro e' w1 ⟨rfl, b1⟩
  replace G := bw_trans G b1
  clear b1
  go_wp2_with fail
  refine (M.out _).mono ?_
  rintro e' w2 ⟨u, v, rfl, h, l, m, b2⟩
  have Q := El.hid h
  replace G := bw_trans G b2
  clear h b2
  go_wp2_with fail
  refine (told_z u v _ l m).mono ?_
  rintro e' w9 ⟨u2, v2, er, rfl, h2, h3, hw9⟩
  subst hw9
  have Q2 := El.hid h2
  have Q3 := El.hid h3
  clear h2 h3
  go_wp2
  go_ret2
  exact ⟨u2, v2, er, rfl, Q2.out.trans (by rw [Q.out]), Q3.out.trans (by rw [Q.out]), G⟩
set_option maxHeartbeats 8000000 in
theorem pub_spd4 (a b s t p x y : Nat) (Y : El.Z) (w : World) (AK : Hid (∀ wz, Calls Tryz.prog 20 #[El.E 4 a b s t p, .complex .f64 x y] wz fun e w' => e = .returned (.tuple #[(.iface 61 (El.E 4 a b s t p)), .int .i64 0]) ∧ Bw wz w')) (M : Hid (∀ wz, Calls Tryz.prog 64 #[El.E 4 a b s t p, .complex .f64 x y] wz fun e w' => ∃ u v, e = .returned (.complex .f64 u v) ∧ El.c2 u v = Y ∧ u < 18446744073709551616 ∧ v < 18446744073709551616 ∧ Bw wz w')) : Calls Tryz.prog 11 #[El.E 4 a b s t p, .complex .f64 x y] w fun e w' => ∃ u v er, e = .returned (.tuple #[.complex .f64 u v, .int .i64 er]) ∧ El.c2 u v = El.tz Y ∧ er = El.te Y ∧ Bw w w' := by
  have G := El.bw_new w (.cells #[.int .u8 4, .complex .f64 a b, .complex .f64 s t, .float .f64 p] 30)
  have HM : ∀ w, (method 204 61 (.agg #[.int .u8 4, .complex .f64 a b, .complex .f64 s t, .float .f64 p]) "eddy/element.speed").run Tryz.prog w = .ok (64, .agg #[.int .u8 4, .complex .f64 a b, .complex .f64 s t, .float .f64 p]) w := fun _ => by kernel_rfl
  unfold El.E at *
  go_enter Tryz.func11, Tryz.ntmps11
  go_wp2_with fail
  refine (AK.out _).mono ?_
  rintro e' w1 ⟨rfl, b1⟩
  replace G := bw_trans G b1
  clear b1
  go_wp2_with fail
  refine (M.out _).mono ?_
  rintro e' w2 ⟨u, v, rfl, h, l, m, b2⟩
  have Q := El.hid h
  replace G := bw_trans G b2
  clear h b2
  go_wp2_with fail
  refine (told_z u v _ l m).mono ?_
  rintro e' w9 ⟨u2, v2, er, rfl, h2, h3, hw9⟩
  subst hw9
  have Q2 := El.hid h2
  have Q3 := El.hid h3
  clear h2 h3
  go_wp2
  go_ret2
  exact ⟨u2, v2, er, rfl, Q2.out.trans (by rw [Q.out]), Q3.out.trans (by rw [Q.out]), G⟩
set_option maxHeartbeats 8000000 in
theorem pub_slo1 (a b s t p x y : Nat) (Y : El.Z) (w : World) (AK : Hid (∀ wz, Calls Tryz.prog 20 #[El.E 1 a b s t p, .complex .f64 x y] wz fun e w' => e = .returned (.tuple #[(.iface 60 (El.E 1 a b s t p)), .int .i64 0]) ∧ Bw wz w')) (M : Hid (∀ wz, Calls Tryz.prog 56 #[El.E 1 a b s t p, .complex .f64 x y] wz fun e w' => ∃ u v, e = .returned (.complex .f64 u v) ∧ El.c2 u v = Y ∧ u < 18446744073709551616 ∧ v < 18446744073709551616 ∧ Bw wz w')) : Calls Tryz.prog 12 #[El.E 1 a b s t p, .complex .f64 x y] w fun e w' => ∃ u v er, e = .returned (.tuple #[.complex .f64 u v, .int .i64 er]) ∧ El.c2 u v = El.tz Y ∧ er = El.te Y ∧ Bw w w' := by
  have G := El.bw_new w (.cells #[.int .u8 1, .complex .f64 a b, .complex .f64 s t, .float .f64 p] 30)
  have HM : ∀ w, (method 204 60 (.agg #[.int .u8 1, .complex .f64 a b, .complex .f64 s t, .float .f64 p]) "eddy/element.slope").run Tryz.prog w = .ok (56, .agg #[.int .u8 1, .complex .f64 a b, .complex .f64 s t, .float .f64 p]) w := fun _ => by kernel_rfl
  unfold El.E at *
  go_enter Tryz.func12, Tryz.ntmps12
  go_wp2_with fail
  refine (AK.out _).mono ?_
  rintro e' w1 ⟨rfl, b1⟩
  replace G := bw_trans G b1
  clear b1
  go_wp2_with fail
  refine (M.out _).mono ?_
  rintro e' w2 ⟨u, v, rfl, h, l, m, b2⟩
  have Q := El.hid h
  replace G := bw_trans G b2
  clear h b2
  go_wp2_with fail
  refine (told_z u v _ l m).mono ?_
  rintro e' w9 ⟨u2, v2, er, rfl, h2, h3, hw9⟩
  subst hw9
  have Q2 := El.hid h2
  have Q3 := El.hid h3
  clear h2 h3
  go_wp2
  go_ret2
  exact ⟨u2, v2, er, rfl, Q2.out.trans (by rw [Q.out]), Q3.out.trans (by rw [Q.out]), G⟩
set_option maxHeartbeats 8000000 in
theorem pub_slo2 (a b s t p x y : Nat) (Y : El.Z) (w : World) (AK : Hid (∀ wz, Calls Tryz.prog 20 #[El.E 2 a b s t p, .complex .f64 x y] wz fun e w' => e = .returned (.tuple #[(.iface 63 (El.E 2 a b s t p)), .int .i64 0]) ∧ Bw wz w')) (M : Hid (∀ wz, Calls Tryz.prog 122 #[El.E 2 a b s t p, .complex .f64 x y] wz fun e w' => ∃ u v, e = .returned (.complex .f64 u v) ∧ El.c2 u v = Y ∧ u < 18446744073709551616 ∧ v < 18446744073709551616 ∧ Bw wz w')) : Calls Tryz.prog 12 #[El.E 2 a b s t p, .complex .f64 x y] w fun e w' => ∃ u v er, e = .returned (.tuple #[.complex .f64 u v, .int .i64 er]) ∧ El.c2 u v = El.tz Y ∧ er = El.te Y ∧ Bw w w' := by
  have G := El.bw_new w (.cells #[.int .u8 2, .complex .f64 a b, .complex .f64 s t, .float .f64 p] 30)
  have HM : ∀ w, (method 204 63 (.agg #[.int .u8 2, .complex .f64 a b, .complex .f64 s t, .float .f64 p]) "eddy/element.slope").run Tryz.prog w = .ok (122, .agg #[.int .u8 2, .complex .f64 a b, .complex .f64 s t, .float .f64 p]) w := fun _ => by kernel_rfl
  unfold El.E at *
  go_enter Tryz.func12, Tryz.ntmps12
  go_wp2_with fail
  refine (AK.out _).mono ?_
  rintro e' w1 ⟨rfl, b1⟩
  replace G := bw_trans G b1
  clear b1
  go_wp2_with fail
  refine (M.out _).mono ?_
  rintro e' w2 ⟨u, v, rfl, h, l, m, b2⟩
  have Q := El.hid h
  replace G := bw_trans G b2
  clear h b2
  go_wp2_with fail
  refine (told_z u v _ l m).mono ?_
  rintro e' w9 ⟨u2, v2, er, rfl, h2, h3, hw9⟩
  subst hw9
  have Q2 := El.hid h2
  have Q3 := El.hid h3
  clear h2 h3
  go_wp2
  go_ret2
  exact ⟨u2, v2, er, rfl, Q2.out.trans (by rw [Q.out]), Q3.out.trans (by rw [Q.out]), G⟩
set_option maxHeartbeats 8000000 in
theorem pub_slo3 (a b s t p x y : Nat) (Y : El.Z) (w : World) (AK : Hid (∀ wz, Calls Tryz.prog 20 #[El.E 3 a b s t p, .complex .f64 x y] wz fun e w' => e = .returned (.tuple #[(.iface 64 (El.E 3 a b s t p)), .int .i64 0]) ∧ Bw wz w')) (M : Hid (∀ wz, Calls Tryz.prog 128 #[El.E 3 a b s t p, .complex .f64 x y] wz fun e w' => ∃ u v, e = .returned (.complex .f64 u v) ∧ El.c2 u v = Y ∧ u < 18446744073709551616 ∧ v < 18446744073709551616 ∧ Bw wz w')) : Calls Tryz.prog 12 #[El.E 3 a b s t p, .complex .f64 x y] w fun e w' => ∃ u v er, e = .returned (.tuple #[.complex .f64 u v, .int .i64 er]) ∧ El.c2 u v = El.tz Y ∧ er = El.te Y ∧ Bw w w' := by
  have G := El.bw_new w (.cells #[.int .u8 3, .complex .f64 a b, .complex .f64 s t, .float .f64 p] 30)
  have HM : ∀ w, (method 204 64 (.agg #[.int .u8 3, .complex .f64 a b, .complex .f64 s t, .float .f64 p]) "eddy/element.slope").run Tryz.prog w = .ok (128, .agg #[.int .u8 3, .complex .f64 a b, .complex .f64 s t, .float .f64 p]) w := fun _ => by kernel_rfl
  unfold El.E at *
  go_enter Tryz.func12, Tryz.ntmps12
  go_wp2_with fail
  refine (AK.out _).mono ?_
  rintro e' w1 ⟨rfl, b1⟩
  replace G := bw_trans G b1
  clear b1
  go_wp2_with fail
  refine (M.out _).mono ?_
  rintro e' w2 ⟨u, v, rfl, h, l, m, b2⟩
  have Q := El.hid h
  replace G := bw_trans G b2
  clear h b2
  go_wp2_with fail
  refine (told_z u v _ l m).mono ?_
  rintro e' w9 ⟨u2, v2, er, rfl, h2, h3, hw9⟩
  subst hw9
  have Q2 := El.hid h2
  have Q3 := El.hid h3
  clear h2 h3
  go_wp2
  go_ret2
  exact ⟨u2, v2, er, rfl, Q2.out.trans (by rw [Q.out]), Q3.out.trans (by rw [Q.out]), G⟩
set_option maxHeartbeats 8000000 in
theorem pub_slo4 (a b s t p x y : Nat) (Y : El.Z) (w : World) (AK : Hid (∀ wz, Calls Tryz.prog 20 #[El.E 4 a b s t p, .complex .f64 x y] wz fun e w' => e = .returned (.tuple #[(.iface 61 (El.E 4 a b s t p)), .int .i64 0]) ∧ Bw wz w')) (M : Hid (∀ wz, Calls Tryz.prog 63 #[El.E 4 a b s t p, .complex .f64 x y] wz fun e w' => ∃ u v, e = .returned (.complex .f64 u v) ∧ El.c2 u v = Y ∧ u < 18446744073709551616 ∧ v < 18446744073709551616 ∧ Bw wz w')) : Calls Tryz.prog 12 #[El.E 4 a b s t p, .complex .f64 x y] w fun e w' => ∃ u v er, e = .returned (.tuple #[.complex .f64 u v, .int .i64 er]) ∧ El.c2 u v = El.tz Y ∧ er = El.te Y ∧ Bw w w' := by
  have G := El.bw_new w (.cells #[.int .u8 4, .complex .f64 a b, .complex .f64 s t, .float .f64 p] 30)
  have HM : ∀ w, (method 204 61 (.agg #[.int .u8 4, .complex .f64 a b, .complex .f64 s t, .float .f64 p]) "eddy/element.slope").run Tryz.prog w = .ok (63, .agg #[.int .u8 4, .complex .f64 a b, .complex .f64 s t, .float .f64 p]) w := fun _ => by kernel_rfl
  unfold El.E at *
  go_enter Tryz.func12, Tryz.ntmps12
  go_wp2_with fail
  refine (AK.out _).mono ?_
  rintro e' w1 ⟨rfl, b1⟩
  replace G := bw_trans G b1
  clear b1
  go_wp2_with fail
  refine (M.out _).mono ?_
  rintro e' w2 ⟨u, v, rfl, h, l, m, b2⟩
  have Q := El.hid h
  replace G := bw_trans G b2
  clear h b2
  go_wp2_with fail
  refine (told_z u v _ l m).mono ?_
  rintro e' w9 ⟨u2, v2, er, rfl, h2, h3, hw9⟩
  subst hw9
  have Q2 := El.hid h2
  have Q3 := El.hid h3
  clear h2 h3
  go_wp2
  go_ret2
  exact ⟨u2, v2, er, rfl, Q2.out.trans (by rw [Q.out]), Q3.out.trans (by rw [Q.out]), G⟩
end Go.Proofs.YtgljnklaabbidaaGreat
