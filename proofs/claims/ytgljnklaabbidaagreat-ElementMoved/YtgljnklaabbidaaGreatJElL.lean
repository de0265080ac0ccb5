/-
  OWN TEXT: the law ElementMoved.
-/
import Derived.Test.YtgljnklaabbidaaGreatJElHToElK
namespace Go.Proofs.YtgljnklaabbidaaGreat
open Go.ChangeShapes Go.WideShapes Go.ChangeAt Go.RowKit
set_option linter.unusedVariables false
attribute [local go_sem] frombits_call tobits_call run_neg El.run_store_cx El.run_store_fl
namespace El
structure Gc (w : World) (b : Nat) (x y : Int) : Prop where
  lt : b < w.heap.size
  c0 : w.cell? ⟨b, 0, none⟩ = some (.int .i16 x)
  c1 : w.cell? ⟨b, 1, none⟩ = some (.int .i16 y)
theorem Gc.bw {w w' : World} {b : Nat} {x y : Int} (h : Gc w b x y) (g : Bw w w') : Gc w' b x y :=
  ⟨Nat.lt_of_lt_of_le h.lt g.size, (Below.cell g (p := ⟨b, 0, none⟩) h.lt).trans h.c0, (Below.cell g (p := ⟨b, 1, none⟩) h.lt).trans h.c1⟩
/-- the law's four numbers -/
structure Gs (w : World) (B1 B2 B3 B4 : Nat) (X1 Y1 X2 Y2 X3 Y3 X4 Y4 : Int) : Prop where
  g1 : Gc w B1 X1 Y1
  g2 : Gc w B2 X2 Y2
  g3 : Gc w B3 X3 Y3
  g4 : Gc w B4 X4 Y4
theorem Gs.bw {w w' : World} {B1 B2 B3 B4 : Nat} {X1 Y1 X2 Y2 X3 Y3 X4 Y4 : Int} (h : Gs w B1 B2 B3 B4 X1 Y1 X2 Y2 X3 Y3 X4 Y4) (g : Bw w w') : Gs w' B1 B2 B3 B4 X1 Y1 X2 Y2 X3 Y3 X4 Y4 :=
  ⟨h.g1.bw g, h.g2.bw g, h.g3.bw g, h.g4.bw g⟩
theorem Gs.new (w : World) (X1 Y1 X2 Y2 X3 Y3 X4 Y4 : Int) (T : TypeId) : Gs ((((w.alloc (.cells #[.int .i16 X1, .int .i16 Y1] T)).alloc (.cells #[.int .i16 X2, .int .i16 Y2] T)).alloc (.cells #[.int .i16 X3, .int .i16 Y3] T)).alloc (.cells #[.int .i16 X4, .int .i16 Y4] T)) w.heap.size (w.heap.size + 1) (w.heap.size + 1 + 1) (w.heap.size + 1 + 1 + 1) X1 Y1 X2 Y2 X3 Y3 X4 Y4 := by
  have n : ∀ (w : World) (x y : Int), Gc (w.alloc (.cells #[.int .i16 x, .int .i16 y] T)) w.heap.size x y := fun w x y => ⟨by simp, by simp, by simp⟩
  have z : ∀ (w : World) (o : Obj), (w.alloc o).heap.size = w.heap.size + 1 := fun w o => by simp
  have h1 := n w X1 Y1
  have h2 := n (w.alloc (.cells #[.int .i16 X1, .int .i16 Y1] T)) X2 Y2
  have h3 := n ((w.alloc (.cells #[.int .i16 X1, .int .i16 Y1] T)).alloc (.cells #[.int .i16 X2, .int .i16 Y2] T)) X3 Y3
  have h4 := n (((w.alloc (.cells #[.int .i16 X1, .int .i16 Y1] T)).alloc (.cells #[.int .i16 X2, .int .i16 Y2] T)).alloc (.cells #[.int .i16 X3, .int .i16 Y3] T)) X4 Y4
  simp only [z] at h2 h3 h4
  exact ⟨((h1.bw (bw_new _ _)).bw (bw_new _ _)).bw (bw_new _ _), (h2.bw (bw_new _ _)).bw (bw_new _ _), h3.bw (bw_new _ _), h4⟩
/-- a cell of the call's own leaves what lies apart -/
theorem Gc.off {w : World} {B b i : Nat} {v : Value} {x y : Int} (h : Gc w b x y) (hb : B ≠ b) : Gc (w.setCell ⟨B, i, none⟩ v) b x y :=
  ⟨by simpa [World.setCell] using h.lt, (set_blk hb _).trans h.c0, (set_blk hb _).trans h.c1⟩
theorem St.off {w : World} {B' B i : Nat} {v : Value} {k : Int} {a b s t p : Nat} (h : St w B k a b s t p) (hb : B' ≠ B) : St (w.setCell ⟨B', i, none⟩ v) B k a b s t p :=
  ⟨by simpa [World.setCell] using h.lt, (set_blk hb _).trans h.c0, (set_blk hb _).trans h.c1, (set_blk hb _).trans h.c2, (set_blk hb _).trans h.c3⟩
/-- a new block's element, set -/
theorem put4 {w : World} {C : Nat} {f : World → Prop} (hf : ∀ (w : World) (i : Nat) (v : Value), f w → f (w.setCell ⟨C, i, none⟩ v)) (h : f w) (v0 v1 v2 v3 : Value) : f ((((w.setCell ⟨C, 0, none⟩ v0).setCell ⟨C, 1, none⟩ v1).setCell ⟨C, 2, none⟩ v2).setCell ⟨C, 3, none⟩ v3) := hf _ _ _ (hf _ _ _ (hf _ _ _ (hf _ _ _ h)))
/-- what the ways through a region have in common -/
theorem join {P : Program} {Q : Exit → Act → World → Prop} {id : Nat} {ops : Array Oper} {draw : Bool} {a : Act} {w : World} {K : Act → World → Prop} (A : Nat → Act) (F : Nat → World → Prop)
    (way : ∀ K' : Act → World → Prop, Hid (∀ C W, F C W → K' (A C) W) → (Code.region id ops draw).wp P (Exit.then K' Q) a w) (rest : ∀ C W, F C W → K (A C) W) : (Code.region id ops draw).wp P (Exit.then K Q) a w := way K rest
end El
/-- what the law's last lines ask -/
def El.Tl (k : Int) (s t p dx dy : Nat) (YP : El.Z) : Prop := (¬ k = 4) ∨
  (k = 4 ∧ Fl.eqF p 4607182418800017408 = true ∧ Fl.eqF p 4611686018427387904 = false ∧ El.te YP = 0 ∧ ∃ m n, (∀ w, Calls Tryz.prog 15 #[.complex .f64 s t, .complex .f64 dx dy] w fun e w' => e = .returned (.complex .f64 m n) ∧ w' = w) ∧ (∀ u v, El.c2 u v = El.tz YP → ∀ (t : TypeId) (w : World), (binOp .eql t (.complex .f64 m n) (.complex .f64 u v)).run Tryz.prog w = .ok (.bool true) w)) ∨
  (k = 4 ∧ Fl.eqF p 4607182418800017408 = false ∧ Fl.eqF p 4611686018427387904 = true ∧ El.te YP = 0 ∧ ∃ m n m' n', (∀ w, Calls Tryz.prog 15 #[.complex .f64 s t, .complex .f64 dx dy] w fun e w' => e = .returned (.complex .f64 m n) ∧ w' = w) ∧ (∀ w, Calls Tryz.prog 15 #[.complex .f64 m n, .complex .f64 dx dy] w fun e w' => e = .returned (.complex .f64 m' n') ∧ w' = w) ∧ (∀ u v, El.c2 u v = El.tz YP → ∀ (t : TypeId) (w : World), (binOp .eql t (.complex .f64 m' n') (.complex .f64 u v)).run Tryz.prog w = .ok (.bool true) w)) ∨
  (k = 4 ∧ Fl.eqF p 4607182418800017408 = false ∧ Fl.eqF p 4611686018427387904 = false)
set_option maxHeartbeats 64000000 in
set_option maxRecDepth 100000 in
theorem law15 (k X1 Y1 X2 Y2 X3 Y3 X4 Y4 : Int) (a b s t x y u v p : Nat) (w : World) (GO1 : Hid (∀ wz, Calls Tryz.prog 5 #[.agg #[.int .i16 X1, .int .i16 Y1]] wz fun e w' => e = .returned (.complex .f64 a b) ∧ Bw wz w')) (GO2 : Hid (∀ wz, Calls Tryz.prog 5 #[.agg #[.int .i16 X2, .int .i16 Y2]] wz fun e w' => e = .returned (.complex .f64 s t) ∧ Bw wz w')) (GO3 : Hid (∀ wz, Calls Tryz.prog 5 #[.agg #[.int .i16 X3, .int .i16 Y3]] wz fun e w' => e = .returned (.complex .f64 x y) ∧ Bw wz w')) (GO4 : Hid (∀ wz, Calls Tryz.prog 5 #[.agg #[.int .i16 X4, .int .i16 Y4]] wz fun e w' => e = .returned (.complex .f64 u v) ∧ Bw wz w'))
    (HK : Hid ((X1.natAbs ≤ 1000 ∧ Y1.natAbs ≤ 1000) → (X2.natAbs ≤ 1000 ∧ Y2.natAbs ≤ 1000) → (X3.natAbs ≤ 1000 ∧ Y3.natAbs ≤ 1000) → (X4.natAbs ≤ 1000 ∧ Y4.natAbs ≤ 1000) → ∃ er : Int, (∀ w, Calls Tryz.prog 7 #[El.E k a b s t p] w fun e w' => e = .returned (.int .i64 er) ∧ Bw w w') ∧
      (er = 0 → ∃ x1 y1 a2 b2 dx dy YP YQ YS YL, El.Bun k a b s t p x y u v x1 y1 a2 b2 YP YQ YS YL ∧ (∀ w, Calls Tryz.prog 9 #[.complex .f64 x y, .complex .f64 u v] w fun e w' => e = .returned (.complex .f64 x1 y1) ∧ w' = w) ∧ (∀ w, Calls Tryz.prog 14 #[.complex .f64 x y, .complex .f64 a b] w fun e w' => e = .returned (.complex .f64 dx dy) ∧ w' = w) ∧ (¬ k = 1 → YQ = YP) ∧ El.Tl k s t p dx dy YP))) :
    Calls Tryz.prog 3 #[.int .u8 k, .agg #[.int .i16 X1, .int .i16 Y1], .agg #[.int .i16 X2, .int .i16 Y2], .agg #[.int .i16 X3, .int .i16 Y3], .agg #[.int .i16 X4, .int .i16 Y4], .float .f64 p] w fun e w' => e = .returned (.bool true) ∧ Bw w w' := by
  have GS := El.Gs.new w X1 Y1 X2 Y2 X3 Y3 X4 Y4 24
  have BW : Hid (Bw w ((((w.alloc (.cells #[.int .i16 X1, .int .i16 Y1] 24)).alloc (.cells #[.int .i16 X2, .int .i16 Y2] 24)).alloc (.cells #[.int .i16 X3, .int .i16 Y3] 24)).alloc (.cells #[.int .i16 X4, .int .i16 Y4] 24))) := bw_trans (bw_trans (bw_trans (El.bw_new _ _) (El.bw_new _ _)) (El.bw_new _ _)) (El.bw_new _ _)
  go_enter Tryz.func3, Tryz.ntmps3
  go_wp2_with fail
  generalize (((w.alloc (.cells #[.int .i16 X1, .int .i16 Y1] 24)).alloc (.cells #[.int .i16 X2, .int .i16 Y2] 24)).alloc (.cells #[.int .i16 X3, .int .i16 Y3] 24)).alloc (.cells #[.int .i16 X4, .int .i16 Y4] 24) = W0 at *
  refine (awake15_ev _).mono ?_
  rintro e' W1 ⟨rfl, bb⟩
  have LT0 := El.hid (⟨GS.g1.lt, GS.g2.lt, GS.g3.lt, GS.g4.lt⟩ : _ ∧ _ ∧ _ ∧ _)
  replace GS := GS.bw bb
  replace BW := El.hid (bw_trans BW.out bb)
  clear bb LT0
  generalize w.heap.size + 1 + 1 + 1 = B4 at *
  generalize w.heap.size + 1 + 1 = B3 at *
  generalize w.heap.size + 1 = B2 at *
  generalize w.heap.size = B1 at *
  go_wp2_with fail
  apply El.join (F := fun C W => Bw w W ∧ El.Gs W B1 B2 B3 B4 X1 Y1 X2 Y2 X3 Y3 X4 Y4 ∧ El.St W C k a b s t p)
  case way =>
    intro K' J
    replace GS := GS.bw (Bw.refl W1).drew
    replace BW := El.hid BW.out.drew
    refine wp_region_K (fun w' => El.Gs w' B1 B2 B3 B4 X1 Y1 X2 Y2 X3 Y3 X4 Y4) 8 9 #[false, false, false, false, false, false, false, false, false] (by kernel_rfl) (by kernel_rfl) (by kernel_rfl) ?_
    generalize W1.drew = WA at *
    refine wpAnyK_take 0 35 (v := ?vx0) rfl (by kernel_rfl) (by kernel_rfl) (by kernel_rfl) (by kernel_rfl) (by kernel_rfl) (fun _ _ _ h => h) rfl (Or.inl ⟨by rfl, ?hx0⟩) (by assumption) ?rx0
    case hx0 => (intro w hSw; obtain ⟨⟨_, h0, h1⟩, ⟨_, h2, h3⟩, ⟨_, h4, h5⟩, ⟨_, h6, h7⟩⟩ := hSw; go_simp; with_reducible rfl)
    simp only [Act.put, List.setIfInBounds_toArray, List.set_cons_zero, List.set_cons_succ]
    refine wpAnyK_take 1 36 (v := ?vx1) rfl (by kernel_rfl) (by kernel_rfl) (by kernel_rfl) (by kernel_rfl) (by kernel_rfl) (fun _ _ _ h => h) rfl (Or.inl ⟨by rfl, ?hx1⟩) (by assumption) ?rx1
    case hx1 => (intro w hSw; obtain ⟨⟨_, h0, h1⟩, ⟨_, h2, h3⟩, ⟨_, h4, h5⟩, ⟨_, h6, h7⟩⟩ := hSw; go_simp; with_reducible rfl)
    simp only [Act.put, List.setIfInBounds_toArray, List.set_cons_zero, List.set_cons_succ]
    refine wpAnyK_take 3 38 (v := ?vx3) rfl (by kernel_rfl) (by kernel_rfl) (by kernel_rfl) (by kernel_rfl) (by kernel_rfl) (fun _ _ _ h => h) rfl (Or.inl ⟨by rfl, ?hx3⟩) (by assumption) ?rx3
    case hx3 => (intro w hSw; obtain ⟨⟨_, h0, h1⟩, ⟨_, h2, h3⟩, ⟨_, h4, h5⟩, ⟨_, h6, h7⟩⟩ := hSw; go_simp; with_reducible rfl)
    simp only [Act.put, List.setIfInBounds_toArray, List.set_cons_zero, List.set_cons_succ]
    refine wpAnyK_take 5 40 (v := ?vx5) rfl (by kernel_rfl) (by kernel_rfl) (by kernel_rfl) (by kernel_rfl) (by kernel_rfl) (fun _ _ _ h => h) rfl (Or.inl ⟨by rfl, ?hx5⟩) (by assumption) ?rx5
    case hx5 => (intro w hSw; obtain ⟨⟨_, h0, h1⟩, ⟨_, h2, h3⟩, ⟨_, h4, h5⟩, ⟨_, h6, h7⟩⟩ := hSw; go_simp; with_reducible rfl)
    simp only [Act.put, List.setIfInBounds_toArray, List.set_cons_zero, List.set_cons_succ]
    refine wpAnyK_two 2 7 (by kernel_rfl) rfl rfl (fun K hK => ?_) (fun K hK => ?_)
    · go_simp
      go_wp2_with (go_at_call 5; refine (GO1.out _).mono ?_; rintro e' wa2 ⟨rfl, bb⟩)
      replace GS := GS.bw bb
      replace BW := El.hid (bw_trans BW.out bb)
      clear bb
      refine hK.out _ _ (fun _ _ => GS) ?_
      clear hK K
      simp only [List.setIfInBounds_toArray, List.set_cons_zero, List.set_cons_succ]
      refine wpAnyK_two 4 7 (by kernel_rfl) rfl rfl (fun K hK => ?_) (fun K hK => ?_)
      · go_simp
        go_wp2_with (go_at_call 5; refine (GO2.out _).mono ?_; rintro e' wa3 ⟨rfl, bb⟩)
        replace GS := GS.bw bb
        replace BW := El.hid (bw_trans BW.out bb)
        clear bb
        refine hK.out _ _ (fun _ _ => GS) ?_
        clear hK K
        simp only [List.setIfInBounds_toArray, List.set_cons_zero, List.set_cons_succ]
        refine wpAnyK_take 6 41 (v := ?va6) rfl (by kernel_rfl) (by kernel_rfl) (by kernel_rfl) (by kernel_rfl) (by kernel_rfl) (fun _ _ _ h => h) rfl (Or.inl ⟨by rfl, ?ha6⟩) (by assumption) ?ra6
        case ha6 => (intro w hSw; obtain ⟨⟨_, h0, h1⟩, ⟨_, h2, h3⟩, ⟨_, h4, h5⟩, ⟨_, h6, h7⟩⟩ := hSw; go_simp; with_reducible rfl)
        simp only [Act.put, List.setIfInBounds_toArray, List.set_cons_zero, List.set_cons_succ]
        refine wpAnyK_one 7 (by kernel_rfl) rfl (fun K hK => ?_)
        go_simp
        have GS0 := GS
        replace GS := GS.bw (El.bw_new _ (.cells #[.int .u8 0, .complex .f64 0 0, .complex .f64 0 0, .float .f64 0] 30))
        have SW := El.Sw.new wa3 0 0 0 0 0 0 30
        have HC := El.hid (show w.heap.size ≤ wa3.heap.size from BW.out.size)
        have HL := El.hid (⟨GS0.g1.lt, GS0.g2.lt, GS0.g3.lt, GS0.g4.lt⟩ : B1 < wa3.heap.size ∧ B2 < wa3.heap.size ∧ B3 < wa3.heap.size ∧ B4 < wa3.heap.size)
        clear GS0
        replace BW := El.hid (bw_trans BW.out (El.bw_new wa3 (.cells #[.int .u8 0, .complex .f64 0 0, .complex .f64 0 0, .float .f64 0] 30)))
        generalize wa3.alloc (.cells #[.int .u8 0, .complex .f64 0 0, .complex .f64 0 0, .float .f64 0] 30) = wa4 at *
        generalize wa3.heap.size = C at *
        refine hK.out _ _ (fun _ _ => GS) ?_
        clear hK K
        simp only [List.setIfInBounds_toArray, List.set_cons_zero, List.set_cons_succ]
        have R := El.hid (SW.set k a b s t p)
        obtain ⟨⟨_, d0, d1, d2, d3⟩, fz⟩ := SW
        refine wpAnyK_one 8 (by kernel_rfl) rfl (fun K hK => ?_)
        go_simp
        refine hK.out _ _ (fun h => absurd rfl h) ?_
        clear hK K
        simp only [List.setIfInBounds_toArray, List.set_cons_zero, List.set_cons_succ]
        refine wpAnyK_done (by kernel_rfl) ?_ _
        refine J.out C _ ⟨?_, ?_, R.out.st⟩
        · exact Below.setCell (Below.setCell (Below.setCell (Below.setCell BW.out HC.out _) HC.out _) HC.out _) HC.out _
        · exact El.put4 (f := fun w => El.Gs w B1 B2 B3 B4 X1 Y1 X2 Y2 X3 Y3 X4 Y4) (fun w i v g => ⟨g.g1.off (Nat.ne_of_gt HL.out.1), g.g2.off (Nat.ne_of_gt HL.out.2.1), g.g3.off (Nat.ne_of_gt HL.out.2.2.1), g.g4.off (Nat.ne_of_gt HL.out.2.2.2)⟩) GS _ _ _ _
      · go_simp
        have GS0 := GS
        replace GS := GS.bw (El.bw_new _ (.cells #[.int .u8 0, .complex .f64 0 0, .complex .f64 0 0, .float .f64 0] 30))
        have SW := El.Sw.new wa2 0 0 0 0 0 0 30
        have HC := El.hid (show w.heap.size ≤ wa2.heap.size from BW.out.size)
        have HL := El.hid (⟨GS0.g1.lt, GS0.g2.lt, GS0.g3.lt, GS0.g4.lt⟩ : B1 < wa2.heap.size ∧ B2 < wa2.heap.size ∧ B3 < wa2.heap.size ∧ B4 < wa2.heap.size)
        clear GS0
        replace BW := El.hid (bw_trans BW.out (El.bw_new wa2 (.cells #[.int .u8 0, .complex .f64 0 0, .complex .f64 0 0, .float .f64 0] 30)))
        generalize wa2.alloc (.cells #[.int .u8 0, .complex .f64 0 0, .complex .f64 0 0, .float .f64 0] 30) = wb3 at *
        generalize wa2.heap.size = C at *
        refine hK.out _ _ (fun _ _ => GS) ?_
        clear hK K
        simp only [List.setIfInBounds_toArray, List.set_cons_zero, List.set_cons_succ]
        refine wpAnyK_one 4 (by kernel_rfl) rfl (fun K hK => ?_)
        go_simp
        go_wp2_with (go_at_call 5; refine (GO2.out _).mono ?_; rintro e' wb4 ⟨rfl, bb⟩)
        replace GS := GS.bw bb
        replace BW := El.hid (bw_trans BW.out bb)
        replace SW := SW.bw bb
        clear bb
        refine hK.out _ _ (fun _ _ => GS) ?_
        clear hK K
        simp only [List.setIfInBounds_toArray, List.set_cons_zero, List.set_cons_succ]
        refine wpAnyK_take 6 41 (v := ?vb6) rfl (by kernel_rfl) (by kernel_rfl) (by kernel_rfl) (by kernel_rfl) (by kernel_rfl) (fun _ _ _ h => h) rfl (Or.inl ⟨by rfl, ?hb6⟩) (by assumption) ?rb6
        case hb6 => (intro w hSw; obtain ⟨⟨_, h0, h1⟩, ⟨_, h2, h3⟩, ⟨_, h4, h5⟩, ⟨_, h6, h7⟩⟩ := hSw; go_simp; with_reducible rfl)
        simp only [Act.put, List.setIfInBounds_toArray, List.set_cons_zero, List.set_cons_succ]
        have R := El.hid (SW.set k a b s t p)
        obtain ⟨⟨_, d0, d1, d2, d3⟩, fz⟩ := SW
        refine wpAnyK_one 8 (by kernel_rfl) rfl (fun K hK => ?_)
        go_simp
        refine hK.out _ _ (fun h => absurd rfl h) ?_
        clear hK K
        simp only [List.setIfInBounds_toArray, List.set_cons_zero, List.set_cons_succ]
        refine wpAnyK_done (by kernel_rfl) ?_ _
        refine J.out C _ ⟨?_, ?_, R.out.st⟩
        · exact Below.setCell (Below.setCell (Below.setCell (Below.setCell BW.out HC.out _) HC.out _) HC.out _) HC.out _
        · exact El.put4 (f := fun w => El.Gs w B1 B2 B3 B4 X1 Y1 X2 Y2 X3 Y3 X4 Y4) (fun w i v g => ⟨g.g1.off (Nat.ne_of_gt HL.out.1), g.g2.off (Nat.ne_of_gt HL.out.2.1), g.g3.off (Nat.ne_of_gt HL.out.2.2.1), g.g4.off (Nat.ne_of_gt HL.out.2.2.2)⟩) GS _ _ _ _
    · go_simp
      have GS0 := GS
      replace GS := GS.bw (El.bw_new _ (.cells #[.int .u8 0, .complex .f64 0 0, .complex .f64 0 0, .float .f64 0] 30))
      have SW := El.Sw.new WA 0 0 0 0 0 0 30
      have HC := El.hid (show w.heap.size ≤ WA.heap.size from BW.out.size)
      have HL := El.hid (⟨GS0.g1.lt, GS0.g2.lt, GS0.g3.lt, GS0.g4.lt⟩ : B1 < WA.heap.size ∧ B2 < WA.heap.size ∧ B3 < WA.heap.size ∧ B4 < WA.heap.size)
      clear GS0
      replace BW := El.hid (bw_trans BW.out (El.bw_new WA (.cells #[.int .u8 0, .complex .f64 0 0, .complex .f64 0 0, .float .f64 0] 30)))
      generalize WA.alloc (.cells #[.int .u8 0, .complex .f64 0 0, .complex .f64 0 0, .float .f64 0] 30) = wc2 at *
      generalize WA.heap.size = C at *
      refine hK.out _ _ (fun _ _ => GS) ?_
      clear hK K
      simp only [List.setIfInBounds_toArray, List.set_cons_zero, List.set_cons_succ]
      refine wpAnyK_one 2 (by kernel_rfl) rfl (fun K hK => ?_)
      go_simp
      go_wp2_with (go_at_call 5; refine (GO1.out _).mono ?_; rintro e' wc3 ⟨rfl, bb⟩)
      replace GS := GS.bw bb
      replace BW := El.hid (bw_trans BW.out bb)
      replace SW := SW.bw bb
      clear bb
      refine hK.out _ _ (fun _ _ => GS) ?_
      clear hK K
      simp only [List.setIfInBounds_toArray, List.set_cons_zero, List.set_cons_succ]
      refine wpAnyK_one 4 (by kernel_rfl) rfl (fun K hK => ?_)
      go_simp
      go_wp2_with (go_at_call 5; refine (GO2.out _).mono ?_; rintro e' wc4 ⟨rfl, bb⟩)
      replace GS := GS.bw bb
      replace BW := El.hid (bw_trans BW.out bb)
      replace SW := SW.bw bb
      clear bb
      refine hK.out _ _ (fun _ _ => GS) ?_
      clear hK K
      simp only [List.setIfInBounds_toArray, List.set_cons_zero, List.set_cons_succ]
      refine wpAnyK_take 6 41 (v := ?vc6) rfl (by kernel_rfl) (by kernel_rfl) (by kernel_rfl) (by kernel_rfl) (by kernel_rfl) (fun _ _ _ h => h) rfl (Or.inl ⟨by rfl, ?hc6⟩) (by assumption) ?rc6
      case hc6 => (intro w hSw; obtain ⟨⟨_, h0, h1⟩, ⟨_, h2, h3⟩, ⟨_, h4, h5⟩, ⟨_, h6, h7⟩⟩ := hSw; go_simp; with_reducible rfl)
      simp only [Act.put, List.setIfInBounds_toArray, List.set_cons_zero, List.set_cons_succ]
      have R := El.hid (SW.set k a b s t p)
      obtain ⟨⟨_, d0, d1, d2, d3⟩, fz⟩ := SW
      refine wpAnyK_one 8 (by kernel_rfl) rfl (fun K hK => ?_)
      go_simp
      refine hK.out _ _ (fun h => absurd rfl h) ?_
      clear hK K
      simp only [List.setIfInBounds_toArray, List.set_cons_zero, List.set_cons_succ]
      refine wpAnyK_done (by kernel_rfl) ?_ _
      refine J.out C _ ⟨?_, ?_, R.out.st⟩
      · exact Below.setCell (Below.setCell (Below.setCell (Below.setCell BW.out HC.out _) HC.out _) HC.out _) HC.out _
      · exact El.put4 (f := fun w => El.Gs w B1 B2 B3 B4 X1 Y1 X2 Y2 X3 Y3 X4 Y4) (fun w i v g => ⟨g.g1.off (Nat.ne_of_gt HL.out.1), g.g2.off (Nat.ne_of_gt HL.out.2.1), g.g3.off (Nat.ne_of_gt HL.out.2.2.1), g.g4.off (Nat.ne_of_gt HL.out.2.2.2)⟩) GS _ _ _ _
  clear GS BW
  intro C W1 FF
  obtain ⟨BW, GS, SC⟩ := FF
  replace BW := El.hid BW
  have GS0 := El.hid GS
  obtain ⟨⟨_, g10, g11⟩, ⟨_, g20, g21⟩, ⟨_, g30, g31⟩, ⟨_, g40, g41⟩⟩ := GS
  go_wp2_with fail
  refine (gsmall15 X1 Y1 _).mono ?_
  rintro e' W2 ⟨q, rfl, hq, bb⟩
  clear g10 g11 g20 g21 g30 g31 g40 g41
  have GS := GS0.out.bw bb
  replace SC := SC.bw bb
  replace BW := El.hid (bw_trans BW.out bb)
  clear bb GS0
  cases q
  · clear hq
    go_wp2
    go_ret
    exact ⟨rfl, BW.out⟩
  have H1 := El.hid (hq rfl)
  clear hq
  have GS0 := El.hid GS
  obtain ⟨⟨_, g10, g11⟩, ⟨_, g20, g21⟩, ⟨_, g30, g31⟩, ⟨_, g40, g41⟩⟩ := GS
  go_wp2_with fail
  refine (gsmall15 X2 Y2 _).mono ?_
  rintro e' W3 ⟨q, rfl, hq, bb⟩
  clear g10 g11 g20 g21 g30 g31 g40 g41
  have GS := GS0.out.bw bb
  replace SC := SC.bw bb
  replace BW := El.hid (bw_trans BW.out bb)
  clear bb GS0
  cases q
  · clear hq
    go_wp2
    go_ret
    exact ⟨rfl, BW.out⟩
  have H2 := El.hid (hq rfl)
  clear hq
  have GS0 := El.hid GS
  obtain ⟨⟨_, g10, g11⟩, ⟨_, g20, g21⟩, ⟨_, g30, g31⟩, ⟨_, g40, g41⟩⟩ := GS
  go_wp2_with fail
  refine (gsmall15 X3 Y3 _).mono ?_
  rintro e' W4 ⟨q, rfl, hq, bb⟩
  clear g10 g11 g20 g21 g30 g31 g40 g41
  have GS := GS0.out.bw bb
  replace SC := SC.bw bb
  replace BW := El.hid (bw_trans BW.out bb)
  clear bb GS0
  cases q
  · clear hq
    go_wp2
    go_ret
    exact ⟨rfl, BW.out⟩
  have H3 := El.hid (hq rfl)
  clear hq
  have GS0 := El.hid GS
  obtain ⟨⟨_, g10, g11⟩, ⟨_, g20, g21⟩, ⟨_, g30, g31⟩, ⟨_, g40, g41⟩⟩ := GS
  go_wp2_with fail
  refine (gsmall15 X4 Y4 _).mono ?_
  rintro e' W5 ⟨q, rfl, hq, bb⟩
  clear g10 g11 g20 g21 g30 g31 g40 g41
  have GS := GS0.out.bw bb
  replace SC := SC.bw bb
  replace BW := El.hid (bw_trans BW.out bb)
  clear bb GS0
  cases q
  · clear hq
    go_wp2
    go_ret
    exact ⟨rfl, BW.out⟩
  have H4 := El.hid (hq rfl)
  clear hq
  obtain ⟨er, CH, HB⟩ := HK.out H1.out H2.out H3.out H4.out
  replace CH := El.hid CH
  replace HB := El.hid HB
  clear HK
  unfold El.E at CH
  have SC0 := El.hid SC
  obtain ⟨_, e0, e1, e2, e3⟩ := SC
  go_wp2_with fail
  refine (CH.out _).mono ?_
  rintro e' W6 ⟨rfl, bb⟩
  clear e0 e1 e2 e3 CH
  have SC := SC0.out.bw bb
  replace GS := GS.bw bb
  replace BW := El.hid (bw_trans BW.out bb)
  clear bb SC0
  by_cases her : er = 0
  case neg =>
    go_wp2
    go_ret
    exact ⟨rfl, BW.out⟩
  subst her
  obtain ⟨x1, y1, a2, b2, dx, dy, YP, YQ, YS, YL, ⟨mv, p1, p2, s1, s2, l1, l2⟩, az, sd, yq, tl⟩ := HB.out rfl
  have MV := El.hid mv
  have P1 := El.hid p1
  have P2 := El.hid p2
  have S1 := El.hid s1
  have S2 := El.hid s2
  have L1 := El.hid l1
  have L2 := El.hid l2
  have AZ := El.hid az
  have SB := El.hid sd
  have YH := El.hid yq
  have TL := El.hid tl
  clear mv p1 p2 s1 s2 l1 l2 az sd yq tl HB
  unfold El.E at MV P1 P2 S1 S2 L1 L2
  go_wp2_with fail
  apply El.join (F := fun D W => Bw w W ∧ El.Gs W B1 B2 B3 B4 X1 Y1 X2 Y2 X3 Y3 X4 Y4 ∧ El.St W C k a b s t p ∧ El.St W D k a2 b2 s t p)
  case way =>
    intro K' J
    replace GS := GS.bw (Bw.refl W6).drew
    replace SC := SC.bw (Bw.refl W6).drew
    replace BW := El.hid BW.out.drew
    have T := (⟨GS, SC⟩ : _ ∧ _)
    refine wp_region_K (fun w' => El.Gs w' B1 B2 B3 B4 X1 Y1 X2 Y2 X3 Y3 X4 Y4 ∧ El.St w' C k a b s t p) 9 10 #[false, false, false, false, false, false, false, false, false, false] (by kernel_rfl) (by kernel_rfl) (by kernel_rfl) ?_
    generalize W6.drew = WB at *
    refine wpAnyK_take 0 66 (v := ?vy0) rfl (by kernel_rfl) (by kernel_rfl) (by kernel_rfl) (by kernel_rfl) (by kernel_rfl) (fun _ _ _ h => h) rfl (Or.inl ⟨by rfl, ?hy0⟩) (by assumption) ?ry0
    case hy0 => (intro w hSw; obtain ⟨⟨⟨_, h0, h1⟩, ⟨_, h2, h3⟩, ⟨_, h4, h5⟩, ⟨_, h6, h7⟩⟩, ⟨_, e0, e1, e2, e3⟩⟩ := hSw; go_simp; with_reducible rfl)
    simp only [Act.put, List.setIfInBounds_toArray, List.set_cons_zero, List.set_cons_succ]
    refine wpAnyK_take 1 67 (v := ?vy1) rfl (by kernel_rfl) (by kernel_rfl) (by kernel_rfl) (by kernel_rfl) (by kernel_rfl) (fun _ _ _ h => h) rfl (Or.inl ⟨by rfl, ?hy1⟩) (by assumption) ?ry1
    case hy1 => (intro w hSw; obtain ⟨⟨⟨_, h0, h1⟩, ⟨_, h2, h3⟩, ⟨_, h4, h5⟩, ⟨_, h6, h7⟩⟩, ⟨_, e0, e1, e2, e3⟩⟩ := hSw; go_simp; with_reducible rfl)
    simp only [Act.put, List.setIfInBounds_toArray, List.set_cons_zero, List.set_cons_succ]
    refine wpAnyK_two 2 7 (by kernel_rfl) rfl rfl (fun K hK => ?_) (fun K hK => ?_)
    · go_simp
      go_wp2_with (go_at_call 5; refine (GO4.out _).mono ?_; rintro e' wd2 ⟨rfl, bb⟩)
      replace GS := GS.bw bb
      replace SC := SC.bw bb
      replace BW := El.hid (bw_trans BW.out bb)
      replace T := (⟨GS, SC⟩ : _ ∧ _)
      clear bb
      refine hK.out _ _ (fun _ _ => T) ?_
      clear hK K
      simp only [List.setIfInBounds_toArray, List.set_cons_zero, List.set_cons_succ]
      refine wpAnyK_two 3 7 (by kernel_rfl) rfl rfl (fun K hK => ?_) (fun K hK => ?_)
      · go_simp
        go_wp2_with (go_at_call 8; refine (MV.out _).mono ?_; rintro e' wd3 ⟨rfl, bb⟩)
        replace GS := GS.bw bb
        replace SC := SC.bw bb
        replace BW := El.hid (bw_trans BW.out bb)
        replace T := (⟨GS, SC⟩ : _ ∧ _)
        clear bb
        refine hK.out _ _ (fun _ _ => T) ?_
        clear hK K
        simp only [List.setIfInBounds_toArray, List.set_cons_zero, List.set_cons_succ]
        refine wpAnyK_take 4 65 (v := ?vd4) rfl (by kernel_rfl) (by kernel_rfl) (by kernel_rfl) (by kernel_rfl) (by kernel_rfl) (fun _ _ _ h => h) rfl (Or.inl ⟨by rfl, ?hd4⟩) (by assumption) ?rd4
        case hd4 => (intro w hSw; obtain ⟨⟨⟨_, h0, h1⟩, ⟨_, h2, h3⟩, ⟨_, h4, h5⟩, ⟨_, h6, h7⟩⟩, ⟨_, e0, e1, e2, e3⟩⟩ := hSw; go_simp; with_reducible rfl)
        simp only [Act.put, List.setIfInBounds_toArray, List.set_cons_zero, List.set_cons_succ]
        refine wpAnyK_take 5 70 (v := ?vd5) rfl (by kernel_rfl) (by kernel_rfl) (by kernel_rfl) (by kernel_rfl) (by kernel_rfl) (fun _ _ _ h => h) rfl (Or.inl ⟨by rfl, ?hd5⟩) (by assumption) ?rd5
        case hd5 => (intro w hSw; obtain ⟨⟨⟨_, h0, h1⟩, ⟨_, h2, h3⟩, ⟨_, h4, h5⟩, ⟨_, h6, h7⟩⟩, ⟨_, e0, e1, e2, e3⟩⟩ := hSw; go_simp; with_reducible rfl)
        simp only [Act.put, List.setIfInBounds_toArray, List.set_cons_zero, List.set_cons_succ]
        refine wpAnyK_take 6 71 (v := ?vd6) rfl (by kernel_rfl) (by kernel_rfl) (by kernel_rfl) (by kernel_rfl) (by kernel_rfl) (fun _ _ _ h => h) rfl (Or.inl ⟨by rfl, ?hd6⟩) (by assumption) ?rd6
        case hd6 => (intro w hSw; obtain ⟨⟨⟨_, h0, h1⟩, ⟨_, h2, h3⟩, ⟨_, h4, h5⟩, ⟨_, h6, h7⟩⟩, ⟨_, e0, e1, e2, e3⟩⟩ := hSw; go_simp; with_reducible rfl)
        simp only [Act.put, List.setIfInBounds_toArray, List.set_cons_zero, List.set_cons_succ]
        refine wpAnyK_one 7 (by kernel_rfl) rfl (fun K hK => ?_)
        go_simp
        have GS0 := GS
        replace GS := GS.bw (El.bw_new _ (.cells #[.int .u8 0, .complex .f64 0 0, .complex .f64 0 0, .float .f64 0] 30))
        have SW := El.Sw.new wd3 0 0 0 0 0 0 30
        have HC := El.hid (show w.heap.size ≤ wd3.heap.size from BW.out.size)
        have HL := El.hid (⟨GS0.g1.lt, GS0.g2.lt, GS0.g3.lt, GS0.g4.lt⟩ : B1 < wd3.heap.size ∧ B2 < wd3.heap.size ∧ B3 < wd3.heap.size ∧ B4 < wd3.heap.size)
        clear GS0
        have HX := El.hid (show C < wd3.heap.size from SC.lt)
        replace SC := SC.bw (El.bw_new _ (.cells #[.int .u8 0, .complex .f64 0 0, .complex .f64 0 0, .float .f64 0] 30))
        replace BW := El.hid (bw_trans BW.out (El.bw_new wd3 (.cells #[.int .u8 0, .complex .f64 0 0, .complex .f64 0 0, .float .f64 0] 30)))
        generalize wd3.alloc (.cells #[.int .u8 0, .complex .f64 0 0, .complex .f64 0 0, .float .f64 0] 30) = wd4 at *
        generalize wd3.heap.size = D at *
        replace T := (⟨GS, SC⟩ : _ ∧ _)
        refine hK.out _ _ (fun _ _ => T) ?_
        clear hK K
        simp only [List.setIfInBounds_toArray, List.set_cons_zero, List.set_cons_succ]
        have R := El.hid (SW.set k a2 b2 s t p)
        obtain ⟨⟨_, d0, d1, d2, d3⟩, fz⟩ := SW
        refine wpAnyK_one 8 (by kernel_rfl) rfl (fun K hK => ?_)
        go_simp
        have T0 := (⟨El.put4 (f := fun w => El.Gs w B1 B2 B3 B4 X1 Y1 X2 Y2 X3 Y3 X4 Y4) (fun w i v g => ⟨g.g1.off (Nat.ne_of_gt HL.out.1), g.g2.off (Nat.ne_of_gt HL.out.2.1), g.g3.off (Nat.ne_of_gt HL.out.2.2.1), g.g4.off (Nat.ne_of_gt HL.out.2.2.2)⟩) GS (.int .u8 k) (.complex .f64 a2 b2) (.complex .f64 s t) (.float .f64 p), El.put4 (f := fun w => El.St w C k a b s t p) (fun w i v g => g.off (Nat.ne_of_gt HX.out)) SC (.int .u8 k) (.complex .f64 a2 b2) (.complex .f64 s t) (.float .f64 p)⟩ : _ ∧ _)
        refine hK.out _ _ (fun _ _ => T0) ?_
        clear hK K
        simp only [List.setIfInBounds_toArray, List.set_cons_zero, List.set_cons_succ]
        refine wpAnyK_one 9 (by kernel_rfl) rfl (fun K hK => ?_)
        go_simp
        refine hK.out _ _ (fun h => absurd rfl h) ?_
        clear hK K
        simp only [List.setIfInBounds_toArray, List.set_cons_zero, List.set_cons_succ]
        refine wpAnyK_done (by kernel_rfl) ?_ _
        refine J.out D _ ⟨?_, T0.1, T0.2, R.out.st⟩
        exact Below.setCell (Below.setCell (Below.setCell (Below.setCell BW.out HC.out _) HC.out _) HC.out _) HC.out _
      · go_simp
        have GS0 := GS
        replace GS := GS.bw (El.bw_new _ (.cells #[.int .u8 0, .complex .f64 0 0, .complex .f64 0 0, .float .f64 0] 30))
        have SW := El.Sw.new wd2 0 0 0 0 0 0 30
        have HC := El.hid (show w.heap.size ≤ wd2.heap.size from BW.out.size)
        have HL := El.hid (⟨GS0.g1.lt, GS0.g2.lt, GS0.g3.lt, GS0.g4.lt⟩ : B1 < wd2.heap.size ∧ B2 < wd2.heap.size ∧ B3 < wd2.heap.size ∧ B4 < wd2.heap.size)
        clear GS0
        have HX := El.hid (show C < wd2.heap.size from SC.lt)
        replace SC := SC.bw (El.bw_new _ (.cells #[.int .u8 0, .complex .f64 0 0, .complex .f64 0 0, .float .f64 0] 30))
        replace BW := El.hid (bw_trans BW.out (El.bw_new wd2 (.cells #[.int .u8 0, .complex .f64 0 0, .complex .f64 0 0, .float .f64 0] 30)))
        generalize wd2.alloc (.cells #[.int .u8 0, .complex .f64 0 0, .complex .f64 0 0, .float .f64 0] 30) = we3 at *
        generalize wd2.heap.size = D at *
        replace T := (⟨GS, SC⟩ : _ ∧ _)
        refine hK.out _ _ (fun _ _ => T) ?_
        clear hK K
        simp only [List.setIfInBounds_toArray, List.set_cons_zero, List.set_cons_succ]
        refine wpAnyK_one 3 (by kernel_rfl) rfl (fun K hK => ?_)
        go_simp
        go_wp2_with (go_at_call 8; refine (MV.out _).mono ?_; rintro e' we4 ⟨rfl, bb⟩)
        replace GS := GS.bw bb
        replace SC := SC.bw bb
        replace BW := El.hid (bw_trans BW.out bb)
        replace SW := SW.bw bb
        replace T := (⟨GS, SC⟩ : _ ∧ _)
        clear bb
        refine hK.out _ _ (fun _ _ => T) ?_
        clear hK K
        simp only [List.setIfInBounds_toArray, List.set_cons_zero, List.set_cons_succ]
        refine wpAnyK_take 4 65 (v := ?ve4) rfl (by kernel_rfl) (by kernel_rfl) (by kernel_rfl) (by kernel_rfl) (by kernel_rfl) (fun _ _ _ h => h) rfl (Or.inl ⟨by rfl, ?he4⟩) (by assumption) ?re4
        case he4 => (intro w hSw; obtain ⟨⟨⟨_, h0, h1⟩, ⟨_, h2, h3⟩, ⟨_, h4, h5⟩, ⟨_, h6, h7⟩⟩, ⟨_, e0, e1, e2, e3⟩⟩ := hSw; go_simp; with_reducible rfl)
        simp only [Act.put, List.setIfInBounds_toArray, List.set_cons_zero, List.set_cons_succ]
        refine wpAnyK_take 5 70 (v := ?ve5) rfl (by kernel_rfl) (by kernel_rfl) (by kernel_rfl) (by kernel_rfl) (by kernel_rfl) (fun _ _ _ h => h) rfl (Or.inl ⟨by rfl, ?he5⟩) (by assumption) ?re5
        case he5 => (intro w hSw; obtain ⟨⟨⟨_, h0, h1⟩, ⟨_, h2, h3⟩, ⟨_, h4, h5⟩, ⟨_, h6, h7⟩⟩, ⟨_, e0, e1, e2, e3⟩⟩ := hSw; go_simp; with_reducible rfl)
        simp only [Act.put, List.setIfInBounds_toArray, List.set_cons_zero, List.set_cons_succ]
        refine wpAnyK_take 6 71 (v := ?ve6) rfl (by kernel_rfl) (by kernel_rfl) (by kernel_rfl) (by kernel_rfl) (by kernel_rfl) (fun _ _ _ h => h) rfl (Or.inl ⟨by rfl, ?he6⟩) (by assumption) ?re6
        case he6 => (intro w hSw; obtain ⟨⟨⟨_, h0, h1⟩, ⟨_, h2, h3⟩, ⟨_, h4, h5⟩, ⟨_, h6, h7⟩⟩, ⟨_, e0, e1, e2, e3⟩⟩ := hSw; go_simp; with_reducible rfl)
        simp only [Act.put, List.setIfInBounds_toArray, List.set_cons_zero, List.set_cons_succ]
        have R := El.hid (SW.set k a2 b2 s t p)
        obtain ⟨⟨_, d0, d1, d2, d3⟩, fz⟩ := SW
        refine wpAnyK_one 8 (by kernel_rfl) rfl (fun K hK => ?_)
        go_simp
        have T0 := (⟨El.put4 (f := fun w => El.Gs w B1 B2 B3 B4 X1 Y1 X2 Y2 X3 Y3 X4 Y4) (fun w i v g => ⟨g.g1.off (Nat.ne_of_gt HL.out.1), g.g2.off (Nat.ne_of_gt HL.out.2.1), g.g3.off (Nat.ne_of_gt HL.out.2.2.1), g.g4.off (Nat.ne_of_gt HL.out.2.2.2)⟩) GS (.int .u8 k) (.complex .f64 a2 b2) (.complex .f64 s t) (.float .f64 p), El.put4 (f := fun w => El.St w C k a b s t p) (fun w i v g => g.off (Nat.ne_of_gt HX.out)) SC (.int .u8 k) (.complex .f64 a2 b2) (.complex .f64 s t) (.float .f64 p)⟩ : _ ∧ _)
        refine hK.out _ _ (fun _ _ => T0) ?_
        clear hK K
        simp only [List.setIfInBounds_toArray, List.set_cons_zero, List.set_cons_succ]
        refine wpAnyK_one 9 (by kernel_rfl) rfl (fun K hK => ?_)
        go_simp
        refine hK.out _ _ (fun h => absurd rfl h) ?_
        clear hK K
        simp only [List.setIfInBounds_toArray, List.set_cons_zero, List.set_cons_succ]
        refine wpAnyK_done (by kernel_rfl) ?_ _
        refine J.out D _ ⟨?_, T0.1, T0.2, R.out.st⟩
        exact Below.setCell (Below.setCell (Below.setCell (Below.setCell BW.out HC.out _) HC.out _) HC.out _) HC.out _
    · go_simp
      have GS0 := GS
      replace GS := GS.bw (El.bw_new _ (.cells #[.int .u8 0, .complex .f64 0 0, .complex .f64 0 0, .float .f64 0] 30))
      have SW := El.Sw.new WB 0 0 0 0 0 0 30
      have HC := El.hid (show w.heap.size ≤ WB.heap.size from BW.out.size)
      have HL := El.hid (⟨GS0.g1.lt, GS0.g2.lt, GS0.g3.lt, GS0.g4.lt⟩ : B1 < WB.heap.size ∧ B2 < WB.heap.size ∧ B3 < WB.heap.size ∧ B4 < WB.heap.size)
      clear GS0
      have HX := El.hid (show C < WB.heap.size from SC.lt)
      replace SC := SC.bw (El.bw_new _ (.cells #[.int .u8 0, .complex .f64 0 0, .complex .f64 0 0, .float .f64 0] 30))
      replace BW := El.hid (bw_trans BW.out (El.bw_new WB (.cells #[.int .u8 0, .complex .f64 0 0, .complex .f64 0 0, .float .f64 0] 30)))
      generalize WB.alloc (.cells #[.int .u8 0, .complex .f64 0 0, .complex .f64 0 0, .float .f64 0] 30) = wf2 at *
      generalize WB.heap.size = D at *
      replace T := (⟨GS, SC⟩ : _ ∧ _)
      refine hK.out _ _ (fun _ _ => T) ?_
      clear hK K
      simp only [List.setIfInBounds_toArray, List.set_cons_zero, List.set_cons_succ]
      refine wpAnyK_one 2 (by kernel_rfl) rfl (fun K hK => ?_)
      go_simp
      go_wp2_with (go_at_call 5; refine (GO4.out _).mono ?_; rintro e' wf3 ⟨rfl, bb⟩)
      replace GS := GS.bw bb
      replace SC := SC.bw bb
      replace BW := El.hid (bw_trans BW.out bb)
      replace SW := SW.bw bb
      replace T := (⟨GS, SC⟩ : _ ∧ _)
      clear bb
      refine hK.out _ _ (fun _ _ => T) ?_
      clear hK K
      simp only [List.setIfInBounds_toArray, List.set_cons_zero, List.set_cons_succ]
      refine wpAnyK_one 3 (by kernel_rfl) rfl (fun K hK => ?_)
      go_simp
      go_wp2_with (go_at_call 8; refine (MV.out _).mono ?_; rintro e' wf4 ⟨rfl, bb⟩)
      replace GS := GS.bw bb
      replace SC := SC.bw bb
      replace BW := El.hid (bw_trans BW.out bb)
      replace SW := SW.bw bb
      replace T := (⟨GS, SC⟩ : _ ∧ _)
      clear bb
      refine hK.out _ _ (fun _ _ => T) ?_
      clear hK K
      simp only [List.setIfInBounds_toArray, List.set_cons_zero, List.set_cons_succ]
      refine wpAnyK_take 4 65 (v := ?vf4) rfl (by kernel_rfl) (by kernel_rfl) (by kernel_rfl) (by kernel_rfl) (by kernel_rfl) (fun _ _ _ h => h) rfl (Or.inl ⟨by rfl, ?hf4⟩) (by assumption) ?rf4
      case hf4 => (intro w hSw; obtain ⟨⟨⟨_, h0, h1⟩, ⟨_, h2, h3⟩, ⟨_, h4, h5⟩, ⟨_, h6, h7⟩⟩, ⟨_, e0, e1, e2, e3⟩⟩ := hSw; go_simp; with_reducible rfl)
      simp only [Act.put, List.setIfInBounds_toArray, List.set_cons_zero, List.set_cons_succ]
      refine wpAnyK_take 5 70 (v := ?vf5) rfl (by kernel_rfl) (by kernel_rfl) (by kernel_rfl) (by kernel_rfl) (by kernel_rfl) (fun _ _ _ h => h) rfl (Or.inl ⟨by rfl, ?hf5⟩) (by assumption) ?rf5
      case hf5 => (intro w hSw; obtain ⟨⟨⟨_, h0, h1⟩, ⟨_, h2, h3⟩, ⟨_, h4, h5⟩, ⟨_, h6, h7⟩⟩, ⟨_, e0, e1, e2, e3⟩⟩ := hSw; go_simp; with_reducible rfl)
      simp only [Act.put, List.setIfInBounds_toArray, List.set_cons_zero, List.set_cons_succ]
      refine wpAnyK_take 6 71 (v := ?vf6) rfl (by kernel_rfl) (by kernel_rfl) (by kernel_rfl) (by kernel_rfl) (by kernel_rfl) (fun _ _ _ h => h) rfl (Or.inl ⟨by rfl, ?hf6⟩) (by assumption) ?rf6
      case hf6 => (intro w hSw; obtain ⟨⟨⟨_, h0, h1⟩, ⟨_, h2, h3⟩, ⟨_, h4, h5⟩, ⟨_, h6, h7⟩⟩, ⟨_, e0, e1, e2, e3⟩⟩ := hSw; go_simp; with_reducible rfl)
      simp only [Act.put, List.setIfInBounds_toArray, List.set_cons_zero, List.set_cons_succ]
      have R := El.hid (SW.set k a2 b2 s t p)
      obtain ⟨⟨_, d0, d1, d2, d3⟩, fz⟩ := SW
      refine wpAnyK_one 8 (by kernel_rfl) rfl (fun K hK => ?_)
      go_simp
      have T0 := (⟨El.put4 (f := fun w => El.Gs w B1 B2 B3 B4 X1 Y1 X2 Y2 X3 Y3 X4 Y4) (fun w i v g => ⟨g.g1.off (Nat.ne_of_gt HL.out.1), g.g2.off (Nat.ne_of_gt HL.out.2.1), g.g3.off (Nat.ne_of_gt HL.out.2.2.1), g.g4.off (Nat.ne_of_gt HL.out.2.2.2)⟩) GS (.int .u8 k) (.complex .f64 a2 b2) (.complex .f64 s t) (.float .f64 p), El.put4 (f := fun w => El.St w C k a b s t p) (fun w i v g => g.off (Nat.ne_of_gt HX.out)) SC (.int .u8 k) (.complex .f64 a2 b2) (.complex .f64 s t) (.float .f64 p)⟩ : _ ∧ _)
      refine hK.out _ _ (fun _ _ => T0) ?_
      clear hK K
      simp only [List.setIfInBounds_toArray, List.set_cons_zero, List.set_cons_succ]
      refine wpAnyK_one 9 (by kernel_rfl) rfl (fun K hK => ?_)
      go_simp
      refine hK.out _ _ (fun h => absurd rfl h) ?_
      clear hK K
      simp only [List.setIfInBounds_toArray, List.set_cons_zero, List.set_cons_succ]
      refine wpAnyK_done (by kernel_rfl) ?_ _
      refine J.out D _ ⟨?_, T0.1, T0.2, R.out.st⟩
      exact Below.setCell (Below.setCell (Below.setCell (Below.setCell BW.out HC.out _) HC.out _) HC.out _) HC.out _
  clear GS SC BW MV
  intro D W1 FF
  obtain ⟨BW, GS, SC, SD⟩ := FF
  replace BW := El.hid BW
  go_wp2_with fail
  replace GS := GS.bw (Bw.refl W1).drew
  replace SC := SC.bw (Bw.refl W1).drew
  replace SD := SD.bw (Bw.refl W1).drew
  replace BW := El.hid BW.out.drew
  have T := (⟨GS, SC⟩ : _ ∧ _)
  refine wp_region_K (fun w' => El.Gs w' B1 B2 B3 B4 X1 Y1 X2 Y2 X3 Y3 X4 Y4 ∧ El.St w' C k a b s t p) 5 6 #[false, false, false, false, false, false] (by kernel_rfl) (by kernel_rfl) (by kernel_rfl) ?_
  generalize W1.drew = U0 at *
  refine wpAnyK_take 0 74 (v := ?vg0) rfl (by kernel_rfl) (by kernel_rfl) (by kernel_rfl) (by kernel_rfl) (by kernel_rfl) (fun _ _ _ h => h) rfl (Or.inl ⟨by rfl, ?hg0⟩) (by assumption) ?rg0
  case hg0 => (intro w hSw; obtain ⟨⟨⟨_, h0, h1⟩, ⟨_, h2, h3⟩, ⟨_, h4, h5⟩, ⟨_, h6, h7⟩⟩, ⟨_, e0, e1, e2, e3⟩⟩ := hSw; go_simp; with_reducible rfl)
  simp only [Act.put, List.setIfInBounds_toArray, List.set_cons_zero, List.set_cons_succ]
  refine wpAnyK_take 2 76 (v := ?vg2) rfl (by kernel_rfl) (by kernel_rfl) (by kernel_rfl) (by kernel_rfl) (by kernel_rfl) (fun _ _ _ h => h) rfl (Or.inl ⟨by rfl, ?hg2⟩) (by assumption) ?rg2
  case hg2 => (intro w hSw; obtain ⟨⟨⟨_, h0, h1⟩, ⟨_, h2, h3⟩, ⟨_, h4, h5⟩, ⟨_, h6, h7⟩⟩, ⟨_, e0, e1, e2, e3⟩⟩ := hSw; go_simp; with_reducible rfl)
  simp only [Act.put, List.setIfInBounds_toArray, List.set_cons_zero, List.set_cons_succ]
  refine wpAnyK_one 1 (by kernel_rfl) rfl (fun K hK => ?_)
  go_simp
  go_wp2_with (go_at_call 5; refine (GO3.out _).mono ?_; rintro e' U1 ⟨rfl, bb⟩)
  replace GS := GS.bw bb
  replace SC := SC.bw bb
  replace SD := SD.bw bb
  replace BW := El.hid (bw_trans BW.out bb)
  replace T := (⟨GS, SC⟩ : _ ∧ _)
  clear bb
  refine hK.out _ _ (fun _ _ => T) ?_
  clear hK K
  simp only [List.setIfInBounds_toArray, List.set_cons_zero, List.set_cons_succ]
  refine wpAnyK_one 3 (by kernel_rfl) rfl (fun K hK => ?_)
  go_simp
  go_wp2_with (go_at_call 5; refine (GO4.out _).mono ?_; rintro e' U2 ⟨rfl, bb⟩)
  replace GS := GS.bw bb
  replace SC := SC.bw bb
  replace SD := SD.bw bb
  replace BW := El.hid (bw_trans BW.out bb)
  replace T := (⟨GS, SC⟩ : _ ∧ _)
  clear bb
  refine hK.out _ _ (fun _ _ => T) ?_
  clear hK K
  simp only [List.setIfInBounds_toArray, List.set_cons_zero, List.set_cons_succ]
  refine wpAnyK_one 4 (by kernel_rfl) rfl (fun K hK => ?_)
  go_simp
  go_wp2_with (go_at_call 9; refine (AZ.out _).mono ?_; rintro e' w9 ⟨rfl, hw9⟩; subst hw9)
  refine hK.out _ _ (fun _ _ => T) ?_
  clear hK K
  simp only [List.setIfInBounds_toArray, List.set_cons_zero, List.set_cons_succ]
  refine wpAnyK_one 5 (by kernel_rfl) rfl (fun K hK => ?_)
  go_simp
  refine hK.out _ _ (fun h => absurd rfl h) ?_
  clear hK K
  simp only [List.setIfInBounds_toArray, List.set_cons_zero, List.set_cons_succ]
  refine wpAnyK_done (by kernel_rfl) ?_ _
  clear T
  go_wp2_with fail
  replace GS := GS.bw (Bw.refl w9).drew
  replace SC := SC.bw (Bw.refl w9).drew
  replace SD := SD.bw (Bw.refl w9).drew
  replace BW := El.hid BW.out.drew
  have T := (⟨GS, SC⟩ : _ ∧ _)
  refine wp_region_K (fun w' => El.Gs w' B1 B2 B3 B4 X1 Y1 X2 Y2 X3 Y3 X4 Y4 ∧ El.St w' C k a b s t p) 8 9 #[false, false, false, false, false, false, false, false, false] (by kernel_rfl) (by kernel_rfl) (by kernel_rfl) ?_
  generalize w9.drew = Vh0 at *
  refine wpAnyK_take 0 80 (v := ?vh0) rfl (by kernel_rfl) (by kernel_rfl) (by kernel_rfl) (by kernel_rfl) (by kernel_rfl) (fun _ _ _ h => h) rfl (Or.inl ⟨by rfl, ?hh0⟩) (by assumption) ?rh0
  case hh0 => (intro w hSw; obtain ⟨⟨⟨_, h0, h1⟩, ⟨_, h2, h3⟩, ⟨_, h4, h5⟩, ⟨_, h6, h7⟩⟩, ⟨_, e0, e1, e2, e3⟩⟩ := hSw; go_simp; with_reducible rfl)
  simp only [Act.put, List.setIfInBounds_toArray, List.set_cons_zero, List.set_cons_succ]
  refine wpAnyK_take 1 81 (v := ?vh1) rfl (by kernel_rfl) (by kernel_rfl) (by kernel_rfl) (by kernel_rfl) (by kernel_rfl) (fun _ _ _ h => h) rfl (Or.inl ⟨by rfl, ?hh1⟩) (by assumption) ?rh1
  case hh1 => (intro w hSw; obtain ⟨⟨⟨_, h0, h1⟩, ⟨_, h2, h3⟩, ⟨_, h4, h5⟩, ⟨_, h6, h7⟩⟩, ⟨_, e0, e1, e2, e3⟩⟩ := hSw; go_simp; with_reducible rfl)
  simp only [Act.put, List.setIfInBounds_toArray, List.set_cons_zero, List.set_cons_succ]
  refine wpAnyK_one 2 (by kernel_rfl) rfl (fun K hK => ?_)
  go_simp
  go_wp2_with (go_at_call 5; refine (GO3.out _).mono ?_; rintro e' Vh1 ⟨rfl, bb⟩)
  replace GS := GS.bw bb
  replace SC := SC.bw bb
  replace SD := SD.bw bb
  replace BW := El.hid (bw_trans BW.out bb)
  replace T := (⟨GS, SC⟩ : _ ∧ _)
  clear bb
  refine hK.out _ _ (fun _ _ => T) ?_
  clear hK K
  simp only [List.setIfInBounds_toArray, List.set_cons_zero, List.set_cons_succ]
  refine wpAnyK_one 3 (by kernel_rfl) rfl (fun K hK => ?_)
  go_simp
  go_wp2_with (go_at_call 10; refine (P1.out _).mono ?_; rintro e' Vh2 ⟨uh, vh, erh, rfl, hq, he, bb⟩; have Qh := El.hid hq; have hehH := El.hid he; clear hq he)
  replace GS := GS.bw bb
  replace SC := SC.bw bb
  replace SD := SD.bw bb
  replace BW := El.hid (bw_trans BW.out bb)
  replace T := (⟨GS, SC⟩ : _ ∧ _)
  clear bb
  refine hK.out _ _ (fun _ _ => T) ?_
  clear hK K
  simp only [List.setIfInBounds_toArray, List.set_cons_zero, List.set_cons_succ]
  refine wpAnyK_take 4 79 (v := ?vh4) rfl (by kernel_rfl) (by kernel_rfl) (by kernel_rfl) (by kernel_rfl) (by kernel_rfl) (fun _ _ _ h => h) rfl (Or.inl ⟨by rfl, ?hh4⟩) (by assumption) ?rh4
  case hh4 => (intro w hSw; obtain ⟨⟨⟨_, h0, h1⟩, ⟨_, h2, h3⟩, ⟨_, h4, h5⟩, ⟨_, h6, h7⟩⟩, ⟨_, e0, e1, e2, e3⟩⟩ := hSw; go_simp; with_reducible rfl)
  simp only [Act.put, List.setIfInBounds_toArray, List.set_cons_zero, List.set_cons_succ]
  refine wpAnyK_take 5 84 (v := ?vh5) rfl (by kernel_rfl) (by kernel_rfl) (by kernel_rfl) (by kernel_rfl) (by kernel_rfl) (fun _ _ _ h => h) rfl (Or.inl ⟨by rfl, ?hh5⟩) (by assumption) ?rh5
  case hh5 => (intro w hSw; obtain ⟨⟨⟨_, h0, h1⟩, ⟨_, h2, h3⟩, ⟨_, h4, h5⟩, ⟨_, h6, h7⟩⟩, ⟨_, e0, e1, e2, e3⟩⟩ := hSw; go_simp; with_reducible rfl)
  simp only [Act.put, List.setIfInBounds_toArray, List.set_cons_zero, List.set_cons_succ]
  refine wpAnyK_take 6 85 (v := ?vh6) rfl (by kernel_rfl) (by kernel_rfl) (by kernel_rfl) (by kernel_rfl) (by kernel_rfl) (fun _ _ _ h => h) rfl (Or.inl ⟨by rfl, ?hh6⟩) (by assumption) ?rh6
  case hh6 => (intro w hSw; obtain ⟨⟨⟨_, h0, h1⟩, ⟨_, h2, h3⟩, ⟨_, h4, h5⟩, ⟨_, h6, h7⟩⟩, ⟨_, e0, e1, e2, e3⟩⟩ := hSw; go_simp; with_reducible rfl)
  simp only [Act.put, List.setIfInBounds_toArray, List.set_cons_zero, List.set_cons_succ]
  refine wpAnyK_take 7 18 (v := ?vh7) rfl (by kernel_rfl) (by kernel_rfl) (by kernel_rfl) (by kernel_rfl) (by kernel_rfl) (fun _ _ _ h => h) rfl (Or.inl ⟨by rfl, ?hh7⟩) (by assumption) ?rh7
  case hh7 => (intro w hSw; obtain ⟨⟨⟨_, h0, h1⟩, ⟨_, h2, h3⟩, ⟨_, h4, h5⟩, ⟨_, h6, h7⟩⟩, ⟨_, e0, e1, e2, e3⟩⟩ := hSw; go_simp; with_reducible rfl)
  simp only [Act.put, List.setIfInBounds_toArray, List.set_cons_zero, List.set_cons_succ]
  refine wpAnyK_one 8 (by kernel_rfl) rfl (fun K hK => ?_)
  go_simp
  refine hK.out _ _ (fun h => absurd rfl h) ?_
  clear hK K
  simp only [List.setIfInBounds_toArray, List.set_cons_zero, List.set_cons_succ]
  refine wpAnyK_done (by kernel_rfl) ?_ _
  clear T
  have SD0 := El.hid SD
  obtain ⟨_, e0, e1, e2, e3⟩ := SD
  go_wp2_with fail
  refine (P2.out _).mono ?_
  rintro e' Vi1 ⟨ui, vi, eri, rfl, hq, he, bb⟩
  clear e0 e1 e2 e3
  have SD := SD0.out.bw bb
  clear SD0
  replace GS := GS.bw bb
  replace SC := SC.bw bb
  replace BW := El.hid (bw_trans BW.out bb)
  have Qi := El.hid hq
  have heiH := El.hid he
  clear hq he bb
  clear P1 P2
  go_wp2_with fail
  replace GS := GS.bw (Bw.refl Vi1).drew
  replace SC := SC.bw (Bw.refl Vi1).drew
  replace SD := SD.bw (Bw.refl Vi1).drew
  replace BW := El.hid BW.out.drew
  have T := (⟨GS, SC⟩ : _ ∧ _)
  refine wp_region_K (fun w' => El.Gs w' B1 B2 B3 B4 X1 Y1 X2 Y2 X3 Y3 X4 Y4 ∧ El.St w' C k a b s t p) 8 9 #[false, false, false, false, false, false, false, false, false] (by kernel_rfl) (by kernel_rfl) (by kernel_rfl) ?_
  generalize Vi1.drew = Vj0 at *
  refine wpAnyK_take 0 93 (v := ?vj0) rfl (by kernel_rfl) (by kernel_rfl) (by kernel_rfl) (by kernel_rfl) (by kernel_rfl) (fun _ _ _ h => h) rfl (Or.inl ⟨by rfl, ?hj0⟩) (by assumption) ?rj0
  case hj0 => (intro w hSw; obtain ⟨⟨⟨_, h0, h1⟩, ⟨_, h2, h3⟩, ⟨_, h4, h5⟩, ⟨_, h6, h7⟩⟩, ⟨_, e0, e1, e2, e3⟩⟩ := hSw; go_simp; with_reducible rfl)
  simp only [Act.put, List.setIfInBounds_toArray, List.set_cons_zero, List.set_cons_succ]
  refine wpAnyK_take 1 94 (v := ?vj1) rfl (by kernel_rfl) (by kernel_rfl) (by kernel_rfl) (by kernel_rfl) (by kernel_rfl) (fun _ _ _ h => h) rfl (Or.inl ⟨by rfl, ?hj1⟩) (by assumption) ?rj1
  case hj1 => (intro w hSw; obtain ⟨⟨⟨_, h0, h1⟩, ⟨_, h2, h3⟩, ⟨_, h4, h5⟩, ⟨_, h6, h7⟩⟩, ⟨_, e0, e1, e2, e3⟩⟩ := hSw; go_simp; with_reducible rfl)
  simp only [Act.put, List.setIfInBounds_toArray, List.set_cons_zero, List.set_cons_succ]
  refine wpAnyK_one 2 (by kernel_rfl) rfl (fun K hK => ?_)
  go_simp
  go_wp2_with (go_at_call 5; refine (GO3.out _).mono ?_; rintro e' Vj1 ⟨rfl, bb⟩)
  replace GS := GS.bw bb
  replace SC := SC.bw bb
  replace SD := SD.bw bb
  replace BW := El.hid (bw_trans BW.out bb)
  replace T := (⟨GS, SC⟩ : _ ∧ _)
  clear bb
  refine hK.out _ _ (fun _ _ => T) ?_
  clear hK K
  simp only [List.setIfInBounds_toArray, List.set_cons_zero, List.set_cons_succ]
  refine wpAnyK_one 3 (by kernel_rfl) rfl (fun K hK => ?_)
  go_simp
  go_wp2_with (go_at_call 11; refine (S1.out _).mono ?_; rintro e' Vj2 ⟨uj, vj, erj, rfl, hq, he, bb⟩; have Qj := El.hid hq; have hejH := El.hid he; clear hq he)
  replace GS := GS.bw bb
  replace SC := SC.bw bb
  replace SD := SD.bw bb
  replace BW := El.hid (bw_trans BW.out bb)
  replace T := (⟨GS, SC⟩ : _ ∧ _)
  clear bb
  refine hK.out _ _ (fun _ _ => T) ?_
  clear hK K
  simp only [List.setIfInBounds_toArray, List.set_cons_zero, List.set_cons_succ]
  refine wpAnyK_take 4 92 (v := ?vj4) rfl (by kernel_rfl) (by kernel_rfl) (by kernel_rfl) (by kernel_rfl) (by kernel_rfl) (fun _ _ _ h => h) rfl (Or.inl ⟨by rfl, ?hj4⟩) (by assumption) ?rj4
  case hj4 => (intro w hSw; obtain ⟨⟨⟨_, h0, h1⟩, ⟨_, h2, h3⟩, ⟨_, h4, h5⟩, ⟨_, h6, h7⟩⟩, ⟨_, e0, e1, e2, e3⟩⟩ := hSw; go_simp; with_reducible rfl)
  simp only [Act.put, List.setIfInBounds_toArray, List.set_cons_zero, List.set_cons_succ]
  refine wpAnyK_take 5 97 (v := ?vj5) rfl (by kernel_rfl) (by kernel_rfl) (by kernel_rfl) (by kernel_rfl) (by kernel_rfl) (fun _ _ _ h => h) rfl (Or.inl ⟨by rfl, ?hj5⟩) (by assumption) ?rj5
  case hj5 => (intro w hSw; obtain ⟨⟨⟨_, h0, h1⟩, ⟨_, h2, h3⟩, ⟨_, h4, h5⟩, ⟨_, h6, h7⟩⟩, ⟨_, e0, e1, e2, e3⟩⟩ := hSw; go_simp; with_reducible rfl)
  simp only [Act.put, List.setIfInBounds_toArray, List.set_cons_zero, List.set_cons_succ]
  refine wpAnyK_take 6 98 (v := ?vj6) rfl (by kernel_rfl) (by kernel_rfl) (by kernel_rfl) (by kernel_rfl) (by kernel_rfl) (fun _ _ _ h => h) rfl (Or.inl ⟨by rfl, ?hj6⟩) (by assumption) ?rj6
  case hj6 => (intro w hSw; obtain ⟨⟨⟨_, h0, h1⟩, ⟨_, h2, h3⟩, ⟨_, h4, h5⟩, ⟨_, h6, h7⟩⟩, ⟨_, e0, e1, e2, e3⟩⟩ := hSw; go_simp; with_reducible rfl)
  simp only [Act.put, List.setIfInBounds_toArray, List.set_cons_zero, List.set_cons_succ]
  refine wpAnyK_take 7 22 (v := ?vj7) rfl (by kernel_rfl) (by kernel_rfl) (by kernel_rfl) (by kernel_rfl) (by kernel_rfl) (fun _ _ _ h => h) rfl (Or.inl ⟨by rfl, ?hj7⟩) (by assumption) ?rj7
  case hj7 => (intro w hSw; obtain ⟨⟨⟨_, h0, h1⟩, ⟨_, h2, h3⟩, ⟨_, h4, h5⟩, ⟨_, h6, h7⟩⟩, ⟨_, e0, e1, e2, e3⟩⟩ := hSw; go_simp; with_reducible rfl)
  simp only [Act.put, List.setIfInBounds_toArray, List.set_cons_zero, List.set_cons_succ]
  refine wpAnyK_one 8 (by kernel_rfl) rfl (fun K hK => ?_)
  go_simp
  refine hK.out _ _ (fun h => absurd rfl h) ?_
  clear hK K
  simp only [List.setIfInBounds_toArray, List.set_cons_zero, List.set_cons_succ]
  refine wpAnyK_done (by kernel_rfl) ?_ _
  clear T
  have SD0 := El.hid SD
  obtain ⟨_, e0, e1, e2, e3⟩ := SD
  go_wp2_with fail
  refine (S2.out _).mono ?_
  rintro e' Vk1 ⟨uk, vk, erk, rfl, hq, he, bb⟩
  clear e0 e1 e2 e3
  have SD := SD0.out.bw bb
  clear SD0
  replace GS := GS.bw bb
  replace SC := SC.bw bb
  replace BW := El.hid (bw_trans BW.out bb)
  have Qk := El.hid hq
  have hekH := El.hid he
  clear hq he bb
  clear S1 S2
  go_wp2_with fail
  replace GS := GS.bw (Bw.refl Vk1).drew
  replace SC := SC.bw (Bw.refl Vk1).drew
  replace SD := SD.bw (Bw.refl Vk1).drew
  replace BW := El.hid BW.out.drew
  have T := (⟨GS, SC⟩ : _ ∧ _)
  refine wp_region_K (fun w' => El.Gs w' B1 B2 B3 B4 X1 Y1 X2 Y2 X3 Y3 X4 Y4 ∧ El.St w' C k a b s t p) 8 9 #[false, false, false, false, false, false, false, false, false] (by kernel_rfl) (by kernel_rfl) (by kernel_rfl) ?_
  generalize Vk1.drew = Vl0 at *
  refine wpAnyK_take 0 106 (v := ?vl0) rfl (by kernel_rfl) (by kernel_rfl) (by kernel_rfl) (by kernel_rfl) (by kernel_rfl) (fun _ _ _ h => h) rfl (Or.inl ⟨by rfl, ?hl0⟩) (by assumption) ?rl0
  case hl0 => (intro w hSw; obtain ⟨⟨⟨_, h0, h1⟩, ⟨_, h2, h3⟩, ⟨_, h4, h5⟩, ⟨_, h6, h7⟩⟩, ⟨_, e0, e1, e2, e3⟩⟩ := hSw; go_simp; with_reducible rfl)
  simp only [Act.put, List.setIfInBounds_toArray, List.set_cons_zero, List.set_cons_succ]
  refine wpAnyK_take 1 107 (v := ?vl1) rfl (by kernel_rfl) (by kernel_rfl) (by kernel_rfl) (by kernel_rfl) (by kernel_rfl) (fun _ _ _ h => h) rfl (Or.inl ⟨by rfl, ?hl1⟩) (by assumption) ?rl1
  case hl1 => (intro w hSw; obtain ⟨⟨⟨_, h0, h1⟩, ⟨_, h2, h3⟩, ⟨_, h4, h5⟩, ⟨_, h6, h7⟩⟩, ⟨_, e0, e1, e2, e3⟩⟩ := hSw; go_simp; with_reducible rfl)
  simp only [Act.put, List.setIfInBounds_toArray, List.set_cons_zero, List.set_cons_succ]
  refine wpAnyK_one 2 (by kernel_rfl) rfl (fun K hK => ?_)
  go_simp
  go_wp2_with (go_at_call 5; refine (GO3.out _).mono ?_; rintro e' Vl1 ⟨rfl, bb⟩)
  replace GS := GS.bw bb
  replace SC := SC.bw bb
  replace SD := SD.bw bb
  replace BW := El.hid (bw_trans BW.out bb)
  replace T := (⟨GS, SC⟩ : _ ∧ _)
  clear bb
  refine hK.out _ _ (fun _ _ => T) ?_
  clear hK K
  simp only [List.setIfInBounds_toArray, List.set_cons_zero, List.set_cons_succ]
  refine wpAnyK_one 3 (by kernel_rfl) rfl (fun K hK => ?_)
  go_simp
  go_wp2_with (go_at_call 12; refine (L1.out _).mono ?_; rintro e' Vl2 ⟨ul, vl, erl, rfl, hq, he, bb⟩; have Ql := El.hid hq; have helH := El.hid he; clear hq he)
  replace GS := GS.bw bb
  replace SC := SC.bw bb
  replace SD := SD.bw bb
  replace BW := El.hid (bw_trans BW.out bb)
  replace T := (⟨GS, SC⟩ : _ ∧ _)
  clear bb
  refine hK.out _ _ (fun _ _ => T) ?_
  clear hK K
  simp only [List.setIfInBounds_toArray, List.set_cons_zero, List.set_cons_succ]
  refine wpAnyK_take 4 105 (v := ?vl4) rfl (by kernel_rfl) (by kernel_rfl) (by kernel_rfl) (by kernel_rfl) (by kernel_rfl) (fun _ _ _ h => h) rfl (Or.inl ⟨by rfl, ?hl4⟩) (by assumption) ?rl4
  case hl4 => (intro w hSw; obtain ⟨⟨⟨_, h0, h1⟩, ⟨_, h2, h3⟩, ⟨_, h4, h5⟩, ⟨_, h6, h7⟩⟩, ⟨_, e0, e1, e2, e3⟩⟩ := hSw; go_simp; with_reducible rfl)
  simp only [Act.put, List.setIfInBounds_toArray, List.set_cons_zero, List.set_cons_succ]
  refine wpAnyK_take 5 110 (v := ?vl5) rfl (by kernel_rfl) (by kernel_rfl) (by kernel_rfl) (by kernel_rfl) (by kernel_rfl) (fun _ _ _ h => h) rfl (Or.inl ⟨by rfl, ?hl5⟩) (by assumption) ?rl5
  case hl5 => (intro w hSw; obtain ⟨⟨⟨_, h0, h1⟩, ⟨_, h2, h3⟩, ⟨_, h4, h5⟩, ⟨_, h6, h7⟩⟩, ⟨_, e0, e1, e2, e3⟩⟩ := hSw; go_simp; with_reducible rfl)
  simp only [Act.put, List.setIfInBounds_toArray, List.set_cons_zero, List.set_cons_succ]
  refine wpAnyK_take 6 111 (v := ?vl6) rfl (by kernel_rfl) (by kernel_rfl) (by kernel_rfl) (by kernel_rfl) (by kernel_rfl) (fun _ _ _ h => h) rfl (Or.inl ⟨by rfl, ?hl6⟩) (by assumption) ?rl6
  case hl6 => (intro w hSw; obtain ⟨⟨⟨_, h0, h1⟩, ⟨_, h2, h3⟩, ⟨_, h4, h5⟩, ⟨_, h6, h7⟩⟩, ⟨_, e0, e1, e2, e3⟩⟩ := hSw; go_simp; with_reducible rfl)
  simp only [Act.put, List.setIfInBounds_toArray, List.set_cons_zero, List.set_cons_succ]
  refine wpAnyK_take 7 26 (v := ?vl7) rfl (by kernel_rfl) (by kernel_rfl) (by kernel_rfl) (by kernel_rfl) (by kernel_rfl) (fun _ _ _ h => h) rfl (Or.inl ⟨by rfl, ?hl7⟩) (by assumption) ?rl7
  case hl7 => (intro w hSw; obtain ⟨⟨⟨_, h0, h1⟩, ⟨_, h2, h3⟩, ⟨_, h4, h5⟩, ⟨_, h6, h7⟩⟩, ⟨_, e0, e1, e2, e3⟩⟩ := hSw; go_simp; with_reducible rfl)
  simp only [Act.put, List.setIfInBounds_toArray, List.set_cons_zero, List.set_cons_succ]
  refine wpAnyK_one 8 (by kernel_rfl) rfl (fun K hK => ?_)
  go_simp
  refine hK.out _ _ (fun h => absurd rfl h) ?_
  clear hK K
  simp only [List.setIfInBounds_toArray, List.set_cons_zero, List.set_cons_succ]
  refine wpAnyK_done (by kernel_rfl) ?_ _
  clear T
  have SD0 := El.hid SD
  obtain ⟨_, e0, e1, e2, e3⟩ := SD
  go_wp2_with fail
  refine (L2.out _).mono ?_
  rintro e' Vm1 ⟨um, vm, erm, rfl, hq, he, bb⟩
  clear e0 e1 e2 e3
  have SD := SD0.out.bw bb
  clear SD0
  replace GS := GS.bw bb
  replace SC := SC.bw bb
  replace BW := El.hid (bw_trans BW.out bb)
  have Qm := El.hid hq
  have hemH := El.hid he
  clear hq he bb
  clear L1 L2
  have ej := hejH.out.trans hekH.out.symm
  have el := helH.out.trans hemH.out.symm
  clear hejH hekH helH hemH
  subst ej
  subst el
  have PSx := El.hid (fun w => psame_c (a := uj) (b := vj) (x := uk) (y := vk) (Qj.out.trans Qk.out.symm) w)
  go_wp2_with fail
  refine (PSx.out _).mono ?_
  rintro e' w9 ⟨rfl, hw9⟩
  subst hw9
  clear PSx
  have PSx := El.hid (fun w => psame_c (a := ul) (b := vl) (x := um) (y := vm) (Ql.out.trans Qm.out.symm) w)
  go_wp2_with fail
  refine (PSx.out _).mono ?_
  rintro e' w9 ⟨rfl, hw9⟩
  subst hw9
  clear PSx
  by_cases hk1 : k = 1
  case pos =>
    subst hk1
    go_wp2_with fail
    replace GS := GS.bw (Bw.refl w9).drew
    replace SC := SC.bw (Bw.refl w9).drew
    replace SD := SD.bw (Bw.refl w9).drew
    replace BW := El.hid BW.out.drew
    have T := (⟨GS, SC⟩ : _ ∧ _)
    refine wp_region_K (fun w' => El.Gs w' B1 B2 B3 B4 X1 Y1 X2 Y2 X3 Y3 X4 Y4 ∧ El.St w' C 1 a b s t p) 5 6 #[false, false, false, false, false, false] (by kernel_rfl) (by kernel_rfl) (by kernel_rfl) ?_
    generalize w9.drew = Un at *
    refine wpAnyK_take 0 153 (v := ?vn0) rfl (by kernel_rfl) (by kernel_rfl) (by kernel_rfl) (by kernel_rfl) (by kernel_rfl) (fun _ _ _ h => h) rfl (Or.inl ⟨by rfl, ?hn0⟩) (by assumption) ?rn0
    case hn0 => (intro w hSw; obtain ⟨⟨⟨_, h0, h1⟩, ⟨_, h2, h3⟩, ⟨_, h4, h5⟩, ⟨_, h6, h7⟩⟩, ⟨_, e0, e1, e2, e3⟩⟩ := hSw; go_simp; with_reducible rfl)
    simp only [Act.put, List.setIfInBounds_toArray, List.set_cons_zero, List.set_cons_succ]
    refine wpAnyK_take 2 155 (v := ?vn2) rfl (by kernel_rfl) (by kernel_rfl) (by kernel_rfl) (by kernel_rfl) (by kernel_rfl) (fun _ _ _ h => h) rfl (Or.inl ⟨by rfl, ?hn2⟩) (by assumption) ?rn2
    case hn2 => (intro w hSw; obtain ⟨⟨⟨_, h0, h1⟩, ⟨_, h2, h3⟩, ⟨_, h4, h5⟩, ⟨_, h6, h7⟩⟩, ⟨_, e0, e1, e2, e3⟩⟩ := hSw; go_simp; with_reducible rfl)
    simp only [Act.put, List.setIfInBounds_toArray, List.set_cons_zero, List.set_cons_succ]
    refine wpAnyK_take 3 156 (v := ?vn3) rfl (by kernel_rfl) (by kernel_rfl) (by kernel_rfl) (by kernel_rfl) (by kernel_rfl) (fun _ _ _ h => h) rfl (Or.inl ⟨by rfl, ?hn3⟩) (by assumption) ?rn3
    case hn3 => (intro w hSw; obtain ⟨⟨⟨_, h0, h1⟩, ⟨_, h2, h3⟩, ⟨_, h4, h5⟩, ⟨_, h6, h7⟩⟩, ⟨_, e0, e1, e2, e3⟩⟩ := hSw; go_simp; with_reducible rfl)
    simp only [Act.put, List.setIfInBounds_toArray, List.set_cons_zero, List.set_cons_succ]
    refine wpAnyK_one 1 (by kernel_rfl) rfl (fun K hK => ?_)
    go_simp
    go_wp2_with (go_at_call 5; refine (GO3.out _).mono ?_; rintro e' Un1 ⟨rfl, bb⟩)
    replace GS := GS.bw bb
    replace SC := SC.bw bb
    replace SD := SD.bw bb
    replace BW := El.hid (bw_trans BW.out bb)
    replace T := (⟨GS, SC⟩ : _ ∧ _)
    clear bb
    refine hK.out _ _ (fun _ _ => T) ?_
    clear hK K
    simp only [List.setIfInBounds_toArray, List.set_cons_zero, List.set_cons_succ]
    refine wpAnyK_one 4 (by kernel_rfl) rfl (fun K hK => ?_)
    go_simp
    go_wp2_with (go_at_call 14; refine (SB.out _).mono ?_; rintro e' w9 ⟨rfl, hw9⟩; subst hw9)
    refine hK.out _ _ (fun _ _ => T) ?_
    clear hK K
    simp only [List.setIfInBounds_toArray, List.set_cons_zero, List.set_cons_succ]
    refine wpAnyK_one 5 (by kernel_rfl) rfl (fun K hK => ?_)
    go_simp
    refine hK.out _ _ (fun h => absurd rfl h) ?_
    clear hK K
    simp only [List.setIfInBounds_toArray, List.set_cons_zero, List.set_cons_succ]
    refine wpAnyK_done (by kernel_rfl) ?_ _
    clear T
    go_wp2
    go_ret
    exact ⟨rfl, BW.out⟩
  have hyq := YH.out hk1
  subst hyq
  have eh := hehH.out.trans heiH.out.symm
  have hz := hehH
  clear heiH hehH
  subst eh
  have PSx := El.hid (fun w => psame_c (a := uh) (b := vh) (x := ui) (y := vi) (Qh.out.trans Qi.out.symm) w)
  go_wp2_with fail
  refine (PSx.out _).mono ?_
  rintro e' w9 ⟨rfl, hw9⟩
  subst hw9
  clear PSx
  go_wp2_with fail
  replace GS := GS.bw (Bw.refl w9).drew
  replace SC := SC.bw (Bw.refl w9).drew
  replace SD := SD.bw (Bw.refl w9).drew
  replace BW := El.hid BW.out.drew
  have T := (⟨GS, SC⟩ : _ ∧ _)
  refine wp_region_K (fun w' => El.Gs w' B1 B2 B3 B4 X1 Y1 X2 Y2 X3 Y3 X4 Y4 ∧ El.St w' C k a b s t p) 5 6 #[false, false, false, false, false, false] (by kernel_rfl) (by kernel_rfl) (by kernel_rfl) ?_
  generalize w9.drew = Uo at *
  refine wpAnyK_take 0 153 (v := ?vo0) rfl (by kernel_rfl) (by kernel_rfl) (by kernel_rfl) (by kernel_rfl) (by kernel_rfl) (fun _ _ _ h => h) rfl (Or.inl ⟨by rfl, ?ho0⟩) (by assumption) ?ro0
  case ho0 => (intro w hSw; obtain ⟨⟨⟨_, h0, h1⟩, ⟨_, h2, h3⟩, ⟨_, h4, h5⟩, ⟨_, h6, h7⟩⟩, ⟨_, e0, e1, e2, e3⟩⟩ := hSw; go_simp; with_reducible rfl)
  simp only [Act.put, List.setIfInBounds_toArray, List.set_cons_zero, List.set_cons_succ]
  refine wpAnyK_take 2 155 (v := ?vo2) rfl (by kernel_rfl) (by kernel_rfl) (by kernel_rfl) (by kernel_rfl) (by kernel_rfl) (fun _ _ _ h => h) rfl (Or.inl ⟨by rfl, ?ho2⟩) (by assumption) ?ro2
  case ho2 => (intro w hSw; obtain ⟨⟨⟨_, h0, h1⟩, ⟨_, h2, h3⟩, ⟨_, h4, h5⟩, ⟨_, h6, h7⟩⟩, ⟨_, e0, e1, e2, e3⟩⟩ := hSw; go_simp; with_reducible rfl)
  simp only [Act.put, List.setIfInBounds_toArray, List.set_cons_zero, List.set_cons_succ]
  refine wpAnyK_take 3 156 (v := ?vo3) rfl (by kernel_rfl) (by kernel_rfl) (by kernel_rfl) (by kernel_rfl) (by kernel_rfl) (fun _ _ _ h => h) rfl (Or.inl ⟨by rfl, ?ho3⟩) (by assumption) ?ro3
  case ho3 => (intro w hSw; obtain ⟨⟨⟨_, h0, h1⟩, ⟨_, h2, h3⟩, ⟨_, h4, h5⟩, ⟨_, h6, h7⟩⟩, ⟨_, e0, e1, e2, e3⟩⟩ := hSw; go_simp; with_reducible rfl)
  simp only [Act.put, List.setIfInBounds_toArray, List.set_cons_zero, List.set_cons_succ]
  refine wpAnyK_one 1 (by kernel_rfl) rfl (fun K hK => ?_)
  go_simp
  go_wp2_with (go_at_call 5; refine (GO3.out _).mono ?_; rintro e' Uo1 ⟨rfl, bb⟩)
  replace GS := GS.bw bb
  replace SC := SC.bw bb
  replace SD := SD.bw bb
  replace BW := El.hid (bw_trans BW.out bb)
  replace T := (⟨GS, SC⟩ : _ ∧ _)
  clear bb
  refine hK.out _ _ (fun _ _ => T) ?_
  clear hK K
  simp only [List.setIfInBounds_toArray, List.set_cons_zero, List.set_cons_succ]
  refine wpAnyK_one 4 (by kernel_rfl) rfl (fun K hK => ?_)
  go_simp
  go_wp2_with (go_at_call 14; refine (SB.out _).mono ?_; rintro e' w9 ⟨rfl, hw9⟩; subst hw9)
  refine hK.out _ _ (fun _ _ => T) ?_
  clear hK K
  simp only [List.setIfInBounds_toArray, List.set_cons_zero, List.set_cons_succ]
  refine wpAnyK_one 5 (by kernel_rfl) rfl (fun K hK => ?_)
  go_simp
  refine hK.out _ _ (fun h => absurd rfl h) ?_
  clear hK K
  simp only [List.setIfInBounds_toArray, List.set_cons_zero, List.set_cons_succ]
  refine wpAnyK_done (by kernel_rfl) ?_ _
  clear T
  rcases TL.out with hk4 | ⟨hk4, g1, g2, gz, m, n, hM, hE⟩ | ⟨hk4, g1, g2, gz, m, n, m', n', hM, hM2, hE⟩ | ⟨hk4, g1, g2⟩
  · clear TL
    go_wp2
    go_ret
    exact ⟨rfl, BW.out⟩
  · subst hk4
    clear TL
    have o1 := Fl.o_eq p 4607182418800017408
    have o2 := Fl.o_eq p 4611686018427387904
    have n1 := Fl.o_ne p 4607182418800017408
    have n2 := Fl.o_ne p 4611686018427387904
    rw [g1] at o1 n1
    rw [g2] at o2 n2
    clear g1 g2
    have z0 := hz.out.trans gz
    have hE' := hE _ _ Qh.out
    clear hE gz hz
    subst z0
    replace hM := El.hid hM
    have SC0 := El.hid SC
    obtain ⟨_, e0, e1, e2, e3⟩ := SC
    go_wp2_with fail
    refine (hM.out _).mono ?_
    rintro e' w9 ⟨rfl, hw9⟩
    subst hw9
    go_wp2
    go_ret
    exact ⟨rfl, BW.out⟩
  · subst hk4
    clear TL
    have o1 := Fl.o_eq p 4607182418800017408
    have o2 := Fl.o_eq p 4611686018427387904
    have n1 := Fl.o_ne p 4607182418800017408
    have n2 := Fl.o_ne p 4611686018427387904
    rw [g1] at o1 n1
    rw [g2] at o2 n2
    clear g1 g2
    have z0 := hz.out.trans gz
    have hE' := hE _ _ Qh.out
    clear hE gz hz
    subst z0
    replace hM := El.hid hM
    replace hM2 := El.hid hM2
    have SC0 := El.hid SC
    obtain ⟨_, e0, e1, e2, e3⟩ := SC
    go_wp2_with fail
    refine (hM.out _).mono ?_
    rintro e' w9 ⟨rfl, hw9⟩
    subst hw9
    go_wp2_with fail
    refine (hM2.out _).mono ?_
    rintro e' w9 ⟨rfl, hw9⟩
    subst hw9
    go_wp2
    go_ret
    exact ⟨rfl, BW.out⟩
  · subst hk4
    clear TL
    have o1 := Fl.o_eq p 4607182418800017408
    have o2 := Fl.o_eq p 4611686018427387904
    have n1 := Fl.o_ne p 4607182418800017408
    have n2 := Fl.o_ne p 4611686018427387904
    rw [g1] at o1 n1
    rw [g2] at o2 n2
    clear g1 g2
    go_wp2
    go_ret
    exact ⟨rfl, BW.out⟩
end Go.Proofs.YtgljnklaabbidaaGreat
