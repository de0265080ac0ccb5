/-
 OWN TEXT: eddylaw17.ImageNames.
-/
import Derived.Test.YtnjkdfhhlcoaaaaGreatJImMToImO
namespace Go.Proofs.YtnjkdfhhlcoaaaaGreat
open Go.ChangeShapes Go.WideShapes Go.ChangeAt Go.RowKit
set_option linter.unusedVariables false
set_option linter.unusedSimpArgs false
attribute [local go_sem] frombits_call tobits_call run_neg run_store_cx El.run_store_fl
namespace Im
theorem xs_eq {xs : List Value} (hl : xs.length = 512) (h : ∀ j, j < 128 → ∀ c, c < 4 → xs[j * 4 + c]? = (rc (src j))[c]?) : xs = rcs es128 := by
 refine List.ext_getElem? fun m => ?_
 by_cases hm : m < 512
 ·
  have k1 := h (m / 4) (by omega) (m % 4) (by omega)
  have k2 := rcs_get es128 (m / 4) (src (m / 4)) (m % 4) (by unfold es128; rw [List.getElem?_map, List.getElem?_range (by omega)]; rfl) (by omega)
  rw [show m / 4 * 4 + m % 4 = m by omega] at k1 k2
  rw [k1, k2]
 · rw [List.getElem?_eq_none (by omega), List.getElem?_eq_none (by rw [rcs_len, len128]; omega)]
theorem xs_set {xs : List Value} {k : Nat} (hl : xs.length = 512) (hk : k < 128) (h : ∀ j, j < k → ∀ c, c < 4 → xs[j * 4 + c]? = (rc (src j))[c]?) :
  ∀ j, j < k + 1 → ∀ c, c < 4 → ((((xs.set (k * 4) (.int .u8 2)).set (k * 4 + 1) (.complex .f64 (floatOfInt .f64 k) 4613937818241073152)).set (k * 4 + 2) (.complex .f64 4607182418800017408 0)).set (k * 4 + 3) (.float .f64 0))[j * 4 + c]? = (rc (src j))[c]? := by
 intro j hj c hc
 rw [List.getElem?_set, List.getElem?_set, List.getElem?_set, List.getElem?_set]
 simp only [List.length_set, hl]
 by_cases q : j = k
 ·
  subst q
  match c, hc with
  | 0, _ => rw [if_neg (by omega), if_neg (by omega), if_neg (by omega), if_pos (by omega), if_pos (by omega)]; rfl
  | 1, _ => rw [if_neg (by omega), if_neg (by omega), if_pos (by omega), if_pos (by omega)]; rfl
  | 2, _ => rw [if_neg (by omega), if_pos (by omega), if_pos (by omega)]; rfl
  | 3, _ => rw [if_pos (by omega), if_pos (by omega)]; rfl
 ·
  rw [if_neg (by omega), if_neg (by omega), if_neg (by omega), if_neg (by omega)]
  exact h j (by omega) c hc
theorem make_e (w : World) : ∃ cs : Array Value, cs.size = 128 * 4 ∧ (Instr.makeSlice 23 (.int .i64 128) (.int .i64 128)).run Tryz.prog w = .ok (.slice (some ⟨w.heap.size, 0, none⟩) 128 128) (w.alloc (.cells cs 28)) := by
 obtain ⟨i, hi, hz⟩ := Option.map_eq_some_iff.1 info_e
 simp only [Prod.mk.injEq] at hz
 obtain ⟨z, hz0, hzc⟩ := Option.map_eq_some_iff.1 hz.1
 have hr := run_make (P := Tryz.prog) w 23 28 i z und_e hi hz0 .i64 .i64 128 128 (by omega) (by omega) (by rw [hz.2.2]; omega) (by omega)
 refine ⟨_, ?_, hr⟩
 rw [hz.2.1, hzc]
 simp [madeCells]
theorem set_last : ((rcs (es128 ++ [e128])).set 512 (.int .u8 1)).set 513 (.complex .f64 0 0) = rcs (es128 ++ [s128]) := by
 have hl : (rcs es128).length = 512 := by rw [rcs_len, len128]
 rw [rcs_app, rcs_app, List.set_append_right _ _ (by omega), List.set_append_right _ _ (by omega), hl]
 rfl
theorem cs_made (w : World) (n : Nat) : Cs (w.alloc (.cells (zcC n) 24)) (some ⟨w.heap.size, 0, none⟩) n 0 0 := by
 refine Or.inr ⟨_, _, rfl, by simp, fun i hi => ?_⟩
 rw [Nat.zero_add, World.cell?_alloc_at _ _ _ _ rfl]
 unfold zcC madeCells
 simp [hi, Nat.mod_one]
/-- k elements are laid -/
def Iv (w : World) (base B k : Nat) : Prop := ∃ xs, w.ownsRow base 28 4 (.slice (some ⟨B, 0, none⟩) 128 128) 128 xs ∧ ∀ j, j < k → ∀ c, c < 4 → xs[j * 4 + c]? = (rc (src j))[c]?
end Im
set_option maxHeartbeats 64000000 in
set_option maxRecDepth 100000 in
theorem law17 (w : World) : Calls Tryz.prog 3 #[] w fun e w' => e = .returned (.bool true) ∧ Bw w w' := by
 go_enter Tryz.func3, Tryz.ntmps3
 go_wp2_with fail
 refine (alive17 _).mono ?_
 rintro e' w1 ⟨rfl, b1⟩
 obtain ⟨cs, hcs, hmk⟩ := Im.make_e w1
 have own0 := World.ownsRow_lit (base := w1.heap.size) (e := 28) (size := 4) w1 cs 128 (Nat.le_refl _) (by unfold maxLen; omega) hcs
 have b2 := bw_alloc w1 (.cells cs 28)
 obtain ⟨B, hB⟩ : ∃ B, w1.heap.size = B := ⟨_, rfl⟩
 obtain ⟨W2, hW2⟩ : ∃ V, w1.alloc (.cells cs 28) = V := ⟨_, rfl⟩
 rw [hW2] at own0 b2 hmk
 rw [hB] at own0 hmk
 have I0 : Hid (Im.Iv W2 B B 0) := ⟨_, own0, fun j hj => absurd hj (by omega)⟩
 have B1 := hide b1
 have G2 := hide (bw_trans b1 b2)
 have HB := hide (show w.heap.size ≤ B by rw [← hB]; exact b1.size)
 clear own0 b2 b1 hW2 hcs hB
 go_wp2_with fail
 go_loopw [3] (fun i wr => ∃ k : Nat, k ≤ 128 ∧ i = .int .i64 k ∧ Hid (Im.Iv wr B B k) ∧ Hid (Bw w wr)) (fun i _ => 128 - (intOf i).toNat)
 case atStart => exact ⟨0, Nat.zero_le _, rfl, I0, G2⟩
 case round =>
  obtain ⟨k, hk, rfl, HI, hb⟩ := hrel
  clear I0 hmk
  by_cases hk1 : k < 128
  ·
   have hk2 : (k : Int) < 128 := by omega
   obtain ⟨xs, own, hx⟩ := HI.out
   have hxl : xs.length = 512 := own.1
   have X0 := own.cellAt (k * 4) (by omega)
   have X1 := own.cellAt (k * 4 + 1) (by omega)
   have X2 := own.cellAt (k * 4 + 2) (by omega)
   have X3 := own.cellAt (k * 4 + 3) (by omega)
   obtain ⟨y0, hy0⟩ : ∃ y, xs[k * 4]? = some y := ⟨_, List.getElem?_eq_getElem (by omega)⟩
   obtain ⟨y1, hy1⟩ : ∃ y, xs[k * 4 + 1]? = some y := ⟨_, List.getElem?_eq_getElem (by omega)⟩
   obtain ⟨y2, hy2⟩ : ∃ y, xs[k * 4 + 2]? = some y := ⟨_, List.getElem?_eq_getElem (by omega)⟩
   obtain ⟨y3, hy3⟩ : ∃ y, xs[k * 4 + 3]? = some y := ⟨_, List.getElem?_eq_getElem (by omega)⟩
   rw [hy0] at X0
   rw [hy1] at X1
   rw [hy2] at X2
   rw [hy3] at X3
   clear hy0 hy1 hy2 hy3
   have Z0 := own.frozenAt (k * 4)
   have Z1 := own.frozenAt (k * 4 + 1)
   have Z2 := own.frozenAt (k * 4 + 2)
   have Z3 := own.frozenAt (k * 4 + 3)
   have R : Hid (∀ V, V = (((wr.setCell ⟨B, k * 4, none⟩ (.int .u8 2)).setCell ⟨B, k * 4 + 1, none⟩ (.complex .f64 (floatOfInt .f64 k) 4613937818241073152)).setCell ⟨B, k * 4 + 2, none⟩ (.complex .f64 4607182418800017408 0)).setCell ⟨B, k * 4 + 3, none⟩ (.float .f64 0) → Hid (Im.Iv V B B (k + 1)) ∧ Hid (Bw w V)) := by
    rintro V rfl
    have h := HB.out
    exact ⟨⟨_, ((((own.stored (k * 4) (.int .u8 2)).1.stored (k * 4 + 1) (.complex .f64 (floatOfInt .f64 k) 4613937818241073152)).1.stored (k * 4 + 2) (.complex .f64 4607182418800017408 0)).1.stored (k * 4 + 3) (.float .f64 0)).1, Im.xs_set hxl hk1 hx⟩, Below.setCell (Below.setCell (Below.setCell (Below.setCell hb.out h _) h _) h _) h _⟩
   clear own hx hxl HI
   go_wp2_with fail
   refine (imof_any _ _ _).mono ?_
   rintro e' w5 ⟨rfl, h5⟩
   obtain rfl : wr = w5 := h5.symm
   go_wp2
   --REST
   go_roundw
   case rel => exact ⟨k + 1, by omega, by simp, (R.out _ rfl).1, (R.out _ rfl).2⟩
   case measure => simp [intOf]; omega
  ·
   have hk3 : k = 128 := by omega
   subst hk3
   obtain ⟨xs, own, hx⟩ := HI.out
   obtain rfl := Im.xs_eq own.1 hx
   have HR : Im.Rs wr (some ⟨B, 0, none⟩) Im.es128 := by
    obtain ⟨a, cap, e, h⟩ := Im.own_rs own Im.len128
    cases e
    exact h
   have OW := hide own
   clear own hx HI
   have hk4 : ¬ (((128 : Nat) : Int) < 128) := by decide
   go_wp2_with fail
   refine (wall_128 HR).mono ?_
   rintro e' w3 ⟨a1, c1, rfl, b3⟩
   have xb := bw_alloc w3 (.cells #[.slice a1 256 c1] 30)
   have L4 := Im.Bl.new w3 #[.slice a1 256 c1] 30
   have s3 : (w3.alloc (.cells #[.slice a1 256 c1] 30)).heap.size = w3.heap.size + 1 := by simp
   have sU : ((w3.alloc (.cells #[.slice a1 256 c1] 30)).alloc (.cells #[.int .u8 2, .complex .f64 0 4617315517961601024, .complex .f64 0 0, .float .f64 0] 28)).heap.size = w3.heap.size + 1 + 1 := by simp
   have b34 := bw_trans b3 xb
   have yb := bw_alloc (w3.alloc (.cells #[.slice a1 256 c1] 30)) (.cells #[.int .u8 2, .complex .f64 0 4617315517961601024, .complex .f64 0 0, .float .f64 0] 28)
   have LE := Im.Bl.new (w3.alloc (.cells #[.slice a1 256 c1] 30)) #[.int .u8 2, .complex .f64 0 4617315517961601024, .complex .f64 0 0, .float .f64 0] 28
   rw [s3] at LE
   have own3 := OW.out.kept (Im.gb_bw (bw_trans b34 yb) none) (by right; simp [Value.ownBlock])
   have hBw3 : B < w3.heap.size := Nat.lt_of_lt_of_le (OW.out.lt B rfl).2 b3.size
   obtain ⟨v2, V2, f2, o2, g2, q2⟩ := Im.appI (l := [Im.e128]) (a := some ⟨w3.heap.size + 1, 0, none⟩) (c := 1) (w0 := w) (wc := w) (n := 128) 23 own3 (Or.inr ⟨_, rfl, fun j u hu => LE.c j u hu⟩) (by decide) (by have := (OW.out.lt B rfl).2; have := (bw_trans b34 yb).size; omega)
   change (Builtin.append_ _ _ #[_, .slice _ 1 1]).run _ _ = _ at f2
   obtain ⟨gg, cc, rfl, hgB, hgl⟩ := o2.form (by decide)
   have hgg : gg ≠ w3.heap.size := by
    rcases q2 with q | q
    ·
     simp only [Value.ownBlock, Option.some.injEq] at q
     omega
    ·
     simp only [Value.ownBlock, Option.some.injEq] at q
     rw [sU] at q
     omega
   have L4' : Im.Bl V2 w3.heap.size [.slice a1 256 c1] := by
    have h := L4.bw yb
    have hlt : w3.heap.size < ((w3.alloc (.cells #[.slice a1 256 c1] 30)).alloc (.cells #[.int .u8 2, .complex .f64 0 4617315517961601024, .complex .f64 0 0, .float .f64 0] 28)).heap.size := h.lt
    exact ⟨Nat.lt_of_lt_of_le h.lt g2.size, fun j u hu => g2.cell (h.c j u hu) (by simp [Value.ownBlock]; omega), fun i => (g2.frozen_far ⟨w3.heap.size, i, none⟩ hlt (by simp [Value.ownBlock]; omega)).trans (h.fz i)⟩
   have bV2 : Bw w V2 := Below.grown (bw_trans hb.out (bw_trans b34 yb)) g2 (by have := (bw_trans hb.out (bw_trans b34 yb)).size; omega) (fun x e => by simp only [Value.ownBlock, Option.some.injEq] at e; have := HB.out; omega)
   have E2 := hide f2
   have O2 := hide o2
   have K2 := hide (And.intro L4' (And.intro bV2 (And.intro hgg (show w.heap.size ≤ gg by have := HB.out; omega))))
   have HR2 : Hid (Im.Rs V2 (some ⟨gg, 0, none⟩) (Im.es128 ++ [Im.e128])) := by
    obtain ⟨a, cap, e, h⟩ := Im.own_rs o2 (by simp [Im.len128])
    cases e
    exact h
   clear sU b3 xb L4 s3 b34 yb LE own3 hBw3 f2 o2 g2 q2 hgB hgl hgg L4' bV2 HR
   go_wp2_with fail
   refine (imof_any _ _ _).mono ?_
   rintro e' w5 ⟨rfl, h5⟩
   subst h5
   --CUT1
   go_wp2_with (first
    | (at_builtin; refine ff_append rfl _ _ 23 rfl _ _ _ rfl rfl _ E2.out ?_)
    | fail)
   --CUT2
   clear E2
   generalize w3.heap.size = P4 at *
   refine (wall_129 (x := Im.e128) Im.ck_e128 Im.mw_e (by rw [Im.sum129]; decide) HR2.out).mono ?_
   rintro e' w6 ⟨a3, c3, rfl, b6⟩
   have b7 := bw_trans b6 (bw_alloc w6 (.cells #[.slice a3 0 c3] 30))
   have o7 := O2.out.kept (Im.gb_bw b7 none) (by right; simp [Value.ownBlock])
   have X0 := o7.cellAt 512 (by decide)
   have X1 := o7.cellAt 513 (by decide)
   have hxl : (Im.rcs (Im.es128 ++ [Im.e128])).length = 516 := o7.1
   obtain ⟨y0, hy0⟩ : ∃ y, (Im.rcs (Im.es128 ++ [Im.e128]))[512]? = some y := ⟨_, List.getElem?_eq_getElem (by omega)⟩
   obtain ⟨y1, hy1⟩ : ∃ y, (Im.rcs (Im.es128 ++ [Im.e128]))[513]? = some y := ⟨_, List.getElem?_eq_getElem (by omega)⟩
   rw [hy0] at X0
   rw [hy1] at X1
   clear hy0 hy1 hxl
   have Z0 := o7.frozenAt 512
   have Z1 := o7.frozenAt 513
   have R7 : Hid (∀ V, V = ((w6.alloc (.cells #[.slice a3 0 c3] 30)).setCell ⟨gg, 512, none⟩ (.int .u8 1)).setCell ⟨gg, 513, none⟩ (.complex .f64 0 0) → Im.Rs V (some ⟨gg, 0, none⟩) (Im.es128 ++ [Im.s128]) ∧ Im.Bl V P4 [.slice a1 256 c1] ∧ Bw w V) := by
    rintro V rfl
    have o8 := ((o7.stored 512 (.int .u8 1)).1.stored 513 (.complex .f64 0 0)).1
    rw [Im.set_last] at o8
    refine ⟨?_, ((K2.out.1.bw b7).off K2.out.2.2.1).off K2.out.2.2.1, Below.setCell (Below.setCell (bw_trans K2.out.2.1 b7) K2.out.2.2.2 _) K2.out.2.2.2 _⟩
    obtain ⟨a, cap, e, h⟩ := Im.own_rs o8 (by simp [Im.len128])
    cases e
    exact h
   clear b6 b7 o7 HR2
   go_wp2_with fail
   obtain ⟨V7, hV7⟩ : ∃ V, V = ((w6.alloc (.cells #[.slice a3 0 c3] 30)).setCell ⟨gg, 512, none⟩ (.int .u8 1)).setCell ⟨gg, 513, none⟩ (.complex .f64 0 0) := ⟨_, rfl⟩
   have K7 := hide (R7.out _ hV7)
   rw [← hV7]
   clear hV7 R7 X0 X1 Z0 Z1 K2 O2
   --CUT3
   refine (wall_129 (x := Im.s128) Im.ck_s128 Im.mw_s (by rw [Im.sumS]; decide) K7.out.1).mono ?_
   rintro e' w8 ⟨a5, c5, rfl, b8⟩
   have xb := bw_alloc w8 (.cells #[.slice a5 0 c5] 30)
   have L8 := Im.Bl.new w8 #[.slice a5 0 c5] 30
   have bb := bw_trans b8 xb
   have K8 := hide (And.intro (K7.out.1.bw bb) (And.intro (K7.out.2.1.bw bb) (And.intro (bw_trans K7.out.2.2 bb) L8)))
   clear b8 xb L8 bb K7
   go_wp2_with fail
   obtain ⟨V8, hV8⟩ : ∃ V, w8.alloc (.cells #[.slice a5 0 c5] 30) = V := ⟨_, rfl⟩
   rw [hV8] at K8
   try rw [hV8]
   clear hV8
   obtain ⟨P8, hP8⟩ : ∃ P, w8.heap.size = P := ⟨_, rfl⟩
   rw [hP8] at K8
   try rw [hP8]
   clear hP8
   refine (circ_129 K8.out.1).mono ?_
   rintro e' w9 ⟨a6, c6, rfl, b9⟩
   have bb := bw_trans b9 (bw_alloc w9 (.cells #[.slice a6 0 c6] 30))
   have K9 := hide (And.intro (K8.out.2.1.bw bb) (And.intro (K8.out.2.2.2.bw bb) (bw_trans K8.out.2.2.1 bb)))
   clear b9 bb K8
   --CUT4
   have m1 := make_c 4097 4097 rfl (by decide) (w9.alloc (.cells #[.slice a6 0 c6] 30))
   have xb := bw_alloc (w9.alloc (.cells #[.slice a6 0 c6] 30)) (.cells (zcC 4097) 24)
   have C1 := Im.cs_made (w9.alloc (.cells #[.slice a6 0 c6] 30)) 4097
   have z1 : (w9.alloc (.cells #[.slice a6 0 c6] 30)).heap.size = w9.heap.size + 1 := by simp
   rw [z1] at m1 C1
   obtain ⟨V10, hV10⟩ : ∃ V, (w9.alloc (.cells #[.slice a6 0 c6] 30)).alloc (.cells (zcC 4097) 24) = V := ⟨_, rfl⟩
   rw [hV10] at m1 xb C1
   have m2 := make_c 4097 4097 rfl (by decide) V10
   have yb := bw_alloc V10 (.cells (zcC 4097) 24)
   have hGw := Gw.made 1074 V10 4097 24
   obtain ⟨V11, hV11⟩ : ∃ V, V10.alloc (.cells (zcC 4097) 24) = V := ⟨_, rfl⟩
   rw [hV11] at m2 yb hGw
   have hw10 : w.heap.size ≤ V10.heap.size := (bw_trans K9.out.2.2 xb).size
   obtain ⟨Q, hQ⟩ : ∃ Q, V10.heap.size = Q := ⟨_, rfl⟩
   rw [hQ] at m2 hGw hw10
   have HQ := hide (And.intro hQ hw10)
   have G10 := hide (And.intro (K9.out.1.bw xb) (And.intro (K9.out.2.1.bw xb) (And.intro (bw_trans K9.out.2.2 xb) C1)))
   have HY := hide yb
   have I0 : Hid ((∀ j, j < 4097 → ∃ v, V11.cell? ⟨Q, j, none⟩ = some v) ∧ (∀ j, V11.frozen? ⟨Q, j, none⟩ = false) ∧ Q < V11.heap.size) := ⟨fun j hj => by
    obtain ⟨x, y, e, _⟩ := hGw.1.2 j (by simpa using hj)
    rw [Nat.zero_add] at e
    exact ⟨_, e⟩, hGw.2, hGw.1.1⟩
   clear xb yb hGw C1 z1 hV10 hV11 hQ hw10 K9
   go_wp2_with fail
   clear m1 m2
   --CUT5
   go_loopw [14] (fun i wr => ∃ q : Nat, q ≤ 4097 ∧ i = .int .i64 q ∧ Hid ((∀ j, j < 4097 → ∃ v, wr.cell? ⟨Q, j, none⟩ = some v) ∧ (∀ j, j < q → wr.cell? ⟨Q, j, none⟩ = some (.complex .f64 4607182418800017408 0)) ∧ (∀ j, wr.frozen? ⟨Q, j, none⟩ = false) ∧ Q < wr.heap.size) ∧ Hid (Bw V10 wr)) (fun i _ => 4097 - (intOf i).toNat)
   case atStart => exact ⟨0, Nat.zero_le _, rfl, hide ⟨I0.out.1, fun j hj => absurd hj (by omega), I0.out.2.1, I0.out.2.2⟩, HY⟩
   case round =>
    obtain ⟨q, hq, rfl, HRR, hbb⟩ := hrel
    clear I0 HY
    by_cases hq1 : q < 4097
    ·
     have hq2 : (q : Int) < 4097 := by omega
     obtain ⟨g1, g2, g3, g4⟩ := HRR.out
     obtain ⟨v0, x0⟩ := g1 q hq1
     have f0 := g3 q
     have R : Hid (Hid ((∀ j, j < 4097 → ∃ v, (wr.setCell ⟨Q, q, none⟩ (.complex .f64 4607182418800017408 0)).cell? ⟨Q, j, none⟩ = some v) ∧ (∀ j, j < q + 1 → (wr.setCell ⟨Q, q, none⟩ (.complex .f64 4607182418800017408 0)).cell? ⟨Q, j, none⟩ = some (.complex .f64 4607182418800017408 0)) ∧ (∀ j, (wr.setCell ⟨Q, q, none⟩ (.complex .f64 4607182418800017408 0)).frozen? ⟨Q, j, none⟩ = false) ∧ Q < (wr.setCell ⟨Q, q, none⟩ (.complex .f64 4607182418800017408 0)).heap.size) ∧ Hid (Bw V10 (wr.setCell ⟨Q, q, none⟩ (.complex .f64 4607182418800017408 0)))) := by
      refine ⟨⟨fun j hj => ?_, fun j hj => ?_, fun j => ?_, ?_⟩, hide (Below.setCell hbb.out (by rw [HQ.out.1]; exact Nat.le_refl _) _)⟩
      ·
       by_cases p : q = j
       · subst p; exact ⟨_, Ff.set_any x0⟩
       ·
        obtain ⟨v, e⟩ := g1 j hj
        exact ⟨v, by rw [Ff.set_off p]; exact e⟩
      ·
       by_cases p : q = j
       · subst p; exact Ff.set_any x0
       ·
        rw [Ff.set_off p]
        exact g2 j (by omega)
      · rw [World.frozen?_setCell]; exact g3 j
      · simpa [World.setCell] using g4
     clear g1 g2 g3 g4 hbb HRR
     go_wp2
     go_roundw
     case rel => exact ⟨q + 1, by omega, by simp, R.out.1, R.out.2⟩
     case measure => simp [intOf]; omega
    ·
     have hq3 : q = 4097 := by omega
     subst hq3
     have hq4 : ¬ (((4097 : Nat) : Int) < 4097) := by decide
     have CW : Hid (∀ n, n ≤ 4097 → Im.Cs wr (some ⟨Q, 0, none⟩) n 4607182418800017408 0) := fun n hn => Or.inr ⟨Q, 0, rfl, HRR.out.2.2.2, fun i hi => by rw [Nat.zero_add]; exact HRR.out.2.1 i (by omega)⟩
     have CP : Hid (∀ n, n ≤ 4097 → Im.Cs wr (some ⟨w9.heap.size + 1, 0, none⟩) n 0 0) := fun n hn => by
      obtain ⟨b, o, e, h1, h2⟩ := (G10.out.2.2.2.bw hbb.out).resolve_left (by decide)
      exact Or.inr ⟨b, o, e, h1, fun i hi => h2 i (by omega)⟩
     have K := hide (And.intro (G10.out.1.bw hbb.out) (And.intro (G10.out.2.1.bw hbb.out) (bw_trans G10.out.2.2.1 hbb.out)))
     have CK0 : Hid (∀ u : World, Hid (∀ wz, Bw u wz → Calls Tryz.prog 13 #[.agg #[.slice none 0 0]] wz fun e w' => e = .returned (.int .i64 0) ∧ Bw wz w')) := fun u wz hz => fcheckI (es := []) rfl (by decide) (Or.inl rfl) (fun e he => by simp at he)
     clear HRR G10
     go_wp2_with fail
     --CUT6
     refine (through_many (n := 4097) (m := 4097) (CK0.out wr) (E := 4) (by decide) (hide (fun wz hz => (units_many (by decide)).mono fun r w' h => ⟨h.1, by rw [h.2]; exact Bw.refl _⟩))).mono ?_
     rintro e' w12 ⟨rfl, b12⟩
     have B12 := hide b12
     clear b12
     go_wp2_with fail
     --CUT7
     refine wp_region_K (fun _ => True) 10 11 #[false, false, false, false, false, false, false, false, false, false, false] (by kernel_rfl) (by kernel_rfl) (by kernel_rfl) ?_
     have tt : True := trivial
     have DW := hide (bw_trans B12.out (Bw.refl w12).drew)
     generalize w12.drew = w12' at *
     refine wpAnyK_take 0 100 (v := ?vg230) rfl (by kernel_rfl) (by kernel_rfl) (by kernel_rfl) (by kernel_rfl) (by kernel_rfl) (fun _ _ _ h => h) rfl (Or.inl ⟨by rfl, ?hg230⟩) (by assumption) ?rg230
     case hg230 => (intro w hSw; go_simp; with_reducible rfl)
     simp only [Act.put, List.setIfInBounds_toArray, List.set_cons_zero, List.set_cons_succ]
     refine wpAnyK_take 1 101 (v := ?vg231) rfl (by kernel_rfl) (by kernel_rfl) (by kernel_rfl) (by kernel_rfl) (by kernel_rfl) (fun _ _ _ h => h) rfl (Or.inl ⟨by rfl, ?hg231⟩) (by assumption) ?rg231
     case hg231 => (intro w hSw; go_simp; with_reducible rfl)
     simp only [Act.put, List.setIfInBounds_toArray, List.set_cons_zero, List.set_cons_succ]
     refine wpAnyK_take 2 102 (v := ?vg232) rfl (by kernel_rfl) (by kernel_rfl) (by kernel_rfl) (by kernel_rfl) (by kernel_rfl) (fun _ _ _ h => h) rfl (Or.inl ⟨by rfl, ?hg232⟩) (by assumption) ?rg232
     case hg232 => (intro w hSw; go_simp; with_reducible rfl)
     simp only [Act.put, List.setIfInBounds_toArray, List.set_cons_zero, List.set_cons_succ]
     refine wpAnyK_take 3 103 (v := ?vg233) rfl (by kernel_rfl) (by kernel_rfl) (by kernel_rfl) (by kernel_rfl) (by kernel_rfl) (fun _ _ _ h => h) rfl (Or.inl ⟨by rfl, ?hg233⟩) (by assumption) ?rg233
     case hg233 => (intro w hSw; go_simp; with_reducible rfl)
     simp only [Act.put, List.setIfInBounds_toArray, List.set_cons_zero, List.set_cons_succ]
     refine wpAnyK_take 4 104 (v := ?vg234) rfl (by kernel_rfl) (by kernel_rfl) (by kernel_rfl) (by kernel_rfl) (by kernel_rfl) (fun _ _ _ h => h) rfl (Or.inl ⟨by rfl, ?hg234⟩) (by assumption) ?rg234
     case hg234 => (intro w hSw; go_simp; with_reducible rfl)
     simp only [Act.put, List.setIfInBounds_toArray, List.set_cons_zero, List.set_cons_succ]
     refine wpAnyK_one 5 (by kernel_rfl) rfl (fun K hK => ?_)
     go_simp
     refine (through_ok (w := w12') (n := 4096) (sx := 0) (sy := 0) (px := 0) (py := 0) (M := 0) (by decide) (by decide) ((CP.out 4096 (by decide)).bw DW.out) ((CW.out 4096 (by decide)).bw DW.out) (CK0.out _) (hide (fun wz _ => Im.b_speed wz)) (hide Im.b_mul) (hide Im.b_abs) (hide Im.b_max) (hide Im.b_max) (hide Im.b_fin)).mono ?_
     rintro e' w13 ⟨rfl, b13⟩
     have B13 := hide (bw_trans DW.out b13)
     clear b13 DW
     refine hK.out _ _ (fun _ _ => trivial) ?_
     clear hK K
     simp only [List.setIfInBounds_toArray, List.set_cons_zero, List.set_cons_succ]
     refine wpAnyK_take 6 99 (v := ?vk236) rfl (by kernel_rfl) (by kernel_rfl) (by kernel_rfl) (by kernel_rfl) (by kernel_rfl) (fun _ _ _ h => h) rfl (Or.inl ⟨by rfl, ?hk236⟩) (by assumption) ?rk236
     case hk236 => (intro w hSw; go_simp; with_reducible rfl)
     simp only [Act.put, List.setIfInBounds_toArray, List.set_cons_zero, List.set_cons_succ]
     refine wpAnyK_take 7 106 (v := ?vk237) rfl (by kernel_rfl) (by kernel_rfl) (by kernel_rfl) (by kernel_rfl) (by kernel_rfl) (fun _ _ _ h => h) rfl (Or.inl ⟨by rfl, ?hk237⟩) (by assumption) ?rk237
     case hk237 => (intro w hSw; go_simp; with_reducible rfl)
     simp only [Act.put, List.setIfInBounds_toArray, List.set_cons_zero, List.set_cons_succ]
     refine wpAnyK_take 8 107 (v := ?vk238) rfl (by kernel_rfl) (by kernel_rfl) (by kernel_rfl) (by kernel_rfl) (by kernel_rfl) (fun _ _ _ h => h) rfl (Or.inl ⟨by rfl, ?hk238⟩) (by assumption) ?rk238
     case hk238 => (intro w hSw; go_simp; with_reducible rfl)
     simp only [Act.put, List.setIfInBounds_toArray, List.set_cons_zero, List.set_cons_succ]
     refine wpAnyK_one 9 (by kernel_rfl) rfl (fun K hK => ?_)
     go_simp
     refine hK.out _ _ (fun _ _ => trivial) ?_
     clear hK K
     simp only [List.setIfInBounds_toArray, List.set_cons_zero, List.set_cons_succ]
     refine wpAnyK_one 10 (by kernel_rfl) rfl (fun K hK => ?_)
     go_simp
     refine hK.out _ _ (fun h => absurd rfl h) ?_
     clear hK K
     simp only [List.setIfInBounds_toArray, List.set_cons_zero, List.set_cons_succ]
     refine wpAnyK_done (by kernel_rfl) ?_ _
     clear B12
     go_wp2_with fail
     --CUT8
     refine wp_region_K (fun _ => True) 10 11 #[false, false, false, false, false, false, false, false, false, false, false] (by kernel_rfl) (by kernel_rfl) (by kernel_rfl) ?_
     have tt : True := trivial
     have DW := hide (bw_trans B13.out (Bw.refl w13).drew)
     generalize w13.drew = w13' at *
     refine wpAnyK_take 0 109 (v := ?vg240) rfl (by kernel_rfl) (by kernel_rfl) (by kernel_rfl) (by kernel_rfl) (by kernel_rfl) (fun _ _ _ h => h) rfl (Or.inl ⟨by rfl, ?hg240⟩) (by assumption) ?rg240
     case hg240 => (intro w hSw; go_simp; with_reducible rfl)
     simp only [Act.put, List.setIfInBounds_toArray, List.set_cons_zero, List.set_cons_succ]
     refine wpAnyK_take 1 110 (v := ?vg241) rfl (by kernel_rfl) (by kernel_rfl) (by kernel_rfl) (by kernel_rfl) (by kernel_rfl) (fun _ _ _ h => h) rfl (Or.inl ⟨by rfl, ?hg241⟩) (by assumption) ?rg241
     case hg241 => (intro w hSw; go_simp; with_reducible rfl)
     simp only [Act.put, List.setIfInBounds_toArray, List.set_cons_zero, List.set_cons_succ]
     refine wpAnyK_take 2 111 (v := ?vg242) rfl (by kernel_rfl) (by kernel_rfl) (by kernel_rfl) (by kernel_rfl) (by kernel_rfl) (fun _ _ _ h => h) rfl (Or.inl ⟨by rfl, ?hg242⟩) (by assumption) ?rg242
     case hg242 => (intro w hSw; go_simp; with_reducible rfl)
     simp only [Act.put, List.setIfInBounds_toArray, List.set_cons_zero, List.set_cons_succ]
     refine wpAnyK_take 3 112 (v := ?vg243) rfl (by kernel_rfl) (by kernel_rfl) (by kernel_rfl) (by kernel_rfl) (by kernel_rfl) (fun _ _ _ h => h) rfl (Or.inl ⟨by rfl, ?hg243⟩) (by assumption) ?rg243
     case hg243 => (intro w hSw; go_simp; with_reducible rfl)
     simp only [Act.put, List.setIfInBounds_toArray, List.set_cons_zero, List.set_cons_succ]
     refine wpAnyK_take 4 113 (v := ?vg244) rfl (by kernel_rfl) (by kernel_rfl) (by kernel_rfl) (by kernel_rfl) (by kernel_rfl) (fun _ _ _ h => h) rfl (Or.inl ⟨by rfl, ?hg244⟩) (by assumption) ?rg244
     case hg244 => (intro w hSw; go_simp; with_reducible rfl)
     simp only [Act.put, List.setIfInBounds_toArray, List.set_cons_zero, List.set_cons_succ]
     refine wpAnyK_one 5 (by kernel_rfl) rfl (fun K hK => ?_)
     go_simp
     refine (through_many (w := w13') (n := 2) (m := 1) (CK0.out _) (E := 140) (by decide) (hide (fun wz hz => units_shape (by decide) ((CP.out 2 (by decide)).bw (bw_trans DW.out hz)) (by decide)))).mono ?_
     rintro e' w14 ⟨rfl, b14⟩
     have B14 := hide (bw_trans DW.out b14)
     clear b14 DW
     refine hK.out _ _ (fun _ _ => trivial) ?_
     clear hK K
     simp only [List.setIfInBounds_toArray, List.set_cons_zero, List.set_cons_succ]
     refine wpAnyK_take 6 108 (v := ?vk246) rfl (by kernel_rfl) (by kernel_rfl) (by kernel_rfl) (by kernel_rfl) (by kernel_rfl) (fun _ _ _ h => h) rfl (Or.inl ⟨by rfl, ?hk246⟩) (by assumption) ?rk246
     case hk246 => (intro w hSw; go_simp; with_reducible rfl)
     simp only [Act.put, List.setIfInBounds_toArray, List.set_cons_zero, List.set_cons_succ]
     refine wpAnyK_take 7 115 (v := ?vk247) rfl (by kernel_rfl) (by kernel_rfl) (by kernel_rfl) (by kernel_rfl) (by kernel_rfl) (fun _ _ _ h => h) rfl (Or.inl ⟨by rfl, ?hk247⟩) (by assumption) ?rk247
     case hk247 => (intro w hSw; go_simp; with_reducible rfl)
     simp only [Act.put, List.setIfInBounds_toArray, List.set_cons_zero, List.set_cons_succ]
     refine wpAnyK_take 8 116 (v := ?vk248) rfl (by kernel_rfl) (by kernel_rfl) (by kernel_rfl) (by kernel_rfl) (by kernel_rfl) (fun _ _ _ h => h) rfl (Or.inl ⟨by rfl, ?hk248⟩) (by assumption) ?rk248
     case hk248 => (intro w hSw; go_simp; with_reducible rfl)
     simp only [Act.put, List.setIfInBounds_toArray, List.set_cons_zero, List.set_cons_succ]
     refine wpAnyK_one 9 (by kernel_rfl) rfl (fun K hK => ?_)
     go_simp
     refine hK.out _ _ (fun _ _ => trivial) ?_
     clear hK K
     simp only [List.setIfInBounds_toArray, List.set_cons_zero, List.set_cons_succ]
     refine wpAnyK_one 10 (by kernel_rfl) rfl (fun K hK => ?_)
     go_simp
     refine hK.out _ _ (fun h => absurd rfl h) ?_
     clear hK K
     simp only [List.setIfInBounds_toArray, List.set_cons_zero, List.set_cons_succ]
     refine wpAnyK_done (by kernel_rfl) ?_ _
     clear B13
     go_wp2_with fail
     --CUT9
     refine (source_c _ _ _ _ _).mono ?_
     rintro e' w15 ⟨B5, rfl, h15, b15⟩
     have xb := bw_alloc w15 (.cells #[.slice (some ⟨B5, 0, none⟩) 1 1] 30)
     have L21 := Im.Bl.new w15 #[.slice (some ⟨B5, 0, none⟩) 1 1] 30
     have B15 := hide (bw_trans B14.out (bw_trans b15 xb))
     have H15 := hide (h15.bw xb)
     have L21' := hide L21
     clear b15 h15 xb B14
     obtain ⟨V15, hV15⟩ : ∃ V, w15.alloc (.cells #[.slice (some ⟨B5, 0, none⟩) 1 1] 30) = V := ⟨_, rfl⟩
     have HV15 := hide hV15
     rw [hV15] at H15 L21' L21 B15
     clear hV15
     have l0 := L21.c 0 _ rfl
     clear L21
     go_wp2_with fail
     try rw [HV15.out]
     obtain ⟨x, y, hx⟩ := Im.x_on
     refine (wall_bad (e := Im.eo) rfl Im.ck_on ⟨_, _, Im.a_conjb⟩ hx Im.b_on H15.out).mono ?_
     rintro e' w16 ⟨a7, m7, c7, rfl, b16⟩
     have b17 := bw_trans b16 (bw_alloc w16 (.cells #[.slice a7 m7 c7] 30))
     have B16 := hide (bw_trans B15.out b17)
     have H16 := hide (H15.out.bw b17)
     have l1 := (L21'.out.bw b17).c 0 _ rfl
     clear b16 b17 l0 hx B15 H15
     go_wp2_with fail
     --CUTa
     obtain ⟨x, y, hx⟩ := Im.x_onc
     refine (circ_bad (e := Im.eo) rfl Im.ck_on Im.a_conjb Im.b_may3 hx Im.b_onc H16.out).mono ?_
     rintro e' w17 ⟨a8, m8, c8, rfl, b18⟩
     have B17 := hide (bw_trans B16.out (bw_trans b18 (bw_alloc w17 (.cells #[.slice a8 m8 c8] 30))))
     clear b18 hx B16 l1 H16
     go_wp2_with fail
     --CUTb
     refine (circle_no (CK0.out _) (hide Im.b_maynot)).mono ?_
     rintro e' w18 ⟨rfl, b19⟩
     have B18 := bw_trans B17.out (bw_trans b19 (bw_alloc w18 (.cells #[.slice none 0 0] 30)))
     have p4 := (K.out.1.bw B18).c 0 _ rfl
     have p8 := (K.out.2.1.bw B18).c 0 _ rfl
     have FF := hide (bw_trans K.out.2.2 B18)
     clear b19 B17 B18
     go_wp2
     --CUTc
     go_ret
     exact ⟨rfl, FF.out⟩
end Go.Proofs.YtnjkdfhhlcoaaaaGreat

