/-
 OWN TEXT: package image: Through at places that are all alike.
-/
import Derived.Test.YtnjkdfhhlcoaaaaGreatJImAToImD
import Derived.Test.YtnjkdfhhlcoaaaaGreatJXxAToXxH
import Derived.Test.YtnjkdfhhlcoaaaaGreatJPyDToPyG
import Derived.Test.YtnjkdfhhlcoaaaaGreatJImFToImG
namespace Go.Proofs.YtnjkdfhhlcoaaaaGreat
open Go.ChangeShapes Go.WideShapes Go.ChangeAt Go.RowKit
set_option linter.unusedVariables false
set_option linter.unusedSimpArgs false
attribute [local go_sem] frombits_call tobits_call run_neg run_store_cx El.run_store_fl
namespace Im
/-- n complex numbers, all (x, y), lie from a on -/
def Cs (w : World) (a : Option Addr) (n x y : Nat) : Prop := n = 0 ∨ ∃ b o, a = some ⟨b, o, none⟩ ∧ b < w.heap.size ∧ ∀ i, i < n → w.cell? ⟨b, o + i, none⟩ = some (.complex .f64 x y)
theorem Cs.bw {w w' : World} {a : Option Addr} {n x y : Nat} (h : Cs w a n x y) (k : Bw w w') : Cs w' a n x y := by
 rcases h with h | ⟨b, o, e, hb, h⟩
 · exact Or.inl h
 · exact Or.inr ⟨b, o, e, Nat.lt_of_lt_of_le hb k.size, fun i hi => (Below.cell k (p := ⟨b, o + i, none⟩) hb).trans (h i hi)⟩
end Im
theorem place_nought (w : World) : Calls Tryz.prog 23 #[.complex .f64 0 0] w fun e w' => e = .returned (.bool true) ∧ Bw w w' :=
 xevaluated exF_ok plainX mixedX (by decide) kpF hsF 100000 40 (args := [.complex .f64 0 0]) (v := .bool true) rfl rfl (by decide +kernel) w (fun g l h => by cases h) (fun g l h => by cases h)
theorem unit_one (w : World) : Calls Tryz.prog 29 #[.complex .f64 4607182418800017408 0] w fun e w' => e = .returned (.tuple #[.complex .f64 4607182418800017408 0, .int .i64 0]) ∧ Bw w w' :=
 xevaluated exF_ok plainX mixedX (by decide) kpF hsF 100000 40 (args := [.complex .f64 4607182418800017408 0]) (v := .tuple #[.complex .f64 4607182418800017408 0, .int .i64 0]) rfl rfl (by decide +kernel) w (fun g l h => by cases h) (fun g l h => by cases h)
theorem units_many {w : World} {a b : Option Addr} {n m cap cap' : Nat} (hn : 4096 < n) : Calls Tryz.prog 17 #[.slice a n cap, .slice b m cap'] w fun e w' => e = .returned (.tuple #[.slice none 0 0, .int .i64 4]) ∧ w' = w := by
 have hn' : (4096 : Int) < (n : Int) := by omega
 go_enter Tryz.func17, Tryz.ntmps17
 go_wp2
 refine bodyPost_ret (results_tmp2 rfl _ _ _) rfl ?_
 exact ⟨rfl, rfl⟩
set_option maxHeartbeats 4000000 in
theorem units_shape {w : World} {a b : Option Addr} {n m cap cap' : Nat} (hn : n ≤ 4096) (hA : Im.Cs w a n 0 0) (hm : m ≠ n) : Calls Tryz.prog 17 #[.slice a n cap, .slice b m cap'] w fun e w' => e = .returned (.tuple #[.slice none 0 0, .int .i64 140]) ∧ Bw w w' := by
 have hn' : ¬ (4096 : Int) < (n : Int) := by omega
 have hm' : ¬ (m : Int) = (n : Int) := by omega
 have HA := hide hA
 clear hA
 go_enter Tryz.func17, Tryz.ntmps17
 go_wp2_with fail
 go_loopw [17] (fun i wr => ∃ (k : Nat), k ≤ n ∧ i = .int .i64 k ∧ Bw w wr) (fun i _ => n - (intOf i).toNat)
 case atStart => exact ⟨0, Nat.zero_le _, rfl, Bw.refl _⟩
 case round =>
  obtain ⟨k, hk, rfl, hbw⟩ := hrel
  by_cases hk1 : k < n
  ·
   have hk2 : (k : Int) < n := by omega
   obtain ⟨bb, o, rfl, _, hcell⟩ := (HA.out.bw hbw).resolve_left (by omega)
   have e0 := hcell k hk1
   clear hcell
   go_wp2_with fail
   refine (place_nought _).mono ?_
   rintro e' w5 ⟨rfl, b5⟩
   have R2 := hide (bw_trans hbw b5)
   clear e0 b5
   go_wp2
   go_roundw
   case rel => exact ⟨k + 1, by omega, by simp, R2.out⟩
   case measure => simp [intOf]; omega
  ·
   have hk3 : k = n := by omega
   subst hk3
   go_wp2
   refine bodyPost_ret (results_tmp2 rfl _ _ _) rfl ?_
   exact ⟨rfl, hbw⟩
set_option maxHeartbeats 4000000 in
theorem units_ok {w : World} {a b : Option Addr} {n cap cap' : Nat} (hn : n ≤ 4096) (hA : Im.Cs w a n 0 0) (hB : Im.Cs w b n 4607182418800017408 0) : Calls Tryz.prog 17 #[.slice a n cap, .slice b n cap'] w fun e w' => ∃ B, e = .returned (.tuple #[.slice (some ⟨B, 0, none⟩) n n, .int .i64 0]) ∧ Im.Cs w' (some ⟨B, 0, none⟩) n 4607182418800017408 0 ∧ Bw w w' := by
 have hn' : ¬ (4096 : Int) < (n : Int) := by omega
 have HA := hide hA
 have HB := hide hB
 clear hA hB
 go_enter Tryz.func17, Tryz.ntmps17
 go_wp2_with fail
 go_loopw [17] (fun i wr => ∃ (k : Nat), k ≤ n ∧ i = .int .i64 k ∧ Bw w wr) (fun i _ => n - (intOf i).toNat)
 case atStart => exact ⟨0, Nat.zero_le _, rfl, Bw.refl _⟩
 case round =>
  obtain ⟨k, hk, rfl, hbw⟩ := hrel
  by_cases hk1 : k < n
  ·
   have hk2 : (k : Int) < n := by omega
   obtain ⟨bb, o, rfl, _, hcell⟩ := (HA.out.bw hbw).resolve_left (by omega)
   have e0 := hcell k hk1
   clear hcell
   go_wp2_with fail
   refine (place_nought _).mono ?_
   rintro e' w5 ⟨rfl, b5⟩
   have R2 := hide (bw_trans hbw b5)
   clear e0 b5
   go_wp2
   go_roundw
   case rel => exact ⟨k + 1, by omega, by simp, R2.out⟩
   case measure => simp [intOf]; omega
  ·
   have hk3 : k = n := by omega
   subst hk3
   have hmk := make_c (k : Int) k rfl (by omega) wr
   have bM := bw_alloc wr (.cells (zcC k) 24)
   have hGw := Gw.made 1074 wr k 24
   obtain ⟨B, hB⟩ : ∃ B, wr.heap.size = B := ⟨_, rfl⟩
   have hBW : w.heap.size ≤ B := by rw [← hB]; exact hbw.size
   rw [hB] at hmk hGw
   have bW := bw_trans hbw bM
   clear hB
   go_wp2
   clear hmk
   generalize wr.alloc (.cells (zcC k) 24) = W2 at *
   have hG0 := hide (show B < W2.heap.size ∧ (∀ j, j < k → ∃ v, W2.cell? ⟨B, j, none⟩ = some v) ∧ ∀ j, W2.frozen? ⟨B, j, none⟩ = false from ⟨hGw.1.1, fun j hj => by
    obtain ⟨x, y, e, _⟩ := hGw.1.2 j (by simpa using hj)
    rw [Nat.zero_add] at e
    exact ⟨_, e⟩, hGw.2⟩)
   have HBW := hide bW
   clear hGw bM bW hbw
   go_loopw [35] (fun i wr => ∃ q : Nat, q ≤ k ∧ i = .int .i64 q ∧ Hid ((∀ j, j < k → ∃ v, wr.cell? ⟨B, j, none⟩ = some v) ∧ (∀ j, j < q → wr.cell? ⟨B, j, none⟩ = some (.complex .f64 4607182418800017408 0)) ∧ (∀ j, wr.frozen? ⟨B, j, none⟩ = false) ∧ B < wr.heap.size) ∧ Hid (Bw w wr)) (fun i _ => k - (intOf i).toNat)
   case atStart => exact ⟨0, Nat.zero_le _, rfl, hide ⟨hG0.out.2.1, fun j hj => absurd hj (by omega), hG0.out.2.2, hG0.out.1⟩, HBW⟩
   case round =>
    obtain ⟨q, hq, rfl, HR, hb⟩ := hrel
    by_cases hq1 : q < k
    ·
     have hq2 : (q : Int) < k := by omega
     obtain ⟨bb, o, rfl, _, hcell⟩ := (HB.out.bw hb.out).resolve_left (by omega)
     have e0 := hcell q hq1
     clear hcell
     go_wp2_with fail
     refine (unit_one _).mono ?_
     rintro e' w5 ⟨rfl, b5⟩
     obtain ⟨g1, g2, g3, g4⟩ := HR.out
     obtain ⟨v0, ev⟩ := g1 q hq1
     have x0 := (Below.cell b5 (p := ⟨B, q, none⟩) g4).trans ev
     have f0 := (Below.frozen b5 (p := ⟨B, q, none⟩) g4).trans (g3 q)
     have R : Hid (Hid ((∀ j, j < k → ∃ v, (w5.setCell ⟨B, q, none⟩ (.complex .f64 4607182418800017408 0)).cell? ⟨B, j, none⟩ = some v) ∧ (∀ j, j < q + 1 → (w5.setCell ⟨B, q, none⟩ (.complex .f64 4607182418800017408 0)).cell? ⟨B, j, none⟩ = some (.complex .f64 4607182418800017408 0)) ∧ (∀ j, (w5.setCell ⟨B, q, none⟩ (.complex .f64 4607182418800017408 0)).frozen? ⟨B, j, none⟩ = false) ∧ B < (w5.setCell ⟨B, q, none⟩ (.complex .f64 4607182418800017408 0)).heap.size) ∧ Hid (Bw w (w5.setCell ⟨B, q, none⟩ (.complex .f64 4607182418800017408 0)))) := by
      refine ⟨⟨fun j hj => ?_, fun j hj => ?_, fun j => ?_, ?_⟩, hide (Below.setCell (bw_trans hb.out b5) hBW _)⟩
      ·
       by_cases p : q = j
       · subst p; exact ⟨_, Ff.set_any x0⟩
       ·
        obtain ⟨v, e⟩ := g1 j hj
        exact ⟨v, by rw [Ff.set_off p]; exact (Below.cell b5 (p := ⟨B, j, none⟩) g4).trans e⟩
      ·
       by_cases p : q = j
       · subst p; exact Ff.set_any x0
       ·
        rw [Ff.set_off p]
        exact (Below.cell b5 (p := ⟨B, j, none⟩) g4).trans (g2 j (by omega))
      · rw [World.frozen?_setCell]; exact (Below.frozen b5 (p := ⟨B, j, none⟩) g4).trans (g3 j)
      ·
       have := b5.size
       simp [World.setCell]; omega
     clear g1 g2 g3 g4 ev b5 hb HR e0
     go_wp2
     go_roundw
     case rel => exact ⟨q + 1, by omega, by simp, R.out.1, R.out.2⟩
     case measure => simp [intOf]; omega
    ·
     have hq3 : q = k := by omega
     subst hq3
     go_wp2
     refine bodyPost_ret (results_tmp2 rfl _ _ _) rfl ?_
     exact ⟨B, rfl, Or.inr ⟨B, 0, rfl, HR.out.2.2.2, fun i hi => by rw [Nat.zero_add]; exact HR.out.2.1 i hi⟩, hb.out⟩
set_option maxHeartbeats 4000000 in
theorem through_many {w : World} {f a b : Option Addr} {fn fc n m cap cap' : Nat} (CK : Hid (∀ wz, Bw w wz → Calls Tryz.prog 13 #[.agg #[.slice f fn fc]] wz fun e w' => e = .returned (.int .i64 0) ∧ Bw wz w')) {E : Int} (hE : E ≠ 0)
  (UN : Hid (∀ wz, Bw w wz → Calls Tryz.prog 17 #[.slice a n cap, .slice b m cap'] wz fun e w' => e = .returned (.tuple #[.slice none 0 0, .int .i64 E]) ∧ Bw wz w')) : Calls Tryz.prog 8 #[.agg #[.slice f fn fc], .slice a n cap, .slice b m cap'] w fun e w' => e = .returned (.tuple #[.float .f64 0, .int .i64 E]) ∧ Bw w w' := by
 have bA := hide (bw_alloc w (.cells #[.slice f fn fc] 30))
 have c0 : (w.alloc (.cells #[.slice f fn fc] 30)).cell? ⟨w.heap.size, 0, none⟩ = some (.slice f fn fc) := by simp
 go_enter Tryz.func8, Tryz.ntmps8
 go_wp2_with fail
 refine (CK.out _ bA.out).mono ?_
 rintro e' w5 ⟨rfl, b5⟩
 have B5 := hide (bw_trans bA.out b5)
 clear c0 bA b5
 go_wp2_with fail
 refine (UN.out _ B5.out).mono ?_
 rintro e' w6 ⟨rfl, b6⟩
 go_wp2
 refine bodyPost_ret (results_tmp2 rfl _ _ _) rfl ?_
 exact ⟨rfl, bw_trans B5.out b6⟩
set_option maxHeartbeats 4000000 in
theorem through_ok {w : World} {f a b : Option Addr} {fn fc n cap cap' sx sy px py M : Nat} (hn : n ≤ 4096) (h1 : 1 ≤ n) (hA : Im.Cs w a n 0 0) (hB : Im.Cs w b n 4607182418800017408 0) (CK : Hid (∀ wz, Bw w wz → Calls Tryz.prog 13 #[.agg #[.slice f fn fc]] wz fun e w' => e = .returned (.int .i64 0) ∧ Bw wz w'))
  (SP : Hid (∀ wz, Bw w wz → Calls Tryz.prog 18 #[.agg #[.slice f fn fc], .complex .f64 0 0] wz fun e w' => e = .returned (.tuple #[.complex .f64 sx sy, .int .i64 0]) ∧ Bw wz w'))
  (MU : Hid (∀ wz, Calls Tryz.prog 21 #[.complex .f64 sx sy, .complex .f64 4607182418800017408 0] wz fun e w' => e = .returned (.complex .f64 px py) ∧ Bw wz w'))
  (AB : Hid (∀ wz, Calls Tryz.prog 20 #[.float .f64 py] wz fun e w' => e = .returned (.float .f64 M) ∧ Bw wz w'))
  (MX : Hid (∀ wz, Calls Tryz.prog 19 #[.float .f64 0, .float .f64 M] wz fun e w' => e = .returned (.float .f64 M) ∧ Bw wz w'))
  (MY : Hid (∀ wz, Calls Tryz.prog 19 #[.float .f64 M, .float .f64 M] wz fun e w' => e = .returned (.float .f64 M) ∧ Bw wz w'))
  (FN : Hid (∀ wz, Calls Tryz.prog 22 #[.complex .f64 M 0] wz fun e w' => e = .returned (.bool true) ∧ Bw wz w')) :
  Calls Tryz.prog 8 #[.agg #[.slice f fn fc], .slice a n cap, .slice b n cap'] w fun e w' => e = .returned (.tuple #[.float .f64 M, .int .i64 0]) ∧ Bw w w' := by
 have bA := hide (bw_alloc w (.cells #[.slice f fn fc] 30))
 have c0 : (w.alloc (.cells #[.slice f fn fc] 30)).cell? ⟨w.heap.size, 0, none⟩ = some (.slice f fn fc) := by simp
 have CC := hide (fun wz (hz : Bw (w.alloc (.cells #[.slice f fn fc] 30)) wz) => (Below.cell hz (p := ⟨w.heap.size, 0, none⟩) (by simp)).trans c0)
 have UN := hide (fun wz (hz : Bw w wz) => units_ok (cap := cap) (cap' := cap') hn (hA.bw hz) (hB.bw hz))
 have HA := hide hA
 clear hA hB
 go_enter Tryz.func8, Tryz.ntmps8
 go_wp2_with fail
 refine (CK.out _ bA.out).mono ?_
 rintro e' w5 ⟨rfl, b5⟩
 have B5 := hide (bw_trans bA.out b5)
 have A5 := hide b5
 clear c0 b5
 go_wp2_with fail
 refine (UN.out _ B5.out).mono ?_
 rintro e' w6 ⟨B, rfl, hU, b6⟩
 have HU := hide hU
 have B6 := hide (bw_trans B5.out b6)
 have A6 := hide (bw_trans A5.out b6)
 clear hU b6 B5 A5 UN
 go_wp2_with fail
 go_loopw [11, 32] (fun m i wr => ∃ (k : Nat), k ≤ n ∧ i = .int .i64 k ∧ m = .float .f64 (if k = 0 then 0 else M) ∧ Hid (Bw w6 wr)) (fun _ i _ => n - (intOf i).toNat)
 case atStart => exact ⟨0, Nat.zero_le _, rfl, rfl, hide (Bw.refl _)⟩
 case round =>
  obtain ⟨k, hk, rfl, rfl, hbw⟩ := hrel
  by_cases hk1 : k < n
  ·
   have hk2 : (k : Int) < n := by omega
   obtain ⟨bb, o, rfl, _, hcell⟩ := (HA.out.bw (bw_trans B6.out hbw.out)).resolve_left (by omega)
   have e0 := hcell k hk1
   have c1 := CC.out _ (bw_trans A6.out hbw.out)
   have HM : Hid (∀ wz, Calls Tryz.prog 19 #[.float .f64 (if k = 0 then 0 else M), .float .f64 M] wz fun e w' => e = .returned (.float .f64 M) ∧ Bw wz w') := by
    by_cases q : k = 0
    · rw [if_pos q]; exact MX
    · rw [if_neg q]; exact MY
   obtain ⟨m0, hm0⟩ : ∃ m0, (if k = 0 then 0 else M) = m0 := ⟨_, rfl⟩
   rw [hm0] at HM ⊢
   have SP2 := hide (SP.out wr (bw_trans B6.out hbw.out))
   clear hcell hm0
   go_wp2_with fail
   refine SP2.out.mono ?_
   rintro e' w7 ⟨rfl, b7⟩
   obtain ⟨ub, uo, hue, _, hu⟩ := (HU.out.bw (bw_trans hbw.out b7)).resolve_left (by omega)
   simp only [Option.some.injEq, Addr.mk.injEq, and_true] at hue
   obtain ⟨rfl, rfl⟩ := hue
   have e1 := hu k hk1
   rw [Nat.zero_add] at e1
   have B7 := hide (bw_trans hbw.out b7)
   clear e0 c1 hu b7 SP2
   go_wp2_with fail
   refine (MU.out _).mono ?_
   rintro e' w8 ⟨rfl, b8⟩
   have B8 := hide (bw_trans B7.out b8)
   clear e1 b8
   go_wp2_with fail
   refine (AB.out _).mono ?_
   rintro e' w9 ⟨rfl, b9⟩
   have B9 := hide (bw_trans B8.out b9)
   clear b9
   go_wp2_with fail
   refine (HM.out _).mono ?_
   rintro e' w10 ⟨rfl, b10⟩
   have B10 := hide (bw_trans B9.out b10)
   clear b10
   go_wp2
   go_roundw
   case rel => exact ⟨k + 1, by omega, by simp, by simp, B10⟩
   case measure => simp [intOf]; omega
  ·
   have hk3 : k = n := by omega
   subst hk3
   rw [if_neg (show ¬ k = 0 by omega)]
   go_wp2_with fail
   refine (FN.out _).mono ?_
   rintro e' w7 ⟨rfl, b7⟩
   go_wp2
   refine bodyPost_ret (results_tmp2 rfl _ _ _) rfl ?_
   exact ⟨rfl, bw_trans B6.out (bw_trans hbw.out b7)⟩
end Go.Proofs.YtnjkdfhhlcoaaaaGreat

/-
 OWN TEXT: package image: closed calls, by evaluation.
-/
namespace Go.Proofs.YtnjkdfhhlcoaaaaGreat
open Go.ChangeShapes Go.WideShapes Go.ChangeAt Go.RowKit
set_option linter.unusedVariables false
namespace Im
def flip (b : Nat) : Nat := if b < 9223372036854775808 then b + 9223372036854775808 else b - 9223372036854775808
def src (i : Nat) : Re := ⟨2, floatOfInt .f64 i, 4613937818241073152, 4607182418800017408, 0, 0⟩
def imgW (e : Re) : Re := ⟨e.k, e.a, flip e.b, e.s, flip e.t, e.p⟩
def rv (e : Re) : Value := .agg #[.int .u8 e.k, .complex .f64 e.a e.b, .complex .f64 e.s e.t, .float .f64 e.p]
def wallV : Value := .agg #[.complex .f64 0 0, .complex .f64 4607182418800017408 0]
def circV (r : Nat) : Value := .agg #[.complex .f64 0 0, .float .f64 r]
end Im
theorem all_ev {f : FuncId} (n : Nat) (args : Nat → List Value) (v : Nat → Value)
  (h : ((List.range n).all fun i => (args i).all flat && flat (v i) && ((xcall Tryz.prog exF kpF hsF 100000 40 f (args i) ⟨roTab.length, m0⟩ (fun v M => some (v, M)) (fun _ _ => none)).any fun x => eq3 (v i) x.1)) = true) : ∀ i, i < n → ∀ w, Calls Tryz.prog f ⟨args i⟩ w fun x w' => x = .returned (v i) ∧ Bw w w' := by
 intro i hi w
 have k := List.all_eq_true.1 h i (by simpa using hi)
 simp only [Bool.and_eq_true] at k
 exact xevaluated exF_ok plainX mixedX (by decide) kpF hsF 100000 40 k.1.1 k.1.2 k.2 w (fun g l h => by cases h) (fun g l h => by cases h)
theorem w_across (i : Nat) (hi : i < 128) (w : World) : Calls Tryz.prog 26 #[Im.wallV, .complex .f64 (Im.src i).a (Im.src i).b] w fun r w' => r = .returned (.complex .f64 (Im.src i).a (Im.flip (Im.src i).b)) ∧ Bw w w' :=
 all_ev 128 (fun i => [Im.wallV, .complex .f64 (Im.src i).a (Im.src i).b]) (fun i => .complex .f64 (Im.src i).a (Im.flip (Im.src i).b)) (by decide +kernel) i hi w
theorem w_above (i : Nat) (hi : i < 128) (w : World) : Calls Tryz.prog 108 #[Im.wallV, .complex .f64 (Im.src i).a (Im.src i).b] w fun r w' => r = .returned (.bool true) ∧ Bw w w' :=
 all_ev 128 (fun i => [Im.wallV, .complex .f64 (Im.src i).a (Im.src i).b]) (fun i => .bool true) (by decide +kernel) i hi w
end Go.Proofs.YtnjkdfhhlcoaaaaGreat

/-
 OWN TEXT: package image: Circle; what is done with each element; one source's flow.
-/
namespace Go.Proofs.YtnjkdfhhlcoaaaaGreat
open Go.ChangeShapes Go.WideShapes Go.ChangeAt Go.RowKit
set_option linter.unusedVariables false
set_option linter.unusedSimpArgs false
attribute [local go_sem] frombits_call tobits_call run_neg run_store_cx El.run_store_fl
set_option maxHeartbeats 16000000 in
theorem circleI {w : World} {a : Option Addr} {cap n o0 o1 rr : Nat} {es : List Im.Re} {P : Im.Re → Im.Re → List Im.Re → Prop} {E : Int}
  (CK : Hid (∀ wz, Bw w wz → Calls Tryz.prog 13 #[.agg #[.slice a n cap]] wz fun e w' => e = .returned (.int .i64 0) ∧ Bw wz w'))
  (MB : Hid (∀ wz, Calls Tryz.prog 16 #[.agg #[.complex .f64 o0 o1, .float .f64 rr]] wz fun e w' => e = .returned (.bool true) ∧ Bw wz w'))
  (RF : Hid (∀ wz, Bw w wz → Calls Tryz.prog 15 #[.agg #[.slice a n cap], .iface 53 (.agg #[.complex .f64 o0 o1, .float .f64 rr])] wz fun e w' => ∃ a' m c', e = .returned (.tuple #[.agg #[.slice a' m c'], .int .i64 E]) ∧ Im.Ot P es E wz w' a' m ∧ Bw wz w')) :
  Calls Tryz.prog 7 #[.agg #[.slice a n cap], .agg #[.complex .f64 o0 o1, .float .f64 rr]] w fun e w' => ∃ a' m c', e = .returned (.tuple #[.agg #[.slice a' m c'], .int .i64 E]) ∧ Im.Ot P es E w w' a' m ∧ Bw w w' := by
 have g1 := Im.Bl.new w #[.slice a n cap] 30
 have z1 : (w.alloc (.cells #[.slice a n cap] 30)).heap.size = w.heap.size + 1 := by simp
 have b1 := bw_alloc w (.cells #[.slice a n cap] 30)
 obtain ⟨W1, hW1⟩ : ∃ v, w.alloc (.cells #[.slice a n cap] 30) = v := ⟨_, rfl⟩
 rw [hW1] at g1 z1 b1
 have g2 := Im.Bl.new W1 #[.complex .f64 o0 o1, .float .f64 rr] 36
 have z2 : (W1.alloc (.cells #[.complex .f64 o0 o1, .float .f64 rr] 36)).heap.size = w.heap.size + 1 + 1 := by simp [z1]
 have b2 := bw_alloc W1 (.cells #[.complex .f64 o0 o1, .float .f64 rr] 36)
 obtain ⟨W2, hW2⟩ : ∃ v, W1.alloc (.cells #[.complex .f64 o0 o1, .float .f64 rr] 36) = v := ⟨_, rfl⟩
 rw [hW2] at g2 z2 b2
 have g3 := Im.Bl.new W2 #[.slice none 0 0] 30
 have z3 : (W2.alloc (.cells #[.slice none 0 0] 30)).heap.size = w.heap.size + 1 + 1 + 1 := by simp [z2]
 have b3 := bw_alloc W2 (.cells #[.slice none 0 0] 30)
 obtain ⟨W3, hW3⟩ : ∃ v, W2.alloc (.cells #[.slice none 0 0] 30) = v := ⟨_, rfl⟩
 rw [hW3] at g3 z3 b3
 have GG : Hid (Im.Bl W3 (w.heap.size) [.slice a n cap] ∧ Im.Bl W3 (w.heap.size + 1) [.complex .f64 o0 o1, .float .f64 rr] ∧ Im.Bl W3 (w.heap.size + 1 + 1) [.slice none 0 0] ∧ Bw w W3) := ⟨(show Im.Bl _ (w.heap.size) _ from g1).bw (bw_trans b2 b3), (show Im.Bl _ (w.heap.size + 1) _ from z1 ▸ g2).bw b3, (show Im.Bl _ (w.heap.size + 1 + 1) _ from z2 ▸ g3), (bw_trans b1 (bw_trans b2 b3))⟩
 have HW := hide (And.intro hW1 (And.intro hW2 (hW3)))
 clear g1 b1 z1 hW1 g2 b2 z2 hW2 g3 b3 z3 hW3
 go_enter Tryz.func7, Tryz.ntmps7
 go_wp2_with fail
 rw [HW.out.1, HW.out.2.1, HW.out.2.2]
 obtain ⟨A, hA⟩ : ∃ A, w.heap.size = A := ⟨_, rfl⟩
 rw [hA] at GG ⊢
 have HA := hide hA
 refine (CK.out _ GG.out.2.2.2).mono ?_
 rintro e' w4 ⟨rfl, bb⟩
 have G4 : Hid (Im.Bl w4 (A) [.slice a n cap] ∧ Im.Bl w4 (A + 1) [.complex .f64 o0 o1, .float .f64 rr] ∧ Im.Bl w4 (A + 1 + 1) [.slice none 0 0] ∧ Bw w w4) := ⟨GG.out.1.bw bb, GG.out.2.1.bw bb, GG.out.2.2.1.bw bb, bw_trans GG.out.2.2.2 bb⟩
 have k00 := G4.out.1.c 0 _ rfl
 have k10 := G4.out.2.1.c 0 _ rfl
 have k11 := G4.out.2.1.c 1 _ rfl
 have k20 := G4.out.2.2.1.c 0 _ rfl
 clear bb GG
 go_wp2_with fail
 refine (MB.out _).mono ?_
 rintro e' w5 ⟨rfl, bb⟩
 have G5 : Hid (Im.Bl w5 (A) [.slice a n cap] ∧ Im.Bl w5 (A + 1) [.complex .f64 o0 o1, .float .f64 rr] ∧ Im.Bl w5 (A + 1 + 1) [.slice none 0 0] ∧ Bw w w5) := ⟨G4.out.1.bw bb, G4.out.2.1.bw bb, G4.out.2.2.1.bw bb, bw_trans G4.out.2.2.2 bb⟩
 clear bb k00 k10 k11 k20 G4
 have k00 := G5.out.1.c 0 _ rfl
 have k10 := G5.out.2.1.c 0 _ rfl
 have k11 := G5.out.2.1.c 1 _ rfl
 have k20 := G5.out.2.2.1.c 0 _ rfl
 have RF2 := hide (RF.out w5 G5.out.2.2.2)
 go_wp2_with fail
 refine RF2.out.mono ?_
 rintro e' w6 ⟨a', m, c', rfl, hO, bb⟩
 have G6 : Hid (Im.Bl w6 (A) [.slice a n cap] ∧ Im.Bl w6 (A + 1) [.complex .f64 o0 o1, .float .f64 rr] ∧ Im.Bl w6 (A + 1 + 1) [.slice none 0 0] ∧ Bw w w6) := ⟨G5.out.1.bw bb, G5.out.2.1.bw bb, G5.out.2.2.1.bw bb, bw_trans G5.out.2.2.2 bb⟩
 clear bb k00 k10 k11 k20 RF2
 have k20 := G6.out.2.2.1.c 0 _ rfl
 have z0 := G6.out.2.2.1.fz 0
 have FIN : Hid (∀ V, V = w6.setCell ⟨A + 1 + 1, 0, none⟩ (.slice a' m c') → V.cell? ⟨A + 1 + 1, 0, none⟩ = some (.slice a' m c') ∧ Im.Ot P es E w V a' m ∧ Bw w V) := by
  rintro V rfl
  have n1 := G5.out.2.2.1.lt
  have n2 := HA.out
  exact ⟨Ff.set_any k20, hO.set n1 G5.out.2.2.2.size, Below.setCell G6.out.2.2.2 (by show _ ≤ A + 1 + 1; omega) _⟩
 clear hO
 go_wp2
 obtain ⟨f0, f1, f2⟩ := FIN.out _ rfl
 refine bodyPost_ret (Im.res_flow rfl _ _ (A + 1 + 1) rfl f0) rfl ?_
 exact ⟨a', m, c', rfl, f1, f2⟩
set_option maxHeartbeats 16000000 in
theorem circle_no {w : World} {a : Option Addr} {cap n o0 o1 rr : Nat}
  (CK : Hid (∀ wz, Bw w wz → Calls Tryz.prog 13 #[.agg #[.slice a n cap]] wz fun e w' => e = .returned (.int .i64 0) ∧ Bw wz w'))
  (MB : Hid (∀ wz, Calls Tryz.prog 16 #[.agg #[.complex .f64 o0 o1, .float .f64 rr]] wz fun e w' => e = .returned (.bool false) ∧ Bw wz w')) :
  Calls Tryz.prog 7 #[.agg #[.slice a n cap], .agg #[.complex .f64 o0 o1, .float .f64 rr]] w fun e w' => e = .returned (.tuple #[.agg #[.slice none 0 0], .int .i64 5]) ∧ Bw w w' := by
 have g1 := Im.Bl.new w #[.slice a n cap] 30
 have z1 : (w.alloc (.cells #[.slice a n cap] 30)).heap.size = w.heap.size + 1 := by simp
 have b1 := bw_alloc w (.cells #[.slice a n cap] 30)
 obtain ⟨W1, hW1⟩ : ∃ v, w.alloc (.cells #[.slice a n cap] 30) = v := ⟨_, rfl⟩
 rw [hW1] at g1 z1 b1
 have g2 := Im.Bl.new W1 #[.complex .f64 o0 o1, .float .f64 rr] 36
 have z2 : (W1.alloc (.cells #[.complex .f64 o0 o1, .float .f64 rr] 36)).heap.size = w.heap.size + 1 + 1 := by simp [z1]
 have b2 := bw_alloc W1 (.cells #[.complex .f64 o0 o1, .float .f64 rr] 36)
 obtain ⟨W2, hW2⟩ : ∃ v, W1.alloc (.cells #[.complex .f64 o0 o1, .float .f64 rr] 36) = v := ⟨_, rfl⟩
 rw [hW2] at g2 z2 b2
 have g3 := Im.Bl.new W2 #[.slice none 0 0] 30
 have z3 : (W2.alloc (.cells #[.slice none 0 0] 30)).heap.size = w.heap.size + 1 + 1 + 1 := by simp [z2]
 have b3 := bw_alloc W2 (.cells #[.slice none 0 0] 30)
 obtain ⟨W3, hW3⟩ : ∃ v, W2.alloc (.cells #[.slice none 0 0] 30) = v := ⟨_, rfl⟩
 rw [hW3] at g3 z3 b3
 have GG : Hid (Im.Bl W3 (w.heap.size) [.slice a n cap] ∧ Im.Bl W3 (w.heap.size + 1) [.complex .f64 o0 o1, .float .f64 rr] ∧ Im.Bl W3 (w.heap.size + 1 + 1) [.slice none 0 0] ∧ Bw w W3) := ⟨(show Im.Bl _ (w.heap.size) _ from g1).bw (bw_trans b2 b3), (show Im.Bl _ (w.heap.size + 1) _ from z1 ▸ g2).bw b3, (show Im.Bl _ (w.heap.size + 1 + 1) _ from z2 ▸ g3), (bw_trans b1 (bw_trans b2 b3))⟩
 have HW := hide (And.intro hW1 (And.intro hW2 (hW3)))
 clear g1 b1 z1 hW1 g2 b2 z2 hW2 g3 b3 z3 hW3
 go_enter Tryz.func7, Tryz.ntmps7
 go_wp2_with fail
 rw [HW.out.1, HW.out.2.1, HW.out.2.2]
 obtain ⟨A, hA⟩ : ∃ A, w.heap.size = A := ⟨_, rfl⟩
 rw [hA] at GG ⊢
 have HA := hide hA
 refine (CK.out _ GG.out.2.2.2).mono ?_
 rintro e' w4 ⟨rfl, bb⟩
 have G4 : Hid (Im.Bl w4 (A) [.slice a n cap] ∧ Im.Bl w4 (A + 1) [.complex .f64 o0 o1, .float .f64 rr] ∧ Im.Bl w4 (A + 1 + 1) [.slice none 0 0] ∧ Bw w w4) := ⟨GG.out.1.bw bb, GG.out.2.1.bw bb, GG.out.2.2.1.bw bb, bw_trans GG.out.2.2.2 bb⟩
 have k00 := G4.out.1.c 0 _ rfl
 have k10 := G4.out.2.1.c 0 _ rfl
 have k11 := G4.out.2.1.c 1 _ rfl
 have k20 := G4.out.2.2.1.c 0 _ rfl
 clear bb GG
 go_wp2_with fail
 refine (MB.out _).mono ?_
 rintro e' w5 ⟨rfl, bb⟩
 have G5 : Hid (Im.Bl w5 (A) [.slice a n cap] ∧ Im.Bl w5 (A + 1) [.complex .f64 o0 o1, .float .f64 rr] ∧ Im.Bl w5 (A + 1 + 1) [.slice none 0 0] ∧ Bw w w5) := ⟨G4.out.1.bw bb, G4.out.2.1.bw bb, G4.out.2.2.1.bw bb, bw_trans G4.out.2.2.2 bb⟩
 clear bb k00 k10 k11 k20 G4
 have k00 := G5.out.1.c 0 _ rfl
 have k10 := G5.out.2.1.c 0 _ rfl
 have k11 := G5.out.2.1.c 1 _ rfl
 have k20 := G5.out.2.2.1.c 0 _ rfl
 have z0 := G5.out.2.2.1.fz 0
 have FIN : Hid (∀ V, V = w5.setCell ⟨A + 1 + 1, 0, none⟩ (.slice none 0 0) → V.cell? ⟨A + 1 + 1, 0, none⟩ = some (.slice none 0 0) ∧ Bw w V) := by
  rintro V rfl
  exact ⟨Ff.set_any k20, Below.setCell G5.out.2.2.2 (by show _ ≤ A + 1 + 1; have := HA.out; omega) _⟩
 go_wp2
 obtain ⟨f0, f2⟩ := FIN.out _ rfl
 refine bodyPost_ret (Im.res_flow rfl _ _ (A + 1 + 1) rfl f0) rfl ?_
 exact ⟨rfl, f2⟩
namespace Im
def PW (e o : Re) (l : List Re) : Prop := (e.k = 2 ∧ o = e ∧ l = [imgW e]) ∨ (e.k = 1 ∧ l = [])
def PC (e o : Re) (l : List Re) : Prop := l.length = if e.k = 2 then 2 else 1
theorem Me.mono {bt : TypeId} {bv : Value} {P Q : Re → Re → List Re → Prop} {e : Re} (h : Me bt bv P e) (k : ∀ o l, P e o l → Q e o l) : Me bt bv Q e := by
 obtain ⟨nm, F, i, h1, h2, h3, h4⟩ := h
 refine ⟨nm, F, i, h1, h2, h3, fun w => (h4 w).mono fun r w' ⟨o, l, a, c, g1, g2, g3⟩ => ⟨o, l, a, c, g1, k o l g2, g3⟩⟩
theorem find2 {k : Int} (h : k = 2) : Instr.findNow (.int .u8) (.int .u8 k) KE.toList 0 = some (some (1, .func (.methodOf 66 "eddy/image.source") #[] #[])) := by rw [h]; rfl
theorem find1 {k : Int} (h : k = 1) : Instr.findNow (.int .u8) (.int .u8 k) KE.toList 0 = some (some (0, .func (.methodOf 66 "eddy/image.stream") #[] #[])) := by rw [h]; rfl
end Im
theorem me_wsrc {e : Im.Re} (hk : e.k = 2) (CJ : ∀ wz, Calls Tryz.prog 43 #[.complex .f64 e.s e.t] wz fun r w' => r = .returned (.complex .f64 e.s (Im.flip e.t)) ∧ Bw wz w')
  (AC : ∀ wz, Calls Tryz.prog 26 #[Im.wallV, .complex .f64 e.a e.b] wz fun r w' => r = .returned (.complex .f64 e.a (Im.flip e.b)) ∧ Bw wz w')
  (AB : ∀ wz, Calls Tryz.prog 108 #[Im.wallV, .complex .f64 e.a e.b] wz fun r w' => r = .returned (.bool true) ∧ Bw wz w') : Im.Me 47 Im.wallV Im.PW e := by
 refine ⟨"eddy/image.source", 102, 1, Im.find2 hk, fun w => by kernel_rfl, fun x y w => by kernel_rfl, fun w => ?_⟩
 refine (wsourceI (k := e.k) (p := e.p) w (hide CJ) (hide AC) (hide AB)).mono ?_
 rintro r w' ⟨B, rfl, hB, gB, bb⟩
 exact ⟨e, [Im.imgW e], some ⟨B, 0, none⟩, 1, rfl, Or.inl ⟨hk, rfl, rfl⟩, Or.inr ⟨B, rfl, hB, gB.lt, fun j u hu => gB.c j u hu⟩, bb⟩
theorem me_wstr {e : Im.Re} {c0 c1 m0 m1 s' t' : Nat} (hk : e.k = 1) (CJ : ∀ wz, Calls Tryz.prog 43 #[.complex .f64 4607182418800017408 0] wz fun r w' => r = .returned (.complex .f64 c0 c1) ∧ Bw wz w')
  (MU : ∀ wz, Calls Tryz.prog 21 #[.complex .f64 e.s e.t, .complex .f64 4607182418800017408 0] wz fun r w' => r = .returned (.complex .f64 m0 m1) ∧ Bw wz w')
  (SC : ∀ wz, Calls Tryz.prog 106 #[.complex .f64 c0 c1, .float .f64 m0] wz fun r w' => r = .returned (.complex .f64 s' t') ∧ Bw wz w') : Im.Me 47 Im.wallV Im.PW e := by
 refine ⟨"eddy/image.stream", 103, 0, Im.find1 hk, fun w => by kernel_rfl, fun x y w => by kernel_rfl, fun w => ?_⟩
 refine (wstreamI (k := e.k) (a := e.a) (b := e.b) (p := e.p) (u0 := 0) (u1 := 0) w (hide CJ) (hide MU) (hide SC)).mono ?_
 rintro r w' ⟨rfl, bb⟩
 exact ⟨⟨e.k, e.a, e.b, s', t', e.p⟩, [], none, 0, rfl, Or.inr ⟨hk, rfl⟩, Or.inl ⟨rfl, rfl, rfl⟩, bb⟩
theorem me_csrc {e : Im.Re} {rr x y s' t' n0 n1 : Nat} (hk : e.k = 2) (CJ : ∀ wz, Calls Tryz.prog 43 #[.complex .f64 e.s e.t] wz fun r w' => r = .returned (.complex .f64 s' t') ∧ Bw wz w')
  (PL : ∀ wz, Calls Tryz.prog 25 #[Im.circV rr, .complex .f64 e.a e.b] wz fun r w' => r = .returned (.complex .f64 x y) ∧ Bw wz w')
  (NG : ∀ wz, Calls Tryz.prog 115 #[.complex .f64 s' t'] wz fun r w' => r = .returned (.complex .f64 n0 n1) ∧ Bw wz w')
  (IO : ∀ wz, Calls Tryz.prog 114 #[Im.circV rr, .complex .f64 e.a e.b] wz fun r w' => r = .returned (.bool true) ∧ Bw wz w') : Im.Me 53 (Im.circV rr) (fun e o l => o = e ∧ l = [⟨2, x, y, s', t', 0⟩, ⟨2, 0, 0, n0, n1, 0⟩]) e := by
 refine ⟨"eddy/image.source", 112, 1, Im.find2 hk, fun w => by kernel_rfl, fun x y w => by kernel_rfl, fun w => ?_⟩
 refine (csourceI (k := e.k) (p := e.p) (o0 := 0) (o1 := 0) w (hide CJ) (hide PL) (hide NG) (hide IO)).mono ?_
 rintro r w' ⟨B, rfl, hB, gB, bb⟩
 exact ⟨e, [⟨2, x, y, s', t', 0⟩, ⟨2, 0, 0, n0, n1, 0⟩], some ⟨B, 0, none⟩, 2, rfl, ⟨rfl, rfl⟩, Or.inr ⟨B, rfl, hB, gB.lt, fun j u hu => gB.c j u hu⟩, bb⟩
theorem me_cstr {e : Im.Re} {rr c0 c1 sq s' t' : Nat} (hk : e.k = 1) (CJ : ∀ wz, Calls Tryz.prog 43 #[.complex .f64 e.s e.t] wz fun r w' => r = .returned (.complex .f64 c0 c1) ∧ Bw wz w')
  (SQ : ∀ wz, Calls Tryz.prog 58 #[Im.circV rr] wz fun r w' => r = .returned (.float .f64 sq) ∧ Bw wz w')
  (SC : ∀ wz, Calls Tryz.prog 106 #[.complex .f64 c0 c1, .float .f64 sq] wz fun r w' => r = .returned (.complex .f64 s' t') ∧ Bw wz w') : Im.Me 53 (Im.circV rr) Im.PC e := by
 refine ⟨"eddy/image.stream", 113, 0, Im.find1 hk, fun w => by kernel_rfl, fun x y w => by kernel_rfl, fun w => ?_⟩
 refine (cstreamI (k := e.k) (a := e.a) (b := e.b) (p := e.p) (o0 := 0) (o1 := 0) w (hide CJ) (hide SQ) (hide SC)).mono ?_
 rintro r w' ⟨B, rfl, hB, gB, bb⟩
 exact ⟨e, [⟨3, 0, 0, s', t', 4607182418800017408⟩], some ⟨B, 0, none⟩, 1, rfl, by unfold Im.PC; rw [hk]; rfl, Or.inr ⟨B, rfl, hB, gB.lt, fun j u hu => gB.c j u hu⟩, bb⟩
theorem imof_any (x y : Nat) (w : World) : Calls Tryz.prog 5 #[.float .f64 x, .float .f64 y] w fun e w' => e = .returned (.complex .f64 x y) ∧ w' = w := by
 go_enter Tryz.func5, Tryz.ntmps5
 go_wp2
 go_ret
 exact ⟨rfl, rfl⟩
theorem Im.res_one {fn : Func} {i : Tmp} (hr : fn.results = #[.cell i 30]) (tmps : Array Value) (w : World) (B : Nat) {x : Value} (hi : tmps.getD i undef = .pointer (some ⟨B, 0, none⟩)) (h0 : w.cell? ⟨B, 0, none⟩ = some x) : (results fn tmps).run Tryz.prog w = .ok (.agg #[x]) w := by
 simp only [results, hr]
 have h2 : (asAddr (tmps.getD i undef)).run Tryz.prog w = .ok ⟨B, 0, none⟩ w := by rw [hi]; rfl
 simp [Sem.run_bind, Result.andThen, -Array.getD_eq_getD_getElem?, h2, Im.flow_load h0]
theorem source_c (x y q g : Nat) (w : World) : Calls Tryz.prog 9 #[.float .f64 x, .float .f64 y, .float .f64 q, .float .f64 g] w fun e w' => ∃ B, e = .returned (.agg #[.slice (some ⟨B, 0, none⟩) 1 1]) ∧ Im.Rs w' (some ⟨B, 0, none⟩) [⟨2, x, y, q, g, 0⟩] ∧ Bw w w' := by
 have bA := bw_alloc w (.cells #[.slice (some ⟨w.heap.size + 1, 0, none⟩) 1 1] 30)
 have gA := Im.Bl.new w #[.slice (some ⟨w.heap.size + 1, 0, none⟩) 1 1] 30
 have sA : (w.alloc (.cells #[.slice (some ⟨w.heap.size + 1, 0, none⟩) 1 1] 30)).heap.size = w.heap.size + 1 := by simp
 have bB := bw_alloc (w.alloc (.cells #[.slice (some ⟨w.heap.size + 1, 0, none⟩) 1 1] 30)) (.cells #[.int .u8 2, .complex .f64 x y, .complex .f64 q g, .float .f64 0] 28)
 have gB := Im.Bl.new (w.alloc (.cells #[.slice (some ⟨w.heap.size + 1, 0, none⟩) 1 1] 30)) #[.int .u8 2, .complex .f64 x y, .complex .f64 q g, .float .f64 0] 28
 rw [sA] at gB
 have x0 := hide ((gA.bw bB).c 0 _ rfl)
 have FIN : Hid (Im.Rs ((w.alloc (.cells #[.slice (some ⟨w.heap.size + 1, 0, none⟩) 1 1] 30)).alloc (.cells #[.int .u8 2, .complex .f64 x y, .complex .f64 q g, .float .f64 0] 28)) (some ⟨w.heap.size + 1, 0, none⟩) [⟨2, x, y, q, g, 0⟩] ∧ Bw w ((w.alloc (.cells #[.slice (some ⟨w.heap.size + 1, 0, none⟩) 1 1] 30)).alloc (.cells #[.int .u8 2, .complex .f64 x y, .complex .f64 q g, .float .f64 0] 28))) := by
  refine ⟨Or.inr ⟨_, _, rfl, gB.lt, fun i e he => ?_⟩, bw_trans bA bB⟩
  match i, he with
  | 0, he => cases he; exact ⟨gB.c 0 _ rfl, gB.c 1 _ rfl, gB.c 2 _ rfl, gB.c 3 _ rfl⟩
 clear bA gA sA bB gB
 go_enter Tryz.func9, Tryz.ntmps9
 go_wp2_with fail
 refine (imof_any _ _ _).mono ?_
 rintro e' w1 ⟨rfl, hw⟩
 subst hw
 go_wp2_with fail
 refine (imof_any _ _ _).mono ?_
 rintro e' w1 ⟨rfl, hw⟩
 subst hw
 go_wp2
 refine bodyPost_ret (Im.res_one rfl _ _ w.heap.size rfl x0.out) rfl ?_
 exact ⟨_, rfl, FIN.out.1, FIN.out.2⟩
end Go.Proofs.YtnjkdfhhlcoaaaaGreat

/-
 OWN TEXT: package image: closed calls, by evaluation: elements that may be.
-/
namespace Go.Proofs.YtnjkdfhhlcoaaaaGreat
open Go.ChangeShapes Go.WideShapes Go.ChangeAt Go.RowKit
set_option linter.unusedVariables false
theorem ck_src (i : Nat) (hi : i < 128) : Im.Ck (Im.src i) := fun w =>
 all_ev 128 (fun i => [Im.rv (Im.src i)]) (fun i => .int .i64 0) (by decide +kernel) i hi w
theorem ck_img (i : Nat) (hi : i < 128) : Im.Ck (Im.imgW (Im.src i)) := fun w =>
 all_ev 128 (fun i => [Im.rv (Im.imgW (Im.src i))]) (fun i => .int .i64 0) (by decide +kernel) i hi w
end Go.Proofs.YtnjkdfhhlcoaaaaGreat

/-
 OWN TEXT: package image: closed calls, by evaluation: a circle's.
-/
namespace Go.Proofs.YtnjkdfhhlcoaaaaGreat
open Go.ChangeShapes Go.WideShapes Go.ChangeAt Go.RowKit
set_option linter.unusedVariables false
theorem all_cx {f : FuncId} (n : Nat) (args : Nat → List Value)
  (h : ((List.range n).all fun i => (args i).all flat && ((xcall Tryz.prog exF kpF hsF 100000 40 f (args i) ⟨roTab.length, m0⟩ (fun v M => some (v, M)) (fun _ _ => none)).any fun x => match x.1 with | .complex .f64 _ _ => true | _ => false)) = true) : ∀ i, i < n → ∃ x y, ∀ w, Calls Tryz.prog f ⟨args i⟩ w fun r w' => r = .returned (.complex .f64 x y) ∧ Bw w w' := by
 intro i hi
 have k := List.all_eq_true.1 h i (by simpa using hi)
 simp only [Bool.and_eq_true] at k
 obtain ⟨k1, k2⟩ := k
 cases hX : xcall Tryz.prog exF kpF hsF 100000 40 f (args i) ⟨roTab.length, m0⟩ (fun v M => some (v, M)) (fun _ _ => none) with
 | none => rw [hX] at k2; simp at k2
 | some X =>
  rw [hX] at k2
  simp only [Option.any_some] at k2
  split at k2
  ·
   rename_i x y hq
   exact ⟨x, y, fun w => xevaluated exF_ok plainX mixedX (by decide) kpF hsF 100000 40 k1 rfl (by rw [hX]; simp [hq, eq3, eq2, eq1]) w (fun g l h => by cases h) (fun g l h => by cases h)⟩
  · cases k2
theorem c_place (i : Nat) (hi : i < 128) : ∃ x y, ∀ w, Calls Tryz.prog 25 #[Im.circV 4607182418800017408, .complex .f64 (Im.src i).a (Im.src i).b] w fun r w' => r = .returned (.complex .f64 x y) ∧ Bw w w' :=
 all_cx 128 (fun i => [Im.circV 4607182418800017408, .complex .f64 (Im.src i).a (Im.src i).b]) (by decide +kernel) i hi
theorem c_outside (i : Nat) (hi : i < 128) (w : World) : Calls Tryz.prog 114 #[Im.circV 4607182418800017408, .complex .f64 (Im.src i).a (Im.src i).b] w fun r w' => r = .returned (.bool true) ∧ Bw w w' :=
 all_ev 128 (fun i => [Im.circV 4607182418800017408, .complex .f64 (Im.src i).a (Im.src i).b]) (fun i => .bool true) (by decide +kernel) i hi w
end Go.Proofs.YtnjkdfhhlcoaaaaGreat

/-
 OWN TEXT: package image: closed calls, by evaluation: what the test of life and the law's own lines ask (typed by iml.py).
-/
namespace Go.Proofs.YtnjkdfhhlcoaaaaGreat
open Go.ChangeShapes Go.WideShapes Go.ChangeAt Go.RowKit
set_option linter.unusedVariables false
namespace Im
theorem ev1 {f : FuncId} (args : List Value) (v : Value) (h : (args.all flat && flat v && ((xcall Tryz.prog exF kpF hsF 100000 40 f args ⟨roTab.length, m0⟩ (fun v M => some (v, M)) (fun _ _ => none)).any fun x => eq3 v x.1)) = true) (w : World) : Calls Tryz.prog f ⟨args⟩ w fun x w' => x = .returned v ∧ Bw w w' := by
 simp only [Bool.and_eq_true] at h
 exact xevaluated exF_ok plainX mixedX (by decide) kpF hsF 100000 40 h.1.1 h.1.2 h.2 w (fun g l h => by cases h) (fun g l h => by cases h)
theorem a_along (w : World) : Calls Tryz.prog 14 #[.complex .f64 0 0, .complex .f64 4607182418800017408 0] w fun r w' => r = .returned (.tuple #[.agg #[.complex .f64 0 0, .complex .f64 4607182418800017408 0], .int .i64 0]) ∧ Bw w w' := ev1 [.complex .f64 0 0, .complex .f64 4607182418800017408 0] (.tuple #[.agg #[.complex .f64 0 0, .complex .f64 4607182418800017408 0], .int .i64 0]) (by decide +kernel) w
theorem a_conj (w : World) : Calls Tryz.prog 43 #[.complex .f64 4607182418800017408 13837309855095848960] w fun r w' => r = .returned (.complex .f64 4607182418800017408 4613937818241073152) ∧ Bw w w' := ev1 [.complex .f64 4607182418800017408 13837309855095848960] (.complex .f64 4607182418800017408 4613937818241073152) (by decide +kernel) w
theorem a_across (w : World) : Calls Tryz.prog 26 #[.agg #[.complex .f64 0 0, .complex .f64 4607182418800017408 0], .complex .f64 0 4611686018427387904] w fun r w' => r = .returned (.complex .f64 0 13835058055282163712) ∧ Bw w w' := ev1 [.agg #[.complex .f64 0 0, .complex .f64 4607182418800017408 0], .complex .f64 0 4611686018427387904] (.complex .f64 0 13835058055282163712) (by decide +kernel) w
theorem a_above (w : World) : Calls Tryz.prog 108 #[.agg #[.complex .f64 0 0, .complex .f64 4607182418800017408 0], .complex .f64 0 4611686018427387904] w fun r w' => r = .returned (.bool true) ∧ Bw w w' := ev1 [.agg #[.complex .f64 0 0, .complex .f64 4607182418800017408 0], .complex .f64 0 4611686018427387904] (.bool true) (by decide +kernel) w
theorem a_conj4 (w : World) : Calls Tryz.prog 43 #[.complex .f64 4607182418800017408 4607182418800017408] w fun r w' => r = .returned (.complex .f64 4607182418800017408 13830554455654793216) ∧ Bw w w' := ev1 [.complex .f64 4607182418800017408 4607182418800017408] (.complex .f64 4607182418800017408 13830554455654793216) (by decide +kernel) w
theorem a_place (w : World) : Calls Tryz.prog 25 #[.agg #[.complex .f64 0 0, .float .f64 4611686018427387904], .complex .f64 4616189618054758400 0] w fun r w' => r = .returned (.complex .f64 4607182418800017408 0) ∧ Bw w w' := ev1 [.agg #[.complex .f64 0 0, .float .f64 4611686018427387904], .complex .f64 4616189618054758400 0] (.complex .f64 4607182418800017408 0) (by decide +kernel) w
theorem a_neg (w : World) : Calls Tryz.prog 115 #[.complex .f64 4607182418800017408 13830554455654793216] w fun r w' => r = .returned (.complex .f64 13830554455654793216 4607182418800017408) ∧ Bw w w' := ev1 [.complex .f64 4607182418800017408 13830554455654793216] (.complex .f64 13830554455654793216 4607182418800017408) (by decide +kernel) w
theorem a_out (w : World) : Calls Tryz.prog 114 #[.agg #[.complex .f64 0 0, .float .f64 4611686018427387904], .complex .f64 4616189618054758400 0] w fun r w' => r = .returned (.bool true) ∧ Bw w w' := ev1 [.agg #[.complex .f64 0 0, .float .f64 4611686018427387904], .complex .f64 4616189618054758400 0] (.bool true) (by decide +kernel) w
theorem a_may (w : World) : Calls Tryz.prog 16 #[.agg #[.complex .f64 0 0, .float .f64 4611686018427387904]] w fun r w' => r = .returned (.bool true) ∧ Bw w w' := ev1 [.agg #[.complex .f64 0 0, .float .f64 4611686018427387904]] (.bool true) (by decide +kernel) w
theorem a_notabove (w : World) : Calls Tryz.prog 108 #[.agg #[.complex .f64 0 0, .complex .f64 4607182418800017408 0], .complex .f64 0 13830554455654793216] w fun r w' => r = .returned (.bool false) ∧ Bw w w' := ev1 [.agg #[.complex .f64 0 0, .complex .f64 4607182418800017408 0], .complex .f64 0 13830554455654793216] (.bool false) (by decide +kernel) w
theorem a_conjb (w : World) : Calls Tryz.prog 43 #[.complex .f64 4607182418800017408 0] w fun r w' => r = .returned (.complex .f64 4607182418800017408 9223372036854775808) ∧ Bw w w' := ev1 [.complex .f64 4607182418800017408 0] (.complex .f64 4607182418800017408 9223372036854775808) (by decide +kernel) w
theorem a_acrossb (w : World) : Calls Tryz.prog 26 #[.agg #[.complex .f64 0 0, .complex .f64 4607182418800017408 0], .complex .f64 0 13830554455654793216] w fun r w' => r = .returned (.complex .f64 0 4607182418800017408) ∧ Bw w w' := ev1 [.agg #[.complex .f64 0 0, .complex .f64 4607182418800017408 0], .complex .f64 0 13830554455654793216] (.complex .f64 0 4607182418800017408) (by decide +kernel) w
theorem a_Place (w : World) : Calls Tryz.prog 10 #[.agg #[.complex .f64 4607182418800017408 0, .float .f64 4611686018427387904], .complex .f64 4617315517961601024 0] w fun r w' => r = .returned (.tuple #[.complex .f64 4611686018427387904 0, .int .i64 0]) ∧ Bw w w' := ev1 [.agg #[.complex .f64 4607182418800017408 0, .float .f64 4611686018427387904], .complex .f64 4617315517961601024 0] (.tuple #[.complex .f64 4611686018427387904 0, .int .i64 0]) (by decide +kernel) w
theorem a_Across (w : World) : Calls Tryz.prog 11 #[.complex .f64 0 0, .complex .f64 4607182418800017408 0, .complex .f64 4607182418800017408 4611686018427387904] w fun r w' => r = .returned (.tuple #[.complex .f64 4607182418800017408 13835058055282163712, .int .i64 0]) ∧ Bw w w' := ev1 [.complex .f64 0 0, .complex .f64 4607182418800017408 0, .complex .f64 4607182418800017408 4611686018427387904] (.tuple #[.complex .f64 4607182418800017408 13835058055282163712, .int .i64 0]) (by decide +kernel) w
theorem a_speed (w : World) : Calls Tryz.prog 50 #[.agg #[.int .u8 1, .complex .f64 0 0, .complex .f64 0 13830554455654793216, .float .f64 0], .complex .f64 0 0] w fun r w' => r = .returned (.tuple #[.complex .f64 0 13830554455654793216, .int .i64 0]) ∧ Bw w w' := ev1 [.agg #[.int .u8 1, .complex .f64 0 0, .complex .f64 0 13830554455654793216, .float .f64 0], .complex .f64 0 0] (.tuple #[.complex .f64 0 13830554455654793216, .int .i64 0]) (by decide +kernel) w
theorem a_abs (w : World) : Calls Tryz.prog 20 #[.float .f64 13830554455654793216] w fun r w' => r = .returned (.float .f64 4607182418800017408) ∧ Bw w w' := ev1 [.float .f64 13830554455654793216] (.float .f64 4607182418800017408) (by decide +kernel) w
theorem a_max (w : World) : Calls Tryz.prog 19 #[.float .f64 0, .float .f64 4607182418800017408] w fun r w' => r = .returned (.float .f64 4607182418800017408) ∧ Bw w w' := ev1 [.float .f64 0, .float .f64 4607182418800017408] (.float .f64 4607182418800017408) (by decide +kernel) w
theorem a_max1 (w : World) : Calls Tryz.prog 19 #[.float .f64 4607182418800017408, .float .f64 4607182418800017408] w fun r w' => r = .returned (.float .f64 4607182418800017408) ∧ Bw w w' := ev1 [.float .f64 4607182418800017408, .float .f64 4607182418800017408] (.float .f64 4607182418800017408) (by decide +kernel) w
theorem a_fin (w : World) : Calls Tryz.prog 22 #[.complex .f64 4607182418800017408 0] w fun r w' => r = .returned (.bool true) ∧ Bw w w' := ev1 [.complex .f64 4607182418800017408 0] (.bool true) (by decide +kernel) w
theorem l_1 (w : World) : Calls Tryz.prog 12 #[.complex .f64 0 13835058055282163712, .complex .f64 0 13835058055282163712] w fun r w' => r = .returned (.bool true) ∧ Bw w w' := ev1 [.complex .f64 0 13835058055282163712, .complex .f64 0 13835058055282163712] (.bool true) (by decide +kernel) w
theorem l_2 (w : World) : Calls Tryz.prog 12 #[.complex .f64 4607182418800017408 4613937818241073152, .complex .f64 4607182418800017408 4613937818241073152] w fun r w' => r = .returned (.bool true) ∧ Bw w w' := ev1 [.complex .f64 4607182418800017408 4613937818241073152, .complex .f64 4607182418800017408 4613937818241073152] (.bool true) (by decide +kernel) w
theorem l_3 (w : World) : Calls Tryz.prog 12 #[.complex .f64 4607182418800017408 0, .complex .f64 4607182418800017408 0] w fun r w' => r = .returned (.bool true) ∧ Bw w w' := ev1 [.complex .f64 4607182418800017408 0, .complex .f64 4607182418800017408 0] (.bool true) (by decide +kernel) w
theorem l_4 (w : World) : Calls Tryz.prog 12 #[.complex .f64 4607182418800017408 13830554455654793216, .complex .f64 4607182418800017408 13830554455654793216] w fun r w' => r = .returned (.bool true) ∧ Bw w w' := ev1 [.complex .f64 4607182418800017408 13830554455654793216, .complex .f64 4607182418800017408 13830554455654793216] (.bool true) (by decide +kernel) w
theorem l_5 (w : World) : Calls Tryz.prog 12 #[.complex .f64 13830554455654793216 4607182418800017408, .complex .f64 13830554455654793216 4607182418800017408] w fun r w' => r = .returned (.bool true) ∧ Bw w w' := ev1 [.complex .f64 13830554455654793216 4607182418800017408, .complex .f64 13830554455654793216 4607182418800017408] (.bool true) (by decide +kernel) w
theorem l_6 (w : World) : Calls Tryz.prog 12 #[.complex .f64 4611686018427387904 0, .complex .f64 4611686018427387904 0] w fun r w' => r = .returned (.bool true) ∧ Bw w w' := ev1 [.complex .f64 4611686018427387904 0, .complex .f64 4611686018427387904 0] (.bool true) (by decide +kernel) w
theorem l_7 (w : World) : Calls Tryz.prog 12 #[.complex .f64 4607182418800017408 13835058055282163712, .complex .f64 4607182418800017408 13835058055282163712] w fun r w' => r = .returned (.bool true) ∧ Bw w w' := ev1 [.complex .f64 4607182418800017408 13835058055282163712, .complex .f64 4607182418800017408 13835058055282163712] (.bool true) (by decide +kernel) w
theorem b_across (w : World) : Calls Tryz.prog 26 #[.agg #[.complex .f64 0 0, .complex .f64 4607182418800017408 0], .complex .f64 0 4617315517961601024] w fun r w' => r = .returned (.complex .f64 0 13840687554816376832) ∧ Bw w w' := ev1 [.agg #[.complex .f64 0 0, .complex .f64 4607182418800017408 0], .complex .f64 0 4617315517961601024] (.complex .f64 0 13840687554816376832) (by decide +kernel) w
theorem b_above (w : World) : Calls Tryz.prog 108 #[.agg #[.complex .f64 0 0, .complex .f64 4607182418800017408 0], .complex .f64 0 4617315517961601024] w fun r w' => r = .returned (.bool true) ∧ Bw w w' := ev1 [.agg #[.complex .f64 0 0, .complex .f64 4607182418800017408 0], .complex .f64 0 4617315517961601024] (.bool true) (by decide +kernel) w
theorem b_conj (w : World) : Calls Tryz.prog 43 #[.complex .f64 0 0] w fun r w' => r = .returned (.complex .f64 0 9223372036854775808) ∧ Bw w w' := ev1 [.complex .f64 0 0] (.complex .f64 0 9223372036854775808) (by decide +kernel) w
theorem b_neg (w : World) : Calls Tryz.prog 115 #[.complex .f64 4607182418800017408 9223372036854775808] w fun r w' => r = .returned (.complex .f64 13830554455654793216 0) ∧ Bw w w' := ev1 [.complex .f64 4607182418800017408 9223372036854775808] (.complex .f64 13830554455654793216 0) (by decide +kernel) w
theorem b_may (w : World) : Calls Tryz.prog 16 #[.agg #[.complex .f64 0 0, .float .f64 4607182418800017408]] w fun r w' => r = .returned (.bool true) ∧ Bw w w' := ev1 [.agg #[.complex .f64 0 0, .float .f64 4607182418800017408]] (.bool true) (by decide +kernel) w
theorem b_square (w : World) : Calls Tryz.prog 58 #[.agg #[.complex .f64 0 0, .float .f64 4607182418800017408]] w fun r w' => r = .returned (.float .f64 4607182418800017408) ∧ Bw w w' := ev1 [.agg #[.complex .f64 0 0, .float .f64 4607182418800017408]] (.float .f64 4607182418800017408) (by decide +kernel) w
theorem b_on (w : World) : Calls Tryz.prog 108 #[.agg #[.complex .f64 0 0, .complex .f64 4607182418800017408 0], .complex .f64 4613937818241073152 0] w fun r w' => r = .returned (.bool false) ∧ Bw w w' := ev1 [.agg #[.complex .f64 0 0, .complex .f64 4607182418800017408 0], .complex .f64 4613937818241073152 0] (.bool false) (by decide +kernel) w
theorem b_onc (w : World) : Calls Tryz.prog 114 #[.agg #[.complex .f64 0 0, .float .f64 4613937818241073152], .complex .f64 4613937818241073152 0] w fun r w' => r = .returned (.bool false) ∧ Bw w w' := ev1 [.agg #[.complex .f64 0 0, .float .f64 4613937818241073152], .complex .f64 4613937818241073152 0] (.bool false) (by decide +kernel) w
theorem b_may3 (w : World) : Calls Tryz.prog 16 #[.agg #[.complex .f64 0 0, .float .f64 4613937818241073152]] w fun r w' => r = .returned (.bool true) ∧ Bw w w' := ev1 [.agg #[.complex .f64 0 0, .float .f64 4613937818241073152]] (.bool true) (by decide +kernel) w
theorem b_maynot (w : World) : Calls Tryz.prog 16 #[.agg #[.complex .f64 0 0, .float .f64 4422534834077827072]] w fun r w' => r = .returned (.bool false) ∧ Bw w w' := ev1 [.agg #[.complex .f64 0 0, .float .f64 4422534834077827072]] (.bool false) (by decide +kernel) w
theorem b_speed (w : World) : Calls Tryz.prog 18 #[.agg #[.slice none 0 0], .complex .f64 0 0] w fun r w' => r = .returned (.tuple #[.complex .f64 0 0, .int .i64 0]) ∧ Bw w w' := ev1 [.agg #[.slice none 0 0], .complex .f64 0 0] (.tuple #[.complex .f64 0 0, .int .i64 0]) (by decide +kernel) w
theorem b_fin (w : World) : Calls Tryz.prog 22 #[.complex .f64 0 0] w fun r w' => r = .returned (.bool true) ∧ Bw w w' := ev1 [.complex .f64 0 0] (.bool true) (by decide +kernel) w
theorem b_abs (w : World) : Calls Tryz.prog 20 #[.float .f64 0] w fun r w' => r = .returned (.float .f64 0) ∧ Bw w w' := ev1 [.float .f64 0] (.float .f64 0) (by decide +kernel) w
theorem b_mul (w : World) : Calls Tryz.prog 21 #[.complex .f64 0 0, .complex .f64 4607182418800017408 0] w fun r w' => r = .returned (.complex .f64 0 0) ∧ Bw w w' := ev1 [.complex .f64 0 0, .complex .f64 4607182418800017408 0] (.complex .f64 0 0) (by decide +kernel) w
theorem a_mul (w : World) : Calls Tryz.prog 21 #[.complex .f64 0 13830554455654793216, .complex .f64 4607182418800017408 0] w fun r w' => r = .returned (.complex .f64 0 13830554455654793216) ∧ Bw w w' := ev1 [.complex .f64 0 13830554455654793216, .complex .f64 4607182418800017408 0] (.complex .f64 0 13830554455654793216) (by decide +kernel) w
theorem b_max (w : World) : Calls Tryz.prog 19 #[.float .f64 0, .float .f64 0] w fun r w' => r = .returned (.float .f64 0) ∧ Bw w w' := ev1 [.float .f64 0, .float .f64 0] (.float .f64 0) (by decide +kernel) w
theorem ck_e0 : Ck ⟨2, 0, 4611686018427387904, 4607182418800017408, 13837309855095848960, 0⟩ := fun w => ev1 [.agg #[.int .u8 2, .complex .f64 0 4611686018427387904, .complex .f64 4607182418800017408 13837309855095848960, .float .f64 0]] (.int .i64 0) (by decide +kernel) w
theorem ck_i0 : Ck ⟨2, 0, 13835058055282163712, 4607182418800017408, 4613937818241073152, 0⟩ := fun w => ev1 [.agg #[.int .u8 2, .complex .f64 0 13835058055282163712, .complex .f64 4607182418800017408 4613937818241073152, .float .f64 0]] (.int .i64 0) (by decide +kernel) w
theorem ck_e4 : Ck ⟨2, 4616189618054758400, 0, 4607182418800017408, 4607182418800017408, 0⟩ := fun w => ev1 [.agg #[.int .u8 2, .complex .f64 4616189618054758400 0, .complex .f64 4607182418800017408 4607182418800017408, .float .f64 0]] (.int .i64 0) (by decide +kernel) w
theorem ck_c1 : Ck ⟨2, 4607182418800017408, 0, 4607182418800017408, 13830554455654793216, 0⟩ := fun w => ev1 [.agg #[.int .u8 2, .complex .f64 4607182418800017408 0, .complex .f64 4607182418800017408 13830554455654793216, .float .f64 0]] (.int .i64 0) (by decide +kernel) w
theorem ck_c2 : Ck ⟨2, 0, 0, 13830554455654793216, 4607182418800017408, 0⟩ := fun w => ev1 [.agg #[.int .u8 2, .complex .f64 0 0, .complex .f64 13830554455654793216 4607182418800017408, .float .f64 0]] (.int .i64 0) (by decide +kernel) w
theorem ck_eb : Ck ⟨2, 0, 13830554455654793216, 4607182418800017408, 0, 0⟩ := fun w => ev1 [.agg #[.int .u8 2, .complex .f64 0 13830554455654793216, .complex .f64 4607182418800017408 0, .float .f64 0]] (.int .i64 0) (by decide +kernel) w
theorem ck_st : Ck ⟨1, 0, 0, 0, 13830554455654793216, 0⟩ := fun w => ev1 [.agg #[.int .u8 1, .complex .f64 0 0, .complex .f64 0 13830554455654793216, .float .f64 0]] (.int .i64 0) (by decide +kernel) w
theorem ck_e128 : Ck ⟨2, 0, 4617315517961601024, 0, 0, 0⟩ := fun w => ev1 [.agg #[.int .u8 2, .complex .f64 0 4617315517961601024, .complex .f64 0 0, .float .f64 0]] (.int .i64 0) (by decide +kernel) w
theorem ck_s128 : Ck ⟨1, 0, 0, 0, 0, 0⟩ := fun w => ev1 [.agg #[.int .u8 1, .complex .f64 0 0, .complex .f64 0 0, .float .f64 0]] (.int .i64 0) (by decide +kernel) w
theorem ck_on : Ck ⟨2, 4613937818241073152, 0, 4607182418800017408, 0, 0⟩ := fun w => ev1 [.agg #[.int .u8 2, .complex .f64 4613937818241073152 0, .complex .f64 4607182418800017408 0, .float .f64 0]] (.int .i64 0) (by decide +kernel) w
theorem x_on : ∃ x y, ∀ w, Calls Tryz.prog 26 #[.agg #[.complex .f64 0 0, .complex .f64 4607182418800017408 0], .complex .f64 4613937818241073152 0] w fun r w' => r = .returned (.complex .f64 x y) ∧ Bw w w' := all_cx 1 (fun _ => [.agg #[.complex .f64 0 0, .complex .f64 4607182418800017408 0], .complex .f64 4613937818241073152 0]) (by decide +kernel) 0 (by decide)
theorem x_onc : ∃ x y, ∀ w, Calls Tryz.prog 25 #[.agg #[.complex .f64 0 0, .float .f64 4613937818241073152], .complex .f64 4613937818241073152 0] w fun r w' => r = .returned (.complex .f64 x y) ∧ Bw w w' := all_cx 1 (fun _ => [.agg #[.complex .f64 0 0, .float .f64 4613937818241073152], .complex .f64 4613937818241073152 0]) (by decide +kernel) 0 (by decide)
theorem x_scale : ∃ x y, ∀ w, Calls Tryz.prog 106 #[.complex .f64 4607182418800017408 9223372036854775808, .float .f64 0] w fun r w' => r = .returned (.complex .f64 x y) ∧ Bw w w' := all_cx 1 (fun _ => [.complex .f64 4607182418800017408 9223372036854775808, .float .f64 0]) (by decide +kernel) 0 (by decide)
theorem x_scale2 : ∃ x y, ∀ w, Calls Tryz.prog 106 #[.complex .f64 0 9223372036854775808, .float .f64 4607182418800017408] w fun r w' => r = .returned (.complex .f64 x y) ∧ Bw w w' := all_cx 1 (fun _ => [.complex .f64 0 9223372036854775808, .float .f64 4607182418800017408]) (by decide +kernel) 0 (by decide)
end Im
end Go.Proofs.YtnjkdfhhlcoaaaaGreat

