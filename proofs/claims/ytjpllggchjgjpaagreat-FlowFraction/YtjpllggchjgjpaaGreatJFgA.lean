/-
 OWN TEXT: the law FlowFraction.
-/
import Derived.Test.YtjpllggchjgjpaaGreatJFfYToFfZ
import Derived.Test.YtjpllggchjgjpaaGreatJFgBToFgC
namespace Go.Proofs.YtjpllggchjgjpaaGreat
open Go.ChangeShapes Go.WideShapes Go.ChangeAt Go.RowKit
set_option linter.unusedVariables false
set_option linter.unusedSimpArgs false
attribute [local go_sem] frombits_call tobits_call run_neg run_store_cx El.run_store_fl
namespace Ff
/-- what the ways through a region have in common -/
theorem join {P : Program} {Q : Exit → Act → World → Prop} {id : Nat} {ops : Array Oper} {draw : Bool} {a : Act} {w : World} {K : Act → World → Prop} (A : Nat → Act) (F : Nat → World → Prop)
  (way : ∀ K' : Act → World → Prop, Hid (∀ C W, F C W → K' (A C) W) → (Code.region id ops draw).wp P (Exit.then K' Q) a w) (rest : ∀ C W, F C W → K (A C) W) : (Code.region id ops draw).wp P (Exit.then K Q) a w := way K rest
/-- what stands behind k elements -/
structure Lo (W1 wr : World) (F k : Nat) (z : Py.G) (es : List Fe) (vE : Value) : Prop where
 ok : ∀ e ∈ es, e.ok 1074
 ne : ∀ e ∈ es, e.k = 3 → e.at_ ≠ z
 own : wr.ownsRow F 29 4 vE k (ecs es)
 c0 : wr.cell? ⟨F, 0, none⟩ = some vE
 fz : wr.frozen? ⟨F, 0, none⟩ = false
 lt : F < wr.heap.size
 nF : vE.ownBlock ≠ some F
 bw : Bw W1 wr
theorem Lo.grow {W1 wr wr' : World} {F k : Nat} {z : Py.G} {es : List Fe} {vE : Value} (h : Lo W1 wr F k z es vE) (g : Bw wr wr') : Lo W1 wr' F k z es vE :=
 ⟨h.ok, h.ne, h.own.kept (Sv.gb_bw g none) (by cases vE.ownBlock <;> simp), (Below.cell g (p := ⟨F, 0, none⟩) h.lt).trans h.c0, (Below.frozen g (p := ⟨F, 0, none⟩) h.lt).trans h.fz, Nat.lt_of_lt_of_le h.lt g.size, h.nF, bw_trans h.bw g⟩
theorem Lo.set {W1 wr : World} {F k C i : Nat} {v : Value} {z : Py.G} {es : List Fe} {vE : Value} (h : Lo W1 wr F k z es vE) (hC : C ≠ F) (hv : vE.ownBlock ≠ some C) (hw : W1.heap.size ≤ C) : Lo W1 (wr.setCell ⟨C, i, none⟩ v) F k z es vE :=
 ⟨h.ok, h.ne, ownsRow_setCell_other h.own hv _, by rw [set_blk hC]; exact h.c0, by rw [World.frozen?_setCell]; exact h.fz, by simpa [World.setCell] using h.lt, h.nF, Below.setCell h.bw hw _⟩
/-- an element of the law's own lies at block C -/
structure Me1 (W1 W : World) (F C k : Nat) (z : Py.G) (es : List Fe) (vE : Value) (kd : Int) (a b s t p : Nat) : Prop where
 lo : Lo W1 W F k z es vE
 sw : El.Sw W C kd a b s t p
 cF : C ≠ F
 cE : vE.ownBlock ≠ some C
 cW : W1.heap.size ≤ C
theorem Lo.push {W1 V V2 : World} {F k : Nat} {z : Py.G} {es : List Fe} {vE v' : Value} {e : Fe} (h : Lo W1 V F k z es vE) (hF : W1.heap.size ≤ F) (g : V.grownBy V2 vE.ownBlock) (o : V2.ownsRow F 29 4 v' (k + 1) (ecs (es ++ [e]))) (q : v'.ownBlock = vE.ownBlock ∨ v'.ownBlock = some V.heap.size) (hok : e.ok 1074) (hne : e.k = 3 → e.at_ ≠ z) : Lo W1 (V2.setCell ⟨F, 0, none⟩ v') F (k + 1) z (es ++ [e]) v' := by
 have hne2 : some F ≠ vE.ownBlock := fun e => h.nF e.symm
 have nF' : v'.ownBlock ≠ some F := fun e => by
  rcases q with q | q
  · exact h.nF (by rw [← q, e])
  · rw [q] at e; cases e; exact absurd h.lt (by omega)
 refine ⟨fun x hx => ?_, fun x hx => ?_, ownsRow_setCell_other o nF' _, set_any (g.cell h.c0 hne2), ?_, ?_, nF', Below.setCell (Below.grown h.bw g h.bw.size (fun x e => Nat.le_trans hF (h.own.lt x e).1)) hF _⟩
 ·
  rcases List.mem_append.1 hx with hx | hx
  · exact h.ok x hx
  · rw [List.mem_singleton.1 hx]; exact hok
 ·
  rcases List.mem_append.1 hx with hx | hx
  · exact h.ne x hx
  · rw [List.mem_singleton.1 hx]; exact hne
 ·
  have k := h.fz
  unfold World.frozen? at k
  rw [World.frozen?_setCell]
  unfold World.frozen?
  rw [g.block F h.lt hne2]
  exact k
 ·
  have := g.size
  have := h.lt
  simp [World.setCell]; omega
theorem own_form4 {w : World} {base n : Nat} {e : TypeId} {v : Value} {xs : List Value} (h : w.ownsRow base e 4 v n xs) : ∃ p n k, v = .slice p n k := by
 rcases h.2 with ⟨e, _⟩ | ⟨g, cap, _, e, _⟩
 · exact ⟨_, _, _, e⟩
 · exact ⟨_, _, _, e⟩
theorem Me1.bw {W1 W W' : World} {F C k : Nat} {z : Py.G} {es : List Fe} {vE : Value} {kd : Int} {a b s t p : Nat} (h : Me1 W1 W F C k z es vE kd a b s t p) (g : Bw W W') : Me1 W1 W' F C k z es vE kd a b s t p :=
 ⟨h.lo.grow g, h.sw.bw g, h.cF, h.cE, h.cW⟩
theorem mod3 (n : Int) : (wrap64 (n.tmod 3 + 3)).tmod 3 = 0 ∨ (wrap64 (n.tmod 3 + 3)).tmod 3 = 1 ∨ (wrap64 (n.tmod 3 + 3)).tmod 3 = 2 := by
 have h1 := Int.tmod_lt_of_pos n (show (0 : Int) < 3 by decide)
 have h2 : -3 < n.tmod 3 := Int.lt_tmod_of_pos n (by decide)
 have e : wrap64 (n.tmod 3 + 3) = n.tmod 3 + 3 := by unfold wrap64; omega
 rw [e]
 have h3 := Int.tmod_lt_of_pos (n.tmod 3 + 3) (show (0 : Int) < 3 by decide)
 have h4 := Int.tmod_nonneg 3 (show 0 ≤ n.tmod 3 + 3 by omega)
 omega
end Ff
set_option maxHeartbeats 64000000 in
set_option maxRecDepth 100000 in
theorem law16 (a : Option Addr) (len cap : Nat) (x y : Int) (w : World) (hl : Ff.Ix w a len) (hlen : len ≤ 140737488355328) :
  Calls Tryz.prog 4 #[.slice a len cap, .int .i64 x, .int .i64 y] w fun e w' => e = .returned (.bool true) ∧ Bw w w' := by
 obtain ⟨jx, hjx, sx⟩ := small16 x 4 (by decide)
 obtain ⟨jy, hjy, sy⟩ := small16 y 4 (by decide)
 have SX := hide sx
 have SY := hide sy
 have HL := hide hl
 have px := El.wP_thou jx (by omega)
 have py := El.wP_thou jy (by omega)
 have PX := hide px
 have PY := hide py
 have HJ := hide (And.intro hjx hjy)
 clear hl sx sy px py hjx hjy
 generalize floatOfInt .f64 jx = zx at *
 generalize floatOfInt .f64 jy = zy at *
 go_enter Tryz.func4, Tryz.ntmps4
 go_wp2_with fail
 refine (alive16_ev _).mono ?_
 rintro e' W1 ⟨rfl, b1⟩
 go_wp2_with fail
 refine (SX.out _).mono ?_
 rintro e' w2 ⟨rfl, hw2⟩
 subst hw2
 go_wp2_with fail
 refine (SY.out _).mono ?_
 rintro e' w3 ⟨rfl, hw3⟩
 subst hw3
 go_wp2
 have HL2 := hide (HL.out.bw b1)
 have B1 := hide b1
 have L0 := hide (show Ff.Lo w3 (w3.alloc (.cells #[.slice none 0 0] 24)) w3.heap.size 0 (jx, jy) [] (.slice none 0 0) from
  ⟨fun e h => by simp at h, fun e h => by simp at h, World.ownsRow_nil _ _ _ _, by simp, Ff.fz_new _ _ _ _, by simp, fun e => (by cases e), bw_alloc _ _⟩)
 clear b1 SX SY HL
 generalize w3.alloc (.cells #[.slice none 0 0] 24) = W2 at *
 obtain ⟨F, hF⟩ : ∃ F, w3.heap.size = F := ⟨_, rfl⟩
 rw [hF] at L0 ⊢
 have HF := hide hF
 clear hF
 go_loopw [10] (fun i wr => ∃ (k : Nat) (es : List Ff.Fe) (vE : Value), k ≤ 3 ∧ i = .int .i64 ((6 * k : Nat) : Int) ∧ es.length = k ∧ Hid (Ff.Lo w3 wr F k (jx, jy) es vE)) (fun i _ => 100 - (intOf i).toNat)
 case atStart => exact ⟨0, [], _, by omega, rfl, rfl, L0⟩
 case round =>
  obtain ⟨k, es, vE, hk, rfl, hes, LO⟩ := hrel
  clear L0
  obtain ⟨I, hI⟩ : ∃ I, 6 * k = I := ⟨_, rfl⟩
  rw [hI]
  have hI18 : I ≤ 18 := by omega
  have HI := hide hI
  clear hI
  obtain ⟨ea', ecap, rfl, hEs⟩ := Ff.own_es LO.out.own hes
  have c0 := LO.out.c0
  by_cases hgo : I + 5 < len ∧ k < 3
  case neg =>
   obtain ⟨Ys, NN, AA, hS, hB, hN, hM, hF, hL, hβ, hfin, hend, LN, MS⟩ := Ff.ready17 (z := (jx, jy)) PX.out PY.out HJ.out (by omega) LO.out.ok LO.out.ne
   have LZ := hide (And.intro (show wC 1074 zx zy (jx, jy) from ⟨PX.out.1, PY.out.1⟩) (Ff.le6 HJ.out))
   have FR := hide (fraction16 (c := 1074) rfl (cap := ecap) (jx, jy) hes hk hEs LO.out.ok hB)
   have SP := hide (fun wz (hb : Bw wr wz) => fspeed16 (cap := ecap) hes hk (hEs.bw hb) LO.out.ok LZ.out.1 LZ.out.2 hS hF hL)
   have HB := hide (And.intro hB (And.intro hN hM))
   have HD := hide (And.intro hβ (And.intro hfin hend))
   have HS := hide (And.intro hS (And.intro LN MS))
   have HL := hide hL
   have HEs := hide hEs
   have CF := hide (fun wz (hb : Bw wr wz) => (show wz.cell? ⟨F, 0, none⟩ = some (.slice ea' k ecap) from (Below.cell hb (p := ⟨F, 0, none⟩) LO.out.lt).trans LO.out.c0))
   have BL := hide LO.out.bw
   clear hS hB hN hM hF hL hβ hfin hend LN MS hEs
   by_cases g1 : (I : Int) + 5 < len
   ·
    have g2 : ¬ ((k : Int) < 3) := by omega
    go_wp2_with fail
    --CUTr1
    refine FR.out.mono ?_
    rintro e' wB ⟨vT, vB, rfl, pT, pB, b4⟩
    obtain ⟨ta, tn, tc, rfl⟩ := pT.form
    obtain ⟨ua, un, uc, rfl⟩ := pB.form
    have bQ := bw_alloc wB (.cells #[.slice ta tn tc, .slice ua un uc] 45)
    have sQ : wB.heap.size < (wB.alloc (.cells #[.slice ta tn tc, .slice ua un uc] 45)).heap.size := by simp
    have q0 : (wB.alloc (.cells #[.slice ta tn tc, .slice ua un uc] 45)).cell? ⟨wB.heap.size, 0, none⟩ = some (.slice ta tn tc) := by simp
    have q1 : (wB.alloc (.cells #[.slice ta tn tc, .slice ua un uc] 45)).cell? ⟨wB.heap.size, 1, none⟩ = some (.slice ua un uc) := by simp
    have b5 := bw_trans b4 bQ
    have SP2 := hide (SP.out _ b5)
    have QQ := hide (And.intro sQ (And.intro q0 q1))
    have PP := hide (And.intro pT (And.intro pB (And.intro bQ b5)))
    have cf := CF.out _ b5
    clear sQ q0 q1 pT pB bQ b5 b4 FR SP c0
    go_wp2_with fail
    --CUTr2
    refine SP2.out.mono ?_
    rintro e' wS ⟨sx, sy, rfl, hsx, b6⟩
    have q0 := (Below.cell b6 (p := ⟨wB.heap.size, 0, none⟩) QQ.out.1).trans QQ.out.2.1
    have q1 := (Below.cell b6 (p := ⟨wB.heap.size, 1, none⟩) QQ.out.1).trans QQ.out.2.2
    have b8 := bw_trans PP.out.2.2.1 b6
    have lT := (PP.out.1.le LZ.out.2).mono HB.out.2.1
    have lβ := (PP.out.2.1.le LZ.out.2).mono HB.out.2.2
    have RA := hide (ratio16 (PP.out.1.bw b8) (PP.out.2.1.bw b8) HD.out.1 LZ.out.1 LZ.out.2 HB.out.2.1 HB.out.2.2 (HD.out.2.1 _ lT lβ))
    have ED := hide (fun (a b : El.Z) (u v : Nat) (h1 : El.zW a _) (h2 : El.zW b _) (h3 : El.c2 u v = El.zdiv a b) => HD.out.2.2 a b u v sx sy lT lβ h1 h2 h3 hsx)
    have B8 := hide (bw_trans PP.out.2.2.2 b6)
    clear cf SP2 QQ PP hsx b6 b8 lT lβ HD
    go_wp2_with fail
    --CUTr3
    refine RA.out.mono ?_
    rintro e' wR ⟨u, v, a, b, rfl, huv, za, zb, b7⟩
    obtain ⟨du, dv, mm, D1, D2, D3, D4, D5, D6⟩ := ED.out a b u v za zb huv
    have EN := hide (And.intro D1 (And.intro D2 (And.intro D3 (And.intro D4 (And.intro D5 D6)))))
    have B9 := hide (bw_trans B8.out b7)
    clear q0 q1 RA ED huv za zb b7 D1 D2 D3 D4 D5 D6
    go_wp2
    --CUTr4
    go_loopw [20, 21] (fun m i wq => ∃ q : Nat, q ≤ k ∧ i = .int .i64 q ∧ m = .float .f64 (Ff.mst (Ys.take q)) ∧ Hid (Bw wr wq)) (fun _ i _ => k - (intOf i).toNat)
    case atStart => exact ⟨0, Nat.zero_le _, rfl, rfl, B9⟩
    case round =>
     obtain ⟨q, hq, rfl, rfl, hb⟩ := hrel
     have cf := CF.out _ hb.out
     clear B9
     by_cases hq1 : q < k
     ·
      have hq2 : (q : Int) < k := by omega
      obtain ⟨e, he⟩ : ∃ e, es[q]? = some e := ⟨es[q]'(by omega), by simp [show q < es.length by omega]⟩
      obtain ⟨Y, hY⟩ : ∃ Y, Ys[q]? = some Y := ⟨Ys[q]'(by have := HS.out.1.1; omega), by simp [show q < Ys.length by have := HS.out.1.1; omega]⟩
      obtain ⟨b, o, rfl, _, hcell⟩ := (HEs.out.bw hb.out).resolve_left (by omega)
      obtain ⟨e0, e1, e2, e3⟩ := hcell q e he
      have SPD := hide (HS.out.1.2 q e Y he hY).2
      have hYm := List.mem_of_getElem? hY
      have AB1 := hide (fun wz => abs_any Y.1 wz (HL.out Y hYm).1)
      have AB2 := hide (fun wz => abs_any Y.2 wz (HL.out Y hYm).2)
      have L1 := HS.out.2.1 Y hYm
      have M1 := HS.out.2.2 q Y hY
      clear hcell hYm he hY
      obtain ⟨m1, hm1⟩ : ∃ m1, Ff.mst (Ys.take (q + 1)) = m1 := ⟨_, rfl⟩
      rw [hm1] at M1
      have HM1 := hide hm1
      clear hm1
      go_wp2_with fail
      --CUTr5
      refine (SPD.out _).mono ?_
      rintro e' w7 ⟨rfl, b7⟩
      have B7 := hide (bw_trans hb.out b7)
      clear e0 e1 e2 e3 cf b7 SPD
      go_wp2_with fail
      refine (AB1.out _).mono ?_
      rintro e' w8 ⟨rfl, h8⟩
      obtain rfl : w7 = w8 := h8.symm
      go_wp2_with fail
      refine (AB2.out _).mono ?_
      rintro e' w8 ⟨rfl, h8⟩
      obtain rfl : w7 = w8 := h8.symm
      go_wp2
      --CUTr6
      go_roundw
      case rel => exact ⟨q + 1, by omega, by simp, by rw [HM1.out], B7⟩
      case measure => simp [intOf]; omega
     ·
      have eM : Ff.mst (Ys.take q) = Ff.mst Ys := by rw [List.take_of_length_le (by have := HS.out.1.1; omega)]
      rw [eM]
      have hq2 : ¬ ((q : Int) < k) := by omega
      have D1 := EN.out.1
      have D2 := EN.out.2.1
      have C1 : (FloatKind.f64.format.order (Fl.rg du) mm == some .lt || FloatKind.f64.format.order (Fl.rg du) mm == some .eq) = true := by rw [Fl.o_le]; exact EN.out.2.2.2.2.1
      have C2 : (FloatKind.f64.format.order (Fl.rg dv) mm == some .lt || FloatKind.f64.format.order (Fl.rg dv) mm == some .eq) = true := by rw [Fl.o_le]; exact EN.out.2.2.2.2.2
      have AB1 := hide (fun wz => abs_any du wz EN.out.2.2.1)
      have AB2 := hide (fun wz => abs_any dv wz EN.out.2.2.2.1)
      go_wp2_with fail
      --CUTr7
      refine (AB1.out _).mono ?_
      rintro e' w8 ⟨rfl, h8⟩
      subst h8
      go_wp2_with fail
      refine (AB2.out _).mono ?_
      rintro e' w8 ⟨rfl, h8⟩
      subst h8
      go_wp2
      go_ret
      exact ⟨rfl, bw_trans B1.out (bw_trans BL.out hb.out)⟩
   ·
    go_wp2_with fail
    --CUTr1
    refine FR.out.mono ?_
    rintro e' wB ⟨vT, vB, rfl, pT, pB, b4⟩
    obtain ⟨ta, tn, tc, rfl⟩ := pT.form
    obtain ⟨ua, un, uc, rfl⟩ := pB.form
    have bQ := bw_alloc wB (.cells #[.slice ta tn tc, .slice ua un uc] 45)
    have sQ : wB.heap.size < (wB.alloc (.cells #[.slice ta tn tc, .slice ua un uc] 45)).heap.size := by simp
    have q0 : (wB.alloc (.cells #[.slice ta tn tc, .slice ua un uc] 45)).cell? ⟨wB.heap.size, 0, none⟩ = some (.slice ta tn tc) := by simp
    have q1 : (wB.alloc (.cells #[.slice ta tn tc, .slice ua un uc] 45)).cell? ⟨wB.heap.size, 1, none⟩ = some (.slice ua un uc) := by simp
    have b5 := bw_trans b4 bQ
    have SP2 := hide (SP.out _ b5)
    have QQ := hide (And.intro sQ (And.intro q0 q1))
    have PP := hide (And.intro pT (And.intro pB (And.intro bQ b5)))
    have cf := CF.out _ b5
    clear sQ q0 q1 pT pB bQ b5 b4 FR SP c0
    go_wp2_with fail
    --CUTr2
    refine SP2.out.mono ?_
    rintro e' wS ⟨sx, sy, rfl, hsx, b6⟩
    have q0 := (Below.cell b6 (p := ⟨wB.heap.size, 0, none⟩) QQ.out.1).trans QQ.out.2.1
    have q1 := (Below.cell b6 (p := ⟨wB.heap.size, 1, none⟩) QQ.out.1).trans QQ.out.2.2
    have b8 := bw_trans PP.out.2.2.1 b6
    have lT := (PP.out.1.le LZ.out.2).mono HB.out.2.1
    have lβ := (PP.out.2.1.le LZ.out.2).mono HB.out.2.2
    have RA := hide (ratio16 (PP.out.1.bw b8) (PP.out.2.1.bw b8) HD.out.1 LZ.out.1 LZ.out.2 HB.out.2.1 HB.out.2.2 (HD.out.2.1 _ lT lβ))
    have ED := hide (fun (a b : El.Z) (u v : Nat) (h1 : El.zW a _) (h2 : El.zW b _) (h3 : El.c2 u v = El.zdiv a b) => HD.out.2.2 a b u v sx sy lT lβ h1 h2 h3 hsx)
    have B8 := hide (bw_trans PP.out.2.2.2 b6)
    clear cf SP2 QQ PP hsx b6 b8 lT lβ HD
    go_wp2_with fail
    --CUTr3
    refine RA.out.mono ?_
    rintro e' wR ⟨u, v, a, b, rfl, huv, za, zb, b7⟩
    obtain ⟨du, dv, mm, D1, D2, D3, D4, D5, D6⟩ := ED.out a b u v za zb huv
    have EN := hide (And.intro D1 (And.intro D2 (And.intro D3 (And.intro D4 (And.intro D5 D6)))))
    have B9 := hide (bw_trans B8.out b7)
    clear q0 q1 RA ED huv za zb b7 D1 D2 D3 D4 D5 D6
    go_wp2
    --CUTr4
    go_loopw [20, 21] (fun m i wq => ∃ q : Nat, q ≤ k ∧ i = .int .i64 q ∧ m = .float .f64 (Ff.mst (Ys.take q)) ∧ Hid (Bw wr wq)) (fun _ i _ => k - (intOf i).toNat)
    case atStart => exact ⟨0, Nat.zero_le _, rfl, rfl, B9⟩
    case round =>
     obtain ⟨q, hq, rfl, rfl, hb⟩ := hrel
     have cf := CF.out _ hb.out
     clear B9
     by_cases hq1 : q < k
     ·
      have hq2 : (q : Int) < k := by omega
      obtain ⟨e, he⟩ : ∃ e, es[q]? = some e := ⟨es[q]'(by omega), by simp [show q < es.length by omega]⟩
      obtain ⟨Y, hY⟩ : ∃ Y, Ys[q]? = some Y := ⟨Ys[q]'(by have := HS.out.1.1; omega), by simp [show q < Ys.length by have := HS.out.1.1; omega]⟩
      obtain ⟨b, o, rfl, _, hcell⟩ := (HEs.out.bw hb.out).resolve_left (by omega)
      obtain ⟨e0, e1, e2, e3⟩ := hcell q e he
      have SPD := hide (HS.out.1.2 q e Y he hY).2
      have hYm := List.mem_of_getElem? hY
      have AB1 := hide (fun wz => abs_any Y.1 wz (HL.out Y hYm).1)
      have AB2 := hide (fun wz => abs_any Y.2 wz (HL.out Y hYm).2)
      have L1 := HS.out.2.1 Y hYm
      have M1 := HS.out.2.2 q Y hY
      clear hcell hYm he hY
      obtain ⟨m1, hm1⟩ : ∃ m1, Ff.mst (Ys.take (q + 1)) = m1 := ⟨_, rfl⟩
      rw [hm1] at M1
      have HM1 := hide hm1
      clear hm1
      go_wp2_with fail
      --CUTr5
      refine (SPD.out _).mono ?_
      rintro e' w7 ⟨rfl, b7⟩
      have B7 := hide (bw_trans hb.out b7)
      clear e0 e1 e2 e3 cf b7 SPD
      go_wp2_with fail
      refine (AB1.out _).mono ?_
      rintro e' w8 ⟨rfl, h8⟩
      obtain rfl : w7 = w8 := h8.symm
      go_wp2_with fail
      refine (AB2.out _).mono ?_
      rintro e' w8 ⟨rfl, h8⟩
      obtain rfl : w7 = w8 := h8.symm
      go_wp2
      --CUTr6
      go_roundw
      case rel => exact ⟨q + 1, by omega, by simp, by rw [HM1.out], B7⟩
      case measure => simp [intOf]; omega
     ·
      have eM : Ff.mst (Ys.take q) = Ff.mst Ys := by rw [List.take_of_length_le (by have := HS.out.1.1; omega)]
      rw [eM]
      have hq2 : ¬ ((q : Int) < k) := by omega
      have D1 := EN.out.1
      have D2 := EN.out.2.1
      have C1 : (FloatKind.f64.format.order (Fl.rg du) mm == some .lt || FloatKind.f64.format.order (Fl.rg du) mm == some .eq) = true := by rw [Fl.o_le]; exact EN.out.2.2.2.2.1
      have C2 : (FloatKind.f64.format.order (Fl.rg dv) mm == some .lt || FloatKind.f64.format.order (Fl.rg dv) mm == some .eq) = true := by rw [Fl.o_le]; exact EN.out.2.2.2.2.2
      have AB1 := hide (fun wz => abs_any du wz EN.out.2.2.1)
      have AB2 := hide (fun wz => abs_any dv wz EN.out.2.2.2.1)
      go_wp2_with fail
      --CUTr7
      refine (AB1.out _).mono ?_
      rintro e' w8 ⟨rfl, h8⟩
      subst h8
      go_wp2_with fail
      refine (AB2.out _).mono ?_
      rintro e' w8 ⟨rfl, h8⟩
      subst h8
      go_wp2
      go_ret
      exact ⟨rfl, bw_trans B1.out (bw_trans BL.out hb.out)⟩
  case pos =>
   have g5 : (I : Int) + 5 < len := by omega
   have g3 : (k : Int) < 3 := by omega
   obtain ⟨nb, no, rfl, hnb, hnc⟩ := (HL2.out.bw LO.out.bw).resolve_left (by omega)
   obtain ⟨n0, q0⟩ := hnc I (by omega)
   obtain ⟨n1, q1⟩ := hnc (I + 1) (by omega)
   obtain ⟨n2, q2⟩ := hnc (I + 2) (by omega)
   obtain ⟨n3, q3⟩ := hnc (I + 3) (by omega)
   obtain ⟨n4, q4⟩ := hnc (I + 4) (by omega)
   obtain ⟨n5, q5⟩ := hnc (I + 5) (by omega)
   have NQ := hide (fun (wz : World) (hb : Bw wr wz) => (show wz.cell? ⟨nb, no + I, none⟩ = some (.int .i64 n0) ∧ wz.cell? ⟨nb, no + (I + 1), none⟩ = some (.int .i64 n1) ∧ wz.cell? ⟨nb, no + (I + 2), none⟩ = some (.int .i64 n2) ∧ wz.cell? ⟨nb, no + (I + 3), none⟩ = some (.int .i64 n3) ∧ wz.cell? ⟨nb, no + (I + 4), none⟩ = some (.int .i64 n4) ∧ wz.cell? ⟨nb, no + (I + 5), none⟩ = some (.int .i64 n5) from
    ⟨(Below.cell hb (p := ⟨nb, no + I, none⟩) hnb).trans q0, (Below.cell hb (p := ⟨nb, no + (I + 1), none⟩) hnb).trans q1, (Below.cell hb (p := ⟨nb, no + (I + 2), none⟩) hnb).trans q2, (Below.cell hb (p := ⟨nb, no + (I + 3), none⟩) hnb).trans q3, (Below.cell hb (p := ⟨nb, no + (I + 4), none⟩) hnb).trans q4, (Below.cell hb (p := ⟨nb, no + (I + 5), none⟩) hnb).trans q5⟩))
   obtain ⟨js, hjs, ss⟩ := small16 n1 8 (by decide)
   obtain ⟨jt, hjt, st⟩ := small16 n2 8 (by decide)
   obtain ⟨ja, hja, sa⟩ := small16 n3 4 (by decide)
   obtain ⟨jb, hjb, sb⟩ := small16 n4 4 (by decide)
   have ps := El.wP_thou js (by omega)
   have pt := El.wP_thou jt (by omega)
   have pa := El.wP_thou ja (by omega)
   have pb := El.wP_thou jb (by omega)
   have S1 := hide ss
   have S2 := hide st
   have S3 := hide sa
   have S4 := hide sb
   have PS := hide (And.intro ps (And.intro pt (And.intro pa (And.intro pb (And.intro hjs (And.intro hjt (And.intro hja hjb)))))))
   have r1 : (I : Int) + 1 < len := by omega
   have r2 : (I : Int) + 2 < len := by omega
   have r3 : (I : Int) + 3 < len := by omega
   have r4 : (I : Int) + 4 < len := by omega
   have r0 : (I : Int) < len := by omega
   have wg1 : IntKind.i64.wrap ((I : Int) + 1) = (I : Int) + 1 := by rw [IntKind.wrap_i64]; omega
   have wg2 : IntKind.i64.wrap ((I : Int) + 2) = (I : Int) + 2 := by rw [IntKind.wrap_i64]; omega
   have wg3 : IntKind.i64.wrap ((I : Int) + 3) = (I : Int) + 3 := by rw [IntKind.wrap_i64]; omega
   have wg4 : IntKind.i64.wrap ((I : Int) + 4) = (I : Int) + 4 := by rw [IntKind.wrap_i64]; omega
   have tn1 : ((I : Int) + 1).toNat = I + 1 := by omega
   have tn2 : ((I : Int) + 2).toNat = I + 2 := by omega
   have tn3 : ((I : Int) + 3).toNat = I + 3 := by omega
   have tn4 : ((I : Int) + 4).toNat = I + 4 := by omega
   have zp1 : 0 ≤ (I : Int) + 1 := by omega
   have zp2 : 0 ≤ (I : Int) + 2 := by omega
   have zp3 : 0 ≤ (I : Int) + 3 := by omega
   have zp4 : 0 ≤ (I : Int) + 4 := by omega
   clear ps pt pa pb ss st sa sb hjs hjt hja hjb q0 q1 q2 q3 q4 q5 hnc hnb hEs
   generalize floatOfInt .f64 js = xs at *
   generalize floatOfInt .f64 jt = xt at *
   generalize floatOfInt .f64 ja = xa at *
   generalize floatOfInt .f64 jb = xb at *
   go_wp2_with fail
   clear c0
   apply Ff.join (F := fun C W => Ff.Me1 w3 W F C k (jx, jy) es (.slice ea' k ecap) 1 0 0 xs xt 0 ∧ Bw wr W)
   case way =>
    intro K' J
    refine wp_region_K (fun w' => w'.cell? ⟨nb, no + (I + 1), none⟩ = some (.int .i64 n1) ∧ w'.cell? ⟨nb, no + (I + 2), none⟩ = some (.int .i64 n2)) 15 16 #[false, false, false, false, false, false, false, false, false, false, false, false, false, false, false, false] (by kernel_rfl) (by kernel_rfl) (by kernel_rfl) ?_
    have BWA := hide (show Bw wr wr.drew from (Bw.refl wr).drew)
    have LOA := hide (LO.out.grow BWA.out)
    generalize wr.drew = WA at *
    have SA : WA.cell? ⟨nb, no + (I + 1), none⟩ = some (.int .i64 n1) ∧ WA.cell? ⟨nb, no + (I + 2), none⟩ = some (.int .i64 n2) := ⟨(NQ.out _ BWA.out).2.1, (NQ.out _ BWA.out).2.2.1⟩
    have BAL := bw_alloc WA (.cells #[.int .u8 0, .complex .f64 0 0, .complex .f64 0 0, .float .f64 0] 29)
    have SB := hide (show (WA.alloc (.cells #[.int .u8 0, .complex .f64 0 0, .complex .f64 0 0, .float .f64 0] 29)).cell? ⟨nb, no + (I + 1), none⟩ = some (.int .i64 n1) ∧ (WA.alloc (.cells #[.int .u8 0, .complex .f64 0 0, .complex .f64 0 0, .float .f64 0] 29)).cell? ⟨nb, no + (I + 2), none⟩ = some (.int .i64 n2) from ⟨(NQ.out _ (bw_trans BWA.out BAL)).2.1, (NQ.out _ (bw_trans BWA.out BAL)).2.2.1⟩)
    have FI : Hid (Ff.Me1 w3 (WA.alloc (.cells #[.int .u8 1, .complex .f64 0 0, .complex .f64 xs xt, .float .f64 0] 29)) F WA.heap.size k (jx, jy) es (.slice ea' k ecap) 1 0 0 xs xt 0 ∧ Bw wr (WA.alloc (.cells #[.int .u8 1, .complex .f64 0 0, .complex .f64 xs xt, .float .f64 0] 29))) := by
     have l1 := LOA.out.lt
     have hcF : WA.heap.size ≠ F := by omega
     have hcE : (Value.slice ea' k ecap).ownBlock ≠ some WA.heap.size := fun e => by have := (LOA.out.own.lt _ e).2; omega
     have hcW : w3.heap.size ≤ WA.heap.size := LOA.out.bw.size
     exact ⟨⟨LOA.out.grow (bw_alloc _ _), El.Sw.new WA 1 0 0 xs xt 0 _, hcF, hcE, hcW⟩, bw_trans BWA.out (bw_alloc _ _)⟩
    have ca : (WA.alloc (.cells #[.int .u8 0, .complex .f64 0 0, .complex .f64 0 0, .float .f64 0] 29)).cell? ⟨WA.heap.size, 0, none⟩ = some (.int .u8 0) ∧ (WA.alloc (.cells #[.int .u8 0, .complex .f64 0 0, .complex .f64 0 0, .float .f64 0] 29)).cell? ⟨WA.heap.size, 1, none⟩ = some (.complex .f64 0 0) ∧ (WA.alloc (.cells #[.int .u8 0, .complex .f64 0 0, .complex .f64 0 0, .float .f64 0] 29)).cell? ⟨WA.heap.size, 2, none⟩ = some (.complex .f64 0 0) ∧ (WA.alloc (.cells #[.int .u8 0, .complex .f64 0 0, .complex .f64 0 0, .float .f64 0] 29)).cell? ⟨WA.heap.size, 3, none⟩ = some (.float .f64 0) := ⟨by simp, by simp, by simp, by simp⟩
    clear ca
    refine wpAnyK_take 0 44 (v := ?v0) rfl (by kernel_rfl) (by kernel_rfl) (by kernel_rfl) (by kernel_rfl) (by kernel_rfl) (fun _ _ _ h => h) rfl (Or.inl ⟨by rfl, ?h0⟩) (by assumption) ?r0
    case h0 => (intro w hSw; obtain ⟨s0, s1⟩ := hSw; go_simp; with_reducible rfl)
    simp only [Act.put, List.setIfInBounds_toArray, List.set_cons_zero, List.set_cons_succ]
    refine wpAnyK_take 1 45 (v := ?v1) rfl (by kernel_rfl) (by kernel_rfl) (by kernel_rfl) (by kernel_rfl) (by kernel_rfl) (fun _ _ _ h => h) rfl (Or.inl ⟨by rfl, ?h1⟩) (by assumption) ?r1
    case h1 => (intro w hSw; obtain ⟨s0, s1⟩ := hSw; go_simp; with_reducible rfl)
    simp only [Act.put, List.setIfInBounds_toArray, List.set_cons_zero, List.set_cons_succ]
    refine wpAnyK_take 2 46 (v := ?v2) rfl (by kernel_rfl) (by kernel_rfl) (by kernel_rfl) (by kernel_rfl) (by kernel_rfl) (fun _ _ _ h => h) rfl (Or.inl ⟨by rfl, ?h2⟩) (by assumption) ?r2
    case h2 => (intro w hSw; obtain ⟨s0, s1⟩ := hSw; go_simp; with_reducible rfl)
    simp only [Act.put, List.setIfInBounds_toArray, List.set_cons_zero, List.set_cons_succ]
    refine wpAnyK_take 3 47 (v := ?v3) rfl (by kernel_rfl) (by kernel_rfl) (by kernel_rfl) (by kernel_rfl) (by kernel_rfl) (fun _ _ _ h => h) rfl (Or.inl ⟨by rfl, ?h3⟩) (by assumption) ?r3
    case h3 => (intro w hSw; obtain ⟨s0, s1⟩ := hSw; go_simp; with_reducible rfl)
    simp only [Act.put, List.setIfInBounds_toArray, List.set_cons_zero, List.set_cons_succ]
    refine wpAnyK_take 4 48 (v := ?v4) rfl (by kernel_rfl) (by kernel_rfl) (by kernel_rfl) (by kernel_rfl) (by kernel_rfl) (fun _ _ _ h => h) rfl (Or.inl ⟨by rfl, ?h4⟩) (by assumption) ?r4
    case h4 => (intro w hSw; obtain ⟨s0, s1⟩ := hSw; go_simp; with_reducible rfl)
    simp only [Act.put, List.setIfInBounds_toArray, List.set_cons_zero, List.set_cons_succ]
    refine wpAnyK_take 6 50 (v := ?v6) rfl (by kernel_rfl) (by kernel_rfl) (by kernel_rfl) (by kernel_rfl) (by kernel_rfl) (fun _ _ _ h => h) rfl (Or.inl ⟨by rfl, ?h6⟩) (by assumption) ?r6
    case h6 => (intro w hSw; obtain ⟨s0, s1⟩ := hSw; go_simp; with_reducible rfl)
    simp only [Act.put, List.setIfInBounds_toArray, List.set_cons_zero, List.set_cons_succ]
    refine wpAnyK_take 7 51 (v := ?v7) rfl (by kernel_rfl) (by kernel_rfl) (by kernel_rfl) (by kernel_rfl) (by kernel_rfl) (fun _ _ _ h => h) rfl (Or.inl ⟨by rfl, ?h7⟩) (by assumption) ?r7
    case h7 => (intro w hSw; obtain ⟨s0, s1⟩ := hSw; go_simp; with_reducible rfl)
    simp only [Act.put, List.setIfInBounds_toArray, List.set_cons_zero, List.set_cons_succ]
    refine wpAnyK_take 8 52 (v := ?v8) rfl (by kernel_rfl) (by kernel_rfl) (by kernel_rfl) (by kernel_rfl) (by kernel_rfl) (fun _ _ _ h => h) rfl (Or.inl ⟨by rfl, ?h8⟩) (by assumption) ?r8
    case h8 => (intro w hSw; obtain ⟨s0, s1⟩ := hSw; go_simp; with_reducible rfl)
    simp only [Act.put, List.setIfInBounds_toArray, List.set_cons_zero, List.set_cons_succ]
    refine wpAnyK_take 9 53 (v := ?v9) rfl (by kernel_rfl) (by kernel_rfl) (by kernel_rfl) (by kernel_rfl) (by kernel_rfl) (fun _ _ _ h => h) rfl (Or.inl ⟨by rfl, ?h9⟩) (by assumption) ?r9
    case h9 => (intro w hSw; obtain ⟨s0, s1⟩ := hSw; go_simp; with_reducible rfl)
    simp only [Act.put, List.setIfInBounds_toArray, List.set_cons_zero, List.set_cons_succ]
    refine wpAnyK_take 10 54 (v := ?v10) rfl (by kernel_rfl) (by kernel_rfl) (by kernel_rfl) (by kernel_rfl) (by kernel_rfl) (fun _ _ _ h => h) rfl (Or.inl ⟨by rfl, ?h10⟩) (by assumption) ?r10
    case h10 => (intro w hSw; obtain ⟨s0, s1⟩ := hSw; go_simp; with_reducible rfl)
    simp only [Act.put, List.setIfInBounds_toArray, List.set_cons_zero, List.set_cons_succ]
    refine wpAnyK_two 5 14 (by kernel_rfl) rfl rfl (fun K hK => ?_) (fun K hK => ?_)
    ·
     go_simp
     go_wp2_with (go_at_call 20; refine (S1.out _).mono ?_; rintro e' w7 ⟨rfl, hw7⟩; obtain rfl : WA = w7 := hw7.symm)
     refine hK.out _ _ (fun _ _ => SA) ?_
     clear hK K
     simp only [List.setIfInBounds_toArray, List.set_cons_zero, List.set_cons_succ]
     refine wpAnyK_two 11 14 (by kernel_rfl) rfl rfl (fun K hK => ?_) (fun K hK => ?_)
     ·
      go_simp
      go_wp2_with (go_at_call 20; refine (S2.out _).mono ?_; rintro e' w7 ⟨rfl, hw7⟩; obtain rfl : WA = w7 := hw7.symm)
      refine hK.out _ _ (fun _ _ => SA) ?_
      clear hK K
      simp only [List.setIfInBounds_toArray, List.set_cons_zero, List.set_cons_succ]
      refine wpAnyK_take 12 56 (v := ?vp12) rfl (by kernel_rfl) (by kernel_rfl) (by kernel_rfl) (by kernel_rfl) (by kernel_rfl) (fun _ _ _ h => h) rfl (Or.inl ⟨by rfl, ?hp12⟩) (by assumption) ?rp12
      case hp12 => (intro w hSw; obtain ⟨s0, s1⟩ := hSw; go_simp; with_reducible rfl)
      simp only [Act.put, List.setIfInBounds_toArray, List.set_cons_zero, List.set_cons_succ]
      refine wpAnyK_take 13 57 (v := ?vp13) rfl (by kernel_rfl) (by kernel_rfl) (by kernel_rfl) (by kernel_rfl) (by kernel_rfl) (fun _ _ _ h => h) rfl (Or.inl ⟨by rfl, ?hp13⟩) (by assumption) ?rp13
      case hp13 => (intro w hSw; obtain ⟨s0, s1⟩ := hSw; go_simp; with_reducible rfl)
      simp only [Act.put, List.setIfInBounds_toArray, List.set_cons_zero, List.set_cons_succ]
      refine wpAnyK_one 14 (by kernel_rfl) rfl (fun K hK => ?_)
      go_simp
      refine hK.out _ _ (fun _ _ => SB.out) ?_
      clear hK K
      simp only [List.setIfInBounds_toArray, List.set_cons_zero, List.set_cons_succ]
      refine wpAnyK_one 15 (by kernel_rfl) rfl (fun K hK => ?_)
      go_simp
      refine hK.out _ _ (fun h => absurd rfl h) ?_
      clear hK K
      simp only [List.setIfInBounds_toArray, List.set_cons_zero, List.set_cons_succ]
      refine wpAnyK_done (by kernel_rfl) ?_ _
      generalize WA.heap.size = CC at FI ⊢
      exact J.out _ _ FI.out
     ·
      go_simp
      refine hK.out _ _ (fun _ _ => SB.out) ?_
      clear hK K
      simp only [List.setIfInBounds_toArray, List.set_cons_zero, List.set_cons_succ]
      have SB2 := SB.out
      refine wpAnyK_one 11 (by kernel_rfl) rfl (fun K hK => ?_)
      go_simp
      go_wp2_with (go_at_call 20; refine (S2.out _).mono ?_; rintro e' w7 ⟨rfl, hw7⟩; rw [hw7])
      refine hK.out _ _ (fun _ _ => SB.out) ?_
      clear hK K
      simp only [List.setIfInBounds_toArray, List.set_cons_zero, List.set_cons_succ]
      refine wpAnyK_take 12 56 (v := ?vq12) rfl (by kernel_rfl) (by kernel_rfl) (by kernel_rfl) (by kernel_rfl) (by kernel_rfl) (fun _ _ _ h => h) rfl (Or.inl ⟨by rfl, ?hq12⟩) (by assumption) ?rq12
      case hq12 => (intro w hSw; obtain ⟨s0, s1⟩ := hSw; go_simp; with_reducible rfl)
      simp only [Act.put, List.setIfInBounds_toArray, List.set_cons_zero, List.set_cons_succ]
      refine wpAnyK_take 13 57 (v := ?vq13) rfl (by kernel_rfl) (by kernel_rfl) (by kernel_rfl) (by kernel_rfl) (by kernel_rfl) (fun _ _ _ h => h) rfl (Or.inl ⟨by rfl, ?hq13⟩) (by assumption) ?rq13
      case hq13 => (intro w hSw; obtain ⟨s0, s1⟩ := hSw; go_simp; with_reducible rfl)
      simp only [Act.put, List.setIfInBounds_toArray, List.set_cons_zero, List.set_cons_succ]
      refine wpAnyK_one 15 (by kernel_rfl) rfl (fun K hK => ?_)
      go_simp
      refine hK.out _ _ (fun h => absurd rfl h) ?_
      clear hK K
      simp only [List.setIfInBounds_toArray, List.set_cons_zero, List.set_cons_succ]
      refine wpAnyK_done (by kernel_rfl) ?_ _
      generalize WA.heap.size = CC at FI ⊢
      exact J.out _ _ FI.out
    ·
     go_simp
     refine hK.out _ _ (fun _ _ => SB.out) ?_
     clear hK K
     simp only [List.setIfInBounds_toArray, List.set_cons_zero, List.set_cons_succ]
     have SB2 := SB.out
     refine wpAnyK_one 5 (by kernel_rfl) rfl (fun K hK => ?_)
     go_simp
     go_wp2_with (go_at_call 20; refine (S1.out _).mono ?_; rintro e' w7 ⟨rfl, hw7⟩; rw [hw7])
     refine hK.out _ _ (fun _ _ => SB.out) ?_
     clear hK K
     simp only [List.setIfInBounds_toArray, List.set_cons_zero, List.set_cons_succ]
     refine wpAnyK_one 11 (by kernel_rfl) rfl (fun K hK => ?_)
     go_simp
     go_wp2_with (go_at_call 20; refine (S2.out _).mono ?_; rintro e' w7 ⟨rfl, hw7⟩; rw [hw7])
     refine hK.out _ _ (fun _ _ => SB.out) ?_
     clear hK K
     simp only [List.setIfInBounds_toArray, List.set_cons_zero, List.set_cons_succ]
     refine wpAnyK_take 12 56 (v := ?vr12) rfl (by kernel_rfl) (by kernel_rfl) (by kernel_rfl) (by kernel_rfl) (by kernel_rfl) (fun _ _ _ h => h) rfl (Or.inl ⟨by rfl, ?hr12⟩) (by assumption) ?rr12
     case hr12 => (intro w hSw; obtain ⟨s0, s1⟩ := hSw; go_simp; with_reducible rfl)
     simp only [Act.put, List.setIfInBounds_toArray, List.set_cons_zero, List.set_cons_succ]
     refine wpAnyK_take 13 57 (v := ?vr13) rfl (by kernel_rfl) (by kernel_rfl) (by kernel_rfl) (by kernel_rfl) (by kernel_rfl) (fun _ _ _ h => h) rfl (Or.inl ⟨by rfl, ?hr13⟩) (by assumption) ?rr13
     case hr13 => (intro w hSw; obtain ⟨s0, s1⟩ := hSw; go_simp; with_reducible rfl)
     simp only [Act.put, List.setIfInBounds_toArray, List.set_cons_zero, List.set_cons_succ]
     refine wpAnyK_one 15 (by kernel_rfl) rfl (fun K hK => ?_)
     go_simp
     refine hK.out _ _ (fun h => absurd rfl h) ?_
     clear hK K
     simp only [List.setIfInBounds_toArray, List.set_cons_zero, List.set_cons_succ]
     refine wpAnyK_done (by kernel_rfl) ?_ _
     generalize WA.heap.size = CC at FI ⊢
     exact J.out _ _ FI.out
   intro C W FF
   obtain ⟨me, bww⟩ := FF
   have ME := hide (me.bw (Bw.refl W).drew)
   have BWW := hide (bw_trans bww (Bw.refl W).drew)
   clear me bww
   go_wp2_with fail
   refine wp_region_K (fun w' => w'.cell? ⟨nb, no + (I + 3), none⟩ = some (.int .i64 n3) ∧ w'.cell? ⟨nb, no + (I + 4), none⟩ = some (.int .i64 n4)) 13 14 #[false, false, false, false, false, false, false, false, false, false, false, false, false, false] (by kernel_rfl) (by kernel_rfl) (by kernel_rfl) ?_
   generalize W.drew = WB at *
   have SB : WB.cell? ⟨nb, no + (I + 3), none⟩ = some (.int .i64 n3) ∧ WB.cell? ⟨nb, no + (I + 4), none⟩ = some (.int .i64 n4) := ⟨(NQ.out _ BWW.out).2.2.2.1, (NQ.out _ BWW.out).2.2.2.2.1⟩
   refine wpAnyK_take 0 58 (v := ?vm0) rfl (by kernel_rfl) (by kernel_rfl) (by kernel_rfl) (by kernel_rfl) (by kernel_rfl) (fun _ _ _ h => h) rfl (Or.inl ⟨by rfl, ?hm0⟩) (by assumption) ?rm0
   case hm0 => (intro w hSw; obtain ⟨s0, s1⟩ := hSw; go_simp; with_reducible rfl)
   simp only [Act.put, List.setIfInBounds_toArray, List.set_cons_zero, List.set_cons_succ]
   refine wpAnyK_take 1 59 (v := ?vm1) rfl (by kernel_rfl) (by kernel_rfl) (by kernel_rfl) (by kernel_rfl) (by kernel_rfl) (fun _ _ _ h => h) rfl (Or.inl ⟨by rfl, ?hm1⟩) (by assumption) ?rm1
   case hm1 => (intro w hSw; obtain ⟨s0, s1⟩ := hSw; go_simp; with_reducible rfl)
   simp only [Act.put, List.setIfInBounds_toArray, List.set_cons_zero, List.set_cons_succ]
   refine wpAnyK_take 2 60 (v := ?vm2) rfl (by kernel_rfl) (by kernel_rfl) (by kernel_rfl) (by kernel_rfl) (by kernel_rfl) (fun _ _ _ h => h) rfl (Or.inl ⟨by rfl, ?hm2⟩) (by assumption) ?rm2
   case hm2 => (intro w hSw; obtain ⟨s0, s1⟩ := hSw; go_simp; with_reducible rfl)
   simp only [Act.put, List.setIfInBounds_toArray, List.set_cons_zero, List.set_cons_succ]
   refine wpAnyK_take 3 61 (v := ?vm3) rfl (by kernel_rfl) (by kernel_rfl) (by kernel_rfl) (by kernel_rfl) (by kernel_rfl) (fun _ _ _ h => h) rfl (Or.inl ⟨by rfl, ?hm3⟩) (by assumption) ?rm3
   case hm3 => (intro w hSw; obtain ⟨s0, s1⟩ := hSw; go_simp; with_reducible rfl)
   simp only [Act.put, List.setIfInBounds_toArray, List.set_cons_zero, List.set_cons_succ]
   refine wpAnyK_take 4 62 (v := ?vm4) rfl (by kernel_rfl) (by kernel_rfl) (by kernel_rfl) (by kernel_rfl) (by kernel_rfl) (fun _ _ _ h => h) rfl (Or.inl ⟨by rfl, ?hm4⟩) (by assumption) ?rm4
   case hm4 => (intro w hSw; obtain ⟨s0, s1⟩ := hSw; go_simp; with_reducible rfl)
   simp only [Act.put, List.setIfInBounds_toArray, List.set_cons_zero, List.set_cons_succ]
   refine wpAnyK_take 6 64 (v := ?vm6) rfl (by kernel_rfl) (by kernel_rfl) (by kernel_rfl) (by kernel_rfl) (by kernel_rfl) (fun _ _ _ h => h) rfl (Or.inl ⟨by rfl, ?hm6⟩) (by assumption) ?rm6
   case hm6 => (intro w hSw; obtain ⟨s0, s1⟩ := hSw; go_simp; with_reducible rfl)
   simp only [Act.put, List.setIfInBounds_toArray, List.set_cons_zero, List.set_cons_succ]
   refine wpAnyK_take 7 65 (v := ?vm7) rfl (by kernel_rfl) (by kernel_rfl) (by kernel_rfl) (by kernel_rfl) (by kernel_rfl) (fun _ _ _ h => h) rfl (Or.inl ⟨by rfl, ?hm7⟩) (by assumption) ?rm7
   case hm7 => (intro w hSw; obtain ⟨s0, s1⟩ := hSw; go_simp; with_reducible rfl)
   simp only [Act.put, List.setIfInBounds_toArray, List.set_cons_zero, List.set_cons_succ]
   refine wpAnyK_take 8 66 (v := ?vm8) rfl (by kernel_rfl) (by kernel_rfl) (by kernel_rfl) (by kernel_rfl) (by kernel_rfl) (fun _ _ _ h => h) rfl (Or.inl ⟨by rfl, ?hm8⟩) (by assumption) ?rm8
   case hm8 => (intro w hSw; obtain ⟨s0, s1⟩ := hSw; go_simp; with_reducible rfl)
   simp only [Act.put, List.setIfInBounds_toArray, List.set_cons_zero, List.set_cons_succ]
   refine wpAnyK_take 9 67 (v := ?vm9) rfl (by kernel_rfl) (by kernel_rfl) (by kernel_rfl) (by kernel_rfl) (by kernel_rfl) (fun _ _ _ h => h) rfl (Or.inl ⟨by rfl, ?hm9⟩) (by assumption) ?rm9
   case hm9 => (intro w hSw; obtain ⟨s0, s1⟩ := hSw; go_simp; with_reducible rfl)
   simp only [Act.put, List.setIfInBounds_toArray, List.set_cons_zero, List.set_cons_succ]
   refine wpAnyK_take 10 68 (v := ?vm10) rfl (by kernel_rfl) (by kernel_rfl) (by kernel_rfl) (by kernel_rfl) (by kernel_rfl) (fun _ _ _ h => h) rfl (Or.inl ⟨by rfl, ?hm10⟩) (by assumption) ?rm10
   case hm10 => (intro w hSw; obtain ⟨s0, s1⟩ := hSw; go_simp; with_reducible rfl)
   simp only [Act.put, List.setIfInBounds_toArray, List.set_cons_zero, List.set_cons_succ]
   refine wpAnyK_one 5 (by kernel_rfl) rfl (fun K hK => ?_)
   go_simp
   go_wp2_with (go_at_call 20; refine (S3.out _).mono ?_; rintro e' w7 ⟨rfl, hw7⟩; obtain rfl : WB = w7 := hw7.symm)
   refine hK.out _ _ (fun _ _ => SB) ?_
   clear hK K
   simp only [List.setIfInBounds_toArray, List.set_cons_zero, List.set_cons_succ]
   refine wpAnyK_one 11 (by kernel_rfl) rfl (fun K hK => ?_)
   go_simp
   go_wp2_with (go_at_call 20; refine (S4.out _).mono ?_; rintro e' w7 ⟨rfl, hw7⟩; obtain rfl : WB = w7 := hw7.symm)
   refine hK.out _ _ (fun _ _ => SB) ?_
   clear hK K
   simp only [List.setIfInBounds_toArray, List.set_cons_zero, List.set_cons_succ]
   refine wpAnyK_take 12 70 (v := ?vm12) rfl (by kernel_rfl) (by kernel_rfl) (by kernel_rfl) (by kernel_rfl) (by kernel_rfl) (fun _ _ _ h => h) rfl (Or.inl ⟨by rfl, ?hm12⟩) (by assumption) ?rm12
   case hm12 => (intro w hSw; obtain ⟨s0, s1⟩ := hSw; go_simp; with_reducible rfl)
   simp only [Act.put, List.setIfInBounds_toArray, List.set_cons_zero, List.set_cons_succ]
   refine wpAnyK_one 13 (by kernel_rfl) rfl (fun K hK => ?_)
   go_simp
   refine hK.out _ _ (fun h => absurd rfl h) ?_
   clear hK K
   simp only [List.setIfInBounds_toArray, List.set_cons_zero, List.set_cons_succ]
   refine wpAnyK_done (by kernel_rfl) ?_ _
   have b0 := (NQ.out _ BWW.out).1
   have b5 := (NQ.out _ BWW.out).2.2.2.2.2
   obtain ⟨d0, d1, d2, d3⟩ := (show WB.cell? ⟨C, 0, none⟩ = some (.int .u8 1) ∧ WB.cell? ⟨C, 1, none⟩ = some (.complex .f64 0 0) ∧ WB.cell? ⟨C, 2, none⟩ = some (.complex .f64 xs xt) ∧ WB.cell? ⟨C, 3, none⟩ = some (.float .f64 0) from ⟨ME.out.sw.st.c0, ME.out.sw.st.c1, ME.out.sw.st.c2, ME.out.sw.st.c3⟩)
   have f0 := ME.out.sw.fz 0
   have f1 := ME.out.sw.fz 1
   have f3 := ME.out.sw.fz 3
   have c0 := ME.out.lo.c0
   have cfz := ME.out.lo.fz
   clear SB
   have HK := hide (And.intro hk (And.intro g3 (And.intro hI18 hes)))
   rcases Ff.mod3 n0 with hκ | hκ | hκ
   ·
    have MV := ME
    have lA := MV.out.lo.grow (bw_alloc WB (.cells #[.int .u8 1, .complex .f64 0 0, .complex .f64 xs xt, .float .f64 0] 29))
    obtain ⟨v', V2, e1, o1, g1, q1⟩ := Ff.pushE (D := WB.heap.size) (e := ⟨1, 0, 0, xs, xt, 0, (0, 0), (js, jt)⟩) 22 lA.own (by simp) (by simp) (by simp) (by simp; try rfl) (by have := HK.out.1; omega) (Nat.le_of_lt lA.lt)
    have ER := hide e1
    have R := hide (lA.push (by have := HF.out; omega) g1 o1 q1 ⟨⟨El.wP_thou 0 (by decide), El.wP_thou 0 (by decide)⟩, ⟨PS.out.1, PS.out.2.1⟩, ⟨w_nought 1074, w_nought 1074⟩, ⟨PS.out.1.1, PS.out.2.1.1⟩, ⟨Nat.zero_le _, Nat.zero_le _⟩, ⟨PS.out.2.2.2.2.1, PS.out.2.2.2.2.2.1⟩, Or.inl ⟨rfl, rfl, rfl, rfl, rfl⟩⟩ (fun e => absurd (show (1 : Int) = 3 from e) (by decide)))
    have x0 := g1.cell lA.c0 (fun e => lA.nF e.symm)
    have xz : V2.frozen? ⟨F, 0, none⟩ = false := by
     have h := R.out.fz
     rw [World.frozen?_setCell] at h
     exact h
    obtain ⟨p1, k1, k2, hv'⟩ := Ff.own_form4 o1
    rw [hv'] at ER R
    clear e1 o1 g1 q1 lA hv'
    --CUT6
    go_wp2_with (first
     | (at_builtin; refine ff_append rfl _ _ 22 rfl _ _ _ rfl rfl _ ER.out ?_)
     | go_in)
    clear ER
    go_wp2
    go_roundw
    case rel => exact ⟨k + 1, _, _, by have := HK.out.2.1; omega, by rw [show ((6 * (k + 1) : Nat) : Int) = (I : Int) + 6 by have := HI.out; omega], by simp [HK.out.2.2.2], R⟩
    case measure => have := HK.out.2.2.1; simp [intOf]; omega
   ·
    obtain ⟨j5, hj5, s5⟩ := small16 n5 1 (by decide)
    have hj5' : j5.natAbs ≤ 1 := hj5
    have S5 := hide s5
    have AD := El.ar (Ff.pow_of (j := j5) (by omega))
    have AB := hide (fun wz => abs_any (floatOfInt .f64 j5) wz (El.wP_thou j5 (by omega)).lt)
    obtain ⟨pn, hpn⟩ : ∃ pn, 1 + j5.natAbs = pn := ⟨_, rfl⟩
    rw [hpn] at AD
    have HPN := hide (show 1 ≤ pn ∧ pn ≤ 1 + 1 by omega)
    clear s5 hj5 hj5' hpn
    have g5w : IntKind.i64.wrap ((I : Int) + 5) = (I : Int) + 5 := by rw [IntKind.wrap_i64]; omega
    have tn5 : ((I : Int) + 5).toNat = I + 5 := by omega
    have zp5 : 0 ≤ (I : Int) + 5 := by omega
    generalize floatOfInt .f64 j5 = x5 at *
    have MV : Hid (Ff.Me1 w3 (((WB.setCell ⟨C, 0, none⟩ (.int .u8 3)).setCell ⟨C, 1, none⟩ (.complex .f64 xa xb)).setCell ⟨C, 3, none⟩ (.float .f64 (Ff.pw pn))) F C k (jx, jy) es (.slice ea' k ecap) 3 xa xb xs xt (Ff.pw pn)) := by
     have h := ME.out
     have l := ((h.lo.set (i := 0) (v := .int .u8 3) h.cF h.cE h.cW).set (i := 1) (v := .complex .f64 xa xb) h.cF h.cE h.cW).set (i := 3) (v := .float .f64 (Ff.pw pn)) h.cF h.cE h.cW
     refine ⟨l, ⟨⟨by have := h.sw.st.lt; simpa [World.setCell] using this, ?_, ?_, ?_, ?_⟩, fun i => by simp only [World.frozen?_setCell]; exact h.sw.fz i⟩, h.cF, h.cE, h.cW⟩
     · rw [Ff.set_off (by decide), Ff.set_off (by decide)]; exact Ff.set_any h.sw.st.c0
     · rw [Ff.set_off (by decide)]; exact Ff.set_any (by rw [Ff.set_off (by decide)]; exact h.sw.st.c1)
     · rw [Ff.set_off (by decide), Ff.set_off (by decide), Ff.set_off (by decide)]; exact h.sw.st.c2
     · exact Ff.set_any (by rw [Ff.set_off (by decide), Ff.set_off (by decide)]; exact h.sw.st.c3)
    --CUT1
    have v0 := MV.out.sw.st.c0
    have v1 := MV.out.sw.st.c1
    have v2 := MV.out.sw.st.c2
    have v3 := MV.out.sw.st.c3
    have vF := MV.out.lo.c0
    have vz := MV.out.lo.fz
    have EQ := El.ceq_run (g := (ja, jb)) (h := (jx, jy)) ⟨PS.out.2.2.1.1, PS.out.2.2.2.1.1⟩ ⟨PX.out.1, PY.out.1⟩
    --CUT2
    go_wp2_with fail
    --CUT3
    refine (S5.out _).mono ?_
    rintro e' w7 ⟨rfl, hw7⟩
    obtain rfl : WB = w7 := hw7.symm
    clear hκ hk g3 g5 hgo r0 r1 r2 r3 r4 wg1 wg2 wg3 wg4 tn1 tn2 tn3 tn4 zp1 zp2 zp3 zp4 g5w tn5 zp5 hes hlen
    go_wp2_with fail
    --CUT4
    refine (AB.out _).mono ?_
    rintro e' w7 ⟨rfl, hw7⟩
    obtain rfl : WB = w7 := hw7.symm
    --CUT5
    obtain ⟨VV, hVV⟩ : ∃ VV, (((WB.setCell ⟨C, 0, none⟩ (.int .u8 3)).setCell ⟨C, 1, none⟩ (.complex .f64 xa xb)).setCell ⟨C, 3, none⟩ (.float .f64 (Ff.pw pn))) = VV := ⟨_, rfl⟩
    rw [hVV] at MV
    have HVV := hide hVV
    clear hVV
    by_cases hz : (ja, jb) = (jx, jy)
    ·
     simp only [decide_eq_true hz] at EQ
     go_wp2
     go_ret
     exact ⟨rfl, by rw [HVV.out]; exact bw_trans B1.out MV.out.lo.bw⟩
    ·
     simp only [decide_eq_false hz] at EQ
     have HZ := hide hz
     clear hz
     have lA := MV.out.lo.grow (bw_alloc VV (.cells #[.int .u8 3, .complex .f64 xa xb, .complex .f64 xs xt, .float .f64 (Ff.pw pn)] 29))
     obtain ⟨v', V2, e1, o1, g1, q1⟩ := Ff.pushE (D := VV.heap.size) (e := ⟨3, xa, xb, xs, xt, pn, (ja, jb), (js, jt)⟩) 22 lA.own (by simp) (by simp) (by simp) (by simp; try rfl) (by have := HK.out.1; omega) (Nat.le_of_lt lA.lt)
     have ER := hide e1
     have R := hide (lA.push (by have := HF.out; omega) g1 o1 q1 ⟨⟨PS.out.2.2.1, PS.out.2.2.2.1⟩, ⟨PS.out.1, PS.out.2.1⟩, ⟨PS.out.2.2.1.1, PS.out.2.2.2.1.1⟩, ⟨PS.out.1.1, PS.out.2.1.1⟩, ⟨PS.out.2.2.2.2.2.2.1, PS.out.2.2.2.2.2.2.2⟩, ⟨PS.out.2.2.2.2.1, PS.out.2.2.2.2.2.1⟩, Or.inr (Or.inl ⟨rfl, HPN.out.1, HPN.out.2⟩)⟩ (fun _ => HZ.out))
     have x0 := g1.cell lA.c0 (fun e => lA.nF e.symm)
     have xz : V2.frozen? ⟨F, 0, none⟩ = false := by
      have h := R.out.fz
      rw [World.frozen?_setCell] at h
      exact h
     obtain ⟨p1, k1, k2, hv'⟩ := Ff.own_form4 o1
     rw [hv'] at ER R
     clear e1 o1 g1 q1 lA hv'
     --CUT6
     have hsz : VV.heap.size = WB.heap.size := by rw [← HVV.out]; simp [World.setCell]
     rw [hsz, ← HVV.out] at ER
     go_wp2_with (first
      | (at_builtin; refine ff_append rfl _ _ 22 rfl _ _ _ rfl rfl _ ER.out ?_)
      | go_in)
     clear ER
     go_wp2
     go_roundw
     case rel => exact ⟨k + 1, _, _, by have := HK.out.2.1; omega, by rw [show ((6 * (k + 1) : Nat) : Int) = (I : Int) + 6 by have := HI.out; omega], by simp [HK.out.2.2.2], R⟩
     case measure => have := HK.out.2.2.1; simp [intOf]; omega
   ·
    obtain ⟨j5, hj5, s5⟩ := small16 n5 2 (by decide)
    have hj5' : j5.natAbs ≤ 2 := hj5
    have S5 := hide s5
    have AD := El.ar (Ff.pow_of (j := j5) (by omega))
    have AB := hide (fun wz => abs_any (floatOfInt .f64 j5) wz (El.wP_thou j5 (by omega)).lt)
    obtain ⟨pn, hpn⟩ : ∃ pn, 1 + j5.natAbs = pn := ⟨_, rfl⟩
    rw [hpn] at AD
    have HPN := hide (show 1 ≤ pn ∧ pn ≤ 2 + 1 by omega)
    clear s5 hj5 hj5' hpn
    have g5w : IntKind.i64.wrap ((I : Int) + 5) = (I : Int) + 5 := by rw [IntKind.wrap_i64]; omega
    have tn5 : ((I : Int) + 5).toNat = I + 5 := by omega
    have zp5 : 0 ≤ (I : Int) + 5 := by omega
    generalize floatOfInt .f64 j5 = x5 at *
    have MV : Hid (Ff.Me1 w3 (((WB.setCell ⟨C, 0, none⟩ (.int .u8 4)).setCell ⟨C, 1, none⟩ (.complex .f64 xa xb)).setCell ⟨C, 3, none⟩ (.float .f64 (Ff.pw pn))) F C k (jx, jy) es (.slice ea' k ecap) 4 xa xb xs xt (Ff.pw pn)) := by
     have h := ME.out
     have l := ((h.lo.set (i := 0) (v := .int .u8 4) h.cF h.cE h.cW).set (i := 1) (v := .complex .f64 xa xb) h.cF h.cE h.cW).set (i := 3) (v := .float .f64 (Ff.pw pn)) h.cF h.cE h.cW
     refine ⟨l, ⟨⟨by have := h.sw.st.lt; simpa [World.setCell] using this, ?_, ?_, ?_, ?_⟩, fun i => by simp only [World.frozen?_setCell]; exact h.sw.fz i⟩, h.cF, h.cE, h.cW⟩
     · rw [Ff.set_off (by decide), Ff.set_off (by decide)]; exact Ff.set_any h.sw.st.c0
     · rw [Ff.set_off (by decide)]; exact Ff.set_any (by rw [Ff.set_off (by decide)]; exact h.sw.st.c1)
     · rw [Ff.set_off (by decide), Ff.set_off (by decide), Ff.set_off (by decide)]; exact h.sw.st.c2
     · exact Ff.set_any (by rw [Ff.set_off (by decide), Ff.set_off (by decide)]; exact h.sw.st.c3)
    --CUT1
    have v0 := MV.out.sw.st.c0
    have v1 := MV.out.sw.st.c1
    have v2 := MV.out.sw.st.c2
    have v3 := MV.out.sw.st.c3
    have vF := MV.out.lo.c0
    have vz := MV.out.lo.fz
    have EQ := El.ceq_run (g := (ja, jb)) (h := (jx, jy)) ⟨PS.out.2.2.1.1, PS.out.2.2.2.1.1⟩ ⟨PX.out.1, PY.out.1⟩
    --CUT2
    go_wp2_with fail
    --CUT3
    refine (S5.out _).mono ?_
    rintro e' w7 ⟨rfl, hw7⟩
    obtain rfl : WB = w7 := hw7.symm
    clear hκ hk g3 g5 hgo r0 r1 r2 r3 r4 wg1 wg2 wg3 wg4 tn1 tn2 tn3 tn4 zp1 zp2 zp3 zp4 g5w tn5 zp5 hes hlen
    go_wp2_with fail
    --CUT4
    refine (AB.out _).mono ?_
    rintro e' w7 ⟨rfl, hw7⟩
    obtain rfl : WB = w7 := hw7.symm
    --CUT5
    obtain ⟨VV, hVV⟩ : ∃ VV, (((WB.setCell ⟨C, 0, none⟩ (.int .u8 4)).setCell ⟨C, 1, none⟩ (.complex .f64 xa xb)).setCell ⟨C, 3, none⟩ (.float .f64 (Ff.pw pn))) = VV := ⟨_, rfl⟩
    rw [hVV] at MV
    have HVV := hide hVV
    clear hVV
    have lA := MV.out.lo.grow (bw_alloc VV (.cells #[.int .u8 4, .complex .f64 xa xb, .complex .f64 xs xt, .float .f64 (Ff.pw pn)] 29))
    obtain ⟨v', V2, e1, o1, g1, q1⟩ := Ff.pushE (D := VV.heap.size) (e := ⟨4, xa, xb, xs, xt, pn, (ja, jb), (js, jt)⟩) 22 lA.own (by simp) (by simp) (by simp) (by simp; try rfl) (by have := HK.out.1; omega) (Nat.le_of_lt lA.lt)
    have ER := hide e1
    have R := hide (lA.push (by have := HF.out; omega) g1 o1 q1 ⟨⟨PS.out.2.2.1, PS.out.2.2.2.1⟩, ⟨PS.out.1, PS.out.2.1⟩, ⟨PS.out.2.2.1.1, PS.out.2.2.2.1.1⟩, ⟨PS.out.1.1, PS.out.2.1.1⟩, ⟨PS.out.2.2.2.2.2.2.1, PS.out.2.2.2.2.2.2.2⟩, ⟨PS.out.2.2.2.2.1, PS.out.2.2.2.2.2.1⟩, Or.inr (Or.inr ⟨rfl, HPN.out.1, HPN.out.2⟩)⟩ (fun e => absurd (show (4 : Int) = 3 from e) (by decide)))
    have x0 := g1.cell lA.c0 (fun e => lA.nF e.symm)
    have xz : V2.frozen? ⟨F, 0, none⟩ = false := by
     have h := R.out.fz
     rw [World.frozen?_setCell] at h
     exact h
    obtain ⟨p1, k1, k2, hv'⟩ := Ff.own_form4 o1
    rw [hv'] at ER R
    clear e1 o1 g1 q1 lA hv'
    --CUT6
    have hsz : VV.heap.size = WB.heap.size := by rw [← HVV.out]; simp [World.setCell]
    rw [hsz, ← HVV.out] at ER
    go_wp2_with (first
     | (at_builtin; refine ff_append rfl _ _ 22 rfl _ _ _ rfl rfl _ ER.out ?_)
     | go_in)
    clear ER
    go_wp2
    go_roundw
    case rel => exact ⟨k + 1, _, _, by have := HK.out.2.1; omega, by rw [show ((6 * (k + 1) : Nat) : Int) = (I : Int) + 6 by have := HI.out; omega], by simp [HK.out.2.2.2], R⟩
    case measure => have := HK.out.2.2.1; simp [intOf]; omega
end Go.Proofs.YtjpllggchjgjpaaGreat

