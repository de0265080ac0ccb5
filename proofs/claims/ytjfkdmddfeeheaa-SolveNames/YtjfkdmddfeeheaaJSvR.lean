/-
  OWN TEXT: eddylaw14.SolveNames.
-/
import Derived.Test.YtjfkdmddfeeheaaJSvMToSvQ
import Derived.Test.YtjfkdmddfeeheaaJXxAToXxD
namespace Go.Proofs.Ytjfkdmddfeeheaa
open Go.ChangeShapes Go.WideShapes Go.ChangeAt Go.RowKit
set_option linter.unusedVariables false
attribute [local go_sem] frombits_call tobits_call run_neg

attribute [local go_sem] stof14 store14
namespace Sv
theorem fi_lt : ∀ i, i < 129 → fi i < 18446744073709551616 := by
  have h : ∀ i : Fin 129, fi i.val < 18446744073709551616 := by decide +kernel
  exact fun i hi => h ⟨i, hi⟩
theorem zf_get (n k : Nat) (h : k < n) : (zf n)[k]? = some (.float .f64 0) := by
  have e := congrArg (·[k]?) (zf_list n)
  simp only [fv_get _ _ _ h] at e
  simpa using e
/-- twos and noughts -/
theorem dg_c (i j : Nat) : Fl.bitsF (dg i j) = dg i j := by unfold dg; split <;> decide
/-- the 129 rows, k of them cut to 128 -/
structure Mh (w : World) (base R cap k : Nat) (f : Nat → Nat) : Prop where
  own : w.ownsRow base 24 1 (.slice (some ⟨R, 0, none⟩) 129 cap) 129 ((List.range 129).map fun i => .slice (some ⟨f i, 0, none⟩) (if i < k then 128 else 129) 129)
  row : ∀ i, i < 129 → Rw w base (f i) 129 129 (dg i)
  far : ∀ i, i < 129 → f i ≠ R
theorem Mh.bw {w w' : World} {base R cap k : Nat} {f : Nat → Nat} (h : Mh w base R cap k f) (b : Bw w w') : Mh w' base R cap k f :=
  ⟨h.own.kept (gb_bw b none) (by simp [Value.ownBlock]), fun i hi => (h.row i hi).bw b, h.far⟩
theorem Mh.cell {w : World} {base R cap k : Nat} {f : Nat → Nat} (h : Mh w base R cap k f) {i : Nat} (hi : i < 129) : w.cell? ⟨R, i, none⟩ = some (.slice (some ⟨f i, 0, none⟩) (if i < k then 128 else 129) 129) := by
  rw [h.own.cellAt i (by omega)]
  rw [List.getElem?_map, List.getElem?_range hi]
  rfl
theorem own_cap {w : World} {base : Nat} {e : TypeId} {size R n cap : Nat} {xs : List Value} (h : w.ownsRow base e size (.slice (some ⟨R, 0, none⟩) n cap) n xs) : n ≤ cap := by
  rcases h.2 with ⟨q, _⟩ | ⟨g', cap', cur, q, _, _, l, _⟩
  · simp at q
  · simp only [Value.slice.injEq, true_and] at q
    omega
theorem Mh.lm {w : World} {base R cap k : Nat} {f : Nat → Nat} (h : Mh w base R cap k f) : Lm w (.slice (some ⟨R, 0, none⟩) 128 cap) 128 (fun i => if i < k then 128 else 129) dg := by
  refine Or.inr ⟨R, 0, cap, rfl, by have := own_cap h.own; omega, (h.own.lt R rfl).2, fun i hi => ⟨_, by rw [Nat.zero_add]; exact h.cell (by omega), ?_⟩⟩
  refine Or.inr ⟨f i, 0, 129, rfl, by show (if i < k then 128 else 129) ≤ 129; split <;> omega, ?_⟩
  have z := (h.row i (by omega)).rd
  show Rd w (f i) 0 (if i < k then 128 else 129) (dg i)
  split
  · exact z.less (by omega)
  · exact z
theorem Mh.next {w : World} {base R cap k : Nat} {f : Nat → Nat} (h : Mh w base R cap k f) (hk : k < 129) : Mh (w.setCell ⟨R, k, none⟩ (.slice (some ⟨f k, 0, none⟩) 128 129)) base R cap (k + 1) f ∧ w.grownBy (w.setCell ⟨R, k, none⟩ (.slice (some ⟨f k, 0, none⟩) 128 129)) (some R) := by
  obtain ⟨o1, g1⟩ := h.own.stored k (.slice (some ⟨f k, 0, none⟩) 128 129)
  rw [range_set] at o1
  refine ⟨⟨?_, fun i hi => (h.row i hi).gb g1 (by simp only [ne_eq, Option.some.injEq]; exact h.far i hi), h.far⟩, g1⟩
  have e : (fun t => if t = k then Value.slice (some ⟨f k, 0, none⟩) 128 129 else Value.slice (some ⟨f t, 0, none⟩) (if t < k then 128 else 129) 129) = fun i => Value.slice (some ⟨f i, 0, none⟩) (if i < k + 1 then 128 else 129) 129 := by
    funext t
    by_cases e1 : t = k
    · subst e1; rw [if_pos rfl, if_pos (by omega)]
    · rw [if_neg e1]
      by_cases e2 : t < k
      · rw [if_pos e2, if_pos (by omega)]
      · rw [if_neg e2, if_neg (by omega)]
  rw [e] at o1
  exact o1
end Sv
theorem solveErr {w : World} {va vb : Value} {n nb : Nat} {l : Nat → Nat} {A : Sv.M} {b : Nat → Nat} (ha : Sv.Lm w va n l A) (hb : Sv.Ls w vb nb b) (hn : n < 1000000) (hnb : nb < 1000000) {c : Int} (hc : Sv.solE n l A nb b = c) (h0 : c ≠ 0) :
    Calls Try.prog 8 #[va, vb] w fun e w' => e = .returned (.tuple #[.slice none 0 0, .int .i64 c]) ∧ Bw w w' := by
  refine (solve14 ha hb hn hnb).mono ?_
  rintro e w' ⟨v, he, hbw, ⟨_, rfl⟩ | ⟨h, _⟩⟩
  · rw [hc] at he; exact ⟨he, hbw⟩
  · rw [hc] at h; exact absurd h h0
theorem solveOk {w : World} {va vb : Value} {n nb : Nat} {l : Nat → Nat} {A : Sv.M} {b : Nat → Nat} (ha : Sv.Lm w va n l A) (hb : Sv.Ls w vb nb b) (hn : n < 1000000) (hnb : nb < 1000000) (hc : Sv.solE n l A nb b = 0) :
    Calls Try.prog 8 #[va, vb] w fun e w' => ∃ B, e = .returned (.tuple #[.slice (some ⟨B, 0, none⟩) n n, .int .i64 0]) ∧ Sv.Rw w' w.heap.size B n n (Sv.solX n A b) ∧ Bw w w' := by
  refine (solve14 ha hb hn hnb).mono ?_
  rintro e w' ⟨v, he, hbw, ⟨h, _⟩ | ⟨h, B, rfl, hr⟩⟩
  · exact absurd hc h
  · rw [hc] at he; exact ⟨B, he, hr, hbw⟩
theorem pivErr {w : World} {va : Value} {n : Nat} {l : Nat → Nat} {A : Sv.M} (ha : Sv.Lm w va n l A) (hn : n < 1000000) {c : Int} (hc : Sv.pivE n l A = c) (h0 : c ≠ 0) :
    Calls Try.prog 9 #[va] w fun e w' => e = .returned (.tuple #[.slice none 0 0, .int .i64 c]) ∧ Bw w w' := by
  refine (pivots14 ha hn).mono ?_
  rintro e w' ⟨v, he, hbw, ⟨_, rfl⟩ | ⟨h, _⟩⟩
  · rw [hc] at he; exact ⟨he, hbw⟩
  · rw [hc] at h; exact absurd h h0
theorem Sv.solE_of {n nb : Nat} {l : Nat → Nat} {A : Sv.M} {b : Nat → Nat} {c : Int} (h : Sv.chkA n l A 1 (fun _ => nb) (fun _ => b) = c) (h0 : c ≠ 0) : Sv.solE n l A nb b = c := by unfold Sv.solE; rw [h, if_neg h0]
theorem nan14 (w : World) : Calls Try.prog 11 #[] w fun e w' => e = .returned (.float .f64 9221120237041090561) ∧ w' = w := by
  go_enter Try.func11, Try.ntmps11
  go_wp2
  go_ret
  exact ⟨rfl, rfl⟩
theorem inf14 (w : World) : Calls Try.prog 12 #[.int .i64 1] w fun e w' => e = .returned (.float .f64 9218868437227405312) ∧ w' = w := by
  go_enter Try.func12, Try.ntmps12
  go_wp2
  go_ret
  exact ⟨rfl, rfl⟩
theorem Sv.c_eq {x v : Nat} (h : Fl.bitsF x = v) (hv : v ≠ 9221120237041090560) : x = v := by
  by_cases z : Fl.nan x = true
  · rw [Sv.c_nan z] at h; exact absurd h.symm hv
  · rw [Sv.c_num (Bool.eq_false_iff.2 z)] at h; exact h
theorem Sv.chkB_one (n : Nat) (b : Nat → Nat) (nb : Nat) (h : nb = n) (hf : Sv.fin b n) : Sv.chkB n (fun _ => nb) (fun _ => b) 1 = 0 := by
  unfold Sv.chkB Sv.chkL
  rw [if_pos (by rfl), if_pos h, if_pos hf]
theorem Sv.solE_da : Sv.solE 128 (fun _ => 128) Sv.dg 128 (fun i => Sv.fi i) = 0 := by
  have h1 : Sv.chk 128 (fun _ => 128) Sv.dg = 0 := Sv.chk_ok (by omega) (fun _ _ => rfl) (fun i _ j _ => by unfold Sv.dg; split <;> decide)
  unfold Sv.solE
  rw [Sv.chkA_yes h1, Sv.chkB_one 128 _ 128 rfl (fun j hj => Sv.o_fin (Sv.ok_fi j hj).1), if_pos rfl, if_pos (show Sv.good 128 (Sv.aug 128 Sv.dg fun i => Sv.fi i) 128 from Sv.good_da (Nat.le_refl _)), if_pos Sv.fin_sol]
theorem Sv.solE_long (b : Nat → Nat) : Sv.solE 128 (fun _ => 128) Sv.dg 129 b = 140 := by
  have h1 : Sv.chk 128 (fun _ => 128) Sv.dg = 0 := Sv.chk_ok (by omega) (fun _ _ => rfl) (fun i _ j _ => by unfold Sv.dg; split <;> decide)
  refine Sv.solE_of ?_ (by decide)
  rw [Sv.chkA_yes h1]
  rfl
theorem Sv.detE_da : Sv.detE 128 (fun _ => 128) Sv.da = 0 ∧ Sv.detX 128 (fun _ => 128) Sv.da = 1151 * 4503599627370496 := by
  have h1 : Sv.chk 128 (fun _ => 128) Sv.da = 0 := Sv.chk_ok (by omega) (fun _ _ => rfl) (fun i hi j _ => Sv.o_fin (Sv.ok_da hi))
  unfold Sv.detE Sv.detX
  rw [h1, if_pos rfl, if_pos rfl]
  exact ⟨Sv.det_da.2, Sv.det_da.1⟩
def Sv.l1 : Nat := 4607182418800017408
def Sv.l16 : Nat := 4846369599423283200
theorem Sv.small7 : Sv.solE 2 (Sv.two 2 1) (Sv.two (Sv.lst [9221120237041090561, 4607182418800017408]) (Sv.lst [4607182418800017408])) 0 (fun _ => 0) = 140 := by decide +kernel
theorem Sv.small8 : Sv.solE 1 (fun _ => 1) (fun _ => Sv.lst [9218868437227405312]) 1 (Sv.lst [4607182418800017408]) = 5 := by decide +kernel
theorem Sv.small9 : Sv.solE 1 (fun _ => 1) (fun _ => Sv.lst [1]) 1 (Sv.lst [4607182418800017408]) = 141 := by decide +kernel
theorem Sv.small10 : Sv.offE 2 (Sv.two 2 2) (Sv.two (Sv.lst [4607182418800017408, 4607182418800017408]) (Sv.lst [4607182418800017408, 4607182418800017408])) 2 (Sv.lst [4607182418800017408, 4846369599423283200]) 2 (Sv.lst [4846369599423283200, 4846369599423283200]) = 0 ∧ Sv.offX 2 (Sv.two 2 2) (Sv.two (Sv.lst [4607182418800017408, 4607182418800017408]) (Sv.lst [4607182418800017408, 4607182418800017408])) 2 (Sv.lst [4607182418800017408, 4846369599423283200]) 2 (Sv.lst [4846369599423283200, 4846369599423283200]) = 0 := by decide +kernel
theorem Sv.half9 : Sv.op .quo (Sv.fi 9) 4611686018427387904 = 4616752568008179712 := by decide +kernel
set_option maxHeartbeats 8000000 in
set_option maxRecDepth 10000 in
theorem solvenames_any (w : World) : Calls Try.prog 3 #[] w fun e w' => e = .returned (.bool true) ∧ Below w.heap.size w w' := by
  obtain ⟨i0, hi0, hz⟩ := Option.map_eq_some_iff.1 Sv.info_r
  simp only [Prod.mk.injEq] at hz
  go_enter Try.func3, Try.ntmps3
  go_wp2_with fail
  refine (alive14_ev _ (fun g l h => by cases h) (fun g l h => by cases h)).mono ?_
  rintro e' w1 ⟨rfl, b1⟩
  replace b1 : Bw w w1 := b1
  have hmk := Sv.makeF (129 : Int) (129 : Int) 129 129 rfl rfl (by omega) (by omega)
  have hb0 := Sv.Rw.made w1 (base := w.heap.size) b1.size 129 129 (by omega) (by omega)
  have HX := Sv.hid (And.intro hb0 (bw_trans b1 (Sv.bw_new w1 (.cells (Sv.zf 129) 25))))
  clear b1 hb0
  go_wp2
  generalize w1.alloc (.cells (Sv.zf 129) 25) = W0 at *
  generalize w1.heap.size = Bb at *
  go_loopw [2, 4] (fun v i wr => ∃ (k : Nat) (f : Nat → Nat), k ≤ 129 ∧ i = .int .i64 k ∧ Sv.Mg wr w.heap.size v k 129 129 f Sv.dg ∧ Sv.Rw wr w.heap.size Bb 129 129 (fun j => if j < k then Fl.bitsF (Sv.fi j) else 0) ∧ some Bb ≠ v.ownBlock ∧ (∀ i, i < k → f i ≠ Bb) ∧ Bw w wr) (fun _ i _ => 129 - (intOf i).toNat)
  case atStart => exact ⟨0, fun _ => 0, by omega, rfl, Sv.Mg.nil _ _ _ _ _ _, HX.out.1.ext (fun j hj => by rw [if_neg (by omega)]), by simp [Value.ownBlock], fun i hi => absurd hi (by omega), HX.out.2⟩
  case round =>
    clear HX W0
    obtain ⟨k, f, hk, rfl, hMg, hB, hne, hfB, hbw⟩ := hrel
    by_cases hk1 : k < 129
    · have hk2 : (k : Int) ≤ 128 := by omega
      have hk3 : (k : Int) < 129 := by omega
      have hzk := Sv.zf_get 129 k hk1
      have hBl := hB.lt
      have hBlt : Bb < wr.heap.size := hBl.2
      obtain ⟨y, eB, _, _⟩ := hB.cell hk1
      have eF := hB.frozen k
      have b2 := Sv.bw_new wr (.cells (Sv.zf 129) 25)
      obtain ⟨r1, g1⟩ := (Sv.Rw.made wr (base := w.heap.size) hbw.size 129 129 (by omega) (by omega)).set k 4611686018427387904 (by decide)
      rw [World.setCell_alloc_at _ _ _ _ _ rfl] at r1 g1
      have b3 : Bw wr (wr.alloc (.cells ((Sv.zf 129).setIfInBounds k (.float .f64 4611686018427387904)) 25)) := Sv.bw_new _ _
      obtain ⟨q, hq⟩ : ∃ q, floatOfInt .f64 (k : Int) = q := ⟨_, rfl⟩
      have hq2 : Sv.fi k = q := hq
      obtain ⟨r2, g2⟩ := (hB.bw b3).set k q (by rw [← hq2]; exact Sv.fi_lt k hk1)
      have hM2 := (hMg.bw b3).gb g2 (Or.inr (fun e => hne e.symm)) (fun i hi => by simp only [ne_eq, Option.some.injEq]; exact hfB i hi)
      have r3 := r1.gb g2 (by simp only [ne_eq, Option.some.injEq]; omega)
      rw [World.setCell_alloc_past _ _ _ _ hBlt] at r2 g2 hM2 r3
      have b4 : Bw w ((wr.setCell ⟨Bb, k, none⟩ (.float .f64 q)).alloc (.cells ((Sv.zf 129).setIfInBounds k (.float .f64 4611686018427387904)) 25)) := Sv.gb_below (bw_trans hbw b3) g2 (bw_trans hbw b3).size hBl.1
      have z0 : ∀ (w : World) (o : Obj), (w.alloc o).heap.size = w.heap.size + 1 := fun w o => by simp
      have z1 : ∀ (w : World) (a : Addr) (v : Value), (w.setCell a v).heap.size = w.heap.size := fun w a v => by simp [World.setCell]
      have hgl : ∀ x, u2.ownBlock = some x → x < wr.heap.size := fun x hx => (hMg.own.lt x hx).2
      have hfl : ∀ i, i < k → f i < wr.heap.size := fun i hi => (hMg.row i hi).lt.2
      obtain ⟨W2, eW2⟩ : ∃ W2, (wr.setCell ⟨Bb, k, none⟩ (.float .f64 q)).alloc (.cells ((Sv.zf 129).setIfInBounds k (.float .f64 4611686018427387904)) 25) = W2 := ⟨_, rfl⟩
      have hW2 : W2.heap.size = wr.heap.size + 1 := by rw [← eW2, z0, z1]
      rw [eW2] at r2 g2 hM2 r3 b4
      have b5 := Sv.bw_new W2 (.cells #[.slice (some ⟨wr.heap.size, 0, none⟩) 129 129] 24)
      have KA := Sv.hid (And.intro (hM2.bw b5) (And.intro (r2.bw b5) (And.intro (r3.bw b5) (And.intro (bw_trans b4 b5) (And.intro hgl (And.intro hfl (And.intro hne hfB)))))))
      have HSZ : Hid (w.heap.size ≤ (W2.alloc (.cells #[.slice (some ⟨wr.heap.size, 0, none⟩) 129 129] 24)).heap.size ∧ (W2.alloc (.cells #[.slice (some ⟨wr.heap.size, 0, none⟩) 129 129] 24)).heap.size = wr.heap.size + 2) := by
        show _ ∧ _
        rw [z0, hW2]
        have := hbw.size
        omega
      have EW2 := Sv.hid (And.intro eW2 (And.intro hW2 hq2))
      clear r1 g1 r2 g2 hM2 r3 b2 b3 b4 b5 z0 z1 hMg hB hne hfB hbw hBl hgl hfl eW2 hW2 hq2
      go_wp2_with (first
        | (at_builtin; rw [EW2.out.1]; refine wpList_append_lies _ (by rfl) _ _ 23 (by rfl) w.heap.size 24 i0 (.slice none 0 0) 1 24 Sv.und_r hi0 hz.1 hz.2.1 hz.2.2 rfl (by decide) _ k _ (by rfl) KA.out.1.own ⟨wr.heap.size + 1, 0, none⟩ 1 1 [.slice (some ⟨wr.heap.size, 0, none⟩) 129 129] (by rfl) rfl (by have z := cell_one_new W2 (.slice (some ⟨wr.heap.size, 0, none⟩) 129 129) 24; rw [EW2.out.2.1] at z; exact z) (fun u hu => by simp only [List.mem_singleton] at hu; subst hu; rfl) (by decide) (by unfold maxLen; omega) (by omega) HSZ.out.1 (wr.heap.size + 2) HSZ.out.2 ?_)
        | go_in)
      intro g cap w3 hown hgrow hat hlt
      obtain ⟨hM, hr2, hr3, hb, hgl, hfl, hne, hfB⟩ := KA.out
      have hnx := hM.next (N := wr.heap.size + 2) (v' := .slice (some ⟨g, 0, none⟩) (k + 1) cap) hr3 (fun e => by have := hgl _ e.symm; omega) (fun i hi => by have := hfl i hi; omega) hown hgrow (by rcases hat with z | z; exact Or.inl z; exact Or.inr (by rw [z]; rfl)) (by rw [HSZ.out.2]; exact Nat.le_refl _)
      have KN : Hid (∃ f', Sv.Mg w3 w.heap.size (.slice (some ⟨g, 0, none⟩) (k + 1) cap) (k + 1) 129 129 f' Sv.dg ∧ Sv.Rw w3 w.heap.size Bb 129 129 (fun j => if j < k + 1 then Fl.bitsF (Sv.fi j) else 0) ∧ some Bb ≠ (Value.slice (some ⟨g, 0, none⟩) (k + 1) cap).ownBlock ∧ (∀ i, i < k + 1 → f' i ≠ Bb) ∧ Bw w w3) := by
        refine ⟨_, hnx.ext (fun i j hi hj => ?_), (hr2.gb hgrow hne).ext (fun j hj => ?_), ?_, fun i hi => ?_, ?_⟩
        · by_cases z : i = k
          · subst z
            simp only [if_true]
            unfold Sv.dg
            by_cases y : j = i
            · rw [if_pos y, if_pos y.symm]; decide
            · rw [if_neg y, if_neg (fun e => y e.symm)]
          · simp only [if_neg z]
        · by_cases z : j = k
          · subst z
            rw [if_pos rfl, if_pos (by omega), EW2.out.2.2]
          · rw [if_neg z]
            by_cases y : j < k
            · rw [if_pos y, if_pos (by omega)]
            · rw [if_neg y, if_neg (by omega)]
        · rcases hat with z | z
          · rw [z] at hne; exact hne
          · simp only [Value.ownBlock, ne_eq, Option.some.injEq]; omega
        · by_cases z : i = k
          · simp only [z, if_true]; omega
          · simp only [if_neg z]; exact hfB i (by omega)
        · exact Below.grown hb hgrow HSZ.out.1 (fun x e => (hM.own.lt x e).1)
      clear hM hr2 hr3 hb hgl hfl hne hfB hnx hown hgrow hat hlt KA HSZ EW2 hq hzk eB eF
      go_wp2
      go_roundw
      case rel =>
        obtain ⟨f', a1, a2, a3, a4, a5⟩ := KN.out
        exact ⟨k + 1, f', by omega, by simp, a1, a2, a3, a4, a5⟩
      case measure => simp [intOf]; omega
    · have hk3 : k = 129 := by omega
      subst hk3
      obtain ⟨R, cap, rfl, _, _⟩ := hMg.own.form (by omega)
      have hcap := Sv.own_cap hMg.own
      have hMh : Sv.Mh wr w.heap.size R cap 0 f := ⟨by
        have e : ((List.range 129).map fun i => Value.slice (some ⟨f i, 0, none⟩) (if i < 0 then 128 else 129) 129) = (List.range 129).map fun i => Value.slice (some ⟨f i, 0, none⟩) 129 129 :=
          List.map_congr_left fun i hi => by rw [if_neg (by omega)]
        rw [e]; exact hMg.own, hMg.row, fun i hi z => hMg.far i hi (by rw [z]; rfl)⟩
      have hRB : R ≠ Bb := fun z => hne (by rw [z]; rfl)
      have HB : Hid (∀ wz, Bw wr wz → Sv.Ls wz (.slice (some ⟨Bb, 0, none⟩) 129 129) 129 (fun j => Fl.bitsF (Sv.fi j))) := fun wz hz => Or.inr ⟨Bb, 0, 129, rfl, Nat.le_refl _, ((hB.bw hz).ext (G := fun j => Fl.bitsF (Sv.fi j)) (fun j hj => by rw [if_pos hj])).rd⟩
      have E1 := Sv.hid (solveErr hMg.lm (HB.out wr (Bw.refl _)) (by omega) (by omega) (Sv.solE_of (Sv.chkA_no (Sv.chk_many (Or.inr (by omega))) (by decide)) (by decide)) (by decide))
      have E2 : Hid (∀ wz, Bw wr wz → Calls Try.prog 9 #[.slice (some ⟨R, 0, none⟩) 129 cap] wz fun e w' => e = .returned (.tuple #[.slice none 0 0, .int .i64 4]) ∧ Bw wz w') := fun wz hz => pivErr (hMg.bw hz).lm (by omega) (by unfold Sv.pivE; rw [Sv.chk_many (Or.inr (by omega)), if_neg (by decide)]) (by decide)
      have E3 : Hid (∀ wz, Bw wr wz → Calls Try.prog 8 #[.slice (some ⟨R, 0, none⟩) 128 cap, .slice (some ⟨Bb, 0, none⟩) 129 129] wz fun e w' => e = .returned (.tuple #[.slice none 0 0, .int .i64 140]) ∧ Bw wz w') := fun wz hz => solveErr (hMh.bw hz).lm (HB.out wz hz) (by omega) (by omega) (Sv.solE_of (Sv.chkA_no (Sv.chk_shape (k := 0) (by omega) (by omega) (by show (if (0 : Nat) < 0 then 128 else 129) ≠ 128; decide)) (by decide)) (by decide)) (by decide)
      have hcap2 : (128 : Int) ≤ cap := by omega
      have KM := Sv.hid (And.intro hMh (And.intro hB (And.intro hfB hbw)))
      clear hMg hMh hB hfB hbw hne hmk
      go_wp2_with fail
      refine E1.out.mono ?_
      rintro e' w2 ⟨rfl, b2⟩
      clear E1
      go_wp2_with fail
      refine (E2.out _ b2).mono ?_
      rintro e' w3 ⟨rfl, b3⟩
      replace b3 := bw_trans b2 b3
      clear E2 b2
      go_wp2_with fail
      refine (E3.out _ b3).mono ?_
      rintro e' w4 ⟨rfl, b4⟩
      replace b4 := bw_trans b3 b4
      clear E3 b3
      obtain ⟨hMh, hB, hfB, hbw⟩ := KM.out
      replace KM := Sv.hid (And.intro (hMh.bw b4) (And.intro (hB.bw b4) (And.intro hfB (bw_trans hbw b4))))
      clear hMh hB hfB hbw b4 HB
      go_wp2
      go_loopw [12] (fun i wr => ∃ k : Nat, k ≤ 128 ∧ i = .int .i64 k ∧ Sv.Mh wr w.heap.size R cap k f ∧ Sv.Rw wr w.heap.size Bb 129 129 (fun j => if j < 129 then Fl.bitsF (Sv.fi j) else 0) ∧ Bw w wr) (fun i _ => 128 - (intOf i).toNat)
      case atStart => exact ⟨0, by omega, rfl, KM.out.1, KM.out.2.1, KM.out.2.2.2⟩
      case round =>
        clear KM
        obtain ⟨k, hk, rfl, hMh, hB, hbw⟩ := hrel
        by_cases hk1 : k < 128
        · have hk2 : (k : Int) < 128 := by omega
          have e1 := hMh.cell (i := k) (by omega)
          rw [if_neg (by omega)] at e1
          have e2 := hMh.own.frozenAt k
          obtain ⟨hM2, g2⟩ := hMh.next (by omega)
          have hRl := (hMh.own.lt R rfl).1
          have KN := Sv.hid (And.intro hM2 (And.intro (hB.gb g2 (by simp only [ne_eq, Option.some.injEq]; exact fun z => hRB z.symm)) (Sv.gb_below hbw g2 hbw.size hRl)))
          clear hMh hB hbw hM2 g2 hRl
          go_wp2
          go_roundw
          case rel => exact ⟨k + 1, by omega, by simp, KN.out.1, KN.out.2.1, KN.out.2.2⟩
          case measure => simp [intOf]; omega
        · have hk3 : k = 128 := by omega
          subst hk3
          have LM : Hid (∀ wz, Bw wr wz → Sv.Lm wz (.slice (some ⟨R, 0, none⟩) 128 cap) 128 (fun _ => 128) Sv.dg) := fun wz hz => (hMh.bw hz).lm.ext (fun i hi => by simp only [if_pos hi]) (fun _ _ _ _ => rfl)
          have HB : Hid (∀ wz, Bw wr wz → Sv.Ls wz (.slice (some ⟨Bb, 0, none⟩) 129 129) 129 (fun j => Fl.bitsF (Sv.fi j)) ∧ Sv.Ls wz (.slice (some ⟨Bb, 0, none⟩) 128 129) 128 (fun j => Sv.fi j)) := fun wz hz => by
            have z := ((hB.bw hz).ext (G := fun j => Fl.bitsF (Sv.fi j)) (fun j hj => by rw [if_pos hj])).rd
            exact ⟨Or.inr ⟨Bb, 0, 129, rfl, Nat.le_refl _, z⟩, Or.inr ⟨Bb, 0, 129, rfl, by omega, (z.less (by omega)).ext (fun j hj => Sv.o_can (Sv.ok_fi j hj).1)⟩⟩
          have E4 := Sv.hid (solveOk (LM.out wr (Bw.refl _)) (HB.out wr (Bw.refl _)).2 (by omega) (by omega) Sv.solE_da)
          have E5 := Sv.hid (fun wz (hz : Bw wr wz) => solveErr (LM.out wz hz) (HB.out wz hz).1 (by omega) (by omega) (Sv.solE_long _) (by decide))
          have E6 := Sv.hid (fun wz (hz : Bw wr wz) => det14 ((LM.out wz hz).ext (A' := Sv.da) (l' := fun _ => 128) (fun _ _ => rfl) (fun i j _ hj => by unfold Sv.da Sv.aug; rw [if_pos hj])) (by omega))
          rw [Sv.detE_da.1, Sv.detE_da.2] at E6
          have HBW := Sv.hid hbw
          have hc2 : (128 : Int) ≤ 129 := by omega
          clear hMh hB hbw LM HB
          go_wp2_with fail
          refine E4.out.mono ?_
          rintro e' w5 ⟨B, rfl, hX, b5⟩
          obtain ⟨y9, ey, _, hy9⟩ := hX.cell (j := 9) (by omega)
          have hBlt : B < w5.heap.size := hX.lt.2
          rw [Sv.sol_da (by omega), Sv.half9] at hy9
          have hy := Sv.c_eq hy9 (by decide)
          subst hy
          have EY := Sv.hid (fun wz (hz : Bw w5 wz) => (Below.cell hz (p := ⟨B, 9, none⟩) hBlt).trans ey)
          clear E4 hX ey hy9
          go_wp2_with fail
          refine (E5.out _ b5).mono ?_
          rintro e' w6 ⟨rfl, b6⟩
          clear E5
          go_wp2_with fail
          refine (E6.out _ (bw_trans b5 b6)).mono ?_
          rintro e' w7 ⟨d, rfl, _, hd, b7⟩
          have hd2 := Sv.c_eq hd (by decide)
          subst hd2
          clear E6 hd
          replace EY := Sv.hid (EY.out _ (bw_trans b6 b7))
          replace HBW := Sv.hid (bw_trans HBW.out (bw_trans (bw_trans b5 b6) b7))
          have hB7 : Hid (B < w7.heap.size) := by have := b6.size; have := b7.size; show B < w7.heap.size; omega
          clear b5 b6 b7 hBlt
          go_wp2_with fail
          refine (nan14 _).mono ?_
          rintro e' w8 ⟨rfl, hw8⟩
          subst hw8
          have z0 : ∀ (w : World) (o : Obj), (w.alloc o).heap.size = w.heap.size + 1 := fun w o => by simp
          have b1 := Sv.bw_new w8 (.cells #[.float .f64 9221120237041090561, .float .f64 4607182418800017408] 25)
          have b2 := Sv.bw_new (w8.alloc (.cells #[.float .f64 9221120237041090561, .float .f64 4607182418800017408] 25)) (.cells #[.float .f64 4607182418800017408] 25)
          have L1 := (Sv.Ls.lit w8 [9221120237041090561, 4607182418800017408] 25 (by decide)).bw b2
          have L2 := Sv.Ls.lit (w8.alloc (.cells #[.float .f64 9221120237041090561, .float .f64 4607182418800017408] 25)) [4607182418800017408] 25 (by decide)
          have b3 := Sv.bw_new ((w8.alloc (.cells #[.float .f64 9221120237041090561, .float .f64 4607182418800017408] 25)).alloc (.cells #[.float .f64 4607182418800017408] 25)) (.cells #[.slice (some ⟨w8.heap.size, 0, none⟩) 2 2, .slice (some ⟨w8.heap.size + 1, 0, none⟩) 1 1] 24)
          rw [z0] at L2
          have E7 := Sv.hid (solveErr (Sv.Lm.two L1 L2 24) (vb := .slice none 0 0) (nb := 0) (b := fun _ => 0) (Or.inl ⟨rfl, rfl⟩) (by omega) (by omega) Sv.small7 (by decide))
          simp only [z0, List.length_cons, List.length_nil, Nat.reduceAdd] at E7
          replace HBW := Sv.hid (bw_trans HBW.out (bw_trans (bw_trans b1 b2) b3))
          replace EY := Sv.hid ((Below.cell (bw_trans (bw_trans b1 b2) b3) (p := ⟨B, 9, none⟩) hB7.out).trans EY.out)
          replace hB7 := Sv.hid (Nat.lt_of_lt_of_le hB7.out (bw_trans (bw_trans b1 b2) b3).size)
          clear b1 b2 b3 L1 L2
          go_wp2_with fail
          refine E7.out.mono ?_
          rintro e' wa ⟨rfl, bb⟩
          replace HBW := Sv.hid (bw_trans HBW.out bb)
          replace EY := Sv.hid ((Below.cell bb (p := ⟨B, 9, none⟩) hB7.out).trans EY.out)
          replace hB7 := Sv.hid (Nat.lt_of_lt_of_le hB7.out bb.size)
          clear E7 bb
          go_wp2_with fail
          refine (inf14 _).mono ?_
          rintro e' wb ⟨rfl, hwb⟩
          subst hwb
          have b1 := Sv.bw_new wb (.cells #[.float .f64 9218868437227405312] 25)
          have b2 := Sv.bw_new (wb.alloc (.cells #[.float .f64 9218868437227405312] 25)) (.cells #[.slice (some ⟨wb.heap.size, 0, none⟩) 1 1] 24)
          have b3 := Sv.bw_new ((wb.alloc (.cells #[.float .f64 9218868437227405312] 25)).alloc (.cells #[.slice (some ⟨wb.heap.size, 0, none⟩) 1 1] 24)) (.cells #[.float .f64 4607182418800017408] 25)
          have L1 := Sv.Ls.lit wb [9218868437227405312] 25 (by decide)
          have L2 := (Sv.Lm.one L1 24).bw b3
          have L3 := Sv.Ls.lit ((wb.alloc (.cells #[.float .f64 9218868437227405312] 25)).alloc (.cells #[.slice (some ⟨wb.heap.size, 0, none⟩) 1 1] 24)) [4607182418800017408] 25 (by decide)
          have E8 := Sv.hid (solveErr L2 L3 (by decide) (by decide) Sv.small8 (by decide))
          simp only [z0, List.length_cons, List.length_nil, Nat.reduceAdd] at E8
          replace HBW := Sv.hid (bw_trans HBW.out (bw_trans (bw_trans b1 b2) b3))
          replace EY := Sv.hid ((Below.cell (bw_trans (bw_trans b1 b2) b3) (p := ⟨B, 9, none⟩) hB7.out).trans EY.out)
          replace hB7 := Sv.hid (Nat.lt_of_lt_of_le hB7.out (bw_trans (bw_trans b1 b2) b3).size)
          clear b1 b2 b3 L1 L2 L3
          go_wp2_with fail
          refine E8.out.mono ?_
          rintro e' wc ⟨rfl, bb⟩
          replace HBW := Sv.hid (bw_trans HBW.out bb)
          replace EY := Sv.hid ((Below.cell bb (p := ⟨B, 9, none⟩) hB7.out).trans EY.out)
          replace hB7 := Sv.hid (Nat.lt_of_lt_of_le hB7.out bb.size)
          clear E8 bb
          have b1 := Sv.bw_new wc (.cells #[.float .f64 1] 25)
          have b2 := Sv.bw_new (wc.alloc (.cells #[.float .f64 1] 25)) (.cells #[.slice (some ⟨wc.heap.size, 0, none⟩) 1 1] 24)
          have b3 := Sv.bw_new ((wc.alloc (.cells #[.float .f64 1] 25)).alloc (.cells #[.slice (some ⟨wc.heap.size, 0, none⟩) 1 1] 24)) (.cells #[.float .f64 4607182418800017408] 25)
          have L1 := Sv.Ls.lit wc [1] 25 (by decide)
          have L2 := (Sv.Lm.one L1 24).bw b3
          have L3 := Sv.Ls.lit ((wc.alloc (.cells #[.float .f64 1] 25)).alloc (.cells #[.slice (some ⟨wc.heap.size, 0, none⟩) 1 1] 24)) [4607182418800017408] 25 (by decide)
          have E9 := Sv.hid (solveErr L2 L3 (by decide) (by decide) Sv.small9 (by decide))
          simp only [z0, List.length_cons, List.length_nil, Nat.reduceAdd] at E9
          replace HBW := Sv.hid (bw_trans HBW.out (bw_trans (bw_trans b1 b2) b3))
          replace EY := Sv.hid ((Below.cell (bw_trans (bw_trans b1 b2) b3) (p := ⟨B, 9, none⟩) hB7.out).trans EY.out)
          replace hB7 := Sv.hid (Nat.lt_of_lt_of_le hB7.out (bw_trans (bw_trans b1 b2) b3).size)
          clear b1 b2 b3 L1 L2 L3
          go_wp2_with fail
          refine E9.out.mono ?_
          rintro e' wd ⟨rfl, bb⟩
          replace HBW := Sv.hid (bw_trans HBW.out bb)
          replace EY := Sv.hid ((Below.cell bb (p := ⟨B, 9, none⟩) hB7.out).trans EY.out)
          replace hB7 := Sv.hid (Nat.lt_of_lt_of_le hB7.out bb.size)
          clear E9 bb
          have b1 := Sv.bw_new wd (.cells #[.float .f64 4607182418800017408, .float .f64 4607182418800017408] 25)
          have b2 := Sv.bw_new (wd.alloc (.cells #[.float .f64 4607182418800017408, .float .f64 4607182418800017408] 25)) (.cells #[.float .f64 4607182418800017408, .float .f64 4607182418800017408] 25)
          have b3 := Sv.bw_new ((wd.alloc (.cells #[.float .f64 4607182418800017408, .float .f64 4607182418800017408] 25)).alloc (.cells #[.float .f64 4607182418800017408, .float .f64 4607182418800017408] 25)) (.cells #[.slice (some ⟨wd.heap.size, 0, none⟩) 2 2, .slice (some ⟨wd.heap.size + 1, 0, none⟩) 2 2] 24)
          have b4 := Sv.bw_new (((wd.alloc (.cells #[.float .f64 4607182418800017408, .float .f64 4607182418800017408] 25)).alloc (.cells #[.float .f64 4607182418800017408, .float .f64 4607182418800017408] 25)).alloc (.cells #[.slice (some ⟨wd.heap.size, 0, none⟩) 2 2, .slice (some ⟨wd.heap.size + 1, 0, none⟩) 2 2] 24)) (.cells #[.float .f64 4607182418800017408, .float .f64 4846369599423283200] 25)
          have b5 := Sv.bw_new ((((wd.alloc (.cells #[.float .f64 4607182418800017408, .float .f64 4607182418800017408] 25)).alloc (.cells #[.float .f64 4607182418800017408, .float .f64 4607182418800017408] 25)).alloc (.cells #[.slice (some ⟨wd.heap.size, 0, none⟩) 2 2, .slice (some ⟨wd.heap.size + 1, 0, none⟩) 2 2] 24)).alloc (.cells #[.float .f64 4607182418800017408, .float .f64 4846369599423283200] 25)) (.cells #[.float .f64 4846369599423283200, .float .f64 4846369599423283200] 25)
          have L1 := (Sv.Ls.lit wd [4607182418800017408, 4607182418800017408] 25 (by decide)).bw b2
          have L2 := Sv.Ls.lit (wd.alloc (.cells #[.float .f64 4607182418800017408, .float .f64 4607182418800017408] 25)) [4607182418800017408, 4607182418800017408] 25 (by decide)
          rw [z0] at L2
          have L3 := ((Sv.Lm.two L1 L2 24).bw b4).bw b5
          have L4 := (Sv.Ls.lit (((wd.alloc (.cells #[.float .f64 4607182418800017408, .float .f64 4607182418800017408] 25)).alloc (.cells #[.float .f64 4607182418800017408, .float .f64 4607182418800017408] 25)).alloc (.cells #[.slice (some ⟨wd.heap.size, 0, none⟩) 2 2, .slice (some ⟨wd.heap.size + 1, 0, none⟩) 2 2] 24)) [4607182418800017408, 4846369599423283200] 25 (by decide)).bw b5
          have L5 := Sv.Ls.lit ((((wd.alloc (.cells #[.float .f64 4607182418800017408, .float .f64 4607182418800017408] 25)).alloc (.cells #[.float .f64 4607182418800017408, .float .f64 4607182418800017408] 25)).alloc (.cells #[.slice (some ⟨wd.heap.size, 0, none⟩) 2 2, .slice (some ⟨wd.heap.size + 1, 0, none⟩) 2 2] 24)).alloc (.cells #[.float .f64 4607182418800017408, .float .f64 4846369599423283200] 25)) [4846369599423283200, 4846369599423283200] 25 (by decide)
          have E10 := Sv.hid (off14 L3 L4 L5 (by decide))
          simp only [List.length_cons, List.length_nil, Nat.reduceAdd] at E10
          rw [Sv.small10.1, Sv.small10.2] at E10
          simp only [z0] at E10
          replace HBW := Sv.hid (bw_trans HBW.out (bw_trans (bw_trans (bw_trans (bw_trans b1 b2) b3) b4) b5))
          replace EY := Sv.hid ((Below.cell (bw_trans (bw_trans (bw_trans (bw_trans b1 b2) b3) b4) b5) (p := ⟨B, 9, none⟩) hB7.out).trans EY.out)
          replace hB7 := Sv.hid (Nat.lt_of_lt_of_le hB7.out (bw_trans (bw_trans (bw_trans (bw_trans b1 b2) b3) b4) b5).size)
          clear b1 b2 b3 b4 b5 L1 L2 L3 L4 L5
          go_wp2_with fail
          refine E10.out.mono ?_
          rintro e' we ⟨d, rfl, _, hd, bb⟩
          have hd2 := Sv.c_eq hd (by decide)
          subst hd2
          clear hd
          replace HBW := Sv.hid (bw_trans HBW.out bb)
          replace EY := Sv.hid ((Below.cell bb (p := ⟨B, 9, none⟩) hB7.out).trans EY.out)
          replace hB7 := Sv.hid (Nat.lt_of_lt_of_le hB7.out bb.size)
          clear E10 bb
          have ey := EY.out
          clear EY z0
          go_wp2
          go_ret
          exact ⟨rfl, HBW.out⟩
end Go.Proofs.Ytjfkdmddfeeheaa
