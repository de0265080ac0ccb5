/-
  OWN TEXT: the reference's steps.
-/
import Derived.Test.YtjfkdmddfeeheaaJSrAToSrC
import Derived.Test.YtjfkdmddfeeheaaJBiF
namespace Go.Proofs.Ytjfkdmddfeeheaa
open Go.ChangeShapes Go.WideShapes Go.ChangeAt Go.RowKit
set_option linter.unusedVariables false
attribute [local go_sem] frombits_call tobits_call run_neg

attribute [local go_sem] stof14
namespace Sv
theorem own_base {w : World} {base base' : Nat} {e : TypeId} {size : Nat} {v : Value} {n : Nat} {xs : List Value} (h : w.ownsRow base e size v n xs) (hb : base' ≤ base) : w.ownsRow base' e size v n xs := by
  obtain ⟨h1, h2⟩ := h
  refine ⟨h1, ?_⟩
  rcases h2 with h2 | ⟨g, cap, cur, e, hg, r⟩
  · exact Or.inl h2
  · exact Or.inr ⟨g, cap, cur, e, by omega, r⟩
theorem Mr.base {w : World} {base base' n m : Nat} {v : Value} {c f : Nat → Nat} {A : M} (h : Mr w base v n m c f A) (hb : base' ≤ base) : Mr w base' v n m c f A :=
  ⟨own_base h.own hb, fun i hi => (h.row i hi).base hb, h.far, h.inj⟩
theorem Dc.made (w : World) (a b c d e f : Value) (t : TypeId) : Dc (w.alloc (.cells #[a, b, c, d, e, f] t)) w.heap.size a b c d e f :=
  ⟨by simp, by simp, by simp, by simp, by simp, by simp, by simp, fun j => World.frozen?_alloc_at _ _ _ _ rfl⟩
theorem Dc.bw {w w' : World} {D : Nat} {a b c d e f : Value} (h : Dc w D a b c d e f) (k : Bw w w') : Dc w' D a b c d e f := h.gb (gb_bw k none) (by simp)
theorem Dc.load {w : World} {D : Nat} {a b c d e f : Value} (h : Dc w D a b c d e f) : (loadVar 85 ⟨D, 0, none⟩).run Try.prog w = .ok (.agg #[a, b, c, d, e, f]) w := by
  refine run_loadVar_mid w D 0 85 [a, b, c, d, e, f] _ (fun j v hv => ?_) Try.underlying85 rfl (by kernel_rfl)
  match j, hv with
  | 0, hv => cases hv; exact h.2.1
  | 1, hv => cases hv; exact h.2.2.1
  | 2, hv => cases hv; exact h.2.2.2.1
  | 3, hv => cases hv; exact h.2.2.2.2.1
  | 4, hv => cases hv; exact h.2.2.2.2.2.1
  | 5, hv => cases hv; exact h.2.2.2.2.2.2.1
theorem Dc.res {fn : Func} {p : Tmp} (hr : fn.results = #[.cell p 85]) (tmps : Array Value) {w : World} {E : Nat} {a b c d e f : Value} (hp : tmps.getD p undef = .pointer (some ⟨E, 0, none⟩)) (h : Dc w E a b c d e f) : (results fn tmps).run Try.prog w = .ok (.agg #[a, b, c, d, e, f]) w := by
  have hp' : tmps[p]?.getD undef = .pointer (some ⟨E, 0, none⟩) := by simpa using hp
  simp [results, hr, hp', asAddr, h.load]
/-- is the step's row another one? -/
def odd (n : Nat) (A : M) (j : Nat) : Bool := decide (tk n A j ≠ j)
/-- the right side, or noughts -/
def rs (n nb : Nat) (b : Nat → Nat) : Nat → Nat := fun i => if nb = n then b i else 0
/-- behind k steps -/
structure Rk (w w0 : World) (n D E R cR : Nat) (A : M) (q : Nat) (k : Nat) (c f : Nat → Nat) (vB vR vP vO : Value) (t : Nat → Nat) : Prop where
  rs : Rs w w0.heap.size n q q k k D R cR c f vB vR vP vO (st n A k) (fun i => st n A k i n) (pm n A k) (piv n A) (odd n A) t
  hE : Dc w E (.slice none 0 0) (.slice none 0 0) (.slice none 0 0) (.slice none 0 0) (.slice none 0 0) (.bool false)
  tE : t E = 7
  eb : w0.heap.size ≤ E
  bw : Bw w0 w
theorem Rk.next {w w' w0 : World} {n D E R cR : Nat} {A : M} {q k : Nat} {c f : Nat → Nat} {vB vR vP vO : Value} {t : Nat → Nat} (h : Rk w w0 n D E R cR A q k c f vB vR vP vO t) (b : Bw w w') : Rk w' w0 n D E R cR A q k c f vB vR vP vO t :=
  ⟨h.rs.bw b, h.hE.bw b, h.tE, h.eb, bw_trans h.bw b⟩
/-- a whole struct stored -/
def six (w : World) (E : Nat) (a b c d e f : Value) : World := (((((w.setCell ⟨E, 0, none⟩ a).setCell ⟨E, 1, none⟩ b).setCell ⟨E, 2, none⟩ c).setCell ⟨E, 3, none⟩ d).setCell ⟨E, 4, none⟩ e).setCell ⟨E, 5, none⟩ f
theorem Dc.six {w : World} {E : Nat} {a' b' c' d' e' f' : Value} (h : Dc w E a' b' c' d' e' f') (a b c d e f : Value) : Dc (six w E a b c d e f) E a b c d e f ∧ w.grownBy (six w E a b c d e f) (some E) := by
  obtain ⟨h0, g0⟩ := h.set 0 a
  obtain ⟨h1, g1⟩ := h0.set 1 b
  obtain ⟨h2, g2⟩ := h1.set 2 c
  obtain ⟨h3, g3⟩ := h2.set 3 d
  obtain ⟨h4, g4⟩ := h3.set 4 e
  obtain ⟨h5, g5⟩ := h4.set 5 f
  refine ⟨?_, ((((g0.trans g1).trans g2).trans g3).trans g4).trans g5⟩
  unfold Sv.six
  simpa using h5
/-- what stands in the end -/
theorem Rs.last {w w' : World} {base n q q2 p p2 D R cR E : Nat} {c f : Nat → Nat} {vB vR vP vO : Value} {G : M} {Bf X P : Nat → Nat} {O : Nat → Bool} {t : Nat → Nat} (h : Rs w base n q q2 p p2 D R cR c f vB vR vP vO G Bf X P O t) {r : Nat} (hr : t r = 6 ∨ t r = 7) (g : w.grownBy w' (some r)) :
    Mr w' base (.slice (some ⟨R, 0, none⟩) n cR) n n c f G ∧ Rv w' base vB q Bf ∧ w'.ownsRow base 3 1 vR q2 (iv X q2) ∧ Rv w' base vP p P ∧ w'.ownsRow base 4 1 vO p2 (bv O p2) := by
  have e : ∀ k, k ≠ 6 → k ≠ 7 → ∀ x, some r = some x → t x ≠ k := fun k h6 h7 x z => by cases z; omega
  exact ⟨h.kA g (fun x y => ⟨e 1 (by decide) (by decide) x y, e 0 (by decide) (by decide) x y⟩), h.kB g (e 2 (by decide) (by decide)), h.kR g (e 3 (by decide) (by decide)), h.kP g (e 4 (by decide) (by decide)), h.kO g (e 5 (by decide) (by decide))⟩
theorem grown_two {a b c : World} {r s : Nat} (h : a.grownBy b (some r)) (k : b.grownBy c (some s)) {x : Option Nat} (hr : some r ≠ x) (hs : some s ≠ x) : ∀ y, x = some y → y < a.heap.size → c.heap[y]? = a.heap[y]? := fun y e hy => by
  subst e
  exact (k.block y (by have := h.size; omega) (fun z => hs (by rw [z]))).trans (h.block y hy (fun z => hr (by rw [z])))
theorem best_one (A : M) (k : Nat) : best A k 1 = k := by unfold best best; split <;> rfl
/-- what the steps answer -/
def StepsPost (w w' : World) (n : Nat) (AA : M) (e : Ending) : Prop := ∃ (vA vB vR vP vO : Value) (ok : Bool), e = .returned (.agg #[vA, vB, vR, vP, vO, .bool ok]) ∧ Bw w w' ∧
      ∃ (p R cR : Nat) (c f : Nat → Nat) (X Bf : Nat → Nat) (G : M), vA = .slice (some ⟨R, 0, none⟩) n cR ∧ Mr w' w.heap.size vA n n c f G ∧ Rv w' w.heap.size vB n Bf ∧ w'.ownsRow w.heap.size 3 1 vR n (iv X n) ∧ Rv w' w.heap.size vP p (piv n AA) ∧ w'.ownsRow w.heap.size 4 1 vO p (bv (odd n AA) p) ∧
        ((ok = true ∧ p = n ∧ good n AA n ∧ G = st n AA n ∧ (∀ i, i < n → Bf i = st n AA n i n) ∧ ∀ i, i < n → X i = pm n AA n i) ∨
         (ok = false ∧ ∃ K, K < n ∧ p = K + 1 ∧ good n AA K ∧ bad (piv n AA K) = true))
end Sv
set_option maxHeartbeats 16000000 in
set_option maxRecDepth 10000 in
theorem rsteps14 {w : World} {ab ao ac n nb : Nat} {vb : Value} {l : Nat → Nat} {A : Sv.M} {b : Nat → Nat} (hab : ab < w.heap.size) (ha : ∀ i, i < n → ∃ r, w.cell? ⟨ab, ao + i, none⟩ = some r ∧ Sv.Ls w r (l i) (A i)) (hl : ∀ i, i < n → l i = n) (hb : Sv.Ls w vb nb b) (hn0 : 0 < n) (hn : n ≤ 128) :
    Calls Try.prog 48 #[.slice (some ⟨ab, ao, none⟩) n ac, vb] w fun e w' => Sv.StepsPost w w' n (Sv.aug n A (Sv.rs n nb b)) e := by
  obtain ⟨i0, hi0, ha0, ha1, ha2⟩ := info14 _ _ _ _ Sv.info_f
  obtain ⟨j0, hj0, hb0, hb1, hb2⟩ := info14 _ _ _ _ Sv.info_i
  obtain ⟨k0, hk0, hc0, hc1, hc2⟩ := info14 _ _ _ _ Sv.info_b
  obtain ⟨vp, vn, vc, rfl⟩ : ∃ p k c, vb = .slice p k c := by rcases hb with ⟨⟨_, _, rfl, _⟩, _⟩ | ⟨_, _, _, rfl, _⟩ <;> exact ⟨_, _, _, rfl⟩
  have b0 := Sv.bw_new w (.cells #[.slice none 0 0, .slice none 0 0, .slice none 0 0, .slice none 0 0, .slice none 0 0, .bool false] 85)
  have hE0 := Sv.Dc.made w (.slice none 0 0) (.slice none 0 0) (.slice none 0 0) (.slice none 0 0) (.slice none 0 0) (.bool false) 85
  have RW := Sv.hid (rrows14 (w := w.alloc (.cells #[.slice none 0 0, .slice none 0 0, .slice none 0 0, .slice none 0 0, .slice none 0 0, .bool false] 85)) (ca := ac) (b := ab) (o := ao) (n := n) (m := n) (A := A) (by have := b0.size; omega) (fun i hi => by
    obtain ⟨r, e, q⟩ := ha i hi
    exact ⟨r, (Below.cell b0 (p := ⟨ab, ao + i, none⟩) hab).trans e, q.bw b0⟩) hl hn0 (by omega) hn0 (by omega))
  have HE := Sv.hid (And.intro hE0 b0)
  have HB := Sv.hid hb
  have hnb : (vn : Int) = nb := by rcases hb with ⟨⟨_, _, q, _⟩, z⟩ | ⟨_, _, _, q, _⟩ <;> simp only [Value.slice.injEq] at q <;> omega
  clear ha hl hab b0 hE0 hb
  go_enter Try.func48, Try.ntmps48
  go_wp2_with fail
  refine RW.out.mono ?_
  rintro e' w1 ⟨R, cR, c, f, rfl, hMr, b1⟩
  clear RW
  have b2 := Sv.bw_new w1 (.cells #[.slice (some ⟨R, 0, none⟩) n cR, .slice none 0 0, .slice none 0 0, .slice none 0 0, .slice none 0 0, .bool true] 85)
  have hD0 := Sv.Dc.made w1 (.slice (some ⟨R, 0, none⟩) n cR) (.slice none 0 0) (.slice none 0 0) (.slice none 0 0) (.slice none 0 0) (.bool true) 85
  have R0 : Hid (Sv.Rk (w1.alloc (.cells #[.slice (some ⟨R, 0, none⟩) n cR, .slice none 0 0, .slice none 0 0, .slice none 0 0, .slice none 0 0, .bool true] 85)) w n w1.heap.size w.heap.size R cR (Sv.aug n A (Sv.rs n nb b)) 0 0 c f (.slice none 0 0) (.slice none 0 0) (.slice none 0 0) (.slice none 0 0) (fun x => if x = w1.heap.size then 6 else if x = R then 1 else if x = w.heap.size then 7 else 0)) := by
    have hbw := bw_trans (bw_trans HE.out.2 b1) b2
    have hE2 := HE.out.1.1
    have hRl := hMr.own.lt R rfl
    have s1 := b1.size
    have hfl : ∀ i, i < n → f i < w1.heap.size ∧ f i ≠ R ∧ w.heap.size < f i := fun i hi => ⟨(hMr.row i hi).lt.2, fun z => hMr.far i hi (by rw [z]; rfl), by have := (hMr.row i hi).lt.1; omega⟩
    refine ⟨⟨((hMr.base HE.out.2.size).bw b2).ext (fun i j hi hj => ?_), Sv.Rv.nil _ _ _, World.ownsRow_nil _ _ _ _, Sv.Rv.nil _ _ _, World.ownsRow_nil _ _ _ _, hD0, ?_, ?_, fun i hi => ?_, (fun x e => by cases e), (fun x e => by cases e), (fun x e => by cases e), (fun x e => by cases e), ?_⟩, (HE.out.1.bw b1).bw b2, ?_, Nat.le_refl _, hbw⟩
    · show A i j = Sv.aug n A _ i j
      unfold Sv.aug
      rw [if_pos hj]
    · omega
    · show (if R = w1.heap.size then 6 else if R = R then 1 else if R = w.heap.size then 7 else 0) = 1
      rw [if_neg (by omega), if_pos rfl]
    · have := hfl i hi
      show (if f i = w1.heap.size then 6 else if f i = R then 1 else if f i = w.heap.size then 7 else 0) = 0
      rw [if_neg (by omega), if_neg this.2.1, if_neg (by omega)]
    · show (if w1.heap.size = w1.heap.size then 6 else _) = 6
      rw [if_pos rfl]
    · show (if w.heap.size = w1.heap.size then 6 else if w.heap.size = R then 1 else if w.heap.size = w.heap.size then 7 else 0) = 7
      rw [if_neg (by omega), if_neg (by omega), if_pos rfl]
  clear hMr b1 b2 hD0 HE
  obtain ⟨AA, hAA⟩ : ∃ AA, Sv.aug n A (Sv.rs n nb b) = AA := ⟨_, rfl⟩
  rw [hAA] at R0
  go_wp2
  generalize w1.alloc (.cells #[.slice (some ⟨R, 0, none⟩) n cR, .slice none 0 0, .slice none 0 0, .slice none 0 0, .slice none 0 0, .bool true] 85) = W0 at *
  obtain ⟨D, eD⟩ : ∃ D, w1.heap.size = D := ⟨_, rfl⟩
  obtain ⟨E, eE⟩ : ∃ E, w.heap.size = E := ⟨_, rfl⟩
  have R1 : Hid (∃ t, Sv.Rk W0 w n D E R cR AA 0 0 c f (.slice none 0 0) (.slice none 0 0) (.slice none 0 0) (.slice none 0 0) t) := ⟨_, by have z := R0.out; rw [eD, eE] at z; rw [← eE] at z ⊢; exact z⟩
  rw [eD, eE]
  clear R0 eD
  have EE := Sv.hid eE
  clear eE
  have HAA : Hid (∀ i, i < n → AA i n = Sv.rs n nb b i) := fun i hi => by rw [← hAA]; unfold Sv.aug; rw [if_neg (by omega)]
  go_loopw [7] (fun v wr => ∃ (q : Nat) (vB vR : Value) (t : Nat → Nat), q ≤ n ∧ v = .int .i64 q ∧ Sv.Rk wr w n D E R cR AA q 0 c f vB vR (.slice none 0 0) (.slice none 0 0) t) (fun v _ => n - (intOf v).toNat)
  case atStart =>
    obtain ⟨t, z⟩ := R1.out
    exact ⟨0, _, _, t, Nat.zero_le _, rfl, z⟩
  case round =>
    clear R1
    obtain ⟨k, vB, vR, t, hk, rfl, hRk⟩ := hrel
    by_cases hk1 : k < n
    · have hk2 : (k : Int) < n := by omega
      have b3 := Sv.bw_new wr (.cells #[.int .i64 k] 3)
      have hrs := hRk.rs.bw b3
      have d2 := hRk.rs.hD.2.2.2.1
      have dl := hRk.rs.hD.1
      have hsz : Hid (w.heap.size ≤ (wr.alloc (.cells #[.int .i64 k] 3)).heap.size ∧ (wr.alloc (.cells #[.int .i64 k] 3)).heap.size = wr.heap.size + 1) := ⟨(bw_trans hRk.bw b3).size, by simp⟩
      have KA := Sv.hid (And.intro hrs (And.intro (hRk.hE.bw b3) (And.intro hRk.tE (And.intro hRk.eb (bw_trans hRk.bw b3)))))
      clear hRk hrs b3
      go_wp2_with (first
        | (at_builtin; refine wpList_append_lies _ (by rfl) _ _ 29 (by rfl) w.heap.size 3 j0 (.int .i64 0) 1 8 Sv.und_i hj0 hb0 hb1 hb2 rfl (by decide) _ k _ (by rfl) KA.out.1.hR ⟨wr.heap.size, 0, none⟩ 1 1 [.int .i64 k] (by rfl) rfl (cell_one_new _ _ _) (fun u hu => by simp only [List.mem_singleton] at hu; subst hu; rfl) (by decide) (by unfold maxLen; omega) (by omega) hsz.out.1 (wr.heap.size + 1) hsz.out.2 ?_)
        | go_in)
      intro g cap w3 hown hgrow hat hlt
      obtain ⟨hrs, hE, tE, eb, hbw⟩ := KA.out
      obtain ⟨hrs3, hd3, g3⟩ := hrs.pushR hown hgrow hat hsz.out.2
      have d2' := hd3.2.2.2.1
      have dz2 := hd3.2.2.2.2.2.2.2 2
      have hE3 : Sv.Dc (w3.setCell ⟨D, 2, none⟩ (.slice (some ⟨g, 0, none⟩) (k + 1) cap)) E (.slice none 0 0) (.slice none 0 0) (.slice none 0 0) (.slice none 0 0) (.slice none 0 0) (.bool false) := (hE.gb hgrow (fun z => by have := hrs.tR E z.symm; rw [tE] at this; cases this)).gb g3 (fun z => by cases z; have := hrs.tD; rw [tE] at this; cases this)
      have tE3 : Sv.own t g 3 E = 7 := by rw [Sv.own_keep (by rw [tE]; decide) (by rcases hat with z | z; exact Or.inl (hrs.tR g z); exact Or.inr (by have := hE.1; have := hsz.out.2; omega))]; exact tE
      have hbw3 : Bw w (w3.setCell ⟨D, 2, none⟩ (.slice (some ⟨g, 0, none⟩) (k + 1) cap)) := Sv.gb_below (Below.grown hbw hgrow hbw.size (fun x e => (hrs.hR.lt x e).1)) g3 (by have := hbw.size; have := hgrow.size; omega) hrs.hb
      have hrs4 := hrs3.ext (G' := Sv.st n AA 0) (Bf' := fun i => Sv.st n AA 0 i n) (X' := Sv.pm n AA 0) (P' := Sv.piv n AA) (O' := Sv.odd n AA) (fun _ _ _ _ => rfl) (fun _ _ => rfl) (fun j hj => by
        by_cases z : j = k
        · rw [if_pos z, z]; rfl
        · rw [if_neg z]) (fun j hj => absurd hj (by omega)) (fun j hj => absurd hj (by omega))
      generalize Sv.own t g 3 = t2 at *
      have KB := Sv.hid (And.intro hrs4 (And.intro hE3 (And.intro tE3 (And.intro eb hbw3))))
      clear hrs hrs3 hrs4 hd3 g3 hE hE3 tE tE3 eb hbw hbw3 KA hown hgrow hat hlt d2 dl hsz
      by_cases z : nb = n
      · obtain ⟨bb, bo, bc, hbe, _, hbr⟩ := HB.out.resolve_left (fun h => by omega)
        simp only [Value.slice.injEq] at hbe
        obtain ⟨rfl, rfl, rfl⟩ := hbe
        have z' : n = vn := z.symm
        subst z'
        obtain ⟨W4, eW4⟩ : ∃ W4, w3.setCell ⟨D, 2, none⟩ (.slice (some ⟨g, 0, none⟩) (k + 1) cap) = W4 := ⟨_, rfl⟩
        have EW4 := Sv.hid eW4
        rw [eW4] at KB
        clear eW4
        clear hnb
        go_wp2_with fail
        rw [EW4.out]
        obtain ⟨hrs, hE, tE, eb, hbw⟩ := KB.out
        have bd : Bw W4 W4.drew := (Bw.refl W4).drew
        replace hrs := hrs.bw bd
        replace hE := hE.bw bd
        replace hbw := bw_trans hbw bd
        obtain ⟨x, e1, hx, q1⟩ := (hbr.bw hbw).2 k (by omega)
        have hbbl := (hbr.bw hbw).1
        have hbl0 := hbr.1
        have d1 := hrs.hD.2.2.1
        have dl := hrs.hD.1
        have hbD : bb ≠ D := by have := hrs.hb; omega
        obtain ⟨XB, hBo, hBq⟩ := hrs.hB
        have ba := Sv.bw_new W4.drew (.cells #[.float .f64 x] 25)
        have hrsA := hrs.bw ba
        have hsz : W4.drew.heap.size + 1 = (W4.drew.alloc (.cells #[.float .f64 x] 25)).heap.size := by simp
        obtain ⟨g', cap', w5, EA, hown, hgrow, hat, hlt⟩ := run_append_lies (P := Try.prog) (W4.drew.alloc (.cells #[.float .f64 x] 25)) 24 24 w.heap.size 25 i0 (.float .f64 0) 1 8 Sv.und_f hi0 ha0 ha1 ha2 rfl (by decide) vB k (Sv.fv XB k) (hBo.alloc _) ⟨W4.drew.heap.size, 0, none⟩ 1 1 [.float .f64 x] rfl (cell_one_new _ _ _) (fun u hu => by simp only [List.mem_singleton] at hu; subst hu; rfl) (by decide) (by unfold maxLen; omega) (by omega) (by have := hbw.size; have := ba.size; omega) (W4.drew.heap.size + 1) hsz.symm
        obtain ⟨hrs5, hd5, g5⟩ := hrsA.pushB hBq hx hown hgrow hat hsz.symm
        have S0 : W4.drew.cell? ⟨D, 1, none⟩ = some vB ∧ W4.drew.cell? ⟨bb, bo + k, none⟩ = some (.float .f64 x) := ⟨d1, e1⟩
        have SA : (W4.drew.alloc (.cells #[.float .f64 x] 25)).cell? ⟨D, 1, none⟩ = some vB ∧ (W4.drew.alloc (.cells #[.float .f64 x] 25)).cell? ⟨bb, bo + k, none⟩ = some (.float .f64 x) := ⟨(Below.cell ba (p := ⟨D, 1, none⟩) dl).trans d1, (Below.cell ba (p := ⟨bb, bo + k, none⟩) hbbl).trans e1⟩
        have S7 : w5.cell? ⟨D, 1, none⟩ = some vB ∧ w5.cell? ⟨bb, bo + k, none⟩ = some (.float .f64 x) := ⟨hd5.2.2.1, (hgrow.cell_far ⟨bb, bo + k, none⟩ (by show bb < _; have := ba.size; omega) (fun e => by have := (hBo.lt bb e.symm).1; omega)).trans SA.2⟩
        have d1' := hd5.2.2.1
        have dz1 := hd5.2.2.2.2.2.2.2 1
        have hE5 : Sv.Dc (w5.setCell ⟨D, 1, none⟩ (.slice (some ⟨g', 0, none⟩) (k + 1) cap')) E (.slice none 0 0) (.slice none 0 0) (.slice none 0 0) (.slice none 0 0) (.slice none 0 0) (.bool false) := ((hE.bw ba).gb hgrow (fun z => by have := hrs.tB E z.symm; rw [tE] at this; cases this)).gb g5 (fun z => by cases z; have := hrs.tD; rw [tE] at this; cases this)
        have tE5 : Sv.own t2 g' 2 E = 7 := by rw [Sv.own_keep (by rw [tE]; decide) (by rcases hat with z | z; exact Or.inl (hrs.tB g' z); exact Or.inr (by have := hE.1; omega))]; exact tE
        have hbw5 : Bw w (w5.setCell ⟨D, 1, none⟩ (.slice (some ⟨g', 0, none⟩) (k + 1) cap')) := Sv.gb_below (Below.grown (bw_trans hbw ba) hgrow (bw_trans hbw ba).size (fun x e => (hBo.lt x e).1)) g5 (by have := (bw_trans hbw ba).size; have := hgrow.size; omega) hrs.hb
        have hrs6 := hrs5.ext (G' := Sv.st n AA 0) (Bf' := fun i => Sv.st n AA 0 i n) (X' := Sv.pm n AA 0) (P' := Sv.piv n AA) (O' := Sv.odd n AA) (fun _ _ _ _ => rfl) (fun j hj => by
          by_cases y : j = k
          · rw [if_pos y, y, q1]; show b k = AA k n; rw [HAA.out k hk1]; unfold Sv.rs; rw [if_pos rfl]
          · rw [if_neg y]) (fun _ _ => rfl) (fun j hj => absurd hj (by omega)) (fun j hj => absurd hj (by omega))
        have KC := Sv.hid (⟨hrs6, hE5, tE5, eb, hbw5⟩ : Sv.Rk _ w n D E R cR AA (k + 1) 0 c f _ _ _ _ _)
        clear hrs hrs5 hrs6 hrsA hd5 g5 hE hE5 tE tE5 eb hbw hbw5 KB hown hgrow hat hlt bd ba hBo hBq d1 dl e1 q1 hbbl hbl0 hsz hbr
        refine wp_region_K (fun w' => w'.cell? ⟨D, 1, none⟩ = some vB ∧ w'.cell? ⟨bb, bo + k, none⟩ = some (.float .f64 x)) 9 10 #[false, false, false, false, false, false, false, false, false, false] (by kernel_rfl) (by kernel_rfl) (by kernel_rfl) ?_
        generalize W4.drew = W5 at *
        refine wpAnyK_take 0 36 (v := ?v0) rfl (by kernel_rfl) (by kernel_rfl) (by kernel_rfl) (by kernel_rfl) (by kernel_rfl) (fun _ _ _ h => h) rfl (Or.inl ⟨by rfl, ?h0⟩) (by assumption) ?r0
        case h0 => (intro w hSw; go_simp; with_reducible rfl)
        simp only [Act.put, List.setIfInBounds_toArray, List.set_cons_zero, List.set_cons_succ]
        refine wpAnyK_take 1 37 (v := ?v1) rfl (by kernel_rfl) (by kernel_rfl) (by kernel_rfl) (by kernel_rfl) (by kernel_rfl) (fun _ _ _ h => h) rfl (Or.inl ⟨by rfl, ?h1⟩) (by assumption) ?r1
        case h1 => (intro w hSw; go_simp; with_reducible rfl)
        simp only [Act.put, List.setIfInBounds_toArray, List.set_cons_zero, List.set_cons_succ]
        refine wpAnyK_take 2 38 (v := ?v2) rfl (by kernel_rfl) (by kernel_rfl) (by kernel_rfl) (by kernel_rfl) (by kernel_rfl) (fun _ _ _ h => h) rfl (Or.inl ⟨by rfl, ?h2⟩) (by assumption) ?r2
        case h2 => (intro w hSw; go_simp; with_reducible rfl)
        simp only [Act.put, List.setIfInBounds_toArray, List.set_cons_zero, List.set_cons_succ]
        refine wpAnyK_take 3 39 (v := ?v3) rfl (by kernel_rfl) (by kernel_rfl) (by kernel_rfl) (by kernel_rfl) (by kernel_rfl) (fun _ _ _ h => h) rfl (Or.inl ⟨by rfl, ?h3⟩) (by assumption) ?r3
        case h3 => (intro w hSw; go_simp; with_reducible rfl)
        simp only [Act.put, List.setIfInBounds_toArray, List.set_cons_zero, List.set_cons_succ]
        refine wpAnyK_take 4 40 (v := ?v4) rfl (by kernel_rfl) (by kernel_rfl) (by kernel_rfl) (by kernel_rfl) (by kernel_rfl) (fun _ _ _ h => h) rfl (Or.inl ⟨by rfl, ?h4⟩) (by assumption) ?r4
        case h4 => (intro w hSw; go_simp; with_reducible rfl)
        simp only [Act.put, List.setIfInBounds_toArray, List.set_cons_zero, List.set_cons_succ]
        refine wpAnyK_take 5 41 (v := ?v5) rfl (by kernel_rfl) (by kernel_rfl) (by kernel_rfl) (by kernel_rfl) (by kernel_rfl) (fun _ _ _ h => h) rfl (Or.inl ⟨by rfl, ?h5⟩) (by assumption) ?r5
        case h5 => (intro w hSw; go_simp; with_reducible rfl)
        simp only [Act.put, List.setIfInBounds_toArray, List.set_cons_zero, List.set_cons_succ]
        refine wpAnyK_one 6 (by kernel_rfl) rfl (fun K hK => ?_)
        go_simp
        refine hK.out _ _ (fun _ _ => SA) ?_
        clear hK K
        simp only [List.setIfInBounds_toArray, List.set_cons_zero, List.set_cons_succ]
        refine wpAnyK_one 7 (by kernel_rfl) rfl (fun K hK => ?_)
        refine step_append_eq rfl _ _ 24 rfl _ _ _ rfl rfl _ EA ?_
        refine hK.out _ _ (fun _ _ => S7) ?_
        clear hK K
        simp only [Act.put, List.setIfInBounds_toArray, List.set_cons_zero, List.set_cons_succ]
        refine wpAnyK_take 8 44 (v := ?v8) rfl (by kernel_rfl) (by kernel_rfl) (by kernel_rfl) (by kernel_rfl) (by kernel_rfl) (fun _ _ _ h => h) rfl (Or.inl ⟨by rfl, ?h8⟩) (by assumption) ?r8
        case h8 => (intro w hSw; go_simp; with_reducible rfl)
        simp only [Act.put, List.setIfInBounds_toArray, List.set_cons_zero, List.set_cons_succ]
        refine wpAnyK_one 9 (by kernel_rfl) rfl (fun K hK => ?_)
        go_simp
        refine hK.out _ _ (fun h => absurd rfl h) ?_
        clear hK K
        simp only [List.setIfInBounds_toArray, List.set_cons_zero, List.set_cons_succ]
        refine wpAnyK_done (by kernel_rfl) ?_ _
        clear S0 SA S7 EA d1' dz1
        go_wp2
        go_roundw
        case rel => exact ⟨k + 1, _, _, _, by omega, by simp, KC.out⟩
        case measure => simp [intOf]; omega
      · obtain ⟨W4, eW4⟩ : ∃ W4, w3.setCell ⟨D, 2, none⟩ (.slice (some ⟨g, 0, none⟩) (k + 1) cap) = W4 := ⟨_, rfl⟩
        have EW4 := Sv.hid eW4
        rw [eW4] at KB
        obtain ⟨hrs, hE, tE, eb, hbw⟩ := KB.out
        have ba := Sv.bw_new W4 (.cells #[.float .f64 0] 25)
        have d1 : (w3.setCell ⟨D, 2, none⟩ (.slice (some ⟨g, 0, none⟩) (k + 1) cap)).cell? ⟨D, 1, none⟩ = some vB := by rw [eW4]; exact hrs.hD.2.2.1
        have dl : D < (w3.setCell ⟨D, 2, none⟩ (.slice (some ⟨g, 0, none⟩) (k + 1) cap)).heap.size := by rw [eW4]; exact hrs.hD.1
        have dl3 : D < w3.heap.size := by have := dl; simpa [World.setCell] using this
        have d1w : w3.cell? ⟨D, 1, none⟩ = some vB := by rw [← d1]; exact (World.cell?_setCell_other _ _ _ _ (by intro q; cases q)).symm
        have hs4 : W4.heap.size = w3.heap.size := by rw [← eW4]; simp [World.setCell]
        obtain ⟨XB, hBo, hBq⟩ := hrs.hB
        have HBO := Sv.hid (hBo.alloc (.cells #[.float .f64 0] 25))
        have hsz : Hid (w.heap.size ≤ (W4.alloc (.cells #[.float .f64 0] 25)).heap.size ∧ (W4.alloc (.cells #[.float .f64 0] 25)).heap.size = w3.heap.size + 1) := ⟨(bw_trans hbw ba).size, by rw [← hs4]; simp⟩
        have KA := Sv.hid (And.intro (hrs.bw ba) (And.intro (hE.bw ba) (And.intro tE (And.intro eb (And.intro (bw_trans hbw ba) hBq)))))
        have zz : ((vn : Int) == n) = false := by rw [beq_eq_false_iff_ne]; omega
        have HS4 := Sv.hid hs4
        have HZ := Sv.hid z
        clear hrs hE tE eb hbw ba hBo hBq KB eW4 hs4 d1 dl z hnb
        go_wp2_with (first
          | (at_builtin; rw [EW4.out]; refine wpList_append_lies _ (by rfl) _ _ 24 (by rfl) w.heap.size 25 i0 (.float .f64 0) 1 8 Sv.und_f hi0 ha0 ha1 ha2 rfl (by decide) _ k _ (by rfl) HBO.out ⟨w3.heap.size, 0, none⟩ 1 1 [.float .f64 0] (by rfl) rfl (by have z := cell_one_new W4 (.float .f64 0) 25; rw [HS4.out] at z; exact z) (fun u hu => by simp only [List.mem_singleton] at hu; subst hu; rfl) (by decide) (by unfold maxLen; omega) (by omega) hsz.out.1 (w3.heap.size + 1) hsz.out.2 ?_)
          | go_in)
        intro g' cap' w5 hown hgrow hat hlt
        obtain ⟨hrs, hE, tE, eb, hbw, hBq⟩ := KA.out
        obtain ⟨hrs5, hd5, g5⟩ := hrs.pushB hBq (x := 0) (by decide) hown hgrow hat hsz.out.2
        have d1' := hd5.2.2.1
        have dz1 := hd5.2.2.2.2.2.2.2 1
        have hE5 : Sv.Dc (w5.setCell ⟨D, 1, none⟩ (.slice (some ⟨g', 0, none⟩) (k + 1) cap')) E (.slice none 0 0) (.slice none 0 0) (.slice none 0 0) (.slice none 0 0) (.slice none 0 0) (.bool false) := (hE.gb hgrow (fun z => by have := hrs.tB E z.symm; rw [tE] at this; cases this)).gb g5 (fun z => by cases z; have := hrs.tD; rw [tE] at this; cases this)
        have tE5 : Sv.own t2 g' 2 E = 7 := by rw [Sv.own_keep (by rw [tE]; decide) (by rcases hat with z | z; exact Or.inl (hrs.tB g' z); exact Or.inr (by have := hE.1; have := hsz.out.2; omega))]; exact tE
        have hbw5 : Bw w (w5.setCell ⟨D, 1, none⟩ (.slice (some ⟨g', 0, none⟩) (k + 1) cap')) := Sv.gb_below (Below.grown hbw hgrow hbw.size (fun x e => by obtain ⟨XC, hC, _⟩ := hrs.hB; exact (hC.lt x e).1)) g5 (by have := hbw.size; have := hgrow.size; omega) hrs.hb
        have hrs6 := hrs5.ext (G' := Sv.st n AA 0) (Bf' := fun i => Sv.st n AA 0 i n) (X' := Sv.pm n AA 0) (P' := Sv.piv n AA) (O' := Sv.odd n AA) (fun _ _ _ _ => rfl) (fun j hj => by
          by_cases y : j = k
          · rw [if_pos y, y]; show Fl.bitsF 0 = AA k n; rw [HAA.out k hk1]; unfold Sv.rs; rw [if_neg HZ.out]; decide
          · rw [if_neg y]) (fun _ _ => rfl) (fun j hj => absurd hj (by omega)) (fun j hj => absurd hj (by omega))
        have KC := Sv.hid (⟨hrs6, hE5, tE5, eb, hbw5⟩ : Sv.Rk _ w n D E R cR AA (k + 1) 0 c f _ _ _ _ _)
        clear hrs hrs5 hrs6 hd5 g5 hE hE5 tE tE5 eb hbw hbw5 KA hown hgrow hat hlt hBq hsz EW4 HS4
        go_wp2
        go_roundw
        case rel => exact ⟨k + 1, _, _, _, by omega, by simp, KC.out⟩
        case measure => simp [intOf]; omega
    · have hk3 : n = k := by omega
      subst hk3
      have KC := Sv.hid hRk
      clear hRk hnb HAA HB
      go_wp2
      go_loopw [8] (fun v wr => ∃ (k : Nat) (c f : Nat → Nat) (vB vR vP vO : Value) (t : Nat → Nat), k ≤ n ∧ v = .int .i64 k ∧ Sv.good n AA k ∧ Sv.Rk wr w n D E R cR AA n k c f vB vR vP vO t) (fun v _ => n - (intOf v).toNat)
      case atStart => exact ⟨0, c, f, _, _, _, _, t, Nat.zero_le _, rfl, fun j hj => absurd hj (by omega), KC.out⟩
      case round =>
        clear KC
        obtain ⟨k, c, f, vB, vR, vP, vO, t, hk, rfl, hgd, hRk⟩ := hrel
        by_cases hk1 : k < n
        · have hk2 : (k : Int) < n := by omega
          have KC := Sv.hid hRk
          have HG := Sv.hid hgd
          clear hRk hgd
          go_wp2
          go_loopw [9, 10] (fun p i wr => ∃ s : Nat, s ≤ n - 1 - k ∧ i = .int .i64 ((k + 1 + s : Nat) : Int) ∧ p = .int .i64 (Sv.best (Sv.st n AA k) k (s + 1)) ∧ Sv.Rk wr w n D E R cR AA n k c f vB vR vP vO t) (fun _ i _ => n - (intOf i).toNat)
          case atStart => exact ⟨0, Nat.zero_le _, by simp, by rw [Sv.best_one], KC.out⟩
          case round =>
            clear KC
            obtain ⟨s, hs, rfl, rfl, hRk⟩ := hrel
            obtain ⟨i, hi⟩ : ∃ i, i = k + 1 + s := ⟨_, rfl⟩
            rw [← hi]
            have hle := Sv.best_lt (Sv.st n AA k) k (s + 1)
            obtain ⟨pp, hpp⟩ : ∃ pp, Sv.best (Sv.st n AA k) k (s + 1) = pp := ⟨_, rfl⟩
            rw [hpp] at hle ⊢
            have hpn : pp < n := by omega
            have hp2 : (pp : Int) < n := by omega
            by_cases hs1 : s < n - 1 - k
            · have hin : i < n := by omega
              have hi2 : (i : Int) < n := by omega
              replace hRk := hRk.next (Bw.refl wr).drew
              have d0 := hRk.rs.hD.2.1
              have e1 := hRk.rs.hA.cell hin
              have e2 := hRk.rs.hA.cell hpn
              obtain ⟨x, e3, hx, q1⟩ := (hRk.rs.hA.row i hin).cell hk1
              obtain ⟨y, e4, hy, q2⟩ := (hRk.rs.hA.row pp hpn).cell hk1
              have HG2 : Hid (Sv.best (Sv.st n AA k) k (s + 1 + 1) = if Sv.gt x y then i else pp) := by
                show Sv.best (Sv.st n AA k) k (s + 1 + 1) = _
                rw [Sv.best, hpp, show k + (s + 1) = i by omega, ← q1, ← q2, Sv.gt_c]
              have S0 : wr.drew.cell? ⟨D, 0, none⟩ = some (.slice (some ⟨R, 0, none⟩) n cR) ∧ wr.drew.cell? ⟨R, i, none⟩ = some (.slice (some ⟨f i, 0, none⟩) n (c i)) ∧ wr.drew.cell? ⟨R, pp, none⟩ = some (.slice (some ⟨f pp, 0, none⟩) n (c pp)) ∧ wr.drew.cell? ⟨f i, k, none⟩ = some (.float .f64 x) ∧ wr.drew.cell? ⟨f pp, k, none⟩ = some (.float .f64 y) := ⟨d0, e1, e2, e3, e4⟩
              have KC := Sv.hid hRk
              have GT : (FloatKind.f64.format.order (Fl.rg x) (Fl.rg y) == some .gt) = Sv.gt x y := by rw [Fl.o_gt, Sv.gt_ltF]
              have HI := Sv.hid hi
              clear hRk d0 e1 e2 e3 e4 q1 q2 hpp hle hi
              go_wp2_with fail
              refine wp_region_K (fun w' => w'.cell? ⟨D, 0, none⟩ = some (.slice (some ⟨R, 0, none⟩) n cR) ∧ w'.cell? ⟨R, i, none⟩ = some (.slice (some ⟨f i, 0, none⟩) n (c i)) ∧ w'.cell? ⟨R, pp, none⟩ = some (.slice (some ⟨f pp, 0, none⟩) n (c pp)) ∧ w'.cell? ⟨f i, k, none⟩ = some (.float .f64 x) ∧ w'.cell? ⟨f pp, k, none⟩ = some (.float .f64 y)) 18 19 #[false, false, false, false, false, false, false, false, false, false, false, false, false, false, false, false, false, false, false] (by kernel_rfl) (by kernel_rfl) (by kernel_rfl) ?_
              generalize wr.drew = W at *
              refine wpAnyK_take 0 63 (v := ?vb0) rfl (by kernel_rfl) (by kernel_rfl) (by kernel_rfl) (by kernel_rfl) (by kernel_rfl) (fun _ _ _ h => h) rfl (Or.inl ⟨by rfl, ?hb0⟩) (by assumption) ?rb0
              case hb0 => (intro w hSw; go_simp; with_reducible rfl)
              simp only [Act.put, List.setIfInBounds_toArray, List.set_cons_zero, List.set_cons_succ]
              refine wpAnyK_take 1 64 (v := ?vb1) rfl (by kernel_rfl) (by kernel_rfl) (by kernel_rfl) (by kernel_rfl) (by kernel_rfl) (fun _ _ _ h => h) rfl (Or.inl ⟨by rfl, ?hb1⟩) (by assumption) ?rb1
              case hb1 => (intro w hSw; go_simp; with_reducible rfl)
              simp only [Act.put, List.setIfInBounds_toArray, List.set_cons_zero, List.set_cons_succ]
              refine wpAnyK_take 2 65 (v := ?vb2) rfl (by kernel_rfl) (by kernel_rfl) (by kernel_rfl) (by kernel_rfl) (by kernel_rfl) (fun _ _ _ h => h) rfl (Or.inl ⟨by rfl, ?hb2⟩) (by assumption) ?rb2
              case hb2 => (intro w hSw; go_simp; with_reducible rfl)
              simp only [Act.put, List.setIfInBounds_toArray, List.set_cons_zero, List.set_cons_succ]
              refine wpAnyK_take 3 66 (v := ?vb3) rfl (by kernel_rfl) (by kernel_rfl) (by kernel_rfl) (by kernel_rfl) (by kernel_rfl) (fun _ _ _ h => h) rfl (Or.inl ⟨by rfl, ?hb3⟩) (by assumption) ?rb3
              case hb3 => (intro w hSw; go_simp; with_reducible rfl)
              simp only [Act.put, List.setIfInBounds_toArray, List.set_cons_zero, List.set_cons_succ]
              refine wpAnyK_take 4 67 (v := ?vb4) rfl (by kernel_rfl) (by kernel_rfl) (by kernel_rfl) (by kernel_rfl) (by kernel_rfl) (fun _ _ _ h => h) rfl (Or.inl ⟨by rfl, ?hb4⟩) (by assumption) ?rb4
              case hb4 => (intro w hSw; go_simp; with_reducible rfl)
              simp only [Act.put, List.setIfInBounds_toArray, List.set_cons_zero, List.set_cons_succ]
              refine wpAnyK_take 5 68 (v := ?vb5) rfl (by kernel_rfl) (by kernel_rfl) (by kernel_rfl) (by kernel_rfl) (by kernel_rfl) (fun _ _ _ h => h) rfl (Or.inl ⟨by rfl, ?hb5⟩) (by assumption) ?rb5
              case hb5 => (intro w hSw; go_simp; with_reducible rfl)
              simp only [Act.put, List.setIfInBounds_toArray, List.set_cons_zero, List.set_cons_succ]
              refine wpAnyK_take 6 69 (v := ?vb6) rfl (by kernel_rfl) (by kernel_rfl) (by kernel_rfl) (by kernel_rfl) (by kernel_rfl) (fun _ _ _ h => h) rfl (Or.inl ⟨by rfl, ?hb6⟩) (by assumption) ?rb6
              case hb6 => (intro w hSw; go_simp; with_reducible rfl)
              simp only [Act.put, List.setIfInBounds_toArray, List.set_cons_zero, List.set_cons_succ]
              refine wpAnyK_take 7 70 (v := ?vb7) rfl (by kernel_rfl) (by kernel_rfl) (by kernel_rfl) (by kernel_rfl) (by kernel_rfl) (fun _ _ _ h => h) rfl (Or.inl ⟨by rfl, ?hb7⟩) (by assumption) ?rb7
              case hb7 => (intro w hSw; go_simp; with_reducible rfl)
              simp only [Act.put, List.setIfInBounds_toArray, List.set_cons_zero, List.set_cons_succ]
              refine wpAnyK_take 9 72 (v := ?vb9) rfl (by kernel_rfl) (by kernel_rfl) (by kernel_rfl) (by kernel_rfl) (by kernel_rfl) (fun _ _ _ h => h) rfl (Or.inl ⟨by rfl, ?hb9⟩) (by assumption) ?rb9
              case hb9 => (intro w hSw; go_simp; with_reducible rfl)
              simp only [Act.put, List.setIfInBounds_toArray, List.set_cons_zero, List.set_cons_succ]
              refine wpAnyK_take 10 73 (v := ?vb10) rfl (by kernel_rfl) (by kernel_rfl) (by kernel_rfl) (by kernel_rfl) (by kernel_rfl) (fun _ _ _ h => h) rfl (Or.inl ⟨by rfl, ?hb10⟩) (by assumption) ?rb10
              case hb10 => (intro w hSw; go_simp; with_reducible rfl)
              simp only [Act.put, List.setIfInBounds_toArray, List.set_cons_zero, List.set_cons_succ]
              refine wpAnyK_take 11 74 (v := ?vb11) rfl (by kernel_rfl) (by kernel_rfl) (by kernel_rfl) (by kernel_rfl) (by kernel_rfl) (fun _ _ _ h => h) rfl (Or.inl ⟨by rfl, ?hb11⟩) (by assumption) ?rb11
              case hb11 => (intro w hSw; go_simp; with_reducible rfl)
              simp only [Act.put, List.setIfInBounds_toArray, List.set_cons_zero, List.set_cons_succ]
              refine wpAnyK_take 12 75 (v := ?vb12) rfl (by kernel_rfl) (by kernel_rfl) (by kernel_rfl) (by kernel_rfl) (by kernel_rfl) (fun _ _ _ h => h) rfl (Or.inl ⟨by rfl, ?hb12⟩) (by assumption) ?rb12
              case hb12 => (intro w hSw; go_simp; with_reducible rfl)
              simp only [Act.put, List.setIfInBounds_toArray, List.set_cons_zero, List.set_cons_succ]
              refine wpAnyK_take 13 76 (v := ?vb13) rfl (by kernel_rfl) (by kernel_rfl) (by kernel_rfl) (by kernel_rfl) (by kernel_rfl) (fun _ _ _ h => h) rfl (Or.inl ⟨by rfl, ?hb13⟩) (by assumption) ?rb13
              case hb13 => (intro w hSw; go_simp; with_reducible rfl)
              simp only [Act.put, List.setIfInBounds_toArray, List.set_cons_zero, List.set_cons_succ]
              refine wpAnyK_take 14 77 (v := ?vb14) rfl (by kernel_rfl) (by kernel_rfl) (by kernel_rfl) (by kernel_rfl) (by kernel_rfl) (fun _ _ _ h => h) rfl (Or.inl ⟨by rfl, ?hb14⟩) (by assumption) ?rb14
              case hb14 => (intro w hSw; go_simp; with_reducible rfl)
              simp only [Act.put, List.setIfInBounds_toArray, List.set_cons_zero, List.set_cons_succ]
              refine wpAnyK_take 15 78 (v := ?vb15) rfl (by kernel_rfl) (by kernel_rfl) (by kernel_rfl) (by kernel_rfl) (by kernel_rfl) (fun _ _ _ h => h) rfl (Or.inl ⟨by rfl, ?hb15⟩) (by assumption) ?rb15
              case hb15 => (intro w hSw; go_simp; with_reducible rfl)
              simp only [Act.put, List.setIfInBounds_toArray, List.set_cons_zero, List.set_cons_succ]
              refine wpAnyK_take 16 79 (v := ?vb16) rfl (by kernel_rfl) (by kernel_rfl) (by kernel_rfl) (by kernel_rfl) (by kernel_rfl) (fun _ _ _ h => h) rfl (Or.inl ⟨by rfl, ?hb16⟩) (by assumption) ?rb16
              case hb16 => (intro w hSw; go_simp; with_reducible rfl)
              simp only [Act.put, List.setIfInBounds_toArray, List.set_cons_zero, List.set_cons_succ]
              refine wpAnyK_one 8 (by kernel_rfl) rfl (fun K hK => ?_)
              go_simp
              go_wp2_with (go_at_call 31; refine (abs_any _ _ (by assumption)).mono ?_; rintro e' w7 ⟨rfl, hw7⟩; subst hw7)
              refine hK.out _ _ (fun _ _ => S0) ?_
              clear hK K
              simp only [List.setIfInBounds_toArray, List.set_cons_zero, List.set_cons_succ]
              refine wpAnyK_one 17 (by kernel_rfl) rfl (fun K hK => ?_)
              go_simp
              go_wp2_with (go_at_call 31; refine (abs_any _ _ (by assumption)).mono ?_; rintro e' w7 ⟨rfl, hw7⟩; subst hw7)
              refine hK.out _ _ (fun _ _ => S0) ?_
              clear hK K
              simp only [List.setIfInBounds_toArray, List.set_cons_zero, List.set_cons_succ]
              refine wpAnyK_one 18 (by kernel_rfl) rfl (fun K hK => ?_)
              go_simp
              refine hK.out _ _ (fun h => absurd rfl h) ?_
              clear hK K
              simp only [List.setIfInBounds_toArray, List.set_cons_zero, List.set_cons_succ]
              refine wpAnyK_done (by kernel_rfl) ?_ _
              clear S0 GT hx hy
              generalize Sv.gt x y = gg at HG2 ⊢
              cases gg
              · have HG3 : Hid (Sv.best (Sv.st n AA k) k (s + 1 + 1) = pp) := HG2.out
                clear HG2
                go_wp2
                go_roundw
                case rel => exact ⟨s + 1, by omega, by have := HI.out; simp; omega, by rw [HG3.out], KC.out⟩
                case measure => simp [intOf]; omega
              · have HG3 : Hid (Sv.best (Sv.st n AA k) k (s + 1 + 1) = i) := HG2.out
                clear HG2
                go_wp2
                go_roundw
                case rel => exact ⟨s + 1, by omega, by have := HI.out; simp; omega, by rw [HG3.out], KC.out⟩
                case measure => simp [intOf]; omega
            · have hs3 : s = n - 1 - k := by omega
              have hit : i = n := by omega
              have htk : Sv.tk n AA k = pp := by rw [← hpp, show s + 1 = n - k by omega]; rfl
              have hii : ¬ (i : Int) < n := by omega
              have HT := Sv.hid htk
              obtain ⟨x, e4, hx, q2⟩ := (hRk.rs.hA.row pp hpn).cell hk1
              have e2 := hRk.rs.hA.cell hpn
              have d0 := hRk.rs.hD.2.1
              have d3 := hRk.rs.hD.2.2.2.2.1
              have dl := hRk.rs.hD.1
              have q3 : Fl.bitsF x = Sv.piv n AA k := by rw [q2]; unfold Sv.piv; rw [htk]
              have HQ := Sv.hid q3
              have ba := Sv.bw_new wr (.cells #[.float .f64 x] 25)
              obtain ⟨XP, hPo, hPq⟩ := hRk.rs.hP
              have HPO := Sv.hid (hPo.alloc (.cells #[.float .f64 x] 25))
              have hsz : Hid (w.heap.size ≤ (wr.alloc (.cells #[.float .f64 x] 25)).heap.size ∧ (wr.alloc (.cells #[.float .f64 x] 25)).heap.size = wr.heap.size + 1) := ⟨(hRk.next ba).bw.size, by simp⟩
              have KA := Sv.hid (And.intro (hRk.next ba) hPq)
              clear hRk ba hPo hPq q2 q3 htk hpp hle
              go_wp2_with (first
                | (at_builtin; refine wpList_append_lies _ (by rfl) _ _ 24 (by rfl) w.heap.size 25 i0 (.float .f64 0) 1 8 Sv.und_f hi0 ha0 ha1 ha2 rfl (by decide) _ k _ (by rfl) HPO.out ⟨wr.heap.size, 0, none⟩ 1 1 [.float .f64 x] (by rfl) rfl (cell_one_new _ _ _) (fun u hu => by simp only [List.mem_singleton] at hu; subst hu; rfl) (by decide) (by unfold maxLen; omega) (by omega) hsz.out.1 (wr.heap.size + 1) hsz.out.2 ?_)
                | go_in)
              intro g cap w3 hown hgrow hat hlt
              obtain ⟨hRk, hPq⟩ := KA.out
              obtain ⟨hrs3, hd3, g3⟩ := hRk.rs.pushP hPq hx hown hgrow hat hsz.out.2
              have d3' := hd3.2.2.2.2.1
              have dz3 := hd3.2.2.2.2.2.2.2 3
              have hE3 : Sv.Dc (w3.setCell ⟨D, 3, none⟩ (.slice (some ⟨g, 0, none⟩) (k + 1) cap)) E (.slice none 0 0) (.slice none 0 0) (.slice none 0 0) (.slice none 0 0) (.slice none 0 0) (.bool false) := (hRk.hE.gb hgrow (fun z => by have := hRk.rs.tP E z.symm; rw [hRk.tE] at this; cases this)).gb g3 (fun z => by have z' := Option.some.inj z; have := hRk.rs.tD; rw [← z', hRk.tE] at this; cases this)
              have tE3 : Sv.own t g 4 E = 7 := by rw [Sv.own_keep (by rw [hRk.tE]; decide) (by rcases hat with z | z; exact Or.inl (hRk.rs.tP g z); exact Or.inr (by have := hRk.hE.1; have := hsz.out.2; omega))]; exact hRk.tE
              have hbw3 : Bw w (w3.setCell ⟨D, 3, none⟩ (.slice (some ⟨g, 0, none⟩) (k + 1) cap)) := Sv.gb_below (Below.grown hRk.bw hgrow hRk.bw.size (fun x e => by obtain ⟨XC, hC, _⟩ := hRk.rs.hP; exact (hC.lt x e).1)) g3 (by have := hRk.bw.size; have := hgrow.size; omega) hRk.rs.hb
              have hrs4 := hrs3.ext (G' := Sv.st n AA k) (Bf' := fun i => Sv.st n AA k i n) (X' := Sv.pm n AA k) (P' := Sv.piv n AA) (O' := Sv.odd n AA) (fun _ _ _ _ => rfl) (fun _ _ => rfl) (fun _ _ => rfl) (fun j hj => by
                by_cases z : j = k
                · rw [if_pos z, z]; exact HQ.out
                · rw [if_neg z]) (fun _ _ => rfl)
              have heb := hRk.eb
              generalize Sv.own t g 4 = t2 at *
              obtain ⟨o, ho⟩ : ∃ o, Sv.odd n AA k = o := ⟨_, rfl⟩
              have HO := Sv.hid ho
              have hpk : ((pp : Int) != (k : Int)) = o := by
                have := HT.out
                rw [← ho]
                unfold Sv.odd
                rw [this]
                by_cases z : pp = k
                · rw [z]; simp
                · rw [decide_eq_true z, bne, beq_eq_false_iff_ne.2 (by omega)]; rfl
              obtain ⟨W4, eW4⟩ : ∃ W4, w3.setCell ⟨D, 3, none⟩ (.slice (some ⟨g, 0, none⟩) (k + 1) cap) = W4 := ⟨_, rfl⟩
              have EW4 := Sv.hid eW4
              have hs4 : W4.heap.size = w3.heap.size := by rw [← eW4]; simp [World.setCell]
              have HS4 := Sv.hid hs4
              have dl3 : D < w3.heap.size := hd3.1
              have d4 : w3.cell? ⟨D, 4, none⟩ = some vO := hd3.2.2.2.2.2.1
              rw [eW4] at hrs4 hE3 hbw3
              have ba := Sv.bw_new W4 (.cells #[.bool o] 4)
              have HOO := Sv.hid (hrs4.hO.alloc (.cells #[.bool o] 4))
              have hsz2 : Hid (w.heap.size ≤ (W4.alloc (.cells #[.bool o] 4)).heap.size ∧ (W4.alloc (.cells #[.bool o] 4)).heap.size = w3.heap.size + 1) := ⟨(bw_trans hbw3 ba).size, by rw [← hs4]; simp⟩
              have KB := Sv.hid (And.intro (hrs4.bw ba) (And.intro (hE3.bw ba) (And.intro tE3 (And.intro heb (bw_trans hbw3 ba)))))
              clear hRk hPq hrs3 hrs4 hd3 g3 hE3 tE3 hbw3 heb KA hown hgrow hat hlt hsz HPO e4 e2 d0 d3 dl ho eW4 hs4 ba
              go_wp2_with (first
                | (at_builtin; rw [EW4.out]; refine wpList_append_lies _ (by rfl) _ _ 83 (by rfl) w.heap.size 4 k0 (.bool false) 1 1 Sv.und_b hk0 hc0 hc1 hc2 rfl (by decide) _ k _ (by rfl) HOO.out ⟨w3.heap.size, 0, none⟩ 1 1 [.bool o] (by rfl) rfl (by have z := cell_one_new W4 (.bool o) 4; rw [HS4.out] at z; exact z) (fun u hu => by simp only [List.mem_singleton] at hu; subst hu; rfl) (by decide) (by unfold maxLen; omega) (by omega) hsz2.out.1 (w3.heap.size + 1) hsz2.out.2 ?_)
                | go_in)
              intro g' cap' w5 hown hgrow hat hlt
              obtain ⟨hrs, hE, tE, heb, hbw⟩ := KB.out
              obtain ⟨hrs5, hd5, g5⟩ := hrs.pushO hown hgrow hat hsz2.out.2
              have d4' := hd5.2.2.2.2.2.1
              have dz4 := hd5.2.2.2.2.2.2.2 4
              have dl5 : D < w5.heap.size := hd5.1
              have hE5 : Sv.Dc (w5.setCell ⟨D, 4, none⟩ (.slice (some ⟨g', 0, none⟩) (k + 1) cap')) E (.slice none 0 0) (.slice none 0 0) (.slice none 0 0) (.slice none 0 0) (.slice none 0 0) (.bool false) := (hE.gb hgrow (fun z => by have := hrs.tO E z.symm; rw [tE] at this; cases this)).gb g5 (fun z => by have z' := Option.some.inj z; have := hrs.tD; rw [← z', tE] at this; cases this)
              have tE5 : Sv.own t2 g' 5 E = 7 := by rw [Sv.own_keep (by rw [tE]; decide) (by rcases hat with z | z; exact Or.inl (hrs.tO g' z); exact Or.inr (by have := hE.1; have := hsz2.out.2; omega))]; exact tE
              have hbw5 : Bw w (w5.setCell ⟨D, 4, none⟩ (.slice (some ⟨g', 0, none⟩) (k + 1) cap')) := Sv.gb_below (Below.grown hbw hgrow hbw.size (fun x e => (hrs.hO.lt x e).1)) g5 (by have := hbw.size; have := hgrow.size; omega) hrs.hb
              have hrs6 := hrs5.ext (G' := Sv.st n AA k) (Bf' := fun i => Sv.st n AA k i n) (X' := Sv.pm n AA k) (P' := Sv.piv n AA) (O' := Sv.odd n AA) (fun _ _ _ _ => rfl) (fun _ _ => rfl) (fun _ _ => rfl) (fun _ _ => rfl) (fun j hj => by
                by_cases z : j = k
                · rw [if_pos z, z]; exact HO.out.symm
                · rw [if_neg z])
              generalize Sv.own t2 g' 5 = t3 at *
              obtain ⟨W6, eW6⟩ : ∃ W6, w5.setCell ⟨D, 4, none⟩ (.slice (some ⟨g', 0, none⟩) (k + 1) cap') = W6 := ⟨_, rfl⟩
              have EW6 := Sv.hid eW6
              rw [eW6] at hrs6 hE5 hbw5
              obtain ⟨Bb, cB, rfl, _, _⟩ := hrs6.hB.form hn0
              obtain ⟨Br, cr, rfl, _, _⟩ := hrs6.hR.form hn0
              have KD := Sv.hid (And.intro hrs6 (And.intro hE5 (And.intro tE5 (And.intro heb hbw5))))
              clear hrs hrs5 hrs6 hd5 g5 hE hE5 tE tE5 hbw hbw5 heb KB hown hgrow hat hlt hsz2 HOO hpk eW6 EW4 HS4 dl3 d4 d3' dz3
              cases zn : Sv.nought x
              · cases zf : Fl.finB x
                · skip
                  have HBD : Hid (Sv.bad (Sv.piv n AA k) = true) := by show _ = _; rw [← HQ.out, Sv.bad_c]; unfold Sv.bad; rw [zn, zf]; rfl
                  have NX : (FloatKind.f64.format.order x 0 == some .eq) = false := by rw [Fl.o_eq, Sv.nought_eqF, zn]
                  go_wp2_with fail
                  refine (rfinite_any x _).mono ?_
                  rintro e' w6 ⟨rfl, hw6⟩
                  subst hw6
                  rw [EW6.out, zf]
                  obtain ⟨hrs, hE, tE, heb, hbw⟩ := KD.out
                  obtain ⟨hd7, g7⟩ := hrs.hD.set 5 (.bool false)
                  simp at hd7
                  have hE7 := hE.gb g7 (fun z => by have z' := Option.some.inj z; have := hrs.tD; rw [← z', tE] at this; cases this)
                  have hDl := hrs.hD.2.2.2.2.2.2.1
                  have hDz := hrs.hD.2.2.2.2.2.2.2 5
                  obtain ⟨m0, m1, m2, m3, m4, m5, m6, m7⟩ := hd7
                  obtain ⟨n0, n1, n2, n3, n4, n5, n6, n7⟩ := hE7
                  have nz0 := n7 0
                  have nz1 := n7 1
                  have nz2 := n7 2
                  have nz3 := n7 3
                  have nz4 := n7 4
                  have nz5 := n7 5
                  have KE := Sv.hid (And.intro g7 (show Sv.Dc _ E _ _ _ _ _ _ from ⟨n0, n1, n2, n3, n4, n5, n6, n7⟩))
                  clear hrs hE tE heb hbw g7 n7 m7
                  go_wp2
                  obtain ⟨h8, g8⟩ := KE.out.2.six (.slice (some ⟨R, 0, none⟩) n cR) (.slice (some ⟨Bb, 0, none⟩) n cB) (.slice (some ⟨Br, 0, none⟩) n cr) (.slice (some ⟨g, 0, none⟩) (k + 1) cap) (.slice (some ⟨g', 0, none⟩) (k + 1) cap') (.bool false)
                  obtain ⟨hrs, hE, tE, heb, hbw⟩ := KD.out
                  have l7 := hrs.last (E := E) (Or.inl hrs.tD) KE.out.1
                  refine bodyPost_ret (Sv.Dc.res rfl _ rfl h8) rfl ?_
                  have hEl := hE.1
                  have tne : ∀ v : Value, ∀ m, (∀ x, v.ownBlock = some x → t3 x = m) → m ≠ 7 → v.ownBlock = none ∨ v.ownBlock ≠ some E := fun v m hv hm => Sv.apart hv (fun x z => by cases z; rw [tE]; exact fun q => hm q.symm)
                  try rw [hAA]
                  refine ⟨_, _, _, _, _, false, rfl, Sv.gb_below (Sv.gb_below hbw KE.out.1 hbw.size hrs.hb) g8 (by have := hbw.size; have := KE.out.1.size; omega) heb, k + 1, R, cR, c, f, Sv.pm n AA k, (fun i => Sv.st n AA k i n), Sv.st n AA k, rfl, l7.1.gb g8 (Or.inr (fun z => by have z' : R = E := Option.some.inj z; have := hrs.tA; rw [z', tE] at this; cases this)) (fun i hi z => by have z' := Option.some.inj z; have := hrs.tf i hi; rw [z', tE] at this; cases this), l7.2.1.gb g8 (tne _ 2 hrs.tB (by decide)), l7.2.2.1.kept g8 (tne _ 3 hrs.tR (by decide)), ?_, ?_, Or.inr ⟨rfl, k, hk1, rfl, ?_, ?_⟩⟩
                  · exact l7.2.2.2.1.gb g8 (tne _ 4 hrs.tP (by decide))
                  · exact l7.2.2.2.2.kept g8 (tne _ 5 hrs.tO (by decide))
                  · exact HG.out
                  · exact HBD.out
                · have HBD : Hid (Sv.bad (Sv.piv n AA k) = false) := by show _ = _; rw [← HQ.out, Sv.bad_c]; unfold Sv.bad; rw [zn, zf]; rfl
                  have NX : (FloatKind.f64.format.order x 0 == some .eq) = false := by rw [Fl.o_eq, Sv.nought_eqF, zn]
                  go_wp2_with fail
                  refine (rfinite_any x _).mono ?_
                  rintro e' w6 ⟨rfl, hw6⟩
                  subst hw6
                  rw [EW6.out, zf]
                  go_wp2_with fail
                  clear NX zn zf HQ hx EW6
                  obtain ⟨hrs, hE, tE, heb, hbw⟩ := KD.out
                  have bd : Bw W6 W6.drew := (Bw.refl W6).drew
                  replace hrs := hrs.bw bd
                  replace hE := hE.bw bd
                  replace hbw := bw_trans hbw bd
                  have hDR : D ≠ R := fun z => by have := hrs.tD; rw [z, hrs.tA] at this; cases this
                  have T0 : W6.drew.cell? ⟨D, 0, none⟩ = some (.slice (some ⟨R, 0, none⟩) n cR) := hrs.hD.2.1
                  have S0 : W6.drew.cell? ⟨D, 0, none⟩ = some (.slice (some ⟨R, 0, none⟩) n cR) ∧ W6.drew.cell? ⟨R, k, none⟩ = some (.slice (some ⟨f k, 0, none⟩) n (c k)) ∧ W6.drew.cell? ⟨R, pp, none⟩ = some (.slice (some ⟨f pp, 0, none⟩) n (c pp)) ∧ W6.drew.frozen? ⟨R, k, none⟩ = false := ⟨hrs.hD.2.1, hrs.hA.cell hk1, hrs.hA.cell hpn, hrs.hA.own.frozenAt k⟩
                  obtain ⟨u, hu⟩ : ∃ u, (W6.drew.setCell ⟨R, k, none⟩ (.slice (some ⟨f pp, 0, none⟩) n (c pp))).cell? ⟨R, pp, none⟩ = some u := by
                    by_cases z : pp = k
                    · subst z; exact ⟨_, World.cell?_setCell_same _ _ _ S0.2.1⟩
                    · exact ⟨_, (World.cell?_setCell_other _ _ _ _ (by intro q; cases q; exact z rfl)).trans S0.2.2.1⟩
                  have hfz : (W6.drew.setCell ⟨R, k, none⟩ (.slice (some ⟨f pp, 0, none⟩) n (c pp))).frozen? ⟨R, pp, none⟩ = false := (World.frozen?_setCell _ _ _ _).trans (hrs.hA.own.frozenAt pp)
                  have T1 : (W6.drew.setCell ⟨R, k, none⟩ (.slice (some ⟨f pp, 0, none⟩) n (c pp))).cell? ⟨D, 0, none⟩ = some (.slice (some ⟨R, 0, none⟩) n cR) := (World.cell?_setCell_other _ _ _ _ (by intro q; cases q; exact hDR rfl)).trans T0
                  obtain ⟨hrs2, g2⟩ := hrs.swapA hk1 hpn
                  have hRb := (hrs.hA.own.lt R rfl).1
                  have KS := Sv.hid (And.intro hrs2 (And.intro (hE.gb g2 (fun z => by have z' : E = R := Option.some.inj z; have := hrs.tA; rw [← z', tE] at this; cases this)) (And.intro tE (And.intro heb (Sv.gb_below hbw g2 hbw.size hRb)))))
                  clear hrs hrs2 hE tE heb hbw bd KD g2 hRb
                  refine wp_region_F 17 (fun w' => w'.cell? ⟨D, 0, none⟩ = some (.slice (some ⟨R, 0, none⟩) n cR) ∧ w'.cell? ⟨R, k, none⟩ = some (.slice (some ⟨f k, 0, none⟩) n (c k)) ∧ w'.cell? ⟨R, pp, none⟩ = some (.slice (some ⟨f pp, 0, none⟩) n (c pp)) ∧ w'.frozen? ⟨R, k, none⟩ = false) 19 (fun w' => w'.cell? ⟨D, 0, none⟩ = some (.slice (some ⟨R, 0, none⟩) n cR)) 20 #[false, false, false, false, false, false, false, false, false, false, false, false, false, false, false, false, false, false, false, false] (by kernel_rfl) (by kernel_rfl) (by kernel_rfl) ?_
                  generalize W6.drew = W at *
                  refine wpAnyF_takeS 0 115 (v := ?vc0) rfl (by kernel_rfl) (by kernel_rfl) (by kernel_rfl) (by kernel_rfl) (by kernel_rfl) (by decide) (fun _ _ _ h => h) rfl (Or.inl ⟨by rfl, ?hc0⟩) ⟨fun _ => S0, fun _ => T0⟩ ?rc0
                  case hc0 => (intro w hSw; go_simp; with_reducible rfl)
                  simp only [Act.put, List.setIfInBounds_toArray, List.set_cons_zero, List.set_cons_succ]
                  refine wpAnyF_takeS 1 116 (v := ?vc1) rfl (by kernel_rfl) (by kernel_rfl) (by kernel_rfl) (by kernel_rfl) (by kernel_rfl) (by decide) (fun _ _ _ h => h) rfl (Or.inl ⟨by rfl, ?hc1⟩) ⟨fun _ => S0, fun _ => T0⟩ ?rc1
                  case hc1 => (intro w hSw; go_simp; with_reducible rfl)
                  simp only [Act.put, List.setIfInBounds_toArray, List.set_cons_zero, List.set_cons_succ]
                  refine wpAnyF_takeS 2 117 (v := ?vc2) rfl (by kernel_rfl) (by kernel_rfl) (by kernel_rfl) (by kernel_rfl) (by kernel_rfl) (by decide) (fun _ _ _ h => h) rfl (Or.inl ⟨by rfl, ?hc2⟩) ⟨fun _ => S0, fun _ => T0⟩ ?rc2
                  case hc2 => (intro w hSw; go_simp; with_reducible rfl)
                  simp only [Act.put, List.setIfInBounds_toArray, List.set_cons_zero, List.set_cons_succ]
                  refine wpAnyF_takeS 6 121 (v := ?vc6) rfl (by kernel_rfl) (by kernel_rfl) (by kernel_rfl) (by kernel_rfl) (by kernel_rfl) (by decide) (fun _ _ _ h => h) rfl (Or.inl ⟨by rfl, ?hc6⟩) ⟨fun _ => S0, fun _ => T0⟩ ?rc6
                  case hc6 => (intro w hSw; go_simp; with_reducible rfl)
                  simp only [Act.put, List.setIfInBounds_toArray, List.set_cons_zero, List.set_cons_succ]
                  refine wpAnyF_takeS 7 122 (v := ?vc7) rfl (by kernel_rfl) (by kernel_rfl) (by kernel_rfl) (by kernel_rfl) (by kernel_rfl) (by decide) (fun _ _ _ h => h) rfl (Or.inl ⟨by rfl, ?hc7⟩) ⟨fun _ => S0, fun _ => T0⟩ ?rc7
                  case hc7 => (intro w hSw; go_simp; with_reducible rfl)
                  simp only [Act.put, List.setIfInBounds_toArray, List.set_cons_zero, List.set_cons_succ]
                  refine wpAnyF_takeS 8 123 (v := ?vc8) rfl (by kernel_rfl) (by kernel_rfl) (by kernel_rfl) (by kernel_rfl) (by kernel_rfl) (by decide) (fun _ _ _ h => h) rfl (Or.inl ⟨by rfl, ?hc8⟩) ⟨fun _ => S0, fun _ => T0⟩ ?rc8
                  case hc8 => (intro w hSw; go_simp; with_reducible rfl)
                  simp only [Act.put, List.setIfInBounds_toArray, List.set_cons_zero, List.set_cons_succ]
                  refine wpAnyF_takeS 9 124 (v := ?vc9) rfl (by kernel_rfl) (by kernel_rfl) (by kernel_rfl) (by kernel_rfl) (by kernel_rfl) (by decide) (fun _ _ _ h => h) rfl (Or.inl ⟨by rfl, ?hc9⟩) ⟨fun _ => S0, fun _ => T0⟩ ?rc9
                  case hc9 => (intro w hSw; go_simp; with_reducible rfl)
                  simp only [Act.put, List.setIfInBounds_toArray, List.set_cons_zero, List.set_cons_succ]
                  refine wpAnyF_takeS 10 125 (v := ?vc10) rfl (by kernel_rfl) (by kernel_rfl) (by kernel_rfl) (by kernel_rfl) (by kernel_rfl) (by decide) (fun _ _ _ h => h) rfl (Or.inl ⟨by rfl, ?hc10⟩) ⟨fun _ => S0, fun _ => T0⟩ ?rc10
                  case hc10 => (intro w hSw; go_simp; with_reducible rfl)
                  simp only [Act.put, List.setIfInBounds_toArray, List.set_cons_zero, List.set_cons_succ]
                  refine wpAnyF_takeS 11 126 (v := ?vc11) rfl (by kernel_rfl) (by kernel_rfl) (by kernel_rfl) (by kernel_rfl) (by kernel_rfl) (by decide) (fun _ _ _ h => h) rfl (Or.inl ⟨by rfl, ?hc11⟩) ⟨fun _ => S0, fun _ => T0⟩ ?rc11
                  case hc11 => (intro w hSw; go_simp; with_reducible rfl)
                  simp only [Act.put, List.setIfInBounds_toArray, List.set_cons_zero, List.set_cons_succ]
                  refine wpAnyF_takeS 12 127 (v := ?vc12) rfl (by kernel_rfl) (by kernel_rfl) (by kernel_rfl) (by kernel_rfl) (by kernel_rfl) (by decide) (fun _ _ _ h => h) rfl (Or.inl ⟨by rfl, ?hc12⟩) ⟨fun _ => S0, fun _ => T0⟩ ?rc12
                  case hc12 => (intro w hSw; go_simp; with_reducible rfl)
                  simp only [Act.put, List.setIfInBounds_toArray, List.set_cons_zero, List.set_cons_succ]
                  refine wpAnyF_takeS 13 128 (v := ?vc13) rfl (by kernel_rfl) (by kernel_rfl) (by kernel_rfl) (by kernel_rfl) (by kernel_rfl) (by decide) (fun _ _ _ h => h) rfl (Or.inl ⟨by rfl, ?hc13⟩) ⟨fun _ => S0, fun _ => T0⟩ ?rc13
                  case hc13 => (intro w hSw; go_simp; with_reducible rfl)
                  simp only [Act.put, List.setIfInBounds_toArray, List.set_cons_zero, List.set_cons_succ]
                  refine wpAnyF_takeS 14 129 (v := ?vc14) rfl (by kernel_rfl) (by kernel_rfl) (by kernel_rfl) (by kernel_rfl) (by kernel_rfl) (by decide) (fun _ _ _ h => h) rfl (Or.inl ⟨by rfl, ?hc14⟩) ⟨fun _ => S0, fun _ => T0⟩ ?rc14
                  case hc14 => (intro w hSw; go_simp; with_reducible rfl)
                  simp only [Act.put, List.setIfInBounds_toArray, List.set_cons_zero, List.set_cons_succ]
                  refine wpAnyF_takeS 15 130 (v := ?vc15) rfl (by kernel_rfl) (by kernel_rfl) (by kernel_rfl) (by kernel_rfl) (by kernel_rfl) (by decide) (fun _ _ _ h => h) rfl (Or.inl ⟨by rfl, ?hc15⟩) ⟨fun _ => S0, fun _ => T0⟩ ?rc15
                  case hc15 => (intro w hSw; go_simp; with_reducible rfl)
                  simp only [Act.put, List.setIfInBounds_toArray, List.set_cons_zero, List.set_cons_succ]
                  refine wpAnyF_takeS 16 131 (v := ?vc16) rfl (by kernel_rfl) (by kernel_rfl) (by kernel_rfl) (by kernel_rfl) (by kernel_rfl) (by decide) (fun _ _ _ h => h) rfl (Or.inl ⟨by rfl, ?hc16⟩) ⟨fun _ => S0, fun _ => T0⟩ ?rc16
                  case hc16 => (intro w hSw; go_simp; with_reducible rfl)
                  simp only [Act.put, List.setIfInBounds_toArray, List.set_cons_zero, List.set_cons_succ]
                  refine wpAnyF_takeT 3 118 (v := ?vc3) rfl (by kernel_rfl) (by kernel_rfl) (by kernel_rfl) (by kernel_rfl) (by kernel_rfl) (by decide) (fun _ _ _ h => h) rfl (Or.inl ⟨by rfl, ?hc3⟩) ⟨fun _ => S0, fun _ => T0⟩ ?rc3
                  case hc3 => (intro w hSw; go_simp; with_reducible rfl)
                  simp only [Act.put, List.setIfInBounds_toArray, List.set_cons_zero, List.set_cons_succ]
                  refine wpAnyF_takeT 4 119 (v := ?vc4) rfl (by kernel_rfl) (by kernel_rfl) (by kernel_rfl) (by kernel_rfl) (by kernel_rfl) (by decide) (fun _ _ _ h => h) rfl (Or.inl ⟨by rfl, ?hc4⟩) ⟨fun _ => S0, fun _ => T0⟩ ?rc4
                  case hc4 => (intro w hSw; go_simp; with_reducible rfl)
                  simp only [Act.put, List.setIfInBounds_toArray, List.set_cons_zero, List.set_cons_succ]
                  refine wpAnyF_takeT 5 120 (v := ?vc5) rfl (by kernel_rfl) (by kernel_rfl) (by kernel_rfl) (by kernel_rfl) (by kernel_rfl) (by decide) (fun _ _ _ h => h) rfl (Or.inl ⟨by rfl, ?hc5⟩) ⟨fun _ => S0, fun _ => T0⟩ ?rc5
                  case hc5 => (intro w hSw; go_simp; with_reducible rfl)
                  simp only [Act.put, List.setIfInBounds_toArray, List.set_cons_zero, List.set_cons_succ]
                  refine wpAnyF_one 17 (by kernel_rfl) rfl (fun K hK => ?_)
                  go_simp
                  refine hK.out _ _ ⟨(fun h => absurd h (by decide)), (fun _ => T1)⟩ ?_
                  clear hK K
                  simp only [List.setIfInBounds_toArray, List.set_cons_zero, List.set_cons_succ]
                  refine wpAnyF_takeT 18 132 (v := ?vc18) rfl (by kernel_rfl) (by kernel_rfl) (by kernel_rfl) (by kernel_rfl) (by kernel_rfl) (by decide) (fun _ _ _ h => h) rfl (Or.inl ⟨by rfl, ?hc18⟩) ⟨(fun h => absurd h (by decide)), (fun _ => T1)⟩ ?rc18
                  case hc18 => (intro w hSw; go_simp; with_reducible rfl)
                  simp only [Act.put, List.setIfInBounds_toArray, List.set_cons_zero, List.set_cons_succ]
                  refine wpAnyF_one 19 (by kernel_rfl) rfl (fun K hK => ?_)
                  go_simp
                  refine hK.out _ _ ⟨(fun h => absurd h (by decide)), (fun h => absurd h (by decide))⟩ ?_
                  clear hK K
                  simp only [List.setIfInBounds_toArray, List.set_cons_zero, List.set_cons_succ]
                  refine wpAnyF_done (by kernel_rfl) ?_ _
                  clear S0 T0 T1 hu hfz
                  generalize (W.setCell ⟨R, k, none⟩ (.slice (some ⟨f pp, 0, none⟩) n (c pp))).setCell ⟨R, pp, none⟩ (.slice (some ⟨f k, 0, none⟩) n (c k)) = W8 at *
                  go_wp2_with fail
                  obtain ⟨hrs, hE, tE, heb, hbw⟩ := KS.out
                  have bd : Bw W8 W8.drew := (Bw.refl W8).drew
                  replace hrs := hrs.bw bd
                  replace hE := hE.bw bd
                  replace hbw := bw_trans hbw bd
                  obtain ⟨x1, e1, hx1, q1⟩ := hrs.hB.rw.cell hk1
                  obtain ⟨x2, e2, hx2, q2⟩ := hrs.hB.rw.cell hpn
                  have tB := hrs.tB Bb rfl
                  have hDB : D ≠ Bb := fun z => by have := hrs.tD; rw [z, tB] at this; cases this
                  have T0 : W8.drew.cell? ⟨D, 1, none⟩ = some (.slice (some ⟨Bb, 0, none⟩) n cB) := hrs.hD.2.2.1
                  have S0 : W8.drew.cell? ⟨D, 1, none⟩ = some (.slice (some ⟨Bb, 0, none⟩) n cB) ∧ W8.drew.cell? ⟨Bb, k, none⟩ = some (.float .f64 x1) ∧ W8.drew.cell? ⟨Bb, pp, none⟩ = some (.float .f64 x2) ∧ W8.drew.frozen? ⟨Bb, k, none⟩ = false := ⟨hrs.hD.2.2.1, e1, e2, hrs.hB.rw.frozen k⟩
                  obtain ⟨u, hu⟩ : ∃ u, (W8.drew.setCell ⟨Bb, k, none⟩ (.float .f64 x2)).cell? ⟨Bb, pp, none⟩ = some u := by
                    by_cases z : pp = k
                    · subst z; exact ⟨_, World.cell?_setCell_same _ _ _ e1⟩
                    · exact ⟨_, (World.cell?_setCell_other _ _ _ _ (by intro q; cases q; exact z rfl)).trans e2⟩
                  have hfz : (W8.drew.setCell ⟨Bb, k, none⟩ (.float .f64 x2)).frozen? ⟨Bb, pp, none⟩ = false := (World.frozen?_setCell _ _ _ _).trans (hrs.hB.rw.frozen pp)
                  have T1 : (W8.drew.setCell ⟨Bb, k, none⟩ (.float .f64 x2)).cell? ⟨D, 1, none⟩ = some (.slice (some ⟨Bb, 0, none⟩) n cB) := (World.cell?_setCell_other _ _ _ _ (by intro q; cases q; exact hDB rfl)).trans T0
                  obtain ⟨hrs2, g2⟩ := hrs.setB rfl k x2 hx2
                  obtain ⟨hrs3, g3⟩ := hrs2.setB rfl pp x1 hx1
                  have g23 := g2.trans g3
                  have hRb := hrs.hB.rw.lt.1
                  have hrs4 := hrs3.ext (G' := Sv.swap (Sv.st n AA k) k pp) (Bf' := fun i => Sv.swap (Sv.st n AA k) k pp i n) (X' := Sv.pm n AA k) (P' := Sv.piv n AA) (O' := Sv.odd n AA) (fun _ _ _ _ => rfl) (fun j _ => by
                    rw [Sv.swap_sw, q1, q2]
                    exact Sv.sw_val (fun i => Sv.st n AA k i n) k pp j) (fun _ _ => rfl) (fun _ _ => rfl) (fun _ _ => rfl)
                  replace KS := Sv.hid (And.intro hrs4 (And.intro (hE.gb g23 (fun z => by have z' : E = Bb := Option.some.inj z; rw [← z', tE] at tB; cases tB)) (And.intro tE (And.intro heb (Sv.gb_below hbw g23 hbw.size hRb)))))
                  clear hrs hrs2 hrs3 hrs4 hE tE heb hbw bd g2 g3 g23 hRb e1 e2 q1 q2 tB
                  refine wp_region_F 17 (fun w' => w'.cell? ⟨D, 1, none⟩ = some (.slice (some ⟨Bb, 0, none⟩) n cB) ∧ w'.cell? ⟨Bb, k, none⟩ = some (.float .f64 x1) ∧ w'.cell? ⟨Bb, pp, none⟩ = some (.float .f64 x2) ∧ w'.frozen? ⟨Bb, k, none⟩ = false) 19 (fun w' => w'.cell? ⟨D, 1, none⟩ = some (.slice (some ⟨Bb, 0, none⟩) n cB)) 20 #[false, false, false, false, false, false, false, false, false, false, false, false, false, false, false, false, false, false, false, false] (by kernel_rfl) (by kernel_rfl) (by kernel_rfl) ?_
                  generalize W8.drew = W9 at *
                  refine wpAnyF_takeS 0 133 (v := ?vd0) rfl (by kernel_rfl) (by kernel_rfl) (by kernel_rfl) (by kernel_rfl) (by kernel_rfl) (by decide) (fun _ _ _ h => h) rfl (Or.inl ⟨by rfl, ?hd0⟩) ⟨fun _ => S0, fun _ => T0⟩ ?rd0
                  case hd0 => (intro w hSw; go_simp; with_reducible rfl)
                  simp only [Act.put, List.setIfInBounds_toArray, List.set_cons_zero, List.set_cons_succ]
                  refine wpAnyF_takeS 1 134 (v := ?vd1) rfl (by kernel_rfl) (by kernel_rfl) (by kernel_rfl) (by kernel_rfl) (by kernel_rfl) (by decide) (fun _ _ _ h => h) rfl (Or.inl ⟨by rfl, ?hd1⟩) ⟨fun _ => S0, fun _ => T0⟩ ?rd1
                  case hd1 => (intro w hSw; go_simp; with_reducible rfl)
                  simp only [Act.put, List.setIfInBounds_toArray, List.set_cons_zero, List.set_cons_succ]
                  refine wpAnyF_takeS 2 135 (v := ?vd2) rfl (by kernel_rfl) (by kernel_rfl) (by kernel_rfl) (by kernel_rfl) (by kernel_rfl) (by decide) (fun _ _ _ h => h) rfl (Or.inl ⟨by rfl, ?hd2⟩) ⟨fun _ => S0, fun _ => T0⟩ ?rd2
                  case hd2 => (intro w hSw; go_simp; with_reducible rfl)
                  simp only [Act.put, List.setIfInBounds_toArray, List.set_cons_zero, List.set_cons_succ]
                  refine wpAnyF_takeS 6 139 (v := ?vd6) rfl (by kernel_rfl) (by kernel_rfl) (by kernel_rfl) (by kernel_rfl) (by kernel_rfl) (by decide) (fun _ _ _ h => h) rfl (Or.inl ⟨by rfl, ?hd6⟩) ⟨fun _ => S0, fun _ => T0⟩ ?rd6
                  case hd6 => (intro w hSw; go_simp; with_reducible rfl)
                  simp only [Act.put, List.setIfInBounds_toArray, List.set_cons_zero, List.set_cons_succ]
                  refine wpAnyF_takeS 7 140 (v := ?vd7) rfl (by kernel_rfl) (by kernel_rfl) (by kernel_rfl) (by kernel_rfl) (by kernel_rfl) (by decide) (fun _ _ _ h => h) rfl (Or.inl ⟨by rfl, ?hd7⟩) ⟨fun _ => S0, fun _ => T0⟩ ?rd7
                  case hd7 => (intro w hSw; go_simp; with_reducible rfl)
                  simp only [Act.put, List.setIfInBounds_toArray, List.set_cons_zero, List.set_cons_succ]
                  refine wpAnyF_takeS 8 141 (v := ?vd8) rfl (by kernel_rfl) (by kernel_rfl) (by kernel_rfl) (by kernel_rfl) (by kernel_rfl) (by decide) (fun _ _ _ h => h) rfl (Or.inl ⟨by rfl, ?hd8⟩) ⟨fun _ => S0, fun _ => T0⟩ ?rd8
                  case hd8 => (intro w hSw; go_simp; with_reducible rfl)
                  simp only [Act.put, List.setIfInBounds_toArray, List.set_cons_zero, List.set_cons_succ]
                  refine wpAnyF_takeS 9 142 (v := ?vd9) rfl (by kernel_rfl) (by kernel_rfl) (by kernel_rfl) (by kernel_rfl) (by kernel_rfl) (by decide) (fun _ _ _ h => h) rfl (Or.inl ⟨by rfl, ?hd9⟩) ⟨fun _ => S0, fun _ => T0⟩ ?rd9
                  case hd9 => (intro w hSw; go_simp; with_reducible rfl)
                  simp only [Act.put, List.setIfInBounds_toArray, List.set_cons_zero, List.set_cons_succ]
                  refine wpAnyF_takeS 10 143 (v := ?vd10) rfl (by kernel_rfl) (by kernel_rfl) (by kernel_rfl) (by kernel_rfl) (by kernel_rfl) (by decide) (fun _ _ _ h => h) rfl (Or.inl ⟨by rfl, ?hd10⟩) ⟨fun _ => S0, fun _ => T0⟩ ?rd10
                  case hd10 => (intro w hSw; go_simp; with_reducible rfl)
                  simp only [Act.put, List.setIfInBounds_toArray, List.set_cons_zero, List.set_cons_succ]
                  refine wpAnyF_takeS 11 144 (v := ?vd11) rfl (by kernel_rfl) (by kernel_rfl) (by kernel_rfl) (by kernel_rfl) (by kernel_rfl) (by decide) (fun _ _ _ h => h) rfl (Or.inl ⟨by rfl, ?hd11⟩) ⟨fun _ => S0, fun _ => T0⟩ ?rd11
                  case hd11 => (intro w hSw; go_simp; with_reducible rfl)
                  simp only [Act.put, List.setIfInBounds_toArray, List.set_cons_zero, List.set_cons_succ]
                  refine wpAnyF_takeS 12 145 (v := ?vd12) rfl (by kernel_rfl) (by kernel_rfl) (by kernel_rfl) (by kernel_rfl) (by kernel_rfl) (by decide) (fun _ _ _ h => h) rfl (Or.inl ⟨by rfl, ?hd12⟩) ⟨fun _ => S0, fun _ => T0⟩ ?rd12
                  case hd12 => (intro w hSw; go_simp; with_reducible rfl)
                  simp only [Act.put, List.setIfInBounds_toArray, List.set_cons_zero, List.set_cons_succ]
                  refine wpAnyF_takeS 13 146 (v := ?vd13) rfl (by kernel_rfl) (by kernel_rfl) (by kernel_rfl) (by kernel_rfl) (by kernel_rfl) (by decide) (fun _ _ _ h => h) rfl (Or.inl ⟨by rfl, ?hd13⟩) ⟨fun _ => S0, fun _ => T0⟩ ?rd13
                  case hd13 => (intro w hSw; go_simp; with_reducible rfl)
                  simp only [Act.put, List.setIfInBounds_toArray, List.set_cons_zero, List.set_cons_succ]
                  refine wpAnyF_takeS 14 147 (v := ?vd14) rfl (by kernel_rfl) (by kernel_rfl) (by kernel_rfl) (by kernel_rfl) (by kernel_rfl) (by decide) (fun _ _ _ h => h) rfl (Or.inl ⟨by rfl, ?hd14⟩) ⟨fun _ => S0, fun _ => T0⟩ ?rd14
                  case hd14 => (intro w hSw; go_simp; with_reducible rfl)
                  simp only [Act.put, List.setIfInBounds_toArray, List.set_cons_zero, List.set_cons_succ]
                  refine wpAnyF_takeS 15 148 (v := ?vd15) rfl (by kernel_rfl) (by kernel_rfl) (by kernel_rfl) (by kernel_rfl) (by kernel_rfl) (by decide) (fun _ _ _ h => h) rfl (Or.inl ⟨by rfl, ?hd15⟩) ⟨fun _ => S0, fun _ => T0⟩ ?rd15
                  case hd15 => (intro w hSw; go_simp; with_reducible rfl)
                  simp only [Act.put, List.setIfInBounds_toArray, List.set_cons_zero, List.set_cons_succ]
                  refine wpAnyF_takeS 16 149 (v := ?vd16) rfl (by kernel_rfl) (by kernel_rfl) (by kernel_rfl) (by kernel_rfl) (by kernel_rfl) (by decide) (fun _ _ _ h => h) rfl (Or.inl ⟨by rfl, ?hd16⟩) ⟨fun _ => S0, fun _ => T0⟩ ?rd16
                  case hd16 => (intro w hSw; go_simp; with_reducible rfl)
                  simp only [Act.put, List.setIfInBounds_toArray, List.set_cons_zero, List.set_cons_succ]
                  refine wpAnyF_takeT 3 136 (v := ?vd3) rfl (by kernel_rfl) (by kernel_rfl) (by kernel_rfl) (by kernel_rfl) (by kernel_rfl) (by decide) (fun _ _ _ h => h) rfl (Or.inl ⟨by rfl, ?hd3⟩) ⟨fun _ => S0, fun _ => T0⟩ ?rd3
                  case hd3 => (intro w hSw; go_simp; with_reducible rfl)
                  simp only [Act.put, List.setIfInBounds_toArray, List.set_cons_zero, List.set_cons_succ]
                  refine wpAnyF_takeT 4 137 (v := ?vd4) rfl (by kernel_rfl) (by kernel_rfl) (by kernel_rfl) (by kernel_rfl) (by kernel_rfl) (by decide) (fun _ _ _ h => h) rfl (Or.inl ⟨by rfl, ?hd4⟩) ⟨fun _ => S0, fun _ => T0⟩ ?rd4
                  case hd4 => (intro w hSw; go_simp; with_reducible rfl)
                  simp only [Act.put, List.setIfInBounds_toArray, List.set_cons_zero, List.set_cons_succ]
                  refine wpAnyF_takeT 5 138 (v := ?vd5) rfl (by kernel_rfl) (by kernel_rfl) (by kernel_rfl) (by kernel_rfl) (by kernel_rfl) (by decide) (fun _ _ _ h => h) rfl (Or.inl ⟨by rfl, ?hd5⟩) ⟨fun _ => S0, fun _ => T0⟩ ?rd5
                  case hd5 => (intro w hSw; go_simp; with_reducible rfl)
                  simp only [Act.put, List.setIfInBounds_toArray, List.set_cons_zero, List.set_cons_succ]
                  refine wpAnyF_one 17 (by kernel_rfl) rfl (fun K hK => ?_)
                  go_simp
                  refine hK.out _ _ ⟨(fun h => absurd h (by decide)), (fun _ => T1)⟩ ?_
                  clear hK K
                  simp only [List.setIfInBounds_toArray, List.set_cons_zero, List.set_cons_succ]
                  refine wpAnyF_takeT 18 150 (v := ?vd18) rfl (by kernel_rfl) (by kernel_rfl) (by kernel_rfl) (by kernel_rfl) (by kernel_rfl) (by decide) (fun _ _ _ h => h) rfl (Or.inl ⟨by rfl, ?hd18⟩) ⟨(fun h => absurd h (by decide)), (fun _ => T1)⟩ ?rd18
                  case hd18 => (intro w hSw; go_simp; with_reducible rfl)
                  simp only [Act.put, List.setIfInBounds_toArray, List.set_cons_zero, List.set_cons_succ]
                  refine wpAnyF_one 19 (by kernel_rfl) rfl (fun K hK => ?_)
                  go_simp
                  refine hK.out _ _ ⟨(fun h => absurd h (by decide)), (fun h => absurd h (by decide))⟩ ?_
                  clear hK K
                  simp only [List.setIfInBounds_toArray, List.set_cons_zero, List.set_cons_succ]
                  refine wpAnyF_done (by kernel_rfl) ?_ _
                  clear S0 T0 T1 hu hfz hx1 hx2 W W8
                  generalize (W9.setCell ⟨Bb, k, none⟩ (.float .f64 x2)).setCell ⟨Bb, pp, none⟩ (.float .f64 x1) = W8 at *
                  go_wp2_with fail
                  obtain ⟨hrs, hE, tE, heb, hbw⟩ := KS.out
                  have bd : Bw W8 W8.drew := (Bw.refl W8).drew
                  replace hrs := hrs.bw bd
                  replace hE := hE.bw bd
                  replace hbw := bw_trans hbw bd
                  have e1 := (hrs.hR.cellAt k (by omega)).trans (Sv.iv_get _ _ _ hk1)
                  have e2 := (hrs.hR.cellAt pp (by omega)).trans (Sv.iv_get _ _ _ hpn)
                  obtain ⟨x1, hq1⟩ : ∃ x1, Sv.pm n AA k k = x1 := ⟨_, rfl⟩
                  obtain ⟨x2, hq2⟩ : ∃ x2, Sv.pm n AA k pp = x2 := ⟨_, rfl⟩
                  rw [hq1] at e1
                  rw [hq2] at e2
                  have tB := hrs.tR Br rfl
                  have hDB2 : D ≠ Br := fun z => by have := hrs.tD; rw [z, tB] at this; cases this
                  have T0 : W8.drew.cell? ⟨D, 2, none⟩ = some (.slice (some ⟨Br, 0, none⟩) n cr) := hrs.hD.2.2.2.1
                  have S0 : W8.drew.cell? ⟨D, 2, none⟩ = some (.slice (some ⟨Br, 0, none⟩) n cr) ∧ W8.drew.cell? ⟨Br, k, none⟩ = some (.int .i64 x1) ∧ W8.drew.cell? ⟨Br, pp, none⟩ = some (.int .i64 x2) ∧ W8.drew.frozen? ⟨Br, k, none⟩ = false := ⟨hrs.hD.2.2.2.1, e1, e2, hrs.hR.frozenAt k⟩
                  obtain ⟨u, hu⟩ : ∃ u, (W8.drew.setCell ⟨Br, k, none⟩ (.int .i64 x2)).cell? ⟨Br, pp, none⟩ = some u := by
                    by_cases z : pp = k
                    · subst z; exact ⟨_, World.cell?_setCell_same _ _ _ e1⟩
                    · exact ⟨_, (World.cell?_setCell_other _ _ _ _ (by intro q; cases q; exact z rfl)).trans e2⟩
                  have hfz : (W8.drew.setCell ⟨Br, k, none⟩ (.int .i64 x2)).frozen? ⟨Br, pp, none⟩ = false := (World.frozen?_setCell _ _ _ _).trans (hrs.hR.frozenAt pp)
                  have T1 : (W8.drew.setCell ⟨Br, k, none⟩ (.int .i64 x2)).cell? ⟨D, 2, none⟩ = some (.slice (some ⟨Br, 0, none⟩) n cr) := (World.cell?_setCell_other _ _ _ _ (by intro q; cases q; exact hDB2 rfl)).trans T0
                  obtain ⟨hrs2, g2⟩ := hrs.setR rfl k x2
                  obtain ⟨hrs3, g3⟩ := hrs2.setR rfl pp x1
                  have g23 := g2.trans g3
                  have hRb := (hrs.hR.lt Br rfl).1
                  have hrs4 := hrs3.ext (G' := Sv.elimT (Sv.swap (Sv.st n AA k) k pp) k 0) (Bf' := fun i => Sv.elimT (Sv.swap (Sv.st n AA k) k pp) k 0 i n) (X' := Sv.pm n AA (k + 1)) (P' := Sv.piv n AA) (O' := Sv.odd n AA) (fun i j _ _ => by unfold Sv.elimT; rw [if_neg (by omega)]) (fun j _ => by show _ = Sv.elimT (Sv.swap (Sv.st n AA k) k pp) k 0 j n; unfold Sv.elimT; rw [if_neg (by omega)]) (fun j _ => by
                    show _ = Sv.pm n AA k (Sv.sw k (Sv.tk n AA k) j)
                    rw [HT.out, ← hq1, ← hq2]
                    exact Sv.sw_val (Sv.pm n AA k) k pp j) (fun _ _ => rfl) (fun _ _ => rfl)
                  replace KS := Sv.hid (And.intro hrs4 (And.intro (hE.gb g23 (fun z => by have z' : E = Br := Option.some.inj z; rw [← z', tE] at tB; cases tB)) (And.intro tE (And.intro heb (Sv.gb_below hbw g23 hbw.size hRb)))))
                  clear hrs hrs2 hrs3 hrs4 hE tE heb hbw bd g2 g3 g23 hRb e1 e2 hq1 hq2 tB
                  refine wp_region_F 17 (fun w' => w'.cell? ⟨D, 2, none⟩ = some (.slice (some ⟨Br, 0, none⟩) n cr) ∧ w'.cell? ⟨Br, k, none⟩ = some (.int .i64 x1) ∧ w'.cell? ⟨Br, pp, none⟩ = some (.int .i64 x2) ∧ w'.frozen? ⟨Br, k, none⟩ = false) 19 (fun w' => w'.cell? ⟨D, 2, none⟩ = some (.slice (some ⟨Br, 0, none⟩) n cr)) 20 #[false, false, false, false, false, false, false, false, false, false, false, false, false, false, false, false, false, false, false, false] (by kernel_rfl) (by kernel_rfl) (by kernel_rfl) ?_
                  generalize W8.drew = W at *
                  refine wpAnyF_takeS 0 151 (v := ?ve0) rfl (by kernel_rfl) (by kernel_rfl) (by kernel_rfl) (by kernel_rfl) (by kernel_rfl) (by decide) (fun _ _ _ h => h) rfl (Or.inl ⟨by rfl, ?he0⟩) ⟨fun _ => S0, fun _ => T0⟩ ?re0
                  case he0 => (intro w hSw; go_simp; with_reducible rfl)
                  simp only [Act.put, List.setIfInBounds_toArray, List.set_cons_zero, List.set_cons_succ]
                  refine wpAnyF_takeS 1 152 (v := ?ve1) rfl (by kernel_rfl) (by kernel_rfl) (by kernel_rfl) (by kernel_rfl) (by kernel_rfl) (by decide) (fun _ _ _ h => h) rfl (Or.inl ⟨by rfl, ?he1⟩) ⟨fun _ => S0, fun _ => T0⟩ ?re1
                  case he1 => (intro w hSw; go_simp; with_reducible rfl)
                  simp only [Act.put, List.setIfInBounds_toArray, List.set_cons_zero, List.set_cons_succ]
                  refine wpAnyF_takeS 2 153 (v := ?ve2) rfl (by kernel_rfl) (by kernel_rfl) (by kernel_rfl) (by kernel_rfl) (by kernel_rfl) (by decide) (fun _ _ _ h => h) rfl (Or.inl ⟨by rfl, ?he2⟩) ⟨fun _ => S0, fun _ => T0⟩ ?re2
                  case he2 => (intro w hSw; go_simp; with_reducible rfl)
                  simp only [Act.put, List.setIfInBounds_toArray, List.set_cons_zero, List.set_cons_succ]
                  refine wpAnyF_takeS 6 157 (v := ?ve6) rfl (by kernel_rfl) (by kernel_rfl) (by kernel_rfl) (by kernel_rfl) (by kernel_rfl) (by decide) (fun _ _ _ h => h) rfl (Or.inl ⟨by rfl, ?he6⟩) ⟨fun _ => S0, fun _ => T0⟩ ?re6
                  case he6 => (intro w hSw; go_simp; with_reducible rfl)
                  simp only [Act.put, List.setIfInBounds_toArray, List.set_cons_zero, List.set_cons_succ]
                  refine wpAnyF_takeS 7 158 (v := ?ve7) rfl (by kernel_rfl) (by kernel_rfl) (by kernel_rfl) (by kernel_rfl) (by kernel_rfl) (by decide) (fun _ _ _ h => h) rfl (Or.inl ⟨by rfl, ?he7⟩) ⟨fun _ => S0, fun _ => T0⟩ ?re7
                  case he7 => (intro w hSw; go_simp; with_reducible rfl)
                  simp only [Act.put, List.setIfInBounds_toArray, List.set_cons_zero, List.set_cons_succ]
                  refine wpAnyF_takeS 8 159 (v := ?ve8) rfl (by kernel_rfl) (by kernel_rfl) (by kernel_rfl) (by kernel_rfl) (by kernel_rfl) (by decide) (fun _ _ _ h => h) rfl (Or.inl ⟨by rfl, ?he8⟩) ⟨fun _ => S0, fun _ => T0⟩ ?re8
                  case he8 => (intro w hSw; go_simp; with_reducible rfl)
                  simp only [Act.put, List.setIfInBounds_toArray, List.set_cons_zero, List.set_cons_succ]
                  refine wpAnyF_takeS 9 160 (v := ?ve9) rfl (by kernel_rfl) (by kernel_rfl) (by kernel_rfl) (by kernel_rfl) (by kernel_rfl) (by decide) (fun _ _ _ h => h) rfl (Or.inl ⟨by rfl, ?he9⟩) ⟨fun _ => S0, fun _ => T0⟩ ?re9
                  case he9 => (intro w hSw; go_simp; with_reducible rfl)
                  simp only [Act.put, List.setIfInBounds_toArray, List.set_cons_zero, List.set_cons_succ]
                  refine wpAnyF_takeS 10 161 (v := ?ve10) rfl (by kernel_rfl) (by kernel_rfl) (by kernel_rfl) (by kernel_rfl) (by kernel_rfl) (by decide) (fun _ _ _ h => h) rfl (Or.inl ⟨by rfl, ?he10⟩) ⟨fun _ => S0, fun _ => T0⟩ ?re10
                  case he10 => (intro w hSw; go_simp; with_reducible rfl)
                  simp only [Act.put, List.setIfInBounds_toArray, List.set_cons_zero, List.set_cons_succ]
                  refine wpAnyF_takeS 11 162 (v := ?ve11) rfl (by kernel_rfl) (by kernel_rfl) (by kernel_rfl) (by kernel_rfl) (by kernel_rfl) (by decide) (fun _ _ _ h => h) rfl (Or.inl ⟨by rfl, ?he11⟩) ⟨fun _ => S0, fun _ => T0⟩ ?re11
                  case he11 => (intro w hSw; go_simp; with_reducible rfl)
                  simp only [Act.put, List.setIfInBounds_toArray, List.set_cons_zero, List.set_cons_succ]
                  refine wpAnyF_takeS 12 163 (v := ?ve12) rfl (by kernel_rfl) (by kernel_rfl) (by kernel_rfl) (by kernel_rfl) (by kernel_rfl) (by decide) (fun _ _ _ h => h) rfl (Or.inl ⟨by rfl, ?he12⟩) ⟨fun _ => S0, fun _ => T0⟩ ?re12
                  case he12 => (intro w hSw; go_simp; with_reducible rfl)
                  simp only [Act.put, List.setIfInBounds_toArray, List.set_cons_zero, List.set_cons_succ]
                  refine wpAnyF_takeS 13 164 (v := ?ve13) rfl (by kernel_rfl) (by kernel_rfl) (by kernel_rfl) (by kernel_rfl) (by kernel_rfl) (by decide) (fun _ _ _ h => h) rfl (Or.inl ⟨by rfl, ?he13⟩) ⟨fun _ => S0, fun _ => T0⟩ ?re13
                  case he13 => (intro w hSw; go_simp; with_reducible rfl)
                  simp only [Act.put, List.setIfInBounds_toArray, List.set_cons_zero, List.set_cons_succ]
                  refine wpAnyF_takeS 14 165 (v := ?ve14) rfl (by kernel_rfl) (by kernel_rfl) (by kernel_rfl) (by kernel_rfl) (by kernel_rfl) (by decide) (fun _ _ _ h => h) rfl (Or.inl ⟨by rfl, ?he14⟩) ⟨fun _ => S0, fun _ => T0⟩ ?re14
                  case he14 => (intro w hSw; go_simp; with_reducible rfl)
                  simp only [Act.put, List.setIfInBounds_toArray, List.set_cons_zero, List.set_cons_succ]
                  refine wpAnyF_takeS 15 166 (v := ?ve15) rfl (by kernel_rfl) (by kernel_rfl) (by kernel_rfl) (by kernel_rfl) (by kernel_rfl) (by decide) (fun _ _ _ h => h) rfl (Or.inl ⟨by rfl, ?he15⟩) ⟨fun _ => S0, fun _ => T0⟩ ?re15
                  case he15 => (intro w hSw; go_simp; with_reducible rfl)
                  simp only [Act.put, List.setIfInBounds_toArray, List.set_cons_zero, List.set_cons_succ]
                  refine wpAnyF_takeS 16 167 (v := ?ve16) rfl (by kernel_rfl) (by kernel_rfl) (by kernel_rfl) (by kernel_rfl) (by kernel_rfl) (by decide) (fun _ _ _ h => h) rfl (Or.inl ⟨by rfl, ?he16⟩) ⟨fun _ => S0, fun _ => T0⟩ ?re16
                  case he16 => (intro w hSw; go_simp; with_reducible rfl)
                  simp only [Act.put, List.setIfInBounds_toArray, List.set_cons_zero, List.set_cons_succ]
                  refine wpAnyF_takeT 3 154 (v := ?ve3) rfl (by kernel_rfl) (by kernel_rfl) (by kernel_rfl) (by kernel_rfl) (by kernel_rfl) (by decide) (fun _ _ _ h => h) rfl (Or.inl ⟨by rfl, ?he3⟩) ⟨fun _ => S0, fun _ => T0⟩ ?re3
                  case he3 => (intro w hSw; go_simp; with_reducible rfl)
                  simp only [Act.put, List.setIfInBounds_toArray, List.set_cons_zero, List.set_cons_succ]
                  refine wpAnyF_takeT 4 155 (v := ?ve4) rfl (by kernel_rfl) (by kernel_rfl) (by kernel_rfl) (by kernel_rfl) (by kernel_rfl) (by decide) (fun _ _ _ h => h) rfl (Or.inl ⟨by rfl, ?he4⟩) ⟨fun _ => S0, fun _ => T0⟩ ?re4
                  case he4 => (intro w hSw; go_simp; with_reducible rfl)
                  simp only [Act.put, List.setIfInBounds_toArray, List.set_cons_zero, List.set_cons_succ]
                  refine wpAnyF_takeT 5 156 (v := ?ve5) rfl (by kernel_rfl) (by kernel_rfl) (by kernel_rfl) (by kernel_rfl) (by kernel_rfl) (by decide) (fun _ _ _ h => h) rfl (Or.inl ⟨by rfl, ?he5⟩) ⟨fun _ => S0, fun _ => T0⟩ ?re5
                  case he5 => (intro w hSw; go_simp; with_reducible rfl)
                  simp only [Act.put, List.setIfInBounds_toArray, List.set_cons_zero, List.set_cons_succ]
                  refine wpAnyF_one 17 (by kernel_rfl) rfl (fun K hK => ?_)
                  go_simp
                  refine hK.out _ _ ⟨(fun h => absurd h (by decide)), (fun _ => T1)⟩ ?_
                  clear hK K
                  simp only [List.setIfInBounds_toArray, List.set_cons_zero, List.set_cons_succ]
                  refine wpAnyF_takeT 18 168 (v := ?ve18) rfl (by kernel_rfl) (by kernel_rfl) (by kernel_rfl) (by kernel_rfl) (by kernel_rfl) (by decide) (fun _ _ _ h => h) rfl (Or.inl ⟨by rfl, ?he18⟩) ⟨(fun h => absurd h (by decide)), (fun _ => T1)⟩ ?re18
                  case he18 => (intro w hSw; go_simp; with_reducible rfl)
                  simp only [Act.put, List.setIfInBounds_toArray, List.set_cons_zero, List.set_cons_succ]
                  refine wpAnyF_one 19 (by kernel_rfl) rfl (fun K hK => ?_)
                  go_simp
                  refine hK.out _ _ ⟨(fun h => absurd h (by decide)), (fun h => absurd h (by decide))⟩ ?_
                  clear hK K
                  simp only [List.setIfInBounds_toArray, List.set_cons_zero, List.set_cons_succ]
                  refine wpAnyF_done (by kernel_rfl) ?_ _
                  clear S0 T0 T1 hu hfz W9 W8
                  generalize (W.setCell ⟨Br, k, none⟩ (.int .i64 x2)).setCell ⟨Br, pp, none⟩ (.int .i64 x1) = W8 at *
                  go_wp2
                  obtain ⟨c2, hc2⟩ : ∃ c2 : Nat → Nat, (fun s => c (Sv.sw k pp s)) = c2 := ⟨_, rfl⟩
                  obtain ⟨f2, hf2⟩ : ∃ f2 : Nat → Nat, (fun s => f (Sv.sw k pp s)) = f2 := ⟨_, rfl⟩
                  obtain ⟨A1, hA1⟩ : ∃ A1, Sv.swap (Sv.st n AA k) k pp = A1 := ⟨_, rfl⟩
                  rw [hc2, hf2, hA1] at KS
                  have HA1 := Sv.hid hA1
                  clear hc2 hf2 hA1
                  go_loopw [13] (fun v wr => ∃ s : Nat, s ≤ n - 1 - k ∧ v = .int .i64 ((k + 1 + s : Nat) : Int) ∧ Sv.Rs wr w.heap.size n n n (k + 1) (k + 1) D R cR c2 f2 (.slice (some ⟨Bb, 0, none⟩) n cB) (.slice (some ⟨Br, 0, none⟩) n cr) (.slice (some ⟨g, 0, none⟩) (k + 1) cap) (.slice (some ⟨g', 0, none⟩) (k + 1) cap') (Sv.elimT A1 k s) (fun i => Sv.elimT A1 k s i n) (Sv.pm n AA (k + 1)) (Sv.piv n AA) (Sv.odd n AA) t3 ∧ Sv.Dc wr E (.slice none 0 0) (.slice none 0 0) (.slice none 0 0) (.slice none 0 0) (.slice none 0 0) (.bool false) ∧ t3 E = 7 ∧ w.heap.size ≤ E ∧ Bw w wr) (fun v _ => n - (intOf v).toNat)
                  case atStart => exact ⟨0, Nat.zero_le _, by simp, KS.out⟩
                  case round =>
                    clear KS
                    obtain ⟨s, hs, rfl, hrs, hE, tE, heb, hbw⟩ := hrel
                    obtain ⟨i, hi⟩ : ∃ i, i = k + 1 + s := ⟨_, rfl⟩
                    rw [← hi]
                    by_cases hs1 : s < n - 1 - k
                    · have hin : i < n := by omega
                      have hi2 : (i : Int) < n := by omega
                      have bd : Bw wr wr.drew := (Bw.refl wr).drew
                      replace hrs := hrs.bw bd
                      replace hE := hE.bw bd
                      replace hbw := bw_trans hbw bd
                      obtain ⟨x, e3, hx, q1⟩ := (hrs.hA.row i hin).cell hk1
                      obtain ⟨y, e4, hy, q2⟩ := (hrs.hA.row k hk1).cell hk1
                      rw [show Sv.elimT A1 k s i k = A1 i k by unfold Sv.elimT; rw [if_neg (by omega)]] at q1
                      rw [show Sv.elimT A1 k s k k = A1 k k by unfold Sv.elimT; rw [if_neg (by omega)]] at q2
                      have S0 : wr.drew.cell? ⟨D, 0, none⟩ = some (.slice (some ⟨R, 0, none⟩) n cR) ∧ wr.drew.cell? ⟨R, i, none⟩ = some (.slice (some ⟨f2 i, 0, none⟩) n (c2 i)) ∧ wr.drew.cell? ⟨R, k, none⟩ = some (.slice (some ⟨f2 k, 0, none⟩) n (c2 k)) ∧ wr.drew.cell? ⟨f2 i, k, none⟩ = some (.float .f64 x) ∧ wr.drew.cell? ⟨f2 k, k, none⟩ = some (.float .f64 y) := ⟨hrs.hD.2.1, hrs.hA.cell hin, hrs.hA.cell hk1, e3, e4⟩
                      obtain ⟨ff, w8, hf1, hf2, E8, b8⟩ := Sv.run Sv.iQuo x y wr.drew
                      rw [q1, q2] at hf2
                      have HFF := Sv.hid hf2
                      have LT := Sv.hid (hrs.ltf)
                      have S8 : w8.cell? ⟨D, 0, none⟩ = some (.slice (some ⟨R, 0, none⟩) n cR) ∧ w8.cell? ⟨R, i, none⟩ = some (.slice (some ⟨f2 i, 0, none⟩) n (c2 i)) ∧ w8.cell? ⟨R, k, none⟩ = some (.slice (some ⟨f2 k, 0, none⟩) n (c2 k)) ∧ w8.cell? ⟨f2 i, k, none⟩ = some (.float .f64 x) ∧ w8.cell? ⟨f2 k, k, none⟩ = some (.float .f64 y) := ⟨(Below.cell b8 (p := ⟨D, 0, none⟩) hrs.hD.1).trans S0.1, (Below.cell b8 (p := ⟨R, i, none⟩) LT.out.1).trans S0.2.1, (Below.cell b8 (p := ⟨R, k, none⟩) LT.out.1).trans S0.2.2.1, (Below.cell b8 (p := ⟨f2 i, k, none⟩) (LT.out.2.1 i hin)).trans S0.2.2.2.1, (Below.cell b8 (p := ⟨f2 k, k, none⟩) (LT.out.2.1 k hk1)).trans S0.2.2.2.2⟩
                      have KS := Sv.hid (And.intro (hrs.bw b8) (And.intro (hE.bw b8) (And.intro tE (And.intro heb (bw_trans hbw b8)))))
                      have HI := Sv.hid hi
                      clear hrs hE tE heb hbw bd e3 e4 q1 q2 hf2 b8 LT hi
                      go_wp2_with fail
                      refine wp_region_K (fun w' => w'.cell? ⟨D, 0, none⟩ = some (.slice (some ⟨R, 0, none⟩) n cR) ∧ w'.cell? ⟨R, i, none⟩ = some (.slice (some ⟨f2 i, 0, none⟩) n (c2 i)) ∧ w'.cell? ⟨R, k, none⟩ = some (.slice (some ⟨f2 k, 0, none⟩) n (c2 k)) ∧ w'.cell? ⟨f2 i, k, none⟩ = some (.float .f64 x) ∧ w'.cell? ⟨f2 k, k, none⟩ = some (.float .f64 y)) 17 18 #[false, false, false, false, false, false, false, false, false, false, false, false, false, false, false, false, false, false] (by kernel_rfl) (by kernel_rfl) (by kernel_rfl) ?_
                      generalize wr.drew = W at *
                      refine wpAnyK_take 0 176 (v := ?vf0) rfl (by kernel_rfl) (by kernel_rfl) (by kernel_rfl) (by kernel_rfl) (by kernel_rfl) (fun _ _ _ h => h) rfl (Or.inl ⟨by rfl, ?hf0⟩) (by assumption) ?rf0
                      case hf0 => (intro w hSw; go_simp; with_reducible rfl)
                      simp only [Act.put, List.setIfInBounds_toArray, List.set_cons_zero, List.set_cons_succ]
                      refine wpAnyK_take 1 177 (v := ?vf1) rfl (by kernel_rfl) (by kernel_rfl) (by kernel_rfl) (by kernel_rfl) (by kernel_rfl) (fun _ _ _ h => h) rfl (Or.inl ⟨by rfl, ?hf1⟩) (by assumption) ?rf1
                      case hf1 => (intro w hSw; go_simp; with_reducible rfl)
                      simp only [Act.put, List.setIfInBounds_toArray, List.set_cons_zero, List.set_cons_succ]
                      refine wpAnyK_take 2 178 (v := ?vf2) rfl (by kernel_rfl) (by kernel_rfl) (by kernel_rfl) (by kernel_rfl) (by kernel_rfl) (fun _ _ _ h => h) rfl (Or.inl ⟨by rfl, ?hf2⟩) (by assumption) ?rf2
                      case hf2 => (intro w hSw; go_simp; with_reducible rfl)
                      simp only [Act.put, List.setIfInBounds_toArray, List.set_cons_zero, List.set_cons_succ]
                      refine wpAnyK_take 3 179 (v := ?vf3) rfl (by kernel_rfl) (by kernel_rfl) (by kernel_rfl) (by kernel_rfl) (by kernel_rfl) (fun _ _ _ h => h) rfl (Or.inl ⟨by rfl, ?hf3⟩) (by assumption) ?rf3
                      case hf3 => (intro w hSw; go_simp; with_reducible rfl)
                      simp only [Act.put, List.setIfInBounds_toArray, List.set_cons_zero, List.set_cons_succ]
                      refine wpAnyK_take 4 180 (v := ?vf4) rfl (by kernel_rfl) (by kernel_rfl) (by kernel_rfl) (by kernel_rfl) (by kernel_rfl) (fun _ _ _ h => h) rfl (Or.inl ⟨by rfl, ?hf4⟩) (by assumption) ?rf4
                      case hf4 => (intro w hSw; go_simp; with_reducible rfl)
                      simp only [Act.put, List.setIfInBounds_toArray, List.set_cons_zero, List.set_cons_succ]
                      refine wpAnyK_take 5 181 (v := ?vf5) rfl (by kernel_rfl) (by kernel_rfl) (by kernel_rfl) (by kernel_rfl) (by kernel_rfl) (fun _ _ _ h => h) rfl (Or.inl ⟨by rfl, ?hf5⟩) (by assumption) ?rf5
                      case hf5 => (intro w hSw; go_simp; with_reducible rfl)
                      simp only [Act.put, List.setIfInBounds_toArray, List.set_cons_zero, List.set_cons_succ]
                      refine wpAnyK_take 6 182 (v := ?vf6) rfl (by kernel_rfl) (by kernel_rfl) (by kernel_rfl) (by kernel_rfl) (by kernel_rfl) (fun _ _ _ h => h) rfl (Or.inl ⟨by rfl, ?hf6⟩) (by assumption) ?rf6
                      case hf6 => (intro w hSw; go_simp; with_reducible rfl)
                      simp only [Act.put, List.setIfInBounds_toArray, List.set_cons_zero, List.set_cons_succ]
                      refine wpAnyK_take 7 183 (v := ?vf7) rfl (by kernel_rfl) (by kernel_rfl) (by kernel_rfl) (by kernel_rfl) (by kernel_rfl) (fun _ _ _ h => h) rfl (Or.inl ⟨by rfl, ?hf7⟩) (by assumption) ?rf7
                      case hf7 => (intro w hSw; go_simp; with_reducible rfl)
                      simp only [Act.put, List.setIfInBounds_toArray, List.set_cons_zero, List.set_cons_succ]
                      refine wpAnyK_take 8 184 (v := ?vf8) rfl (by kernel_rfl) (by kernel_rfl) (by kernel_rfl) (by kernel_rfl) (by kernel_rfl) (fun _ _ _ h => h) rfl (Or.inl ⟨by rfl, ?hf8⟩) (by assumption) ?rf8
                      case hf8 => (intro w hSw; go_simp; with_reducible rfl)
                      simp only [Act.put, List.setIfInBounds_toArray, List.set_cons_zero, List.set_cons_succ]
                      refine wpAnyK_take 9 185 (v := ?vf9) rfl (by kernel_rfl) (by kernel_rfl) (by kernel_rfl) (by kernel_rfl) (by kernel_rfl) (fun _ _ _ h => h) rfl (Or.inl ⟨by rfl, ?hf9⟩) (by assumption) ?rf9
                      case hf9 => (intro w hSw; go_simp; with_reducible rfl)
                      simp only [Act.put, List.setIfInBounds_toArray, List.set_cons_zero, List.set_cons_succ]
                      refine wpAnyK_take 10 186 (v := ?vf10) rfl (by kernel_rfl) (by kernel_rfl) (by kernel_rfl) (by kernel_rfl) (by kernel_rfl) (fun _ _ _ h => h) rfl (Or.inl ⟨by rfl, ?hf10⟩) (by assumption) ?rf10
                      case hf10 => (intro w hSw; go_simp; with_reducible rfl)
                      simp only [Act.put, List.setIfInBounds_toArray, List.set_cons_zero, List.set_cons_succ]
                      refine wpAnyK_take 11 187 (v := ?vf11) rfl (by kernel_rfl) (by kernel_rfl) (by kernel_rfl) (by kernel_rfl) (by kernel_rfl) (fun _ _ _ h => h) rfl (Or.inl ⟨by rfl, ?hf11⟩) (by assumption) ?rf11
                      case hf11 => (intro w hSw; go_simp; with_reducible rfl)
                      simp only [Act.put, List.setIfInBounds_toArray, List.set_cons_zero, List.set_cons_succ]
                      refine wpAnyK_take 12 188 (v := ?vf12) rfl (by kernel_rfl) (by kernel_rfl) (by kernel_rfl) (by kernel_rfl) (by kernel_rfl) (fun _ _ _ h => h) rfl (Or.inl ⟨by rfl, ?hf12⟩) (by assumption) ?rf12
                      case hf12 => (intro w hSw; go_simp; with_reducible rfl)
                      simp only [Act.put, List.setIfInBounds_toArray, List.set_cons_zero, List.set_cons_succ]
                      refine wpAnyK_take 13 189 (v := ?vf13) rfl (by kernel_rfl) (by kernel_rfl) (by kernel_rfl) (by kernel_rfl) (by kernel_rfl) (fun _ _ _ h => h) rfl (Or.inl ⟨by rfl, ?hf13⟩) (by assumption) ?rf13
                      case hf13 => (intro w hSw; go_simp; with_reducible rfl)
                      simp only [Act.put, List.setIfInBounds_toArray, List.set_cons_zero, List.set_cons_succ]
                      refine wpAnyK_take 14 190 (v := ?vf14) rfl (by kernel_rfl) (by kernel_rfl) (by kernel_rfl) (by kernel_rfl) (by kernel_rfl) (fun _ _ _ h => h) rfl (Or.inl ⟨by rfl, ?hf14⟩) (by assumption) ?rf14
                      case hf14 => (intro w hSw; go_simp; with_reducible rfl)
                      simp only [Act.put, List.setIfInBounds_toArray, List.set_cons_zero, List.set_cons_succ]
                      refine wpAnyK_take 15 191 (v := ?vf15) rfl (by kernel_rfl) (by kernel_rfl) (by kernel_rfl) (by kernel_rfl) (by kernel_rfl) (fun _ _ _ h => h) rfl (Or.inl ⟨by rfl, ?hf15⟩) (by assumption) ?rf15
                      case hf15 => (intro w hSw; go_simp; with_reducible rfl)
                      simp only [Act.put, List.setIfInBounds_toArray, List.set_cons_zero, List.set_cons_succ]
                      refine wpAnyK_one 16 (by kernel_rfl) rfl (fun K hK => ?_)
                      go_simp
                      refine hK.out _ _ (fun _ _ => S8) ?_
                      clear hK K
                      simp only [List.setIfInBounds_toArray, List.set_cons_zero, List.set_cons_succ]
                      refine wpAnyK_one 17 (by kernel_rfl) rfl (fun K hK => ?_)
                      go_simp
                      refine hK.out _ _ (fun h => absurd rfl h) ?_
                      clear hK K
                      simp only [List.setIfInBounds_toArray, List.set_cons_zero, List.set_cons_succ]
                      refine wpAnyK_done (by kernel_rfl) ?_ _
                      clear S0 S8 E8 hx hy W
                      go_wp2
                      go_loopw [15] (fun v wr => ∃ u : Nat, u ≤ n - 1 - k ∧ v = .int .i64 ((k + 1 + u : Nat) : Int) ∧ Sv.Rs wr w.heap.size n n n (k + 1) (k + 1) D R cR c2 f2 (.slice (some ⟨Bb, 0, none⟩) n cB) (.slice (some ⟨Br, 0, none⟩) n cr) (.slice (some ⟨g, 0, none⟩) (k + 1) cap) (.slice (some ⟨g', 0, none⟩) (k + 1) cap') (fun r j => if r = i ∧ k < j ∧ j ≤ k + u then Sv.less A1 k i j else Sv.elimT A1 k s r j) (fun i => Sv.elimT A1 k s i n) (Sv.pm n AA (k + 1)) (Sv.piv n AA) (Sv.odd n AA) t3 ∧ Sv.Dc wr E (.slice none 0 0) (.slice none 0 0) (.slice none 0 0) (.slice none 0 0) (.slice none 0 0) (.bool false) ∧ t3 E = 7 ∧ w.heap.size ≤ E ∧ Bw w wr) (fun v _ => n - (intOf v).toNat)
                      case atStart => exact ⟨0, Nat.zero_le _, by simp, KS.out.1.extA (fun r j _ _ => by rw [if_neg (by omega)]), KS.out.2⟩
                      case round =>
                        clear KS
                        obtain ⟨u, hu, rfl, hrs, hE, tE, heb, hbw⟩ := hrel
                        obtain ⟨j, hj⟩ : ∃ j, j = k + 1 + u := ⟨_, rfl⟩
                        rw [← hj]
                        have bd : Bw wr wr.drew := (Bw.refl wr).drew
                        replace hrs := hrs.bw bd
                        replace hE := hE.bw bd
                        replace hbw := bw_trans hbw bd
                        by_cases hu1 : u < n - 1 - k
                        · have hjn : j < n := by omega
                          have hj2 : (j : Int) < n := by omega
                          obtain ⟨x, e3, hx, q1⟩ := (hrs.hA.row i hin).cell hjn
                          obtain ⟨y, e4, hy, q2⟩ := (hrs.hA.row k hk1).cell hjn
                          have hI := HI.out
                          rw [if_neg (by omega), show Sv.elimT A1 k s i j = A1 i j by unfold Sv.elimT; rw [if_neg (by omega)]] at q1
                          rw [if_neg (by omega), show Sv.elimT A1 k s k j = A1 k j by unfold Sv.elimT; rw [if_neg (by omega)]] at q2
                          have e5 := (hrs.hA.row i hin).frozen j
                          have S0 : wr.drew.cell? ⟨D, 0, none⟩ = some (.slice (some ⟨R, 0, none⟩) n cR) ∧ wr.drew.cell? ⟨R, i, none⟩ = some (.slice (some ⟨f2 i, 0, none⟩) n (c2 i)) ∧ wr.drew.cell? ⟨R, k, none⟩ = some (.slice (some ⟨f2 k, 0, none⟩) n (c2 k)) ∧ wr.drew.cell? ⟨f2 i, j, none⟩ = some (.float .f64 x) ∧ wr.drew.cell? ⟨f2 k, j, none⟩ = some (.float .f64 y) ∧ wr.drew.frozen? ⟨f2 i, j, none⟩ = false := ⟨hrs.hD.2.1, hrs.hA.cell hin, hrs.hA.cell hk1, e3, e4, e5⟩
                          obtain ⟨pr, w8, hp1, hp2, E8, b8⟩ := Sv.run Sv.iMul ff y wr.drew
                          obtain ⟨rr, w9, hr1, hr2, E9, b9⟩ := Sv.run Sv.iSub x pr w8
                          rw [hp2, q1, q2, HFF.out] at hr2
                          have LT := hrs.ltf
                          have LT8 := (hrs.bw b8).ltf
                          have S8 : w8.cell? ⟨D, 0, none⟩ = some (.slice (some ⟨R, 0, none⟩) n cR) ∧ w8.cell? ⟨R, i, none⟩ = some (.slice (some ⟨f2 i, 0, none⟩) n (c2 i)) ∧ w8.cell? ⟨R, k, none⟩ = some (.slice (some ⟨f2 k, 0, none⟩) n (c2 k)) ∧ w8.cell? ⟨f2 i, j, none⟩ = some (.float .f64 x) ∧ w8.cell? ⟨f2 k, j, none⟩ = some (.float .f64 y) ∧ w8.frozen? ⟨f2 i, j, none⟩ = false := ⟨(Below.cell b8 (p := ⟨D, 0, none⟩) hrs.hD.1).trans S0.1, (Below.cell b8 (p := ⟨R, i, none⟩) LT.1).trans S0.2.1, (Below.cell b8 (p := ⟨R, k, none⟩) LT.1).trans S0.2.2.1, (Below.cell b8 (p := ⟨f2 i, j, none⟩) (LT.2.1 i hin)).trans S0.2.2.2.1, (Below.cell b8 (p := ⟨f2 k, j, none⟩) (LT.2.1 k hk1)).trans S0.2.2.2.2.1, (Below.frozen b8 (p := ⟨f2 i, j, none⟩) (LT.2.1 i hin)).trans S0.2.2.2.2.2⟩
                          have S9 : w9.cell? ⟨D, 0, none⟩ = some (.slice (some ⟨R, 0, none⟩) n cR) ∧ w9.cell? ⟨R, i, none⟩ = some (.slice (some ⟨f2 i, 0, none⟩) n (c2 i)) ∧ w9.cell? ⟨R, k, none⟩ = some (.slice (some ⟨f2 k, 0, none⟩) n (c2 k)) ∧ w9.cell? ⟨f2 i, j, none⟩ = some (.float .f64 x) ∧ w9.cell? ⟨f2 k, j, none⟩ = some (.float .f64 y) ∧ w9.frozen? ⟨f2 i, j, none⟩ = false := ⟨(Below.cell b9 (p := ⟨D, 0, none⟩) LT8.2.2.2.2.2.2).trans S8.1, (Below.cell b9 (p := ⟨R, i, none⟩) LT8.1).trans S8.2.1, (Below.cell b9 (p := ⟨R, k, none⟩) LT8.1).trans S8.2.2.1, (Below.cell b9 (p := ⟨f2 i, j, none⟩) (LT8.2.1 i hin)).trans S8.2.2.2.1, (Below.cell b9 (p := ⟨f2 k, j, none⟩) (LT8.2.1 k hk1)).trans S8.2.2.2.2.1, (Below.frozen b9 (p := ⟨f2 i, j, none⟩) (LT8.2.1 i hin)).trans S8.2.2.2.2.2⟩
                          have hrs9 := (hrs.bw b8).bw b9
                          obtain ⟨rw1, gw⟩ := (hrs9.hA.row i hin).set j rr hr1
                          have hfb := (hrs9.hA.row i hin).lt.1
                          have hrsN := (hrs9.turn hin gw rw1).extA (G' := fun r j' => if r = i ∧ k < j' ∧ j' ≤ k + (u + 1) then Sv.less A1 k i j' else Sv.elimT A1 k s r j') (fun r j' hr hj' => by
                            by_cases z : r = i
                            · simp only [z, if_true, true_and]
                              by_cases y : j' = j
                              · rw [if_pos y, if_pos (by omega), y, hr2]
                                rfl
                              · rw [if_neg y]
                                by_cases v : k < j' ∧ j' ≤ k + u
                                · rw [if_pos v, if_pos (by omega)]
                                · rw [if_neg v, if_neg (by omega)]
                            · simp only [if_neg z]
                              rw [if_neg (fun h => z h.1), if_neg (fun h => z h.1)])
                          have hbw9 := bw_trans (bw_trans hbw b8) b9
                          have KS := Sv.hid (And.intro hrsN (And.intro (((hE.bw b8).bw b9).gb gw (fun z => by have z' : E = f2 i := Option.some.inj z; have := hrs.tf i hin; rw [← z', tE] at this; cases this)) (And.intro tE (And.intro heb (Sv.gb_below hbw9 gw hbw9.size hfb)))))
                          have HJ := Sv.hid hj
                          clear hrs hE tE heb hbw bd e3 e4 e5 q1 q2 hp2 hr2 b8 b9 LT LT8 hrs9 rw1 gw hfb hrsN hbw9 hj hI
                          go_wp2_with fail
                          refine wp_region_K (fun w' => w'.cell? ⟨D, 0, none⟩ = some (.slice (some ⟨R, 0, none⟩) n cR) ∧ w'.cell? ⟨R, i, none⟩ = some (.slice (some ⟨f2 i, 0, none⟩) n (c2 i)) ∧ w'.cell? ⟨R, k, none⟩ = some (.slice (some ⟨f2 k, 0, none⟩) n (c2 k)) ∧ w'.cell? ⟨f2 i, j, none⟩ = some (.float .f64 x) ∧ w'.cell? ⟨f2 k, j, none⟩ = some (.float .f64 y) ∧ w'.frozen? ⟨f2 i, j, none⟩ = false) 26 27 #[false, false, false, false, false, false, false, false, false, false, false, false, false, false, false, false, false, false, false, false, false, false, false, false, false, false, false] (by kernel_rfl) (by kernel_rfl) (by kernel_rfl) ?_
                          generalize wr.drew = W at *
                          refine wpAnyK_take 0 200 (v := ?vg0) rfl (by kernel_rfl) (by kernel_rfl) (by kernel_rfl) (by kernel_rfl) (by kernel_rfl) (fun _ _ _ h => h) rfl (Or.inl ⟨by rfl, ?hg0⟩) (by assumption) ?rg0
                          case hg0 => (intro w hSw; go_simp; with_reducible rfl)
                          simp only [Act.put, List.setIfInBounds_toArray, List.set_cons_zero, List.set_cons_succ]
                          refine wpAnyK_take 1 201 (v := ?vg1) rfl (by kernel_rfl) (by kernel_rfl) (by kernel_rfl) (by kernel_rfl) (by kernel_rfl) (fun _ _ _ h => h) rfl (Or.inl ⟨by rfl, ?hg1⟩) (by assumption) ?rg1
                          case hg1 => (intro w hSw; go_simp; with_reducible rfl)
                          simp only [Act.put, List.setIfInBounds_toArray, List.set_cons_zero, List.set_cons_succ]
                          refine wpAnyK_take 2 202 (v := ?vg2) rfl (by kernel_rfl) (by kernel_rfl) (by kernel_rfl) (by kernel_rfl) (by kernel_rfl) (fun _ _ _ h => h) rfl (Or.inl ⟨by rfl, ?hg2⟩) (by assumption) ?rg2
                          case hg2 => (intro w hSw; go_simp; with_reducible rfl)
                          simp only [Act.put, List.setIfInBounds_toArray, List.set_cons_zero, List.set_cons_succ]
                          refine wpAnyK_take 3 203 (v := ?vg3) rfl (by kernel_rfl) (by kernel_rfl) (by kernel_rfl) (by kernel_rfl) (by kernel_rfl) (fun _ _ _ h => h) rfl (Or.inl ⟨by rfl, ?hg3⟩) (by assumption) ?rg3
                          case hg3 => (intro w hSw; go_simp; with_reducible rfl)
                          simp only [Act.put, List.setIfInBounds_toArray, List.set_cons_zero, List.set_cons_succ]
                          refine wpAnyK_take 4 204 (v := ?vg4) rfl (by kernel_rfl) (by kernel_rfl) (by kernel_rfl) (by kernel_rfl) (by kernel_rfl) (fun _ _ _ h => h) rfl (Or.inl ⟨by rfl, ?hg4⟩) (by assumption) ?rg4
                          case hg4 => (intro w hSw; go_simp; with_reducible rfl)
                          simp only [Act.put, List.setIfInBounds_toArray, List.set_cons_zero, List.set_cons_succ]
                          refine wpAnyK_take 5 205 (v := ?vg5) rfl (by kernel_rfl) (by kernel_rfl) (by kernel_rfl) (by kernel_rfl) (by kernel_rfl) (fun _ _ _ h => h) rfl (Or.inl ⟨by rfl, ?hg5⟩) (by assumption) ?rg5
                          case hg5 => (intro w hSw; go_simp; with_reducible rfl)
                          simp only [Act.put, List.setIfInBounds_toArray, List.set_cons_zero, List.set_cons_succ]
                          refine wpAnyK_take 6 206 (v := ?vg6) rfl (by kernel_rfl) (by kernel_rfl) (by kernel_rfl) (by kernel_rfl) (by kernel_rfl) (fun _ _ _ h => h) rfl (Or.inl ⟨by rfl, ?hg6⟩) (by assumption) ?rg6
                          case hg6 => (intro w hSw; go_simp; with_reducible rfl)
                          simp only [Act.put, List.setIfInBounds_toArray, List.set_cons_zero, List.set_cons_succ]
                          refine wpAnyK_take 7 207 (v := ?vg7) rfl (by kernel_rfl) (by kernel_rfl) (by kernel_rfl) (by kernel_rfl) (by kernel_rfl) (fun _ _ _ h => h) rfl (Or.inl ⟨by rfl, ?hg7⟩) (by assumption) ?rg7
                          case hg7 => (intro w hSw; go_simp; with_reducible rfl)
                          simp only [Act.put, List.setIfInBounds_toArray, List.set_cons_zero, List.set_cons_succ]
                          refine wpAnyK_take 8 208 (v := ?vg8) rfl (by kernel_rfl) (by kernel_rfl) (by kernel_rfl) (by kernel_rfl) (by kernel_rfl) (fun _ _ _ h => h) rfl (Or.inl ⟨by rfl, ?hg8⟩) (by assumption) ?rg8
                          case hg8 => (intro w hSw; go_simp; with_reducible rfl)
                          simp only [Act.put, List.setIfInBounds_toArray, List.set_cons_zero, List.set_cons_succ]
                          refine wpAnyK_take 9 209 (v := ?vg9) rfl (by kernel_rfl) (by kernel_rfl) (by kernel_rfl) (by kernel_rfl) (by kernel_rfl) (fun _ _ _ h => h) rfl (Or.inl ⟨by rfl, ?hg9⟩) (by assumption) ?rg9
                          case hg9 => (intro w hSw; go_simp; with_reducible rfl)
                          simp only [Act.put, List.setIfInBounds_toArray, List.set_cons_zero, List.set_cons_succ]
                          refine wpAnyK_take 10 210 (v := ?vg10) rfl (by kernel_rfl) (by kernel_rfl) (by kernel_rfl) (by kernel_rfl) (by kernel_rfl) (fun _ _ _ h => h) rfl (Or.inl ⟨by rfl, ?hg10⟩) (by assumption) ?rg10
                          case hg10 => (intro w hSw; go_simp; with_reducible rfl)
                          simp only [Act.put, List.setIfInBounds_toArray, List.set_cons_zero, List.set_cons_succ]
                          refine wpAnyK_take 11 211 (v := ?vg11) rfl (by kernel_rfl) (by kernel_rfl) (by kernel_rfl) (by kernel_rfl) (by kernel_rfl) (fun _ _ _ h => h) rfl (Or.inl ⟨by rfl, ?hg11⟩) (by assumption) ?rg11
                          case hg11 => (intro w hSw; go_simp; with_reducible rfl)
                          simp only [Act.put, List.setIfInBounds_toArray, List.set_cons_zero, List.set_cons_succ]
                          refine wpAnyK_take 12 212 (v := ?vg12) rfl (by kernel_rfl) (by kernel_rfl) (by kernel_rfl) (by kernel_rfl) (by kernel_rfl) (fun _ _ _ h => h) rfl (Or.inl ⟨by rfl, ?hg12⟩) (by assumption) ?rg12
                          case hg12 => (intro w hSw; go_simp; with_reducible rfl)
                          simp only [Act.put, List.setIfInBounds_toArray, List.set_cons_zero, List.set_cons_succ]
                          refine wpAnyK_take 13 213 (v := ?vg13) rfl (by kernel_rfl) (by kernel_rfl) (by kernel_rfl) (by kernel_rfl) (by kernel_rfl) (fun _ _ _ h => h) rfl (Or.inl ⟨by rfl, ?hg13⟩) (by assumption) ?rg13
                          case hg13 => (intro w hSw; go_simp; with_reducible rfl)
                          simp only [Act.put, List.setIfInBounds_toArray, List.set_cons_zero, List.set_cons_succ]
                          refine wpAnyK_take 14 214 (v := ?vg14) rfl (by kernel_rfl) (by kernel_rfl) (by kernel_rfl) (by kernel_rfl) (by kernel_rfl) (fun _ _ _ h => h) rfl (Or.inl ⟨by rfl, ?hg14⟩) (by assumption) ?rg14
                          case hg14 => (intro w hSw; go_simp; with_reducible rfl)
                          simp only [Act.put, List.setIfInBounds_toArray, List.set_cons_zero, List.set_cons_succ]
                          refine wpAnyK_take 15 215 (v := ?vg15) rfl (by kernel_rfl) (by kernel_rfl) (by kernel_rfl) (by kernel_rfl) (by kernel_rfl) (fun _ _ _ h => h) rfl (Or.inl ⟨by rfl, ?hg15⟩) (by assumption) ?rg15
                          case hg15 => (intro w hSw; go_simp; with_reducible rfl)
                          simp only [Act.put, List.setIfInBounds_toArray, List.set_cons_zero, List.set_cons_succ]
                          refine wpAnyK_take 16 216 (v := ?vg16) rfl (by kernel_rfl) (by kernel_rfl) (by kernel_rfl) (by kernel_rfl) (by kernel_rfl) (fun _ _ _ h => h) rfl (Or.inl ⟨by rfl, ?hg16⟩) (by assumption) ?rg16
                          case hg16 => (intro w hSw; go_simp; with_reducible rfl)
                          simp only [Act.put, List.setIfInBounds_toArray, List.set_cons_zero, List.set_cons_succ]
                          refine wpAnyK_take 17 217 (v := ?vg17) rfl (by kernel_rfl) (by kernel_rfl) (by kernel_rfl) (by kernel_rfl) (by kernel_rfl) (fun _ _ _ h => h) rfl (Or.inl ⟨by rfl, ?hg17⟩) (by assumption) ?rg17
                          case hg17 => (intro w hSw; go_simp; with_reducible rfl)
                          simp only [Act.put, List.setIfInBounds_toArray, List.set_cons_zero, List.set_cons_succ]
                          refine wpAnyK_take 18 218 (v := ?vg18) rfl (by kernel_rfl) (by kernel_rfl) (by kernel_rfl) (by kernel_rfl) (by kernel_rfl) (fun _ _ _ h => h) rfl (Or.inl ⟨by rfl, ?hg18⟩) (by assumption) ?rg18
                          case hg18 => (intro w hSw; go_simp; with_reducible rfl)
                          simp only [Act.put, List.setIfInBounds_toArray, List.set_cons_zero, List.set_cons_succ]
                          refine wpAnyK_take 19 219 (v := ?vg19) rfl (by kernel_rfl) (by kernel_rfl) (by kernel_rfl) (by kernel_rfl) (by kernel_rfl) (fun _ _ _ h => h) rfl (Or.inl ⟨by rfl, ?hg19⟩) (by assumption) ?rg19
                          case hg19 => (intro w hSw; go_simp; with_reducible rfl)
                          simp only [Act.put, List.setIfInBounds_toArray, List.set_cons_zero, List.set_cons_succ]
                          refine wpAnyK_take 20 220 (v := ?vg20) rfl (by kernel_rfl) (by kernel_rfl) (by kernel_rfl) (by kernel_rfl) (by kernel_rfl) (fun _ _ _ h => h) rfl (Or.inl ⟨by rfl, ?hg20⟩) (by assumption) ?rg20
                          case hg20 => (intro w hSw; go_simp; with_reducible rfl)
                          simp only [Act.put, List.setIfInBounds_toArray, List.set_cons_zero, List.set_cons_succ]
                          refine wpAnyK_take 21 221 (v := ?vg21) rfl (by kernel_rfl) (by kernel_rfl) (by kernel_rfl) (by kernel_rfl) (by kernel_rfl) (fun _ _ _ h => h) rfl (Or.inl ⟨by rfl, ?hg21⟩) (by assumption) ?rg21
                          case hg21 => (intro w hSw; go_simp; with_reducible rfl)
                          simp only [Act.put, List.setIfInBounds_toArray, List.set_cons_zero, List.set_cons_succ]
                          refine wpAnyK_take 22 222 (v := ?vg22) rfl (by kernel_rfl) (by kernel_rfl) (by kernel_rfl) (by kernel_rfl) (by kernel_rfl) (fun _ _ _ h => h) rfl (Or.inl ⟨by rfl, ?hg22⟩) (by assumption) ?rg22
                          case hg22 => (intro w hSw; go_simp; with_reducible rfl)
                          simp only [Act.put, List.setIfInBounds_toArray, List.set_cons_zero, List.set_cons_succ]
                          refine wpAnyK_one 23 (by kernel_rfl) rfl (fun K hK => ?_)
                          go_simp
                          refine hK.out _ _ (fun _ _ => S8) ?_
                          clear hK K
                          simp only [List.setIfInBounds_toArray, List.set_cons_zero, List.set_cons_succ]
                          refine wpAnyK_one 24 (by kernel_rfl) rfl (fun K hK => ?_)
                          go_simp
                          refine hK.out _ _ (fun _ _ => S9) ?_
                          clear hK K
                          simp only [List.setIfInBounds_toArray, List.set_cons_zero, List.set_cons_succ]
                          refine wpAnyK_take 25 225 (v := ?vg25) rfl (by kernel_rfl) (by kernel_rfl) (by kernel_rfl) (by kernel_rfl) (by kernel_rfl) (fun _ _ _ h => h) rfl (Or.inl ⟨by rfl, ?hg25⟩) (by assumption) ?rg25
                          case hg25 => (intro w hSw; go_simp; with_reducible rfl)
                          simp only [Act.put, List.setIfInBounds_toArray, List.set_cons_zero, List.set_cons_succ]
                          refine wpAnyK_one 26 (by kernel_rfl) rfl (fun K hK => ?_)
                          go_simp
                          refine hK.out _ _ (fun h => absurd rfl h) ?_
                          clear hK K
                          simp only [List.setIfInBounds_toArray, List.set_cons_zero, List.set_cons_succ]
                          refine wpAnyK_done (by kernel_rfl) ?_ _
                          clear S0 S8 S9 E8 E9 hx hy
                          go_wp2
                          go_roundw
                          case rel => exact ⟨u + 1, by omega, by have := HJ.out; simp; omega, KS.out⟩
                          case measure => simp [intOf]; omega
                        · have hjn : j = n := by omega
                          have hj2 : ¬ (j : Int) < n := by omega
                          obtain ⟨x, e3, hx, q1⟩ := hrs.hB.rw.cell hin
                          obtain ⟨y, e4, hy, q2⟩ := hrs.hB.rw.cell hk1
                          have hI := HI.out
                          rw [show Sv.elimT A1 k s i n = A1 i n by unfold Sv.elimT; rw [if_neg (by omega)]] at q1
                          rw [show Sv.elimT A1 k s k n = A1 k n by unfold Sv.elimT; rw [if_neg (by omega)]] at q2
                          have e5 := hrs.hB.rw.frozen i
                          have S0 : wr.drew.cell? ⟨D, 1, none⟩ = some (.slice (some ⟨Bb, 0, none⟩) n cB) ∧ wr.drew.cell? ⟨Bb, i, none⟩ = some (.float .f64 x) ∧ wr.drew.cell? ⟨Bb, k, none⟩ = some (.float .f64 y) ∧ wr.drew.frozen? ⟨Bb, i, none⟩ = false := ⟨hrs.hD.2.2.1, e3, e4, e5⟩
                          obtain ⟨pr, w8, hp1, hp2, E8, b8⟩ := Sv.run Sv.iMul ff y wr.drew
                          obtain ⟨rr, w9, hr1, hr2, E9, b9⟩ := Sv.run Sv.iSub x pr w8
                          rw [hp2, q1, q2, HFF.out] at hr2
                          have LT := hrs.ltf
                          have LT8 := (hrs.bw b8).ltf
                          have S8 : w8.cell? ⟨D, 1, none⟩ = some (.slice (some ⟨Bb, 0, none⟩) n cB) ∧ w8.cell? ⟨Bb, i, none⟩ = some (.float .f64 x) ∧ w8.cell? ⟨Bb, k, none⟩ = some (.float .f64 y) ∧ w8.frozen? ⟨Bb, i, none⟩ = false := ⟨(Below.cell b8 (p := ⟨D, 1, none⟩) hrs.hD.1).trans S0.1, (Below.cell b8 (p := ⟨Bb, i, none⟩) (LT.2.2.1 Bb rfl)).trans S0.2.1, (Below.cell b8 (p := ⟨Bb, k, none⟩) (LT.2.2.1 Bb rfl)).trans S0.2.2.1, (Below.frozen b8 (p := ⟨Bb, i, none⟩) (LT.2.2.1 Bb rfl)).trans S0.2.2.2⟩
                          have S9 : w9.cell? ⟨D, 1, none⟩ = some (.slice (some ⟨Bb, 0, none⟩) n cB) ∧ w9.cell? ⟨Bb, i, none⟩ = some (.float .f64 x) ∧ w9.cell? ⟨Bb, k, none⟩ = some (.float .f64 y) ∧ w9.frozen? ⟨Bb, i, none⟩ = false := ⟨(Below.cell b9 (p := ⟨D, 1, none⟩) LT8.2.2.2.2.2.2).trans S8.1, (Below.cell b9 (p := ⟨Bb, i, none⟩) (LT8.2.2.1 Bb rfl)).trans S8.2.1, (Below.cell b9 (p := ⟨Bb, k, none⟩) (LT8.2.2.1 Bb rfl)).trans S8.2.2.1, (Below.frozen b9 (p := ⟨Bb, i, none⟩) (LT8.2.2.1 Bb rfl)).trans S8.2.2.2⟩
                          have hrs9 := (hrs.bw b8).bw b9
                          obtain ⟨hrsB, gw⟩ := hrs9.setB rfl i rr hr1
                          have hfb := hrs9.hB.rw.lt.1
                          have tB := hrs.tB Bb rfl
                          have hrsN := hrsB.ext (G' := Sv.elimT A1 k (s + 1)) (Bf' := fun i => Sv.elimT A1 k (s + 1) i n) (X' := Sv.pm n AA (k + 1)) (P' := Sv.piv n AA) (O' := Sv.odd n AA) (fun r j' hr hj' => by
                            unfold Sv.elimT
                            by_cases z : r = i
                            · subst z
                              by_cases y : k < j'
                              · rw [if_pos (by omega), if_pos (by omega)]
                              · rw [if_neg (by omega), if_neg (by omega), if_neg (by omega)]
                            · rw [if_neg (fun h => z h.1)]
                              by_cases v : k < r ∧ r ≤ k + s ∧ k < j'
                              · rw [if_pos v, if_pos (by omega)]
                              · rw [if_neg v, if_neg (by omega)]) (fun r hr => by
                            show (if r = i then Fl.bitsF rr else Sv.elimT A1 k s r n) = Sv.elimT A1 k (s + 1) r n
                            by_cases z : r = i
                            · rw [if_pos z, hr2, z]
                              unfold Sv.elimT Sv.less
                              rw [if_pos (by omega)]
                            · rw [if_neg z]
                              unfold Sv.elimT
                              by_cases v : k < r ∧ r ≤ k + s ∧ k < n
                              · rw [if_pos v, if_pos (by omega)]
                              · rw [if_neg v, if_neg (by omega)]) (fun _ _ => rfl) (fun _ _ => rfl) (fun _ _ => rfl)
                          have hbw9 := bw_trans (bw_trans hbw b8) b9
                          have KS := Sv.hid (And.intro hrsN (And.intro (((hE.bw b8).bw b9).gb gw (fun z => by have z' : E = Bb := Option.some.inj z; rw [← z', tE] at tB; cases tB)) (And.intro tE (And.intro heb (Sv.gb_below hbw9 gw hbw9.size hfb)))))
                          clear hrs hE tE heb hbw bd e3 e4 e5 q1 q2 hp2 hr2 b8 b9 LT LT8 hrs9 hrsB gw hfb hrsN hbw9 hj hI tB
                          go_wp2_with fail
                          refine wp_region_K (fun w' => w'.cell? ⟨D, 1, none⟩ = some (.slice (some ⟨Bb, 0, none⟩) n cB) ∧ w'.cell? ⟨Bb, i, none⟩ = some (.float .f64 x) ∧ w'.cell? ⟨Bb, k, none⟩ = some (.float .f64 y) ∧ w'.frozen? ⟨Bb, i, none⟩ = false) 17 18 #[false, false, false, false, false, false, false, false, false, false, false, false, false, false, false, false, false, false] (by kernel_rfl) (by kernel_rfl) (by kernel_rfl) ?_
                          generalize wr.drew = W at *
                          refine wpAnyK_take 0 226 (v := ?vh0) rfl (by kernel_rfl) (by kernel_rfl) (by kernel_rfl) (by kernel_rfl) (by kernel_rfl) (fun _ _ _ h => h) rfl (Or.inl ⟨by rfl, ?hh0⟩) (by assumption) ?rh0
                          case hh0 => (intro w hSw; go_simp; with_reducible rfl)
                          simp only [Act.put, List.setIfInBounds_toArray, List.set_cons_zero, List.set_cons_succ]
                          refine wpAnyK_take 1 227 (v := ?vh1) rfl (by kernel_rfl) (by kernel_rfl) (by kernel_rfl) (by kernel_rfl) (by kernel_rfl) (fun _ _ _ h => h) rfl (Or.inl ⟨by rfl, ?hh1⟩) (by assumption) ?rh1
                          case hh1 => (intro w hSw; go_simp; with_reducible rfl)
                          simp only [Act.put, List.setIfInBounds_toArray, List.set_cons_zero, List.set_cons_succ]
                          refine wpAnyK_take 2 228 (v := ?vh2) rfl (by kernel_rfl) (by kernel_rfl) (by kernel_rfl) (by kernel_rfl) (by kernel_rfl) (fun _ _ _ h => h) rfl (Or.inl ⟨by rfl, ?hh2⟩) (by assumption) ?rh2
                          case hh2 => (intro w hSw; go_simp; with_reducible rfl)
                          simp only [Act.put, List.setIfInBounds_toArray, List.set_cons_zero, List.set_cons_succ]
                          refine wpAnyK_take 3 229 (v := ?vh3) rfl (by kernel_rfl) (by kernel_rfl) (by kernel_rfl) (by kernel_rfl) (by kernel_rfl) (fun _ _ _ h => h) rfl (Or.inl ⟨by rfl, ?hh3⟩) (by assumption) ?rh3
                          case hh3 => (intro w hSw; go_simp; with_reducible rfl)
                          simp only [Act.put, List.setIfInBounds_toArray, List.set_cons_zero, List.set_cons_succ]
                          refine wpAnyK_take 4 230 (v := ?vh4) rfl (by kernel_rfl) (by kernel_rfl) (by kernel_rfl) (by kernel_rfl) (by kernel_rfl) (fun _ _ _ h => h) rfl (Or.inl ⟨by rfl, ?hh4⟩) (by assumption) ?rh4
                          case hh4 => (intro w hSw; go_simp; with_reducible rfl)
                          simp only [Act.put, List.setIfInBounds_toArray, List.set_cons_zero, List.set_cons_succ]
                          refine wpAnyK_take 5 231 (v := ?vh5) rfl (by kernel_rfl) (by kernel_rfl) (by kernel_rfl) (by kernel_rfl) (by kernel_rfl) (fun _ _ _ h => h) rfl (Or.inl ⟨by rfl, ?hh5⟩) (by assumption) ?rh5
                          case hh5 => (intro w hSw; go_simp; with_reducible rfl)
                          simp only [Act.put, List.setIfInBounds_toArray, List.set_cons_zero, List.set_cons_succ]
                          refine wpAnyK_take 6 232 (v := ?vh6) rfl (by kernel_rfl) (by kernel_rfl) (by kernel_rfl) (by kernel_rfl) (by kernel_rfl) (fun _ _ _ h => h) rfl (Or.inl ⟨by rfl, ?hh6⟩) (by assumption) ?rh6
                          case hh6 => (intro w hSw; go_simp; with_reducible rfl)
                          simp only [Act.put, List.setIfInBounds_toArray, List.set_cons_zero, List.set_cons_succ]
                          refine wpAnyK_take 7 233 (v := ?vh7) rfl (by kernel_rfl) (by kernel_rfl) (by kernel_rfl) (by kernel_rfl) (by kernel_rfl) (fun _ _ _ h => h) rfl (Or.inl ⟨by rfl, ?hh7⟩) (by assumption) ?rh7
                          case hh7 => (intro w hSw; go_simp; with_reducible rfl)
                          simp only [Act.put, List.setIfInBounds_toArray, List.set_cons_zero, List.set_cons_succ]
                          refine wpAnyK_take 8 234 (v := ?vh8) rfl (by kernel_rfl) (by kernel_rfl) (by kernel_rfl) (by kernel_rfl) (by kernel_rfl) (fun _ _ _ h => h) rfl (Or.inl ⟨by rfl, ?hh8⟩) (by assumption) ?rh8
                          case hh8 => (intro w hSw; go_simp; with_reducible rfl)
                          simp only [Act.put, List.setIfInBounds_toArray, List.set_cons_zero, List.set_cons_succ]
                          refine wpAnyK_take 9 235 (v := ?vh9) rfl (by kernel_rfl) (by kernel_rfl) (by kernel_rfl) (by kernel_rfl) (by kernel_rfl) (fun _ _ _ h => h) rfl (Or.inl ⟨by rfl, ?hh9⟩) (by assumption) ?rh9
                          case hh9 => (intro w hSw; go_simp; with_reducible rfl)
                          simp only [Act.put, List.setIfInBounds_toArray, List.set_cons_zero, List.set_cons_succ]
                          refine wpAnyK_take 10 236 (v := ?vh10) rfl (by kernel_rfl) (by kernel_rfl) (by kernel_rfl) (by kernel_rfl) (by kernel_rfl) (fun _ _ _ h => h) rfl (Or.inl ⟨by rfl, ?hh10⟩) (by assumption) ?rh10
                          case hh10 => (intro w hSw; go_simp; with_reducible rfl)
                          simp only [Act.put, List.setIfInBounds_toArray, List.set_cons_zero, List.set_cons_succ]
                          refine wpAnyK_take 11 237 (v := ?vh11) rfl (by kernel_rfl) (by kernel_rfl) (by kernel_rfl) (by kernel_rfl) (by kernel_rfl) (fun _ _ _ h => h) rfl (Or.inl ⟨by rfl, ?hh11⟩) (by assumption) ?rh11
                          case hh11 => (intro w hSw; go_simp; with_reducible rfl)
                          simp only [Act.put, List.setIfInBounds_toArray, List.set_cons_zero, List.set_cons_succ]
                          refine wpAnyK_take 12 238 (v := ?vh12) rfl (by kernel_rfl) (by kernel_rfl) (by kernel_rfl) (by kernel_rfl) (by kernel_rfl) (fun _ _ _ h => h) rfl (Or.inl ⟨by rfl, ?hh12⟩) (by assumption) ?rh12
                          case hh12 => (intro w hSw; go_simp; with_reducible rfl)
                          simp only [Act.put, List.setIfInBounds_toArray, List.set_cons_zero, List.set_cons_succ]
                          refine wpAnyK_take 13 239 (v := ?vh13) rfl (by kernel_rfl) (by kernel_rfl) (by kernel_rfl) (by kernel_rfl) (by kernel_rfl) (fun _ _ _ h => h) rfl (Or.inl ⟨by rfl, ?hh13⟩) (by assumption) ?rh13
                          case hh13 => (intro w hSw; go_simp; with_reducible rfl)
                          simp only [Act.put, List.setIfInBounds_toArray, List.set_cons_zero, List.set_cons_succ]
                          refine wpAnyK_one 14 (by kernel_rfl) rfl (fun K hK => ?_)
                          go_simp
                          refine hK.out _ _ (fun _ _ => S8) ?_
                          clear hK K
                          simp only [List.setIfInBounds_toArray, List.set_cons_zero, List.set_cons_succ]
                          refine wpAnyK_one 15 (by kernel_rfl) rfl (fun K hK => ?_)
                          go_simp
                          refine hK.out _ _ (fun _ _ => S9) ?_
                          clear hK K
                          simp only [List.setIfInBounds_toArray, List.set_cons_zero, List.set_cons_succ]
                          refine wpAnyK_take 16 242 (v := ?vh16) rfl (by kernel_rfl) (by kernel_rfl) (by kernel_rfl) (by kernel_rfl) (by kernel_rfl) (fun _ _ _ h => h) rfl (Or.inl ⟨by rfl, ?hh16⟩) (by assumption) ?rh16
                          case hh16 => (intro w hSw; go_simp; with_reducible rfl)
                          simp only [Act.put, List.setIfInBounds_toArray, List.set_cons_zero, List.set_cons_succ]
                          refine wpAnyK_one 17 (by kernel_rfl) rfl (fun K hK => ?_)
                          go_simp
                          refine hK.out _ _ (fun h => absurd rfl h) ?_
                          clear hK K
                          simp only [List.setIfInBounds_toArray, List.set_cons_zero, List.set_cons_succ]
                          refine wpAnyK_done (by kernel_rfl) ?_ _
                          clear S0 S8 S9 E8 E9 hx hy
                          go_wp2
                          go_roundw
                          case rel => exact ⟨s + 1, by omega, by have := HI.out; simp; omega, KS.out⟩
                          case measure => simp [intOf]; omega
                    · have hs3 : s = n - 1 - k := by omega
                      have hii : ¬ (i : Int) < n := by omega
                      have hst : ∀ r j, r < n → Sv.elimT A1 k s r j = Sv.st n AA (k + 1) r j := fun r j hr => by
                        show _ = Sv.elim (Sv.swap (Sv.st n AA k) k (Sv.tk n AA k)) k r j
                        rw [HT.out, HA1.out]
                        unfold Sv.elimT Sv.elim
                        by_cases y : k < r ∧ k < j
                        · rw [if_pos (by omega), if_pos y]
                        · rw [if_neg (by omega), if_neg y]
                      have KS := Sv.hid (⟨hrs.ext (fun r j hr _ => hst r j hr) (fun r hr => hst r n hr) (fun _ _ => rfl) (fun _ _ => rfl) (fun _ _ => rfl), hE, tE, heb, hbw⟩ : Sv.Rk wr w n D E R cR AA n (k + 1) c2 f2 _ _ _ _ t3)
                      have HG2 : Hid (Sv.good n AA (k + 1)) := fun j hj => by
                        by_cases z : j = k
                        · subst z; exact HBD.out
                        · exact HG.out j (by omega)
                      clear hrs hE tE heb hbw hst hi
                      go_wp2
                      go_roundw
                      case rel => exact ⟨k + 1, c2, f2, _, _, _, _, t3, by omega, by simp, HG2.out, KS.out⟩
                      case measure => simp [intOf]; omega
              · skip
                have HBD : Hid (Sv.bad (Sv.piv n AA k) = true) := by show _ = _; rw [← HQ.out, Sv.bad_c]; unfold Sv.bad; rw [zn]; rfl
                have NX : (FloatKind.f64.format.order x 0 == some .eq) = true := by rw [Fl.o_eq, Sv.nought_eqF, zn]
                go_wp2_with fail
                refine (rfinite_any x _).mono ?_
                rintro e' w6 ⟨rfl, hw6⟩
                subst hw6
                rw [EW6.out]
                obtain ⟨hrs, hE, tE, heb, hbw⟩ := KD.out
                obtain ⟨hd7, g7⟩ := hrs.hD.set 5 (.bool false)
                simp at hd7
                have hE7 := hE.gb g7 (fun z => by have z' := Option.some.inj z; have := hrs.tD; rw [← z', tE] at this; cases this)
                have hDl := hrs.hD.2.2.2.2.2.2.1
                have hDz := hrs.hD.2.2.2.2.2.2.2 5
                obtain ⟨m0, m1, m2, m3, m4, m5, m6, m7⟩ := hd7
                obtain ⟨n0, n1, n2, n3, n4, n5, n6, n7⟩ := hE7
                have nz0 := n7 0
                have nz1 := n7 1
                have nz2 := n7 2
                have nz3 := n7 3
                have nz4 := n7 4
                have nz5 := n7 5
                have KE := Sv.hid (And.intro g7 (show Sv.Dc _ E _ _ _ _ _ _ from ⟨n0, n1, n2, n3, n4, n5, n6, n7⟩))
                clear hrs hE tE heb hbw g7 n7 m7
                go_wp2
                obtain ⟨h8, g8⟩ := KE.out.2.six (.slice (some ⟨R, 0, none⟩) n cR) (.slice (some ⟨Bb, 0, none⟩) n cB) (.slice (some ⟨Br, 0, none⟩) n cr) (.slice (some ⟨g, 0, none⟩) (k + 1) cap) (.slice (some ⟨g', 0, none⟩) (k + 1) cap') (.bool false)
                obtain ⟨hrs, hE, tE, heb, hbw⟩ := KD.out
                have l7 := hrs.last (E := E) (Or.inl hrs.tD) KE.out.1
                refine bodyPost_ret (Sv.Dc.res rfl _ rfl h8) rfl ?_
                have hEl := hE.1
                have tne : ∀ v : Value, ∀ m, (∀ x, v.ownBlock = some x → t3 x = m) → m ≠ 7 → v.ownBlock = none ∨ v.ownBlock ≠ some E := fun v m hv hm => Sv.apart hv (fun x z => by cases z; rw [tE]; exact fun q => hm q.symm)
                try rw [hAA]
                refine ⟨_, _, _, _, _, false, rfl, Sv.gb_below (Sv.gb_below hbw KE.out.1 hbw.size hrs.hb) g8 (by have := hbw.size; have := KE.out.1.size; omega) heb, k + 1, R, cR, c, f, Sv.pm n AA k, (fun i => Sv.st n AA k i n), Sv.st n AA k, rfl, l7.1.gb g8 (Or.inr (fun z => by have z' : R = E := Option.some.inj z; have := hrs.tA; rw [z', tE] at this; cases this)) (fun i hi z => by have z' := Option.some.inj z; have := hrs.tf i hi; rw [z', tE] at this; cases this), l7.2.1.gb g8 (tne _ 2 hrs.tB (by decide)), l7.2.2.1.kept g8 (tne _ 3 hrs.tR (by decide)), ?_, ?_, Or.inr ⟨rfl, k, hk1, rfl, ?_, ?_⟩⟩
                · exact l7.2.2.2.1.gb g8 (tne _ 4 hrs.tP (by decide))
                · exact l7.2.2.2.2.kept g8 (tne _ 5 hrs.tO (by decide))
                · exact HG.out
                · exact HBD.out
        · have hk3 : n = k := by omega
          subst hk3
          have hkk : ¬ (n : Int) < n := by omega
          obtain ⟨Bb, cB, rfl, _, _⟩ := hRk.rs.hB.form hn0
          obtain ⟨Br, cr, rfl, _, _⟩ := hRk.rs.hR.form hn0
          obtain ⟨Bp, cp, rfl, _, _⟩ := hRk.rs.hP.form hn0
          obtain ⟨Bo, co, rfl, _, _⟩ := hRk.rs.hO.form hn0
          obtain ⟨m0, m1, m2, m3, m4, m5, m6, m7⟩ := hRk.rs.hD
          obtain ⟨n0, n1, n2, n3, n4, n5, n6, n7⟩ := hRk.hE
          have nz0 := n7 0
          have nz1 := n7 1
          have nz2 := n7 2
          have nz3 := n7 3
          have nz4 := n7 4
          have nz5 := n7 5
          have KE := Sv.hid hRk
          have HG := Sv.hid hgd
          clear hRk n7 m7 hgd
          go_wp2
          obtain ⟨h8, g8⟩ := KE.out.hE.six (.slice (some ⟨R, 0, none⟩) n cR) (.slice (some ⟨Bb, 0, none⟩) n cB) (.slice (some ⟨Br, 0, none⟩) n cr) (.slice (some ⟨Bp, 0, none⟩) n cp) (.slice (some ⟨Bo, 0, none⟩) n co) (.bool true)
          obtain ⟨hrs, hE, tE, heb, hbw⟩ := KE.out
          refine bodyPost_ret (Sv.Dc.res rfl _ rfl h8) rfl ?_
          have l8 := hrs.last (E := E) (Or.inr tE) g8
          try rw [hAA]
          refine ⟨_, _, _, _, _, true, rfl, Sv.gb_below hbw g8 hbw.size heb, n, R, cR, c, f, Sv.pm n AA n, (fun i => Sv.st n AA n i n), Sv.st n AA n, rfl, l8.1, l8.2.1, l8.2.2.1, ?_, ?_, Or.inl ⟨rfl, rfl, ?_, ?_, fun i hi => ?_, fun i hi => ?_⟩⟩
          · exact l8.2.2.2.1
          · exact l8.2.2.2.2
          · exact HG.out
          · rfl
          · rfl
          · rfl
end Go.Proofs.Ytjfkdmddfeeheaa
