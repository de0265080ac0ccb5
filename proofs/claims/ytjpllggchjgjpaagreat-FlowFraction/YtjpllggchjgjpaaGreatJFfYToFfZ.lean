/-
 OWN TEXT: the speed of a flow and the value of its fraction are near.
-/
import Derived.Test.YtjpllggchjgjpaaGreatJFfPToFfX
import Derived.Test.YtjpllggchjgjpaaGreatJXxAToXxH
set_option linter.unusedVariables false
set_option exponentiation.threshold 3000
namespace Go.Proofs.YtjpllggchjgjpaaGreat.Ff
open Sv (rv Ab ab Fi en uu ep9)
def tP : List (Rat × Rat) → Rat
 | [] => 0
 | x :: r => x.1 + tP r
def tQ : List (Rat × Rat) → Rat
 | [] => 0
 | x :: r => x.2 + tQ r
def tE : List (Rat × Rat) → Rat
 | [] => 0
 | x :: r => (ab x.1 + ab x.2) + tE r
inductive Al : List El.Z → List (Rat × Rat) → Prop
 | nil : Al [] []
 | cons {Y : El.Z} {x : Rat × Rat} {Ys : List El.Z} {l : List (Rat × Rat)} : Nx Y x.1 x.2 → Al Ys l → Al (Y :: Ys) (x :: l)
structure Nq (Z : El.Z) (P Q S γ : Rat) : Prop where
 f1 : Fi Z.1
 f2 : Fi Z.2
 e1 : Ab (rv Z.1 - P) (γ * S)
 e2 : Ab (rv Z.2 - Q) (γ * S)
 aP : Ab P S
 aQ : Ab Q S
 nn : 0 ≤ S
 lo : S = 0 ∨ 1 ≤ 4194304 * S
theorem lo_add {S e : Rat} (h1 : 0 ≤ S) (h2 : 0 ≤ e) (l1 : S = 0 ∨ 1 ≤ 4194304 * S) (l2 : e = 0 ∨ 1 ≤ 4194304 * e) : S + e = 0 ∨ 1 ≤ 4194304 * (S + e) := by
 rcases l1 with z | z <;> rcases l2 with y | y <;> grind
theorem nq_step {Z Y : El.Z} {P Q S γ p q : Rat} (h : Nq Z P Q S γ) (k : Nx Y p q) (hγ : 1 / 8796093022208 ≤ γ) (hγ1 : γ ≤ 1 / 1024) (hi : S ≤ 17592186044416) : Nq (zadd Z Y) (P + p) (Q + q) (S + (ab p + ab q)) (γ + ep9) := by
 have np := Sv.ab_nn p
 have nq := Sv.ab_nn q
 have hp := Sv.ab_ab p
 have hq := Sv.ab_ab q
 have lo := lo_add h.nn (show 0 ≤ ab p + ab q by grind) h.lo k.lo
 have g : 1 / 8796093022208 * (ab p + ab q) ≤ γ * (ab p + ab q) := Rat.mul_le_mul_of_nonneg_right hγ (by grind)
 have hk := k.hi
 obtain ⟨f1, e1⟩ := Sv.add_step h.f1 k.f1 (by grind) hγ1 h.e1 (k.e1.mono g) h.aP (hp.mono (by grind)) h.nn (by grind) lo (by grind)
 obtain ⟨f2, e2⟩ := Sv.add_step h.f2 k.f2 (by grind) hγ1 h.e2 (k.e2.mono g) h.aQ (hq.mono (by grind)) h.nn (by grind) lo (by grind)
 exact ⟨f1, f2, e1, e2, h.aP.add (hp.mono (by grind)), h.aQ.add (hq.mono (by grind)), by have := h.nn; grind, lo⟩
theorem nx_nq {Y : El.Z} {p q : Rat} (k : Nx Y p q) : Nq Y p q (ab p + ab q) (1 / 8796093022208) := by
 have np := Sv.ab_nn p
 have nq := Sv.ab_nn q
 exact ⟨k.f1, k.f2, k.e1, k.e2, (Sv.ab_ab p).mono (by grind), (Sv.ab_ab q).mono (by grind), by grind, k.lo⟩
theorem Nq.mono {Z : El.Z} {P Q S γ γ' : Rat} (h : Nq Z P Q S γ) (k : γ ≤ γ') : Nq Z P Q S γ' :=
 have g : γ * S ≤ γ' * S := Rat.mul_le_mul_of_nonneg_right k h.nn
 ⟨h.f1, h.f2, h.e1.mono g, h.e2.mono g, h.aP, h.aQ, h.nn, h.lo⟩
theorem Nq.cong {Z : El.Z} {P Q S γ P' Q' S' : Rat} (h : Nq Z P Q S γ) (e1 : P = P') (e2 : Q = Q') (e3 : S = S') : Nq Z P' Q' S' γ := e1 ▸ e2 ▸ e3 ▸ h
/-- the sum of the speeds -/
theorem nq_sum {Ys : List El.Z} {l : List (Rat × Rat)} (h : Al Ys l) (hn : Ys.length ≤ 3) : Nq (zsum Ys) (tP l) (tQ l) (tE l) (1 / 4398046511104) := by
 cases h with
 | nil =>
  have z : Fi 0 := ⟨by decide, by decide⟩
  have r : rv 0 = 0 := Sv.rv_nought (by decide +kernel)
  refine ⟨z, z, ?_, ?_, ?_, ?_, by show (0 : Rat) ≤ 0; grind, Or.inl rfl⟩
  · show Ab (rv 0 - 0) (1 / 4398046511104 * 0); rw [r]; unfold Ab; constructor <;> grind
  · show Ab (rv 0 - 0) (1 / 4398046511104 * 0); rw [r]; unfold Ab; constructor <;> grind
  · show Ab (0 : Rat) 0; unfold Ab; constructor <;> grind
  · show Ab (0 : Rat) 0; unfold Ab; constructor <;> grind
 | cons h1 r1 =>
  rename_i Y x Ys l
  have q1 := nx_nq h1
  have i1 := h1.hi
  cases r1 with
  | nil => exact (q1.mono (by grind)).cong (by show _ = x.1 + 0; grind) (by show _ = x.2 + 0; grind) (by show _ = (ab x.1 + ab x.2) + 0; grind)
  | cons h2 r2 =>
   rename_i Y2 x2 Ys l
   have q2 := nq_step q1 h2 (by grind) (by grind) (by grind)
   have i2 := h2.hi
   cases r2 with
   | nil => exact (q2.mono (by unfold ep9; grind)).cong (by show _ = x.1 + (x2.1 + 0); grind) (by show _ = x.2 + (x2.2 + 0); grind) (by show _ = (ab x.1 + ab x.2) + ((ab x2.1 + ab x2.2) + 0); grind)
   | cons h3 r3 =>
    rename_i Y3 x3 Ys l
    have q3 := nq_step q2 h3 (by unfold ep9; grind) (by unfold ep9; grind) (by grind)
    cases r3 with
    | nil => exact (q3.mono (by unfold ep9; grind)).cong (by show _ = x.1 + (x2.1 + (x3.1 + 0)); grind) (by show _ = x.2 + (x2.2 + (x3.2 + 0)); grind) (by show _ = (ab x.1 + ab x.2) + ((ab x2.1 + ab x2.2) + ((ab x3.1 + ab x3.2) + 0)); grind)
    | cons h4 r4 => simp at hn
/-- the lengths -/
def lng (Y : El.Z) : Nat := Sv.op .add (Fl.rg Y.1) (Fl.rg Y.2)
def mst (Ys : List El.Z) : Nat := Ys.foldl (fun m Y => Sv.op .add m (lng Y)) 0
structure Nm (m : Nat) (S γ : Rat) : Prop where
 f : Fi m
 e : Ab (rv m - S) (γ * S)
 nn : 0 ≤ S
 lo : S = 0 ∨ 1 ≤ 4194304 * S
theorem ab_sub {x y b : Rat} (h : Ab (x - y) b) : Ab (ab x - ab y) b := by
 unfold Ab at *
 unfold ab
 split <;> split <;> constructor <;> grind
theorem lng_near {Y : El.Z} {p q : Rat} (k : Nx Y p q) : Fi (lng Y) ∧ Ab (rv (lng Y) - (ab p + ab q)) (1 / 2199023255552 * (ab p + ab q)) := by
 have np := Sv.ab_nn p
 have nq := Sv.ab_nn q
 obtain ⟨g1, r1⟩ := Sv.rg_rv k.f1
 obtain ⟨g2, r2⟩ := Sv.rg_rv k.f2
 have a1 := ab_sub k.e1
 have a2 := ab_sub k.e2
 rw [← r1] at a1
 rw [← r2] at a2
 have hk := k.hi
 have lo := lo_add (show 0 ≤ ab p + ab q by grind) (show 0 ≤ ab p + ab q by grind) k.lo k.lo
 have aa : ∀ x : Rat, 0 ≤ x → x ≤ ab p + ab q → Ab x (ab p + ab q) := fun x h1 h2 => by unfold Ab; constructor <;> grind
 obtain ⟨f, e⟩ := Sv.add_step g1 g2 (by grind) (by grind) a1 a2 (aa _ np (by grind)) (aa _ nq (by grind)) (by grind) (by grind) lo (by grind)
 refine ⟨f, e.mono ?_⟩
 have h0 : 0 ≤ ab p + ab q := by grind
 unfold ep9
 grind
theorem nm_step {m : Nat} {S γ : Rat} (h : Nm m S γ) {Y : El.Z} {p q : Rat} (k : Nx Y p q) (hγ : 1 / 2199023255552 ≤ γ) (hγ1 : γ ≤ 1 / 1024) (hi : S ≤ 17592186044416) : Nm (Sv.op .add m (lng Y)) (S + (ab p + ab q)) (γ + ep9) := by
 have np := Sv.ab_nn p
 have nq := Sv.ab_nn q
 obtain ⟨f, e⟩ := lng_near k
 have hk := k.hi
 have h0 : 0 ≤ ab p + ab q := by grind
 have lo := lo_add h.nn h0 h.lo k.lo
 have g : 1 / 2199023255552 * (ab p + ab q) ≤ γ * (ab p + ab q) := Rat.mul_le_mul_of_nonneg_right hγ h0
 have aa : ∀ x : Rat, 0 ≤ x → Ab x x := fun x h1 => by unfold Ab; constructor <;> grind
 obtain ⟨f2, e2⟩ := Sv.add_step h.f f (by grind) hγ1 h.e (e.mono g) (aa _ h.nn) (aa _ h0) h.nn h0 lo (by grind)
 exact ⟨f2, e2, by have := h.nn; grind, lo⟩
theorem Nm.mono {m : Nat} {S γ γ' : Rat} (h : Nm m S γ) (k : γ ≤ γ') : Nm m S γ' :=
 have g : γ * S ≤ γ' * S := Rat.mul_le_mul_of_nonneg_right k h.nn
 ⟨h.f, h.e.mono g, h.nn, h.lo⟩
theorem nm_zero : Nm 0 0 (1 / 2199023255552) := by
 have r : rv 0 = 0 := Sv.rv_nought (by decide +kernel)
 refine ⟨⟨by decide, by decide⟩, ?_, by grind, Or.inl rfl⟩
 rw [r]; unfold Ab; constructor <;> grind
theorem nm_mst {Ys : List El.Z} {l : List (Rat × Rat)} (h : Al Ys l) (hn : Ys.length ≤ 3) : Nm (mst Ys) (tE l) (1 / 1099511627776) := by
 have q0 := nm_zero
 cases h with
 | nil => exact q0.mono (by grind)
 | cons h1 r1 =>
  rename_i Y x Ys l
  have q1 := nm_step q0 h1 (by grind) (by grind) (by grind)
  have i1 := h1.hi
  cases r1 with
  | nil => exact (show (0 : Rat) + (ab x.1 + ab x.2) = tE [x] by show _ = (ab x.1 + ab x.2) + 0; grind) ▸ q1.mono (by unfold ep9; grind)
  | cons h2 r2 =>
   rename_i Y2 x2 Ys l
   have q2 := nm_step q1 h2 (by unfold ep9; grind) (by unfold ep9; grind) (by grind)
   have i2 := h2.hi
   cases r2 with
   | nil => exact (show (0 : Rat) + (ab x.1 + ab x.2) + (ab x2.1 + ab x2.2) = tE [x, x2] by show _ = (ab x.1 + ab x.2) + ((ab x2.1 + ab x2.2) + 0); grind) ▸ q2.mono (by unfold ep9; grind)
   | cons h3 r3 =>
    rename_i Y3 x3 Ys l
    have q3 := nm_step q2 h3 (by unfold ep9; grind) (by unfold ep9; grind) (by grind)
    cases r3 with
    | nil => exact (show (0 : Rat) + (ab x.1 + ab x.2) + (ab x2.1 + ab x2.2) + (ab x3.1 + ab x3.2) = tE [x, x2, x3] by show _ = (ab x.1 + ab x.2) + ((ab x2.1 + ab x2.2) + ((ab x3.1 + ab x3.2) + 0)); grind) ▸ q3.mono (by unfold ep9; grind)
    | cons h4 r4 => simp at hn
def C40 : Nat := 4427038433705197568
theorem c40_val : Fi C40 ∧ Fl.val C40 * 1099511627776 = ((2 ^ 1074 : Nat) : Int) := by
 refine ⟨⟨by decide, by decide⟩, by decide +kernel⟩
theorem rv_c40 : rv C40 * 1099511627776 = 1 := by
 have h := c40_val.2
 have hu := Sv.en_unit
 have k : ((Fl.val C40 * 1099511627776 : Int) : Rat) = (((2 ^ 1074 : Nat) : Int) : Rat) := by rw [h]
 rw [Rat.intCast_mul, Rat.intCast_natCast] at k
 unfold Sv.rv
 generalize ((2 ^ 1074 : Nat) : Rat) = W at *
 generalize ((Fl.val C40 : Int) : Rat) = V at *
 have c : ((1099511627776 : Int) : Rat) = 1099511627776 := rfl
 rw [c] at k
 rw [show V * en * 1099511627776 = (V * 1099511627776) * en by grind, k]
 exact hu
/-- one part of the difference is within the limit -/
theorem fin_part {u s m : Nat} {P S : Rat} (hu : Fi u) (eu : Ab (rv u - P) (1 / 4398046511104 * S)) (fs : Fi s) (es : Ab (rv s - P) (1 / 4398046511104 * S)) (hP : Ab P S) (hm : Nm m S (1 / 1099511627776)) (hi : S ≤ 17592186044416) :
  Fi (Sv.op .sub u s) ∧ Fi (Sv.op .mul m C40) ∧ Fl.leF (Fl.rg (Sv.op .sub u s)) (Sv.op .mul m C40) = true := by
 obtain ⟨f, e, z⟩ := Sv.sub_step hu fs (P := P) (S := S) (by grind) (by grind) eu es hm.nn hm.lo (by grind)
 obtain ⟨g, r⟩ := Sv.rg_rv f
 have c := rv_c40
 have fc := c40_val.1
 have es' := Sv.en_small
 have ep := Sv.en_pos
 have hnn := hm.nn
 rcases hm.lo with q | q
 ·
  have vo := z q (by subst q; unfold Ab at hP; grind)
  have vm : Fl.val m = 0 := Sv.val_of_rv (by have := hm.e; subst q; unfold Ab at this; grind)
  obtain ⟨fm, vl⟩ := Sv.mul_nought hm.f fc vm
  refine ⟨f, fm, Sv.leF_rv g fm ?_⟩
  rw [r, Sv.rv_nought vo, Sv.rv_nought vl]
  unfold ab
  grind
 ·
  have hmA := hm.e
  have hcv : rv C40 = 1 / 1099511627776 := by grind
  have mB : Ab (rv m * rv C40) (1 / 1099511627776 * (2 * S)) := by rw [hcv]; unfold Ab at hmA ⊢; constructor <;> grind
  have fm := Sv.mul_fi hm.f fc mB (by grind)
  have em := Sv.mul_err hm.f fc fm mB
  refine ⟨f, fm, Sv.leF_rv g fm ?_⟩
  rw [r]
  have h1 := Sv.ab_le e
  rw [hcv] at em
  unfold Ab at em hmA
  unfold ep9 at h1
  grind
theorem all_nx {cs : List (Py.G × Nat)} {z : Py.G} {β : Py.G} : ∀ (es : List Fe) (Ys : List El.Z), Ys.length = es.length → (∀ (i : Nat) (e : Fe) (Y : El.Z), es[i]? = some e → Ys[i]? = some Y → ∃ p q, Nx Y p q ∧ p * gN β = gP (partv cs z β e) β ∧ q * gN β = gR (partv cs z β e) β) →
  ∃ l, Al Ys l ∧ ∀ g, gP (es.foldl (fun g e => Py.ga g (partv cs z β e)) g) β = gP g β + tP l * gN β ∧ gR (es.foldl (fun g e => Py.ga g (partv cs z β e)) g) β = gR g β + tQ l * gN β
 | [], [], _, _ => ⟨[], .nil, fun g => ⟨by show gP g β = gP g β + 0 * gN β; grind, by show gR g β = gR g β + 0 * gN β; grind⟩⟩
 | [], Y :: Ys, h, _ => by simp at h
 | e :: es, [], h, _ => by simp at h
 | e :: es, Y :: Ys, h, H => by
  obtain ⟨p, q, h1, h2, h3⟩ := H 0 e Y rfl rfl
  obtain ⟨l, a, k⟩ := all_nx es Ys (by simpa using h) (fun i e' Y' he hY => H (i + 1) e' Y' he hY)
  refine ⟨(p, q) :: l, .cons h1 a, fun g => ?_⟩
  obtain ⟨k1, k2⟩ := k (Py.ga g (partv cs z β e))
  simp only [List.foldl_cons]
  rw [k1, k2, gP_ga, gR_ga, ← h2, ← h3]
  constructor
  · show _ = gP g β + (p + tP l) * gN β; grind
  · show _ = gR g β + (q + tQ l) * gN β; grind
theorem al_take {Ys : List El.Z} {l : List (Rat × Rat)} (h : Al Ys l) : ∀ q, Al (Ys.take q) (l.take q) := by
 induction h with
 | nil => intro q; simp only [List.take_nil]; exact .nil
 | cons h1 _ ih =>
  intro q
  cases q with
  | zero => exact .nil
  | succ q => exact .cons h1 (ih q)
theorem al_lng {Ys : List El.Z} {l : List (Rat × Rat)} (h : Al Ys l) : ∀ Y ∈ Ys, Fi (lng Y) := by
 induction h with
 | nil => intro Y hY; simp at hY
 | cons h1 _ ih =>
  intro Y hY
  rcases List.mem_cons.1 hY with rfl | hY
  · exact (lng_near h1).1
  · exact ih Y hY
/-- the end: both parts of the difference are within the limit -/
theorem fin_both {es : List Fe} {Ys : List El.Z} {cs : List (Py.G × Nat)} {z β T : Py.G} {u v sx sy : Nat} (hn : es.length ≤ 3) (hl : Ys.length = es.length) (hβ : β ≠ (0, 0))
  (H : ∀ (i : Nat) (e : Fe) (Y : El.Z), es[i]? = some e → Ys[i]? = some Y → ∃ p q, Nx Y p q ∧ p * gN β = gP (partv cs z β e) β ∧ q * gN β = gR (partv cs z β e) β) (hT : T = sumv cs z β es)
  (hu : Sv.Nr u (gN β) (gP T β) (ab (gP T β) + ab (gR T β))) (hv : Sv.Nr v (gN β) (gR T β) (ab (gP T β) + ab (gR T β))) (hs : (sx, sy) = zsum Ys) :
  (Fi (Sv.op .sub u sx) ∧ Fi (Sv.op .mul (mst Ys) C40) ∧ Fl.leF (Fl.rg (Sv.op .sub u sx)) (Sv.op .mul (mst Ys) C40) = true) ∧ (Fi (Sv.op .sub v sy) ∧ Fi (Sv.op .mul (mst Ys) C40) ∧ Fl.leF (Fl.rg (Sv.op .sub v sy)) (Sv.op .mul (mst Ys) C40) = true) := by
 obtain ⟨l, a, k⟩ := all_nx es Ys hl H
 obtain ⟨k1, k2⟩ := k (0, 0)
 have hN1 := gN_one hβ
 have hN : 0 < gN β := by grind
 have g0 : gP (0, 0) β = 0 ∧ gR (0, 0) β = 0 := by
  unfold gP gR
  have c : ((0 : Int) : Rat) = 0 := rfl
  simp only [c]
  constructor <;> grind
 have eP : gP T β = tP l * gN β := by rw [hT]; unfold sumv; rw [k1, g0.1]; grind
 have eR : gR T β = tQ l * gN β := by rw [hT]; unfold sumv; rw [k2, g0.2]; grind
 have q := nq_sum a (by omega)
 have m := nm_mst a (by omega)
 rw [← hs] at q
 have hu' := div_ab hN hu.2
 have hv' := div_ab hN hv.2
 have hi : 0 < (gN β)⁻¹ := Rat.inv_pos.2 hN
 have hun : gN β * (gN β)⁻¹ = 1 := Rat.mul_inv_cancel _ (by grind)
 have c1 : ∀ x : Rat, x * gN β / gN β = x := fun x => by rw [Rat.div_def, Rat.mul_assoc, hun]; grind
 have abm : ∀ x : Rat, ab (x * gN β) = ab x * gN β := fun x => by
  by_cases z : 0 ≤ x
  ·
   have : 0 ≤ x * gN β := Rat.mul_nonneg z (Rat.le_of_lt hN)
   unfold ab
   rw [if_pos z, if_pos this]
  ·
   have : 0 < (-x) * gN β := Rat.mul_pos (by grind) hN
   unfold ab
   rw [if_neg z, if_neg (by grind)]
   grind
 have bnd : 48 * uu * (ab (gP T β) + ab (gR T β)) / gN β ≤ 1 / 4398046511104 * tE l := by
  rw [eP, eR, abm, abm, show 48 * uu * (ab (tP l) * gN β + ab (tQ l) * gN β) = (48 * uu * (ab (tP l) + ab (tQ l))) * gN β by grind, c1]
  have n1 := Sv.ab_le q.aP
  have n2 := Sv.ab_le q.aQ
  have n3 := q.nn
  unfold uu
  grind
 have hiS : tE l ≤ 17592186044416 := by
  cases a with
  | nil => show (0 : Rat) ≤ _; grind
  | cons h1 r1 =>
   have i1 := h1.hi
   cases r1 with
   | nil => show _ + (0 : Rat) ≤ _; grind
   | cons h2 r2 =>
    have i2 := h2.hi
    cases r2 with
    | nil => show _ + (_ + (0 : Rat)) ≤ _; grind
    | cons h3 r3 =>
     have i3 := h3.hi
     cases r3 with
     | nil => show _ + (_ + (_ + (0 : Rat))) ≤ _; grind
     | cons h4 r4 => simp at hl; omega
 have fu : Ab (rv u - tP l) (1 / 4398046511104 * tE l) := by
  have h := hu'
  rw [show gP T β / gN β = tP l by rw [eP, c1]] at h
  exact h.mono bnd
 have fv : Ab (rv v - tQ l) (1 / 4398046511104 * tE l) := by
  have h := hv'
  rw [show gR T β / gN β = tQ l by rw [eR, c1]] at h
  exact h.mono bnd
 exact ⟨fin_part hu.1 fu q.f1 q.e1 q.aP m hiS, fin_part hv.1 fv q.f2 q.e2 q.aQ m hiS⟩
end Go.Proofs.YtjpllggchjgjpaaGreat.Ff

/-
 OWN TEXT: eddylaw16's small; lists of elements that grow.
-/
namespace Go.Proofs.YtjpllggchjgjpaaGreat
open Go.ChangeShapes Go.WideShapes Go.ChangeAt Go.RowKit
set_option linter.unusedVariables false
set_option linter.unusedSimpArgs false
attribute [local go_sem] frombits_call tobits_call run_neg run_store_cx El.run_store_fl
theorem alive16_ev (w : World) : Calls Tryz.prog 18 #[] w fun e w' => e = .returned (.bool true) ∧ Bw w w' :=
 xevaluated exF_ok plainX mixedX (by decide) kpF hsF 100000 40 (args := []) (v := .bool true) rfl rfl (by decide +kernel) w (fun g l h => by cases h) (fun g l h => by cases h)
theorem small16 (n m : Int) (hm : m = 1 ∨ m = 2 ∨ m = 4 ∨ m = 8) : ∃ j : Int, j.natAbs ≤ m.natAbs ∧ ∀ w, Calls Tryz.prog 20 #[.int .i64 n, .int .i64 m] w fun e w' => e = .returned (.float .f64 (floatOfInt .f64 j)) ∧ w' = w := by
 have hb : ∀ k : Int, 0 < k → -k < n.tmod k ∧ n.tmod k < k := fun k hk => ⟨Int.lt_tmod_of_pos n hk, Int.tmod_lt_of_pos n hk⟩
 rcases hm with rfl | rfl | rfl | rfl
 ·
  refine ⟨n.tmod 2, by have := hb 2 (by decide); omega, fun w => ?_⟩
  go_enter Tryz.func20, Tryz.ntmps20
  go_wp2
  go_ret
  exact ⟨rfl, rfl⟩
 ·
  refine ⟨n.tmod 3, by have := hb 3 (by decide); omega, fun w => ?_⟩
  go_enter Tryz.func20, Tryz.ntmps20
  go_wp2
  go_ret
  exact ⟨rfl, rfl⟩
 ·
  refine ⟨n.tmod 5, by have := hb 5 (by decide); omega, fun w => ?_⟩
  go_enter Tryz.func20, Tryz.ntmps20
  go_wp2
  go_ret
  exact ⟨rfl, rfl⟩
 ·
  refine ⟨n.tmod 9, by have := hb 9 (by decide); omega, fun w => ?_⟩
  go_enter Tryz.func20, Tryz.ntmps20
  go_wp2
  go_ret
  exact ⟨rfl, rfl⟩
namespace Ff
/-- a power: 1 and the number without its sign -/
theorem pow_tab : ∀ j : Fin 5, floatBits .add .f64 4607182418800017408 (Fl.rg (floatOfInt .f64 ((j.val : Int) - 2))) = some (pw (1 + ((j.val : Int) - 2).natAbs)) := by decide +kernel
theorem pow_of {j : Int} (h : j.natAbs ≤ 2) : floatBits .add .f64 4607182418800017408 (Fl.rg (floatOfInt .f64 j)) = some (pw (1 + j.natAbs)) := by
 have k := pow_tab ⟨(j + 2).toNat, by omega⟩
 simp only [show ((j + 2).toNat : Int) - 2 = j by omega] at k
 exact k
def Ix (w : World) (a : Option Addr) (len : Nat) : Prop := len = 0 ∨ ∃ b off, a = some ⟨b, off, none⟩ ∧ b < w.heap.size ∧ ∀ j, j < len → ∃ z, w.cell? ⟨b, off + j, none⟩ = some (.int .i64 z)
theorem Ix.bw {w w' : World} {a : Option Addr} {len : Nat} (h : Ix w a len) (k : Bw w w') : Ix w' a len := by
 rcases h with h | ⟨b, o, e, hb, h⟩
 · exact Or.inl h
 ·
  refine Or.inr ⟨b, o, e, Nat.lt_of_lt_of_le hb k.size, fun j hj => ?_⟩
  obtain ⟨z, q⟩ := h j hj
  exact ⟨z, (Below.cell k (p := ⟨b, o + j, none⟩) hb).trans q⟩
/-- the cells of elements -/
def ec (e : Fe) : List Value := [.int .u8 e.k, .complex .f64 e.a e.b, .complex .f64 e.s e.t, .float .f64 (pw e.n)]
def ecs (es : List Fe) : List Value := es.flatMap ec
theorem ecs_snoc (es : List Fe) (e : Fe) : ecs (es ++ [e]) = ecs es ++ ec e := by simp [ecs]
theorem ecs_get : ∀ (es : List Fe) (i : Nat) (e : Fe) (j : Nat), es[i]? = some e → j < 4 → (ecs es)[i * 4 + j]? = (ec e)[j]?
 | [], i, e, j, h, _ => by simp at h
 | x :: es, 0, e, j, h, hj => by
  simp at h
  subst h
  have h : ecs (x :: es) = ec x ++ ecs es := by simp [ecs]
  rw [h, Nat.zero_mul, Nat.zero_add, List.getElem?_append_left (by show j < 4; exact hj)]
 | x :: es, i + 1, e, j, h, hj => by
  have h2 : ecs (x :: es) = ec x ++ ecs es := by simp [ecs]
  have k := ecs_get es i e j (by simpa using h) hj
  rw [h2, List.getElem?_append_right (by show 4 ≤ _; omega)]
  rw [show (i + 1) * 4 + j - (ec x).length = i * 4 + j by show (i + 1) * 4 + j - 4 = _; omega]
  exact k
theorem info_e : (Tryz.prog.info? 29).map (fun i => (i.zero.map Value.cells, i.size, i.bytes)) = some (some #[.int .u8 0, .complex .f64 0 0, .complex .f64 0 0, .float .f64 0], 4, 48) := by kernel_rfl
theorem und_e : Tryz.prog.underlying 22 = some (.slice 29) := by kernel_rfl
/-- one more element -/
theorem pushE {w : World} {base n D : Nat} {v : Value} {es : List Fe} {e : Fe} (ty : TypeId) (ho : w.ownsRow base 29 4 v n (ecs es)) (h0 : w.cell? ⟨D, 0, none⟩ = some (.int .u8 e.k)) (h1 : w.cell? ⟨D, 1, none⟩ = some (.complex .f64 e.a e.b)) (h2 : w.cell? ⟨D, 2, none⟩ = some (.complex .f64 e.s e.t)) (h3 : w.cell? ⟨D, 3, none⟩ = some (.float .f64 (pw e.n))) (hn : n ≤ 1000) (hb : base ≤ w.heap.size) :
  ∃ v' w', (Builtin.append_ #[22, 22] ty #[v, .slice (some ⟨D, 0, none⟩) 1 1]).run Tryz.prog w = .ok v' w' ∧ w'.ownsRow base 29 4 v' (n + 1) (ecs (es ++ [e])) ∧ w.grownBy w' v.ownBlock ∧ (v'.ownBlock = v.ownBlock ∨ v'.ownBlock = some w.heap.size) := by
 obtain ⟨i0, hi0, hz⟩ := Option.map_eq_some_iff.1 info_e
 simp only [Prod.mk.injEq] at hz
 obtain ⟨z, hz0, hzc⟩ := Option.map_eq_some_iff.1 hz.1
 obtain ⟨v', w', k1, k2, k3, _, k5⟩ := run_append_own_at (P := Tryz.prog) w base 22 ty 29 i0 z 4 48 und_e hi0 hz0 hz.2.1 hz.2.2 (by rw [hzc]; rfl) (by decide) v n (ecs es) ho ⟨D, 0, none⟩ 1 1 (ec e) rfl
  (fun j u hu => by
   rw [show (⟨D, 0, none⟩ : Addr).add j = ⟨D, j, none⟩ by cases j <;> simp [Addr.add]]
   match j, hu with
   | 0, hu => cases hu; exact h0
   | 1, hu => cases hu; exact h1
   | 2, hu => cases hu; exact h2
   | 3, hu => cases hu; exact h3) (fun u hu => by
   simp only [ec, List.mem_cons, List.not_mem_nil, or_false] at hu
   rcases hu with rfl | rfl | rfl | rfl <;> rfl) (by unfold maxLen; omega) (by omega) hb
 rw [← ecs_snoc] at k2
 exact ⟨v', w', k1, k2, k3, k5⟩
theorem own_es {w : World} {base n : Nat} {v : Value} {es : List Fe} (ho : w.ownsRow base 29 4 v n (ecs es)) (hn : es.length = n) : ∃ a cap, v = .slice a n cap ∧ Es w a es := by
 rcases Nat.eq_zero_or_pos n with h | h
 ·
  rcases ho.2 with ⟨e, z⟩ | ⟨g, cap, _, e, _⟩
  · exact ⟨none, 0, by rw [e, z], Or.inl (by omega)⟩
  · exact ⟨_, cap, e, Or.inl (by omega)⟩
 ·
  obtain ⟨g, cap, e, hb, hlt⟩ := ho.form h
  subst e
  refine ⟨_, cap, rfl, Or.inr ⟨g, 0, rfl, hlt, fun i e he => ?_⟩⟩
  have hi : i < es.length := by
   rcases Nat.lt_or_ge i es.length with q | q
   · exact q
   · rw [List.getElem?_eq_none q] at he; cases he
  have k := fun j (hj : j < 4) => (ho.cellAt (i * 4 + j) (by omega)).trans (ecs_get es i e j he hj)
  rw [Nat.zero_add]
  exact ⟨k 0 (by decide), k 1 (by decide), k 2 (by decide), k 3 (by decide)⟩
end Ff
end Go.Proofs.YtjpllggchjgjpaaGreat

