/-
 OWN TEXT: the law FlowFraction: what is known of its elements ahead of the calls.
-/
import Derived.Test.YtjpllggchjgjpaaGreatJFfYToFfZ
namespace Go.Proofs.YtjpllggchjgjpaaGreat
open Go.ChangeShapes Go.WideShapes Go.ChangeAt Go.RowKit
set_option linter.unusedVariables false
namespace Ff
open Sv (Fi)
theorem cst_len (cs : List (Py.G × Nat)) (e : Fe) : (cst cs e).length ≤ cs.length + (if e.k = 3 then 1 else 0) := by
 unfold cst
 split
 · exact tk_len _ _ _
 · omega
theorem cm_cnt (es : List Fe) : (cm es).length ≤ (es.filter fun e => e.k = 3).length := by
 unfold cm
 suffices H : ∀ (es : List Fe) (cs : List (Py.G × Nat)), (es.foldl cst cs).length ≤ cs.length + (es.filter fun e => e.k = 3).length by simpa using H es []
 intro es
 induction es with
 | nil => intro cs; simp
 | cons e es ih =>
  intro cs
  rw [List.foldl_cons]
  have h1 := ih (cst cs e)
  have h2 := cst_len cs e
  rw [List.filter_cons]
  by_cases q : e.k = 3
  ·
   rw [if_pos q] at h2
   rw [if_pos (by simpa using q), List.length_cons]
   omega
  ·
   rw [if_neg q] at h2
   rw [if_neg (by simpa using q)]
   omega
theorem bnd_of {es : List Fe} (hn : es.length ≤ 3) (ho : ∀ e ∈ es, e.ok 1074) : ∃ N A, Bnd (rl (cm es)).length N A es ∧ hr (3 * A) 6 N ≤ 9007199254740992 ∧ hr (7 ^ (rl (cm es)).length) 6 (rl (cm es)).length ≤ 9007199254740992 := by
 have h1 := cm_all ho
 have h2 := rl_len (cm es) 3 (fun p hp => (h1.2 p hp).2)
 have hM : ∀ m, m ≤ 9 → hr (7 ^ m) 6 m ≤ 9007199254740992 := fun m hm => by
  refine Nat.le_trans (hr_mono (by decide) hm) (Nat.le_trans (hr_mul (pow7 hm) 9) (by decide +kernel))
 by_cases q : ∀ e ∈ es, e.k = 3
 · exact ⟨7, 19765032, Or.inr ⟨by omega, rfl, rfl, q⟩, by decide +kernel, hM _ (by omega)⟩
 ·
  have h3 : (es.filter fun e => e.k = 3).length ≤ 2 := by
   have hlt : (es.filter fun e => e.k = 3).length < es.length := by
    rw [List.length_filter_lt_length_iff_exists]
    obtain ⟨e, hq⟩ := Classical.not_forall.1 q
    obtain ⟨he, hk⟩ := Classical.not_imp.1 hq
    exact ⟨e, he, by simpa using hk⟩
   omega
  have h4 := cm_cnt es
  exact ⟨8, 622598508, Or.inl ⟨by omega, rfl, rfl⟩, by decide +kernel, hM _ (by omega)⟩
theorem nx_fin {Y : El.Z} {p q : Rat} (h : Nx Y p q) : El.fin Y = true := by
 unfold El.fin
 rw [h.f1.fin, h.f2.fin]
 rfl
/-- the speeds, and what they are near to -/
theorem spd_all {zx zy : Nat} {z : Py.G} (hx : El.wP zx z.1) (hy : El.wP zy z.2) (hz : z.1.natAbs ≤ 4 ∧ z.2.natAbs ≤ 4) (cs : List (Py.G × Nat)) : ∀ (es : List Fe), (∀ e ∈ es, e.ok 1074) → (∀ e ∈ es, e.k = 3 → e.at_ ≠ z) → (∀ e ∈ es, e.k = 3 → Held cs e.at_ (e.n + 1)) →
  ∃ Ys, Spd zx zy es Ys ∧ ∀ (i : Nat) (e : Fe) (Y : El.Z), es[i]? = some e → Ys[i]? = some Y → ∃ p q, Nx Y p q ∧ p * gN (prd (rl cs) z) = gP (partv cs z (prd (rl cs) z) e) (prd (rl cs) z) ∧ q * gN (prd (rl cs) z) = gR (partv cs z (prd (rl cs) z) e) (prd (rl cs) z)
 | [], _, _, _ => ⟨[], ⟨rfl, fun i e Y h => by simp at h⟩, fun i e Y h => by simp at h⟩
 | e :: es, ho, hne, hh => by
  obtain ⟨Ys, h1, h2⟩ := spd_all hx hy hz cs es (fun x hm => ho x (by simp [hm])) (fun x hm => hne x (by simp [hm])) (fun x hm => hh x (by simp [hm]))
  obtain ⟨Y, s1, s2⟩ := espeed16 (ho e (by simp)) hx hy hz
  obtain ⟨p, q, n1, n2, n3⟩ := sp_nx (ho e (by simp)) hz s1 (hne e (by simp)) (hh e (by simp))
  have hf := nx_fin n1
  have hc := fin_num hf n1.f1.1 n1.f2.1
  refine ⟨Y :: Ys, ⟨by simp [h1.1], fun i e' Y' he hY => ?_⟩, fun i e' Y' he hY => ?_⟩
  ·
   cases i with
   | zero =>
    simp at he hY
    subst he hY
    refine ⟨hc, fun w => (s2 w).mono fun r w' k => ?_⟩
    obtain ⟨u, v, er, rfl, k1, k2, k3⟩ := k
    unfold El.tz at k1
    unfold El.te at k2
    rw [if_pos hf] at k1 k2
    obtain ⟨rfl, rfl⟩ := fin_eq hf k1
    rw [k2]
    exact ⟨rfl, k3⟩
   | succ i => exact h1.2 i e' Y' (by simpa using he) (by simpa using hY)
  ·
   cases i with
   | zero =>
    simp at he hY
    subst he hY
    exact ⟨p, q, n1, n2, n3⟩
   | succ i => exact h2 i e' Y' (by simpa using he) (by simpa using hY)
/-- all that the law's last lines ask -/
theorem ready16 {zx zy : Nat} {z : Py.G} {es : List Fe} (hx : El.wP zx z.1) (hy : El.wP zy z.2) (hz : z.1.natAbs ≤ 4 ∧ z.2.natAbs ≤ 4) (hn : es.length ≤ 3) (ho : ∀ e ∈ es, e.ok 1074) (hne : ∀ e ∈ es, e.k = 3 → e.at_ ≠ z) :
  ∃ Ys N A, Spd zx zy es Ys ∧ Bnd (rl (cm es)).length N A es ∧ hr (3 * A) 6 N ≤ 9007199254740992 ∧ hr (7 ^ (rl (cm es)).length) 6 (rl (cm es)).length ≤ 9007199254740992 ∧ El.fin (zsum Ys) = true ∧ (∀ Y ∈ Ys, Y.1 < 18446744073709551616 ∧ Y.2 < 18446744073709551616) ∧ prd (rl (cm es)) z ≠ (0, 0) ∧
   (∀ T : Py.G, Py.Le T 9007199254740992 → Py.Le (prd (rl (cm es)) z) 9007199254740992 → ∀ a b : El.Z, El.zW a T → El.zW b (prd (rl (cm es)) z) → El.fin (El.zdiv a b) = true) ∧
   (∀ (a b : El.Z) (u v sx sy : Nat), Py.Le (sumv (cm es) z (prd (rl (cm es)) z) es) 9007199254740992 → Py.Le (prd (rl (cm es)) z) 9007199254740992 → El.zW a (sumv (cm es) z (prd (rl (cm es)) z) es) → El.zW b (prd (rl (cm es)) z) → El.c2 u v = El.zdiv a b → El.c2 sx sy = zsum Ys →
    (Fi (Sv.op .sub u sx) ∧ Fi (Sv.op .mul (mst Ys) C40) ∧ Fl.leF (Fl.rg (Sv.op .sub u sx)) (Sv.op .mul (mst Ys) C40) = true) ∧ (Fi (Sv.op .sub v sy) ∧ Fi (Sv.op .mul (mst Ys) C40) ∧ Fl.leF (Fl.rg (Sv.op .sub v sy)) (Sv.op .mul (mst Ys) C40) = true)) ∧
   (∀ Y ∈ Ys, Fi (lng Y)) ∧ ∀ q, Fi (mst (Ys.take q)) := by
 obtain ⟨N, A, b1, b2, b3⟩ := bnd_of hn ho
 obtain ⟨Ys, s1, s2⟩ := spd_all hx hy hz (cm es) es ho hne (fun e he hk => held_cm he hk)
 have hβ := cm_ne hne
 obtain ⟨l, al, _⟩ := all_nx es Ys s1.1 s2
 have nq := nq_sum al (by have := s1.1; omega)
 have hfin : El.fin (zsum Ys) = true := by
  unfold El.fin
  rw [nq.f1.fin, nq.f2.fin]
  rfl
 refine ⟨Ys, N, A, s1, b1, b2, b3, hfin, ?_, hβ, ?_, ?_, al_lng al, fun q => (nm_mst (al_take al q) (by rw [List.length_take]; have := s1.1; omega)).f⟩
 ·
  intro Y hY
  obtain ⟨i, hi, rfl⟩ := List.getElem_of_mem hY
  have hi2 : i < es.length := by have := s1.1; omega
  obtain ⟨p, q, n1, _⟩ := s2 i es[i] Ys[i] (by simp [hi2]) (by simp [hi])
  exact ⟨n1.f1.1, n1.f2.1⟩
 ·
  intro T lT lβ a b ha hb
  have k := Sv.zdiv_near ha hb hβ lT.one.1 lT.one.2 lβ.one.1 lβ.one.2
  unfold El.fin
  rw [k.1.1.fin, k.2.1.fin]
  rfl
 ·
  intro a b u v sx sy lT lβ ha hb huv hs
  have k := Sv.zdiv_near ha hb hβ lT.one.1 lT.one.2 lβ.one.1 lβ.one.2
  have hf : El.fin (El.zdiv a b) = true := by
   unfold El.fin
   rw [k.1.1.fin, k.2.1.fin]
   rfl
  obtain ⟨rfl, rfl⟩ := fin_eq hf huv
  obtain ⟨e1, e2⟩ := fin_eq hfin hs
  exact fin_both (sx := sx) (sy := sy) hn s1.1 hβ s2 rfl k.1 k.2 (Prod.ext e1 e2)
end Ff
end Go.Proofs.YtjpllggchjgjpaaGreat

/-
 OWN TEXT: the law FlowFraction: its last lines' operations.
-/
namespace Go.Proofs.YtjpllggchjgjpaaGreat
open Go.ChangeShapes Go.WideShapes Go.ChangeAt Go.RowKit
set_option linter.unusedVariables false
namespace Ff
open Sv (Fi)
/-- an operation whose answer is finite draws nothing -/
theorem fb_fin {o : BinOp} {a b : Nat} (h : Fi (Sv.op o a b)) : floatBits o .f64 a b = some (Sv.op o a b) := by
 have h2 := h.2
 unfold Sv.op at h2 ⊢
 split
 ·
  rename_i z hz
  simp only [hz] at h2
  by_cases n : Fl.nan z = true
  ·
   rw [Sv.c_nan n] at h2
   exact absurd h2 (by decide)
  · rw [Sv.c_num (Bool.eq_false_iff.2 n)]; exact hz
 ·
  rename_i hz
  simp only [hz] at h2
  exact absurd h2 (by decide)
theorem mst_succ {Ys : List El.Z} {q : Nat} {Y : El.Z} (h : Ys[q]? = some Y) : mst (Ys.take (q + 1)) = Sv.op .add (mst (Ys.take q)) (lng Y) := by
 unfold mst
 rw [List.take_add_one, h, List.foldl_append]
 rfl
theorem le6 {a b : Int} (h : a.natAbs ≤ 4 ∧ b.natAbs ≤ 4) : Py.Le (a, b) 6 := by
 have h1 := Nat.mul_le_mul h.1 h.1
 have h2 := Nat.mul_le_mul h.2 h.2
 unfold Py.Le
 show a * a + b * b ≤ ((6 : Nat) : Int) * (6 : Nat)
 rw [← Int.natAbs_mul_self (a := a), ← Int.natAbs_mul_self (a := b)]
 omega
/-- the words and operations of the law's last lines -/
theorem ready17 {zx zy : Nat} {z : Py.G} {es : List Fe} (hx : El.wP zx z.1) (hy : El.wP zy z.2) (hz : z.1.natAbs ≤ 4 ∧ z.2.natAbs ≤ 4) (hn : es.length ≤ 3) (ho : ∀ e ∈ es, e.ok 1074) (hne : ∀ e ∈ es, e.k = 3 → e.at_ ≠ z) :
  ∃ Ys N A, Spd zx zy es Ys ∧ Bnd (rl (cm es)).length N A es ∧ hr (3 * A) 6 N ≤ 9007199254740992 ∧ hr (7 ^ (rl (cm es)).length) 6 (rl (cm es)).length ≤ 9007199254740992 ∧ El.fin (zsum Ys) = true ∧ (∀ Y ∈ Ys, Y.1 < 18446744073709551616 ∧ Y.2 < 18446744073709551616) ∧ prd (rl (cm es)) z ≠ (0, 0) ∧
   (∀ T : Py.G, Py.Le T 9007199254740992 → Py.Le (prd (rl (cm es)) z) 9007199254740992 → ∀ a b : El.Z, El.zW a T → El.zW b (prd (rl (cm es)) z) → El.fin (El.zdiv a b) = true) ∧
   (∀ (a b : El.Z) (u v sx sy : Nat), Py.Le (sumv (cm es) z (prd (rl (cm es)) z) es) 9007199254740992 → Py.Le (prd (rl (cm es)) z) 9007199254740992 → El.zW a (sumv (cm es) z (prd (rl (cm es)) z) es) → El.zW b (prd (rl (cm es)) z) → El.c2 u v = El.zdiv a b → El.c2 sx sy = zsum Ys →
    ∃ du dv mm, (∀ t w, (binOp .sub t (.complex .f64 u v) (.complex .f64 sx sy)).run Tryz.prog w = .ok (.complex .f64 du dv) w) ∧ (∀ t w, (binOp .mul t (.float .f64 (mst Ys)) (.float .f64 4427038433705197568)).run Tryz.prog w = .ok (.float .f64 mm) w) ∧ du < 18446744073709551616 ∧ dv < 18446744073709551616 ∧ Fl.leF (Fl.rg du) mm = true ∧ Fl.leF (Fl.rg dv) mm = true) ∧
   (∀ Y ∈ Ys, ∀ t w, (binOp .add t (.float .f64 (Fl.rg Y.1)) (.float .f64 (Fl.rg Y.2))).run Tryz.prog w = .ok (.float .f64 (lng Y)) w) ∧
   (∀ q Y, Ys[q]? = some Y → ∀ t w, (binOp .add t (.float .f64 (mst (Ys.take q))) (.float .f64 (lng Y))).run Tryz.prog w = .ok (.float .f64 (mst (Ys.take (q + 1)))) w) := by
 obtain ⟨Ys, N, A, r1, r2, r3, r4, r5, r6, r7, r8, r9, r10, r11⟩ := ready16 hx hy hz hn ho hne
 refine ⟨Ys, N, A, r1, r2, r3, r4, r5, r6, r7, r8, ?_, ?_, ?_⟩
 ·
  intro a b u v sx sy h1 h2 h3 h4 h5 h6
  obtain ⟨⟨f1, fm, l1⟩, f2, _, l2⟩ := r9 a b u v sx sy h1 h2 h3 h4 h5 h6
  exact ⟨_, _, _, fun t w => csum_run (Or.inr rfl) (El.ar (fb_fin f1) · w) (El.ar (fb_fin f2) · w) t, El.ar (fb_fin fm), f1.1, f2.1, l1, l2⟩
 ·
  intro Y hY
  exact El.ar (fb_fin (r10 Y hY))
 ·
  intro q Y hY
  have h := r11 (q + 1)
  rw [mst_succ hY] at h ⊢
  exact El.ar (fb_fin h)
end Ff
end Go.Proofs.YtjpllggchjgjpaaGreat

