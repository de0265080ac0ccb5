/-
 OWN TEXT: package flow over whole complex numbers: polynomials by their value at a place; a product of so many times the polynomial of some zeros.
-/
import Derived.Test.YtjpllggchjgjpaaGreatJFfAToFfC
import Derived.Test.YtjpllggchjgjpaaGreatJRaAToRaB
import Derived.Test.YtjpllggchjgjpaaGreatJPyHToPyP
namespace Go.Proofs.YtjpllggchjgjpaaGreat
open Go.ChangeShapes Go.WideShapes Go.ChangeAt Go.RowKit
set_option linter.unusedVariables false
attribute [local go_sem] frombits_call tobits_call run_neg run_store_cx
namespace Ff
/-- a polynomial of degree at most N, coefficients at most A, worth g at z -/
def Pv (c : Nat) (w : World) (z : Py.G) (v : Value) (N A : Nat) (g : Py.G) : Prop := ∃ B o m cap l, v = .slice (some ⟨B, o, none⟩) (m + 1) cap ∧ May m l ∧ m ≤ N ∧ Gl c w B o l ∧ (∀ i, Py.Le (Py.co l i) A) ∧ Py.ev l z = g
theorem Pv.bw {c : Nat} {w w' : World} {z : Py.G} {v : Value} {N A : Nat} {g : Py.G} (h : Pv c w z v N A g) (k : Bw w w') : Pv c w' z v N A g := by
 obtain ⟨B, o, m, cap, l, e, h1, h2, h3, h4⟩ := h
 exact ⟨B, o, m, cap, l, e, h1, h2, h3.bw k, h4⟩
theorem Pv.mono {c : Nat} {w : World} {z : Py.G} {v : Value} {N A N' A' : Nat} {g : Py.G} (h : Pv c w z v N A g) (hN : N ≤ N') (hA : A ≤ A') : Pv c w z v N' A' g := by
 obtain ⟨B, o, m, cap, l, e, h1, h2, h3, h4, h5⟩ := h
 exact ⟨B, o, m, cap, l, e, h1, by omega, h3, fun i => (h4 i).mono hA, h5⟩
theorem Pv.form {c : Nat} {w : World} {z : Py.G} {v : Value} {N A : Nat} {g : Py.G} (h : Pv c w z v N A g) : ∃ a n cap, v = .slice a n cap := by
 obtain ⟨B, o, m, cap, l, e, _⟩ := h
 exact ⟨_, _, _, e⟩
/-- the product of the differences -/
def prd (zs : List Py.G) (z : Py.G) : Py.G := zs.foldl (fun a y => Py.gm a (Py.gs z y)) (1, 0)
theorem ev_ofl (z : Py.G) : ∀ (zs p : List Py.G), Py.ev (Py.ofl p zs) z = zs.foldl (fun a y => Py.gm a (Py.gs z y)) (Py.ev p z)
 | [], p => rfl
 | y :: zs, p => by
  show Py.ev (Py.ofl (Py.wz p y) zs) z = _
  rw [ev_ofl z zs, Py.ev_wz]
  rfl
theorem ev_one (z : Py.G) : Py.ev [(1, 0)] z = (1, 0) := by
 show Py.ga (Py.gm (0, 0) z) (1, 0) = (1, 0)
 rw [Py.nought_gm, Py.nought_ga]
theorem ev_c (s z : Py.G) : Py.ev [s] z = s := by
 show Py.ga (Py.gm (0, 0) z) s = s
 rw [Py.nought_gm, Py.nought_ga]
theorem co_c (s : Py.G) (S i : Nat) (h : Py.Le s S) : Py.Le (Py.co [s] i) S := by
 cases i with
 | zero => exact h
 | succ i => exact Py.Le.nought _
theorem may_c (s : Py.G) (h : Py.Le s 1099511627776) : May 0 [s] := ⟨rfl, by omega, Or.inl rfl, fun i _ => co_c s _ i h⟩
end Ff
theorem places16e (a : Option Addr) (cap : Nat) (w : World) : Calls Tryz.prog 85 #[.slice a 0 cap] w fun e w' => e = .returned (.bool true) ∧ Bw w w' := by
 go_enter Tryz.func85, Tryz.ntmps85
 go_wp2
 go_loopw [7] (fun i wr => i = .int .i64 0 ∧ Bw w wr) (fun i _ => 0)
 case atStart => exact ⟨rfl, Bw.refl _⟩
 case round =>
  obtain ⟨rfl, hbw⟩ := hrel
  go_wp2
  go_ret
  exact ⟨rfl, hbw⟩
set_option maxHeartbeats 4000000 in
theorem of16e {c : Nat} (hc : c = 1074) (a : Option Addr) (cap : Nat) (w : World) : Calls Tryz.prog 62 #[.slice a 0 cap] w fun e w' => Ans c w w' e 1 (Py.co [(1, 0)]) := by
 have C := hide (fun w => places16e a cap w)
 have HC := hide hc
 clear hc
 go_enter Tryz.func62, Tryz.ntmps62
 go_wp2_with fail
 refine (C.out _).mono ?_
 rintro e' w1 ⟨rfl, b1⟩
 clear C
 go_wp2
 go_wp2
 have G0 : Hid (Gl c (w1.alloc (.cells #[.complex .f64 4607182418800017408 0] 26)) w1.heap.size 0 [(1, 0)]) := by
  refine ⟨by simp, fun i hi => ?_⟩
  match i, hi with
  | 0, _ => exact ⟨4607182418800017408, 0, by simp, wC.one HC.out⟩
 have hB : w.heap.size ≤ w1.heap.size := Below.size b1
 have b2 := bw_trans b1 (bw_alloc w1 (.cells #[.complex .f64 4607182418800017408 0] 26))
 generalize w1.alloc (.cells #[.complex .f64 4607182418800017408 0] 26) = W at *
 generalize w1.heap.size = B0 at *
 go_loopw [4, 16] (fun p q wr => q = .int .i64 0 ∧ p = .slice (some ⟨B0, 0, none⟩) 1 1 ∧ wr = W) (fun _ q _ => 0)
 case atStart => exact ⟨rfl, rfl, rfl⟩
 case round =>
  obtain ⟨rfl, rfl, rfl⟩ := hrel
  have H2 : Hid (∀ i, Py.Le (Py.co [(1, 0)] i) 1099511627776) := fun i => one_le i _ (by decide)
  go_wp2_with fail
  refine (answered8 HC.out 1 (l := [(1, 0)]) rfl (by omega) (by omega) (Nat.le_refl _) G0.out H2.out).mono ?_
  rintro e' w3 ⟨rfl, b3⟩
  have AA := hide (Ans.of (n := 1) (l := [(1, 0)]) rfl (by omega) (by omega) (G0.out.bw b3) hB (bw_trans b2 b3) H2.out)
  clear H2
  generalize Py.tl [(1, 0)] 1 = tt at *
  go_wp2
  go_ret2
  exact AA.out
theorem pof16 {c : Nat} (hc : c = 1074) {w : World} {a : Option Addr} {cap m Z : Nat} {zs : List Py.G} (z : Py.G) (hn : zs.length = m) (h64 : m ≤ 64) (h : Ff.Pl c w a zs) (hz : ∀ i, Py.Le (Py.co zs i) Z) (hZ : Z ≤ 1099511627776) (hA : (Z + 1) ^ m ≤ 1099511627776) :
  Calls Tryz.prog 62 #[.slice a m cap] w fun e w' => ∃ u, e = .returned (.tuple #[u, .int .i64 0]) ∧ Ff.Pv c w' z u m ((Z + 1) ^ m) (Ff.prd zs z) ∧ Bw w w' ∧ ∀ g, u.ownBlock = some g → w.heap.size ≤ g := by
 have fin : ∀ e w', Ans c w w' e (m + 1) (Py.co (Py.ofl [(1, 0)] zs)) → ∃ u, e = .returned (.tuple #[u, .int .i64 0]) ∧ Ff.Pv c w' z u m ((Z + 1) ^ m) (Ff.prd zs z) ∧ Bw w w' ∧ ∀ g, u.ownBlock = some g → w.heap.size ≤ g := by
  rintro e w' ⟨B, k, l, rfl, h1, h2, h3, h4, h5, h6⟩
  refine ⟨_, rfl, ⟨B, 0, k, _, l, rfl, h1, by omega, h3, fun i => ?_, ?_⟩, h5, fun g e => by simp only [Value.ownBlock, Option.some.injEq] at e; omega⟩
  ·
   rw [h6]
   have := Py.ofl_le (p := [(1, 0)]) (zs := zs) (A := 1) (Z := Z) (fun i => one_le i 1 (Nat.le_refl _)) (fun y hy => by
    obtain ⟨i, hi, rfl⟩ := List.getElem_of_mem hy
    have h1 := hz i
    have h2 : Py.co zs i = zs[i] := by simp [Py.co, List.getD, hi]
    rw [h2] at h1
    exact h1) i
   rw [Nat.one_mul, hn] at this
   exact this
  ·
   rw [Py.ev_same l _ z h6, Ff.ev_ofl, Ff.ev_one]
   rfl
 rcases h with h | ⟨b, o, rfl, h⟩
 ·
  obtain rfl : m = 0 := by omega
  obtain rfl : zs = [] := List.length_eq_zero_iff.1 h
  exact (of16e hc a cap w).mono fin
 · exact (of8 hc hn h64 h hz hZ hA).mono fin
theorem pmul16 {c : Nat} (hc : c = 1074) {w : World} {z : Py.G} {v v' : Value} {N A N' A' : Nat} {g g' : Py.G} (h : Ff.Pv c w z v N A g) (h' : Ff.Pv c w z v' N' A' g') (hA : (N + 1) * (A * A') ≤ 1099511627776) (h64 : N + N' ≤ 64) :
  Calls Tryz.prog 64 #[v, v'] w fun e w' => ∃ u, e = .returned (.tuple #[u, .int .i64 0]) ∧ Ff.Pv c w' z u (N + N') ((N + 1) * (A * A')) (Py.gm g g') ∧ Bw w w' := by
 obtain ⟨B, o, m, cap, l, rfl, h1, h2, h3, h4, h5⟩ := h
 obtain ⟨B', o', m', cap', l', rfl, k1, k2, k3, k4, k5⟩ := h'
 have hle : (m + 1) * (A * A') ≤ (N + 1) * (A * A') := Nat.mul_le_mul_right _ (by omega)
 refine (mul10 hc h1 h3 k1 k3 h4 k4 (Nat.le_trans hle hA) (by omega)).mono fun e w' q => ?_
 obtain ⟨D, n, L, rfl, q1, q2, q3, q4, q5, q6⟩ := q.use
 refine ⟨_, rfl, ⟨D, 0, n, _, L, rfl, q1, by omega, q3.1, fun i => ?_, ?_⟩, q5⟩
 · rw [q6]; exact (Py.ts_le h4 k4 i (m + 1)).mono hle
 · rw [Py.ev_mul l l' L z (fun j => by rw [q6, h1.1]), h5, k5]
theorem padd16 {c : Nat} (hc : c = 1074) {w : World} {z : Py.G} {v v' : Value} {N A N' A' : Nat} {g g' : Py.G} (h : Ff.Pv c w z v N A g) (h' : Ff.Pv c w z v' N' A' g') (hA : A + A' ≤ 1099511627776) :
  Calls Tryz.prog 41 #[v, v'] w fun e w' => ∃ u, e = .returned (.tuple #[u, .int .i64 0]) ∧ Ff.Pv c w' z u (max N N') (A + A') (Py.ga g g') ∧ Bw w w' ∧ ∀ g, u.ownBlock = some g → w.heap.size ≤ g := by
 obtain ⟨B, o, m, cap, l, rfl, h1, h2, h3, h4, h5⟩ := h
 obtain ⟨B', o', m', cap', l', rfl, k1, k2, k3, k4, k5⟩ := h'
 refine (add8 hc h1 h3 k1 k3 h4 k4 hA).mono fun e w' q => ?_
 obtain ⟨D, n, L, rfl, q1, q2, q3, q4, q5, q6⟩ := q
 refine ⟨_, rfl, ⟨D, 0, n, _, L, rfl, q1, by omega, q3, fun i => ?_, ?_⟩, q5, fun g e => by simp only [Value.ownBlock, Option.some.injEq] at e; omega⟩
 · rw [q6]; exact (h4 i).add (k4 i)
 · rw [Py.ev_add L l l' z q6, h5, k5]
set_option maxHeartbeats 4000000 in
theorem times16 {c : Nat} (hc : c = 1074) {w : World} {a : Option Addr} {cap m Z S x y : Nat} {zs : List Py.G} {s : Py.G} (z : Py.G) (hn : zs.length = m) (h64 : m ≤ 64) (h : Ff.Pl c w a zs) (hz : ∀ i, Py.Le (Py.co zs i) Z) (hZ : Z ≤ 1099511627776) (hA : S * (Z + 1) ^ m ≤ 1099511627776) (hS : 0 < S) (hs : wC c x y s) (ls : Py.Le s S) :
  Calls Tryz.prog 65 #[.complex .f64 x y, .slice a m cap] w fun e w' => ∃ u, e = .returned (.tuple #[u, .int .i64 0]) ∧ Ff.Pv c w' z u m (S * (Z + 1) ^ m) (Py.gm s (Ff.prd zs z)) ∧ Bw w w' := by
 have hp : 0 < (Z + 1) ^ m := Nat.pow_pos (by omega)
 have hA1 : (Z + 1) ^ m ≤ 1099511627776 := Nat.le_trans (Nat.le_mul_of_pos_left _ hS) hA
 have hA2 : S ≤ 1099511627776 := Nat.le_trans (Nat.le_mul_of_pos_right _ hp) hA
 have PO := hide (pof16 (cap := cap) hc z hn h64 h hz hZ hA1)
 have HM : Hid (∀ (v : Value) (wz : World), Ff.Pv c wz z v m ((Z + 1) ^ m) (Ff.prd zs z) → ∀ B, Gl c wz B 0 [s] → Calls Tryz.prog 64 #[.slice (some ⟨B, 0, none⟩) 1 1, v] wz fun e w' => ∃ u, e = .returned (.tuple #[u, .int .i64 0]) ∧ Ff.Pv c w' z u m (S * (Z + 1) ^ m) (Py.gm s (Ff.prd zs z)) ∧ Bw wz w') := fun v wz hv B hB => by
  refine (pmul16 hc (N := 0) (A := S) (g := s) ⟨B, 0, 0, 1, [s], rfl, Ff.may_c s (ls.mono hA2), Nat.le_refl _, hB, fun i => Ff.co_c s S i ls, Ff.ev_c s z⟩ hv (by omega) (by omega)).mono fun e w' q => ?_
  obtain ⟨u, q1, q2, q3⟩ := q
  exact ⟨u, q1, q2.mono (by omega) (by omega), q3⟩
 have HS := hide hs
 clear hn h64 h hz hZ hA hS hs ls hp hA1 hA2
 go_enter Tryz.func65, Tryz.ntmps65
 go_wp2_with fail
 refine PO.out.mono ?_
 rintro e' w1 ⟨u, rfl, hu, b1, _⟩
 have HU := hide (hu.bw (bw_alloc w1 (.cells #[.complex .f64 x y] 26)))
 have b2 := bw_trans b1 (bw_alloc w1 (.cells #[.complex .f64 x y] 26))
 have G0 : Hid (Gl c (w1.alloc (.cells #[.complex .f64 x y] 26)) w1.heap.size 0 [s]) := by
  refine ⟨by simp, fun i hi => ?_⟩
  match i, hi with
  | 0, _ => exact ⟨x, y, by simp, HS.out⟩
 have HF := hide hu.form
 clear PO hu
 obtain ⟨a1, n1, cap1, rfl⟩ := HF.out
 clear HF
 go_wp2_with fail
 refine (HM.out _ _ HU.out _ G0.out).mono ?_
 rintro e' w3 ⟨u3, rfl, hu3, b3⟩
 have R := hide (And.intro hu3 (bw_trans b2 b3))
 clear hu3 b3 b2 b1 HU G0 HM
 go_wp2
 go_ret2
 exact ⟨u3, rfl, R.out⟩
end Go.Proofs.YtjpllggchjgjpaaGreat

/-
 OWN TEXT: package flow over whole complex numbers: a common bottom takes one more place.
-/
namespace Go.Proofs.YtjpllggchjgjpaaGreat
open Go.ChangeShapes Go.WideShapes Go.ChangeAt Go.RowKit
set_option linter.unusedVariables false
attribute [local go_sem] frombits_call tobits_call run_neg run_store_cx
section
variable {P : Program} {ops : Array Oper} {Q : Exit → Act → World → Prop} {md : Region.Mode} {S : World → Prop} {k : Nat}
/-- an operation that looks at no world may be taken first, whatever waits for it -/
theorem wpAnyK_firstP {i : Nat} {oi : Oper} {v : Value} (hi : ops[i]? = some oi) (hsel : ∀ (j : Nat) (o : Oper) cs b, ops[j]? = some o → o.op ≠ .select cs b)
  (hQ : ∀ c a w, Q (.panic c) (a.put oi.dst v) w → Q (.panic c) a w) (hik : i ≠ k) :
  ∀ (fuel : Nat) (listed : Array Bool) (a : Act) (w : World),
   (∀ j oj, ops[j]? = some oj → j ≠ i → listed.getD j true = false → (∀ e ∈ oj.after, Region.binds md e = true → e.on ≠ i) → oi.apart ops oj = true) →
   i ∈ Region.ready md ops listed → YieldsIf P ops (fun _ => True) oi v a → (listed.getD k true = false → S w) →
   wpAnyK P md ops Q S k fuel (listed.setIfInBounds i true) (a.put oi.dst v) w → wpAnyK P md ops Q S k (fuel + 1) listed a w := by
 intro fuel
 induction fuel with
 | zero =>
  intro listed a w _ hr hy hS H
  refine ⟨fun h => (by rw [h] at hr; cases hr), fun j hj => ?_⟩
  by_cases hji : j = i
  · subst hji; exact hy.wpOp hi trivial ⟨fun _ h => hS h, H⟩
  ·
   have := ready_mono hj hji
   rw [H.1] at this
   cases this
 | succ fuel ih =>
  intro listed a w hfree hr hy hS H
  refine ⟨fun h => (by rw [h] at hr; cases hr), fun j hj => ?_⟩
  by_cases hji : j = i
  · subst hji; exact hy.wpOp hi trivial ⟨fun _ h => hS h, H⟩
  ·
   have h1 := H.2 j (ready_mono hj hji)
   obtain ⟨hjun, oj, hoj, hall⟩ := mem_ready.1 hj
   have hnot : ∀ e ∈ oj.after, Region.binds md e = true → e.on ≠ i := fun e he hb heq => by
    have h1 := hall e he hb
    have h0 := (mem_ready.1 hr).1
    rw [heq] at h1
    rcases Nat.lt_or_ge i listed.size with h' | h'
    · simp [h'] at h0 h1; rw [h0] at h1; cases h1
    · simp [Array.getElem?_eq_none h'] at h1
   have h2 := wpOp_putIf hoj (hfree j oj hoj hji hjun hnot) (fun cs b => hsel i oi cs b hi) (fun cs b => hsel j oj cs b hoj) hQ hy h1
   have hfree' : ∀ k ok, ops[k]? = some ok → k ≠ i → (listed.setIfInBounds j true).getD k true = false →
     (∀ e ∈ ok.after, Region.binds md e = true → e.on ≠ i) → oi.apart ops ok = true := fun k ok hk hki hun hno => by
    refine hfree k ok hk hki ?_ hno
    by_cases hjk : j = k
    · subst hjk; exact hjun
    · rw [getD_set_ne true hjk] at hun; exact hun
   refine wpOp_mono (fun a' w' h3 => ⟨fun hjk hl => h3.2.1 hjk (by rw [getD_set_ne true hik]; exact hl), ih (listed.setIfInBounds j true) a' w' hfree' (ready_mono hr (Ne.symm hji)) h3.1 (fun hl => ?_) ?_⟩) h2
   ·
    by_cases hjk : j = k
    ·
     exfalso
     subst hjk
     rcases Nat.lt_or_ge j listed.size with h' | h'
     · simp [h'] at hl
     · simp [Array.getElem?_eq_none h'] at hjun
    ·
     rw [getD_set_ne true hjk] at hl
     exact h3.2.1 hjk (by rw [getD_set_ne true hik]; exact hl)
   rw [Array.setIfInBounds_comm _ _ hji]
   exact h3.2.2
theorem wpAnyK_pure (i d : Nat) {oi : Oper} {v : Value} {fuel : Nat} {listed : Array Bool} {a : Act} {w : World} (hi : ops[i]? = some oi)
  (hs : Region.noSelect ops = true) (hf : Region.free md ops listed i = true) (hr : (Region.ready md ops listed).contains i = true) (hk : Nat.beq i k = false)
  (hQ : ∀ c a w, Q (.panic c) (a.put oi.dst v) w → Q (.panic c) a w) (hd : oi.dst = some d) (hy : YieldsIf P ops (fun _ => True) oi v a) (hS : S w)
  (h : wpAnyK P md ops Q S k fuel (listed.setIfInBounds i true) (a.put (some d) v) w) : wpAnyK P md ops Q S k (fuel + 1) listed a w := by
 rw [← hd] at h
 exact wpAnyK_firstP hi (Region.noSelect_spec hs) hQ (Nat.ne_of_beq_eq_false hk) fuel listed a w (Region.free_spec hi hf) (by simpa using hr) hy (fun _ => hS) h
end
theorem ff_append1 {P : Program} {o : Oper} {a : Act} {w : World} {K : Act → World → Prop} {Q : Exit → Act → World → Prop} (s x : Operand) (t : TypeId)
  (ho : o.op = Op.call { callee := Callee.builtin Builtin.append, args := #[s, x], argTypes := #[t, t] }) (v1 v2 v' : Value) (hs : a.eval s = v1) (hx : a.eval x = v2) (w' : World)
  (hrun : (Builtin.append_ #[t, t] o.type #[v1, v2]).run P w = .ok v' w') (h : K (a.put o.dst v') w') : Oper.wp P o a w K Q := by
 unfold Oper.wp
 simp [execOp, ho, resolve, invoke, builtin, hs, hx, hrun, Result.andThen]
 exact h
namespace Ff
theorem gl_one {c x y : Nat} {z : Py.G} (w : World) (t : TypeId) (h : wC c x y z) : Gl c (w.alloc (.cells #[.complex .f64 x y] t)) w.heap.size 0 [z] := by
 refine ⟨by simp, fun i hi => ?_⟩
 match i, hi with
 | 0, _ => exact ⟨x, y, by simp, h⟩
theorem own_form {w : World} {base n : Nat} {e : TypeId} {v : Value} {xs : List Value} (h : w.ownsRow base e 1 v n xs) : ∃ p n k, v = .slice p n k := by
 rcases h.2 with ⟨e, _⟩ | ⟨g, cap, _, e, _⟩
 · exact ⟨_, _, _, e⟩
 · exact ⟨_, _, _, e⟩
theorem own_set {w : World} {base n g i : Nat} {e : TypeId} {v : Value} {xs : List Value} (h : w.ownsRow base e 1 v n xs) (hg : v.ownBlock = some g) (u : Value) : (w.setCell ⟨g, i, none⟩ u).ownsRow base e 1 v n (xs.set i u) := by
 refine ⟨by rw [List.length_set]; exact h.1, ?_⟩
 rcases h.2 with ⟨rfl, _⟩ | ⟨g', cap, cur, rfl, hb, hc, h1, h2, h3, h4⟩
 · cases hg
 ·
  simp only [Value.ownBlock, Option.some.injEq] at hg
  subst hg
  refine Or.inr ⟨g', cap, cur.setIfInBounds i u, rfl, hb, ?_, h1, h2, by simpa using h3, ?_⟩
  ·
   simp only [World.setCell, Array.getElem?_modify, if_true, hc]
   simp
  · rw [Array.toList_setIfInBounds, List.take_set, h4]
/-- append(l, k) of an int onto a list of the call's own -/
theorem pushI {w : World} {base n : Nat} {v : Value} {vals : List Value} (ty : TypeId) (ho : w.ownsRow base 3 1 v n vals) {b : Nat} {k : Int} (hc : w.cell? ⟨b, 0, none⟩ = some (.int .i64 k)) (hn : n ≤ 1000) (hb : base ≤ w.heap.size) :
  ∃ v' w', (Builtin.append_ #[50, 50] ty #[v, .slice (some ⟨b, 0, none⟩) 1 1]).run Tryz.prog w = .ok v' w' ∧ w'.ownsRow base 3 1 v' (n + 1) (vals ++ [.int .i64 k]) ∧ w.grownBy w' v.ownBlock ∧ (v'.ownBlock = v.ownBlock ∨ v'.ownBlock = some w.heap.size) := by
 obtain ⟨i0, hi0, hz⟩ := Option.map_eq_some_iff.1 info_i
 simp only [Prod.mk.injEq] at hz
 obtain ⟨v', w', h1, h2, h3, _, h5⟩ := run_append_own_at (P := Tryz.prog) w base 50 ty 3 i0 (.int .i64 0) 1 8 und_i hi0 hz.1 hz.2.1 hz.2.2 rfl (by decide) v n vals ho ⟨b, 0, none⟩ 1 1 [.int .i64 k] rfl
  (fun j u hu => by
   match j, hu with
   | 0, hu => cases hu; exact hc) (fun u hu => by simp only [List.mem_singleton] at hu; subst hu; rfl) (by unfold maxLen; omega) (by omega) hb
 exact ⟨v', w', h1, h2, h3, h5⟩
/-- one more place: of one that is there the greater fold -/
def tk : List (Py.G × Nat) → Py.G → Nat → List (Py.G × Nat)
 | [], z, n => [(z, n)]
 | (g, f) :: r, z, n => if g = z then (g, max f n) :: r else (g, f) :: tk r z n
theorem tk_new : ∀ (cs : List (Py.G × Nat)) (z : Py.G) (n : Nat), (∀ j, j < cs.length → Py.co (cs.map Prod.fst) j ≠ z) → tk cs z n = cs ++ [(z, n)]
 | [], z, n, _ => rfl
 | (g, f) :: r, z, n, h => by
  have h0 := h 0 (by simp)
  have h0' : g ≠ z := h0
  rw [tk, if_neg h0', tk_new r z n (fun j hj => h (j + 1) (by simpa using hj))]
  rfl
theorem tk_old : ∀ (cs : List (Py.G × Nat)) (z : Py.G) (n k : Nat), k < cs.length → Py.co (cs.map Prod.fst) k = z → (∀ j, j < k → Py.co (cs.map Prod.fst) j ≠ z) → tk cs z n = cs.set k (z, max ((cs.map Prod.snd).getD k 0) n)
 | [], z, n, k, hk, _, _ => by simp at hk
 | (g, f) :: r, z, n, 0, _, he, _ => by
  have : g = z := he
  rw [tk, if_pos this, this]
  rfl
 | (g, f) :: r, z, n, k + 1, hk, he, h => by
  have h0 : g ≠ z := h 0 (by omega)
  rw [tk, if_neg h0, tk_old r z n k (by simpa using hk) he (fun j hj => h (j + 1) (by omega))]
  rfl
/-- own blocks apart -/
def Dj (v v' : Value) : Prop := ∀ g, v.ownBlock = some g → v'.ownBlock ≠ some g
/-- a common bottom that grows lies at block B -/
structure Cm (c : Nat) (w : World) (base B : Nat) (cs : List (Py.G × Nat)) (vP vF : Value) (vals : List Value) : Prop where
 lo : base ≤ B
 hi : B < w.heap.size
 c0 : w.cell? ⟨B, 0, none⟩ = some vP
 c1 : w.cell? ⟨B, 1, none⟩ = some vF
 c2 : w.cell? ⟨B, 2, none⟩ = some (.slice none 0 0)
 fz : ∀ i, w.frozen? ⟨B, i, none⟩ = false
 oP : w.ownsRow base 26 1 vP cs.length vals
 vl : Vl c vals (cs.map Prod.fst)
 oF : w.ownsRow base 3 1 vF cs.length (cs.map fun p => .int .i64 ((p.2 : Nat) : Int))
 dj : Dj vP vF
 nP : vP.ownBlock ≠ some B
 nF : vF.ownBlock ≠ some B
theorem set_any {w : World} {B i : Nat} {v u : Value} (h : w.cell? ⟨B, i, none⟩ = some u) : (w.setCell ⟨B, i, none⟩ v).cell? ⟨B, i, none⟩ = some v := World.cell?_setCell_same' _ _ _ (by rw [h]; rfl)
theorem set_off {w : World} {B i j : Nat} {v : Value} (h : i ≠ j) : (w.setCell ⟨B, i, none⟩ v).cell? ⟨B, j, none⟩ = w.cell? ⟨B, j, none⟩ := by
 rw [World.cell?_setCell_other]
 intro e; cases e; exact h rfl
theorem set_blk {w : World} {B B' i j : Nat} {v : Value} (h : B' ≠ B) : (w.setCell ⟨B', i, none⟩ v).cell? ⟨B, j, none⟩ = w.cell? ⟨B, j, none⟩ := by
 rw [World.cell?_setCell_other]
 intro e; cases e; exact h rfl
/-- both lists have grown, and are put in their place -/
theorem Cm.put {c : Nat} {w w2 : World} {base B n : Nat} {cs : List (Py.G × Nat)} {vP vF vP' vF' : Value} {vals vals' : List Value} {z : Py.G} (h : Cm c w base B cs vP vF vals)
  (hc0 : w2.cell? ⟨B, 0, none⟩ = some vP) (hc1 : w2.cell? ⟨B, 1, none⟩ = some vF) (hc2 : w2.cell? ⟨B, 2, none⟩ = some (.slice none 0 0)) (hfz : ∀ i, w2.frozen? ⟨B, i, none⟩ = false) (hs : w.heap.size ≤ w2.heap.size)
  (oP : w2.ownsRow base 26 1 vP' (cs.length + 1) vals') (vl : Vl c vals' (cs.map Prod.fst ++ [z])) (oF : w2.ownsRow base 3 1 vF' (cs.length + 1) ((cs.map fun p => .int .i64 ((p.2 : Nat) : Int)) ++ [.int .i64 (n : Int)])) (dj : Dj vP' vF') (nP : vP'.ownBlock ≠ some B) (nF : vF'.ownBlock ≠ some B) :
  Cm c ((w2.setCell ⟨B, 0, none⟩ vP').setCell ⟨B, 1, none⟩ vF') base B (cs ++ [(z, n)]) vP' vF' vals' := by
 refine ⟨h.lo, ?_, ?_, ?_, ?_, fun i => ?_, ?_, ?_, ?_, dj, nP, nF⟩
 ·
  have := h.hi
  simp [World.setCell]; omega
 · rw [set_off (by decide)]; exact set_any hc0
 · exact set_any (by rw [set_off (by decide)]; exact hc1)
 · rw [set_off (by decide), set_off (by decide)]; exact hc2
 · simp only [World.frozen?_setCell]; exact hfz i
 ·
  rw [List.length_append]
  exact ownsRow_setCell_other (ownsRow_setCell_other oP nP _) nP _
 · rw [List.map_append]; exact vl
 ·
  rw [List.length_append, List.map_append]
  exact ownsRow_setCell_other (ownsRow_setCell_other oF nF _) nF _
theorem Cm.drew {c : Nat} {w : World} {base B : Nat} {cs : List (Py.G × Nat)} {vP vF : Value} {vals : List Value} (h : Cm c w base B cs vP vF vals) : Cm c w.drew base B cs vP vF vals :=
 ⟨h.lo, h.hi, h.c0, h.c1, h.c2, h.fz, h.oP, h.vl, h.oF, h.dj, h.nP, h.nF⟩
/-- a fold is put in the place of another -/
theorem Cm.set {c : Nat} {w : World} {base B k m g : Nat} {cs : List (Py.G × Nat)} {vP vF : Value} {vals : List Value} {z : Py.G} (h : Cm c w base B cs vP vF vals) (hk : k < cs.length) (hz : Py.co (cs.map Prod.fst) k = z) (hg : vF.ownBlock = some g) :
  Cm c (w.setCell ⟨g, k, none⟩ (.int .i64 (m : Int))) base B (cs.set k (z, m)) vP vF vals := by
 have hgB : g ≠ B := fun e => h.nF (by rw [hg, e])
 have hgP : vP.ownBlock ≠ some g := fun e => h.dj g e hg
 have e1 : (cs.set k (z, m)).map Prod.fst = cs.map Prod.fst := by
  refine Py.list_ext (by simp) (fun i hi => ?_)
  rw [List.map_set, Py.co_set _ _ _ _ (by simpa using hk)]
  by_cases e : i = k
  · rw [if_pos e, e, hz]
  · rw [if_neg e]
 refine ⟨h.lo, ?_, ?_, ?_, ?_, fun i => ?_, ?_, ?_, ?_, h.dj, h.nP, h.nF⟩
 ·
  have := h.hi
  simp [World.setCell]; omega
 · rw [set_blk hgB]; exact h.c0
 · rw [set_blk hgB]; exact h.c1
 · rw [set_blk hgB]; exact h.c2
 · rw [World.frozen?_setCell]; exact h.fz i
 · rw [List.length_set]; exact ownsRow_setCell_other h.oP hgP _
 · rw [e1]; exact h.vl
 · rw [List.length_set, List.map_set]; exact own_set h.oF hg _
/-- what lies at block B is as it was -/
structure Bk (W U : World) (base B : Nat) (vP vF : Value) : Prop where
 c0 : U.cell? ⟨B, 0, none⟩ = some vP
 c1 : U.cell? ⟨B, 1, none⟩ = some vF
 c2 : U.cell? ⟨B, 2, none⟩ = some (.slice none 0 0)
 fz : ∀ i, U.frozen? ⟨B, i, none⟩ = false
 sz : W.heap.size ≤ U.heap.size
 bs : base ≤ U.heap.size
 hB : B < U.heap.size
 bl : Below base W U
theorem Cm.bk {c : Nat} {w : World} {base B : Nat} {cs : List (Py.G × Nat)} {vP vF : Value} {vals : List Value} (h : Cm c w base B cs vP vF vals) : Bk w w base B vP vF :=
 ⟨h.c0, h.c1, h.c2, h.fz, Nat.le_refl _, by have := h.lo; have := h.hi; omega, h.hi, Below.refl _ _⟩
theorem Bk.alloc {W U : World} {base B : Nat} {vP vF : Value} (h : Bk W U base B vP vF) (o : Obj) : Bk W (U.alloc o) base B vP vF := by
 have b := bw_alloc U o
 refine ⟨(Below.cell b (p := ⟨B, 0, none⟩) h.hB).trans h.c0, (Below.cell b (p := ⟨B, 1, none⟩) h.hB).trans h.c1, (Below.cell b (p := ⟨B, 2, none⟩) h.hB).trans h.c2, fun i => (Below.frozen b (p := ⟨B, i, none⟩) h.hB).trans (h.fz i), ?_, ?_, ?_, Below.trans h.bl (Below.mono b h.bs)⟩
 · have := h.sz; simp; omega
 · have := h.bs; simp; omega
 · have := h.hB; simp; omega
theorem Bk.grow {W U U' : World} {base B : Nat} {vP vF : Value} {r : Option Nat} (h : Bk W U base B vP vF) (g : U.grownBy U' r) (hr : r ≠ some B) (hb : ∀ x, r = some x → base ≤ x) : Bk W U' base B vP vF := by
 have hne : some B ≠ r := fun e => hr e.symm
 refine ⟨g.cell h.c0 hne, g.cell h.c1 hne, g.cell h.c2 hne, fun i => ?_, Nat.le_trans h.sz g.size, Nat.le_trans h.bs g.size, Nat.lt_of_lt_of_le h.hB g.size, Below.grown h.bl g h.bs hb⟩
 have := h.fz i
 unfold World.frozen? at this ⊢
 rw [g.block B h.hB hne]
 exact this
/-- both lists have grown -/
theorem Cm.fin {c : Nat} {W U V : World} {base B n : Nat} {cs : List (Py.G × Nat)} {vP vF vP' vF' : Value} {vals vals' : List Value} {z : Py.G} (h : Cm c W base B cs vP vF vals) (kU : Bk W U base B vP vF) (g : U.grownBy V vF.ownBlock)
  (oP : U.ownsRow base 26 1 vP' (cs.length + 1) vals') (vl : Vl c vals' (cs.map Prod.fst ++ [z])) (oF : V.ownsRow base 3 1 vF' (cs.length + 1) ((cs.map fun p => .int .i64 ((p.2 : Nat) : Int)) ++ [.int .i64 (n : Int)]))
  (hP : vP'.ownBlock = vP.ownBlock ∨ ∃ s, vP'.ownBlock = some s ∧ W.heap.size ≤ s) (hF : vF'.ownBlock = vF.ownBlock ∨ vF'.ownBlock = some U.heap.size) :
  Cm c ((V.setCell ⟨B, 0, none⟩ vP').setCell ⟨B, 1, none⟩ vF') base B (cs ++ [(z, n)]) vP' vF' vals' ∧ Below base W ((V.setCell ⟨B, 0, none⟩ vP').setCell ⟨B, 1, none⟩ vF') := by
 have nP' : vP'.ownBlock ≠ some B := fun e => by
  rcases hP with q | ⟨s, q, hs⟩
  · exact h.nP (by rw [← q, e])
  · rw [q] at e; cases e; have := h.hi; omega
 have dPF : ∀ x, vP'.ownBlock = some x → vF.ownBlock ≠ some x := fun x e e2 => by
  rcases hP with q | ⟨s, q, hs⟩
  · exact h.dj x (by rw [← q, e]) e2
  · rw [q] at e; cases e; have := (h.oF.lt _ e2).2; omega
 have nF' : vF'.ownBlock ≠ some B := fun e => by
  rcases hF with q | q
  · exact h.nF (by rw [← q, e])
  · rw [q] at e; cases e; exact absurd kU.hB (by omega)
 have kV := kU.grow g h.nF (fun x e => (h.oF.lt x e).1)
 refine ⟨h.put kV.c0 kV.c1 kV.c2 kV.fz kV.sz (oP.kept g ?_) vl oF (fun x e e2 => ?_) nP' nF', ?_⟩
 ·
  cases q : vP'.ownBlock with
  | none => exact Or.inl rfl
  | some x => exact Or.inr (fun e => dPF x q e.symm)
 ·
  rcases hF with q | q
  · exact dPF x e (by rw [← q, e2])
  · rw [q] at e2; cases e2; have := (oP.lt _ e).2; omega
 · exact Below.setCell (Below.setCell kV.bl h.lo _) h.lo _
end Ff
end Go.Proofs.YtjpllggchjgjpaaGreat

/-
 OWN TEXT: package flow over whole complex numbers: a common bottom takes one more place (the walk).
-/
namespace Go.Proofs.YtjpllggchjgjpaaGreat
open Go.ChangeShapes Go.WideShapes Go.ChangeAt Go.RowKit
set_option linter.unusedVariables false
set_option linter.unusedSimpArgs false
attribute [local go_sem] frombits_call tobits_call run_neg run_store_cx
set_option maxHeartbeats 16000000 in
theorem take16 {c : Nat} {w : World} {base B n x y : Nat} {cs : List (Py.G × Nat)} {z : Py.G} {vP vF : Value} {vals : List Value} (h : Ff.Cm c w base B cs vP vF vals) (hz : wC c x y z) (hm : cs.length ≤ 60) (hn : n ≤ 60) (hf : ∀ p ∈ cs, p.2 ≤ 60) :
  Calls Tryz.prog 61 #[.pointer (some ⟨B, 0, none⟩), .complex .f64 x y, .int .i64 (n : Int)] w fun e w' => e = .returned (.tuple #[]) ∧ ∃ vP' vF' vals', Ff.Cm c w' base B (Ff.tk cs z n) vP' vF' vals' ∧ Below base w w' := by
 obtain ⟨a, cap, rfl, hpl⟩ := Ff.own_pl h.oP h.vl (by simp)
 obtain ⟨a', cap', rfl⟩ : ∃ a' cap', vF = .slice a' cs.length cap' := by
  rcases h.oF.2 with ⟨e, q⟩ | ⟨g, cap, _, e, _⟩
  · exact ⟨none, 0, by rw [e, q]⟩
  · exact ⟨_, cap, e⟩
 have FD := hide (fun wz (hb : Bw w wz) => find16 (cap := cap) (n := cs.length) (by simp) (by omega) (hpl.bw hb) hz)
 have c0 := h.c0
 have c1 := h.c1
 have H := hide h
 have HZ := hide hz
 have HF := hide hf
 clear h hz hpl hf
 go_enter Tryz.func61, Tryz.ntmps61
 go_wp2_with fail
 refine (FD.out _ (Bw.refl _)).mono ?_
 rintro e' w1 ⟨r, rfl, hr, hw⟩
 subst hw
 clear FD
 rcases hr with ⟨k, hk, rfl, hk2, hk3⟩ | ⟨rfl, hk⟩
 ·
  have HT := hide (Ff.tk_old cs z n k (by simpa using hk) hk2 hk3)
  have hkl : k < cs.length := by simpa using hk
  obtain ⟨m, hm'⟩ : ∃ m, (cs.map Prod.snd).getD k 0 = m := ⟨_, rfl⟩
  have hm60 : m ≤ 60 := by
   rw [← hm']
   have := HF.out (cs[k]'hkl) (List.getElem_mem _)
   simpa [List.getD, hkl] using this
  obtain ⟨g, hg⟩ : ∃ g, a' = some ⟨g, 0, none⟩ ∧ (w1.cell? ⟨g, k, none⟩ = some (.int .i64 (m : Int))) ∧ w1.frozen? ⟨g, k, none⟩ = false := by
   obtain ⟨g, cap2, e, hb, hlt⟩ := H.out.oF.form (by omega)
   simp only [Value.slice.injEq] at e
   refine ⟨g, e.1, ?_, ?_⟩
   ·
    have := H.out.oF
    rw [e.1] at this
    rw [this.cellAt k (by omega), ← hm']
    simp [List.getD, hkl]
   ·
    have := H.out.oF
    rw [e.1] at this
    exact this.frozenAt k
  obtain ⟨rfl, s2, fz2⟩ := hg
  have s3 := hide (show w1.drew.cell? ⟨B, 0, none⟩ = some (.slice a cs.length cap) ∧ w1.drew.cell? ⟨B, 1, none⟩ = some (.slice (some ⟨g, 0, none⟩) cs.length cap') ∧ w1.drew.cell? ⟨g, k, none⟩ = some (.int .i64 (m : Int)) from ⟨c0, c1, s2⟩)
  have HE := hide hk2
  clear hk hk2 hk3
  have hk4 : ¬ (k : Int) < 0 := by omega
  have hk5 : (k : Int) < cs.length := by omega
  go_wp2_with fail
  refine wp_region_K (fun w' => w'.cell? ⟨B, 0, none⟩ = some (.slice a cs.length cap) ∧ w'.cell? ⟨B, 1, none⟩ = some (.slice (some ⟨g, 0, none⟩) cs.length cap') ∧ w'.cell? ⟨g, k, none⟩ = some (.int .i64 (m : Int))) 15 16 #[false, false, false, false, false, false, false, false, false, false, false, false, false, false, false, false] (by kernel_rfl) (by kernel_rfl) (by kernel_rfl) ?_
  have s3' := s3.out
  refine wpAnyK_take 0 35 (v := ?v0) rfl (by kernel_rfl) (by kernel_rfl) (by kernel_rfl) (by kernel_rfl) (by kernel_rfl) (fun _ _ _ h => h) rfl (Or.inl ⟨by rfl, ?h0⟩) (by assumption) ?r0
  case h0 => (intro w hSw; obtain ⟨s0, s1, s2⟩ := hSw; go_simp; with_reducible rfl)
  simp only [Act.put, List.setIfInBounds_toArray, List.set_cons_zero, List.set_cons_succ]
  refine wpAnyK_take 1 36 (v := ?v1) rfl (by kernel_rfl) (by kernel_rfl) (by kernel_rfl) (by kernel_rfl) (by kernel_rfl) (fun _ _ _ h => h) rfl (Or.inl ⟨by rfl, ?h1⟩) (by assumption) ?r1
  case h1 => (intro w hSw; obtain ⟨s0, s1, s2⟩ := hSw; go_simp; with_reducible rfl)
  simp only [Act.put, List.setIfInBounds_toArray, List.set_cons_zero, List.set_cons_succ]
  refine wpAnyK_take 2 37 (v := ?v2) rfl (by kernel_rfl) (by kernel_rfl) (by kernel_rfl) (by kernel_rfl) (by kernel_rfl) (fun _ _ _ h => h) rfl (Or.inl ⟨by rfl, ?h2⟩) (by assumption) ?r2
  case h2 => (intro w hSw; obtain ⟨s0, s1, s2⟩ := hSw; go_simp; with_reducible rfl)
  simp only [Act.put, List.setIfInBounds_toArray, List.set_cons_zero, List.set_cons_succ]
  refine wpAnyK_take 3 38 (v := ?v3) rfl (by kernel_rfl) (by kernel_rfl) (by kernel_rfl) (by kernel_rfl) (by kernel_rfl) (fun _ _ _ h => h) rfl (Or.inl ⟨by rfl, ?h3⟩) (by assumption) ?r3
  case h3 => (intro w hSw; obtain ⟨s0, s1, s2⟩ := hSw; go_simp; with_reducible rfl)
  simp only [Act.put, List.setIfInBounds_toArray, List.set_cons_zero, List.set_cons_succ]
  refine wpAnyK_take 4 39 (v := ?v4) rfl (by kernel_rfl) (by kernel_rfl) (by kernel_rfl) (by kernel_rfl) (by kernel_rfl) (fun _ _ _ h => h) rfl (Or.inl ⟨by rfl, ?h4⟩) (by assumption) ?r4
  case h4 => (intro w hSw; obtain ⟨s0, s1, s2⟩ := hSw; go_simp; with_reducible rfl)
  simp only [Act.put, List.setIfInBounds_toArray, List.set_cons_zero, List.set_cons_succ]
  refine wpAnyK_take 5 40 (v := ?v5) rfl (by kernel_rfl) (by kernel_rfl) (by kernel_rfl) (by kernel_rfl) (by kernel_rfl) (fun _ _ _ h => h) rfl (Or.inl ⟨by rfl, ?h5⟩) (by assumption) ?r5
  case h5 => (intro w hSw; obtain ⟨s0, s1, s2⟩ := hSw; go_simp; with_reducible rfl)
  simp only [Act.put, List.setIfInBounds_toArray, List.set_cons_zero, List.set_cons_succ]
  refine wpAnyK_take 6 41 (v := ?v6) rfl (by kernel_rfl) (by kernel_rfl) (by kernel_rfl) (by kernel_rfl) (by kernel_rfl) (fun _ _ _ h => h) rfl (Or.inl ⟨by rfl, ?h6⟩) (by assumption) ?r6
  case h6 => (intro w hSw; obtain ⟨s0, s1, s2⟩ := hSw; go_simp; with_reducible rfl)
  simp only [Act.put, List.setIfInBounds_toArray, List.set_cons_zero, List.set_cons_succ]
  refine wpAnyK_take 7 42 (v := ?v7) rfl (by kernel_rfl) (by kernel_rfl) (by kernel_rfl) (by kernel_rfl) (by kernel_rfl) (fun _ _ _ h => h) rfl (Or.inl ⟨by rfl, ?h7⟩) (by assumption) ?r7
  case h7 => (intro w hSw; obtain ⟨s0, s1, s2⟩ := hSw; go_simp; with_reducible rfl)
  simp only [Act.put, List.setIfInBounds_toArray, List.set_cons_zero, List.set_cons_succ]
  refine wpAnyK_take 8 43 (v := ?v8) rfl (by kernel_rfl) (by kernel_rfl) (by kernel_rfl) (by kernel_rfl) (by kernel_rfl) (fun _ _ _ h => h) rfl (Or.inl ⟨by rfl, ?h8⟩) (by assumption) ?r8
  case h8 => (intro w hSw; obtain ⟨s0, s1, s2⟩ := hSw; go_simp; with_reducible rfl)
  simp only [Act.put, List.setIfInBounds_toArray, List.set_cons_zero, List.set_cons_succ]
  refine wpAnyK_take 9 44 (v := ?v9) rfl (by kernel_rfl) (by kernel_rfl) (by kernel_rfl) (by kernel_rfl) (by kernel_rfl) (fun _ _ _ h => h) rfl (Or.inl ⟨by rfl, ?h9⟩) (by assumption) ?r9
  case h9 => (intro w hSw; obtain ⟨s0, s1, s2⟩ := hSw; go_simp; with_reducible rfl)
  simp only [Act.put, List.setIfInBounds_toArray, List.set_cons_zero, List.set_cons_succ]
  refine wpAnyK_take 10 45 (v := ?v10) rfl (by kernel_rfl) (by kernel_rfl) (by kernel_rfl) (by kernel_rfl) (by kernel_rfl) (fun _ _ _ h => h) rfl (Or.inl ⟨by rfl, ?h10⟩) (by assumption) ?r10
  case h10 => (intro w hSw; obtain ⟨s0, s1, s2⟩ := hSw; go_simp; with_reducible rfl)
  simp only [Act.put, List.setIfInBounds_toArray, List.set_cons_zero, List.set_cons_succ]
  refine wpAnyK_take 11 46 (v := ?v11) rfl (by kernel_rfl) (by kernel_rfl) (by kernel_rfl) (by kernel_rfl) (by kernel_rfl) (fun _ _ _ h => h) rfl (Or.inl ⟨by rfl, ?h11⟩) (by assumption) ?r11
  case h11 => (intro w hSw; obtain ⟨s0, s1, s2⟩ := hSw; go_simp; with_reducible rfl)
  simp only [Act.put, List.setIfInBounds_toArray, List.set_cons_zero, List.set_cons_succ]
  refine wpAnyK_take 12 47 (v := ?v12) rfl (by kernel_rfl) (by kernel_rfl) (by kernel_rfl) (by kernel_rfl) (by kernel_rfl) (fun _ _ _ h => h) rfl (Or.inl ⟨by rfl, ?h12⟩) (by assumption) ?r12
  case h12 => (intro w hSw; obtain ⟨s0, s1, s2⟩ := hSw; go_simp; with_reducible rfl)
  simp only [Act.put, List.setIfInBounds_toArray, List.set_cons_zero, List.set_cons_succ]
  refine wpAnyK_take 13 48 (v := ?v13) rfl (by kernel_rfl) (by kernel_rfl) (by kernel_rfl) (by kernel_rfl) (by kernel_rfl) (fun _ _ _ h => h) rfl (Or.inl ⟨by rfl, ?h13⟩) (by assumption) ?r13
  case h13 => (intro w hSw; obtain ⟨s0, s1, s2⟩ := hSw; go_simp; with_reducible rfl)
  simp only [Act.put, List.setIfInBounds_toArray, List.set_cons_zero, List.set_cons_succ]
  refine wpAnyK_take 14 49 (v := ?v14) rfl (by kernel_rfl) (by kernel_rfl) (by kernel_rfl) (by kernel_rfl) (by kernel_rfl) (fun _ _ _ h => h) rfl (Or.inl ⟨by rfl, ?h14⟩) (by assumption) ?r14
  case h14 => (intro w hSw; obtain ⟨s0, s1, s2⟩ := hSw; go_simp; with_reducible rfl)
  simp only [Act.put, List.setIfInBounds_toArray, List.set_cons_zero, List.set_cons_succ]
  refine wpAnyK_one 15 (by kernel_rfl) rfl (fun K hK => ?_)
  go_simp
  refine hK.out _ _ (fun h => absurd rfl h) ?_
  clear hK K
  simp only [List.setIfInBounds_toArray, List.set_cons_zero, List.set_cons_succ]
  refine wpAnyK_done (by kernel_rfl) ?_ _
  have he : (Value.int IntKind.i64 (if m < n then (n : Int) else (m : Int))) = .int .i64 ((max m n : Nat) : Int) := by
   congr 1
   split <;> omega
  rw [he]
  have R : Hid (Ff.Cm c (w1.setCell ⟨g, k, none⟩ (.int .i64 ((max m n : Nat) : Int))).drew base B (Ff.tk cs z n) (.slice a cs.length cap) (.slice (some ⟨g, 0, none⟩) cs.length cap') vals ∧ Below base w1 (w1.setCell ⟨g, k, none⟩ (.int .i64 ((max m n : Nat) : Int))).drew) := by
   rw [HT.out, hm']
   exact ⟨(H.out.set hkl HE.out rfl).drew, (Below.setCell (Below.refl base w1) (H.out.oF.lt g rfl).1 _).drew⟩
  clear he hm' HT H
  go_wp2
  go_end0
  exact ⟨rfl, _, _, _, R.out.1, R.out.2⟩
 ·
  have HNEW := hide (Ff.tk_new cs z n (fun j hj => hk j (by simpa using hj)))
  have HD := hide H.out.drew
  have HB0 := hide (show Below base w1 w1.drew from (Below.refl base w1).drew)
  clear hk H
  go_wp2_with fail
  refine wp_region_K (fun w' => w'.cell? ⟨B, 0, none⟩ = some (.slice a cs.length cap) ∧ w'.cell? ⟨B, 1, none⟩ = some (.slice a' cs.length cap')) 18 22 #[false, false, false, false, false, false, false, false, false, false, false, false, false, false, false, false, false, false, false, false, false, false] (by kernel_rfl) (by kernel_rfl) (by kernel_rfl) ?_
  generalize w1.drew = W at *
  have sW : W.cell? ⟨B, 0, none⟩ = some (.slice a cs.length cap) ∧ W.cell? ⟨B, 1, none⟩ = some (.slice a' cs.length cap') := ⟨HD.out.c0, HD.out.c1⟩
  have kk := hide HD.out.bk
  have oP := hide HD.out.oP
  have oF := hide HD.out.oF
  have hlW := hide (Nat.le_refl W.heap.size)
  refine wpAnyK_pure 1 16 (v := ?vb1) rfl (by kernel_rfl) (by kernel_rfl) (by kernel_rfl) (by kernel_rfl) (fun _ _ _ h => h) rfl (Or.inl ⟨by rfl, ?hb1⟩) (by assumption) ?rb1
  case hb1 => (intro w _; go_simp; with_reducible rfl)
  simp only [Act.put, List.setIfInBounds_toArray, List.set_cons_zero, List.set_cons_succ]
  refine wpAnyK_take 0 15 (v := ?vb0) rfl (by kernel_rfl) (by kernel_rfl) (by kernel_rfl) (by kernel_rfl) (by kernel_rfl) (fun _ _ _ h => h) rfl (Or.inl ⟨by rfl, ?hb0⟩) (by assumption) ?rb0
  case hb0 => (intro w hSw; obtain ⟨s0, s1⟩ := hSw; go_simp; with_reducible rfl)
  simp only [Act.put, List.setIfInBounds_toArray, List.set_cons_zero, List.set_cons_succ]
  refine wpAnyK_take 2 17 (v := ?vb2) rfl (by kernel_rfl) (by kernel_rfl) (by kernel_rfl) (by kernel_rfl) (by kernel_rfl) (fun _ _ _ h => h) rfl (Or.inl ⟨by rfl, ?hb2⟩) (by assumption) ?rb2
  case hb2 => (intro w hSw; obtain ⟨s0, s1⟩ := hSw; go_simp; with_reducible rfl)
  simp only [Act.put, List.setIfInBounds_toArray, List.set_cons_zero, List.set_cons_succ]
  refine wpAnyK_take 3 18 (v := ?vb3) rfl (by kernel_rfl) (by kernel_rfl) (by kernel_rfl) (by kernel_rfl) (by kernel_rfl) (fun _ _ _ h => h) rfl (Or.inl ⟨by rfl, ?hb3⟩) (by assumption) ?rb3
  case hb3 => (intro w hSw; obtain ⟨s0, s1⟩ := hSw; go_simp; with_reducible rfl)
  simp only [Act.put, List.setIfInBounds_toArray, List.set_cons_zero, List.set_cons_succ]
  refine wpAnyK_take 4 19 (v := ?vb4) rfl (by kernel_rfl) (by kernel_rfl) (by kernel_rfl) (by kernel_rfl) (by kernel_rfl) (fun _ _ _ h => h) rfl (Or.inl ⟨by rfl, ?hb4⟩) (by assumption) ?rb4
  case hb4 => (intro w hSw; obtain ⟨s0, s1⟩ := hSw; go_simp; with_reducible rfl)
  simp only [Act.put, List.setIfInBounds_toArray, List.set_cons_zero, List.set_cons_succ]
  refine wpAnyK_take 5 20 (v := ?vb5) rfl (by kernel_rfl) (by kernel_rfl) (by kernel_rfl) (by kernel_rfl) (by kernel_rfl) (fun _ _ _ h => h) rfl (Or.inl ⟨by rfl, ?hb5⟩) (by assumption) ?rb5
  case hb5 => (intro w hSw; obtain ⟨s0, s1⟩ := hSw; go_simp; with_reducible rfl)
  simp only [Act.put, List.setIfInBounds_toArray, List.set_cons_zero, List.set_cons_succ]
  refine wpAnyK_take 6 21 (v := ?vb6) rfl (by kernel_rfl) (by kernel_rfl) (by kernel_rfl) (by kernel_rfl) (by kernel_rfl) (fun _ _ _ h => h) rfl (Or.inl ⟨by rfl, ?hb6⟩) (by assumption) ?rb6
  case hb6 => (intro w hSw; obtain ⟨s0, s1⟩ := hSw; go_simp; with_reducible rfl)
  simp only [Act.put, List.setIfInBounds_toArray, List.set_cons_zero, List.set_cons_succ]
  refine wpAnyK_take 9 24 (v := ?vb9) rfl (by kernel_rfl) (by kernel_rfl) (by kernel_rfl) (by kernel_rfl) (by kernel_rfl) (fun _ _ _ h => h) rfl (Or.inl ⟨by rfl, ?hb9⟩) (by assumption) ?rb9
  case hb9 => (intro w hSw; obtain ⟨s0, s1⟩ := hSw; go_simp; with_reducible rfl)
  simp only [Act.put, List.setIfInBounds_toArray, List.set_cons_zero, List.set_cons_succ]
  refine wpAnyK_take 10 25 (v := ?vb10) rfl (by kernel_rfl) (by kernel_rfl) (by kernel_rfl) (by kernel_rfl) (by kernel_rfl) (fun _ _ _ h => h) rfl (Or.inl ⟨by rfl, ?hb10⟩) (by assumption) ?rb10
  case hb10 => (intro w hSw; obtain ⟨s0, s1⟩ := hSw; go_simp; with_reducible rfl)
  simp only [Act.put, List.setIfInBounds_toArray, List.set_cons_zero, List.set_cons_succ]
  refine wpAnyK_take 11 26 (v := ?vb11) rfl (by kernel_rfl) (by kernel_rfl) (by kernel_rfl) (by kernel_rfl) (by kernel_rfl) (fun _ _ _ h => h) rfl (Or.inl ⟨by rfl, ?hb11⟩) (by assumption) ?rb11
  case hb11 => (intro w hSw; obtain ⟨s0, s1⟩ := hSw; go_simp; with_reducible rfl)
  simp only [Act.put, List.setIfInBounds_toArray, List.set_cons_zero, List.set_cons_succ]
  refine wpAnyK_take 12 27 (v := ?vb12) rfl (by kernel_rfl) (by kernel_rfl) (by kernel_rfl) (by kernel_rfl) (by kernel_rfl) (fun _ _ _ h => h) rfl (Or.inl ⟨by rfl, ?hb12⟩) (by assumption) ?rb12
  case hb12 => (intro w hSw; obtain ⟨s0, s1⟩ := hSw; go_simp; with_reducible rfl)
  simp only [Act.put, List.setIfInBounds_toArray, List.set_cons_zero, List.set_cons_succ]
  refine wpAnyK_take 13 28 (v := ?vb13) rfl (by kernel_rfl) (by kernel_rfl) (by kernel_rfl) (by kernel_rfl) (by kernel_rfl) (fun _ _ _ h => h) rfl (Or.inl ⟨by rfl, ?hb13⟩) (by assumption) ?rb13
  case hb13 => (intro w hSw; obtain ⟨s0, s1⟩ := hSw; go_simp; with_reducible rfl)
  simp only [Act.put, List.setIfInBounds_toArray, List.set_cons_zero, List.set_cons_succ]
  refine wpAnyK_two 7 14 (by kernel_rfl) rfl rfl (fun K hK => ?_) (fun K hK => ?_)
  ·
   go_simp
   have gX := hide (Ff.gl_one W 26 HZ.out)
   have bX := bw_alloc W (.cells #[.complex .f64 x y] 26)
   replace kk := hide (kk.out.alloc (.cells #[.complex .f64 x y] 26))
   replace oP := hide (World.ownsRow.alloc oP.out (.cells #[.complex .f64 x y] 26))
   replace oF := hide (World.ownsRow.alloc oF.out (.cells #[.complex .f64 x y] 26))
   clear bX
   refine hK.out _ _ (fun _ _ => ⟨kk.out.c0, kk.out.c1⟩) ?_
   clear hK K
   simp only [Act.put, List.setIfInBounds_toArray, List.set_cons_zero, List.set_cons_succ]
   have hXU1 := hide (show W.heap.size < (W.alloc (.cells #[.complex .f64 x y] 26)).heap.size by simp)
   generalize W.alloc (.cells #[.complex .f64 x y] 26) = U1 at gX kk oP oF  hXU1 ⊢
   refine wpAnyK_two 8 14 (by kernel_rfl) rfl rfl (fun K hK => ?_) (fun K hK => ?_)
   ·
    rw [if_pos (by rfl)]
    obtain ⟨v1, U2, vals1, e1, o1, l1, g1, q1⟩ := Ff.pushC 40 oP.out HD.out.vl gX.out (m := 1) rfl (by omega) kk.out.bs
    have E1 := hide e1
    have g1' := hide g1
    replace oF := hide (oF.out.kept g1 (by
     cases q : (Value.slice a' cs.length cap').ownBlock with
     | none => exact Or.inl rfl
     | some t => exact Or.inr (fun e => HD.out.dj t e.symm q)))
    have hq1 := hide (show v1.ownBlock = (Value.slice a cs.length cap).ownBlock ∨ ∃ s, v1.ownBlock = some s ∧ W.heap.size ≤ s from q1.imp id (fun e => ⟨_, e, kk.out.sz⟩))
    replace kk := hide (kk.out.grow g1 HD.out.nP (fun x e => (HD.out.oP.lt x e).1))
    have oQ := hide o1
    have HV := hide l1
    clear e1 o1 l1 g1 q1
    refine ff_append1 _ _ _ (by rfl) _ _ _ (by rfl) (by rfl) _ E1.out ?_
    refine hK.out _ _ (fun _ _ => ⟨kk.out.c0, kk.out.c1⟩) ?_
    clear hK K
    simp only [Act.put, List.setIfInBounds_toArray, List.set_cons_zero, List.set_cons_succ]
    refine wpAnyK_one 14 (by kernel_rfl) rfl (fun K hK => ?_)
    go_simp
    have cN := hide (show (U2.alloc (.cells #[.int .i64 (n : Int)] 3)).cell? ⟨U2.heap.size, 0, none⟩ = some (.int .i64 (n : Int)) by simp)
    have bN := bw_alloc U2 (.cells #[.int .i64 (n : Int)] 3)
    replace kk := hide (kk.out.alloc (.cells #[.int .i64 (n : Int)] 3))
    replace oF := hide (World.ownsRow.alloc oF.out (.cells #[.int .i64 (n : Int)] 3))
    replace oQ := hide (World.ownsRow.alloc oQ.out (.cells #[.int .i64 (n : Int)] 3))
    clear bN
    refine hK.out _ _ (fun _ _ => ⟨kk.out.c0, kk.out.c1⟩) ?_
    clear hK K
    simp only [Act.put, List.setIfInBounds_toArray, List.set_cons_zero, List.set_cons_succ]
    have hNU3 := hide (show U2.heap.size < (U2.alloc (.cells #[.int .i64 (n : Int)] 3)).heap.size by simp)
    generalize U2.alloc (.cells #[.int .i64 (n : Int)] 3) = U3 at cN kk oF oQ hNU3 ⊢
    refine wpAnyK_one 15 (by kernel_rfl) rfl (fun K hK => ?_)
    rw [if_pos (by rfl)]
    obtain ⟨v2, V, e2, o2, g2, q2⟩ := Ff.pushI 50 oF.out cN.out (by omega) kk.out.bs
    have E2 := hide e2
    have FN := hide (HD.out.fin kk.out g2 oQ.out HV.out o2 hq1.out q2)
    have kV := hide (kk.out.grow g2 HD.out.nF (fun x e => (HD.out.oF.lt x e).1))
    clear e2 o2 g2 q2
    refine ff_append1 _ _ _ (by rfl) _ _ _ (by rfl) (by rfl) _ E2.out ?_
    refine hK.out _ _ (fun _ _ => ⟨kV.out.c0, kV.out.c1⟩) ?_
    clear hK K
    simp only [Act.put, List.setIfInBounds_toArray, List.set_cons_zero, List.set_cons_succ]
    have sV : V.cell? ⟨B, 0, none⟩ = some (.slice a cs.length cap) ∧ V.cell? ⟨B, 1, none⟩ = some (.slice a' cs.length cap') := ⟨kV.out.c0, kV.out.c1⟩
    refine wpAnyK_take 16 31 (v := ?vx16) rfl (by kernel_rfl) (by kernel_rfl) (by kernel_rfl) (by kernel_rfl) (by kernel_rfl) (fun _ _ _ h => h) rfl (Or.inl ⟨by rfl, ?hx16⟩) (by assumption) ?rx16
    case hx16 => (intro w hSw; obtain ⟨s0, s1⟩ := hSw; go_simp; with_reducible rfl)
    simp only [Act.put, List.setIfInBounds_toArray, List.set_cons_zero, List.set_cons_succ]
    refine wpAnyK_take 17 32 (v := ?vx17) rfl (by kernel_rfl) (by kernel_rfl) (by kernel_rfl) (by kernel_rfl) (by kernel_rfl) (fun _ _ _ h => h) rfl (Or.inl ⟨by rfl, ?hx17⟩) (by assumption) ?rx17
    case hx17 => (intro w hSw; obtain ⟨s0, s1⟩ := hSw; go_simp; with_reducible rfl)
    simp only [Act.put, List.setIfInBounds_toArray, List.set_cons_zero, List.set_cons_succ]
    have sV0 := sV.1
    have fz0 := kV.out.fz 0
    have sV1 : (V.setCell ⟨B, 0, none⟩ v1).cell? ⟨B, 1, none⟩ = some (.slice a' cs.length cap') := (Ff.set_off (by decide)).trans sV.2
    have fz1 : (V.setCell ⟨B, 0, none⟩ v1).frozen? ⟨B, 1, none⟩ = false := (World.frozen?_setCell _ _ _ _).trans (kV.out.fz 1)
    obtain ⟨p1, n1, k1, rfl⟩ : ∃ p n k, v1 = .slice p n k := (Ff.own_form oQ.out)
    obtain ⟨p2, n2, k2, rfl⟩ : ∃ p n k, v2 = .slice p n k := (Ff.own_form FN.out.1.oF)
    refine wpAnyK_one 18 (by kernel_rfl) rfl (fun K hK => ?_)
    go_simp
    refine hK.out _ _ (fun h => absurd rfl h) ?_
    clear hK K
    simp only [List.setIfInBounds_toArray, List.set_cons_zero, List.set_cons_succ]
    refine wpAnyK_one 19 (by kernel_rfl) rfl (fun K hK => ?_)
    go_simp
    refine hK.out _ _ (fun _ h => absurd h (by decide)) ?_
    clear hK K
    simp only [List.setIfInBounds_toArray, List.set_cons_zero, List.set_cons_succ]
    refine wpAnyK_one 20 (by kernel_rfl) rfl (fun K hK => ?_)
    go_simp
    refine hK.out _ _ (fun _ h => absurd h (by decide)) ?_
    clear hK K
    simp only [List.setIfInBounds_toArray, List.set_cons_zero, List.set_cons_succ]
    refine wpAnyK_one 21 (by kernel_rfl) rfl (fun K hK => ?_)
    go_simp
    refine hK.out _ _ (fun _ h => absurd h (by decide)) ?_
    clear hK K
    simp only [List.setIfInBounds_toArray, List.set_cons_zero, List.set_cons_succ]
    refine wpAnyK_done (by kernel_rfl) ?_ _
    go_wp2
    refine bodyPost_ret (results_none rfl _ _ _) rfl ?_
    exact ⟨rfl, _, _, _, by rw [HNEW.out]; exact FN.out.1, Below.trans HB0.out FN.out.2⟩
   ·
    go_simp
    have cN := hide (show (U1.alloc (.cells #[.int .i64 (n : Int)] 3)).cell? ⟨U1.heap.size, 0, none⟩ = some (.int .i64 (n : Int)) by simp)
    have bN := bw_alloc U1 (.cells #[.int .i64 (n : Int)] 3)
    replace kk := hide (kk.out.alloc (.cells #[.int .i64 (n : Int)] 3))
    replace oP := hide (World.ownsRow.alloc oP.out (.cells #[.int .i64 (n : Int)] 3))
    replace oF := hide (World.ownsRow.alloc oF.out (.cells #[.int .i64 (n : Int)] 3))
    replace gX := hide (gX.out.bw bN)
    clear bN
    refine hK.out _ _ (fun _ _ => ⟨kk.out.c0, kk.out.c1⟩) ?_
    clear hK K
    simp only [Act.put, List.setIfInBounds_toArray, List.set_cons_zero, List.set_cons_succ]
    have hNU2 := hide (show U1.heap.size < (U1.alloc (.cells #[.int .i64 (n : Int)] 3)).heap.size by simp)
    generalize U1.alloc (.cells #[.int .i64 (n : Int)] 3) = U2 at cN kk oP oF gX hNU2 ⊢
    refine wpAnyK_one 8 (by kernel_rfl) rfl (fun K hK => ?_)
    rw [if_pos (by rfl)]
    obtain ⟨v1, U3, vals1, e1, o1, l1, g1, q1⟩ := Ff.pushC 40 oP.out HD.out.vl gX.out (m := 1) rfl (by omega) kk.out.bs
    have E1 := hide e1
    have g1' := hide g1
    replace oF := hide (oF.out.kept g1 (by
     cases q : (Value.slice a' cs.length cap').ownBlock with
     | none => exact Or.inl rfl
     | some t => exact Or.inr (fun e => HD.out.dj t e.symm q)))
    replace cN := hide (g1.cell cN.out (fun e => absurd (HD.out.oP.lt _ e.symm).2 (by show ¬ (U1.heap.size < W.heap.size); have := hXU1.out; omega)))
    have hq1 := hide (show v1.ownBlock = (Value.slice a cs.length cap).ownBlock ∨ ∃ s, v1.ownBlock = some s ∧ W.heap.size ≤ s from q1.imp id (fun e => ⟨_, e, kk.out.sz⟩))
    replace kk := hide (kk.out.grow g1 HD.out.nP (fun x e => (HD.out.oP.lt x e).1))
    have oQ := hide o1
    have HV := hide l1
    clear e1 o1 l1 g1 q1
    refine ff_append1 _ _ _ (by rfl) _ _ _ (by rfl) (by rfl) _ E1.out ?_
    refine hK.out _ _ (fun _ _ => ⟨kk.out.c0, kk.out.c1⟩) ?_
    clear hK K
    simp only [Act.put, List.setIfInBounds_toArray, List.set_cons_zero, List.set_cons_succ]
    refine wpAnyK_one 15 (by kernel_rfl) rfl (fun K hK => ?_)
    rw [if_pos (by rfl)]
    obtain ⟨v2, V, e2, o2, g2, q2⟩ := Ff.pushI 50 oF.out cN.out (by omega) kk.out.bs
    have E2 := hide e2
    have FN := hide (HD.out.fin kk.out g2 oQ.out HV.out o2 hq1.out q2)
    have kV := hide (kk.out.grow g2 HD.out.nF (fun x e => (HD.out.oF.lt x e).1))
    clear e2 o2 g2 q2
    refine ff_append1 _ _ _ (by rfl) _ _ _ (by rfl) (by rfl) _ E2.out ?_
    refine hK.out _ _ (fun _ _ => ⟨kV.out.c0, kV.out.c1⟩) ?_
    clear hK K
    simp only [Act.put, List.setIfInBounds_toArray, List.set_cons_zero, List.set_cons_succ]
    have sV : V.cell? ⟨B, 0, none⟩ = some (.slice a cs.length cap) ∧ V.cell? ⟨B, 1, none⟩ = some (.slice a' cs.length cap') := ⟨kV.out.c0, kV.out.c1⟩
    refine wpAnyK_take 16 31 (v := ?vy16) rfl (by kernel_rfl) (by kernel_rfl) (by kernel_rfl) (by kernel_rfl) (by kernel_rfl) (fun _ _ _ h => h) rfl (Or.inl ⟨by rfl, ?hy16⟩) (by assumption) ?ry16
    case hy16 => (intro w hSw; obtain ⟨s0, s1⟩ := hSw; go_simp; with_reducible rfl)
    simp only [Act.put, List.setIfInBounds_toArray, List.set_cons_zero, List.set_cons_succ]
    refine wpAnyK_take 17 32 (v := ?vy17) rfl (by kernel_rfl) (by kernel_rfl) (by kernel_rfl) (by kernel_rfl) (by kernel_rfl) (fun _ _ _ h => h) rfl (Or.inl ⟨by rfl, ?hy17⟩) (by assumption) ?ry17
    case hy17 => (intro w hSw; obtain ⟨s0, s1⟩ := hSw; go_simp; with_reducible rfl)
    simp only [Act.put, List.setIfInBounds_toArray, List.set_cons_zero, List.set_cons_succ]
    have sV0 := sV.1
    have fz0 := kV.out.fz 0
    have sV1 : (V.setCell ⟨B, 0, none⟩ v1).cell? ⟨B, 1, none⟩ = some (.slice a' cs.length cap') := (Ff.set_off (by decide)).trans sV.2
    have fz1 : (V.setCell ⟨B, 0, none⟩ v1).frozen? ⟨B, 1, none⟩ = false := (World.frozen?_setCell _ _ _ _).trans (kV.out.fz 1)
    obtain ⟨p1, n1, k1, rfl⟩ : ∃ p n k, v1 = .slice p n k := (Ff.own_form oQ.out)
    obtain ⟨p2, n2, k2, rfl⟩ : ∃ p n k, v2 = .slice p n k := (Ff.own_form FN.out.1.oF)
    refine wpAnyK_one 18 (by kernel_rfl) rfl (fun K hK => ?_)
    go_simp
    refine hK.out _ _ (fun h => absurd rfl h) ?_
    clear hK K
    simp only [List.setIfInBounds_toArray, List.set_cons_zero, List.set_cons_succ]
    refine wpAnyK_one 19 (by kernel_rfl) rfl (fun K hK => ?_)
    go_simp
    refine hK.out _ _ (fun _ h => absurd h (by decide)) ?_
    clear hK K
    simp only [List.setIfInBounds_toArray, List.set_cons_zero, List.set_cons_succ]
    refine wpAnyK_one 20 (by kernel_rfl) rfl (fun K hK => ?_)
    go_simp
    refine hK.out _ _ (fun _ h => absurd h (by decide)) ?_
    clear hK K
    simp only [List.setIfInBounds_toArray, List.set_cons_zero, List.set_cons_succ]
    refine wpAnyK_one 21 (by kernel_rfl) rfl (fun K hK => ?_)
    go_simp
    refine hK.out _ _ (fun _ h => absurd h (by decide)) ?_
    clear hK K
    simp only [List.setIfInBounds_toArray, List.set_cons_zero, List.set_cons_succ]
    refine wpAnyK_done (by kernel_rfl) ?_ _
    go_wp2
    refine bodyPost_ret (results_none rfl _ _ _) rfl ?_
    exact ⟨rfl, _, _, _, by rw [HNEW.out]; exact FN.out.1, Below.trans HB0.out FN.out.2⟩
  ·
   go_simp
   have cN := hide (show (W.alloc (.cells #[.int .i64 (n : Int)] 3)).cell? ⟨W.heap.size, 0, none⟩ = some (.int .i64 (n : Int)) by simp)
   have bN := bw_alloc W (.cells #[.int .i64 (n : Int)] 3)
   replace kk := hide (kk.out.alloc (.cells #[.int .i64 (n : Int)] 3))
   replace oP := hide (World.ownsRow.alloc oP.out (.cells #[.int .i64 (n : Int)] 3))
   replace oF := hide (World.ownsRow.alloc oF.out (.cells #[.int .i64 (n : Int)] 3))
   clear bN
   refine hK.out _ _ (fun _ _ => ⟨kk.out.c0, kk.out.c1⟩) ?_
   clear hK K
   simp only [Act.put, List.setIfInBounds_toArray, List.set_cons_zero, List.set_cons_succ]
   have hNU1 := hide (show W.heap.size < (W.alloc (.cells #[.int .i64 (n : Int)] 3)).heap.size by simp)
   generalize W.alloc (.cells #[.int .i64 (n : Int)] 3) = U1 at cN kk oP oF  hNU1 ⊢
   refine wpAnyK_one 7 (by kernel_rfl) rfl (fun K hK => ?_)
   go_simp
   have gX := hide (Ff.gl_one U1 26 HZ.out)
   have bX := bw_alloc U1 (.cells #[.complex .f64 x y] 26)
   replace kk := hide (kk.out.alloc (.cells #[.complex .f64 x y] 26))
   replace oP := hide (World.ownsRow.alloc oP.out (.cells #[.complex .f64 x y] 26))
   replace oF := hide (World.ownsRow.alloc oF.out (.cells #[.complex .f64 x y] 26))
   replace cN := hide ((Below.cell bX (p := ⟨W.heap.size, 0, none⟩) (by have := hNU1.out; exact this)).trans cN.out)
   clear bX
   refine hK.out _ _ (fun _ _ => ⟨kk.out.c0, kk.out.c1⟩) ?_
   clear hK K
   simp only [Act.put, List.setIfInBounds_toArray, List.set_cons_zero, List.set_cons_succ]
   have hXU2 := hide (show U1.heap.size < (U1.alloc (.cells #[.complex .f64 x y] 26)).heap.size by simp)
   generalize U1.alloc (.cells #[.complex .f64 x y] 26) = U2 at gX kk oP oF cN hXU2 ⊢
   refine wpAnyK_one 8 (by kernel_rfl) rfl (fun K hK => ?_)
   rw [if_pos (by rfl)]
   obtain ⟨v1, U3, vals1, e1, o1, l1, g1, q1⟩ := Ff.pushC 40 oP.out HD.out.vl gX.out (m := 1) rfl (by omega) kk.out.bs
   have E1 := hide e1
   have g1' := hide g1
   replace oF := hide (oF.out.kept g1 (by
    cases q : (Value.slice a' cs.length cap').ownBlock with
    | none => exact Or.inl rfl
    | some t => exact Or.inr (fun e => HD.out.dj t e.symm q)))
   replace cN := hide (g1.cell cN.out (fun e => absurd (HD.out.oP.lt _ e.symm).2 (by show ¬ (W.heap.size < W.heap.size); skip; omega)))
   have hq1 := hide (show v1.ownBlock = (Value.slice a cs.length cap).ownBlock ∨ ∃ s, v1.ownBlock = some s ∧ W.heap.size ≤ s from q1.imp id (fun e => ⟨_, e, kk.out.sz⟩))
   replace kk := hide (kk.out.grow g1 HD.out.nP (fun x e => (HD.out.oP.lt x e).1))
   have oQ := hide o1
   have HV := hide l1
   clear e1 o1 l1 g1 q1
   refine ff_append1 _ _ _ (by rfl) _ _ _ (by rfl) (by rfl) _ E1.out ?_
   refine hK.out _ _ (fun _ _ => ⟨kk.out.c0, kk.out.c1⟩) ?_
   clear hK K
   simp only [Act.put, List.setIfInBounds_toArray, List.set_cons_zero, List.set_cons_succ]
   refine wpAnyK_one 15 (by kernel_rfl) rfl (fun K hK => ?_)
   rw [if_pos (by rfl)]
   obtain ⟨v2, V, e2, o2, g2, q2⟩ := Ff.pushI 50 oF.out cN.out (by omega) kk.out.bs
   have E2 := hide e2
   have FN := hide (HD.out.fin kk.out g2 oQ.out HV.out o2 hq1.out q2)
   have kV := hide (kk.out.grow g2 HD.out.nF (fun x e => (HD.out.oF.lt x e).1))
   clear e2 o2 g2 q2
   refine ff_append1 _ _ _ (by rfl) _ _ _ (by rfl) (by rfl) _ E2.out ?_
   refine hK.out _ _ (fun _ _ => ⟨kV.out.c0, kV.out.c1⟩) ?_
   clear hK K
   simp only [Act.put, List.setIfInBounds_toArray, List.set_cons_zero, List.set_cons_succ]
   have sV : V.cell? ⟨B, 0, none⟩ = some (.slice a cs.length cap) ∧ V.cell? ⟨B, 1, none⟩ = some (.slice a' cs.length cap') := ⟨kV.out.c0, kV.out.c1⟩
   refine wpAnyK_take 16 31 (v := ?vz16) rfl (by kernel_rfl) (by kernel_rfl) (by kernel_rfl) (by kernel_rfl) (by kernel_rfl) (fun _ _ _ h => h) rfl (Or.inl ⟨by rfl, ?hz16⟩) (by assumption) ?rz16
   case hz16 => (intro w hSw; obtain ⟨s0, s1⟩ := hSw; go_simp; with_reducible rfl)
   simp only [Act.put, List.setIfInBounds_toArray, List.set_cons_zero, List.set_cons_succ]
   refine wpAnyK_take 17 32 (v := ?vz17) rfl (by kernel_rfl) (by kernel_rfl) (by kernel_rfl) (by kernel_rfl) (by kernel_rfl) (fun _ _ _ h => h) rfl (Or.inl ⟨by rfl, ?hz17⟩) (by assumption) ?rz17
   case hz17 => (intro w hSw; obtain ⟨s0, s1⟩ := hSw; go_simp; with_reducible rfl)
   simp only [Act.put, List.setIfInBounds_toArray, List.set_cons_zero, List.set_cons_succ]
   have sV0 := sV.1
   have fz0 := kV.out.fz 0
   have sV1 : (V.setCell ⟨B, 0, none⟩ v1).cell? ⟨B, 1, none⟩ = some (.slice a' cs.length cap') := (Ff.set_off (by decide)).trans sV.2
   have fz1 : (V.setCell ⟨B, 0, none⟩ v1).frozen? ⟨B, 1, none⟩ = false := (World.frozen?_setCell _ _ _ _).trans (kV.out.fz 1)
   obtain ⟨p1, n1, k1, rfl⟩ : ∃ p n k, v1 = .slice p n k := (Ff.own_form oQ.out)
   obtain ⟨p2, n2, k2, rfl⟩ : ∃ p n k, v2 = .slice p n k := (Ff.own_form FN.out.1.oF)
   refine wpAnyK_one 18 (by kernel_rfl) rfl (fun K hK => ?_)
   go_simp
   refine hK.out _ _ (fun h => absurd rfl h) ?_
   clear hK K
   simp only [List.setIfInBounds_toArray, List.set_cons_zero, List.set_cons_succ]
   refine wpAnyK_one 19 (by kernel_rfl) rfl (fun K hK => ?_)
   go_simp
   refine hK.out _ _ (fun _ h => absurd h (by decide)) ?_
   clear hK K
   simp only [List.setIfInBounds_toArray, List.set_cons_zero, List.set_cons_succ]
   refine wpAnyK_one 20 (by kernel_rfl) rfl (fun K hK => ?_)
   go_simp
   refine hK.out _ _ (fun _ h => absurd h (by decide)) ?_
   clear hK K
   simp only [List.setIfInBounds_toArray, List.set_cons_zero, List.set_cons_succ]
   refine wpAnyK_one 21 (by kernel_rfl) rfl (fun K hK => ?_)
   go_simp
   refine hK.out _ _ (fun _ h => absurd h (by decide)) ?_
   clear hK K
   simp only [List.setIfInBounds_toArray, List.set_cons_zero, List.set_cons_succ]
   refine wpAnyK_done (by kernel_rfl) ?_ _
   go_wp2
   refine bodyPost_ret (results_none rfl _ _ _) rfl ?_
   exact ⟨rfl, _, _, _, by rw [HNEW.out]; exact FN.out.1, Below.trans HB0.out FN.out.2⟩
end Go.Proofs.YtjpllggchjgjpaaGreat

