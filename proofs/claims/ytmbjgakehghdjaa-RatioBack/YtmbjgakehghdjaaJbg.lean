/-
  OWN TEXT: how great the numbers of the law PolyWhole get; its 'like'.
-/
import Derived.Test.YtmbjgakehghdjaaJbf
import Derived.Test.YtmbjgakehghdjaaJau
import Derived.Test.YtmbjgakehghdjaaJbe
namespace Go.Proofs.Ytmbjgakehghdjaa
open Go.ChangeShapes Go.WideShapes Go.ChangeAt Go.RowKit
set_option linter.unusedVariables false
attribute [local go_sem] frombits_call tobits_call run_neg run_store_cx
/-- A, and Z times what stands, and A .. -/
def hrn (A Z : Nat) : Nat → Nat
  | 0 => A
  | t + 1 => hrn A Z t * Z + A
theorem hrn_up {A Z : Nat} (hZ : 1 ≤ Z) (t : Nat) : hrn A Z t ≤ hrn A Z (t + 1) := by
  show hrn A Z t ≤ hrn A Z t * Z + A
  have := Nat.le_mul_of_pos_right (hrn A Z t) (show 0 < Z by omega)
  omega
theorem hrn_mono {A Z : Nat} (hZ : 1 ≤ Z) {t n : Nat} (h : t ≤ n) : hrn A Z t ≤ hrn A Z n := by
  induction n with
  | zero => rw [show t = 0 by omega]; exact Nat.le_refl _
  | succ n ih =>
    by_cases k : t = n + 1
    · rw [k]; exact Nat.le_refl _
    · exact Nat.le_trans (ih (by omega)) (hrn_up hZ n)
theorem steps_of {l : List Py.G} {n N A Z : Nat} (hl : ∀ i, Py.Le (Py.co l i) A) (hZ : 1 ≤ Z) (hn : n ≤ N) (hN : hrn A Z N ≤ 9007199254740992) : Steps l n Z (fun k => hrn A Z (n - k)) := by
  refine ⟨?_, fun k hk => ⟨A, hl k, ?_⟩, fun k hk => Nat.le_trans (hrn_mono hZ (by omega)) hN⟩
  · simp only [Nat.sub_self]; exact hl n
  · simp only
    rw [show n - k = (n - (k + 1)) + 1 by omega]
    exact Nat.le_refl _
theorem ev_le {l : List Py.G} {z : Py.G} {A Z : Nat} (hl : ∀ i, Py.Le (Py.co l i) A) (hz : Py.Le z Z) (n : Nat) (hn : l.length = n + 1) : Py.Le (Py.ev l z) (hrn A Z n) := by
  induction n generalizing l with
  | zero =>
    match l, hn with
    | [c], _ =>
      rw [Py.ev, Py.ev, Py.nought_gm, Py.nought_ga]
      exact hl 0
  | succ n ih =>
    match l, hn with
    | c :: r, hn =>
      rw [Py.ev]
      exact ((ih (fun i => hl (i + 1)) (by simpa using hn)).mul hz).add (hl 0)
/-- a shifted polynomial -/
theorem steps_shift {l l' : List Py.G} {g : Py.G} {n m : Nat} (hn : l.length = n + 1) (h6 : n ≤ 6) (hm : m ≤ n) (hl : ∀ i, Py.Le (Py.co l i) 12) (hg : Py.Le g 12) (hc : ∀ i, Py.co l' i = Py.co (Py.shs g l n) i) : Steps l' m 12 (fun k => 2 * (12 * 2 ^ n) * 24 ^ (n - k)) := by
  have hb : ∀ i, Py.Le (Py.co l' i) (12 * 2 ^ n * 24 ^ (n - i)) := fun i => by rw [hc]; exact Py.shs_le g l 12 12 n hn hg hl (by omega) n (Nat.le_refl _) i
  refine ⟨(hb m).mono ?_, fun k hk => ⟨_, hb k, ?_⟩, fun k hk => ?_⟩
  · exact Nat.mul_le_mul_right _ (by omega)
  · simp only
    rw [show n - k = (n - (k + 1)) + 1 by omega, Nat.pow_succ]
    generalize 12 * 2 ^ n = a
    generalize 24 ^ (n - (k + 1)) = q
    have e1 : 2 * a * q * 12 = 24 * (a * q) := by
      rw [Nat.mul_assoc 2 a q]; omega
    have e2 : a * (q * 24) = 24 * (a * q) := by rw [← Nat.mul_assoc]; omega
    have e3 : 2 * a * (q * 24) = 48 * (a * q) := by rw [Nat.mul_assoc 2 a, ← Nat.mul_assoc a]; omega
    omega
  · simp only
    have h1 : 2 ^ n ≤ 2 ^ 6 := Nat.pow_le_pow_right (by omega) h6
    have h2 : 24 ^ (n - k) ≤ 24 ^ 6 := Nat.pow_le_pow_right (by omega) (by omega)
    refine Nat.le_trans (Nat.mul_le_mul (Nat.mul_le_mul_left 2 (Nat.mul_le_mul_left 12 h1)) h2) (by decide)
theorem shift_le {l : List Py.G} {g : Py.G} {n : Nat} (hn : l.length = n + 1) (h6 : n ≤ 6) (hl : ∀ i, Py.Le (Py.co l i) 12) (hg : Py.Le g 12) : ∀ j, j ≤ n → ∀ i, Py.Le (Py.co (Py.shs g l j) i) 146767085568 := fun j hj i => by
  refine (Py.shs_le g l 12 12 n hn hg hl (by omega) j hj i).mono ?_
  have h1 : 2 ^ j ≤ 2 ^ 6 := Nat.pow_le_pow_right (by omega) (by omega)
  have h2 : 24 ^ (n - i) ≤ 24 ^ 6 := Nat.pow_le_pow_right (by omega) (by omega)
  exact Nat.le_trans (Nat.mul_le_mul (Nat.mul_le_mul_left 12 h1) h2) (by decide)
theorem e8_mul {g h : Py.G} (hg : E8 g) (hh : E8 h) : Py.Le (Py.gm g h) 128 := by
  have n8 : ∀ m : Int, m.natAbs ≤ 8 → m * m ≤ 64 := fun m hm => by
    have : m * m = (m.natAbs * m.natAbs : Nat) := by rw [Int.natAbs_mul_self]
    rw [this]
    have := Nat.mul_le_mul hm hm
    omega
  have a1 := n8 _ hg.1
  have a2 := n8 _ hg.2
  have b1 := n8 _ hh.1
  have b2 := n8 _ hh.2
  show (g.1 * h.1 - g.2 * h.2) * (g.1 * h.1 - g.2 * h.2) + (g.1 * h.2 + g.2 * h.1) * (g.1 * h.2 + g.2 * h.1) ≤ _
  have e : (g.1 * h.1 - g.2 * h.2) * (g.1 * h.1 - g.2 * h.2) + (g.1 * h.2 + g.2 * h.1) * (g.1 * h.2 + g.2 * h.1) = (g.1 * g.1 + g.2 * g.2) * (h.1 * h.1 + h.2 * h.2) := by grind
  rw [e]
  have n3 := Py.sq_nonneg h.1
  have n4 := Py.sq_nonneg h.2
  have m := Int.mul_le_mul (show g.1 * g.1 + g.2 * g.2 ≤ 128 by omega) (show h.1 * h.1 + h.2 * h.2 ≤ 128 by omega) (by omega) (by decide)
  exact Int.le_trans m (by decide)
theorem ts_le8 {a b : List Py.G} (ha : ∀ i, E8 (Py.co a i)) (hb : ∀ i, E8 (Py.co b i)) (j k : Nat) : Py.Le (Py.ts a b j k) (k * 128) := by
  induction k with
  | zero => exact Py.Le.nought _
  | succ k ih =>
    rw [Py.ts, Nat.add_mul, Nat.one_mul]
    refine ih.add ?_
    by_cases c : k ≤ j
    · rw [if_pos c]; exact e8_mul (ha _) (hb _)
    · rw [if_neg c]; exact Py.Le.nought _
end Go.Proofs.Ytmbjgakehghdjaa
/-
  OWN TEXT: package ratio: Poles, of whole complex numbers.
-/
namespace Go.Proofs.Ytmbjgakehghdjaa
open Go.ChangeShapes Go.WideShapes Go.ChangeAt Go.RowKit
set_option linter.unusedVariables false
attribute [local go_sem] frombits_call tobits_call run_neg run_store_cx
/-- noughts, as make lays poles -/
def zcP (n : Nat) : Array Value := madeCells #[.complex .f64 0 0, .complex .f64 0 0] (n * 2)
theorem make_p (n : Nat) (h : n ≤ 100000) (w : World) :
    (Instr.makeSlice 37 (.int .i64 n) (.int .i64 n)).run Try.prog w = .ok (.slice (some ⟨w.heap.size, 0, none⟩) n n) (w.alloc (.cells (zcP n) 42)) := by
  have k : (Try.prog.info? 42).map (fun i => (i.zero, i.size, i.bytes)) = some (some (.agg #[.complex .f64 0 0, .complex .f64 0 0]), 2, 32) := by kernel_rfl
  obtain ⟨i, hi, he⟩ := Option.map_eq_some_iff.1 k
  simp only [Prod.mk.injEq] at he
  have hr := run_make (P := Try.prog) w 37 42 i (.agg #[.complex .f64 0 0, .complex .f64 0 0]) (by kernel_rfl) hi he.1 .i64 .i64 n n (by omega) (by omega) (by rw [he.2.2]; omega) (by omega)
  rw [he.2.1] at hr
  exact hr
theorem made_p (w : World) (n i : Nat) (hi : i < 2 * n) : (w.alloc (.cells (zcP n) 42)).cell? ⟨w.heap.size, i, none⟩ = some (.complex .f64 0 0) := by
  rw [World.cell?_alloc_at _ _ _ _ rfl]
  unfold zcP madeCells
  have h2 : i < n * 2 := by omega
  rcases Nat.mod_two_eq_zero_or_one i with z | z
  · simp [z, h2]
  · simp [z, h2]
theorem dpoles10 {w : World} {E O : Nat} (u : FrameMode) (hE : w.cell? ⟨E, 0, none⟩ = some (.int .i64 0)) :
    CallsD Try.prog 42 #[.pointer (some ⟨E, 0, none⟩), .pointer (some ⟨O, 0, none⟩)] u w fun e u' w' => u' = u ∧ (e = .returned (.tuple #[]) ∧ w' = w) := by
  go_enter_d Try.func42, Try.ntmps42
  go_wp2
  go_end0
  exact ⟨rfl, rfl⟩
theorem sl_load {w : World} {F : Nat} {a : Option Addr} {n k : Nat} (h : w.cell? ⟨F, 0, none⟩ = some (.slice a n k)) : (loadVar 37 ⟨F, 0, none⟩).run Try.prog w = .ok (.slice a n k) w := by
  simp [loadVar, Sem.run_bind, isAgg, run_underlying Try.underlying37 w, h, go_sem]
theorem res_sc {fn : Func} {p q : Tmp} (hr : fn.results = #[.cell p 37, .cell q 28]) (tmps : Array Value) (w : World) (F E : Nat) (a : Option Addr) (n k : Nat) (e : Int) (hp : tmps.getD p undef = .pointer (some ⟨F, 0, none⟩)) (hq : tmps.getD q undef = .pointer (some ⟨E, 0, none⟩)) (h : w.cell? ⟨F, 0, none⟩ = some (.slice a n k)) (he : w.cell? ⟨E, 0, none⟩ = some (.int .i64 e)) : (results fn tmps).run Try.prog w = .ok (.tuple #[.slice a n k, .int .i64 e]) w := by
  have hp' : tmps[p]?.getD undef = .pointer (some ⟨F, 0, none⟩) := by simpa using hp
  have hq' : tmps[q]?.getD undef = .pointer (some ⟨E, 0, none⟩) := by simpa using hq
  simp [results, hr, hp', hq', asAddr, sl_load h, int_load he]
/-- one cell that may be written -/
def Oc (w : World) (O : Nat) (v : Value) : Prop := O < w.heap.size ∧ w.cell? ⟨O, 0, none⟩ = some v ∧ w.frozen? ⟨O, 0, none⟩ = false
theorem Oc.bw {w w' : World} {O : Nat} {v : Value} (h : Oc w O v) (k : Bw w w') : Oc w' O v :=
  ⟨Nat.lt_of_lt_of_le h.1 (Below.size k), (Below.cell k (p := ⟨O, 0, none⟩) h.1).trans h.2.1, (Below.frozen k (p := ⟨O, 0, none⟩) h.1).trans h.2.2⟩
theorem Oc.apart {w : World} {O B : Nat} {v : Value} (h : Oc w O v) (hB : O ≠ B) (i : Nat) (u : Value) : Oc (w.setCell ⟨B, i, none⟩ u) O v := by
  refine ⟨by simpa [World.setCell] using h.1, ?_, (World.frozen?_setCell _ _ _ _).trans h.2.2⟩
  rw [World.cell?_setCell_other]
  · exact h.2.1
  · intro e; cases e; exact hB rfl
theorem Oc.set {w : World} {O : Nat} {v : Value} (h : Oc w O v) (u : Value) : Oc (w.setCell ⟨O, 0, none⟩ u) O u :=
  ⟨by simpa [World.setCell] using h.1, World.cell?_setCell_same _ _ _ h.2.1, (World.frozen?_setCell _ _ _ _).trans h.2.2⟩
theorem Oc.made (w : World) (v : Value) (T : TypeId) : Oc (w.alloc (.cells #[v] T)) w.heap.size v := ⟨by simp, by simp, World.frozen?_alloc_at _ _ _ _ rfl⟩
/-- the poles as they get ready: the first k of n -/
def Pk (c : Nat) (w : World) (B n k : Nat) (zs rs : List Py.G) : Prop := B < w.heap.size ∧ (∀ i, w.frozen? ⟨B, i, none⟩ = false) ∧ (∀ i, i < 2 * n → ∃ x y, w.cell? ⟨B, i, none⟩ = some (.complex .f64 x y)) ∧
  ∀ i, i < k → ∃ x y u v, w.cell? ⟨B, 2 * i, none⟩ = some (.complex .f64 x y) ∧ w.cell? ⟨B, 2 * i + 1, none⟩ = some (.complex .f64 u v) ∧ wC c x y (Py.co zs i) ∧ cl8 c u (Py.co rs i).1 ∧ cl8 c v (Py.co rs i).2
theorem Pk.bw {c : Nat} {w w' : World} {B n k : Nat} {zs rs : List Py.G} (h : Pk c w B n k zs rs) (b : Bw w w') : Pk c w' B n k zs rs := by
  have ce : ∀ i, w'.cell? ⟨B, i, none⟩ = w.cell? ⟨B, i, none⟩ := fun i => Below.cell b (p := ⟨B, i, none⟩) h.1
  refine ⟨Nat.lt_of_lt_of_le h.1 (Below.size b), fun i => (Below.frozen b (p := ⟨B, i, none⟩) h.1).trans (h.2.1 i), fun i hi => ?_, fun i hi => ?_⟩
  · rw [ce]; exact h.2.2.1 i hi
  · rw [ce, ce]; exact h.2.2.2 i hi
theorem Pk.apart {c : Nat} {w : World} {B n k S : Nat} {zs rs : List Py.G} (h : Pk c w B n k zs rs) (hS : B ≠ S) (j : Nat) (v : Value) : Pk c (w.setCell ⟨S, j, none⟩ v) B n k zs rs := by
  have ce : ∀ i, (w.setCell ⟨S, j, none⟩ v).cell? ⟨B, i, none⟩ = w.cell? ⟨B, i, none⟩ := fun i => World.cell?_setCell_other _ _ _ _ (fun e => by cases e; exact hS rfl)
  refine ⟨by simpa [World.setCell] using h.1, fun i => (World.frozen?_setCell _ _ _ _).trans (h.2.1 i), fun i hi => ?_, fun i hi => ?_⟩
  · rw [ce]; exact h.2.2.1 i hi
  · rw [ce, ce]; exact h.2.2.2 i hi
/-- the place, then the residue of the number k -/
theorem Pk.step {c : Nat} {w w' : World} {B n k x y u v : Nat} {zs rs : List Py.G} (h : Pk c w B n k zs rs) (hk : k < n) (hb : Bw (w.setCell ⟨B, 2 * k, none⟩ (.complex .f64 x y)) w') (q : wC c x y (Py.co zs k)) (q1 : cl8 c u (Py.co rs k).1) (q2 : cl8 c v (Py.co rs k).2) : Pk c (w'.setCell ⟨B, 2 * k + 1, none⟩ (.complex .f64 u v)) B n (k + 1) zs rs := by
  obtain ⟨h1, h2, h3, h4⟩ := h
  have h1' : B < (w.setCell ⟨B, 2 * k, none⟩ (.complex .f64 x y)).heap.size := by simpa [World.setCell] using h1
  have ce : ∀ i, w'.cell? ⟨B, i, none⟩ = (w.setCell ⟨B, 2 * k, none⟩ (.complex .f64 x y)).cell? ⟨B, i, none⟩ := fun i => Below.cell hb (p := ⟨B, i, none⟩) h1'
  have c0 : ∀ i, i ≠ 2 * k → (w.setCell ⟨B, 2 * k, none⟩ (.complex .f64 x y)).cell? ⟨B, i, none⟩ = w.cell? ⟨B, i, none⟩ := fun i hi => World.cell?_setCell_other _ _ _ _ (fun e => by cases e; exact hi rfl)
  have c1 : (w.setCell ⟨B, 2 * k, none⟩ (.complex .f64 x y)).cell? ⟨B, 2 * k, none⟩ = some (.complex .f64 x y) := by
    obtain ⟨x', y', e⟩ := h3 (2 * k) (by omega)
    exact World.cell?_setCell_same _ _ _ e
  have d0 : ∀ i, i ≠ 2 * k + 1 → (w'.setCell ⟨B, 2 * k + 1, none⟩ (.complex .f64 u v)).cell? ⟨B, i, none⟩ = w'.cell? ⟨B, i, none⟩ := fun i hi => World.cell?_setCell_other _ _ _ _ (fun e => by cases e; exact hi rfl)
  have d1 : (w'.setCell ⟨B, 2 * k + 1, none⟩ (.complex .f64 u v)).cell? ⟨B, 2 * k + 1, none⟩ = some (.complex .f64 u v) := by
    obtain ⟨x', y', e⟩ := h3 (2 * k + 1) (by omega)
    have e' : w'.cell? ⟨B, 2 * k + 1, none⟩ = some (.complex .f64 x' y') := by rw [ce, c0 _ (by omega)]; exact e
    exact World.cell?_setCell_same _ _ _ e'
  refine ⟨Nat.lt_of_lt_of_le h1' (Nat.le_trans (Below.size hb) (by simp [World.setCell])), fun i => (World.frozen?_setCell _ _ _ _).trans ((Below.frozen hb (p := ⟨B, i, none⟩) h1').trans ((World.frozen?_setCell _ _ _ _).trans (h2 i))), fun i hi => ?_, fun i hi => ?_⟩
  · by_cases z : i = 2 * k + 1
    · subst z; exact ⟨u, v, d1⟩
    · rw [d0 i z, ce]
      by_cases z2 : i = 2 * k
      · subst z2; exact ⟨x, y, c1⟩
      · rw [c0 i z2]; exact h3 i hi
  · by_cases z : i = k
    · subst z
      exact ⟨x, y, u, v, by rw [d0 _ (by omega), ce]; exact c1, d1, q, q1, q2⟩
    · rw [d0 _ (by omega), d0 _ (by omega), ce, ce, c0 _ (by omega), c0 _ (by omega)]
      exact h4 i (by omega)
set_option maxHeartbeats 8000000 in
theorem rpoles10 {c : Nat} (hc : c = 1074) {w : World} {b1 o1 c1 n1 b2 o2 c2 n : Nat} {l1 l2 : List Py.G} {a : Option Addr} {cap : Nat} {zs rs : List Py.G} (hn : n ≤ 3) (m1 : May n1 l1) (m2 : May n l2) (x1 : Gl c w b1 o1 l1) (x2 : Gl c w b2 o2 l2) (z2 : Nz n l2) (k1 : n1 ≤ 3) (h : GL c w a n zs) (hz : ∀ i, Py.Le (Py.co zs i) 12) (hr : ∀ i, E8 (Py.co rs i))
    (t1 : ∀ i, Py.co l1 i = tt zs rs n i) (t2 : ∀ i, Py.co l2 i = Py.co (Py.ofl [(1, 0)] zs) i) (hd : ∀ m, m < n → ∀ j, j < n → j ≠ m → Py.co zs j ≠ Py.co zs m) :
    Calls Try.prog 14 #[.agg #[.slice (some ⟨b1, o1, none⟩) (n1 + 1) c1, .slice (some ⟨b2, o2, none⟩) (n + 1) c2], .slice a n cap] w fun e w' => ∃ B, e = .returned (.tuple #[.slice (some ⟨B, 0, none⟩) n n, .int .i64 0]) ∧ (B < w'.heap.size ∧ ∀ i, i < n → ∃ x y u v, w'.cell? ⟨B, 2 * i, none⟩ = some (.complex .f64 x y) ∧ w'.cell? ⟨B, 2 * i + 1, none⟩ = some (.complex .f64 u v) ∧ wC c x y (Py.co zs i) ∧ cl8 c u (Py.co rs i).1 ∧ cl8 c v (Py.co rs i).2) ∧ Bw w w' := by
  have hmf := makef10
  have HC := hide hc
  have H := hide h
  have HZ := hide hz
  clear hc h hz
  have HX := hide (And.intro m1 (And.intro m2 (And.intro z2 k1)))
  have HG := hide (And.intro x1 x2)
  have HT := hide (And.intro hr (And.intro t1 (And.intro t2 hd)))
  have hmk := make_p n (by omega)
  clear m1 m2 x1 x2 z2 k1 hr t1 t2 hd
  have z0 : ∀ (w : World) (o : Obj), (w.alloc o).heap.size = w.heap.size + 1 := fun w o => by simp
  obtain ⟨F, O, E, W3, eF, eO, eE, eW, fF, fO, fE, bW, q1, q2, q3⟩ : ∃ (F O E : Nat) (W : World), F = w.heap.size ∧ O = w.heap.size + 1 ∧ E = w.heap.size + 1 + 1 ∧ W = ((w.alloc (.cells #[.slice (some ⟨b1, o1, none⟩) (n1 + 1) c1, .slice (some ⟨b2, o2, none⟩) (n + 1) c2] 24)).alloc (.cells #[.slice none 0 0] 37)).alloc (.cells #[.int .i64 0] 28) ∧ Fc W F (.slice (some ⟨b1, o1, none⟩) (n1 + 1) c1) (.slice (some ⟨b2, o2, none⟩) (n + 1) c2) ∧ Oc W O (.slice none 0 0) ∧ Oc W E (.int .i64 0) ∧ Bw w W ∧ w.heap.size ≤ F ∧ F < O ∧ O < E := by
    have h1 := Fc.made w (.slice (some ⟨b1, o1, none⟩) (n1 + 1) c1) (.slice (some ⟨b2, o2, none⟩) (n + 1) c2) 24
    have h2 := Oc.made (w.alloc (.cells #[.slice (some ⟨b1, o1, none⟩) (n1 + 1) c1, .slice (some ⟨b2, o2, none⟩) (n + 1) c2] 24)) (.slice none 0 0) 37
    have h3 := Oc.made ((w.alloc (.cells #[.slice (some ⟨b1, o1, none⟩) (n1 + 1) c1, .slice (some ⟨b2, o2, none⟩) (n + 1) c2] 24)).alloc (.cells #[.slice none 0 0] 37)) (.int .i64 0) 28
    have a1 := bw_alloc w (.cells #[.slice (some ⟨b1, o1, none⟩) (n1 + 1) c1, .slice (some ⟨b2, o2, none⟩) (n + 1) c2] 24)
    have a2 := bw_alloc (w.alloc (.cells #[.slice (some ⟨b1, o1, none⟩) (n1 + 1) c1, .slice (some ⟨b2, o2, none⟩) (n + 1) c2] 24)) (.cells #[.slice none 0 0] 37)
    have a3 := bw_alloc ((w.alloc (.cells #[.slice (some ⟨b1, o1, none⟩) (n1 + 1) c1, .slice (some ⟨b2, o2, none⟩) (n + 1) c2] 24)).alloc (.cells #[.slice none 0 0] 37)) (.cells #[.int .i64 0] 28)
    simp only [z0] at h2 h3
    exact ⟨_, _, _, _, rfl, rfl, rfl, rfl, (h1.bw a2).bw a3, h2.bw a3, h3, bw_trans (bw_trans a1 a2) a3, Nat.le_refl _, by omega, by omega⟩
  have CP := hide (cplaces10 (c1 := c1) (c2 := c2) (cap := cap) HC.out HX.out.1 HX.out.2.1 (HG.out.1.bw bW) (HG.out.2.bw bW) HX.out.2.2.1 hn (H.out.bw bW) HZ.out)
  have VF := hide fF
  have VO := hide fO
  have VE := hide fE
  have G := hide bW
  have HQ : Hid (w.heap.size ≤ F ∧ F < O ∧ O < E) := ⟨q1, q2, q3⟩
  clear fF fO fE bW q1 q2 q3 z0
  go_enter_defers Try.func14, Try.ntmps14
  go_wp2_with fail
  rw [← eW, ← eE, ← eO, ← eF]
  clear eW eE eO eF
  refine CP.out.mono ?_
  clear CP
  rintro e' w4 ⟨rfl, bb⟩
  replace VF := hide (VF.out.bw bb)
  replace VO := hide (VO.out.bw bb)
  replace VE := hide (VE.out.bw bb)
  replace G := hide (bw_trans G.out bb)
  clear bb
  obtain ⟨_, f0, f1⟩ := VF.out
  obtain ⟨_, g0, g1⟩ := VE.out
  have y0 := set_self g0
  have LE2 : Hid (∀ i, Py.Le (Py.co l2 i) 2197) := fun i => by
    rw [HT.out.2.2.1]
    have := ofl_le12 HZ.out i
    rw [H.out.1] at this
    exact this.mono (Nat.le_trans (Nat.pow_le_pow_right (by omega) hn) (by decide))
  go_wp2_with fail
  refine (slope10 HC.out HX.out.2.1 (HG.out.2.bw G.out) LE2.out (by omega)).mono ?_
  intro e w5 h5
  obtain ⟨bs, ps, ls, rfl, ms, ns, gs, hbs0, bb, us⟩ := h5.use
  have hbs : bs ≠ O ∧ bs ≠ E := by have h1 := VO.out.1; have h2 := VE.out.1; omega
  clear h5 f0 f1 g0 g1 y0 hbs0
  replace VF := hide (VF.out.bw bb)
  replace VO := hide (VO.out.bw bb)
  replace VE := hide (VE.out.bw bb)
  replace G := hide (bw_trans G.out bb)
  have GS := hide gs
  have MS : Hid (May ps ls ∧ ps ≤ 2 ∧ (∀ i, Py.co ls i = gk (i + 1) (Py.co l2 (i + 1))) ∧ ∀ i, Py.Le (Py.co ls i) 6591) := by
    refine ⟨ms, by omega, us, fun i => ?_⟩
    rw [us]
    by_cases z : i + 1 ≤ 3
    · refine (gk_le (LE2.out (i + 1))).mono ?_
      have := Nat.mul_le_mul_right 2197 z
      omega
    · rw [Py.co_out (by have := HX.out.2.1.1; omega)]
      have : gk (i + 1) (0, 0) = (0, 0) := by unfold gk; simp
      rw [this]
      exact Py.Le.nought _
  clear bb gs ms ns us
  obtain ⟨_, g0, g1⟩ := VE.out
  have y0 := set_self g0
  obtain ⟨hO, o0, o1'⟩ := VO.out
  have bA := bw_alloc w5 (.cells (zcP n) 42)
  have oA := (VO.out.bw bA)
  obtain ⟨_, oA0, oA1⟩ := oA
  have P0 : Hid (Pk c (w5.alloc (.cells (zcP n) 42)) w5.heap.size n 0 zs rs) := ⟨by simp, fun i => World.frozen?_alloc_at _ _ _ _ rfl, fun i hi => ⟨0, 0, made_p w5 n i hi⟩, fun i hi => by omega⟩
  have NE : Hid (O ≠ w5.heap.size ∧ E ≠ w5.heap.size ∧ F ≠ w5.heap.size ∧ bs ≠ w5.heap.size ∧ F ≠ O ∧ bs ≠ O ∧ E ≠ O ∧ w.heap.size ≤ w5.heap.size ∧ w.heap.size ≤ O ∧ F ≠ E ∧ bs ≠ E) := by
    have h1 := VE.out.1; have h2 := VF.out.1; have h3 := GS.out.1; have h4 := Below.size G.out; have h5 := HQ.out; have h6 : bs ≠ O ∧ bs ≠ E := hbs; show _ ∧ _; omega
  clear oA1 oA0 hbs
  have hsz : (w5.setCell ⟨O, 0, none⟩ (.slice (some ⟨w5.heap.size, 0, none⟩) n n)).heap.size = w5.heap.size := by simp [World.setCell]
  have bA := bw_alloc (w5.setCell ⟨O, 0, none⟩ (.slice (some ⟨w5.heap.size, 0, none⟩) n n)) (.cells (zcP n) 42)
  have P1 : Hid (Pk c ((w5.setCell ⟨O, 0, none⟩ (.slice (some ⟨w5.heap.size, 0, none⟩) n n)).alloc (.cells (zcP n) 42)) w5.heap.size n 0 zs rs) := by
    show Pk _ _ _ _ _ _ _
    have k : Pk c ((w5.setCell ⟨O, 0, none⟩ (.slice (some ⟨w5.heap.size, 0, none⟩) n n)).alloc (.cells (zcP n) 42)) (w5.setCell ⟨O, 0, none⟩ (.slice (some ⟨w5.heap.size, 0, none⟩) n n)).heap.size n 0 zs rs := ⟨by simp, fun i => World.frozen?_alloc_at _ _ _ _ rfl, fun i hi => ⟨0, 0, made_p _ n i hi⟩, fun i hi => by omega⟩
    rw [hsz] at k
    exact k
  have F1 := hide ((VF.out.apart NE.out.2.2.2.2.1 0 (.slice (some ⟨w5.heap.size, 0, none⟩) n n)).bw bA)
  have O1 := hide ((VO.out.set (.slice (some ⟨w5.heap.size, 0, none⟩) n n)).bw bA)
  have E1 := hide ((VE.out.apart NE.out.2.2.2.2.2.2.1 0 (.slice (some ⟨w5.heap.size, 0, none⟩) n n)).bw bA)
  have S1 := hide ((gl_set GS.out NE.out.2.2.2.2.2.1 0 (.slice (some ⟨w5.heap.size, 0, none⟩) n n)).bw bA)
  have G1 := hide (bw_trans (bw_set G.out NE.out.2.2.2.2.2.2.2.2.1 0 (.slice (some ⟨w5.heap.size, 0, none⟩) n n)) bA)
  clear VF VO VE GS G bA hsz P0
  go_wp2
  clear g0 g1 y0 hO o0 o1' hmk
  generalize (w5.setCell ⟨O, 0, none⟩ (.slice (some ⟨w5.heap.size, 0, none⟩) n n)).alloc (.cells (zcP n) 42) = W6 at *
  generalize w5.heap.size = B at *
  obtain ⟨P1w, xP1, yP1⟩ := HG.out.1.wf HX.out.1.1
  have XP := hide xP1
  have YP := hide yP1
  clear xP1 yP1
  go_loopw [30] (fun i wr => ∃ k : Nat, k ≤ n ∧ i = .int .i64 k ∧ Fc wr F (.slice (some ⟨b1, o1, none⟩) (n1 + 1) c1) (.slice (some ⟨b2, o2, none⟩) (n + 1) c2) ∧ Oc wr O (.slice (some ⟨B, 0, none⟩) n n) ∧ Oc wr E (.int .i64 0) ∧ Gl c wr bs 0 ls ∧ Pk c wr B n k zs rs ∧ Bw w wr) (fun i _ => n - (intOf i).toNat)
  case atStart => exact ⟨0, Nat.zero_le _, rfl, F1.out, O1.out, E1.out, S1.out, P1.out, G1.out⟩
  case round =>
    obtain ⟨k, hk, rfl, hF, hO, hE, hS, hP, hbw⟩ := hrel
    clear F1 O1 E1 S1 P1 G1
    by_cases hk1 : k < n
    · have hk2 : (k : Int) < n := by omega
      obtain ⟨b, o, rfl, hg⟩ := (H.out.bw hbw).2.resolve_left (by omega)
      obtain ⟨x, y, e1, q1⟩ := hg.2 k (by have := H.out.1; omega)
      obtain ⟨P2w, xP2, yP2⟩ := hS.wf MS.out.1.1
      have lz := HZ.out k
      obtain ⟨V1, v1⟩ := hv10 HC.out _ YP.out q1 lz (steps_of (A := 6084) (N := 3) (fun i => by rw [HT.out.2.1]; exact tt_le6 HZ.out (fun i => (HT.out.1 i).le) (by rw [H.out.1]; exact hn) n hn i) (by omega) HX.out.2.2.2 (by decide))
      obtain ⟨V2, v2⟩ := hv10 HC.out _ yP2 q1 lz (steps_of (A := 6591) (N := 2) MS.out.2.2.2 (by omega) MS.out.2.1 (by decide))
      have w1 := v1.2.1 0 (Nat.zero_le _)
      have w2 := v2.2.1 0 (Nat.zero_le _)
      rw [List.drop_zero, top_ev (rs := rs) (by rw [H.out.1]; exact hk1) n l1 (by rw [H.out.1]; omega) HT.out.2.1, if_pos hk1] at w1
      rw [List.drop_zero, sl_df (by rw [H.out.1]; exact hn) k (by rw [H.out.1]; exact hk1) MS.out.2.2.1 HT.out.2.2.1] at w2
      have dne := df_ne (by rw [H.out.1]; exact hn) k (by rw [H.out.1]; exact hk1) (fun j hj => HT.out.2.2.2 k hk1 j (by rw [← H.out.1]; exact hj))
      have dle := (df_le (by rw [H.out.1]; exact hn) k (by rw [H.out.1]; exact hk1) HZ.out).one
      obtain ⟨u, v, c1', c2', DV⟩ := pdivc8 (v1 := (Py.co rs k).1) (v2 := (Py.co rs k).2) HC.out w1.1 w1.2 w2.1 w2.2 (fun e => dne (Py.gext e.1 e.2)) (by omega) (by omega) (HT.out.1 k).1 (HT.out.1 k).2 rfl rfl
      have sne : Py.ev ls (Py.co zs k) ≠ (0, 0) := by
        rw [sl_df (by rw [H.out.1]; exact hn) k (by rw [H.out.1]; exact hk1) MS.out.2.2.1 HT.out.2.2.1]; exact dne
      have QU : Hid (∀ wz, Bw w wz → Wf wz bs 0 (ps + 1) P2w → Calls Try.prog 30 #[.slice (some ⟨b1, o1, none⟩) (n1 + 1) c1, .slice (some ⟨bs, 0, none⟩) (ps + 1) (ps + 1), .complex .f64 x y] wz fun e w' => e = .returned (.tuple #[.complex .f64 u v, .int .i64 0]) ∧ Bw wz w') := fun wz hz h2 =>
        (quot10 (c1 := c1) (c2 := ps + 1) HC.out HX.out.1 MS.out.1 (XP.out.bw hz) h2 YP.out yP2 q1 (lz.mono (by omega)) v1 v2).2 sne u v ⟨c1'.1, c1'.2.1⟩ ⟨c2'.1, c2'.2.1⟩ DV
      have HW := hide xP2
      have CL := hide (And.intro q1 (And.intro c1' c2'))
      have HF := hide hF
      have HO := hide hO
      have HE := hide hE
      have HS := hide hS
      have HP := hide hP
      have HB := hide hbw
      clear v1 v2 w1 w2 dne dle DV sne c1' c2' q1 yP2 xP2 lz hg hF hO hE hS hP hbw
      rcases (show k = 0 ∨ k = 1 ∨ k = 2 by omega) with rfl | rfl | rfl
      · rw [Nat.add_zero] at e1
        obtain ⟨_, u0, u1⟩ := HO.out
        obtain ⟨x', y', p0⟩ := HP.out.2.2.1 0 (by omega)
        have p2 := HP.out.2.1 0
        have F8 := hide (HF.out.apart NE.out.2.2.1 0 (.complex .f64 x y))
        have O8 := hide (HO.out.apart NE.out.1 0 (.complex .f64 x y))
        have E8' := hide (HE.out.apart NE.out.2.1 0 (.complex .f64 x y))
        have S8 := hide (gl_set HS.out NE.out.2.2.2.1 0 (.complex .f64 x y))
        have W8 := hide (HW.out.set NE.out.2.2.2.1 0 (.complex .f64 x y))
        have B8 := hide (bw_set HB.out NE.out.2.2.2.2.2.2.2.1 0 (.complex .f64 x y))
        have PA : Hid (Pk c (wr.setCell ⟨B, 0, none⟩ (.complex .f64 x y)) B n 0 zs rs) := by
          have h := HP.out
          have ce : ∀ i, i ≠ 0 → (wr.setCell ⟨B, 0, none⟩ (.complex .f64 x y)).cell? ⟨B, i, none⟩ = wr.cell? ⟨B, i, none⟩ := fun i hi => World.cell?_setCell_other _ _ _ _ (fun e => by cases e; exact hi rfl)
          refine ⟨by simpa [World.setCell] using h.1, fun i => (World.frozen?_setCell _ _ _ _).trans (h.2.1 i), fun i hi => ?_, fun i hi => ?_⟩
          · by_cases z : i = 0
            · subst z; exact ⟨x, y, World.cell?_setCell_same _ _ _ p0⟩
            · rw [ce i z]; exact h.2.2.1 i hi
          · rw [ce _ (by omega), ce _ (by omega)]; exact h.2.2.2 i hi
        go_wp2_with fail
        clear u0 u1 p0 p2 e1
        obtain ⟨W8w, eW8⟩ : ∃ W, W = wr.setCell ⟨B, 0, none⟩ (.complex .f64 x y) := ⟨_, rfl⟩
        have PS := fun w' (hb : Bw (wr.setCell ⟨B, 2 * 0, none⟩ (.complex .f64 x y)) w') => Pk.step (k := 0) HP.out (by omega) hb CL.out.1 CL.out.2.1 CL.out.2.2
        have HPS := hide PS
        clear PS HP
        rw [← eW8]
        rw [← eW8] at F8 O8 E8' S8 W8 B8 PA
        have HPS2 : Hid (∀ w', Bw W8w w' → Pk c (w'.setCell ⟨B, 1, none⟩ (.complex .f64 u v)) B n 1 zs rs) := fun w' hb => HPS.out w' (by rw [eW8] at hb; exact hb)
        clear HPS HF HO HE HS HW HB eW8
        have S0 : W8w.drew.cell? ⟨O, 0, none⟩ = some (.slice (some ⟨B, 0, none⟩) n n) ∧ W8w.drew.cell? ⟨F, 0, none⟩ = some (.slice (some ⟨b1, o1, none⟩) (n1 + 1) c1) := ⟨O8.out.2.1, F8.out.2.1⟩
        refine wp_region_K (fun w' => w'.cell? ⟨O, 0, none⟩ = some (.slice (some ⟨B, 0, none⟩) n n) ∧ w'.cell? ⟨F, 0, none⟩ = some (.slice (some ⟨b1, o1, none⟩) (n1 + 1) c1)) 13 14 #[false, false, false, false, false, false, false, false, false, false, false, false, false, false] (by kernel_rfl) (by kernel_rfl) (by kernel_rfl) ?_
        refine wpAnyK_take 0 41 (v := ?vq0) rfl (by kernel_rfl) (by kernel_rfl) (by kernel_rfl) (by kernel_rfl) (by kernel_rfl) (fun _ _ _ h => put_d 41 rfl (by decide) (by decide) h) rfl (Or.inl ⟨by rfl, ?hq0⟩) (by assumption) ?rq0
        case hq0 => (intro w hSw; go_simp; with_reducible rfl)
        simp only [Act.put, List.setIfInBounds_toArray, List.set_cons_zero, List.set_cons_succ]
        refine wpAnyK_take 1 42 (v := ?vq1) rfl (by kernel_rfl) (by kernel_rfl) (by kernel_rfl) (by kernel_rfl) (by kernel_rfl) (fun _ _ _ h => put_d 42 rfl (by decide) (by decide) h) rfl (Or.inl ⟨by rfl, ?hq1⟩) (by assumption) ?rq1
        case hq1 => (intro w hSw; go_simp; with_reducible rfl)
        simp only [Act.put, List.setIfInBounds_toArray, List.set_cons_zero, List.set_cons_succ]
        refine wpAnyK_take 2 43 (v := ?vq2) rfl (by kernel_rfl) (by kernel_rfl) (by kernel_rfl) (by kernel_rfl) (by kernel_rfl) (fun _ _ _ h => put_d 43 rfl (by decide) (by decide) h) rfl (Or.inl ⟨by rfl, ?hq2⟩) (by assumption) ?rq2
        case hq2 => (intro w hSw; go_simp; with_reducible rfl)
        simp only [Act.put, List.setIfInBounds_toArray, List.set_cons_zero, List.set_cons_succ]
        refine wpAnyK_take 3 44 (v := ?vq3) rfl (by kernel_rfl) (by kernel_rfl) (by kernel_rfl) (by kernel_rfl) (by kernel_rfl) (fun _ _ _ h => put_d 44 rfl (by decide) (by decide) h) rfl (Or.inl ⟨by rfl, ?hq3⟩) (by assumption) ?rq3
        case hq3 => (intro w hSw; go_simp; with_reducible rfl)
        simp only [Act.put, List.setIfInBounds_toArray, List.set_cons_zero, List.set_cons_succ]
        refine wpAnyK_take 4 45 (v := ?vq4) rfl (by kernel_rfl) (by kernel_rfl) (by kernel_rfl) (by kernel_rfl) (by kernel_rfl) (fun _ _ _ h => put_d 45 rfl (by decide) (by decide) h) rfl (Or.inl ⟨by rfl, ?hq4⟩) (by assumption) ?rq4
        case hq4 => (intro w hSw; go_simp; with_reducible rfl)
        simp only [Act.put, List.setIfInBounds_toArray, List.set_cons_zero, List.set_cons_succ]
        refine wpAnyK_take 5 46 (v := ?vq5) rfl (by kernel_rfl) (by kernel_rfl) (by kernel_rfl) (by kernel_rfl) (by kernel_rfl) (fun _ _ _ h => put_d 46 rfl (by decide) (by decide) h) rfl (Or.inl ⟨by rfl, ?hq5⟩) (by assumption) ?rq5
        case hq5 => (intro w hSw; go_simp; with_reducible rfl)
        simp only [Act.put, List.setIfInBounds_toArray, List.set_cons_zero, List.set_cons_succ]
        refine wpAnyK_one 6 (by kernel_rfl) rfl (fun K hK => ?_)
        go_simp
        go_wp2_with (go_at_call 30; refine (QU.out _ (bw_trans B8.out (Bw.drw _)) (W8.out.bw (Bw.drw _))).mono ?_; rintro e' w9 ⟨rfl, b9⟩; replace b9 := bw_trans (Bw.drw W8w) b9; have S9 : w9.cell? ⟨O, 0, none⟩ = some (.slice (some ⟨B, 0, none⟩) n n) ∧ w9.cell? ⟨F, 0, none⟩ = some (.slice (some ⟨b1, o1, none⟩) (n1 + 1) c1) := ⟨(O8.out.bw b9).2.1, (F8.out.bw b9).2.1⟩)
        refine hK.out _ _ (fun _ _ => S9) ?_
        clear hK K
        simp only [List.setIfInBounds_toArray, List.set_cons_zero, List.set_cons_succ]
        refine wpAnyK_take 7 40 (v := ?vq7) rfl (by kernel_rfl) (by kernel_rfl) (by kernel_rfl) (by kernel_rfl) (by kernel_rfl) (fun _ _ _ h => put_d 40 rfl (by decide) (by decide) h) rfl (Or.inl ⟨by rfl, ?hq7⟩) (by assumption) ?rq7
        case hq7 => (intro w hSw; go_simp; with_reducible rfl)
        simp only [Act.put, List.setIfInBounds_toArray, List.set_cons_zero, List.set_cons_succ]
        refine wpAnyK_take 8 48 (v := ?vq8) rfl (by kernel_rfl) (by kernel_rfl) (by kernel_rfl) (by kernel_rfl) (by kernel_rfl) (fun _ _ _ h => put_d 48 rfl (by decide) (by decide) h) rfl (Or.inl ⟨by rfl, ?hq8⟩) (by assumption) ?rq8
        case hq8 => (intro w hSw; go_simp; with_reducible rfl)
        simp only [Act.put, List.setIfInBounds_toArray, List.set_cons_zero, List.set_cons_succ]
        refine wpAnyK_take 9 49 (v := ?vq9) rfl (by kernel_rfl) (by kernel_rfl) (by kernel_rfl) (by kernel_rfl) (by kernel_rfl) (fun _ _ _ h => put_d 49 rfl (by decide) (by decide) h) rfl (Or.inl ⟨by rfl, ?hq9⟩) (by assumption) ?rq9
        case hq9 => (intro w hSw; go_simp; with_reducible rfl)
        simp only [Act.put, List.setIfInBounds_toArray, List.set_cons_zero, List.set_cons_succ]
        refine wpAnyK_take 10 50 (v := ?vq10) rfl (by kernel_rfl) (by kernel_rfl) (by kernel_rfl) (by kernel_rfl) (by kernel_rfl) (fun _ _ _ h => put_d 50 rfl (by decide) (by decide) h) rfl (Or.inl ⟨by rfl, ?hq10⟩) (by assumption) ?rq10
        case hq10 => (intro w hSw; go_simp; with_reducible rfl)
        simp only [Act.put, List.setIfInBounds_toArray, List.set_cons_zero, List.set_cons_succ]
        refine wpAnyK_take 11 51 (v := ?vq11) rfl (by kernel_rfl) (by kernel_rfl) (by kernel_rfl) (by kernel_rfl) (by kernel_rfl) (fun _ _ _ h => put_d 51 rfl (by decide) (by decide) h) rfl (Or.inl ⟨by rfl, ?hq11⟩) (by assumption) ?rq11
        case hq11 => (intro w hSw; go_simp; with_reducible rfl)
        simp only [Act.put, List.setIfInBounds_toArray, List.set_cons_zero, List.set_cons_succ]
        obtain ⟨_, p0⟩ := (PA.out.bw b9).2.2.1 1 (by omega)
        obtain ⟨p1, p0⟩ := p0
        have p2 := (PA.out.bw b9).2.1 1
        obtain ⟨_, g0, g1⟩ := E8'.out.bw b9
        have T9 : (w9.setCell ⟨B, 1, none⟩ (.complex .f64 u v)).cell? ⟨O, 0, none⟩ = some (.slice (some ⟨B, 0, none⟩) n n) ∧ (w9.setCell ⟨B, 1, none⟩ (.complex .f64 u v)).cell? ⟨F, 0, none⟩ = some (.slice (some ⟨b1, o1, none⟩) (n1 + 1) c1) := ⟨((O8.out.bw b9).apart NE.out.1 1 (.complex .f64 u v)).2.1, ((F8.out.bw b9).apart NE.out.2.2.1 1 (.complex .f64 u v)).2.1⟩
        obtain ⟨_, gE, gE1⟩ := (E8'.out.bw b9).apart NE.out.2.1 1 (.complex .f64 u v)
        have yE := set_self gE
        refine wpAnyK_one 12 (by kernel_rfl) rfl (fun K hK => ?_)
        go_simp
        refine hK.out _ _ (fun _ _ => T9) ?_
        clear hK K
        simp only [List.setIfInBounds_toArray, List.set_cons_zero, List.set_cons_succ]
        refine wpAnyK_one 13 (by kernel_rfl) rfl (fun K hK => ?_)
        go_simp
        refine hK.out _ _ (fun h => absurd rfl h) ?_
        clear hK K
        simp only [List.setIfInBounds_toArray, List.set_cons_zero, List.set_cons_succ]
        refine wpAnyK_done (by kernel_rfl) ?_ _
        have RR : Hid (Fc (w9.setCell ⟨B, 1, none⟩ (.complex .f64 u v)) F (.slice (some ⟨b1, o1, none⟩) (n1 + 1) c1) (.slice (some ⟨b2, o2, none⟩) (n + 1) c2) ∧ Oc (w9.setCell ⟨B, 1, none⟩ (.complex .f64 u v)) O (.slice (some ⟨B, 0, none⟩) n n) ∧ Oc (w9.setCell ⟨B, 1, none⟩ (.complex .f64 u v)) E (.int .i64 0) ∧ Gl c (w9.setCell ⟨B, 1, none⟩ (.complex .f64 u v)) bs 0 ls ∧ Pk c (w9.setCell ⟨B, 1, none⟩ (.complex .f64 u v)) B n 1 zs rs ∧ Bw w (w9.setCell ⟨B, 1, none⟩ (.complex .f64 u v))) :=
          ⟨(F8.out.bw b9).apart NE.out.2.2.1 1 (.complex .f64 u v), (O8.out.bw b9).apart NE.out.1 1 (.complex .f64 u v), (E8'.out.bw b9).apart NE.out.2.1 1 (.complex .f64 u v), gl_set (S8.out.bw b9) NE.out.2.2.2.1 1 (.complex .f64 u v), HPS2.out w9 b9, bw_set (bw_trans B8.out b9) NE.out.2.2.2.2.2.2.2.1 1 (.complex .f64 u v)⟩
        clear F8 O8 E8' S8 W8 B8 PA HPS2 S9 T9 S0 yE p0 p2 g0 g1 QU
        go_wp2
        go_roundw
        case rel => exact ⟨1, by omega, by simp, RR.out.1, RR.out.2.1, RR.out.2.2.1, RR.out.2.2.2.1, RR.out.2.2.2.2.1, RR.out.2.2.2.2.2⟩
        case measure => simp [intOf]; omega
      · obtain ⟨_, u0, u1⟩ := HO.out
        obtain ⟨x', y', p0⟩ := HP.out.2.2.1 2 (by omega)
        have p2 := HP.out.2.1 2
        have F8 := hide (HF.out.apart NE.out.2.2.1 2 (.complex .f64 x y))
        have O8 := hide (HO.out.apart NE.out.1 2 (.complex .f64 x y))
        have E8' := hide (HE.out.apart NE.out.2.1 2 (.complex .f64 x y))
        have S8 := hide (gl_set HS.out NE.out.2.2.2.1 2 (.complex .f64 x y))
        have W8 := hide (HW.out.set NE.out.2.2.2.1 2 (.complex .f64 x y))
        have B8 := hide (bw_set HB.out NE.out.2.2.2.2.2.2.2.1 2 (.complex .f64 x y))
        have PA : Hid (Pk c (wr.setCell ⟨B, 2, none⟩ (.complex .f64 x y)) B n 1 zs rs) := by
          have h := HP.out
          have ce : ∀ i, i ≠ 2 → (wr.setCell ⟨B, 2, none⟩ (.complex .f64 x y)).cell? ⟨B, i, none⟩ = wr.cell? ⟨B, i, none⟩ := fun i hi => World.cell?_setCell_other _ _ _ _ (fun e => by cases e; exact hi rfl)
          refine ⟨by simpa [World.setCell] using h.1, fun i => (World.frozen?_setCell _ _ _ _).trans (h.2.1 i), fun i hi => ?_, fun i hi => ?_⟩
          · by_cases z : i = 2
            · subst z; exact ⟨x, y, World.cell?_setCell_same _ _ _ p0⟩
            · rw [ce i z]; exact h.2.2.1 i hi
          · rw [ce _ (by omega), ce _ (by omega)]; exact h.2.2.2 i hi
        go_wp2_with fail
        clear u0 u1 p0 p2 e1
        obtain ⟨W8w, eW8⟩ : ∃ W, W = wr.setCell ⟨B, 2, none⟩ (.complex .f64 x y) := ⟨_, rfl⟩
        have PS := fun w' (hb : Bw (wr.setCell ⟨B, 2 * 1, none⟩ (.complex .f64 x y)) w') => Pk.step (k := 1) HP.out (by omega) hb CL.out.1 CL.out.2.1 CL.out.2.2
        have HPS := hide PS
        clear PS HP
        rw [← eW8]
        rw [← eW8] at F8 O8 E8' S8 W8 B8 PA
        have HPS2 : Hid (∀ w', Bw W8w w' → Pk c (w'.setCell ⟨B, 3, none⟩ (.complex .f64 u v)) B n 2 zs rs) := fun w' hb => HPS.out w' (by rw [eW8] at hb; exact hb)
        clear HPS HF HO HE HS HW HB eW8
        have S0 : W8w.drew.cell? ⟨O, 0, none⟩ = some (.slice (some ⟨B, 0, none⟩) n n) ∧ W8w.drew.cell? ⟨F, 0, none⟩ = some (.slice (some ⟨b1, o1, none⟩) (n1 + 1) c1) := ⟨O8.out.2.1, F8.out.2.1⟩
        refine wp_region_K (fun w' => w'.cell? ⟨O, 0, none⟩ = some (.slice (some ⟨B, 0, none⟩) n n) ∧ w'.cell? ⟨F, 0, none⟩ = some (.slice (some ⟨b1, o1, none⟩) (n1 + 1) c1)) 13 14 #[false, false, false, false, false, false, false, false, false, false, false, false, false, false] (by kernel_rfl) (by kernel_rfl) (by kernel_rfl) ?_
        refine wpAnyK_take 0 41 (v := ?vw0) rfl (by kernel_rfl) (by kernel_rfl) (by kernel_rfl) (by kernel_rfl) (by kernel_rfl) (fun _ _ _ h => put_d 41 rfl (by decide) (by decide) h) rfl (Or.inl ⟨by rfl, ?hw0⟩) (by assumption) ?rw0
        case hw0 => (intro w hSw; go_simp; with_reducible rfl)
        simp only [Act.put, List.setIfInBounds_toArray, List.set_cons_zero, List.set_cons_succ]
        refine wpAnyK_take 1 42 (v := ?vw1) rfl (by kernel_rfl) (by kernel_rfl) (by kernel_rfl) (by kernel_rfl) (by kernel_rfl) (fun _ _ _ h => put_d 42 rfl (by decide) (by decide) h) rfl (Or.inl ⟨by rfl, ?hw1⟩) (by assumption) ?rw1
        case hw1 => (intro w hSw; go_simp; with_reducible rfl)
        simp only [Act.put, List.setIfInBounds_toArray, List.set_cons_zero, List.set_cons_succ]
        refine wpAnyK_take 2 43 (v := ?vw2) rfl (by kernel_rfl) (by kernel_rfl) (by kernel_rfl) (by kernel_rfl) (by kernel_rfl) (fun _ _ _ h => put_d 43 rfl (by decide) (by decide) h) rfl (Or.inl ⟨by rfl, ?hw2⟩) (by assumption) ?rw2
        case hw2 => (intro w hSw; go_simp; with_reducible rfl)
        simp only [Act.put, List.setIfInBounds_toArray, List.set_cons_zero, List.set_cons_succ]
        refine wpAnyK_take 3 44 (v := ?vw3) rfl (by kernel_rfl) (by kernel_rfl) (by kernel_rfl) (by kernel_rfl) (by kernel_rfl) (fun _ _ _ h => put_d 44 rfl (by decide) (by decide) h) rfl (Or.inl ⟨by rfl, ?hw3⟩) (by assumption) ?rw3
        case hw3 => (intro w hSw; go_simp; with_reducible rfl)
        simp only [Act.put, List.setIfInBounds_toArray, List.set_cons_zero, List.set_cons_succ]
        refine wpAnyK_take 4 45 (v := ?vw4) rfl (by kernel_rfl) (by kernel_rfl) (by kernel_rfl) (by kernel_rfl) (by kernel_rfl) (fun _ _ _ h => put_d 45 rfl (by decide) (by decide) h) rfl (Or.inl ⟨by rfl, ?hw4⟩) (by assumption) ?rw4
        case hw4 => (intro w hSw; go_simp; with_reducible rfl)
        simp only [Act.put, List.setIfInBounds_toArray, List.set_cons_zero, List.set_cons_succ]
        refine wpAnyK_take 5 46 (v := ?vw5) rfl (by kernel_rfl) (by kernel_rfl) (by kernel_rfl) (by kernel_rfl) (by kernel_rfl) (fun _ _ _ h => put_d 46 rfl (by decide) (by decide) h) rfl (Or.inl ⟨by rfl, ?hw5⟩) (by assumption) ?rw5
        case hw5 => (intro w hSw; go_simp; with_reducible rfl)
        simp only [Act.put, List.setIfInBounds_toArray, List.set_cons_zero, List.set_cons_succ]
        refine wpAnyK_one 6 (by kernel_rfl) rfl (fun K hK => ?_)
        go_simp
        go_wp2_with (go_at_call 30; refine (QU.out _ (bw_trans B8.out (Bw.drw _)) (W8.out.bw (Bw.drw _))).mono ?_; rintro e' w9 ⟨rfl, b9⟩; replace b9 := bw_trans (Bw.drw W8w) b9; have S9 : w9.cell? ⟨O, 0, none⟩ = some (.slice (some ⟨B, 0, none⟩) n n) ∧ w9.cell? ⟨F, 0, none⟩ = some (.slice (some ⟨b1, o1, none⟩) (n1 + 1) c1) := ⟨(O8.out.bw b9).2.1, (F8.out.bw b9).2.1⟩)
        refine hK.out _ _ (fun _ _ => S9) ?_
        clear hK K
        simp only [List.setIfInBounds_toArray, List.set_cons_zero, List.set_cons_succ]
        refine wpAnyK_take 7 40 (v := ?vw7) rfl (by kernel_rfl) (by kernel_rfl) (by kernel_rfl) (by kernel_rfl) (by kernel_rfl) (fun _ _ _ h => put_d 40 rfl (by decide) (by decide) h) rfl (Or.inl ⟨by rfl, ?hw7⟩) (by assumption) ?rw7
        case hw7 => (intro w hSw; go_simp; with_reducible rfl)
        simp only [Act.put, List.setIfInBounds_toArray, List.set_cons_zero, List.set_cons_succ]
        refine wpAnyK_take 8 48 (v := ?vw8) rfl (by kernel_rfl) (by kernel_rfl) (by kernel_rfl) (by kernel_rfl) (by kernel_rfl) (fun _ _ _ h => put_d 48 rfl (by decide) (by decide) h) rfl (Or.inl ⟨by rfl, ?hw8⟩) (by assumption) ?rw8
        case hw8 => (intro w hSw; go_simp; with_reducible rfl)
        simp only [Act.put, List.setIfInBounds_toArray, List.set_cons_zero, List.set_cons_succ]
        refine wpAnyK_take 9 49 (v := ?vw9) rfl (by kernel_rfl) (by kernel_rfl) (by kernel_rfl) (by kernel_rfl) (by kernel_rfl) (fun _ _ _ h => put_d 49 rfl (by decide) (by decide) h) rfl (Or.inl ⟨by rfl, ?hw9⟩) (by assumption) ?rw9
        case hw9 => (intro w hSw; go_simp; with_reducible rfl)
        simp only [Act.put, List.setIfInBounds_toArray, List.set_cons_zero, List.set_cons_succ]
        refine wpAnyK_take 10 50 (v := ?vw10) rfl (by kernel_rfl) (by kernel_rfl) (by kernel_rfl) (by kernel_rfl) (by kernel_rfl) (fun _ _ _ h => put_d 50 rfl (by decide) (by decide) h) rfl (Or.inl ⟨by rfl, ?hw10⟩) (by assumption) ?rw10
        case hw10 => (intro w hSw; go_simp; with_reducible rfl)
        simp only [Act.put, List.setIfInBounds_toArray, List.set_cons_zero, List.set_cons_succ]
        refine wpAnyK_take 11 51 (v := ?vw11) rfl (by kernel_rfl) (by kernel_rfl) (by kernel_rfl) (by kernel_rfl) (by kernel_rfl) (fun _ _ _ h => put_d 51 rfl (by decide) (by decide) h) rfl (Or.inl ⟨by rfl, ?hw11⟩) (by assumption) ?rw11
        case hw11 => (intro w hSw; go_simp; with_reducible rfl)
        simp only [Act.put, List.setIfInBounds_toArray, List.set_cons_zero, List.set_cons_succ]
        obtain ⟨_, p0⟩ := (PA.out.bw b9).2.2.1 3 (by omega)
        obtain ⟨p1, p0⟩ := p0
        have p2 := (PA.out.bw b9).2.1 3
        obtain ⟨_, g0, g1⟩ := E8'.out.bw b9
        have T9 : (w9.setCell ⟨B, 3, none⟩ (.complex .f64 u v)).cell? ⟨O, 0, none⟩ = some (.slice (some ⟨B, 0, none⟩) n n) ∧ (w9.setCell ⟨B, 3, none⟩ (.complex .f64 u v)).cell? ⟨F, 0, none⟩ = some (.slice (some ⟨b1, o1, none⟩) (n1 + 1) c1) := ⟨((O8.out.bw b9).apart NE.out.1 3 (.complex .f64 u v)).2.1, ((F8.out.bw b9).apart NE.out.2.2.1 3 (.complex .f64 u v)).2.1⟩
        obtain ⟨_, gE, gE1⟩ := (E8'.out.bw b9).apart NE.out.2.1 3 (.complex .f64 u v)
        have yE := set_self gE
        refine wpAnyK_one 12 (by kernel_rfl) rfl (fun K hK => ?_)
        go_simp
        refine hK.out _ _ (fun _ _ => T9) ?_
        clear hK K
        simp only [List.setIfInBounds_toArray, List.set_cons_zero, List.set_cons_succ]
        refine wpAnyK_one 13 (by kernel_rfl) rfl (fun K hK => ?_)
        go_simp
        refine hK.out _ _ (fun h => absurd rfl h) ?_
        clear hK K
        simp only [List.setIfInBounds_toArray, List.set_cons_zero, List.set_cons_succ]
        refine wpAnyK_done (by kernel_rfl) ?_ _
        have RR : Hid (Fc (w9.setCell ⟨B, 3, none⟩ (.complex .f64 u v)) F (.slice (some ⟨b1, o1, none⟩) (n1 + 1) c1) (.slice (some ⟨b2, o2, none⟩) (n + 1) c2) ∧ Oc (w9.setCell ⟨B, 3, none⟩ (.complex .f64 u v)) O (.slice (some ⟨B, 0, none⟩) n n) ∧ Oc (w9.setCell ⟨B, 3, none⟩ (.complex .f64 u v)) E (.int .i64 0) ∧ Gl c (w9.setCell ⟨B, 3, none⟩ (.complex .f64 u v)) bs 0 ls ∧ Pk c (w9.setCell ⟨B, 3, none⟩ (.complex .f64 u v)) B n 2 zs rs ∧ Bw w (w9.setCell ⟨B, 3, none⟩ (.complex .f64 u v))) :=
          ⟨(F8.out.bw b9).apart NE.out.2.2.1 3 (.complex .f64 u v), (O8.out.bw b9).apart NE.out.1 3 (.complex .f64 u v), (E8'.out.bw b9).apart NE.out.2.1 3 (.complex .f64 u v), gl_set (S8.out.bw b9) NE.out.2.2.2.1 3 (.complex .f64 u v), HPS2.out w9 b9, bw_set (bw_trans B8.out b9) NE.out.2.2.2.2.2.2.2.1 3 (.complex .f64 u v)⟩
        clear F8 O8 E8' S8 W8 B8 PA HPS2 S9 T9 S0 yE p0 p2 g0 g1 QU
        go_wp2
        go_roundw
        case rel => exact ⟨2, by omega, by simp, RR.out.1, RR.out.2.1, RR.out.2.2.1, RR.out.2.2.2.1, RR.out.2.2.2.2.1, RR.out.2.2.2.2.2⟩
        case measure => simp [intOf]; omega
      · obtain ⟨_, u0, u1⟩ := HO.out
        obtain ⟨x', y', p0⟩ := HP.out.2.2.1 4 (by omega)
        have p2 := HP.out.2.1 4
        have F8 := hide (HF.out.apart NE.out.2.2.1 4 (.complex .f64 x y))
        have O8 := hide (HO.out.apart NE.out.1 4 (.complex .f64 x y))
        have E8' := hide (HE.out.apart NE.out.2.1 4 (.complex .f64 x y))
        have S8 := hide (gl_set HS.out NE.out.2.2.2.1 4 (.complex .f64 x y))
        have W8 := hide (HW.out.set NE.out.2.2.2.1 4 (.complex .f64 x y))
        have B8 := hide (bw_set HB.out NE.out.2.2.2.2.2.2.2.1 4 (.complex .f64 x y))
        have PA : Hid (Pk c (wr.setCell ⟨B, 4, none⟩ (.complex .f64 x y)) B n 2 zs rs) := by
          have h := HP.out
          have ce : ∀ i, i ≠ 4 → (wr.setCell ⟨B, 4, none⟩ (.complex .f64 x y)).cell? ⟨B, i, none⟩ = wr.cell? ⟨B, i, none⟩ := fun i hi => World.cell?_setCell_other _ _ _ _ (fun e => by cases e; exact hi rfl)
          refine ⟨by simpa [World.setCell] using h.1, fun i => (World.frozen?_setCell _ _ _ _).trans (h.2.1 i), fun i hi => ?_, fun i hi => ?_⟩
          · by_cases z : i = 4
            · subst z; exact ⟨x, y, World.cell?_setCell_same _ _ _ p0⟩
            · rw [ce i z]; exact h.2.2.1 i hi
          · rw [ce _ (by omega), ce _ (by omega)]; exact h.2.2.2 i hi
        go_wp2_with fail
        clear u0 u1 p0 p2 e1
        obtain ⟨W8w, eW8⟩ : ∃ W, W = wr.setCell ⟨B, 4, none⟩ (.complex .f64 x y) := ⟨_, rfl⟩
        have PS := fun w' (hb : Bw (wr.setCell ⟨B, 2 * 2, none⟩ (.complex .f64 x y)) w') => Pk.step (k := 2) HP.out (by omega) hb CL.out.1 CL.out.2.1 CL.out.2.2
        have HPS := hide PS
        clear PS HP
        rw [← eW8]
        rw [← eW8] at F8 O8 E8' S8 W8 B8 PA
        have HPS2 : Hid (∀ w', Bw W8w w' → Pk c (w'.setCell ⟨B, 5, none⟩ (.complex .f64 u v)) B n 3 zs rs) := fun w' hb => HPS.out w' (by rw [eW8] at hb; exact hb)
        clear HPS HF HO HE HS HW HB eW8
        have S0 : W8w.drew.cell? ⟨O, 0, none⟩ = some (.slice (some ⟨B, 0, none⟩) n n) ∧ W8w.drew.cell? ⟨F, 0, none⟩ = some (.slice (some ⟨b1, o1, none⟩) (n1 + 1) c1) := ⟨O8.out.2.1, F8.out.2.1⟩
        refine wp_region_K (fun w' => w'.cell? ⟨O, 0, none⟩ = some (.slice (some ⟨B, 0, none⟩) n n) ∧ w'.cell? ⟨F, 0, none⟩ = some (.slice (some ⟨b1, o1, none⟩) (n1 + 1) c1)) 13 14 #[false, false, false, false, false, false, false, false, false, false, false, false, false, false] (by kernel_rfl) (by kernel_rfl) (by kernel_rfl) ?_
        refine wpAnyK_take 0 41 (v := ?ve0) rfl (by kernel_rfl) (by kernel_rfl) (by kernel_rfl) (by kernel_rfl) (by kernel_rfl) (fun _ _ _ h => put_d 41 rfl (by decide) (by decide) h) rfl (Or.inl ⟨by rfl, ?he0⟩) (by assumption) ?re0
        case he0 => (intro w hSw; go_simp; with_reducible rfl)
        simp only [Act.put, List.setIfInBounds_toArray, List.set_cons_zero, List.set_cons_succ]
        refine wpAnyK_take 1 42 (v := ?ve1) rfl (by kernel_rfl) (by kernel_rfl) (by kernel_rfl) (by kernel_rfl) (by kernel_rfl) (fun _ _ _ h => put_d 42 rfl (by decide) (by decide) h) rfl (Or.inl ⟨by rfl, ?he1⟩) (by assumption) ?re1
        case he1 => (intro w hSw; go_simp; with_reducible rfl)
        simp only [Act.put, List.setIfInBounds_toArray, List.set_cons_zero, List.set_cons_succ]
        refine wpAnyK_take 2 43 (v := ?ve2) rfl (by kernel_rfl) (by kernel_rfl) (by kernel_rfl) (by kernel_rfl) (by kernel_rfl) (fun _ _ _ h => put_d 43 rfl (by decide) (by decide) h) rfl (Or.inl ⟨by rfl, ?he2⟩) (by assumption) ?re2
        case he2 => (intro w hSw; go_simp; with_reducible rfl)
        simp only [Act.put, List.setIfInBounds_toArray, List.set_cons_zero, List.set_cons_succ]
        refine wpAnyK_take 3 44 (v := ?ve3) rfl (by kernel_rfl) (by kernel_rfl) (by kernel_rfl) (by kernel_rfl) (by kernel_rfl) (fun _ _ _ h => put_d 44 rfl (by decide) (by decide) h) rfl (Or.inl ⟨by rfl, ?he3⟩) (by assumption) ?re3
        case he3 => (intro w hSw; go_simp; with_reducible rfl)
        simp only [Act.put, List.setIfInBounds_toArray, List.set_cons_zero, List.set_cons_succ]
        refine wpAnyK_take 4 45 (v := ?ve4) rfl (by kernel_rfl) (by kernel_rfl) (by kernel_rfl) (by kernel_rfl) (by kernel_rfl) (fun _ _ _ h => put_d 45 rfl (by decide) (by decide) h) rfl (Or.inl ⟨by rfl, ?he4⟩) (by assumption) ?re4
        case he4 => (intro w hSw; go_simp; with_reducible rfl)
        simp only [Act.put, List.setIfInBounds_toArray, List.set_cons_zero, List.set_cons_succ]
        refine wpAnyK_take 5 46 (v := ?ve5) rfl (by kernel_rfl) (by kernel_rfl) (by kernel_rfl) (by kernel_rfl) (by kernel_rfl) (fun _ _ _ h => put_d 46 rfl (by decide) (by decide) h) rfl (Or.inl ⟨by rfl, ?he5⟩) (by assumption) ?re5
        case he5 => (intro w hSw; go_simp; with_reducible rfl)
        simp only [Act.put, List.setIfInBounds_toArray, List.set_cons_zero, List.set_cons_succ]
        refine wpAnyK_one 6 (by kernel_rfl) rfl (fun K hK => ?_)
        go_simp
        go_wp2_with (go_at_call 30; refine (QU.out _ (bw_trans B8.out (Bw.drw _)) (W8.out.bw (Bw.drw _))).mono ?_; rintro e' w9 ⟨rfl, b9⟩; replace b9 := bw_trans (Bw.drw W8w) b9; have S9 : w9.cell? ⟨O, 0, none⟩ = some (.slice (some ⟨B, 0, none⟩) n n) ∧ w9.cell? ⟨F, 0, none⟩ = some (.slice (some ⟨b1, o1, none⟩) (n1 + 1) c1) := ⟨(O8.out.bw b9).2.1, (F8.out.bw b9).2.1⟩)
        refine hK.out _ _ (fun _ _ => S9) ?_
        clear hK K
        simp only [List.setIfInBounds_toArray, List.set_cons_zero, List.set_cons_succ]
        refine wpAnyK_take 7 40 (v := ?ve7) rfl (by kernel_rfl) (by kernel_rfl) (by kernel_rfl) (by kernel_rfl) (by kernel_rfl) (fun _ _ _ h => put_d 40 rfl (by decide) (by decide) h) rfl (Or.inl ⟨by rfl, ?he7⟩) (by assumption) ?re7
        case he7 => (intro w hSw; go_simp; with_reducible rfl)
        simp only [Act.put, List.setIfInBounds_toArray, List.set_cons_zero, List.set_cons_succ]
        refine wpAnyK_take 8 48 (v := ?ve8) rfl (by kernel_rfl) (by kernel_rfl) (by kernel_rfl) (by kernel_rfl) (by kernel_rfl) (fun _ _ _ h => put_d 48 rfl (by decide) (by decide) h) rfl (Or.inl ⟨by rfl, ?he8⟩) (by assumption) ?re8
        case he8 => (intro w hSw; go_simp; with_reducible rfl)
        simp only [Act.put, List.setIfInBounds_toArray, List.set_cons_zero, List.set_cons_succ]
        refine wpAnyK_take 9 49 (v := ?ve9) rfl (by kernel_rfl) (by kernel_rfl) (by kernel_rfl) (by kernel_rfl) (by kernel_rfl) (fun _ _ _ h => put_d 49 rfl (by decide) (by decide) h) rfl (Or.inl ⟨by rfl, ?he9⟩) (by assumption) ?re9
        case he9 => (intro w hSw; go_simp; with_reducible rfl)
        simp only [Act.put, List.setIfInBounds_toArray, List.set_cons_zero, List.set_cons_succ]
        refine wpAnyK_take 10 50 (v := ?ve10) rfl (by kernel_rfl) (by kernel_rfl) (by kernel_rfl) (by kernel_rfl) (by kernel_rfl) (fun _ _ _ h => put_d 50 rfl (by decide) (by decide) h) rfl (Or.inl ⟨by rfl, ?he10⟩) (by assumption) ?re10
        case he10 => (intro w hSw; go_simp; with_reducible rfl)
        simp only [Act.put, List.setIfInBounds_toArray, List.set_cons_zero, List.set_cons_succ]
        refine wpAnyK_take 11 51 (v := ?ve11) rfl (by kernel_rfl) (by kernel_rfl) (by kernel_rfl) (by kernel_rfl) (by kernel_rfl) (fun _ _ _ h => put_d 51 rfl (by decide) (by decide) h) rfl (Or.inl ⟨by rfl, ?he11⟩) (by assumption) ?re11
        case he11 => (intro w hSw; go_simp; with_reducible rfl)
        simp only [Act.put, List.setIfInBounds_toArray, List.set_cons_zero, List.set_cons_succ]
        obtain ⟨_, p0⟩ := (PA.out.bw b9).2.2.1 5 (by omega)
        obtain ⟨p1, p0⟩ := p0
        have p2 := (PA.out.bw b9).2.1 5
        obtain ⟨_, g0, g1⟩ := E8'.out.bw b9
        have T9 : (w9.setCell ⟨B, 5, none⟩ (.complex .f64 u v)).cell? ⟨O, 0, none⟩ = some (.slice (some ⟨B, 0, none⟩) n n) ∧ (w9.setCell ⟨B, 5, none⟩ (.complex .f64 u v)).cell? ⟨F, 0, none⟩ = some (.slice (some ⟨b1, o1, none⟩) (n1 + 1) c1) := ⟨((O8.out.bw b9).apart NE.out.1 5 (.complex .f64 u v)).2.1, ((F8.out.bw b9).apart NE.out.2.2.1 5 (.complex .f64 u v)).2.1⟩
        obtain ⟨_, gE, gE1⟩ := (E8'.out.bw b9).apart NE.out.2.1 5 (.complex .f64 u v)
        have yE := set_self gE
        refine wpAnyK_one 12 (by kernel_rfl) rfl (fun K hK => ?_)
        go_simp
        refine hK.out _ _ (fun _ _ => T9) ?_
        clear hK K
        simp only [List.setIfInBounds_toArray, List.set_cons_zero, List.set_cons_succ]
        refine wpAnyK_one 13 (by kernel_rfl) rfl (fun K hK => ?_)
        go_simp
        refine hK.out _ _ (fun h => absurd rfl h) ?_
        clear hK K
        simp only [List.setIfInBounds_toArray, List.set_cons_zero, List.set_cons_succ]
        refine wpAnyK_done (by kernel_rfl) ?_ _
        have RR : Hid (Fc (w9.setCell ⟨B, 5, none⟩ (.complex .f64 u v)) F (.slice (some ⟨b1, o1, none⟩) (n1 + 1) c1) (.slice (some ⟨b2, o2, none⟩) (n + 1) c2) ∧ Oc (w9.setCell ⟨B, 5, none⟩ (.complex .f64 u v)) O (.slice (some ⟨B, 0, none⟩) n n) ∧ Oc (w9.setCell ⟨B, 5, none⟩ (.complex .f64 u v)) E (.int .i64 0) ∧ Gl c (w9.setCell ⟨B, 5, none⟩ (.complex .f64 u v)) bs 0 ls ∧ Pk c (w9.setCell ⟨B, 5, none⟩ (.complex .f64 u v)) B n 3 zs rs ∧ Bw w (w9.setCell ⟨B, 5, none⟩ (.complex .f64 u v))) :=
          ⟨(F8.out.bw b9).apart NE.out.2.2.1 5 (.complex .f64 u v), (O8.out.bw b9).apart NE.out.1 5 (.complex .f64 u v), (E8'.out.bw b9).apart NE.out.2.1 5 (.complex .f64 u v), gl_set (S8.out.bw b9) NE.out.2.2.2.1 5 (.complex .f64 u v), HPS2.out w9 b9, bw_set (bw_trans B8.out b9) NE.out.2.2.2.2.2.2.2.1 5 (.complex .f64 u v)⟩
        clear F8 O8 E8' S8 W8 B8 PA HPS2 S9 T9 S0 yE p0 p2 g0 g1 QU
        go_wp2
        go_roundw
        case rel => exact ⟨3, by omega, by simp, RR.out.1, RR.out.2.1, RR.out.2.2.1, RR.out.2.2.2.1, RR.out.2.2.2.2.1, RR.out.2.2.2.2.2⟩
        case measure => simp [intOf]; omega
    · have hk3 : n = k := by omega
      subst hk3
      have HO := hide hO
      have HE := hide hE
      have HP := hide hP
      have HB := hide hbw
      clear hF hO hE hS hP hbw
      go_wp2_with fail
      obtain ⟨_, d0, d1⟩ := HO.out
      obtain ⟨_, g0, g1⟩ := HE.out
      have S13 : wr.drew.cell? ⟨O, 0, none⟩ = some (.slice (some ⟨B, 0, none⟩) n n) ∧ wr.drew.cell? ⟨E, 0, none⟩ = some (.int .i64 0) := ⟨d0, g0⟩
      have y0 := set_self d0
      have y2 := set_self g0
      refine wp_region_K (fun w' => w'.cell? ⟨O, 0, none⟩ = some (.slice (some ⟨B, 0, none⟩) n n) ∧ w'.cell? ⟨E, 0, none⟩ = some (.int .i64 0)) 3 4 #[false, false, false, false] (by kernel_rfl) (by kernel_rfl) (by kernel_rfl) ?_
      refine wpAnyK_take 0 55 (v := ?vz0) rfl (by kernel_rfl) (by kernel_rfl) (by kernel_rfl) (by kernel_rfl) (by kernel_rfl) (fun _ _ _ h => put_d 55 rfl (by decide) (by decide) h) rfl (Or.inl ⟨by rfl, ?hz0⟩) (by assumption) ?rz0
      case hz0 => (intro w hSw; go_simp; with_reducible rfl)
      simp only [Act.put, List.setIfInBounds_toArray, List.set_cons_zero, List.set_cons_succ]
      refine wpAnyK_take 1 56 (v := ?vz1) rfl (by kernel_rfl) (by kernel_rfl) (by kernel_rfl) (by kernel_rfl) (by kernel_rfl) (fun _ _ _ h => put_d 56 rfl (by decide) (by decide) h) rfl (Or.inl ⟨by rfl, ?hz1⟩) (by assumption) ?rz1
      case hz1 => (intro w hSw; go_simp; with_reducible rfl)
      simp only [Act.put, List.setIfInBounds_toArray, List.set_cons_zero, List.set_cons_succ]
      refine wpAnyK_one 2 (by kernel_rfl) rfl (fun K hK => ?_)
      go_simp
      refine hK.out _ _ (fun _ _ => S13) ?_
      clear hK K
      simp only [List.setIfInBounds_toArray, List.set_cons_zero, List.set_cons_succ]
      refine wpAnyK_one 3 (by kernel_rfl) rfl (fun K hK => ?_)
      go_simp
      refine hK.out _ _ (fun h => absurd rfl h) ?_
      clear hK K
      simp only [List.setIfInBounds_toArray, List.set_cons_zero, List.set_cons_succ]
      refine wpAnyK_done (by kernel_rfl) ?_ _
      clear S13 y0 y2
      go_wp2_with fail
      refine leaves_cons (f := 42) (args := #[.pointer (some ⟨E, 0, none⟩), .pointer (some ⟨O, 0, none⟩)]) (by simp) (by simp [go_sem]) ?_
      refine (dpoles10 .returning (by exact g0)).mono ?_
      rintro e u' w14 ⟨rfl, rfl, hw14⟩
      subst hw14
      have P14 := HP.out.bw (Bw.drw wr)
      exact ⟨_, res_sc rfl _ _ O E _ _ _ 0 rfl rfl (by exact d0) (by exact g0), B, rfl, ⟨P14.1, P14.2.2.2⟩, bw_trans HB.out (Bw.drw wr)⟩
end Go.Proofs.Ytmbjgakehghdjaa
/-
  OWN TEXT: comparisons of whole complex numbers; the law's small, of, l, at.
-/
namespace Go.Proofs.Ytmbjgakehghdjaa
open Go.ChangeShapes Go.WideShapes Go.ChangeAt Go.RowKit
set_option linter.unusedVariables false
attribute [local go_sem] frombits_call tobits_call run_neg run_store_cx
theorem ceq10 {c x y u v : Nat} {g h : Py.G} (hg : wC c x y g) (hh : wC c u v h) (t : TypeId) (w : World) : (binOp .eql t (.complex .f64 x y) (.complex .f64 u v)).run Try.prog w = .ok (.bool (decide (g = h))) w := by
  have o1 := Fl.o_eq x u
  have o2 := Fl.o_eq y v
  rw [hg.1.eq hh.1] at o1
  rw [hg.2.eq hh.2] at o2
  rw [g_eq, ← o1, ← o2]
  clear o1 o2 hg hh
  simp [binOp, Op.complexOp, Op.Complex.cmp, Op.floatCmp, asBool]
theorem small10 {c : Nat} (hc : c = 1074) (n : Int) : ∃ x m, wI c x m ∧ m.natAbs ≤ 8 ∧ ∀ w, Calls Try.prog 19 #[.int .i64 n] w fun e w' => e = .returned (.float .f64 x) ∧ w' = w := by
  have hb : -8 ≤ n.tmod 9 ∧ n.tmod 9 ≤ 8 := by
    have h1 := Int.tmod_lt_of_pos n (show (0 : Int) < 9 by decide)
    have h2 := Int.lt_tmod_of_pos n (show (0 : Int) < 9 by decide)
    omega
  refine ⟨_, _, w_small hc (n.tmod 9) hb.1 hb.2, by omega, fun w => ?_⟩
  go_enter Try.func19, Try.ntmps19
  go_wp2
  go_ret
  exact ⟨rfl, rfl⟩
theorem l10 (s : Value) (w : World) : Calls Try.prog 7 #[s] w fun e w' => e = .returned s ∧ w' = w := by
  go_enter Try.func7, Try.ntmps7
  go_wp2
  go_ret
  exact ⟨rfl, rfl⟩
theorem res_c1 {fn : Func} {p : Tmp} (hr : fn.results = #[.cell p 24]) (tmps : Array Value) (w : World) (F : Nat) (s t : Value) (hp : tmps.getD p undef = .pointer (some ⟨F, 0, none⟩)) (h : Fc w F s t) : (results fn tmps).run Try.prog w = .ok (.agg #[s, t]) w := by
  have hp' : tmps[p]?.getD undef = .pointer (some ⟨F, 0, none⟩) := by simpa using hp
  simp [results, hr, hp', asAddr, fc_load h]
theorem of10 (a1 a2 : Option Addr) (n1 c1 n2 c2 : Nat) (w : World) : Calls Try.prog 6 #[.slice a1 n1 c1, .slice a2 n2 c2] w fun e w' => e = .returned (.agg #[.slice a1 n1 c1, .slice a2 n2 c2]) ∧ Bw w w' := by
  go_enter Try.func6, Try.ntmps6
  go_wp2
  refine bodyPost_ret (res_c1 rfl _ _ _ _ _ rfl (Fc.made w _ _ _)) rfl ?_
  exact ⟨rfl, bw_alloc _ _⟩
theorem at10 {w : World} {b o cap n x y r s : Nat} (A : Calls Try.prog 50 #[.slice (some ⟨b, o, none⟩) n cap, .complex .f64 x y] w fun e w' => e = .returned (.tuple #[.complex .f64 r s, .int .i64 0]) ∧ Bw w w') : Calls Try.prog 21 #[.slice (some ⟨b, o, none⟩) n cap, .complex .f64 x y] w fun e w' => e = .returned (.tuple #[.complex .f64 r s, .bool true]) ∧ Bw w w' := by
  have HA := hide A
  clear A
  go_enter Try.func21, Try.ntmps21
  go_wp2_with fail
  refine HA.out.mono ?_
  rintro e' w1 ⟨rfl, b1⟩
  clear HA
  go_wp2
  go_ret2
  exact ⟨rfl, b1⟩
theorem at10e {c : Nat} (hc : c = 1074) {w : World} {b o cap n x y Z : Nat} {l : List Py.G} {g : Py.G} (U : Nat → Nat) (hm : May n l) (h : Gl c w b o l) (hg : wC c x y g) (lg : Py.Le g Z) (hZ : Z ≤ 1099511627776) (hU : Steps l n Z U) : Calls Try.prog 21 #[.slice (some ⟨b, o, none⟩) (n + 1) cap, .complex .f64 x y] w fun e w' => ∃ r s, e = .returned (.tuple #[.complex .f64 r s, .bool true]) ∧ wC c r s (Py.ev l g) ∧ Bw w w' := by
  have C := hide (at8 (cap := cap) hc U hm h hg lg hZ hU)
  clear hm h hg lg hZ hU
  go_enter Try.func21, Try.ntmps21
  go_wp2_with fail
  refine C.out.mono ?_
  rintro e' w1 ⟨r, s, rfl, hrs, b1⟩
  have HR := hide hrs
  clear C hrs
  go_wp2
  go_ret2
  exact ⟨r, s, rfl, HR.out, b1⟩
end Go.Proofs.Ytmbjgakehghdjaa
