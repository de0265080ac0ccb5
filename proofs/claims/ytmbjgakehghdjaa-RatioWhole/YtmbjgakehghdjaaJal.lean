/-
  OWN TEXT: the small polynomials of the law (eddylaw08.whole, of, small).
-/
import Derived.Test.YtmbjgakehghdjaaJak
import Derived.Deep.AppendLies
import Derived.Defers
namespace Go.Proofs.Ytmbjgakehghdjaa
open Go.ChangeShapes Go.WideShapes Go.ChangeAt Go.RowKit
set_option linter.unusedVariables false
attribute [local go_sem] frombits_call tobits_call run_neg run_store_cx
theorem small_all : ∀ k : Fin 17, floatOfInt .f64 ((k.val : Int) - 8) < 18446744073709551616 ∧ Fl.rg (floatOfInt .f64 ((k.val : Int) - 8)) < 9218868437227405312 ∧ Fl.val (floatOfInt .f64 ((k.val : Int) - 8)) = ((k.val : Int) - 8) * ((2 ^ 1074 : Nat) : Int) := by decide +kernel
theorem w_small {c : Nat} (hc : c = 1074) (m : Int) (h1 : -8 ≤ m) (h2 : m ≤ 8) : wI c (floatOfInt .f64 m) m := by
  have h := small_all ⟨(m + 8).toNat, by omega⟩
  simp only at h
  rw [show (((m + 8).toNat : Nat) : Int) - 8 = m by omega] at h
  subst hc
  exact h
/-- a slice of ints that is read -/
def Ix (w : World) (a : Option Addr) (len : Nat) : Prop := len = 0 ∨ ∃ b off, a = some ⟨b, off, none⟩ ∧ b < w.heap.size ∧ ∀ j, j < len → ∃ z, w.cell? ⟨b, off + j, none⟩ = some (.int .i64 z)
theorem info_c128 : (Try.prog.info? 27).map (fun i => (i.zero, i.size, i.bytes)) = some (some (.complex .f64 0 0), 1, 16) := by kernel_rfl
theorem info_parts8 {i0 : Option TypeInfo} {z : Option Value} {s b : Nat} (h : i0.map (fun i => (i.zero, i.size, i.bytes)) = some (z, s, b)) : ∃ i, i0 = some i ∧ i.zero = z ∧ i.size = s ∧ i.bytes = b := by
  obtain ⟨i, hi, he⟩ := Option.map_eq_some_iff.1 h
  simp only [Prod.mk.injEq] at he
  exact ⟨i, hi, he.1, he.2.1, he.2.2⟩
/-- the values of a list -/
def Vl (c : Nat) (vals : List Value) (L : List Py.G) : Prop := vals.length = L.length ∧ ∀ j, j < L.length → ∃ x y, vals[j]? = some (.complex .f64 x y) ∧ wC c x y (Py.co L j)
theorem Vl.snoc {c x y : Nat} {g : Py.G} {vals : List Value} {L : List Py.G} (h : Vl c vals L) (hg : wC c x y g) : Vl c (vals ++ [.complex .f64 x y]) (L ++ [g]) := by
  refine ⟨by simp [h.1], fun j hj => ?_⟩
  rw [Py.co_append]
  by_cases k : j < L.length
  · obtain ⟨x, y, e, q⟩ := h.2 j k
    rw [if_pos k]
    exact ⟨x, y, by rw [List.getElem?_append_left (by rw [h.1]; exact k)]; exact e, q⟩
  · have : j = L.length := by simp at hj; omega
    subst this
    rw [if_neg k, Nat.sub_self]
    exact ⟨x, y, by rw [List.getElem?_append_right (by rw [h.1]; exact Nat.le_refl _), h.1, Nat.sub_self]; rfl, hg⟩
theorem Vl.gw {c : Nat} {w : World} {B g n cap : Nat} {vals : List Value} {L : List Py.G} (h : Vl c vals L) (hn : L.length = n) (ho : w.ownsRow B 27 1 (.slice (some ⟨g, 0, none⟩) n cap) n vals) : Gw c w g L := by
  refine ⟨⟨(ho.lt g rfl).2, fun j hj => ?_⟩, fun j => ho.frozenAt j⟩
  obtain ⟨x, y, e, q⟩ := h.2 j hj
  exact ⟨x, y, by rw [Nat.zero_add, ho.cellAt j (by omega)]; exact e, q⟩
theorem le_small {m n : Int} (h1 : m.natAbs ≤ 8) (h2 : n.natAbs ≤ 8) : Py.Le (m, n) 12 := by
  have a1 : m * m ≤ 64 := by
    have : m * m = (m.natAbs * m.natAbs : Nat) := by rw [Int.natAbs_mul_self]
    rw [this]
    have := Nat.mul_le_mul h1 h1
    omega
  have a2 : n * n ≤ 64 := by
    have : n * n = (n.natAbs * n.natAbs : Nat) := by rw [Int.natAbs_mul_self]
    rw [this]
    have := Nat.mul_le_mul h2 h2
    omega
  show m * m + n * n ≤ _
  have e : ((12 : Nat) : Int) * (12 : Nat) = 144 := by decide
  rw [e]
  omega
/-- parts of at most 8 -/
def E8 (g : Py.G) : Prop := g.1.natAbs ≤ 8 ∧ g.2.natAbs ≤ 8
theorem E8.nought : E8 (0, 0) := ⟨by decide, by decide⟩
theorem E8.le {g : Py.G} (h : E8 g) : Py.Le g 12 := le_small h.1 h.2
theorem three8 {c : Nat} (hc : c = 1074) : wC c 0 13837309855095848960 (0, -3) := by
  have h := w_small hc (-3) (by decide) (by decide)
  rw [show floatOfInt .f64 (-3) = 13837309855095848960 by decide +kernel] at h
  exact ⟨w_nought c, h⟩
end Go.Proofs.Ytmbjgakehghdjaa
/-
  OWN TEXT: how great the numbers of the law PolyWhole get; its 'like'.
-/
namespace Go.Proofs.Ytmbjgakehghdjaa
open Go.ChangeShapes Go.WideShapes Go.ChangeAt Go.RowKit
set_option linter.unusedVariables false
attribute [local go_sem] frombits_call tobits_call run_neg run_store_cx
/-- A, and Z times what stands, and A .. -/
def hrn (A Z : Nat) : Nat → Nat
  | 0 => A
  | t + 1 => hrn A Z t * Z + A
theorem hrn_up {A Z : Nat} (hZ : 1 ≤ Z) (t : Nat) : hrn A Z t ≤ hrn A Z (t + 1) := by
  show hrn A Z t ≤ hrn A Z t * Z + A
  have := Nat.le_mul_of_pos_right (hrn A Z t) (show 0 < Z by omega)
  omega
theorem hrn_mono {A Z : Nat} (hZ : 1 ≤ Z) {t n : Nat} (h : t ≤ n) : hrn A Z t ≤ hrn A Z n := by
  induction n with
  | zero => rw [show t = 0 by omega]; exact Nat.le_refl _
  | succ n ih =>
    by_cases k : t = n + 1
    · rw [k]; exact Nat.le_refl _
    · exact Nat.le_trans (ih (by omega)) (hrn_up hZ n)
theorem steps_of {l : List Py.G} {n N A Z : Nat} (hl : ∀ i, Py.Le (Py.co l i) A) (hZ : 1 ≤ Z) (hn : n ≤ N) (hN : hrn A Z N ≤ 9007199254740992) : Steps l n Z (fun k => hrn A Z (n - k)) := by
  refine ⟨?_, fun k hk => ⟨A, hl k, ?_⟩, fun k hk => Nat.le_trans (hrn_mono hZ (by omega)) hN⟩
  · simp only [Nat.sub_self]; exact hl n
  · simp only
    rw [show n - k = (n - (k + 1)) + 1 by omega]
    exact Nat.le_refl _
theorem ev_le {l : List Py.G} {z : Py.G} {A Z : Nat} (hl : ∀ i, Py.Le (Py.co l i) A) (hz : Py.Le z Z) (n : Nat) (hn : l.length = n + 1) : Py.Le (Py.ev l z) (hrn A Z n) := by
  induction n generalizing l with
  | zero =>
    match l, hn with
    | [c], _ =>
      rw [Py.ev, Py.ev, Py.nought_gm, Py.nought_ga]
      exact hl 0
  | succ n ih =>
    match l, hn with
    | c :: r, hn =>
      rw [Py.ev]
      exact ((ih (fun i => hl (i + 1)) (by simpa using hn)).mul hz).add (hl 0)
/-- a shifted polynomial -/
theorem steps_shift {l l' : List Py.G} {g : Py.G} {n m : Nat} (hn : l.length = n + 1) (h6 : n ≤ 6) (hm : m ≤ n) (hl : ∀ i, Py.Le (Py.co l i) 12) (hg : Py.Le g 12) (hc : ∀ i, Py.co l' i = Py.co (Py.shs g l n) i) : Steps l' m 12 (fun k => 2 * (12 * 2 ^ n) * 24 ^ (n - k)) := by
  have hb : ∀ i, Py.Le (Py.co l' i) (12 * 2 ^ n * 24 ^ (n - i)) := fun i => by rw [hc]; exact Py.shs_le g l 12 12 n hn hg hl (by omega) n (Nat.le_refl _) i
  refine ⟨(hb m).mono ?_, fun k hk => ⟨_, hb k, ?_⟩, fun k hk => ?_⟩
  · exact Nat.mul_le_mul_right _ (by omega)
  · simp only
    rw [show n - k = (n - (k + 1)) + 1 by omega, Nat.pow_succ]
    generalize 12 * 2 ^ n = a
    generalize 24 ^ (n - (k + 1)) = q
    have e1 : 2 * a * q * 12 = 24 * (a * q) := by
      rw [Nat.mul_assoc 2 a q]; omega
    have e2 : a * (q * 24) = 24 * (a * q) := by rw [← Nat.mul_assoc]; omega
    have e3 : 2 * a * (q * 24) = 48 * (a * q) := by rw [Nat.mul_assoc 2 a, ← Nat.mul_assoc a]; omega
    omega
  · simp only
    have h1 : 2 ^ n ≤ 2 ^ 6 := Nat.pow_le_pow_right (by omega) h6
    have h2 : 24 ^ (n - k) ≤ 24 ^ 6 := Nat.pow_le_pow_right (by omega) (by omega)
    refine Nat.le_trans (Nat.mul_le_mul (Nat.mul_le_mul_left 2 (Nat.mul_le_mul_left 12 h1)) h2) (by decide)
theorem shift_le {l : List Py.G} {g : Py.G} {n : Nat} (hn : l.length = n + 1) (h6 : n ≤ 6) (hl : ∀ i, Py.Le (Py.co l i) 12) (hg : Py.Le g 12) : ∀ j, j ≤ n → ∀ i, Py.Le (Py.co (Py.shs g l j) i) 146767085568 := fun j hj i => by
  refine (Py.shs_le g l 12 12 n hn hg hl (by omega) j hj i).mono ?_
  have h1 : 2 ^ j ≤ 2 ^ 6 := Nat.pow_le_pow_right (by omega) (by omega)
  have h2 : 24 ^ (n - i) ≤ 24 ^ 6 := Nat.pow_le_pow_right (by omega) (by omega)
  exact Nat.le_trans (Nat.mul_le_mul (Nat.mul_le_mul_left 12 h1) h2) (by decide)
theorem e8_mul {g h : Py.G} (hg : E8 g) (hh : E8 h) : Py.Le (Py.gm g h) 128 := by
  have n8 : ∀ m : Int, m.natAbs ≤ 8 → m * m ≤ 64 := fun m hm => by
    have : m * m = (m.natAbs * m.natAbs : Nat) := by rw [Int.natAbs_mul_self]
    rw [this]
    have := Nat.mul_le_mul hm hm
    omega
  have a1 := n8 _ hg.1
  have a2 := n8 _ hg.2
  have b1 := n8 _ hh.1
  have b2 := n8 _ hh.2
  show (g.1 * h.1 - g.2 * h.2) * (g.1 * h.1 - g.2 * h.2) + (g.1 * h.2 + g.2 * h.1) * (g.1 * h.2 + g.2 * h.1) ≤ _
  have e : (g.1 * h.1 - g.2 * h.2) * (g.1 * h.1 - g.2 * h.2) + (g.1 * h.2 + g.2 * h.1) * (g.1 * h.2 + g.2 * h.1) = (g.1 * g.1 + g.2 * g.2) * (h.1 * h.1 + h.2 * h.2) := by grind
  rw [e]
  have n3 := Py.sq_nonneg h.1
  have n4 := Py.sq_nonneg h.2
  have m := Int.mul_le_mul (show g.1 * g.1 + g.2 * g.2 ≤ 128 by omega) (show h.1 * h.1 + h.2 * h.2 ≤ 128 by omega) (by omega) (by decide)
  exact Int.le_trans m (by decide)
theorem ts_le8 {a b : List Py.G} (ha : ∀ i, E8 (Py.co a i)) (hb : ∀ i, E8 (Py.co b i)) (j k : Nat) : Py.Le (Py.ts a b j k) (k * 128) := by
  induction k with
  | zero => exact Py.Le.nought _
  | succ k ih =>
    rw [Py.ts, Nat.add_mul, Nat.one_mul]
    refine ih.add ?_
    by_cases c : k ≤ j
    · rw [if_pos c]; exact e8_mul (ha _) (hb _)
    · rw [if_neg c]; exact Py.Le.nought _
end Go.Proofs.Ytmbjgakehghdjaa
/-
  OWN TEXT: package ratio over whole complex numbers: its tests.
-/
namespace Go.Proofs.Ytmbjgakehghdjaa
open Go.ChangeShapes Go.WideShapes Go.ChangeAt Go.RowKit
set_option linter.unusedVariables false
attribute [local go_sem] frombits_call tobits_call run_neg run_store_cx
theorem risnought10 {c x y : Nat} {g : Py.G} (hg : wC c x y g) (w : World) : Calls Try.prog 60 #[.complex .f64 x y] w fun e w' => e = .returned (.bool (decide (g = (0, 0)))) ∧ w' = w := by
  have P : Hid (∀ wz, Calls Try.prog 48 #[.complex .f64 x y, .complex .f64 0 0] wz fun e w' => e = .returned (.bool (decide (g = (0, 0)))) ∧ w' = wz) := fun wz => plike8 hg (wC.nought c) wz
  clear hg
  generalize decide (g = (0, 0)) = p at *
  go_enter Try.func60, Try.ntmps60
  go_wp2_with fail
  refine (P.out _).mono ?_
  rintro e' w ⟨rfl, rfl⟩
  go_wp2
  go_ret
  exact ⟨rfl, rfl⟩
/-- not the nought polynomial -/
def Nz (n : Nat) (l : List Py.G) : Prop := n ≠ 0 ∨ Py.co l n ≠ (0, 0)
theorem nzp10 {c : Nat} {w : World} {b o cap n : Nat} {l : List Py.G} (hm : May n l) (h : Gl c w b o l) (hz : Nz n l) : Calls Try.prog 29 #[.slice (some ⟨b, o, none⟩) (n + 1) cap] w fun e w' => e = .returned (.bool false) ∧ w' = w := by
  have h1 := hm.1
  have h2 := hm.2.1
  by_cases z : n = 0
  · subst z
    obtain ⟨x, y, e, q⟩ := h.2 0 (by omega)
    rw [Nat.add_zero] at e
    have P : Hid (∀ wz, Calls Try.prog 60 #[.complex .f64 x y] wz fun e w' => e = .returned (.bool false) ∧ w' = wz) := fun wz => by
      have k := risnought10 q wz
      rw [decide_eq_false (hz.resolve_left (fun k => k rfl))] at k
      exact k
    clear hm h hz q h1 h2
    go_enter Try.func29, Try.ntmps29
    go_wp2_with fail
    refine (P.out _).mono ?_
    rintro e' w ⟨rfl, rfl⟩
    go_wp2
    go_ret
    exact ⟨rfl, rfl⟩
  · have t1 : ((n : Int) + 1 == 1) = false := by rw [beq_eq_false_iff_ne]; omega
    clear hm h hz h1
    go_enter Try.func29, Try.ntmps29
    go_wp2
    go_ret
    exact ⟨rfl, rfl⟩
/-- two slices in a block: a fraction -/
def Fc (w : World) (W : Nat) (s t : Value) : Prop := W < w.heap.size ∧ w.cell? ⟨W, 0, none⟩ = some s ∧ w.cell? ⟨W, 1, none⟩ = some t
theorem Fc.bw {w w' : World} {W : Nat} {s t : Value} (h : Fc w W s t) (k : Bw w w') : Fc w' W s t :=
  ⟨Nat.lt_of_lt_of_le h.1 (Below.size k), (Below.cell k (p := ⟨W, 0, none⟩) h.1).trans h.2.1, (Below.cell k (p := ⟨W, 1, none⟩) h.1).trans h.2.2⟩
theorem Fc.made (w : World) (s t : Value) (T : TypeId) : Fc (w.alloc (.cells #[s, t] T)) w.heap.size s t := ⟨by simp, by simp, by simp⟩
theorem rcheck10 {c : Nat} (hc : c = 1074) {w : World} {b o cap n b' o' cap' n' : Nat} {l l' : List Py.G} (hm : May n l) (h : Gl c w b o l) (hm' : May n' l') (h' : Gl c w b' o' l') (hz : Nz n' l') : Calls Try.prog 8 #[.agg #[.slice (some ⟨b, o, none⟩) (n + 1) cap, .slice (some ⟨b', o', none⟩) (n' + 1) cap']] w fun e w' => e = .returned (.int .i64 0) ∧ Bw w w' := by
  have A1 : Hid (∀ wz, Bw w wz → Calls Try.prog 28 #[.slice (some ⟨b, o, none⟩) (n + 1) cap] wz fun e w' => e = .returned (.int .i64 0) ∧ Bw wz w') := fun wz hz => check8 (cap := cap) hc hm (h.bw hz)
  have A2 : Hid (∀ wz, Bw w wz → Calls Try.prog 28 #[.slice (some ⟨b', o', none⟩) (n' + 1) cap'] wz fun e w' => e = .returned (.int .i64 0) ∧ Bw wz w') := fun wz hz => check8 (cap := cap') hc hm' (h'.bw hz)
  have A3 : Hid (∀ wz, Bw w wz → Calls Try.prog 29 #[.slice (some ⟨b', o', none⟩) (n' + 1) cap'] wz fun e w' => e = .returned (.bool false) ∧ w' = wz) := fun wz hb => nzp10 (cap := cap') hm' (h'.bw hb) hz
  clear hm h hm' h' hz
  have F0 := hide (Fc.made w (.slice (some ⟨b, o, none⟩) (n + 1) cap) (.slice (some ⟨b', o', none⟩) (n' + 1) cap') 24)
  have hb0 := bw_alloc w (.cells #[.slice (some ⟨b, o, none⟩) (n + 1) cap, .slice (some ⟨b', o', none⟩) (n' + 1) cap'] 24)
  go_enter Try.func8, Try.ntmps8
  go_wp2_with fail
  refine (A1.out _ hb0).mono ?_
  rintro e' w1 ⟨rfl, hb⟩
  obtain ⟨hlt, _, c1⟩ := F0.out.bw hb
  replace hb := bw_trans hb0 hb
  clear A1 F0 hb0
  go_wp2_with fail
  refine (A2.out _ hb).mono ?_
  rintro e' w2 ⟨rfl, hb2⟩
  have c2 : w2.cell? ⟨w.heap.size, 1, none⟩ = some (.slice (some ⟨b', o', none⟩) (n' + 1) cap') := (Below.cell hb2 (p := ⟨w.heap.size, 1, none⟩) hlt).trans c1
  replace hb := bw_trans hb hb2
  clear A2 hb2 c1 hlt
  go_wp2_with fail
  refine (A3.out _ hb).mono ?_
  rintro e' w3 ⟨rfl, rfl⟩
  go_wp2
  go_ret
  exact ⟨rfl, hb⟩
end Go.Proofs.Ytmbjgakehghdjaa
