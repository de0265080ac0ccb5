/-
  OWN TEXT: for the law RatioBack: poles in a row of the call's own; differences that are small.
-/
import Derived.Test.YtmbjgakehghdjaaJbg
namespace Go.Proofs.Ytmbjgakehghdjaa
open Go.ChangeShapes Go.WideShapes Go.ChangeAt Go.RowKit
set_option linter.unusedVariables false
attribute [local go_sem] frombits_call tobits_call run_neg run_store_cx
theorem tiny_vl : ∀ c, c = 1074 → 1099511627776 * Fl.vl 4427038433705197568 = 2 ^ c := by rintro _ rfl; decide +kernel
theorem near8 {c u r : Nat} {n : Int} (hc : c = 1074) (hu : cl8 c u n) (hr : wI c r n) : ∃ o, o < 18446744073709551616 ∧ Fl.leF (Fl.rg o) 4427038433705197568 = true ∧ ∀ (t : TypeId) (w : World), (binOp .sub t (.float .f64 u) (.float .f64 r)).run Try.prog w = .ok (.float .f64 o) w := by
  have hU := unit_le hc
  obtain ⟨u1, u2, u3⟩ := hu
  have e : Fl.val r = n * ((2 ^ c : Nat) : Int) := hr.2.2
  have hd : 4398046511104 * (Fl.val u - Fl.val r).natAbs ≤ 2 ^ c := by rw [e]; exact u3
  obtain ⟨o, ho, er⟩ := n_sub (a := u) (b := r) hc u2 hr.2.1 hr.1 (by generalize 2 ^ c = U at *; omega)
  refine ⟨o, ho.1, ?_, er⟩
  have hv := nr_le ho
  have ht := tiny_vl c hc
  have hle : Fl.vl (Fl.rg o) ≤ Fl.vl 4427038433705197568 := by
    rw [← val_natAbs]
    generalize 2 ^ c = U at *
    omega
  have hrg : Fl.rg o ≤ 4427038433705197568 := by
    rcases Nat.lt_or_ge 4427038433705197568 (Fl.rg o) with k | k
    · have := Fl.vl_mono k
      omega
    · exact k
  have n1 : Fl.nan (Fl.rg o) = false := by rw [Fl.nan_rg]; unfold Fl.nan; exact decide_eq_false (by have := ho.2.1; omega)
  rw [Fl.leF_of n1 (by decide), Fl.key_rg, show Fl.key 4427038433705197568 = 4427038433705197568 by decide]
  exact decide_eq_true (by omega)
/-- a difference of complex numbers, both parts small -/
theorem cnear8 {c u v r s : Nat} {g : Py.G} (hc : c = 1074) (hu : cl8 c u g.1) (hv : cl8 c v g.2) (hr : wC c r s g) : ∃ o q, (o < 18446744073709551616 ∧ Fl.leF (Fl.rg o) 4427038433705197568 = true) ∧ (q < 18446744073709551616 ∧ Fl.leF (Fl.rg q) 4427038433705197568 = true) ∧ ∀ (t : TypeId) (w : World), (binOp .sub t (.complex .f64 u v) (.complex .f64 r s)).run Try.prog w = .ok (.complex .f64 o q) w := by
  obtain ⟨o, o1, o2, o3⟩ := near8 hc hu hr.1
  obtain ⟨q, q1, q2, q3⟩ := near8 hc hv hr.2
  exact ⟨o, q, ⟨o1, o2⟩, ⟨q1, q2⟩, fun t w => csum_run8 (Or.inr rfl) (fun t => o3 t w) (fun t => q3 t w) t⟩
theorem cne10 {c x y u v : Nat} {g h : Py.G} (hg : wC c x y g) (hh : wC c u v h) (t : TypeId) (w : World) : (binOp .neq t (.complex .f64 x y) (.complex .f64 u v)).run Try.prog w = .ok (.bool (!decide (g = h))) w := by
  have o1 := Fl.o_eq x u
  have o2 := Fl.o_eq y v
  rw [hg.1.eq hh.1] at o1
  rw [hg.2.eq hh.2] at o2
  rw [g_eq, ← o1, ← o2]
  clear o1 o2 hg hh
  simp [binOp, Op.complexOp, Op.Complex.cmp, Op.floatCmp, asBool]
/-- the values of poles, one behind the other -/
def Vp (c : Nat) (vals : List Value) (zs rs : List Py.G) : Prop := vals.length = 2 * zs.length ∧ rs.length = zs.length ∧ ∀ j, j < zs.length → ∃ x y u v, vals[2 * j]? = some (.complex .f64 x y) ∧ vals[2 * j + 1]? = some (.complex .f64 u v) ∧ wC c x y (Py.co zs j) ∧ wC c u v (Py.co rs j)
theorem Vp.snoc {c x y u v : Nat} {g h : Py.G} {vals : List Value} {zs rs : List Py.G} (H : Vp c vals zs rs) (hg : wC c x y g) (hh : wC c u v h) : Vp c (vals ++ [.complex .f64 x y, .complex .f64 u v]) (zs ++ [g]) (rs ++ [h]) := by
  obtain ⟨h1, h2, h3⟩ := H
  refine ⟨by simp [h1]; omega, by simp [h2], fun j hj => ?_⟩
  rw [Py.co_append, Py.co_append]
  by_cases k : j < zs.length
  · obtain ⟨x', y', u', v', e1, e2, q1, q2⟩ := h3 j k
    rw [if_pos k, if_pos (by omega)]
    exact ⟨x', y', u', v', by rw [List.getElem?_append_left (by omega)]; exact e1, by rw [List.getElem?_append_left (by omega)]; exact e2, q1, q2⟩
  · have hj' : j = zs.length := by simp at hj; omega
    subst hj'
    rw [if_neg k, if_neg (by omega), Nat.sub_self, show zs.length - rs.length = 0 by omega]
    refine ⟨x, y, u, v, ?_, ?_, hg, hh⟩
    · rw [List.getElem?_append_right (by omega), show 2 * zs.length - vals.length = 0 by omega]; rfl
    · rw [List.getElem?_append_right (by omega), show 2 * zs.length + 1 - vals.length = 1 by omega]; rfl
theorem Vp.pl {c : Nat} {w : World} {B n : Nat} {v : Value} {vals : List Value} {zs rs : List Py.G} (h : Vp c vals zs rs) (hn : zs.length = n) (ho : w.ownsRow B 42 2 v n vals) : ∃ a cp, v = .slice a n cp ∧ PL c w a n zs rs := by
  by_cases z : n = 0
  · rcases ho.2 with ⟨e, _⟩ | ⟨g, cp, _, e, _⟩
    · subst z; exact ⟨none, 0, e, hn, by rw [h.2.1, hn], Or.inl rfl⟩
    · exact ⟨_, cp, e, hn, by rw [h.2.1, hn], Or.inl z⟩
  · obtain ⟨g, cp, e, hg, hl⟩ := ho.form (by omega)
    subst e
    refine ⟨_, cp, rfl, hn, by rw [h.2.1, hn], Or.inr ⟨g, rfl, hl, fun i hi => ?_⟩⟩
    obtain ⟨x, y, u, v, e1, e2, q1, q2⟩ := h.2.2 i (by omega)
    exact ⟨x, y, u, v, by rw [ho.cellAt (2 * i) (by omega)]; exact e1, by rw [ho.cellAt (2 * i + 1) (by omega)]; exact e2, q1, q2⟩
theorem Vl.gl {c : Nat} {w : World} {B n : Nat} {v : Value} {vals : List Value} {zs : List Py.G} (h : Vl c vals zs) (hn : zs.length = n) (ho : w.ownsRow B 27 1 v n vals) : ∃ a cp, v = .slice a n cp ∧ GL c w a n zs := by
  by_cases z : n = 0
  · rcases ho.2 with ⟨e, _⟩ | ⟨g, cp, _, e, _⟩
    · subst z; exact ⟨none, 0, e, hn, Or.inl rfl⟩
    · exact ⟨_, cp, e, hn, Or.inl z⟩
  · obtain ⟨g, cp, e, hg, hl⟩ := ho.form (by omega)
    subst e
    exact ⟨_, cp, rfl, hn, Or.inr ⟨g, 0, rfl, (h.gw hn ho).1⟩⟩
theorem info_pole : (Try.prog.info? 42).map (fun i => (i.zero, i.size, i.bytes)) = some (some (.agg #[.complex .f64 0 0, .complex .f64 0 0]), 2, 32) := by kernel_rfl
theorem ne_snoc {zs : List Py.G} {g : Py.G} (hd : ∀ m, m < zs.length → ∀ j, j < zs.length → j ≠ m → Py.co zs j ≠ Py.co zs m) (hg : ∀ j, j < zs.length → Py.co zs j ≠ g) : ∀ m, m < (zs ++ [g]).length → ∀ j, j < (zs ++ [g]).length → j ≠ m → Py.co (zs ++ [g]) j ≠ Py.co (zs ++ [g]) m := by
  intro m hm j hj hne
  rw [List.length_append] at hm hj
  simp only [List.length_cons, List.length_nil] at hm hj
  rw [Py.co_append, Py.co_append]
  by_cases a : j < zs.length
  · by_cases b : m < zs.length
    · rw [if_pos a, if_pos b]; exact hd m b j a hne
    · rw [if_pos a, if_neg b, show m - zs.length = 0 by omega]; exact hg j a
  · by_cases b : m < zs.length
    · rw [if_neg a, if_pos b, show j - zs.length = 0 by omega]; exact fun e => hg m b e.symm
    · omega
theorem e8_snoc {zs : List Py.G} {g : Py.G} (h : ∀ i, E8 (Py.co zs i)) (hg : E8 g) (i : Nat) : E8 (Py.co (zs ++ [g]) i) := by
  rw [Py.co_append]
  split
  · exact h i
  · generalize i - zs.length = t
    cases t with
    | zero => exact hg
    | succ t => exact E8.nought
end Go.Proofs.Ytmbjgakehghdjaa
