/-
  OWN TEXT: no numbers in the evaluator: calls that look at their bits, known by contracts.
-/
import Derived.Test.YtbicaldchikkjaaGreatJXwS
import Derived.Test.YtbicaldchikkjaaGreatJXwPToXwQ
import Derived.Test.YtbicaldchikkjaaGreatJXxAToXxH
import Derived.Test.YtbicaldchikkjaaGreatJRpA
namespace Go.Proofs.YtbicaldchikkjaaGreat
open Go.RowKit
set_option linter.unusedVariables false
set_option maxRecDepth 1000000
theorem nan_args {r : Rho} {l : List Value} (h : LR (VRel r) [nanV] l) : ∃ m, l = [.float .f64 m] ∧ noNum m := by
  obtain ⟨h1, h2⟩ := h
  obtain ⟨v', e1, e2⟩ := h2 0 nanV rfl
  obtain ⟨m, rfl, hm⟩ := flO_rel (r := r) (show flO nanV = some 0 from rfl) e2
  match l, h1, e1 with
  | [x], _, e1 => simp at e1; subst e1; exact ⟨m, rfl, hm⟩
def isMk (l : List Value) : Bool := match l with | [.pointer (some ⟨0, 0, some 1⟩)] => true | _ => false
theorem isMk_eq {l : List Value} (h : isMk l = true) : l = [nanV] := by
  unfold isMk at h
  split at h
  · rfl
  · cases h
theorem rg_nan {m : Nat} (h : noNum m) : noNum (Fl.rg m) := by
  unfold noNum at h ⊢
  unfold Fl.rg
  exact ⟨by rw [Nat.mod_mod]; exact h.1, by omega⟩
/-- Abs of no number is none, and so is its turned one -/
noncomputable def knNaN : Kn := fun f args _ => bif (Nat.beq f 82 || Nat.beq f 40) && isMk args then some nanV else none
theorem knNaN_ok : KnOk Tryz.prog knNaN := by
  intro f args M v hM hk
  unfold knNaN at hk
  cases q : ((Nat.beq f 82 || Nat.beq f 40) && isMk args) with
  | false => rw [q] at hk; cases hk
  | true =>
    rw [q, cond_true] at hk
    cases hk
    simp only [Bool.and_eq_true, Bool.or_eq_true, Nat.beq_eq] at q
    obtain ⟨hf, ha⟩ := q
    obtain rfl := isMk_eq ha
    rcases hf with rfl | rfl
    · refine ⟨⟨_, Tryz.func82, by kernel_rfl⟩, fun w0 r w args' hr hl => ?_⟩
      obtain ⟨m, rfl, hm⟩ := nan_args hl
      refine (abs_any m w hm.2).mono fun x w' hx => ?_
      obtain ⟨rfl, rfl⟩ := hx
      exact ⟨r, _, Rho.le.refl r, rfl, .one (.one (.nan (rg_nan hm))), hr, Keep.refl r _⟩
    · refine ⟨⟨_, Tryz.func40, by kernel_rfl⟩, fun w0 r w args' hr hl => ?_⟩
      obtain ⟨m, rfl, hm⟩ := nan_args hl
      refine (turned_any m w hm.2).mono fun x w' hx => ?_
      obtain ⟨rfl, rfl⟩ := hx
      exact ⟨r, _, Rho.le.refl r, rfl, .one (.one (.nan (by rw [← Fl.neg_eq hm.2]; exact neg_nan hm))), hr, Keep.refl r _⟩
end Go.Proofs.YtbicaldchikkjaaGreat
