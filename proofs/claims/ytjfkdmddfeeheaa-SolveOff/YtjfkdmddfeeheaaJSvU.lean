/-
  OWN TEXT: lists of floats, and rows of them, as a statement's reading gives them; what the bound on what is read gives.
-/
import Derived.Test.YtjfkdmddfeeheaaRows
import Derived.Test.YtjfkdmddfeeheaaJSvOToSvP
import Derived.WalkKit
import Derived.ProofKit
import Derived.OpenShut
import Derived.Deep.Slices
namespace Go.Proofs.Ytjfkdmddfeeheaa.bulks
open Go.ChangeShapes Go.WideShapes Go.ChangeAt Go.RowKit
set_option linter.unusedVariables false
theorem one_le {H : Type} (d : DataW H) : 1 ≤ Rows.uptoBulk d := by
  cases d with
  | lit l => cases l <;> simp [Rows.uptoBulk]
  | nil => simp [Rows.uptoBulk]
  | ptr d => simp [Rows.uptoBulk]
  | slice elems spare => simp [Rows.uptoBulk]
  | agg parts => simp [Rows.uptoBulk]
  | iface t d => simp [Rows.uptoBulk]
  | map entries => simp [Rows.uptoBulk]
  | held h => simp [Rows.uptoBulk]
theorem app_eq {H : Type} (l r : List (DataW H)) : Rows.uptoBulkAll (l ++ r) = Rows.uptoBulkAll l + Rows.uptoBulkAll r := by
  induction l with
  | nil => simp [Rows.uptoBulkAll]
  | cons x l ih => simp only [List.cons_append, Rows.uptoBulkAll, ih]; omega
theorem len_le {H : Type} (l : List (DataW H)) : l.length ≤ Rows.uptoBulkAll l := by
  induction l with
  | nil => simp [Rows.uptoBulkAll]
  | cons x r ih => have := one_le x; simp only [Rows.uptoBulkAll, List.length_cons]; omega
theorem cells_f : Try.prog.cellsOf 25 = 1 := by kernel_rfl
theorem cells_r : Try.prog.cellsOf 24 = 1 := by kernel_rfl
section
variable {H : Type} {enc : TypeId × Value → H} {w : World} {base : Nat} {spare : Nat → Bool} {held : Bool}
theorem fl_cell {n : Nat} {V : Value} {d : DataW H} {ps : List MemPlace} (h : DataW.trod enc Try.prog w base spare held n 25 [V] = some (d, ps)) : ∃ x, V = .float .f64 x ∧ x < 18446744073709551616 := by
  cases n with
  | zero => simp [DataW.trod] at h
  | succ n =>
    cases V with
    | float k b =>
      by_cases hw : k = .f64 ∧ (Lit.float k b).wf = true
      · obtain ⟨rfl, hw⟩ := hw
        exact ⟨b, rfl, by simpa [Lit.wf] using hw⟩
      · exfalso
        cases k with
        | f64 =>
          have hw2 : ¬ (Lit.float .f64 b).wf = true := fun z => hw ⟨rfl, z⟩
          simp [DataW.trod, Try.underlying25, hw2] at h
        | f32 => simp [DataW.trod, Try.underlying25] at h
    | _ => simp [DataW.trod, Try.underlying25] at h
theorem cell_block {a : Addr} {v : Value} (h : w.cell? a = some v) : a.block < w.heap.size := by
  rcases Nat.lt_or_ge a.block w.heap.size with q | q
  · exact q
  · simp [World.cell?, Array.getElem?_eq_none q] at h
theorem ls_of {fuel : Nat} {v : Value} {d : DataW H} {ps : List MemPlace} (h : DataW.trod enc Try.prog w base spare held fuel 24 [v] = some (d, ps)) : ∃ n F, Sv.Ls w v n F ∧ n + 1 ≤ Rows.uptoBulk d := by
  rcases Go.Deep.open_slice1 Try.underlying24 cells_f h with ⟨hc, hx⟩ | ⟨a, len, cap, m, k, V, D, Pl, hc, _, hl, hm, hmm, hx, hall⟩
  · simp only [List.cons.injEq, and_true] at hc
    subst hc
    simp only [Prod.mk.injEq] at hx
    rw [hx.1]
    exact ⟨0, fun _ => 0, Or.inl ⟨Sv.emp.nil, rfl⟩, by simp [Rows.uptoBulk]⟩
  · simp only [List.cons.injEq, and_true] at hc
    subst hc
    simp only [Prod.mk.injEq] at hx
    have hbulk : len + 1 ≤ Rows.uptoBulk d := by
      rw [hx.1]
      have := len_le ((List.range len).map D)
      simp only [Rows.uptoBulk, List.length_map, List.length_range] at this ⊢
      omega
    have hlm : len ≤ m := by rw [hmm]; split <;> omega
    rcases Nat.eq_zero_or_pos len with z | z
    · subst z
      exact ⟨0, fun _ => 0, Or.inl ⟨⟨some a, cap, rfl, fun e => by cases e⟩, rfl⟩, hbulk⟩
    · obtain ⟨b, off, spot⟩ := a
      have hspot : spot = none := by simpa [Addr.add] using World.cell?_spot (hall 0 (by omega)).1
      subst hspot
      obtain ⟨X, hX⟩ := Go.Deep.choose_lt (α := Nat) (n := len) (p := fun i x => V i = .float .f64 x ∧ x < 18446744073709551616) (fun i hi => fl_cell (hall i (by omega)).2)
      have hb0 := cell_block (hall 0 (by omega)).1
      refine ⟨len, fun j => Fl.bitsF (X j), Or.inr ⟨b, off, cap, rfl, hl, ?_, fun j hj => ⟨X j, ?_, (hX j hj).2, rfl⟩⟩, hbulk⟩
      · simpa [Addr.add] using hb0
      · have := (hall j (by omega)).1
        rw [(hX j hj).1, Sv.add_off] at this
        exact this
def sm0 (l : Nat → Nat) : Nat → Nat
  | 0 => 0
  | k + 1 => sm0 l k + (1 + l k)
theorem lm_of {fuel : Nat} {v : Value} {d : DataW H} {ps : List MemPlace} (h : DataW.trod enc Try.prog w base spare held fuel 23 [v] = some (d, ps)) : ∃ n l A, Sv.Lm w v n l A ∧ sm0 l n + 1 ≤ Rows.uptoBulk d := by
  rcases Go.Deep.open_slice1 Try.underlying23 cells_r h with ⟨hc, hx⟩ | ⟨a, len, cap, m, k, V, D, Pl, hc, _, hl, hm, hmm, hx, hall⟩
  · simp only [List.cons.injEq, and_true] at hc
    subst hc
    simp only [Prod.mk.injEq] at hx
    rw [hx.1]
    exact ⟨0, fun _ => 0, fun _ _ => 0, Or.inl ⟨Sv.emp.nil, rfl⟩, by simp [Rows.uptoBulk, sm0]⟩
  · simp only [List.cons.injEq, and_true] at hc
    subst hc
    simp only [Prod.mk.injEq] at hx
    have hlm : len ≤ m := by rw [hmm]; split <;> omega
    obtain ⟨l, hl2⟩ := Go.Deep.choose_lt (α := Nat) (n := len) (p := fun i x => ∃ F, Sv.Ls w (V i) x F ∧ x + 1 ≤ Rows.uptoBulk (D i)) (fun i hi => ls_of (hall i (by omega)).2)
    obtain ⟨A, hA⟩ := Go.Deep.choose_lt (α := Nat → Nat) (n := len) (p := fun i F => Sv.Ls w (V i) (l i) F ∧ l i + 1 ≤ Rows.uptoBulk (D i)) (fun i hi => hl2 i hi)
    have hsum : ∀ k, k ≤ len → sm0 l k ≤ Rows.uptoBulkAll ((List.range k).map D) := by
      intro k
      induction k with
      | zero => intro _; exact Nat.zero_le _
      | succ k ih =>
        intro hk
        have h1 := ih (by omega)
        have h2 := (hA k (by omega)).2
        rw [List.range_succ, List.map_append, app_eq]
        simp only [List.map_cons, List.map_nil, Rows.uptoBulkAll]
        show sm0 l k + (1 + l k) ≤ _
        omega
    have hbulk : sm0 l len + 1 ≤ Rows.uptoBulk d := by
      rw [hx.1]
      have := hsum len (Nat.le_refl _)
      simp only [Rows.uptoBulk]
      omega
    rcases Nat.eq_zero_or_pos len with z | z
    · subst z
      exact ⟨0, l, A, Or.inl ⟨⟨some a, cap, rfl, fun e => by cases e⟩, rfl⟩, hbulk⟩
    · obtain ⟨b, off, spot⟩ := a
      have hspot : spot = none := by simpa [Addr.add] using World.cell?_spot (hall 0 (by omega)).1
      subst hspot
      have hb0 := cell_block (hall 0 (by omega)).1
      refine ⟨len, l, A, Or.inr ⟨b, off, cap, rfl, hl, ?_, fun j hj => ⟨V j, ?_, (hA j hj).1⟩⟩, hbulk⟩
      · simpa [Addr.add] using hb0
      · have := (hall j (by omega)).1
        rw [Sv.add_off] at this
        exact this
end
end Go.Proofs.Ytjfkdmddfeeheaa.bulks
