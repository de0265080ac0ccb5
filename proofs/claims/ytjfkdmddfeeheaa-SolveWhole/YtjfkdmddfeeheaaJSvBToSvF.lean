/-
 OWN TEXT: rows of floats, and rows of such rows, in memory: read, owned, written.
-/
import Derived.Test.YtjfkdmddfeeheaaJSvA
import Derived.Deep.AppendLies
import Derived.Laws.OwnMore
import Derived.Laws.IdiomCopy
import Derived.Laws.Rows
namespace Go.Proofs.Ytjfkdmddfeeheaa
open Go.ChangeShapes Go.WideShapes Go.ChangeAt Go.RowKit
set_option linter.unusedVariables false
attribute [local go_sem] frombits_call tobits_call run_neg

namespace Sv
theorem hid {p : Prop} (h : p) : Hid p := h
/-- the first n floats, as values -/
def fv (X : Nat → Nat) (n : Nat) : List Value := (List.range n).map fun j => Value.float .f64 (X j)
theorem fv_len (X : Nat → Nat) (n : Nat) : (fv X n).length = n := by simp [fv]
theorem fv_get (X : Nat → Nat) (n j : Nat) (h : j < n) : (fv X n)[j]? = some (.float .f64 (X j)) := by simp [fv, h]
theorem fv_succ (X : Nat → Nat) (n : Nat) : fv X (n + 1) = fv X n ++ [.float .f64 (X n)] := by
 unfold fv; rw [List.range_succ, List.map_append]; rfl
theorem fv_ext (X Y : Nat → Nat) (n : Nat) (h : ∀ j, j < n → X j = Y j) : fv X n = fv Y n := by
 unfold fv
 exact List.map_congr_left fun j hj => by rw [h j (List.mem_range.1 hj)]
theorem fv_one (X : Nat → Nat) (n : Nat) : ∀ u ∈ fv X n, u.oneCell' = true := by
 intro u hu
 unfold fv at hu
 obtain ⟨j, _, rfl⟩ := List.mem_map.1 hu
 rfl
theorem fv_set (X : Nat → Nat) (n i x : Nat) : (fv X n).set i (.float .f64 x) = fv (fun t => if t = i then x else X t) n := by
 apply List.ext_getElem?
 intro j
 by_cases hj : j < n
 ·
  rw [fv_get _ _ _ hj, List.getElem?_set]
  by_cases e : i = j
  · subst e; rw [if_pos rfl, if_pos (by rw [fv_len]; exact hj), if_pos rfl]
  · rw [if_neg e, fv_get _ _ _ hj, if_neg (fun h => e h.symm)]
 · rw [List.getElem?_eq_none (by rw [List.length_set, fv_len]; omega), List.getElem?_eq_none (by rw [fv_len]; omega)]
/-- n floats lie at block b, from o on -/
def Rd (w : World) (b o n : Nat) (F : Nat → Nat) : Prop := b < w.heap.size ∧ ∀ j, j < n → ∃ x, w.cell? ⟨b, o + j, none⟩ = some (.float .f64 x) ∧ x < 18446744073709551616 ∧ Fl.bitsF x = F j
theorem Rd.block {w w' : World} {b o n : Nat} {F : Nat → Nat} (h : Rd w b o n F) (hs : w.heap.size ≤ w'.heap.size) (k : w'.heap[b]? = w.heap[b]?) : Rd w' b o n F := by
 refine ⟨by have := h.1; omega, fun j hj => ?_⟩
 obtain ⟨x, e, l, q⟩ := h.2 j hj
 exact ⟨x, (World.cell?_of_block (w := w) (a := ⟨b, o + j, none⟩) k).trans e, l, q⟩
theorem Rd.bw {w w' : World} {b o n : Nat} {F : Nat → Nat} (h : Rd w b o n F) (k : Bw w w') : Rd w' b o n F := h.block k.size (k.block b h.1)
theorem Rd.gb {w w' : World} {b o n : Nat} {F : Nat → Nat} {r : Option Nat} (h : Rd w b o n F) (k : w.grownBy w' r) (hr : some b ≠ r) : Rd w' b o n F := h.block k.size (k.block b h.1 hr)
theorem Rd.less {w : World} {b o n : Nat} {F : Nat → Nat} (h : Rd w b o n F) {m : Nat} (hm : m ≤ n) : Rd w b o m F := ⟨h.1, fun j hj => h.2 j (by omega)⟩
theorem Rd.ext {w : World} {b o n : Nat} {F G : Nat → Nat} (h : Rd w b o n F) (e : ∀ j, j < n → F j = G j) : Rd w b o n G := ⟨h.1, fun j hj => by obtain ⟨x, a, l, q⟩ := h.2 j hj; exact ⟨x, a, l, q.trans (e j hj)⟩⟩
/-- v is an empty slice -/
def emp (v : Value) : Prop := ∃ p c, v = .slice p 0 c ∧ (p = none → c = 0)
theorem emp.nil : emp (.slice none 0 0) := ⟨none, 0, rfl, fun _ => rfl⟩
/-- v is a slice of n floats -/
def Ls (w : World) (v : Value) (n : Nat) (F : Nat → Nat) : Prop := (emp v ∧ n = 0) ∨ ∃ b o c, v = .slice (some ⟨b, o, none⟩) n c ∧ n ≤ c ∧ Rd w b o n F
theorem Ls.bw {w w' : World} {v : Value} {n : Nat} {F : Nat → Nat} (h : Ls w v n F) (k : Bw w w') : Ls w' v n F := by
 rcases h with h | ⟨b, o, c, e, l, h⟩
 · exact Or.inl h
 · exact Or.inr ⟨b, o, c, e, l, h.bw k⟩
theorem Ls.ext {w : World} {v : Value} {n : Nat} {F G : Nat → Nat} (h : Ls w v n F) (e : ∀ j, j < n → F j = G j) : Ls w v n G := by
 rcases h with h | ⟨b, o, c, e1, l, h⟩
 · exact Or.inl h
 · exact Or.inr ⟨b, o, c, e1, l, h.ext e⟩
/-- v is a slice of n slices of floats -/
def Lm (w : World) (v : Value) (n : Nat) (l : Nat → Nat) (A : M) : Prop := (emp v ∧ n = 0) ∨ ∃ b o c, v = .slice (some ⟨b, o, none⟩) n c ∧ n ≤ c ∧ b < w.heap.size ∧ ∀ i, i < n → ∃ r, w.cell? ⟨b, o + i, none⟩ = some r ∧ Ls w r (l i) (A i)
theorem Lm.bw {w w' : World} {v : Value} {n : Nat} {l : Nat → Nat} {A : M} (h : Lm w v n l A) (k : Bw w w') : Lm w' v n l A := by
 rcases h with h | ⟨b, o, c, e, hl, hb, h⟩
 · exact Or.inl h
 ·
  refine Or.inr ⟨b, o, c, e, hl, by have := k.size; omega, fun i hi => ?_⟩
  obtain ⟨r, e, q⟩ := h i hi
  exact ⟨r, (Below.cell k (p := ⟨b, o + i, none⟩) hb).trans e, q.bw k⟩
theorem gb_bw {w w' : World} (h : Bw w w') (r : Option Nat) : w.grownBy w' r := ⟨h.os, h.tape, h.output, h.size, fun k hk _ => h.block k hk⟩
theorem gb_below {w0 w w' : World} {b : Nat} {r : Nat} (h : Below b w0 w) (k : w.grownBy w' (some r)) (hb : b ≤ w.heap.size) (hr : b ≤ r) : Below b w0 w' := Below.grown h k hb (fun x e => by cases e; exact hr)
/-- a row of n floats of the call's own lies in block B -/
def Rw (w : World) (base B n c : Nat) (F : Nat → Nat) : Prop := ∃ X : Nat → Nat, w.ownsRow base 25 1 (.slice (some ⟨B, 0, none⟩) n c) n (fv X n) ∧ ∀ j, j < n → X j < 18446744073709551616 ∧ Fl.bitsF (X j) = F j
theorem Rw.lt {w : World} {base B n c : Nat} {F : Nat → Nat} (h : Rw w base B n c F) : base ≤ B ∧ B < w.heap.size := by
 obtain ⟨X, h, _⟩ := h
 exact h.lt B rfl
theorem Rw.cell {w : World} {base B n c : Nat} {F : Nat → Nat} (h : Rw w base B n c F) {j : Nat} (hj : j < n) : ∃ x, w.cell? ⟨B, j, none⟩ = some (.float .f64 x) ∧ x < 18446744073709551616 ∧ Fl.bitsF x = F j := by
 obtain ⟨X, h, k⟩ := h
 exact ⟨X j, (h.cellAt j (by omega)).trans (fv_get _ _ _ hj), k j hj⟩
theorem Rw.frozen {w : World} {base B n c : Nat} {F : Nat → Nat} (h : Rw w base B n c F) (j : Nat) : w.frozen? ⟨B, j, none⟩ = false := by
 obtain ⟨X, h, _⟩ := h
 exact h.frozenAt j
theorem Rw.gb {w w' : World} {base B n c : Nat} {F : Nat → Nat} {r : Option Nat} (h : Rw w base B n c F) (k : w.grownBy w' r) (hr : some B ≠ r) : Rw w' base B n c F := by
 obtain ⟨X, h, q⟩ := h
 exact ⟨X, h.kept k (Or.inr hr), q⟩
theorem Rw.bw {w w' : World} {base B n c : Nat} {F : Nat → Nat} (h : Rw w base B n c F) (k : Bw w w') : Rw w' base B n c F := h.gb (gb_bw k none) (by simp)
theorem Rw.ext {w : World} {base B n c : Nat} {F G : Nat → Nat} (h : Rw w base B n c F) (e : ∀ j, j < n → F j = G j) : Rw w base B n c G := by
 obtain ⟨X, h, q⟩ := h
 exact ⟨X, h, fun j hj => ⟨(q j hj).1, (q j hj).2.trans (e j hj)⟩⟩
theorem Rw.rd {w : World} {base B n c : Nat} {F : Nat → Nat} (h : Rw w base B n c F) : Rd w B 0 n F := ⟨h.lt.2, fun j hj => by rw [Nat.zero_add]; exact h.cell hj⟩
theorem Rw.set {w : World} {base B n c : Nat} {F : Nat → Nat} (h : Rw w base B n c F) (i x : Nat) (hx : x < 18446744073709551616) : Rw (w.setCell ⟨B, i, none⟩ (.float .f64 x)) base B n c (fun j => if j = i then Fl.bitsF x else F j) ∧ w.grownBy (w.setCell ⟨B, i, none⟩ (.float .f64 x)) (some B) := by
 obtain ⟨X, h, q⟩ := h
 obtain ⟨h1, h2⟩ := h.stored i (.float .f64 x)
 rw [fv_set] at h1
 refine ⟨⟨_, h1, fun j hj => ?_⟩, h2⟩
 by_cases e : j = i
 · simp only [e, if_true]; exact ⟨hx, trivial⟩
 · simp only [if_neg e]; exact q j hj
/-- n rows of m floats, of the call's own: block R holds them, row i lies in block f i -/
structure Mt (w : World) (base R n m c : Nat) (f : Nat → Nat) (A : M) : Prop where
 own : w.ownsRow base 24 1 (.slice (some ⟨R, 0, none⟩) n n) n ((List.range n).map fun i => .slice (some ⟨f i, 0, none⟩) m c)
 row : ∀ i, i < n → Rw w base (f i) m c (A i)
 far : ∀ i, i < n → f i ≠ R
 inj : ∀ i j, i < n → j < n → f i = f j → i = j
theorem Mt.lt {w : World} {base R n m c : Nat} {f : Nat → Nat} {A : M} (h : Mt w base R n m c f A) : base ≤ R ∧ R < w.heap.size := h.own.lt R rfl
theorem Mt.cell {w : World} {base R n m c : Nat} {f : Nat → Nat} {A : M} (h : Mt w base R n m c f A) {i : Nat} (hi : i < n) : w.cell? ⟨R, i, none⟩ = some (.slice (some ⟨f i, 0, none⟩) m c) := by
 rw [h.own.cellAt i (by omega)]
 simp [hi]
theorem Mt.frozen {w : World} {base R n m c : Nat} {f : Nat → Nat} {A : M} (h : Mt w base R n m c f A) (i : Nat) : w.frozen? ⟨R, i, none⟩ = false := h.own.frozenAt i
theorem Mt.bw {w w' : World} {base R n m c : Nat} {f : Nat → Nat} {A : M} (h : Mt w base R n m c f A) (k : Bw w w') : Mt w' base R n m c f A :=
 ⟨h.own.kept (gb_bw k none) (by simp [Value.ownBlock]), fun i hi => (h.row i hi).bw k, h.far, h.inj⟩
theorem Mt.gb {w w' : World} {base R n m c : Nat} {f : Nat → Nat} {A : M} {r : Option Nat} (h : Mt w base R n m c f A) (k : w.grownBy w' r) (hR : some R ≠ r) (hf : ∀ i, i < n → some (f i) ≠ r) : Mt w' base R n m c f A :=
 ⟨h.own.kept k (Or.inr hR), fun i hi => (h.row i hi).gb k (hf i hi), h.far, h.inj⟩
theorem Mt.ext {w : World} {base R n m c : Nat} {f : Nat → Nat} {A A' : M} (h : Mt w base R n m c f A) (e : ∀ i j, i < n → j < m → A i j = A' i j) : Mt w base R n m c f A' :=
 ⟨h.own, fun i hi => (h.row i hi).ext (fun j hj => e i j hi hj), h.far, h.inj⟩
/-- row i turned, nothing else -/
theorem Mt.turn {w w' : World} {base R n m c : Nat} {f : Nat → Nat} {A : M} (h : Mt w base R n m c f A) {i : Nat} (hi : i < n) {G : Nat → Nat} (k : w.grownBy w' (some (f i))) (r : Rw w' base (f i) m c G) : Mt w' base R n m c f (fun t => if t = i then G else A t) := by
 refine ⟨h.own.kept k (Or.inr (by simp only [Value.ownBlock, ne_eq, Option.some.injEq]; exact fun e => h.far i hi e.symm)), fun t ht => ?_, h.far, h.inj⟩
 by_cases e : t = i
 · subst e; simp only [if_true]; exact r
 ·
  simp only [if_neg e]
  exact (h.row t ht).gb k (by simp only [ne_eq, Option.some.injEq]; exact fun z => e (h.inj t i ht hi z))
theorem Mt.rd {w : World} {base R n m c : Nat} {f : Nat → Nat} {A : M} (h : Mt w base R n m c f A) (hn : 0 < n) (hm : m ≤ c) : Lm w (.slice (some ⟨R, 0, none⟩) n n) n (fun _ => m) A :=
 Or.inr ⟨R, 0, n, rfl, Nat.le_refl _, h.lt.2, fun i hi => ⟨_, by rw [Nat.zero_add]; exact h.cell hi, Or.inr ⟨f i, 0, c, rfl, hm, (h.row i hi).rd⟩⟩⟩
theorem range_set {α : Type} (g : Nat → α) (n i : Nat) (x : α) : ((List.range n).map g).set i x = (List.range n).map fun t => if t = i then x else g t := by
 apply List.ext_getElem?
 intro j
 by_cases hj : j < n
 ·
  rw [List.getElem?_set]
  by_cases e : i = j
  · subst e; simp [hj]
  ·
   have e' : ¬ j = i := fun h => e h.symm
   simp [hj, e, e']
 · rw [List.getElem?_eq_none (by simp; omega), List.getElem?_eq_none (by simp; omega)]
/-- which row comes to stand at t -/
def sw (k i t : Nat) : Nat := if t = k then i else if t = i then k else t
theorem sw_lt {k i t n : Nat} (hk : k < n) (hi : i < n) (ht : t < n) : sw k i t < n := by unfold sw; split; exact hi; split; exact hk; exact ht
theorem sw_inj {k i s t : Nat} (h : sw k i s = sw k i t) : s = t := by unfold sw at h; split at h <;> split at h <;> (try split at h) <;> (try split at h) <;> omega
theorem swap_sw (A : M) (k i t : Nat) : Sv.swap A k i t = A (sw k i t) := by unfold Sv.swap sw; split; rfl; split <;> rfl
/-- two rows change places -/
theorem Mt.swap {w : World} {base R n m c : Nat} {f : Nat → Nat} {A : M} (h : Mt w base R n m c f A) {k i : Nat} (hk : k < n) (hi : i < n) :
  Mt ((w.setCell ⟨R, k, none⟩ (.slice (some ⟨f i, 0, none⟩) m c)).setCell ⟨R, i, none⟩ (.slice (some ⟨f k, 0, none⟩) m c)) base R n m c (fun t => f (sw k i t)) (swap A k i) ∧ w.grownBy ((w.setCell ⟨R, k, none⟩ (.slice (some ⟨f i, 0, none⟩) m c)).setCell ⟨R, i, none⟩ (.slice (some ⟨f k, 0, none⟩) m c)) (some R) := by
 obtain ⟨o1, g1⟩ := h.own.stored k (.slice (some ⟨f i, 0, none⟩) m c)
 obtain ⟨o2, g2⟩ := o1.stored i (.slice (some ⟨f k, 0, none⟩) m c)
 rw [range_set, range_set] at o2
 have g := g1.trans g2
 refine ⟨⟨?_, fun t ht => ?_, fun t ht => h.far _ (sw_lt hk hi ht), fun s t hs ht e => sw_inj (h.inj _ _ (sw_lt hk hi hs) (sw_lt hk hi ht) e)⟩, g⟩
 ·
  have e : (fun t => if t = i then Value.slice (some ⟨f k, 0, none⟩) m c else if t = k then Value.slice (some ⟨f i, 0, none⟩) m c else Value.slice (some ⟨f t, 0, none⟩) m c) = fun t => Value.slice (some ⟨f (sw k i t), 0, none⟩) m c := by
   funext t
   unfold sw
   by_cases e1 : t = i
   ·
    subst e1
    by_cases e2 : t = k
    · subst e2; simp
    · simp [e2]
   ·
    by_cases e2 : t = k
    · subst e2; rw [if_neg e1, if_pos rfl, if_pos rfl]
    · rw [if_neg e1, if_neg e2, if_neg e2, if_neg e1]
  rw [e] at o2
  exact o2
 ·
  rw [swap_sw]
  exact (h.row _ (sw_lt hk hi ht)).gb g (by simp only [ne_eq, Option.some.injEq]; exact h.far _ (sw_lt hk hi ht))
end Sv
end Go.Proofs.Ytjfkdmddfeeheaa
/-
 OWN TEXT: package solve, of floats: the five functions, which lists are finite.
-/
namespace Go.Proofs.Ytjfkdmddfeeheaa
open Go.ChangeShapes Go.WideShapes Go.ChangeAt Go.RowKit
set_option linter.unusedVariables false
attribute [local go_sem] frombits_call tobits_call run_neg

theorem times14 (a b : Nat) (w : World) : Calls Try.prog 70 #[.float .f64 a, .float .f64 b] w fun e w' => ∃ x, e = .returned (.float .f64 x) ∧ (x < 18446744073709551616 ∧ Fl.bitsF x = Sv.op .mul (Fl.bitsF a) (Fl.bitsF b)) ∧ Bw w w' := by
 obtain ⟨x, w1, hx, hc, e1, b1⟩ := Sv.run Sv.iMul a b w
 have H : Hid (x < 18446744073709551616 ∧ Fl.bitsF x = Sv.op .mul (Fl.bitsF a) (Fl.bitsF b)) := ⟨hx, hc⟩
 clear hx hc
 go_enter Try.func70, Try.ntmps70
 go_wp2
 go_ret
 exact ⟨x, rfl, H.out, b1⟩
theorem over14 (a b : Nat) (w : World) : Calls Try.prog 71 #[.float .f64 a, .float .f64 b] w fun e w' => ∃ x, e = .returned (.float .f64 x) ∧ (x < 18446744073709551616 ∧ Fl.bitsF x = Sv.op .quo (Fl.bitsF a) (Fl.bitsF b)) ∧ Bw w w' := by
 obtain ⟨x, w1, hx, hc, e1, b1⟩ := Sv.run Sv.iQuo a b w
 have H : Hid (x < 18446744073709551616 ∧ Fl.bitsF x = Sv.op .quo (Fl.bitsF a) (Fl.bitsF b)) := ⟨hx, hc⟩
 clear hx hc
 go_enter Try.func71, Try.ntmps71
 go_wp2
 go_ret
 exact ⟨x, rfl, H.out, b1⟩
theorem nought14 (x : Nat) (w : World) : Calls Try.prog 72 #[.float .f64 x] w fun e w' => e = .returned (.bool (Sv.nought x)) ∧ w' = w := by
 go_enter Try.func72, Try.ntmps72
 go_wp2
 go_ret
 exact ⟨rb (by rw [Fl.o_eq]; exact Sv.nought_eqF x), rfl⟩
theorem pfinite14 (x y : Nat) (w : World) (hx : x < 18446744073709551616) (hy : y < 18446744073709551616) : Calls Try.prog 74 #[.complex .f64 x y] w fun e w' => e = .returned (.bool (Fl.finB x && Fl.finB y)) ∧ w' = w := by
 have F : Hid (∀ x wz, x < 18446744073709551616 → Calls Try.prog 103 #[.float .f64 x] wz fun e w' => e = .returned (.bool (Fl.finB x)) ∧ w' = wz) := fun x wz h => finite_any x wz h
 cases c : Fl.finB x
 ·
  go_enter Try.func74, Try.ntmps74
  go_wp2_with fail
  refine (F.out _ _ hx).mono ?_
  rintro e w ⟨rfl, rfl⟩
  rw [c]
  go_wp2
  go_ret
  exact ⟨rfl, rfl⟩
 ·
  go_enter Try.func74, Try.ntmps74
  go_wp2_with fail
  refine (F.out _ _ hx).mono ?_
  rintro e w ⟨rfl, rfl⟩
  rw [c]
  go_wp2_with fail
  refine (F.out _ _ hy).mono ?_
  rintro e w ⟨rfl, rfl⟩
  go_wp2
  go_ret
  exact ⟨by simp, rfl⟩
theorem isfin14 (x : Nat) (w : World) (hx : x < 18446744073709551616) : Calls Try.prog 73 #[.float .f64 x] w fun e w' => e = .returned (.bool (Fl.finB x)) ∧ w' = w := by
 have P := Sv.hid (pfinite14 x 0 w hx (by decide))
 go_enter Try.func73, Try.ntmps73
 go_wp2_with fail
 refine P.out.mono ?_
 rintro e w ⟨rfl, rfl⟩
 clear P
 go_wp2
 go_ret
 exact ⟨rb (by rw [show Fl.finB 0 = true by decide, Bool.and_true]), rfl⟩
theorem store14 {P : Program} {w : World} {a : Addr} {m : Mode} (f : Fn) (x y : Array Value) : (store a (.func f x y) m).run P w = stored P w a (.func f x y) m := run_store P w a _ m rfl
attribute [local go_sem] store14
theorem floats14 (w : World) : Calls Try.prog 40 #[] w fun e w' => e = .returned (.agg #[.func (.func 70) #[] #[], .func (.func 71) #[] #[], .func (.func 31) #[] #[], .func (.func 72) #[] #[], .func (.func 73) #[] #[]]) ∧ Bw w w' := by
 go_enter Try.func40, Try.ntmps40
 go_wp2
 (try simp only [Exit.inBlock, Exit.then])
 refine bodyPost_ret (results_cell_row rfl _ _ w.heap.size _ _ _ _ rfl (heap_alloc_new _ _) Try.underlying73 rfl (by kernel_rfl)) rfl ?_
 exact ⟨rfl, Below.alloc (Bw.refl w) (Nat.le_refl _) _⟩
end Go.Proofs.Ytjfkdmddfeeheaa
/-
 OWN TEXT: package solve, of floats: which lists are finite.
-/
namespace Go.Proofs.Ytjfkdmddfeeheaa
open Go.ChangeShapes Go.WideShapes Go.ChangeAt Go.RowKit
set_option linter.unusedVariables false
attribute [local go_sem] frombits_call tobits_call run_neg

namespace Sv
/-- the box of the five functions -/
def Bx (w : World) (C : Nat) : Prop := C < w.heap.size ∧ w.cell? ⟨C, 0, none⟩ = some (.func (.func 70) #[] #[]) ∧ w.cell? ⟨C, 1, none⟩ = some (.func (.func 71) #[] #[]) ∧ w.cell? ⟨C, 2, none⟩ = some (.func (.func 31) #[] #[]) ∧ w.cell? ⟨C, 3, none⟩ = some (.func (.func 72) #[] #[]) ∧ w.cell? ⟨C, 4, none⟩ = some (.func (.func 73) #[] #[])
theorem Bx.made (w : World) : Bx (w.alloc (.cells #[.func (.func 70) #[] #[], .func (.func 71) #[] #[], .func (.func 31) #[] #[], .func (.func 72) #[] #[], .func (.func 73) #[] #[]] 73)) w.heap.size := ⟨by simp, by simp, by simp, by simp, by simp, by simp⟩
theorem Bx.block {w w' : World} {C : Nat} (h : Bx w C) (hs : w.heap.size ≤ w'.heap.size) (k : w'.heap[C]? = w.heap[C]?) : Bx w' C := by
 obtain ⟨h0, h1, h2, h3, h4, h5⟩ := h
 have c := fun (j : Nat) => World.cell?_of_block (w := w) (w' := w') (a := ⟨C, j, none⟩) k
 exact ⟨by omega, (c 0).trans h1, (c 1).trans h2, (c 2).trans h3, (c 3).trans h4, (c 4).trans h5⟩
theorem Bx.bw {w w' : World} {C : Nat} (h : Bx w C) (k : Bw w w') : Bx w' C := h.block k.size (k.block C h.1)
theorem Bx.gb {w w' : World} {C : Nat} {r : Option Nat} (h : Bx w C) (k : w.grownBy w' r) (hr : some C ≠ r) : Bx w' C := h.block k.size (k.block C h.1 hr)
theorem bw_new (w : World) (x : Obj) : Bw w (w.alloc x) := Below.alloc (Bw.refl w) (Nat.le_refl _) _
/-- are the first n of them finite? -/
def fin (F : Nat → Nat) (n : Nat) : Prop := ∀ j, j < n → Fl.finB (F j) = true
instance (F : Nat → Nat) (n : Nat) : Decidable (fin F n) := Nat.decidableBallLT n fun j _ => Fl.finB (F j) = true
end Sv
theorem arefin14 {w : World} {v : Value} {n : Nat} {F : Nat → Nat} (h : Sv.Ls w v n F) (hn : n < 1000000) : Calls Try.prog 69 #[(.agg #[.func (.func 70) #[] #[], .func (.func 71) #[] #[], .func (.func 31) #[] #[], .func (.func 72) #[] #[], .func (.func 73) #[] #[]]), v] w fun e w' => e = .returned (.bool (decide (Sv.fin F n))) ∧ Bw w w' := by
 have hb := Sv.Bx.made w
 have b0 := Sv.bw_new w (.cells #[.func (.func 70) #[] #[], .func (.func 71) #[] #[], .func (.func 31) #[] #[], .func (.func 72) #[] #[], .func (.func 73) #[] #[]] 73)
 rcases h with ⟨⟨p0, c0, rfl, hp0⟩, rfl⟩ | ⟨b, o, c, rfl, hc, h⟩
 ·
  have z : decide (Sv.fin F 0) = true := decide_eq_true (fun j hj => absurd hj (by omega))
  rw [z]
  go_enter Try.func69, Try.ntmps69
  go_wp2
  go_loopw [9] (fun i wr => i = .int .i64 0 ∧ Bw w wr) (fun i _ => 0)
  case atStart => exact ⟨rfl, b0⟩
  case round =>
   obtain ⟨rfl, hbw⟩ := hrel
   go_wp2
   go_ret
   exact ⟨rfl, hbw⟩
 ·
  have H := Sv.hid h
  have HB := Sv.hid hb
  clear h hb
  go_enter Try.func69, Try.ntmps69
  go_wp2
  generalize w.heap.size = C at *
  go_loopw [9] (fun i wr => ∃ k : Nat, k ≤ n ∧ i = .int .i64 k ∧ Sv.fin F k ∧ Sv.Bx wr C ∧ Bw w wr) (fun i _ => n - (intOf i).toNat)
  case atStart => exact ⟨0, Nat.zero_le _, rfl, fun j hj => absurd hj (by omega), HB.out, b0⟩
  case round =>
   obtain ⟨k, hk, rfl, hf, hbx, hbw⟩ := hrel
   have HF := Sv.hid hf
   have HX := Sv.hid hbx
   clear hf HB
   by_cases hk1 : k < n
   ·
    obtain ⟨x, e, hx, q⟩ := (H.out.bw hbw).2 k hk1
    have c5 := hbx.2.2.2.2.2
    have hk2 : (k : Int) < n := by omega
    clear hbx
    have Q := Sv.hid q
    clear q
    cases z : Fl.finB x
    ·
     have z2 : decide (Sv.fin F n) = false := decide_eq_false (fun g => by have := g k hk1; rw [← Q.out, Sv.fin_c, z] at this; cases this)
     have Z2 := Sv.hid z2
     clear z2
     go_wp2_with fail
     refine (isfin14 x _ hx).mono ?_
     rintro e' w1 ⟨rfl, rfl⟩
     rw [z]
     go_wp2
     go_ret
     exact ⟨rb Z2.out.symm, hbw⟩
    ·
     go_wp2_with fail
     refine (isfin14 x _ hx).mono ?_
     rintro e' w1 ⟨rfl, rfl⟩
     rw [z]
     go_wp2
     go_roundw
     case rel =>
      refine ⟨k + 1, by omega, by simp, fun j hj => ?_, HX.out, hbw⟩
      by_cases y : j = k
      · subst y; rw [← Q.out, Sv.fin_c, z]
      · exact HF.out j (by omega)
     case measure => simp [intOf]; omega
   ·
    have hk3 : k = n := by omega
    subst hk3
    have z2 : decide (Sv.fin F k) = true := decide_eq_true HF.out
    have Z2 := Sv.hid z2
    clear z2
    go_wp2
    go_ret
    exact ⟨rb Z2.out.symm, hbw⟩
end Go.Proofs.Ytjfkdmddfeeheaa
/-
 OWN TEXT: package solve, of floats: what is wrong with a system, and with lists beside it.
-/
namespace Go.Proofs.Ytjfkdmddfeeheaa
open Go.ChangeShapes Go.WideShapes Go.ChangeAt Go.RowKit
set_option linter.unusedVariables false
attribute [local go_sem] frombits_call tobits_call run_neg

namespace Sv
/-- what is wrong with a system -/
def chk (n : Nat) (l : Nat → Nat) (A : M) : Int := if n < 1 ∨ 128 < n then 4 else if ∀ i, i < n → l i = n then (if ∀ i, i < n → fin (A i) n then 0 else 5) else 140
/-- with a list beside it -/
def chkL (n m : Nat) (B : Nat → Nat) : Int := if m = n then (if fin B n then 0 else 5) else 140
/-- with q lists, from the left -/
def chkB (n : Nat) (l : Nat → Nat) (B : M) : Nat → Int
 | 0 => 0
 | q + 1 => if chkB n l B q = 0 then chkL n (l q) (B q) else chkB n l B q
def chkA (n : Nat) (l : Nat → Nat) (A : M) (q : Nat) (lb : Nat → Nat) (B : M) : Int := if chk n l A = 0 then chkB n lb B q else chk n l A
theorem chk_many {n : Nat} {l : Nat → Nat} {A : M} (h : n < 1 ∨ 128 < n) : chk n l A = 4 := by unfold chk; rw [if_pos h]
theorem chk_shape {n : Nat} {l : Nat → Nat} {A : M} (h : ¬ (n < 1 ∨ 128 < n)) {k : Nat} (hk : k < n) (hl : l k ≠ n) : chk n l A = 140 := by unfold chk; rw [if_neg h, if_neg (fun g => hl (g k hk))]
theorem chk_real {n : Nat} {l : Nat → Nat} {A : M} (h : ¬ (n < 1 ∨ 128 < n)) (hl : ∀ i, i < n → l i = n) {k : Nat} (hk : k < n) (hf : ¬ fin (A k) n) : chk n l A = 5 := by unfold chk; rw [if_neg h, if_pos hl, if_neg (fun g => hf (g k hk))]
theorem chk_ok {n : Nat} {l : Nat → Nat} {A : M} (h : ¬ (n < 1 ∨ 128 < n)) (hl : ∀ i, i < n → l i = n) (hf : ∀ i, i < n → fin (A i) n) : chk n l A = 0 := by unfold chk; rw [if_neg h, if_pos hl, if_pos hf]
theorem chkA_no {n : Nat} {l : Nat → Nat} {A : M} {q : Nat} {lb : Nat → Nat} {B : M} {e : Int} (h : chk n l A = e) (he : e ≠ 0) : chkA n l A q lb B = e := by unfold chkA; rw [h, if_neg he]
theorem chkA_yes {n : Nat} {l : Nat → Nat} {A : M} {q : Nat} {lb : Nat → Nat} {B : M} (h : chk n l A = 0) : chkA n l A q lb B = chkB n lb B q := by unfold chkA; rw [if_pos h]
theorem chkB_no {n : Nat} {lb : Nat → Nat} {B : M} : ∀ {q k : Nat}, k < q → chkB n lb B k = 0 → ∀ {e : Int}, chkL n (lb k) (B k) = e → e ≠ 0 → chkB n lb B q = e
 | 0, _, h, _, _, _, _ => absurd h (by omega)
 | q + 1, k, h, h0, e, he, hn => by
  by_cases z : k = q
  · subst z; unfold chkB; rw [if_pos h0, he]
  ·
   unfold chkB
   rw [chkB_no (q := q) (by omega) h0 he hn, if_neg hn]
theorem fin_ext {F : Nat → Nat} {m n : Nat} (e : m = n) : decide (fin F m) = decide (fin F n) := by rw [e]
end Sv
set_option maxHeartbeats 4000000 in
theorem check14 {w : World} {va vb : Value} {n q : Nat} {l lb : Nat → Nat} {A B : Sv.M} (ha : Sv.Lm w va n l A) (hb : Sv.Lm w vb q lb B) (hn : n < 1000000) (hq : q < 1000000) : Calls Try.prog 41 #[(.agg #[.func (.func 70) #[] #[], .func (.func 71) #[] #[], .func (.func 31) #[] #[], .func (.func 72) #[] #[], .func (.func 73) #[] #[]]), va, vb] w fun e w' => e = .returned (.int .i64 (Sv.chkA n l A q lb B)) ∧ Bw w w' := by
 have b0 := Sv.bw_new w (.cells #[.func (.func 70) #[] #[], .func (.func 71) #[] #[], .func (.func 31) #[] #[], .func (.func 72) #[] #[], .func (.func 73) #[] #[]] 73)
 have HX := Sv.hid (Sv.Bx.made w)
 by_cases hm : n < 1 ∨ 128 < n
 ·
  have Z := Sv.hid (Sv.chkA_no (q := q) (lb := lb) (B := B) (Sv.chk_many (l := l) (A := A) hm) (by decide))
  rcases ha with ⟨⟨p0, c0, rfl, hp0⟩, rfl⟩ | ⟨b, o, c, rfl, hc, _, h⟩
  ·
   go_enter Try.func41, Try.ntmps41
   go_wp2
   go_ret
   exact ⟨ri Z.out.symm, b0⟩
  ·
   clear h hb
   rcases hm with hm | hm
   ·
    have hm1 : (n : Int) < 1 := by omega
    go_enter Try.func41, Try.ntmps41
    go_wp2
    go_ret
    exact ⟨ri Z.out.symm, b0⟩
   ·
    have hm1 : ¬ (n : Int) < 1 := by omega
    have hm2 : 128 < (n : Int) := by omega
    go_enter Try.func41, Try.ntmps41
    go_wp2
    go_ret
    exact ⟨ri Z.out.symm, b0⟩
 obtain ⟨b, o, c, rfl, hc, hbl, ha⟩ := ha.resolve_left (fun h => hm (by omega))
 have HA := Sv.hid ha
 have HB := Sv.hid hb
 have HM := Sv.hid hm
 have hm1 : ¬ (n : Int) < 1 := by omega
 have hm2 : ¬ 128 < (n : Int) := by omega
 clear ha hb hm
 go_enter Try.func41, Try.ntmps41
 go_wp2
 clear hm1 hm2
 replace HX := Sv.hid (And.intro HX.out b0)
 generalize w.heap.size = C at HX ⊢
 generalize w.alloc (.cells #[.func (.func 70) #[] #[], .func (.func 71) #[] #[], .func (.func 31) #[] #[], .func (.func 72) #[] #[], .func (.func 73) #[] #[]] 73) = W0 at *
 clear b0
 go_loopw [23] (fun i wr => ∃ k : Nat, k ≤ n ∧ i = .int .i64 k ∧ (∀ j, j < k → l j = n) ∧ Sv.Bx wr C ∧ Bw w wr) (fun i _ => n - (intOf i).toNat)
 case atStart => exact ⟨0, Nat.zero_le _, rfl, fun j hj => absurd hj (by omega), HX.out.1, HX.out.2⟩
 case round =>
  obtain ⟨k, hk, rfl, hl, hx, hbw⟩ := hrel
  have HL := Sv.hid hl
  replace HX := Sv.hid hx
  clear hl hx W0
  by_cases hk1 : k < n
  ·
   have hk2 : (k : Int) < n := by omega
   obtain ⟨r, e, hr⟩ := HA.out k hk1
   replace e := (Below.cell hbw (p := ⟨b, o + k, none⟩) hbl).trans e
   by_cases z : l k = n
   ·
    obtain ⟨rb, ro, rc, rfl, _, _⟩ := hr.resolve_left (fun h => by omega)
    rw [z] at e
    clear hr
    go_wp2
    go_roundw
    case rel =>
     refine ⟨k + 1, by omega, by simp, fun j hj => ?_, HX.out, hbw⟩
     by_cases y : j = k
     · subst y; exact z
     · exact HL.out j (by omega)
    case measure => simp [intOf]; omega
   ·
    have Z := Sv.hid (Sv.chkA_no (q := q) (lb := lb) (B := B) (Sv.chk_shape (A := A) HM.out hk1 z) (by decide))
    rcases hr with ⟨⟨p0, c0, rfl, hp0⟩, hr⟩ | ⟨rb, ro, rc, rfl, _, _⟩
    ·
     have z1 : ((0 : Int) == n) = false := by rw [beq_eq_false_iff_ne]; omega
     clear hr z
     go_wp2
     go_ret
     exact ⟨ri Z.out.symm, hbw⟩
    ·
     have z1 : ((l k : Int) == n) = false := by rw [beq_eq_false_iff_ne]; omega
     clear z
     generalize l k = m at *
     go_wp2
     go_ret
     exact ⟨ri Z.out.symm, hbw⟩
  ·
   have hk3 : k = n := by omega
   subst hk3
   go_wp2
   go_loopw [35] (fun i wr => ∃ t : Nat, t ≤ k ∧ i = .int .i64 t ∧ (∀ j, j < t → Sv.fin (A j) k) ∧ Sv.Bx wr C ∧ Bw w wr) (fun i _ => k - (intOf i).toNat)
   case atStart => exact ⟨0, Nat.zero_le _, rfl, fun j hj => absurd hj (by omega), HX.out, hbw⟩
   case round =>
    clear hbw HX
    obtain ⟨t, ht, rfl, hf, hx, hbw⟩ := hrel
    have HF := Sv.hid hf
    have HX := Sv.hid hx
    clear hf
    by_cases ht1 : t < k
    ·
     have ht2 : (t : Int) < k := by omega
     obtain ⟨r, e, hr⟩ := HA.out t ht1
     replace e := (Below.cell hbw (p := ⟨b, o + t, none⟩) hbl).trans e
     have R := Sv.hid (fun wz (hz : Bw w wz) => arefin14 (hr.bw hz) (by have := HL.out t ht1; omega))
     rw [HL.out t ht1] at R
     obtain ⟨hx0, c1, c2, c3, c4, c5⟩ := hx
     clear hr
     by_cases z : Sv.fin (A t) k
     ·
      rw [decide_eq_true z] at R
      go_wp2_with fail
      refine (R.out _ hbw).mono ?_
      rintro e' w1 ⟨rfl, b1⟩
      replace HX := Sv.hid (HX.out.bw b1)
      replace hbw := bw_trans hbw b1
      clear R c1 c2 c3 c4 c5 b1 e
      go_wp2
      go_roundw
      case rel =>
       refine ⟨t + 1, by omega, by simp, fun j hj => ?_, HX.out, hbw⟩
       by_cases y : j = t
       · subst y; exact z
       · exact HF.out j (by omega)
      case measure => simp [intOf]; omega
     ·
      rw [decide_eq_false z] at R
      have Z := Sv.hid (Sv.chkA_no (q := q) (lb := lb) (B := B) (Sv.chk_real HM.out HL.out ht1 z) (by decide))
      go_wp2_with fail
      refine (R.out _ hbw).mono ?_
      rintro e' w1 ⟨rfl, b1⟩
      replace hbw := bw_trans hbw b1
      clear R c1 c2 c3 c4 c5 b1 e
      go_wp2
      go_ret
      exact ⟨ri Z.out.symm, hbw⟩
    ·
     have ht3 : t = k := by omega
     subst ht3
     have Y := Sv.hid (Sv.chkA_yes (q := q) (lb := lb) (B := B) (Sv.chk_ok HM.out HL.out HF.out))
     clear hx
     rcases HB.out with ⟨⟨p0, c0, rfl, hp0⟩, rfl⟩ | ⟨b', o', c', rfl, hc', hbl', hb⟩
     ·
      have Y0 : Hid (Sv.chkA t l A 0 lb B = 0) := Y.out
      go_wp2
      go_loopw [46] (fun i wr => i = .int .i64 0 ∧ Bw w wr) (fun i _ => 0)
      case atStart => exact ⟨rfl, hbw⟩
      case round =>
       clear hbw
       obtain ⟨rfl, hbw⟩ := hrel
       go_wp2
       go_ret
       exact ⟨ri Y0.out.symm, hbw⟩
     ·
      have HB2 := Sv.hid hb
      clear hb
      go_wp2
      go_loopw [46] (fun i wr => ∃ s : Nat, s ≤ q ∧ i = .int .i64 s ∧ Sv.chkB t lb B s = 0 ∧ Sv.Bx wr C ∧ Bw w wr) (fun i _ => q - (intOf i).toNat)
      case atStart => exact ⟨0, Nat.zero_le _, rfl, rfl, HX.out, hbw⟩
      case round =>
       clear hbw HX
       obtain ⟨s, hs, rfl, hf, hx, hbw⟩ := hrel
       have HS := Sv.hid hf
       have HX := Sv.hid hx
       clear hf
       by_cases hs1 : s < q
       ·
        have hs2 : (s : Int) < q := by omega
        obtain ⟨r, e, hr⟩ := HB2.out s hs1
        replace e := (Below.cell hbw (p := ⟨b', o' + s, none⟩) hbl').trans e
        obtain ⟨hx0, c1, c2, c3, c4, c5⟩ := hx
        by_cases z : lb s = t
        ·
         have R := Sv.hid (fun wz (hz : Bw w wz) => arefin14 (hr.bw hz) (by omega))
         rw [z] at R
         obtain ⟨rb, ro, rc, rfl, _, _⟩ := hr.resolve_left (fun h => by have := HM.out; omega)
         rw [z] at e R
         clear hr
         by_cases y : Sv.fin (B s) t
         ·
          rw [decide_eq_true y] at R
          go_wp2_with fail
          refine (R.out _ hbw).mono ?_
          rintro e' w1 ⟨rfl, b1⟩
          replace HX := Sv.hid (HX.out.bw b1)
          replace hbw := bw_trans hbw b1
          clear R c1 c2 c3 c4 c5 b1 e
          go_wp2
          go_roundw
          case rel =>
           refine ⟨s + 1, by omega, by simp, ?_, HX.out, hbw⟩
           unfold Sv.chkB Sv.chkL
           rw [if_pos HS.out, if_pos z, if_pos y]
          case measure => simp [intOf]; omega
         ·
          rw [decide_eq_false y] at R
          have Z := Sv.hid (Y.out.trans (Sv.chkB_no hs1 HS.out (e := 5) (by unfold Sv.chkL; rw [if_pos z, if_neg y]) (by decide)))
          go_wp2_with fail
          refine (R.out _ hbw).mono ?_
          rintro e' w1 ⟨rfl, b1⟩
          replace hbw := bw_trans hbw b1
          clear R c1 c2 c3 c4 c5 b1 e
          go_wp2
          go_ret
          exact ⟨ri Z.out.symm, hbw⟩
        ·
         have Z := Sv.hid (Y.out.trans (Sv.chkB_no hs1 HS.out (e := 140) (by unfold Sv.chkL; rw [if_neg z]) (by decide)))
         rcases hr with ⟨⟨p0, c0, rfl, hp0⟩, hr⟩ | ⟨rb, ro, rc, rfl, _, _⟩
         ·
          have z1 : ((0 : Int) == t) = false := by rw [beq_eq_false_iff_ne]; omega
          clear hr z
          go_wp2
          go_ret
          exact ⟨ri Z.out.symm, hbw⟩
         ·
          have z1 : ((lb s : Int) == t) = false := by rw [beq_eq_false_iff_ne]; omega
          clear z
          generalize lb s = m at *
          go_wp2
          go_ret
          exact ⟨ri Z.out.symm, hbw⟩
       ·
        have hs3 : s = q := by omega
        subst hs3
        clear hx
        have Z := Sv.hid (Y.out.trans HS.out)
        go_wp2
        go_ret
        exact ⟨ri Z.out.symm, hbw⟩
end Go.Proofs.Ytjfkdmddfeeheaa
/-
 OWN TEXT: package solve, of floats: rows that are copied.
-/
namespace Go.Proofs.Ytjfkdmddfeeheaa
open Go.ChangeShapes Go.WideShapes Go.ChangeAt Go.RowKit
set_option linter.unusedVariables false
attribute [local go_sem] frombits_call tobits_call run_neg

namespace Sv
theorem info_f : (Try.prog.info? 25).map (fun i => (i.zero, i.size, i.bytes)) = some (some (.float .f64 0), 1, 8) := by kernel_rfl
theorem info_r : (Try.prog.info? 24).map (fun i => (i.zero, i.size, i.bytes)) = some (some (.slice none 0 0), 1, 24) := by kernel_rfl
theorem und_f : Try.prog.underlying 24 = some (.slice 25) := by kernel_rfl
theorem und_r : Try.prog.underlying 23 = some (.slice 24) := by kernel_rfl
def zf (n : Nat) : Array Value := madeCells #[.float .f64 0] n
def zr (n : Nat) : Array Value := madeCells #[.slice none 0 0] n
theorem zf_list (n : Nat) : (zf n).toList = fv (fun _ => 0) n := by
 apply List.ext_getElem?
 intro j
 by_cases h : j < n
 · rw [fv_get _ _ _ h]; simp [zf, madeCells, h, Nat.mod_one]
 · rw [List.getElem?_eq_none (by simp [zf, madeCells]; omega), List.getElem?_eq_none (by rw [fv_len]; omega)]
theorem zr_list (n : Nat) : (zr n).toList = (List.range n).map fun _ => .slice none 0 0 := by
 apply List.ext_getElem?
 intro j
 by_cases h : j < n
 · simp [zr, madeCells, h, Nat.mod_one]
 · rw [List.getElem?_eq_none (by simp [zr, madeCells]; omega), List.getElem?_eq_none (by simp; omega)]
theorem makeF (a b : Int) (m c : Nat) (ha : a = m) (hb : b = c) (hm : m ≤ c) (h : c ≤ 1000000) (w : World) :
  (Instr.makeSlice 24 (.int .i64 a) (.int .i64 b)).run Try.prog w = .ok (.slice (some ⟨w.heap.size, 0, none⟩) m c) (w.alloc (.cells (zf c) 25)) := by
 subst ha hb
 obtain ⟨i, hi, he⟩ := Option.map_eq_some_iff.1 info_f
 simp only [Prod.mk.injEq] at he
 have hr := run_make (P := Try.prog) w 24 25 i (.float .f64 0) und_f hi he.1 .i64 .i64 m c (by omega) (by omega) (by rw [he.2.2]; omega) (by omega)
 rw [he.2.1] at hr
 simp only [Int.toNat_natCast, Nat.mul_one] at hr
 exact hr
theorem makeR (a b : Int) (n : Nat) (ha : a = n) (hb : b = n) (h : n ≤ 1000000) (w : World) :
  (Instr.makeSlice 23 (.int .i64 a) (.int .i64 b)).run Try.prog w = .ok (.slice (some ⟨w.heap.size, 0, none⟩) n n) (w.alloc (.cells (zr n) 24)) := by
 subst ha hb
 obtain ⟨i, hi, he⟩ := Option.map_eq_some_iff.1 info_r
 simp only [Prod.mk.injEq] at he
 have hr := run_make (P := Try.prog) w 23 24 i (.slice none 0 0) und_r hi he.1 .i64 .i64 n n (by omega) (by omega) (by rw [he.2.2]; omega) (by omega)
 rw [he.2.1] at hr
 simp only [Int.toNat_natCast, Nat.mul_one] at hr
 exact hr
theorem Rw.made (w : World) {base : Nat} (hb : base ≤ w.heap.size) (m c : Nat) (hm : m ≤ c) (hc : c ≤ 1000000) : Rw (w.alloc (.cells (zf c) 25)) base w.heap.size m c (fun _ => 0) := by
 refine ⟨fun _ => 0, ⟨by rw [fv_len, Nat.mul_one], Or.inr ⟨w.heap.size, c, zf c, rfl, hb, heap_alloc_new w _, hm, by unfold maxLen; omega, by simp [zf, size_madeCells], ?_⟩⟩, fun j hj => ⟨by show 0 < _; decide, by show Fl.bitsF 0 = 0; decide⟩⟩
 rw [zf_list, Nat.mul_one]
 apply List.ext_getElem?
 intro j
 rw [List.getElem?_take]
 by_cases h : j < m
 · rw [if_pos h, fv_get _ _ _ h, fv_get _ _ _ (by omega)]
 · rw [if_neg h, List.getElem?_eq_none (by rw [fv_len]; omega)]
theorem ownsR_made (w : World) {base : Nat} (hb : base ≤ w.heap.size) (n : Nat) (hn : n ≤ 1000000) : (w.alloc (.cells (zr n) 24)).ownsRow base 24 1 (.slice (some ⟨w.heap.size, 0, none⟩) n n) n ((List.range n).map fun _ => .slice none 0 0) := by
 have h := World.ownsRow_lit (base := base) (e := 24) (size := 1) w (zr n) n hb (by unfold maxLen; omega) (by simp [zr, size_madeCells])
 rw [zr_list] at h
 exact h
/-- the words of a list -/
theorem Rd.words {w : World} {b o n : Nat} {F : Nat → Nat} (h : Rd w b o n F) : ∃ X : Nat → Nat, ∀ j, j < n → w.cell? ⟨b, o + j, none⟩ = some (.float .f64 (X j)) ∧ X j < 18446744073709551616 ∧ Fl.bitsF (X j) = F j := by
 have k : ∀ j, ∃ x, j < n → w.cell? ⟨b, o + j, none⟩ = some (.float .f64 x) ∧ x < 18446744073709551616 ∧ Fl.bitsF x = F j := by
  intro j
  by_cases hj : j < n
  ·
   obtain ⟨x, e⟩ := h.2 j hj
   exact ⟨x, fun _ => e⟩
  · exact ⟨0, fun z => absurd z hj⟩
 exact ⟨fun j => Classical.choose (k j), fun j => Classical.choose_spec (k j)⟩
theorem add_off (b o j : Nat) : (⟨b, o, none⟩ : Addr).add j = ⟨b, o + j, none⟩ := by
 unfold Addr.add
 split
 · rename_i h; subst h; rfl
 · rfl
theorem copyF {w : World} {base g m c b o : Nat} {F G : Nat → Nat} (hw : Rw w base g m c F) (hr : Rd w b o m G) (cap : Nat) :
  ∃ w1, (Builtin.copy_ #[24, 24] 3 #[.slice (some ⟨g, 0, none⟩) m c, .slice (some ⟨b, o, none⟩) m cap]).run Try.prog w = .ok (.int .i64 m) w1 ∧ Rw w1 base g m c G ∧ w.grownBy w1 (some g) := by
 obtain ⟨X, hX⟩ := hr.words
 obtain ⟨Y, ⟨h1, h2⟩, _⟩ := hw
 rcases h2 with ⟨h2, _⟩ | ⟨g', c', cur, h2, hb, hg, hmc, hcm, hcs, htk⟩
 · simp at h2
 simp only [Value.slice.injEq, Option.some.injEq, Addr.mk.injEq, and_true, true_and] at h2
 obtain ⟨rfl, rfl⟩ := h2
 have hs : (Try.prog.info? 25).map (·.size) = some 1 := by kernel_rfl
 have k := run_copy_row (P := Try.prog) w 24 24 3 25 g 0 m c ⟨b, o, none⟩ m cap cur 25 (fv X m) und_f hs hg (by rw [fv_len]; simp) (fun j v hj => by
  have hjm : j < m := by have := (List.getElem?_eq_some_iff.1 hj).1; rw [fv_len] at this; exact this
  rw [fv_get _ _ _ hjm] at hj
  cases hj
  rw [add_off]
  exact (hX j hjm).1) (by rw [fv_len, hcs]; omega) (fv_one X m)
 rw [fv_len] at k
 refine ⟨_, k, ⟨X, ⟨by rw [fv_len, Nat.mul_one], Or.inr ⟨g, c, _, rfl, hb, setRow_heap _ _ _ _ _ _ hg, hmc, hcm, ?_, ?_⟩⟩, fun j hj => (hX j hj).2⟩, ⟨rfl, rfl, rfl, by simp, fun t _ ht => setRow_other _ _ _ _ (fun e => ht (by simp [e]))⟩⟩
 · simp only [List.size_toArray, List.length_append, List.length_take, List.length_drop, Array.length_toList, fv_len]; omega
 ·
  simp only [List.take_zero, List.nil_append, Nat.mul_one]
  have := List.take_left (l₁ := fv X m) (l₂ := List.drop (0 + m) cur.toList)
  rw [fv_len] at this
  exact this
/-- k of the n rows stand -/
structure Mp (w : World) (base R n k m c : Nat) (f : Nat → Nat) (A : M) : Prop where
 own : w.ownsRow base 24 1 (.slice (some ⟨R, 0, none⟩) n n) n ((List.range n).map fun i => if i < k then .slice (some ⟨f i, 0, none⟩) m c else .slice none 0 0)
 row : ∀ i, i < k → Rw w base (f i) m c (A i)
 far : ∀ i, i < k → f i ≠ R
 inj : ∀ i j, i < k → j < k → f i = f j → i = j
theorem Mp.mt {w : World} {base R n m c : Nat} {f : Nat → Nat} {A : M} (h : Mp w base R n n m c f A) : Mt w base R n m c f A := by
 refine ⟨?_, h.row, h.far, h.inj⟩
 have e : ((List.range n).map fun i => if i < n then Value.slice (some ⟨f i, 0, none⟩) m c else .slice none 0 0) = (List.range n).map fun i => Value.slice (some ⟨f i, 0, none⟩) m c :=
  List.map_congr_left fun i hi => by rw [if_pos (List.mem_range.1 hi)]
 have o := h.own
 rw [e] at o
 exact o
theorem Mp.bw {w w' : World} {base R n k m c : Nat} {f : Nat → Nat} {A : M} (h : Mp w base R n k m c f A) (b : Bw w w') : Mp w' base R n k m c f A :=
 ⟨h.own.kept (gb_bw b none) (by simp [Value.ownBlock]), fun i hi => (h.row i hi).bw b, h.far, h.inj⟩
/-- one more row is laid into R -/
theorem Mp.more {w : World} {base R n k m c g : Nat} {f : Nat → Nat} {A : M} {F : Nat → Nat} (h : Mp w base R n k m c f A) (hr : Rw w base g m c F) (hk : k < n) (hg : g ≠ R) (hn : ∀ i, i < k → f i ≠ g) :
  Mp (w.setCell ⟨R, k, none⟩ (.slice (some ⟨g, 0, none⟩) m c)) base R n (k + 1) m c (fun i => if i = k then g else f i) (fun i => if i = k then F else A i) ∧ w.grownBy (w.setCell ⟨R, k, none⟩ (.slice (some ⟨g, 0, none⟩) m c)) (some R) := by
 obtain ⟨o1, g1⟩ := h.own.stored k (.slice (some ⟨g, 0, none⟩) m c)
 rw [range_set] at o1
 refine ⟨⟨?_, fun i hi => ?_, fun i hi => ?_, fun i j hi hj e => ?_⟩, g1⟩
 ·
  have e : (fun t => if t = k then Value.slice (some ⟨g, 0, none⟩) m c else if t < k then Value.slice (some ⟨f t, 0, none⟩) m c else .slice none 0 0) = fun i => if i < k + 1 then Value.slice (some ⟨if i = k then g else f i, 0, none⟩) m c else .slice none 0 0 := by
   funext t
   by_cases e1 : t = k
   · subst e1; rw [if_pos rfl, if_pos (by omega), if_pos rfl]
   ·
    rw [if_neg e1, if_neg e1]
    by_cases e2 : t < k
    · rw [if_pos e2, if_pos (by omega)]
    · rw [if_neg e2, if_neg (by omega)]
  rw [e] at o1
  exact o1
 ·
  by_cases e : i = k
  · simp only [e, if_true]; exact hr.gb g1 (by simp only [ne_eq, Option.some.injEq]; exact hg)
  · simp only [if_neg e]; exact (h.row i (by omega)).gb g1 (by simp only [ne_eq, Option.some.injEq]; exact h.far i (by omega))
 ·
  by_cases e : i = k
  · simp only [e, if_true]; exact hg
  · simp only [if_neg e]; exact h.far i (by omega)
 ·
  by_cases a : i = k <;> by_cases b : j = k
  · omega
  · simp only [a, if_true, if_neg b] at e; exact absurd e.symm (hn j (by omega))
  · simp only [b, if_true, if_neg a] at e; exact absurd e (hn i (by omega))
  · simp only [if_neg a, if_neg b] at e; exact h.inj i j (by omega) (by omega) e
theorem Mp.cell {w : World} {base R n k m c : Nat} {f : Nat → Nat} {A : M} (h : Mp w base R n k m c f A) {i : Nat} (hi : i < n) : w.cell? ⟨R, i, none⟩ = some (if i < k then .slice (some ⟨f i, 0, none⟩) m c else .slice none 0 0) := by
 rw [h.own.cellAt i (by omega)]
 simp [hi]
/-- the last row turned -/
theorem Mp.turn {w w' : World} {base R n k m c : Nat} {f : Nat → Nat} {A : M} (h : Mp w base R n (k + 1) m c f A) {G : Nat → Nat} (g : w.grownBy w' (some (f k))) (r : Rw w' base (f k) m c G) : Mp w' base R n (k + 1) m c f (fun t => if t = k then G else A t) := by
 refine ⟨h.own.kept g (Or.inr (by simp only [Value.ownBlock, ne_eq, Option.some.injEq]; exact fun e => h.far k (by omega) e.symm)), fun t ht => ?_, h.far, h.inj⟩
 by_cases e : t = k
 · subst e; simp only [if_true]; exact r
 ·
  simp only [if_neg e]
  exact (h.row t ht).gb g (by simp only [ne_eq, Option.some.injEq]; exact fun z => e (h.inj t k ht (by omega) z))
theorem Mp.ext {w : World} {base R n k m c : Nat} {f : Nat → Nat} {A A' : M} (h : Mp w base R n k m c f A) (e : ∀ i j, i < k → j < m → A i j = A' i j) : Mp w base R n k m c f A' :=
 ⟨h.own, fun i hi => (h.row i hi).ext (fun j hj => e i j hi hj), h.far, h.inj⟩
end Sv
set_option maxHeartbeats 4000000 in
set_option maxRecDepth 10000 in
theorem copied14 {w : World} {b o ca n m : Nat} {l : Nat → Nat} {A : Sv.M} (hb : b < w.heap.size) (h : ∀ i, i < n → ∃ r, w.cell? ⟨b, o + i, none⟩ = some r ∧ Sv.Ls w r (l i) (A i)) (hl : ∀ i, i < n → l i = m) (hn : n ≤ 1000) (hm : 0 < m) (hm2 : m ≤ 1000) :
  Calls Try.prog 43 #[.slice (some ⟨b, o, none⟩) n ca] w fun e w' => ∃ R f, e = .returned (.slice (some ⟨R, 0, none⟩) n n) ∧ Sv.Mt w' w.heap.size R n m (m + 1) f A ∧ Bw w w' := by
 have hmk := Sv.makeR (n : Int) (n : Int) n rfl rfl (by omega)
 have HO := Sv.hid (Sv.ownsR_made w (Nat.le_refl _) n (by omega))
 have b0 := Sv.bw_new w (.cells (Sv.zr n) 24)
 have H := Sv.hid h
 have HL := Sv.hid hl
 have HB := Sv.hid hb
 clear h hl hb
 go_enter Try.func43, Try.ntmps43
 go_wp2
 obtain ⟨R, eR⟩ : ∃ R, R = w.heap.size := ⟨_, rfl⟩
 have ER := Sv.hid eR
 have HO2 : Hid ((w.alloc (.cells (Sv.zr n) 24)).ownsRow w.heap.size 24 1 (.slice (some ⟨R, 0, none⟩) n n) n ((List.range n).map fun _ => .slice none 0 0)) := by rw [eR]; exact HO.out
 rw [← eR]
 clear HO eR hmk
 generalize w.alloc (.cells (Sv.zr n) 24) = W0 at *
 go_loopw [11] (fun i wr => ∃ (k : Nat) (f : Nat → Nat), k ≤ n ∧ i = .int .i64 k ∧ Sv.Mp wr w.heap.size R n k m (m + 1) f A ∧ Bw w wr) (fun i _ => n - (intOf i).toNat)
 case atStart =>
  refine ⟨0, fun _ => 0, Nat.zero_le _, rfl, ⟨?_, fun i hi => absurd hi (by omega), fun i hi => absurd hi (by omega), fun i j hi => absurd hi (by omega)⟩, b0⟩
  have e : ((List.range n).map fun i => if i < 0 then Value.slice (some ⟨0, 0, none⟩) m (m + 1) else .slice none 0 0) = (List.range n).map fun _ => .slice none 0 0 :=
   List.map_congr_left fun i hi => by rw [if_neg (by omega)]
  rw [e]
  exact HO2.out
 case round =>
  clear HO2 b0
  obtain ⟨k, f, hk, rfl, hp, hbw⟩ := hrel
  by_cases hk1 : k < n
  ·
   have hk2 : (k : Int) < n := by omega
   obtain ⟨r, e, hr⟩ := H.out k hk1
   replace e := (Below.cell hbw (p := ⟨b, o + k, none⟩) HB.out).trans e
   rw [HL.out k hk1] at hr
   obtain ⟨rb, ro, rc, rfl, _, hr⟩ := hr.resolve_left (fun h => by omega)
   have hrb := hr.1
   replace hr := hr.bw hbw
   have hmk := Sv.makeF (m : Int) ((m : Int) + 1) m (m + 1) rfl (by omega) (by omega) (by omega)
   have hlt := hp.own.lt R rfl
   have hc0 := hp.cell hk1
   rw [if_neg (by omega)] at hc0
   have hfz := hp.own.frozenAt k
   have b1 := Sv.bw_new wr (.cells (Sv.zf (m + 1)) 25)
   have hw1 := Sv.Rw.made wr (base := w.heap.size) hbw.size m (m + 1) (by omega) (by omega)
   obtain ⟨hp2, g2⟩ := (hp.bw b1).more hw1 hk1 (by omega) (fun i hi => by have := (hp.row i hi).lt; omega)
   have hrr := (hr.bw b1).gb g2 (by simp only [ne_eq, Option.some.injEq]; have := ER.out; intro z; omega)
   have hw2 := hp2.row k (by omega)
   simp only [if_true] at hw2
   obtain ⟨w3, hcp, hw3, g3⟩ := Sv.copyF hw2 hrr rc
   have hp3 := hp2.turn (by simp only [if_true]; exact g3) (by simp only [if_true]; exact hw3)
   replace hp3 := hp3.ext (A' := A) (fun i j hi hj => by
    by_cases z : i = k
    · subst z; simp only [if_true]
    · simp only [if_neg z])
   have hc1 := hp2.cell hk1
   rw [if_pos (by omega), if_pos rfl] at hc1
   have b3 : Bw w w3 := by
    have q1 := bw_trans hbw b1
    have q2 : Bw w _ := Sv.gb_below q1 g2 q1.size hlt.1
    exact Sv.gb_below q2 g3 q2.size hbw.size
   have HP3 := Sv.hid hp3
   have hR : R < wr.heap.size := hlt.2
   have hR2 : ¬ R = wr.heap.size := by omega
   have hc2 : (wr.alloc (.cells (Sv.zf (m + 1)) 25)).cell? ⟨R, k, none⟩ = some (.slice none 0 0) := (Below.cell b1 (p := ⟨R, k, none⟩) hR).trans hc0
   have hf2 : (wr.alloc (.cells (Sv.zf (m + 1)) 25)).frozen? ⟨R, k, none⟩ = false := (Below.frozen b1 (p := ⟨R, k, none⟩) hR).trans hfz
   rw [World.setCell_alloc_past _ _ _ _ hR] at hcp hc1
   clear hp hp2 hw1 hw2 hw3 hp3 g2 g3 hrr hr b1 hlt hbw hrb
   go_wp2
   go_roundw
   case rel => exact ⟨k + 1, _, by omega, by simp, HP3.out, b3⟩
   case measure => simp [intOf]; omega
  ·
   have hk3 : k = n := by omega
   subst hk3
   have HP := Sv.hid hp.mt
   clear hp
   go_wp2
   go_ret
   exact ⟨R, f, rfl, HP.out, hbw⟩
end Go.Proofs.Ytjfkdmddfeeheaa
