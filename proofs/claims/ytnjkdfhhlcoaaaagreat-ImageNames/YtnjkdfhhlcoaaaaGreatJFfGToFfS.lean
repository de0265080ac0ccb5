/-
 OWN TEXT: package flow over whole complex numbers: elements of three kinds; the common bottom of their speeds.
-/
import Derived.Test.YtnjkdfhhlcoaaaaGreatJFfDToFfF
import Derived.Test.YtnjkdfhhlcoaaaaGreatJElFToElJ
namespace Go.Proofs.YtnjkdfhhlcoaaaaGreat
open Go.ChangeShapes Go.WideShapes Go.ChangeAt Go.RowKit
set_option linter.unusedVariables false
set_option linter.unusedSimpArgs false
attribute [local go_sem] frombits_call tobits_call run_neg run_store_cx
namespace Ff
/-- a stream, a doublet, a corner: of whole places, strengths, powers -/
structure Fe where
 k : Int
 a : Nat
 b : Nat
 s : Nat
 t : Nat
 n : Nat
 at_ : Py.G
 st : Py.G
structure Fe.ok (c : Nat) (e : Fe) : Prop where
 pa : El.wP e.a e.at_.1 ∧ El.wP e.b e.at_.2
 ps : El.wP e.s e.st.1 ∧ El.wP e.t e.st.2
 wa : wC c e.a e.b e.at_
 ws : wC c e.s e.t e.st
 la : e.at_.1.natAbs ≤ 4 ∧ e.at_.2.natAbs ≤ 4
 ls : e.st.1.natAbs ≤ 8 ∧ e.st.2.natAbs ≤ 8
 kd : (e.k = 1 ∧ e.a = 0 ∧ e.b = 0 ∧ e.n = 0 ∧ e.at_ = (0, 0)) ∨ (e.k = 3 ∧ 1 ≤ e.n ∧ e.n ≤ 2) ∨ (e.k = 4 ∧ 1 ≤ e.n ∧ e.n ≤ 3)
theorem Fe.ok.n3 {c : Nat} {e : Fe} (h : e.ok c) : e.n ≤ 3 := by rcases h.kd with h | h | h <;> omega
def Fe.val (e : Fe) : Value := El.E e.k e.a e.b e.s e.t (pw e.n)
/-- a slice of elements -/
def Es (w : World) (a : Option Addr) (es : List Fe) : Prop := es.length = 0 ∨ ∃ b o, a = some ⟨b, o, none⟩ ∧ b < w.heap.size ∧ ∀ (i : Nat) (e : Fe), es[i]? = some e →
 w.cell? ⟨b, o + i * 4, none⟩ = some (.int .u8 e.k) ∧ w.cell? ⟨b, o + i * 4 + 1, none⟩ = some (.complex .f64 e.a e.b) ∧ w.cell? ⟨b, o + i * 4 + 2, none⟩ = some (.complex .f64 e.s e.t) ∧ w.cell? ⟨b, o + i * 4 + 3, none⟩ = some (.float .f64 (pw e.n))
theorem Es.bw {w w' : World} {a : Option Addr} {es : List Fe} (h : Es w a es) (k : Bw w w') : Es w' a es := by
 rcases h with h | ⟨b, o, e, hb, h⟩
 · exact Or.inl h
 ·
  refine Or.inr ⟨b, o, e, Nat.lt_of_lt_of_le hb k.size, fun i e he => ?_⟩
  obtain ⟨h0, h1, h2, h3⟩ := h i e he
  exact ⟨(Below.cell k (p := ⟨b, o + i * 4, none⟩) hb).trans h0, (Below.cell k (p := ⟨b, o + i * 4 + 1, none⟩) hb).trans h1, (Below.cell k (p := ⟨b, o + i * 4 + 2, none⟩) hb).trans h2, (Below.cell k (p := ⟨b, o + i * 4 + 3, none⟩) hb).trans h3⟩
theorem Cm.bw {c : Nat} {w w' : World} {base B : Nat} {cs : List (Py.G × Nat)} {vP vF : Value} {vals : List Value} (h : Cm c w base B cs vP vF vals) (k : Bw w w') : Cm c w' base B cs vP vF vals :=
 ⟨h.lo, Nat.lt_of_lt_of_le h.hi k.size, (Below.cell k (p := ⟨B, 0, none⟩) h.hi).trans h.c0, (Below.cell k (p := ⟨B, 1, none⟩) h.hi).trans h.c1, (Below.cell k (p := ⟨B, 2, none⟩) h.hi).trans h.c2, fun i => (Below.frozen k (p := ⟨B, i, none⟩) h.hi).trans (h.fz i),
  h.oP.kept (Sv.gb_bw k none) (by cases vP.ownBlock <;> simp), h.vl, h.oF.kept (Sv.gb_bw k none) (by cases vF.ownBlock <;> simp), h.dj, h.nP, h.nF⟩
theorem Pl.set {c : Nat} {w : World} {a : Option Addr} {gs : List Py.G} (h : Pl c w a gs) {B i : Nat} {v : Value} (hb : ∀ b o, a = some ⟨b, o, none⟩ → b ≠ B) : Pl c (w.setCell ⟨B, i, none⟩ v) a gs := by
 rcases h with h | ⟨b, o, e, h1, h2⟩
 · exact Or.inl h
 ·
  refine Or.inr ⟨b, o, e, by simpa [World.setCell] using h1, fun j hj => ?_⟩
  rw [set_blk (hb b o e).symm]
  exact h2 j hj
theorem Ni.set {w : World} {a : Option Addr} {fs : List Nat} (h : Ni w a fs) {B i : Nat} {v : Value} (hb : ∀ b o, a = some ⟨b, o, none⟩ → b ≠ B) : Ni (w.setCell ⟨B, i, none⟩ v) a fs := by
 rcases h with h | ⟨b, o, e, h1, h2⟩
 · exact Or.inl h
 ·
  refine Or.inr ⟨b, o, e, by simpa [World.setCell] using h1, fun j hj => ?_⟩
  rw [set_blk (hb b o e).symm]
  exact h2 j hj
theorem Pv.set {c : Nat} {w : World} {z : Py.G} {v : Value} {N A : Nat} {g : Py.G} (h : Pv c w z v N A g) {B i : Nat} {x : Value} (hb : v.ownBlock ≠ some B) : Pv c (w.setCell ⟨B, i, none⟩ x) z v N A g := by
 obtain ⟨D, o, m, cap, l, rfl, h1, h2, h3, h4⟩ := h
 refine ⟨D, o, m, cap, l, rfl, h1, h2, ⟨by simpa [World.setCell] using h3.1, fun j hj => ?_⟩, h4⟩
 rw [set_blk (fun e => hb (by rw [e]; rfl))]
 exact h3.2 j hj
theorem fz_new (w : World) (vs : Array Value) (T : TypeId) (i : Nat) : (w.alloc (.cells vs T)).frozen? ⟨w.heap.size, i, none⟩ = false := World.frozen?_alloc_at _ _ _ _ rfl
end Ff
end Go.Proofs.YtnjkdfhhlcoaaaaGreat

/-
 OWN TEXT: package flow over whole complex numbers: the common bottom of elements' speeds (the walk).
-/
namespace Go.Proofs.YtnjkdfhhlcoaaaaGreat
open Go.ChangeShapes Go.WideShapes Go.ChangeAt Go.RowKit
set_option linter.unusedVariables false
set_option linter.unusedSimpArgs false
attribute [local go_sem] frombits_call tobits_call run_neg run_store_cx El.run_store_fl
end Go.Proofs.YtnjkdfhhlcoaaaaGreat

/-
 OWN TEXT: package flow over whole complex numbers: folds copied.
-/
namespace Go.Proofs.YtnjkdfhhlcoaaaaGreat
open Go.ChangeShapes Go.WideShapes Go.ChangeAt Go.RowKit
set_option linter.unusedVariables false
set_option linter.unusedSimpArgs false
attribute [local go_sem] frombits_call tobits_call run_neg run_store_cx El.run_store_fl
namespace Ff
end Ff
end Go.Proofs.YtnjkdfhhlcoaaaaGreat

/-
 OWN TEXT: package flow over whole complex numbers: the roots but for those that a doublet asks for.
-/
namespace Go.Proofs.YtnjkdfhhlcoaaaaGreat
open Go.ChangeShapes Go.WideShapes Go.ChangeAt Go.RowKit
set_option linter.unusedVariables false
set_option linter.unusedSimpArgs false
attribute [local go_sem] frombits_call tobits_call run_neg run_store_cx El.run_store_fl
namespace Ff
end Ff
end Go.Proofs.YtnjkdfhhlcoaaaaGreat

/-
 OWN TEXT: package flow over whole complex numbers: products of differences; a place less in them; scaled numbers.
-/
namespace Go.Proofs.YtnjkdfhhlcoaaaaGreat
open Go.ChangeShapes Go.WideShapes Go.ChangeAt Go.RowKit
set_option linter.unusedVariables false
set_option linter.unusedSimpArgs false
attribute [local go_sem] frombits_call tobits_call run_neg run_store_cx El.run_store_fl
namespace Ff
/-- so many times less at a place -/
def cut : List (Py.G × Nat) → Py.G → Nat → List (Py.G × Nat)
 | [], z, m => []
 | (g, f) :: r, z, m => if g = z then (g, f - m) :: r else (g, f) :: cut r z m
/-- a place is held at least so many times -/
def Held : List (Py.G × Nat) → Py.G → Nat → Prop
 | [], z, m => False
 | (g, f) :: r, z, m => if g = z then m ≤ f else Held r z m
theorem Held.at : ∀ {cs : List (Py.G × Nat)} {z : Py.G} {m : Nat}, Held cs z m → ∃ k, k < cs.length ∧ Py.co (cs.map Prod.fst) k = z ∧ (∀ j, j < k → Py.co (cs.map Prod.fst) j ≠ z) ∧ m ≤ (cs.map Prod.snd).getD k 0
 | [], z, m, h => by cases h
 | (g, f) :: r, z, m, h => by
  unfold Held at h
  split at h
  ·
   rename_i e
   exact ⟨0, by simp, e, fun j hj => absurd hj (by omega), h⟩
  ·
   rename_i e
   obtain ⟨k, h1, h2, h3, h4⟩ := Held.at h
   refine ⟨k + 1, by simpa using h1, h2, fun j hj => ?_, h4⟩
   cases j with
   | zero => exact e
   | succ j => exact h3 j (by omega)
def sk (m : Int) (g : Py.G) : Py.G := (g.1 * m, g.2 * m)
end Ff
end Go.Proofs.YtnjkdfhhlcoaaaaGreat

/-
 OWN TEXT: package flow over whole complex numbers: the top of an element's speed over the common bottom.
-/
namespace Go.Proofs.YtnjkdfhhlcoaaaaGreat
open Go.ChangeShapes Go.WideShapes Go.ChangeAt Go.RowKit
set_option linter.unusedVariables false
set_option linter.unusedSimpArgs false
attribute [local go_sem] frombits_call tobits_call run_neg run_store_cx El.run_store_fl
end Go.Proofs.YtnjkdfhhlcoaaaaGreat

/-
 OWN TEXT: package flow over whole complex numbers: which flows may be; no broken corner.
-/
namespace Go.Proofs.YtnjkdfhhlcoaaaaGreat
open Go.ChangeShapes Go.WideShapes Go.ChangeAt Go.RowKit
set_option linter.unusedVariables false
set_option linter.unusedSimpArgs false
attribute [local go_sem] frombits_call tobits_call run_neg run_store_cx El.run_store_fl
namespace Ff
theorem pw_facts : ∀ k : Fin 4, El.wi (pw k.val) = true ∧ pw k.val < 18446744073709551616 ∧ (k.val = 0 → Fl.eqF (pw k.val) 0 = true) ∧ (1 ≤ k.val → (El.wh (pw k.val) && Fl.leF 4607182418800017408 (pw k.val) && Fl.leF (pw k.val) 4620693217682128896) = true ∧ (Fl.leF 4598175219545276416 (pw k.val) && Fl.leF (pw k.val) 4616189618054758400) = true ∧ El.wh (pw k.val) = true) := by decide +kernel
/-- what kind of thing an element is told to be -/
def Fe.kind (e : Fe) : Value := if e.k = 1 then .iface 105 e.val else if e.k = 3 then .iface 107 e.val else .iface 108 e.val
theorem Fe.ok.known {c : Nat} {e : Fe} (h : e.ok c) (w : World) : Calls Tryz.prog 46 #[El.E e.k e.a e.b e.s e.t (pw e.n)] w fun r w' => r = .returned (.tuple #[e.kind, .int .i64 0]) ∧ Bw w w' := by
 obtain ⟨f1, f2, f3, f4⟩ := pw_facts ⟨e.n, by have := h.n3; omega⟩
 have n1 : e.at_.1.natAbs ≤ 100000 ∧ e.at_.2.natAbs ≤ 100000 := ⟨by have := h.la.1; omega, by have := h.la.2; omega⟩
 have n2 : e.st.1.natAbs ≤ 100000 ∧ e.st.2.natAbs ≤ 100000 := ⟨by have := h.ls.1; omega, by have := h.ls.2; omega⟩
 unfold Fe.kind Fe.val
 rcases h.kd with ⟨k1, k2, k3, k4, _⟩ | ⟨k1, k2, k3⟩ | ⟨k1, k2, k3⟩
 ·
  rw [k1, if_pos rfl]
  refine kn1_ok h.pa.1 h.pa.2 h.ps.1 h.ps.2 n1 n2 f2 f1 ?_ w
  rw [k2, k3]
  have := f3 k4
  rw [this]
  decide +kernel
 ·
  rw [k1, if_neg (by decide), if_pos rfl]
  exact kn3_ok h.pa.1 h.pa.2 h.ps.1 h.ps.2 n1 n2 f2 f1 (f4 k2).1 w
 ·
  rw [k1, if_neg (by decide), if_neg (by decide)]
  exact kn4_ok h.pa.1 h.pa.2 h.ps.1 h.ps.2 n1 n2 f2 f1 (f4 k2).2.1 w
end Ff
theorem echeck16 {c : Nat} {e : Ff.Fe} (h : e.ok c) (w : World) : Calls Tryz.prog 28 #[.agg #[.int .u8 e.k, .complex .f64 e.a e.b, .complex .f64 e.s e.t, .float .f64 (Ff.pw e.n)]] w fun r w' => r = .returned (.int .i64 0) ∧ Bw w w' :=
 check_er e.k e.a e.b e.s e.t (Ff.pw e.n) 0 e.kind w (fun wz => h.known wz)
set_option maxHeartbeats 8000000 in
theorem fcheck16 {c : Nat} {w : World} {a : Option Addr} {cap n : Nat} {es : List Ff.Fe} (hn : es.length = n) (hm : n ≤ 3) (hE : Ff.Es w a es) (ho : ∀ e ∈ es, e.ok c) :
  Calls Tryz.prog 13 #[.agg #[.slice a n cap]] w fun e w' => e = .returned (.int .i64 0) ∧ Bw w w' := by
 have bA := bw_alloc w (.cells #[.slice a n cap] 30)
 have c0 : (w.alloc (.cells #[.slice a n cap] 30)).cell? ⟨w.heap.size, 0, none⟩ = some (.slice a n cap) := by simp
 have HN := hide hn
 have HE := hide (hE.bw bA)
 have HO := hide ho
 have h256 : ¬ (256 : Int) < (n : Int) := by omega
 clear hn hE ho
 go_enter Tryz.func13, Tryz.ntmps13
 go_wp2
 go_wp2
 generalize w.alloc (.cells #[.slice a n cap] 30) = W at *
 go_loopw [13] (fun i wr => ∃ (k : Nat), k ≤ n ∧ i = .int .i64 k ∧ Bw W wr) (fun i _ => n - (intOf i).toNat)
 case atStart => exact ⟨0, Nat.zero_le _, rfl, Bw.refl _⟩
 case round =>
  obtain ⟨k, hk, rfl, hbw⟩ := hrel
  by_cases hk1 : k < n
  ·
   have hk2 : (k : Int) < n := by omega
   obtain ⟨e, he⟩ : ∃ e, es[k]? = some e := ⟨es[k]'(by have := HN.out; omega), by simp [show k < es.length by have := HN.out; omega]⟩
   have hok := HO.out e (List.mem_of_getElem? he)
   obtain ⟨b, o, rfl, _, hcell⟩ := (HE.out.bw hbw).resolve_left (by have := HN.out; omega)
   obtain ⟨e0, e1, e2, e3⟩ := hcell k e he
   have bX := bw_alloc wr (.cells #[.int .u8 e.k, .complex .f64 e.a e.b, .complex .f64 e.s e.t, .float .f64 (Ff.pw e.n)] 28)
   have R := hide (bw_trans hbw bX)
   have CK := hide (fun wz => echeck16 hok wz)
   clear hcell hok hbw bX
   go_wp2_with fail
   refine (CK.out _).mono ?_
   rintro e' w5 ⟨rfl, b5⟩
   have R2 := hide (bw_trans R.out b5)
   clear e0 e1 e2 e3 CK b5
   go_wp2
   go_roundw
   case rel => exact ⟨k + 1, by omega, by simp, R2.out⟩
   case measure => simp [intOf]; omega
  ·
   have hk3 : k = n := by omega
   subst hk3
   go_wp2
   go_ret
   exact ⟨rfl, bw_trans bA hbw⟩
end Go.Proofs.YtnjkdfhhlcoaaaaGreat

/-
 OWN TEXT: package flow over whole complex numbers: the top of an element's speed, of whatever kind; the fraction.
-/
namespace Go.Proofs.YtnjkdfhhlcoaaaaGreat
open Go.ChangeShapes Go.WideShapes Go.ChangeAt Go.RowKit
set_option linter.unusedVariables false
set_option linter.unusedSimpArgs false
attribute [local go_sem] frombits_call tobits_call run_neg run_store_cx El.run_store_fl
namespace Ff
end Ff
namespace Ff
end Ff
end Go.Proofs.YtnjkdfhhlcoaaaaGreat

/-
 OWN TEXT: package flow over whole complex numbers: what elements' speeds are.
-/
namespace Go.Proofs.YtnjkdfhhlcoaaaaGreat
open Go.ChangeShapes Go.WideShapes Go.ChangeAt Go.RowKit
set_option linter.unusedVariables false
set_option linter.unusedSimpArgs false
namespace Ff
end Ff
end Go.Proofs.YtnjkdfhhlcoaaaaGreat

/-
 OWN TEXT: package flow over whole complex numbers: a fraction's value at a place.
-/
namespace Go.Proofs.YtnjkdfhhlcoaaaaGreat
open Go.ChangeShapes Go.WideShapes Go.ChangeAt Go.RowKit
set_option linter.unusedVariables false
set_option linter.unusedSimpArgs false
attribute [local go_sem] frombits_call tobits_call run_neg run_store_cx El.run_store_fl
namespace Ff
/-- A, and Z times what stands, and A .. -/
def hr (A Z : Nat) : Nat → Nat
 | 0 => A
 | t + 1 => hr A Z t * Z + A
theorem hr_mono {A Z : Nat} (hZ : 1 ≤ Z) {t n : Nat} (h : t ≤ n) : hr A Z t ≤ hr A Z n := by
 induction n with
 | zero => rw [show t = 0 by omega]; exact Nat.le_refl _
 | succ n ih =>
  by_cases k : t = n + 1
  · rw [k]; exact Nat.le_refl _
  ·
   refine Nat.le_trans (ih (by omega)) ?_
   show hr A Z n ≤ hr A Z n * Z + A
   have := Nat.le_mul_of_pos_right (hr A Z n) (show 0 < Z by omega)
   omega
theorem ev_hr {z : Py.G} {A Z : Nat} (hz : Py.Le z Z) : ∀ (l : List Py.G) (n : Nat), l.length = n + 1 → (∀ i, Py.Le (Py.co l i) A) → Py.Le (Py.ev l z) (hr A Z n)
 | [], n, h, _ => by simp at h
 | x :: r, 0, h, hl => by
  obtain rfl : r = [] := List.length_eq_zero_iff.1 (by simpa using h)
  rw [ev_c]
  exact hl 0
 | x :: r, n + 1, h, hl => by
  have ih := ev_hr hz r n (by simpa using h) (fun i => hl (i + 1))
  show Py.Le (Py.ga (Py.gm (Py.ev r z) z) x) (hr A Z n * Z + A)
  exact (ih.mul hz).add (hl 0)
theorem Pv.le {c : Nat} {w : World} {z : Py.G} {v : Value} {N A : Nat} {g : Py.G} (h : Pv c w z v N A g) (lz : Py.Le z 6) : Py.Le g (hr A 6 N) := by
 obtain ⟨B, o, m, cap, l, rfl, h1, h2, h3, h4, h5⟩ := h
 rw [← h5]
 exact (ev_hr lz l m h1.1 h4).mono (hr_mono (by decide) h2)
end Ff
theorem pfin16 {x y : Nat} (hx : x < 18446744073709551616 ∧ Fl.rg x < 9218868437227405312) (hy : y < 18446744073709551616 ∧ Fl.rg y < 9218868437227405312) (w : World) : Calls Tryz.prog 22 #[.complex .f64 x y] w fun e w' => e = .returned (.bool true) ∧ w' = w := by
 have fx : Fl.finB x = true := by unfold Fl.finB; exact decide_eq_true hx.2
 have fy : Fl.finB y = true := by unfold Fl.finB; exact decide_eq_true hy.2
 have A1 : Hid (∀ wz, Calls Tryz.prog 39 #[.float .f64 x] wz fun e w' => e = .returned (.bool true) ∧ w' = wz) := fun wz => by have q := finite_any x wz hx.1; rw [fx] at q; exact q
 have A2 : Hid (∀ wz, Calls Tryz.prog 39 #[.float .f64 y] wz fun e w' => e = .returned (.bool true) ∧ w' = wz) := fun wz => by have q := finite_any y wz hy.1; rw [fy] at q; exact q
 clear hx hy fx fy
 go_enter Tryz.func22, Tryz.ntmps22
 go_wp2_with fail
 refine (A1.out _).mono ?_
 rintro e' w ⟨rfl, rfl⟩
 go_wp2_with fail
 refine (A2.out _).mono ?_
 rintro e' w ⟨rfl, rfl⟩
 go_wp2
 go_ret
 exact ⟨rfl, rfl⟩
end Go.Proofs.YtnjkdfhhlcoaaaaGreat

/-
 OWN TEXT: package flow over whole complex numbers: sums of speeds.
-/
namespace Go.Proofs.YtnjkdfhhlcoaaaaGreat
open Go.ChangeShapes Go.WideShapes Go.ChangeAt Go.RowKit
set_option linter.unusedVariables false
set_option linter.unusedSimpArgs false
attribute [local go_sem] frombits_call tobits_call run_neg run_store_cx El.run_store_fl
namespace Ff
def zadd (a b : El.Z) : El.Z := (Sv.op .add a.1 b.1, Sv.op .add a.2 b.2)
def zsum : List El.Z → El.Z
 | [] => (0, 0)
 | y :: r => r.foldl zadd y
theorem zsum_succ {Ys : List El.Z} {k : Nat} {Y : El.Z} (h : Ys[k + 1]? = some Y) : zsum (Ys.take (k + 1 + 1)) = zadd (zsum (Ys.take (k + 1))) Y := by
 cases Ys with
 | nil => simp at h
 | cons y r =>
  simp only [List.getElem?_cons_succ] at h
  show (r.take (k + 1)).foldl zadd y = zadd ((r.take k).foldl zadd y) Y
  rw [List.take_add_one, h, List.foldl_append]
  rfl
theorem fin_eq {Y : El.Z} {u v : Nat} (h : El.fin Y = true) (e : El.c2 u v = Y) : u = Y.1 ∧ v = Y.2 := by
 have q : ∀ x b, Fl.bitsF x = b → Fl.finB b = true → x = b := fun x b hx hb => by
  by_cases n : Fl.nan x = true
  ·
   rw [Sv.c_nan n] at hx
   subst hx
   exact absurd hb (by decide)
  ·
   rw [Sv.c_num (Bool.eq_false_iff.2 n)] at hx
   exact hx
 unfold El.fin at h
 rw [Bool.and_eq_true] at h
 exact ⟨q u _ (congrArg Prod.fst e) h.1, q v _ (congrArg Prod.snd e) h.2⟩
/-- a list of complex numbers, by their words -/
def Zl (w : World) (b o : Nat) (Ys : List El.Z) : Prop := b < w.heap.size ∧ ∀ (i : Nat) (Y : El.Z), Ys[i]? = some Y → w.cell? ⟨b, o + i, none⟩ = some (.complex .f64 Y.1 Y.2)
end Ff
theorem zadd16 (a b c d : Nat) (w : World) : Calls Tryz.prog 41 #[.complex .f64 a b, .complex .f64 c d] w fun e w' => ∃ x y, e = .returned (.complex .f64 x y) ∧ El.c2 x y = Ff.zadd (El.c2 a b) (El.c2 c d) ∧ Bw w w' := by
 obtain ⟨x, w1, h1, e1, b1⟩ := op_run .add isAdd a c w
 obtain ⟨y, w2, h2, e2, b2⟩ := op_run .add isAdd b d w1
 have cs := csum_run (Or.inl rfl) e1 e2
 have R : Hid (El.c2 x y = Ff.zadd (El.c2 a b) (El.c2 c d)) := Prod.ext (Sv.op_of isAdd h1) (Sv.op_of isAdd h2)
 clear h1 h2 e1 e2
 go_enter Tryz.func41, Tryz.ntmps41
 go_wp2
 go_ret
 exact ⟨x, y, rfl, R.out, bw_trans b1 b2⟩
set_option maxHeartbeats 4000000 in
theorem psum16 {w : World} {b o cap n : Nat} {Ys : List El.Z} (hn : Ys.length = n) (hm : n ≤ 1000) (h : Ff.Zl w b o Ys) (hf : ∀ Y ∈ Ys, El.c2 Y.1 Y.2 = Y) :
  Calls Tryz.prog 49 #[.slice (some ⟨b, o, none⟩) n cap] w fun e w' => ∃ x y, e = .returned (.complex .f64 x y) ∧ El.c2 x y = Ff.zsum Ys ∧ Bw w w' := by
 have HN := hide hn
 have HF := hide hf
 have HL := hide h
 by_cases h0 : n = 0
 ·
  subst h0
  obtain rfl : Ys = [] := List.length_eq_zero_iff.1 hn
  clear hn hf h
  go_enter Tryz.func49, Tryz.ntmps49
  go_wp2
  go_ret
  exact ⟨0, 0, rfl, rfl, Bw.refl _⟩
 ·
  obtain ⟨Y0, e0⟩ : ∃ Y, Ys[0]? = some Y := ⟨Ys[0]'(by omega), by simp [show 0 < Ys.length by omega]⟩
  have c0 := h.2 0 Y0 e0
  rw [Nat.add_zero] at c0
  have HY0 := hide (show El.c2 Y0.1 Y0.2 = Ff.zsum (Ys.take (0 + 1)) from by
   rw [HF.out Y0 (List.mem_of_getElem? e0)]
   cases Ys with
   | nil => simp at e0
   | cons y r => simp at e0; rw [e0]; rfl)
  have hn0 : ¬ (n : Int) = 0 := by omega
  have hnp : (0 : Int) < (n : Int) := by omega
  have hnb : ((n : Int) == 0) = false := by rw [beq_eq_false_iff_ne]; omega
  have hw1 : wrap64 ((n : Int) - 1) = ((n - 1 : Nat) : Int) := by unfold wrap64; omega
  obtain ⟨n1, hn1⟩ : ∃ n1, n - 1 = n1 := ⟨_, rfl⟩
  rw [hn1] at hw1
  have HN1 := hide hn1
  have hn1m : n1 < 1000 := by omega
  clear hn hf h e0 hn1
  go_enter Tryz.func49, Tryz.ntmps49
  go_wp2
  go_wp2
  go_loopw [3, 14] (fun s i wr => ∃ (k x y : Nat), k ≤ n1 ∧ i = .int .i64 k ∧ s = .complex .f64 x y ∧ El.c2 x y = Ff.zsum (Ys.take (k + 1)) ∧ Bw w wr) (fun _ i _ => n1 - (intOf i).toNat)
  case atStart => exact ⟨0, _, _, Nat.zero_le _, rfl, rfl, HY0.out, Bw.refl _⟩
  case round =>
   obtain ⟨k, x, y, hk, rfl, rfl, hs, hb⟩ := hrel
   by_cases hk1 : k < n1
   ·
    have hk2 : (k : Int) < n1 := by omega
    obtain ⟨Y, eY⟩ : ∃ Y, Ys[k + 1]? = some Y := ⟨Ys[k + 1]'(by have := HN.out; have := HN1.out; omega), by simp [show k + 1 < Ys.length by have := HN.out; have := HN1.out; omega]⟩
    have cY := (Below.cell hb (p := ⟨b, o + (k + 1), none⟩) HL.out.1).trans (HL.out.2 (k + 1) Y eY)
    have hk4 : ((k + 1 : Nat) : Int) < n := by have := HN1.out; omega
    have R0 := hide (show Ff.zsum (Ys.take (k + 1 + 1)) = Ff.zadd (El.c2 x y) (El.c2 Y.1 Y.2) from by rw [Ff.zsum_succ eY, hs, HF.out Y (List.mem_of_getElem? eY)])
    have hk6 : (k : Int) < (n : Int) - 1 := by have := HN1.out; omega
    have hk7 : (k : Int) + 1 < n := by omega
    have ZA := hide (fun wz => zadd16 x y Y.1 Y.2 wz)
    have HB := hide hb
    clear hs eY hb hk4
    go_wp2_with fail
    refine (ZA.out _).mono ?_
    rintro e' w5 ⟨x2, y2, rfl, h2, b5⟩
    have R := hide (And.intro (h2.trans R0.out.symm) (bw_trans HB.out b5))
    clear ZA h2 b5 R0 HB cY hk6 hk7
    go_wp2
    go_roundw
    case rel => exact ⟨k + 1, x2, y2, by omega, by simp, rfl, R.out.1, R.out.2⟩
    case measure => simp [intOf]; omega
   ·
    have hk3 : k = n1 := by omega
    subst hk3
    have hT : Ys.take (k + 1) = Ys := List.take_of_length_le (by have := HN.out; have := HN1.out; omega)
    rw [hT] at hs
    have R := hide hs
    have hk6 : ¬ (k : Int) < (n : Int) - 1 := by have := HN1.out; omega
    clear hs hT
    go_wp2
    go_ret
    exact ⟨x, y, rfl, R.out, hb⟩
end Go.Proofs.YtnjkdfhhlcoaaaaGreat

/-
 OWN TEXT: package flow over whole complex numbers: the speed of a flow.
-/
namespace Go.Proofs.YtnjkdfhhlcoaaaaGreat
open Go.ChangeShapes Go.WideShapes Go.ChangeAt Go.RowKit
set_option linter.unusedVariables false
set_option linter.unusedSimpArgs false
attribute [local go_sem] frombits_call tobits_call run_neg run_store_cx El.run_store_fl
namespace Ff
/-- the speeds of the elements at a place, as the program tells them -/
def Spd (zx zy : Nat) (es : List Fe) (Ys : List El.Z) : Prop := Ys.length = es.length ∧ ∀ (i : Nat) (e : Fe) (Y : El.Z), es[i]? = some e → Ys[i]? = some Y → El.c2 Y.1 Y.2 = Y ∧ ∀ w, Calls Tryz.prog 50 #[.agg #[.int .u8 e.k, .complex .f64 e.a e.b, .complex .f64 e.s e.t, .float .f64 (pw e.n)], .complex .f64 zx zy] w fun r w' => r = .returned (.tuple #[.complex .f64 Y.1 Y.2, .int .i64 0]) ∧ Bw w w'
theorem zsum_lt {Ys : List El.Z} (h : ∀ Y ∈ Ys, Y.1 < 18446744073709551616 ∧ Y.2 < 18446744073709551616) : (zsum Ys).1 < 18446744073709551616 ∧ (zsum Ys).2 < 18446744073709551616 := by
 cases Ys with
 | nil => exact ⟨by show (0 : Nat) < _; decide, by show (0 : Nat) < _; decide⟩
 | cons y r =>
  show (r.foldl zadd y).1 < _ ∧ (r.foldl zadd y).2 < _
  have hy := h y (by simp)
  clear h
  induction r generalizing y with
  | nil => exact hy
  | cons x r ih => exact ih (zadd y x) ⟨Sv.op_lt _ _ _, Sv.op_lt _ _ _⟩
end Ff
set_option maxHeartbeats 4000000 in
theorem told16 {w : World} {a : Option Addr} {cap n i zx zy : Nat} {es : List Ff.Fe} {Ys : List El.Z} {e : Ff.Fe} {Y : El.Z} (hn : es.length = n) (hm : n ≤ 3) (hE : Ff.Es w a es) (hS : Ff.Spd zx zy es Ys) (he : es[i]? = some e) (hY : Ys[i]? = some Y) :
  Calls Tryz.prog 34 #[.slice a n cap, .int .i64 (i : Int), .complex .f64 zx zy] w fun r w' => r = .returned (.tuple #[.complex .f64 Y.1 Y.2, .int .i64 0]) ∧ Bw w w' := by
 have hi : i < es.length := by
  rcases Nat.lt_or_ge i es.length with q | q
  · exact q
  · rw [List.getElem?_eq_none q] at he; cases he
 have SP := hide (hS.2 i e Y he hY).2
 obtain ⟨b, o, rfl, _, hcell⟩ := hE.resolve_left (by omega)
 obtain ⟨e0, e1, e2, e3⟩ := hcell i e he
 have hi2 : (i : Int) < n := by omega
 clear hcell hS he hY hn
 go_enter Tryz.func34, Tryz.ntmps34
 go_wp2_with fail
 refine (SP.out _).mono ?_
 rintro e' w5 ⟨rfl, b5⟩
 clear SP e0 e1 e2 e3
 go_wp2
 go_ret2
 exact ⟨rfl, b5⟩
set_option maxHeartbeats 8000000 in
theorem of16f {w : World} {a : Option Addr} {cap n zx zy : Nat} {es : List Ff.Fe} {Ys : List El.Z} (hn : es.length = n) (hm : n ≤ 3) (hE : Ff.Es w a es) (hS : Ff.Spd zx zy es Ys) (hF : El.fin (Ff.zsum Ys) = true) (hL : ∀ Y ∈ Ys, Y.1 < 18446744073709551616 ∧ Y.2 < 18446744073709551616) :
  Calls Tryz.prog 33 #[.agg #[.slice a n cap, .complex .f64 zx zy], .func (.func 34) #[.slice a n cap] #[]] w fun r w' => ∃ x y, r = .returned (.tuple #[.complex .f64 x y, .int .i64 0]) ∧ El.c2 x y = Ff.zsum Ys ∧ Bw w w' := by
 have bA := bw_alloc w (.cells #[.slice a n cap, .complex .f64 zx zy] 76)
 have c0 : (w.alloc (.cells #[.slice a n cap, .complex .f64 zx zy] 76)).cell? ⟨w.heap.size, 0, none⟩ = some (.slice a n cap) := by simp
 have c1 : (w.alloc (.cells #[.slice a n cap, .complex .f64 zx zy] 76)).cell? ⟨w.heap.size, 1, none⟩ = some (.complex .f64 zx zy) := by simp
 have hs1 : (w.alloc (.cells #[.slice a n cap, .complex .f64 zx zy] 76)).heap.size = w.heap.size + 1 := by simp
 obtain ⟨W1, hW1⟩ : ∃ v, v = w.alloc (.cells #[.slice a n cap, .complex .f64 zx zy] 76) := ⟨_, rfl⟩
 rw [← hW1] at bA c0 c1 hs1
 have hmk := make_c (n : Int) n rfl (by omega) W1
 have bM := bw_alloc W1 (.cells (zcC n) 24)
 have hGw := Gw.made 1074 W1 n 24
 have HN := hide hn
 have HE := hide (hE.bw bA)
 have HS := hide hS
 have HFI := hide hF
 have HLT := hide (Ff.zsum_lt hL)
 have HW1 := hide hW1
 have HSZ := hide hs1
 clear hn hE hS hF hW1
 obtain ⟨B, hB⟩ : ∃ B, W1.heap.size = B := ⟨_, rfl⟩
 rw [hB] at hmk hGw
 have HB := hide hB
 clear hB
 go_enter Tryz.func33, Tryz.ntmps33
 have HC1 := hide c1
 rw [HW1.out] at c0 c1 hmk
 go_wp2
 rw [← HW1.out]
 clear c0 c1 hmk
 have c1 := HC1.out
 generalize W1.alloc (.cells (zcC n) 24) = W2 at *
 have hG0 := hide (show B < W2.heap.size ∧ (∀ j, j < n → ∃ v, W2.cell? ⟨B, j, none⟩ = some v) ∧ ∀ j, W2.frozen? ⟨B, j, none⟩ = false from ⟨hGw.1.1, fun j hj => by
  obtain ⟨x, y, e, _⟩ := hGw.1.2 j (by simpa using hj)
  rw [Nat.zero_add] at e
  exact ⟨_, e⟩, hGw.2⟩)
 have HM := hide bM
 have BA := hide bA
 clear hGw bM bA
 go_loopw [16] (fun i wr => ∃ k : Nat, k ≤ n ∧ i = .int .i64 k ∧ Hid ((∀ j, j < n → ∃ v, wr.cell? ⟨B, j, none⟩ = some v) ∧ (∀ j Y, j < k → Ys[j]? = some Y → wr.cell? ⟨B, j, none⟩ = some (.complex .f64 Y.1 Y.2)) ∧ (∀ j, wr.frozen? ⟨B, j, none⟩ = false) ∧ B < wr.heap.size) ∧ Bw W1 wr) (fun i _ => n - (intOf i).toNat)
 case atStart => exact ⟨0, Nat.zero_le _, rfl, hide ⟨hG0.out.2.1, fun j Y hj => absurd hj (by omega), hG0.out.2.2, hG0.out.1⟩, HM.out⟩
 case round =>
  obtain ⟨k, hk, rfl, HR, hb⟩ := hrel
  by_cases hk1 : k < n
  ·
   have hk2 : (k : Int) < n := by omega
   obtain ⟨e, he⟩ : ∃ e, es[k]? = some e := ⟨es[k]'(by have := HN.out; omega), by simp [show k < es.length by have := HN.out; omega]⟩
   obtain ⟨Y, hY⟩ : ∃ Y, Ys[k]? = some Y := ⟨Ys[k]'(by have := HN.out; have := HS.out.1; omega), by simp [show k < Ys.length by have := HN.out; have := HS.out.1; omega]⟩
   have TD := hide (told16 (cap := cap) HN.out hm (HE.out.bw hb) HS.out he hY)
   have c1' := (Below.cell hb (p := ⟨w.heap.size, 1, none⟩) (by have := HSZ.out; show w.heap.size < _; omega)).trans c1
   have HB2 := hide hb
   have HY := hide hY
   clear he hY hb
   go_wp2_with fail
   refine TD.out.mono ?_
   rintro e' w5 ⟨rfl, b5⟩
   obtain ⟨g1, g2, g3, g4⟩ := HR.out
   obtain ⟨v0, e0⟩ := g1 k hk1
   have x0 := (Below.cell b5 (p := ⟨B, k, none⟩) g4).trans e0
   have f0 := (Below.frozen b5 (p := ⟨B, k, none⟩) g4).trans (g3 k)
   have R : Hid (Hid ((∀ j, j < n → ∃ v, (w5.setCell ⟨B, k, none⟩ (.complex .f64 Y.1 Y.2)).cell? ⟨B, j, none⟩ = some v) ∧ (∀ j Y', j < k + 1 → Ys[j]? = some Y' → (w5.setCell ⟨B, k, none⟩ (.complex .f64 Y.1 Y.2)).cell? ⟨B, j, none⟩ = some (.complex .f64 Y'.1 Y'.2)) ∧ (∀ j, (w5.setCell ⟨B, k, none⟩ (.complex .f64 Y.1 Y.2)).frozen? ⟨B, j, none⟩ = false) ∧ B < (w5.setCell ⟨B, k, none⟩ (.complex .f64 Y.1 Y.2)).heap.size) ∧ Bw W1 (w5.setCell ⟨B, k, none⟩ (.complex .f64 Y.1 Y.2))) := by
    refine ⟨⟨fun j hj => ?_, fun j Y' hj hY' => ?_, fun j => ?_, ?_⟩, Below.setCell (bw_trans HB2.out b5) (by have := HB.out; show _ ≤ B; omega) _⟩
    ·
     by_cases q : k = j
     · subst q; exact ⟨_, Ff.set_any x0⟩
     ·
      obtain ⟨v, ev⟩ := g1 j hj
      exact ⟨v, by rw [Ff.set_off q]; exact (Below.cell b5 (p := ⟨B, j, none⟩) g4).trans ev⟩
    ·
     by_cases q : k = j
     ·
      subst q
      rw [HY.out] at hY'
      cases hY'
      exact Ff.set_any x0
     ·
      rw [Ff.set_off q]
      exact (Below.cell b5 (p := ⟨B, j, none⟩) g4).trans (g2 j Y' (by omega) hY')
    · rw [World.frozen?_setCell]; exact (Below.frozen b5 (p := ⟨B, j, none⟩) g4).trans (g3 j)
    ·
     have := b5.size
     simp [World.setCell]; omega
   clear TD g1 g2 g3 g4 e0 b5 HB2 HY HR c1'
   go_wp2
   go_roundw
   case rel => exact ⟨k + 1, by omega, by simp, R.out.1, R.out.2⟩
   case measure => simp [intOf]; omega
  ·
   have hk3 : k = n := by omega
   subst hk3
   obtain ⟨g1, g2, g3, g4⟩ := HR.out
   have PS := hide (psum16 (cap := k) (n := k) (Ys := Ys) (b := B) (o := 0) (by have := HN.out; have := HS.out.1; omega) (by omega) ⟨g4, fun i Y hY => by
    have hi : i < Ys.length := by
     rcases Nat.lt_or_ge i Ys.length with q | q
     · exact q
     · rw [List.getElem?_eq_none q] at hY; cases hY
    rw [Nat.zero_add]
    exact g2 i Y (by have := HN.out; have := HS.out.1; omega) hY⟩ (fun Y hY => by
    obtain ⟨i, hi, rfl⟩ := List.getElem_of_mem hY
    have hi2 : i < es.length := by have := HS.out.1; omega
    exact (HS.out.2 i es[i] Ys[i] (by simp [hi2]) (by simp [hi])).1))
   have HB2 := hide hb
   clear g1 g2 g3 g4 HR hb
   go_wp2_with fail
   refine PS.out.mono ?_
   rintro e' w5 ⟨x, y, rfl, hxy, b5⟩
   have hfx : El.fin (El.c2 x y) = true := by rw [hxy]; exact HFI.out
   have hxx := Ff.fin_eq HFI.out hxy
   have PF := hide (fun wz => pfin16 (x := x) (y := y) (by
    rw [← El.fin_c, Bool.and_eq_true] at hfx
    refine ⟨?_, of_decide_eq_true hfx.1⟩
    rw [hxx.1]
    exact HLT.out.1) (by
    rw [← El.fin_c, Bool.and_eq_true] at hfx
    refine ⟨?_, of_decide_eq_true hfx.2⟩
    rw [hxx.2]
    exact HLT.out.2) wz)
   have R := hide (And.intro hxy (bw_trans (bw_trans BA.out HB2.out) b5))
   clear PS hxy b5 hfx hxx HB2
   go_wp2_with fail
   refine (PF.out _).mono ?_
   rintro e' w6 ⟨rfl, hw6⟩
   subst hw6
   clear PF
   go_wp2
   go_ret2
   exact ⟨x, y, rfl, R.out⟩
end Go.Proofs.YtnjkdfhhlcoaaaaGreat

/-
 OWN TEXT: package flow over whole complex numbers: the speed of a flow (the walk).
-/
namespace Go.Proofs.YtnjkdfhhlcoaaaaGreat
open Go.ChangeShapes Go.WideShapes Go.ChangeAt Go.RowKit
set_option linter.unusedVariables false
set_option linter.unusedSimpArgs false
attribute [local go_sem] frombits_call tobits_call run_neg run_store_cx El.run_store_fl
theorem place16 {c x y : Nat} {g : Py.G} (hc : c = 1074) (hg : wC c x y g) (hl : Py.Le g 1099511627776) (w : World) : Calls Tryz.prog 48 #[.complex .f64 x y] w fun e w' => e = .returned (.bool true) ∧ w' = w := by
 have A1 : Hid (∀ wz, Calls Tryz.prog 56 #[.float .f64 x, .float .f64 4787326403894837248] wz fun e w' => e = .returned (.bool true) ∧ w' = wz) := fun wz => by have q := within_any x 4787326403894837248 wz hg.1.1; rw [hg.1.within hc hl.one.1] at q; exact q
 have A2 : Hid (∀ wz, Calls Tryz.prog 56 #[.float .f64 y, .float .f64 4787326403894837248] wz fun e w' => e = .returned (.bool true) ∧ w' = wz) := fun wz => by have q := within_any y 4787326403894837248 wz hg.2.1; rw [hg.2.within hc hl.one.2] at q; exact q
 clear hg hl
 have P : Hid (∀ wz, Calls Tryz.prog 40 #[.complex .f64 x y, .float .f64 4787326403894837248] wz fun e w' => e = .returned (.bool true) ∧ w' = wz) := by
  intro wz
  go_enter Tryz.func40, Tryz.ntmps40
  go_wp2_with fail
  refine (A1.out _).mono ?_
  rintro e' w ⟨rfl, rfl⟩
  go_wp2_with fail
  refine (A2.out _).mono ?_
  rintro e' w ⟨rfl, rfl⟩
  go_wp2
  go_ret
  exact ⟨rfl, rfl⟩
 clear A1 A2
 go_enter Tryz.func48, Tryz.ntmps48
 go_wp2_with fail
 refine (P.out _).mono ?_
 rintro e' w ⟨rfl, rfl⟩
 go_wp2
 go_ret
 exact ⟨rfl, rfl⟩
namespace Ff
theorem sum_load {w : World} {B : Nat} {x y : Value} (h0 : w.cell? ⟨B, 0, none⟩ = some x) (h1 : w.cell? ⟨B, 1, none⟩ = some y) : (loadVar 76 ⟨B, 0, none⟩).run Tryz.prog w = .ok (.agg #[x, y]) w := by
 refine run_loadVar_mid w B 0 76 [x, y] _ (fun j v hv => ?_) Tryz.underlying76 rfl (by kernel_rfl)
 match j, hv with
 | 0, hv => cases hv; exact h0
 | 1, hv => cases hv; exact h1
theorem res_sum {fn : Func} {i j : Tmp} (hr : fn.results = #[.cell i 76, .tmp j]) (tmps : Array Value) (w : World) (B : Nat) {x y : Value} (hi : tmps.getD i undef = .pointer (some ⟨B, 0, none⟩)) (h0 : w.cell? ⟨B, 0, none⟩ = some x) (h1 : w.cell? ⟨B, 1, none⟩ = some y) : (results fn tmps).run Tryz.prog w = .ok (.tuple #[.agg #[x, y], tmps.getD j undef]) w := by
 rw [results_cell_tmp hr, hi]
 simp only [asAddr, Sem.run_pure, Result.andThen_ok, sum_load h0 h1]
end Ff
set_option maxHeartbeats 8000000 in
theorem sumat16 {w : World} {a : Option Addr} {cap n zx zy : Nat} {z : Py.G} {es : List Ff.Fe} (hn : es.length = n) (hm : n ≤ 3) (hE : Ff.Es w a es) (ho : ∀ e ∈ es, e.ok 1074) (hz : wC 1074 zx zy z) (lz : Py.Le z 6) :
  Calls Tryz.prog 32 #[.agg #[.slice a n cap], .complex .f64 zx zy] w fun r w' => r = .returned (.tuple #[.agg #[.slice a n cap, .complex .f64 zx zy], .int .i64 0]) ∧ Bw w w' := by
 have bA := bw_alloc w (.cells #[.slice a n cap] 30)
 have c0 : (w.alloc (.cells #[.slice a n cap] 30)).cell? ⟨w.heap.size, 0, none⟩ = some (.slice a n cap) := by simp
 have hs1 : (w.alloc (.cells #[.slice a n cap] 30)).heap.size = w.heap.size + 1 := by simp
 obtain ⟨W1, hW1⟩ : ∃ v, v = w.alloc (.cells #[.slice a n cap] 30) := ⟨_, rfl⟩
 rw [← hW1] at bA c0 hs1
 have b2 := bw_alloc W1 (.cells #[.slice none 0 0, .complex .f64 0 0] 76)
 have r0 : (W1.alloc (.cells #[.slice none 0 0, .complex .f64 0 0] 76)).cell? ⟨W1.heap.size, 0, none⟩ = some (.slice none 0 0) := by simp
 have r1 : (W1.alloc (.cells #[.slice none 0 0, .complex .f64 0 0] 76)).cell? ⟨W1.heap.size, 1, none⟩ = some (.complex .f64 0 0) := by simp
 have rz := Ff.fz_new W1 #[.slice none 0 0, .complex .f64 0 0] 76
 have hs2 : (W1.alloc (.cells #[.slice none 0 0, .complex .f64 0 0] 76)).heap.size = W1.heap.size + 1 := by simp
 obtain ⟨W2, hW2⟩ : ∃ v, v = W1.alloc (.cells #[.slice none 0 0, .complex .f64 0 0] 76) := ⟨_, rfl⟩
 rw [← hW2] at b2 r0 r1 rz hs2
 have bW := bw_trans bA b2
 have SF := hide (fun wz (hb : Bw W2 wz) => (show wz.cell? ⟨w.heap.size, 0, none⟩ = some (.slice a n cap) ∧ wz.cell? ⟨W1.heap.size, 0, none⟩ = some (.slice none 0 0) ∧ wz.cell? ⟨W1.heap.size, 1, none⟩ = some (.complex .f64 0 0) ∧ wz.frozen? ⟨W1.heap.size, 0, none⟩ = false ∧ wz.frozen? ⟨W1.heap.size, 1, none⟩ = false from by
  have h1 : w.heap.size < W1.heap.size := by omega
  have h2 : W1.heap.size < W2.heap.size := by omega
  exact ⟨(Below.cell (bw_trans b2 hb) (p := ⟨w.heap.size, 0, none⟩) h1).trans c0, (Below.cell hb (p := ⟨W1.heap.size, 0, none⟩) h2).trans r0, (Below.cell hb (p := ⟨W1.heap.size, 1, none⟩) h2).trans r1, (Below.frozen hb (p := ⟨W1.heap.size, 0, none⟩) h2).trans (rz 0), (Below.frozen hb (p := ⟨W1.heap.size, 1, none⟩) h2).trans (rz 1)⟩))
 have CK := hide (fcheck16 (cap := cap) hn hm (hE.bw bW) ho)
 have PL := hide (fun wz => place16 (c := 1074) rfl hz (lz.mono (by decide)) wz)
 have BW := hide bW
 have SZ := hide (And.intro hs1 hs2)
 have HW1 := hide hW1
 have HW2 := hide hW2
 have S1' := hide hs1
 obtain ⟨s0, s1, s2, s3, s4⟩ := SF.out W2 (Bw.refl W2)
 clear bA c0 hs1 b2 r0 r1 rz hs2 bW hE ho hn hW1 hW2 hz lz
 go_enter Tryz.func32, Tryz.ntmps32
 go_wp2_with fail
 rw [← HW1.out, ← HW2.out, ← S1'.out]
 refine CK.out.mono ?_
 rintro e' w3 ⟨rfl, b3⟩
 obtain ⟨s0, s1, s2, s3, s4⟩ := SF.out w3 b3
 clear CK
 go_wp2_with fail
 refine (PL.out _).mono ?_
 rintro e' w4 ⟨rfl, hw4⟩
 subst hw4
 have FIN : Hid (∀ V, V = (w4.setCell ⟨W1.heap.size, 0, none⟩ (.slice a n cap)).setCell ⟨W1.heap.size, 1, none⟩ (.complex .f64 zx zy) → V.cell? ⟨W1.heap.size, 0, none⟩ = some (.slice a n cap) ∧ V.cell? ⟨W1.heap.size, 1, none⟩ = some (.complex .f64 zx zy) ∧ Bw w V) := by
  rintro V rfl
  have h1 : w.heap.size ≤ W1.heap.size := by have := SZ.out.1; omega
  exact ⟨by rw [Ff.set_off (by decide)]; exact Ff.set_any s1, Ff.set_any (by rw [Ff.set_off (by decide)]; exact s2), Below.setCell (Below.setCell (bw_trans BW.out b3) h1 _) h1 _⟩
 clear PL b3
 go_wp2
 obtain ⟨f0, f1, f2⟩ := FIN.out _ rfl
 refine bodyPost_ret (Ff.res_sum rfl _ _ W1.heap.size rfl f0 f1) rfl ?_
 exact ⟨rfl, f2⟩
set_option maxHeartbeats 8000000 in
theorem fspeed16 {w : World} {a : Option Addr} {cap n zx zy : Nat} {z : Py.G} {es : List Ff.Fe} {Ys : List El.Z} (hn : es.length = n) (hm : n ≤ 3) (hE : Ff.Es w a es) (ho : ∀ e ∈ es, e.ok 1074) (hz : wC 1074 zx zy z) (lz : Py.Le z 6) (hS : Ff.Spd zx zy es Ys) (hF : El.fin (Ff.zsum Ys) = true) (hL : ∀ Y ∈ Ys, Y.1 < 18446744073709551616 ∧ Y.2 < 18446744073709551616) :
  Calls Tryz.prog 18 #[.agg #[.slice a n cap], .complex .f64 zx zy] w fun r w' => ∃ x y, r = .returned (.tuple #[.complex .f64 x y, .int .i64 0]) ∧ El.c2 x y = Ff.zsum Ys ∧ Bw w w' := by
 have bA := bw_alloc w (.cells #[.slice a n cap] 30)
 have SA := hide (sumat16 (cap := cap) hn hm (hE.bw bA) ho hz lz)
 have OF := hide (fun (wz : World) (hb : Bw w wz) => of16f (cap := cap) hn hm (hE.bw hb) hS hF hL)
 have BA := hide bA
 clear bA hn hE ho hz lz hS hF hL
 go_enter Tryz.func18, Tryz.ntmps18
 go_wp2_with fail
 refine SA.out.mono ?_
 rintro e' w3 ⟨rfl, b3⟩
 have bC := bw_alloc w3 (.cells #[.slice a n cap, .complex .f64 zx zy] 76)
 have OF2 := hide (OF.out _ (bw_trans (bw_trans BA.out b3) bC))
 have B3 := hide (bw_trans (bw_trans BA.out b3) bC)
 clear SA OF b3 bC
 go_wp2_with fail
 refine OF2.out.mono ?_
 rintro e' w5 ⟨x, y, rfl, hxy, b5⟩
 have R := hide (And.intro hxy (bw_trans B3.out b5))
 clear OF2 hxy b5 B3
 go_wp2
 go_ret2
 exact ⟨x, y, rfl, R.out⟩
end Go.Proofs.YtnjkdfhhlcoaaaaGreat

