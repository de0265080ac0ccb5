/-
 OWN TEXT: package chart over whole numbers: places, noughts, what a Moebius map divides by, its determinant.
-/
import Derived.Test.YtfgfofedacehiaaGreatJPyAToChA
import Derived.Test.YtfgfofedacehiaaGreatJRpAToEqA
import Derived.Test.YtfgfofedacehiaaGreatJPoTToElC
import Derived.Test.YtfgfofedacehiaaGreatJEpBToBhL
import Derived.Deep.MidRow
import Derived.Laws.ResultCell
namespace Go.Proofs.YtfgfofedacehiaaGreat
open Go.ChangeShapes Go.WideShapes Go.ChangeAt Go.RowKit
set_option linter.unusedVariables false
set_option linter.unusedSimpArgs false
attribute [local go_sem] frombits_call tobits_call run_neg El.run_store_cx El.run_store_fl
namespace Ch
/-- eight words are the map's four whole numbers -/
def W8 (a a' b b' c c' d d' : Nat) (m : Mq) : Prop := wC 1074 a a' m.a ∧ wC 1074 b b' m.b ∧ wC 1074 c c' m.c ∧ wC 1074 d d' m.d
theorem fz_new (w : World) (c : Array Value) (T : TypeId) (i : Nat) : (w.alloc (.cells c T)).frozen? ⟨w.heap.size, i, none⟩ = false := World.frozen?_alloc_at _ _ _ _ rfl
theorem set_any {w : World} {B i : Nat} {v u : Value} (h : w.cell? ⟨B, i, none⟩ = some u) : (w.setCell ⟨B, i, none⟩ v).cell? ⟨B, i, none⟩ = some v := World.cell?_setCell_same' _ _ _ (by rw [h]; rfl)
theorem set_off {w : World} {B i j : Nat} {v : Value} (h : i ≠ j) : (w.setCell ⟨B, i, none⟩ v).cell? ⟨B, j, none⟩ = w.cell? ⟨B, j, none⟩ := by
 rw [World.cell?_setCell_other]
 intro e; cases e; exact h rfl
theorem set_blk {w : World} {B B' i j : Nat} {v : Value} (h : B' ≠ B) : (w.setCell ⟨B', i, none⟩ v).cell? ⟨B, j, none⟩ = w.cell? ⟨B, j, none⟩ := by
 rw [World.cell?_setCell_other]
 intro e; cases e; exact h rfl
/-- a block's cells -/
structure Bl (w : World) (B : Nat) (l : List Value) : Prop where
 lt : B < w.heap.size
 c : ∀ j u, l[j]? = some u → w.cell? ⟨B, j, none⟩ = some u
 fz : ∀ i, w.frozen? ⟨B, i, none⟩ = false
theorem Bl.bw {w w' : World} {B : Nat} {l : List Value} (h : Bl w B l) (g : Bw w w') : Bl w' B l :=
 ⟨Nat.lt_of_lt_of_le h.lt g.size, fun j u hu => (Below.cell g (p := ⟨B, j, none⟩) h.lt).trans (h.c j u hu), fun i => (Below.frozen g (p := ⟨B, i, none⟩) h.lt).trans (h.fz i)⟩
theorem Bl.new (w : World) (c : Array Value) (T : TypeId) : Bl (w.alloc (.cells c T)) w.heap.size c.toList :=
 ⟨by simp, fun j u hu => by rw [World.cell?_alloc_at _ _ _ _ rfl]; simpa using hu, fun i => fz_new _ _ _ _⟩
theorem Bl.off {w : World} {B C i : Nat} {l : List Value} {v : Value} (h : Bl w B l) (hC : C ≠ B) : Bl (w.setCell ⟨C, i, none⟩ v) B l :=
 ⟨by simpa [World.setCell] using h.lt, fun j u hu => by rw [set_blk hC]; exact h.c j u hu, fun i => by rw [World.frozen?_setCell]; exact h.fz i⟩
theorem Bl.set {w : World} {B i : Nat} {l : List Value} (h : Bl w B l) (hi : i < l.length) (v : Value) : Bl (w.setCell ⟨B, i, none⟩ v) B (l.set i v) := by
 refine ⟨by simpa [World.setCell] using h.lt, fun j u hu => ?_, fun i => by rw [World.frozen?_setCell]; exact h.fz i⟩
 by_cases q : i = j
 ·
  subst q
  rw [List.getElem?_set_self hi] at hu
  cases hu
  exact set_any (h.c i l[i] (by simp [hi]))
 ·
  rw [List.getElem?_set_ne q] at hu
  rw [set_off q]
  exact h.c j u hu
/-- a map's block is written whole -/
def s6 (w : World) (B : Nat) (v0 v1 v2 v3 v4 v5 : Value) : World := (((((w.setCell ⟨B, 0, none⟩ v0).setCell ⟨B, 1, none⟩ v1).setCell ⟨B, 2, none⟩ v2).setCell ⟨B, 3, none⟩ v3).setCell ⟨B, 4, none⟩ v4).setCell ⟨B, 5, none⟩ v5
theorem s6_at {w : World} {B : Nat} {x0 x1 x2 x3 x4 x5 : Value} (h : Bl w B [x0, x1, x2, x3, x4, x5]) (v0 v1 v2 v3 v4 v5 : Value) : Bl (s6 w B v0 v1 v2 v3 v4 v5) B [v0, v1, v2, v3, v4, v5] :=
 (((((h.set (i := 0) (by simp) v0).set (i := 1) (by simp) v1).set (i := 2) (by simp) v2).set (i := 3) (by simp) v3).set (i := 4) (by simp) v4).set (i := 5) (by simp) v5
theorem s6_off {w : World} {B C : Nat} {l : List Value} (h : Bl w C l) (hC : B ≠ C) (v0 v1 v2 v3 v4 v5 : Value) : Bl (s6 w B v0 v1 v2 v3 v4 v5) C l :=
 (((((h.off (i := 0) hC).off (i := 1) hC).off (i := 2) hC).off (i := 3) hC).off (i := 4) hC).off (i := 5) hC
theorem s6_bw {u w : World} {B : Nat} (h : Bw u w) (hB : u.heap.size ≤ B) (v0 v1 v2 v3 v4 v5 : Value) : Bw u (s6 w B v0 v1 v2 v3 v4 v5) :=
 Below.setCell (Below.setCell (Below.setCell (Below.setCell (Below.setCell (Below.setCell h hB _) hB _) hB _) hB _) hB _) hB _
theorem map_load {w : World} {B : Nat} {x0 x1 x2 x3 x4 x5 : Value} (h : Bl w B [x0, x1, x2, x3, x4, x5]) : (loadVar 33 ⟨B, 0, none⟩).run Tryz.prog w = .ok (.agg #[x0, x1, x2, x3, x4, x5]) w := by
 refine run_loadVar_mid w B 0 33 [x0, x1, x2, x3, x4, x5] _ (fun j v hv => ?_) Tryz.underlying33 rfl (by kernel_rfl)
 rw [Nat.zero_add]
 exact h.c j v hv
theorem res_map {fn : Func} {i : Tmp} (hr : fn.results = #[.cell i 33]) (tmps : Array Value) (w : World) (B : Nat) {x0 x1 x2 x3 x4 x5 : Value} (hi : tmps.getD i undef = .pointer (some ⟨B, 0, none⟩)) (h : Bl w B [x0, x1, x2, x3, x4, x5]) : (results fn tmps).run Tryz.prog w = .ok (.agg #[x0, x1, x2, x3, x4, x5]) w := by
 have hp' : tmps[i]?.getD undef = .pointer (some ⟨B, 0, none⟩) := by simpa using hi
 simp [results, hr, hp', asAddr, map_load h]
/-- the cells of a map that is not made yet -/
abbrev z6 : List Value := [.int .u8 0, .complex .f64 0 0, .complex .f64 0 0, .complex .f64 0 0, .complex .f64 0 0, .float .f64 0]
end Ch
theorem isplace18 {x y : Nat} {g : Py.G} (hg : wC 1074 x y g) (hl : Py.Le g 1099511627776) (w : World) : Calls Tryz.prog 27 #[.complex .f64 x y] w fun e w' => e = .returned (.bool true) ∧ w' = w := by
 have A1 : Hid (∀ wz, Calls Tryz.prog 78 #[.float .f64 x, .float .f64 4787326403894837248] wz fun e w' => e = .returned (.bool true) ∧ w' = wz) := fun wz => by have q := within_any x 4787326403894837248 wz hg.1.1; rw [hg.1.within rfl hl.one.1] at q; exact q
 have A2 : Hid (∀ wz, Calls Tryz.prog 78 #[.float .f64 y, .float .f64 4787326403894837248] wz fun e w' => e = .returned (.bool true) ∧ w' = wz) := fun wz => by have q := within_any y 4787326403894837248 wz hg.2.1; rw [hg.2.within rfl hl.one.2] at q; exact q
 clear hg hl
 have P : Hid (∀ wz, Calls Tryz.prog 44 #[.complex .f64 x y, .float .f64 4787326403894837248] wz fun e w' => e = .returned (.bool true) ∧ w' = wz) := by
  intro wz
  go_enter Tryz.func44, Tryz.ntmps44
  go_wp2_with fail
  refine (A1.out _).mono ?_
  rintro e' w ⟨rfl, rfl⟩
  go_wp2_with fail
  refine (A2.out _).mono ?_
  rintro e' w ⟨rfl, rfl⟩
  go_wp2
  go_ret
  exact ⟨rfl, rfl⟩
 clear A1 A2
 go_enter Tryz.func27, Tryz.ntmps27
 go_wp2_with fail
 refine (P.out _).mono ?_
 rintro e' w ⟨rfl, rfl⟩
 go_wp2
 go_ret
 exact ⟨rfl, rfl⟩
theorem nought18 (x y : Nat) (w : World) : Calls Tryz.prog 40 #[.complex .f64 x y] w fun e w' => e = .returned (.bool (Fl.eqF x 0 && Fl.eqF y 0)) ∧ w' = w := by
 have o1 := Fl.o_eq x 0
 have o2 := Fl.o_eq y 0
 generalize Fl.eqF x 0 = p at *
 generalize Fl.eqF y 0 = q at *
 cases p
 ·
  go_enter Tryz.func40, Tryz.ntmps40
  go_wp2
  go_ret
  exact ⟨rfl, rfl⟩
 ·
  go_enter Tryz.func40, Tryz.ntmps40
  go_wp2
  go_ret
  exact ⟨rfl, rfl⟩
theorem isnought18 {x y : Nat} {g : Py.G} (hg : wC 1074 x y g) (w : World) : Calls Tryz.prog 40 #[.complex .f64 x y] w fun e w' => e = .returned (.bool (decide (g = (0, 0)))) ∧ w' = w := by
 have q := nought18 x y w
 rw [hg.1.eq (w_nought 1074), hg.2.eq (w_nought 1074)] at q
 rw [g_eq]
 exact q
end Go.Proofs.YtfgfofedacehiaaGreat

