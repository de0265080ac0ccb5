/-
 OWN TEXT: powers by squares, of small whole exponents: as functions of one row of bits a part.
-/
import Derived.Test.YtnjkdfhhlcoaaaaGreatJElA
import Derived.Test.YtnjkdfhhlcoaaaaGreatJXxAToXxH
import Derived.Test.YtnjkdfhhlcoaaaaGreatJEqBToEqE
import Derived.Test.YtnjkdfhhlcoaaaaGreatJFnWhole
import Derived.Test.YtnjkdfhhlcoaaaaGreatJBhL
import Derived.Laws.FloatArith
namespace Go.Proofs.YtnjkdfhhlcoaaaaGreat
open Go.ChangeShapes Go.WideShapes Go.ChangeAt Go.RowKit
set_option linter.unusedVariables false
attribute [local go_sem] frombits_call tobits_call run_neg
namespace El
end El
set_option maxRecDepth 1000000
end Go.Proofs.YtnjkdfhhlcoaaaaGreat

/-
 OWN TEXT: package element's small functions: places, noughts, whole powers, what is told; the kinds.
-/
namespace Go.Proofs.YtnjkdfhhlcoaaaaGreat
open Go.ChangeShapes Go.WideShapes Go.ChangeAt Go.RowKit
set_option linter.unusedVariables false
attribute [local go_sem] frombits_call tobits_call run_neg
namespace El
/-- is a float, without its sign, at most 2^40? -/
def wi (x : Nat) : Bool := Fl.withinB x 4787326403894837248
theorem wi_nan {x : Nat} (h : wi x = true) : Fl.nan x = false := by
 unfold wi Fl.withinB at h
 cases c : Fl.nan x with
 | false => rfl
 | true => rw [c] at h; cases h
/-- is a float whole? -/
def wh (p : Nat) : Bool := !Fl.nan p && Fl.eqF (Fl.whF p) p
/-- an element -/
def E (k : Int) (a b s t p : Nat) : Value := .agg #[.int .u8 k, .complex .f64 a b, .complex .f64 s t, .float .f64 p]
theorem run_store_cx {P : Program} {w : World} {a : Addr} {m : Mode} (x y : Nat) : (store a (.complex .f64 x y) m).run P w = stored P w a (.complex .f64 x y) m := run_store P w a _ m rfl
theorem run_store_fl {P : Program} {w : World} {a : Addr} {m : Mode} (x : Nat) : (store a (.float .f64 x) m).run P w = stored P w a (.float .f64 x) m := run_store P w a _ m rfl
end El
attribute [local go_sem] El.run_store_cx El.run_store_fl
theorem eplace_any (x y : Nat) (w : World) (hx : x < 18446744073709551616) (hy : y < 18446744073709551616) : Calls Tryz.prog 62 #[.complex .f64 x y] w fun e w' => e = .returned (.bool (El.wi x && El.wi y)) ∧ w' = w := by
 have A1 : Hid (∀ wz, Calls Tryz.prog 56 #[.float .f64 x, .float .f64 4787326403894837248] wz fun e w' => e = .returned (.bool (El.wi x)) ∧ w' = wz) := fun wz => within_any x 4787326403894837248 wz hx
 have A2 : Hid (∀ wz, Calls Tryz.prog 56 #[.float .f64 y, .float .f64 4787326403894837248] wz fun e w' => e = .returned (.bool (El.wi y)) ∧ w' = wz) := fun wz => within_any y 4787326403894837248 wz hy
 generalize El.wi x = p at *
 generalize El.wi y = q at *
 have P : Hid (∀ wz, Calls Tryz.prog 40 #[.complex .f64 x y, .float .f64 4787326403894837248] wz fun e w' => e = .returned (.bool (p && q)) ∧ w' = wz) := by
  intro wz
  cases p with
  | false =>
   go_enter Tryz.func40, Tryz.ntmps40
   go_wp2_with fail
   refine (A1.out _).mono ?_
   rintro e' w ⟨rfl, rfl⟩
   go_wp2
   go_ret
   exact ⟨rfl, rfl⟩
  | true =>
   cases q with
   | false =>
    go_enter Tryz.func40, Tryz.ntmps40
    go_wp2_with fail
    refine (A1.out _).mono ?_
    rintro e' w ⟨rfl, rfl⟩
    go_wp2_with fail
    refine (A2.out _).mono ?_
    rintro e' w ⟨rfl, rfl⟩
    go_wp2
    go_ret
    exact ⟨rfl, rfl⟩
   | true =>
    go_enter Tryz.func40, Tryz.ntmps40
    go_wp2_with fail
    refine (A1.out _).mono ?_
    rintro e' w ⟨rfl, rfl⟩
    go_wp2_with fail
    refine (A2.out _).mono ?_
    rintro e' w ⟨rfl, rfl⟩
    go_wp2
    go_ret
    exact ⟨rfl, rfl⟩
 clear A1 A2
 go_enter Tryz.func62, Tryz.ntmps62
 go_wp2_with fail
 refine (P.out _).mono ?_
 rintro e' w ⟨rfl, rfl⟩
 go_wp2
 go_ret
 exact ⟨rfl, rfl⟩
theorem alike0_any (x : Nat) (w : World) (hx : x < 18446744073709551616) (nx : Fl.nan x = false) : Calls Tryz.prog 27 #[.float .f64 x, .float .f64 0] w fun e w' => e = .returned (.bool (Fl.eqF x 0)) ∧ w' = w := by
 have o := Fl.o_eq x 0
 cases c : Fl.eqF x 0 with
 | true =>
  rw [c] at o
  clear c
  go_enter Tryz.func27, Tryz.ntmps27
  go_wp2
  go_ret
  exact ⟨rfl, rfl⟩
 | false =>
  rw [c] at o
  have S : Hid (∀ wz, Calls Tryz.prog 45 #[.float .f64 x, .float .f64 0] wz fun e w' => e = .returned (.bool false) ∧ w' = wz) := fun wz => by
   have m := same_any x 0 wz
   have hs : Fl.sameB x 0 = false := by
    cases q : Fl.sameB x 0 with
    | false => rfl
    | true =>
     exfalso
     have : x = 0 := by
      unfold Fl.sameB at q
      rw [nx] at q
      simp at q
      exact q.2
     rw [this] at c
     exact absurd c (by decide)
   rw [hs] at m
   exact m
  clear c nx
  go_enter Tryz.func27, Tryz.ntmps27
  go_wp2_with fail
  refine (S.out _).mono ?_
  rintro e' w ⟨rfl, rfl⟩
  go_wp2
  go_ret
  exact ⟨rfl, rfl⟩
theorem enought_any (x y : Nat) (w : World) (hx : x < 18446744073709551616) (hy : y < 18446744073709551616) (nx : Fl.nan x = false) (ny : Fl.nan y = false) : Calls Tryz.prog 123 #[.complex .f64 x y] w fun e w' => e = .returned (.bool (Fl.eqF x 0 && Fl.eqF y 0)) ∧ w' = w := by
 have A1 := El.hid (fun wz => alike0_any x wz hx nx)
 have A2 := El.hid (fun wz => alike0_any y wz hy ny)
 generalize Fl.eqF x 0 = p at *
 generalize Fl.eqF y 0 = q at *
 have P : Hid (∀ wz, Calls Tryz.prog 12 #[.complex .f64 x y, .complex .f64 0 0] wz fun e w' => e = .returned (.bool (p && q)) ∧ w' = wz) := by
  intro wz
  cases p with
  | false =>
   go_enter Tryz.func12, Tryz.ntmps12
   go_wp2_with fail
   refine (A1.out _).mono ?_
   rintro e' w ⟨rfl, rfl⟩
   go_wp2
   go_ret
   exact ⟨rfl, rfl⟩
  | true =>
   cases q with
   | false =>
    go_enter Tryz.func12, Tryz.ntmps12
    go_wp2_with fail
    refine (A1.out _).mono ?_
    rintro e' w ⟨rfl, rfl⟩
    go_wp2_with fail
    refine (A2.out _).mono ?_
    rintro e' w ⟨rfl, rfl⟩
    go_wp2
    go_ret
    exact ⟨rfl, rfl⟩
   | true =>
    go_enter Tryz.func12, Tryz.ntmps12
    go_wp2_with fail
    refine (A1.out _).mono ?_
    rintro e' w ⟨rfl, rfl⟩
    go_wp2_with fail
    refine (A2.out _).mono ?_
    rintro e' w ⟨rfl, rfl⟩
    go_wp2
    go_ret
    exact ⟨rfl, rfl⟩
 clear A1 A2
 go_enter Tryz.func123, Tryz.ntmps123
 go_wp2_with fail
 refine (P.out _).mono ?_
 rintro e' w ⟨rfl, rfl⟩
 go_wp2
 go_ret
 exact ⟨rfl, rfl⟩
theorem ewhole_any (p : Nat) (w : World) (hp : p < 18446744073709551616) (np : Fl.nan p = false) : Calls Tryz.prog 135 #[.float .f64 p] w fun e w' => e = .returned (.bool (El.wh p)) ∧ w' = w := by
 have A1 := El.hid (fun wz => whole_num p wz np)
 have o := Fl.o_eq (Fl.whF p) p
 have ho : Hid (El.wh p = Fl.eqF (Fl.whF p) p) := by unfold El.wh; show _ = _; rw [np]; rfl
 rw [← ho.out] at o
 clear ho np
 generalize El.wh p = q at *
 generalize Fl.whF p = u at *
 go_enter Tryz.func135, Tryz.ntmps135
 go_wp2_with fail
 refine (A1.out _).mono ?_
 rintro e' w ⟨rfl, rfl⟩
 go_wp2
 go_ret
 exact ⟨rfl, rfl⟩
theorem kindof1 (a b s t p : Nat) (w : World) : Calls Tryz.prog 61 #[El.E 1 a b s t p] w fun e w' => e = .returned (.tuple #[.iface 105 (El.E 1 a b s t p), .bool true]) ∧ Bw w w' := by
 unfold El.E
 go_enter Tryz.func61, Tryz.ntmps61
 go_wp2
 go_ret2
 exact ⟨rfl, Below.alloc (Bw.refl w) (Nat.le_refl _) _⟩
theorem kindof3 (a b s t p : Nat) (w : World) : Calls Tryz.prog 61 #[El.E 3 a b s t p] w fun e w' => e = .returned (.tuple #[.iface 107 (El.E 3 a b s t p), .bool true]) ∧ Bw w w' := by
 unfold El.E
 go_enter Tryz.func61, Tryz.ntmps61
 go_wp2
 go_ret2
 exact ⟨rfl, Below.alloc (Bw.refl w) (Nat.le_refl _) _⟩
theorem kindof4 (a b s t p : Nat) (w : World) : Calls Tryz.prog 61 #[El.E 4 a b s t p] w fun e w' => e = .returned (.tuple #[.iface 108 (El.E 4 a b s t p), .bool true]) ∧ Bw w w' := by
 unfold El.E
 go_enter Tryz.func61, Tryz.ntmps61
 go_wp2
 go_ret2
 exact ⟨rfl, Below.alloc (Bw.refl w) (Nat.le_refl _) _⟩
end Go.Proofs.YtnjkdfhhlcoaaaaGreat

/-
 OWN TEXT: package element: which elements may be; what the methods of the four kinds return, as functions of one row of bits a part.
-/
namespace Go.Proofs.YtnjkdfhhlcoaaaaGreat
open Go.ChangeShapes Go.WideShapes Go.ChangeAt Go.RowKit
set_option linter.unusedVariables false
attribute [local go_sem] frombits_call tobits_call run_neg El.run_store_cx El.run_store_fl
namespace El
/-- an element lies at a block -/
structure St (w : World) (B : Nat) (k : Int) (a b s t p : Nat) : Prop where
 lt : B < w.heap.size
 c0 : w.cell? ⟨B, 0, none⟩ = some (.int .u8 k)
 c1 : w.cell? ⟨B, 1, none⟩ = some (.complex .f64 a b)
 c2 : w.cell? ⟨B, 2, none⟩ = some (.complex .f64 s t)
 c3 : w.cell? ⟨B, 3, none⟩ = some (.float .f64 p)
theorem St.bw {w w' : World} {B : Nat} {k : Int} {a b s t p : Nat} (h : St w B k a b s t p) (g : Bw w w') : St w' B k a b s t p :=
 ⟨Nat.lt_of_lt_of_le h.lt g.size, (Below.cell g (p := ⟨B, 0, none⟩) h.lt).trans h.c0, (Below.cell g (p := ⟨B, 1, none⟩) h.lt).trans h.c1, (Below.cell g (p := ⟨B, 2, none⟩) h.lt).trans h.c2, (Below.cell g (p := ⟨B, 3, none⟩) h.lt).trans h.c3⟩
theorem St.new (w : World) (k : Int) (a b s t p : Nat) (T : TypeId) : St (w.alloc (.cells #[.int .u8 k, .complex .f64 a b, .complex .f64 s t, .float .f64 p] T)) w.heap.size k a b s t p :=
 ⟨by simp, by simp, by simp, by simp, by simp⟩
theorem bw_new (w : World) (o : Obj) : Bw w (w.alloc o) := Below.alloc (Bw.refl w) (Nat.le_refl _) _
/-- 1 / (2 * H) -/
def H1 : Nat := 4594902181429758083
end El
set_option maxHeartbeats 4000000 in
theorem may1 (a b s t p : Nat) (w : World) (ha : a < 18446744073709551616) (hb : b < 18446744073709551616) (na : Fl.nan a = false) (nb : Fl.nan b = false) : Calls Tryz.prog 119 #[El.E 1 a b s t p] w fun e w' => e = .returned (.bool ((Fl.eqF a 0 && Fl.eqF b 0) && Fl.eqF p 0)) ∧ Bw w w' := by
 have A1 := El.hid (fun wz => enought_any a b wz ha hb na nb)
 have o := Fl.o_eq p 0
 clear na nb
 generalize (Fl.eqF a 0 && Fl.eqF b 0) = q at *
 generalize Fl.eqF p 0 = r at *
 have G := El.bw_new w (.cells #[.int .u8 1, .complex .f64 a b, .complex .f64 s t, .float .f64 p] 105)
 unfold El.E
 cases q
 ·
  go_enter Tryz.func119, Tryz.ntmps119
  go_wp2_with fail
  refine (A1.out _).mono ?_
  rintro e' w1 ⟨rfl, hw⟩
  subst hw
  go_wp2
  go_ret
  exact ⟨rfl, G⟩
 ·
  go_enter Tryz.func119, Tryz.ntmps119
  go_wp2_with fail
  refine (A1.out _).mono ?_
  rintro e' w1 ⟨rfl, hw⟩
  subst hw
  go_wp2
  go_ret
  exact ⟨rfl, G⟩
set_option maxHeartbeats 4000000 in
theorem may3 (a b s t p : Nat) (w : World) (hp : p < 18446744073709551616) (np : Fl.nan p = false) : Calls Tryz.prog 131 #[El.E 3 a b s t p] w fun e w' => e = .returned (.bool (El.wh p && Fl.leF 4607182418800017408 p && Fl.leF p 4620693217682128896)) ∧ Bw w w' := by
 have A1 := El.hid (fun wz => ewhole_any p wz hp np)
 have o := Fl.o_ge p 4607182418800017408
 have o' := Fl.o_le p 4620693217682128896
 clear np hp
 generalize El.wh p = q at *
 generalize Fl.leF 4607182418800017408 p = r at *
 generalize Fl.leF p 4620693217682128896 = r' at *
 have G := El.bw_new w (.cells #[.int .u8 3, .complex .f64 a b, .complex .f64 s t, .float .f64 p] 107)
 unfold El.E
 cases q <;> cases r
 ·
  go_enter Tryz.func131, Tryz.ntmps131
  go_wp2_with fail
  refine (A1.out _).mono ?_
  rintro e' w1 ⟨rfl, hw⟩
  subst hw
  go_wp2
  go_ret
  exact ⟨rfl, G⟩
 ·
  go_enter Tryz.func131, Tryz.ntmps131
  go_wp2_with fail
  refine (A1.out _).mono ?_
  rintro e' w1 ⟨rfl, hw⟩
  subst hw
  go_wp2
  go_ret
  exact ⟨rfl, G⟩
 ·
  go_enter Tryz.func131, Tryz.ntmps131
  go_wp2_with fail
  refine (A1.out _).mono ?_
  rintro e' w1 ⟨rfl, hw⟩
  subst hw
  go_wp2
  go_ret
  exact ⟨rfl, G⟩
 ·
  go_enter Tryz.func131, Tryz.ntmps131
  go_wp2_with fail
  refine (A1.out _).mono ?_
  rintro e' w1 ⟨rfl, hw⟩
  subst hw
  go_wp2
  go_ret
  exact ⟨rfl, G⟩
set_option maxHeartbeats 4000000 in
theorem may4 (a b s t p : Nat) (w : World) : Calls Tryz.prog 139 #[El.E 4 a b s t p] w fun e w' => e = .returned (.bool (Fl.leF 4598175219545276416 p && Fl.leF p 4616189618054758400)) ∧ Bw w w' := by
 have o := Fl.o_ge p 4598175219545276416
 have o' := Fl.o_le p 4616189618054758400
 generalize Fl.leF 4598175219545276416 p = r at *
 generalize Fl.leF p 4616189618054758400 = r' at *
 have G := El.bw_new w (.cells #[.int .u8 4, .complex .f64 a b, .complex .f64 s t, .float .f64 p] 108)
 unfold El.E
 cases r
 ·
  go_enter Tryz.func139, Tryz.ntmps139
  go_wp2
  go_ret
  exact ⟨rfl, G⟩
 ·
  go_enter Tryz.func139, Tryz.ntmps139
  go_wp2
  go_ret
  exact ⟨rfl, G⟩
end Go.Proofs.YtnjkdfhhlcoaaaaGreat

/-
 OWN TEXT: package element: what the methods of doublets and corners return, as functions of one row of bits a part.
-/
namespace Go.Proofs.YtnjkdfhhlcoaaaaGreat
open Go.ChangeShapes Go.WideShapes Go.ChangeAt Go.RowKit
set_option linter.unusedVariables false
attribute [local go_sem] frombits_call tobits_call run_neg El.run_store_cx El.run_store_fl
end Go.Proofs.YtnjkdfhhlcoaaaaGreat

