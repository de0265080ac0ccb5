/-
 OWN TEXT: sines, cosines, quarters, angles of floats: what the chapter's steps come to.
-/
import Derived.Test.YtjpllggchjgjpaaGreatJFnWholeToEqA
namespace Go.Proofs.YtjpllggchjgjpaaGreat
open Go.ChangeShapes Go.WideShapes Go.ChangeAt Go.RowKit
set_option linter.unusedVariables false
theorem isMul : isOp .mul := Or.inr (Or.inr (Or.inl rfl))
theorem isQuo : isOp .quo := Or.inr (Or.inr (Or.inr rfl))
theorem isSub : isOp .sub := Or.inr (Or.inl rfl)
theorem isAdd : isOp .add := Or.inl rfl
/-- the sine's rounds: k from 9 down -/
def sinQ (z : Nat) : Nat → Nat → Prop
 | 0, t => t = 4607182418800017408
 | i + 1, t' => ∃ t d p, sinQ z i t ∧ opR .quo z (floatOfInt .f64 (2 * (9 - (i : Int)) * (2 * (9 - (i : Int)) + 1))) d ∧ opR .mul d t p ∧ opR .sub 4607182418800017408 p t'
def cosQ (z : Nat) : Nat → Nat → Prop
 | 0, t => t = 4607182418800017408
 | i + 1, t' => ∃ t d p, cosQ z i t ∧ opR .quo z (floatOfInt .f64 ((2 * (9 - (i : Int)) - 1) * (2 * (9 - (i : Int))))) d ∧ opR .mul d t p ∧ opR .sub 4607182418800017408 p t'
def sinR (y s : Nat) : Prop := ∃ z t, opR .mul y y z ∧ sinQ z 9 t ∧ opR .mul y t s
def cosR (y c : Nat) : Prop := ∃ z, opR .mul y y z ∧ cosQ z 9 c
/-- x less m times three pieces -/
def lesR (x m a b c y : Nat) : Prop := ∃ p d q e r, opR .mul m a p ∧ opR .sub x p d ∧ opR .mul m b q ∧ opR .sub d q e ∧ opR .mul m c r ∧ opR .sub e r y
/-- m: how often a float goes into x, whole -/
def folR (x c n : Nat) : Prop := ∃ p, opR .mul x c p ∧ whR p n
def fitB (x : Nat) : Bool := Fl.leF (Fl.rg x) 4697254411347427328
/-- x less whole quarters, and how many -/
def quaR (x y : Nat) (n : Int) : Prop := y < 18446744073709551616 ∧
 if fitB x = true then ∃ m, folR x 4603909380684499075 m ∧ if Fl.eqF m 0 = true then y = x ∧ n = 0 else lesR x m 4609753056924401664 4454258360616747008 4297306550709518336 y ∧ ∃ q, floatToIntVal .f64 m .i64 = some q ∧ n = q % 4
 else Fl.nan y = true ∧ n = 0
/-- sine and cosine by their quarter -/
def turnAt (n : Int) (s c a b : Nat) : Prop := (n = 0 ∧ a = s ∧ b = c) ∨ (n = 1 ∧ a = c ∧ b = Fl.ng s) ∨ (n = 2 ∧ a = Fl.ng s ∧ b = Fl.ng c) ∨ (n = 3 ∧ a = Fl.ng c ∧ b = s)
def turR (x a b : Nat) : Prop := a < 18446744073709551616 ∧ b < 18446744073709551616 ∧ if fitB x = true then ∃ y n s c, quaR x y n ∧ sinR y s ∧ cosR y c ∧ turnAt n s c a b else Fl.nan a = true ∧ Fl.nan b = true
/-- the angle's rounds: k from 24 down -/
def angQ (z : Nat) : Nat → Nat → Prop
 | 0, t => t = 0
 | i + 1, t' => ∃ t d p, angQ z i t ∧ opR .quo 4607182418800017408 (floatOfInt .f64 (2 * (24 - (i : Int)) + 1)) d ∧ opR .mul z t p ∧ opR .sub d p t'
def angU (u v : Nat) : Prop := ∃ z s, opR .mul u u z ∧ angQ z 25 s ∧ opR .mul u s v
def angR (t v : Nat) : Prop := if Fl.ltF 4601130706800738304 t = true then ∃ a b u w x, opR .sub t 4607182418800017408 a ∧ opR .add t 4607182418800017408 b ∧ opR .quo a b u ∧ angU u w ∧ opR .add w 4359948597267291143 x ∧ opR .add 4605249457297304856 x v else angU t v
/-- the angle of a place to the right and above, of parts p up and q right -/
def basR (p q b : Nat) : Prop := if p = 0 then b = 0 else if p = 9218868437227405312 ∧ q = 9218868437227405312 then b = 4605249457297304856 else if Fl.leF p q = true then ∃ t, opR .quo p q t ∧ angR t b
 else ∃ t v d, opR .quo q p t ∧ angR t v ∧ opR .sub v 4364452196894661639 d ∧ opR .sub 4609753056924675352 d b
def sidR (x b r : Nat) : Prop := if Fl.sg x = true then ∃ d, opR .sub b 4368955796522032135 d ∧ opR .sub 4614256656552045848 d r else r = b
/-- the angle of a place -/
def offR (y x r : Nat) : Prop := if (Fl.nan y || Fl.nan x) = true then Fl.nan r = true else ∃ b s, basR (Fl.rg y) (Fl.rg x) b ∧ sidR x b s ∧ r = if Fl.sg y = true then Fl.ng s else s
end Go.Proofs.YtjpllggchjgjpaaGreat

