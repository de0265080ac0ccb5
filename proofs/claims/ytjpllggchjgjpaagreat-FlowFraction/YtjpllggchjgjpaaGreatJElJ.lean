/-
 OWN TEXT: all that the law asks of an element of whole parts, kind by kind.
-/
import Derived.Test.YtjpllggchjgjpaaGreatJElHToElI
namespace Go.Proofs.YtjpllggchjgjpaaGreat
open Go.ChangeShapes Go.WideShapes Go.ChangeAt Go.RowKit
set_option linter.unusedVariables false
attribute [local go_sem] frombits_call tobits_call run_neg El.run_store_cx El.run_store_fl
/-- numbers of whole parts, moved likewise -/
structure El.Env (X1 Y1 X2 Y2 X3 Y3 X4 Y4 : Int) (a b s t x y u v a1 b1 x1 y1 dx dy : Nat) : Prop where
 ha : El.wP a X1
 hb : El.wP b Y1
 hs : El.wP s X2
 ht : El.wP t Y2
 hx : El.wP x X3
 hy : El.wP y Y3
 hu : El.wP u X4
 hv : El.wP v Y4
 ha1 : El.wP a1 (X1 + X4)
 hb1 : El.wP b1 (Y1 + Y4)
 hx1 : El.wP x1 (X3 + X4)
 hy1 : El.wP y1 (Y3 + Y4)
 hdx : El.wP dx (X3 - X1)
 hdy : El.wP dy (Y3 - Y1)
 n1 : X1.natAbs ≤ 1000 ∧ Y1.natAbs ≤ 1000
 n2 : X2.natAbs ≤ 1000 ∧ Y2.natAbs ≤ 1000
 n3 : X3.natAbs ≤ 1000 ∧ Y3.natAbs ≤ 1000
 n4 : X4.natAbs ≤ 1000 ∧ Y4.natAbs ≤ 1000
 ad : ∀ w, Calls Tryz.prog 78 #[.complex .f64 a b, .complex .f64 u v] w fun e w' => e = .returned (.complex .f64 a1 b1) ∧ w' = w
 az : ∀ w, Calls Tryz.prog 78 #[.complex .f64 x y, .complex .f64 u v] w fun e w' => e = .returned (.complex .f64 x1 y1) ∧ w' = w
 sd : ∀ w, Calls Tryz.prog 128 #[.complex .f64 x y, .complex .f64 a b] w fun e w' => e = .returned (.complex .f64 dx dy) ∧ w' = w
 se : ∀ w, Calls Tryz.prog 128 #[.complex .f64 x1 y1, .complex .f64 a1 b1] w fun e w' => e = .returned (.complex .f64 dx dy) ∧ w' = w
theorem place_P {a b : Nat} {m n : Int} (ha : El.wP a m) (hb : El.wP b n) (h1 : m.natAbs ≤ 100000) (h2 : n.natAbs ≤ 100000) : ∀ wz, Calls Tryz.prog 77 #[.complex .f64 a b] wz fun e w' => e = .returned (.bool true) ∧ w' = wz := by
 intro wz
 have h := eplace_any a b wz ha.lt hb.lt
 rw [ha.wi h1, hb.wi h2] at h
 exact h
theorem kn1 {a b s t p : Nat} {X1 Y1 X2 Y2 : Int} (ha : El.wP a X1) (hb : El.wP b Y1) (hs : El.wP s X2) (ht : El.wP t Y2) (n1 : X1.natAbs ≤ 100000 ∧ Y1.natAbs ≤ 100000) (n2 : X2.natAbs ≤ 100000 ∧ Y2.natAbs ≤ 100000) (hp : p < 18446744073709551616) (w : World) : Calls Tryz.prog 53 #[El.E 1 a b s t p] w fun e w' => e = .returned (.tuple #[if El.wi p && ((Fl.eqF a 0 && Fl.eqF b 0) && Fl.eqF p 0) then .iface 117 (El.E 1 a b s t p) else .nilIface, .int .i64 (if El.wi p then (if ((Fl.eqF a 0 && Fl.eqF b 0) && Fl.eqF p 0) then 0 else 150) else 5)]) ∧ Bw w w' := by
 have h := known1_q a b s t p true true (El.wi p) ((Fl.eqF a 0 && Fl.eqF b 0) && Fl.eqF p 0) w (place_P ha hb n1.1 n1.2) (place_P hs ht n2.1 n2.2) (fun wz => within_any p 4787326403894837248 wz hp) (fun _ _ wz => may1 a b s t p wz ha.lt hb.lt ha.nan hb.nan)
 simpa only [Bool.true_and] using h
theorem kn1_ok {a b s t p : Nat} {X1 Y1 X2 Y2 : Int} (ha : El.wP a X1) (hb : El.wP b Y1) (hs : El.wP s X2) (ht : El.wP t Y2) (n1 : X1.natAbs ≤ 100000 ∧ Y1.natAbs ≤ 100000) (n2 : X2.natAbs ≤ 100000 ∧ Y2.natAbs ≤ 100000) (hp : p < 18446744073709551616) (h1 : El.wi p = true) (h2 : ((Fl.eqF a 0 && Fl.eqF b 0) && Fl.eqF p 0) = true) (w : World) : Calls Tryz.prog 53 #[El.E 1 a b s t p] w fun e w' => e = .returned (.tuple #[.iface 117 (El.E 1 a b s t p), .int .i64 0]) ∧ Bw w w' := by
 have h := kn1 ha hb hs ht n1 n2 hp w
 rw [h1, h2] at h
 exact h
theorem kn3 {a b s t p : Nat} {X1 Y1 X2 Y2 : Int} (ha : El.wP a X1) (hb : El.wP b Y1) (hs : El.wP s X2) (ht : El.wP t Y2) (n1 : X1.natAbs ≤ 100000 ∧ Y1.natAbs ≤ 100000) (n2 : X2.natAbs ≤ 100000 ∧ Y2.natAbs ≤ 100000) (hp : p < 18446744073709551616) (w : World) : Calls Tryz.prog 53 #[El.E 3 a b s t p] w fun e w' => e = .returned (.tuple #[if El.wi p && (El.wh p && Fl.leF 4607182418800017408 p && Fl.leF p 4620693217682128896) then .iface 129 (El.E 3 a b s t p) else .nilIface, .int .i64 (if El.wi p then (if (El.wh p && Fl.leF 4607182418800017408 p && Fl.leF p 4620693217682128896) then 0 else 150) else 5)]) ∧ Bw w w' := by
 have h := known3_q a b s t p true true (El.wi p) (El.wh p && Fl.leF 4607182418800017408 p && Fl.leF p 4620693217682128896) w (place_P ha hb n1.1 n1.2) (place_P hs ht n2.1 n2.2) (fun wz => within_any p 4787326403894837248 wz hp) (fun _ q wz => may3 a b s t p wz hp (El.wi_nan q))
 simpa only [Bool.true_and] using h
theorem kn3_ok {a b s t p : Nat} {X1 Y1 X2 Y2 : Int} (ha : El.wP a X1) (hb : El.wP b Y1) (hs : El.wP s X2) (ht : El.wP t Y2) (n1 : X1.natAbs ≤ 100000 ∧ Y1.natAbs ≤ 100000) (n2 : X2.natAbs ≤ 100000 ∧ Y2.natAbs ≤ 100000) (hp : p < 18446744073709551616) (h1 : El.wi p = true) (h2 : (El.wh p && Fl.leF 4607182418800017408 p && Fl.leF p 4620693217682128896) = true) (w : World) : Calls Tryz.prog 53 #[El.E 3 a b s t p] w fun e w' => e = .returned (.tuple #[.iface 129 (El.E 3 a b s t p), .int .i64 0]) ∧ Bw w w' := by
 have h := kn3 ha hb hs ht n1 n2 hp w
 rw [h1, h2] at h
 exact h
theorem kn4 {a b s t p : Nat} {X1 Y1 X2 Y2 : Int} (ha : El.wP a X1) (hb : El.wP b Y1) (hs : El.wP s X2) (ht : El.wP t Y2) (n1 : X1.natAbs ≤ 100000 ∧ Y1.natAbs ≤ 100000) (n2 : X2.natAbs ≤ 100000 ∧ Y2.natAbs ≤ 100000) (hp : p < 18446744073709551616) (w : World) : Calls Tryz.prog 53 #[El.E 4 a b s t p] w fun e w' => e = .returned (.tuple #[if El.wi p && (Fl.leF 4598175219545276416 p && Fl.leF p 4616189618054758400) then .iface 118 (El.E 4 a b s t p) else .nilIface, .int .i64 (if El.wi p then (if (Fl.leF 4598175219545276416 p && Fl.leF p 4616189618054758400) then 0 else 150) else 5)]) ∧ Bw w w' := by
 have h := known4_q a b s t p true true (El.wi p) (Fl.leF 4598175219545276416 p && Fl.leF p 4616189618054758400) w (place_P ha hb n1.1 n1.2) (place_P hs ht n2.1 n2.2) (fun wz => within_any p 4787326403894837248 wz hp) (fun _ _ wz => may4 a b s t p wz)
 simpa only [Bool.true_and] using h
theorem kn4_ok {a b s t p : Nat} {X1 Y1 X2 Y2 : Int} (ha : El.wP a X1) (hb : El.wP b Y1) (hs : El.wP s X2) (ht : El.wP t Y2) (n1 : X1.natAbs ≤ 100000 ∧ Y1.natAbs ≤ 100000) (n2 : X2.natAbs ≤ 100000 ∧ Y2.natAbs ≤ 100000) (hp : p < 18446744073709551616) (h1 : El.wi p = true) (h2 : (Fl.leF 4598175219545276416 p && Fl.leF p 4616189618054758400) = true) (w : World) : Calls Tryz.prog 53 #[El.E 4 a b s t p] w fun e w' => e = .returned (.tuple #[.iface 118 (El.E 4 a b s t p), .int .i64 0]) ∧ Bw w w' := by
 have h := kn4 ha hb hs ht n1 n2 hp w
 rw [h1, h2] at h
 exact h
end Go.Proofs.YtjpllggchjgjpaaGreat

