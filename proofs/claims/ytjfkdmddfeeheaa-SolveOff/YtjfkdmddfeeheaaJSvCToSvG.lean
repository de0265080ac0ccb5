/-
  OWN TEXT: package solve, of floats: the five functions, which lists are finite.
-/
import Derived.Test.YtjfkdmddfeeheaaJSvB
import Derived.Laws.Rows
import Derived.Test.YtjfkdmddfeeheaaJBhAToBhB
namespace Go.Proofs.Ytjfkdmddfeeheaa
open Go.ChangeShapes Go.WideShapes Go.ChangeAt Go.RowKit
set_option linter.unusedVariables false
attribute [local go_sem] frombits_call tobits_call run_neg

theorem times14 (a b : Nat) (w : World) : Calls Try.prog 70 #[.float .f64 a, .float .f64 b] w fun e w' => ∃ x, e = .returned (.float .f64 x) ∧ (x < 18446744073709551616 ∧ Fl.bitsF x = Sv.op .mul (Fl.bitsF a) (Fl.bitsF b)) ∧ Bw w w' := by
  obtain ⟨x, w1, hx, hc, e1, b1⟩ := Sv.run Sv.iMul a b w
  have H : Hid (x < 18446744073709551616 ∧ Fl.bitsF x = Sv.op .mul (Fl.bitsF a) (Fl.bitsF b)) := ⟨hx, hc⟩
  clear hx hc
  go_enter Try.func70, Try.ntmps70
  go_wp2
  go_ret
  exact ⟨x, rfl, H.out, b1⟩
theorem over14 (a b : Nat) (w : World) : Calls Try.prog 71 #[.float .f64 a, .float .f64 b] w fun e w' => ∃ x, e = .returned (.float .f64 x) ∧ (x < 18446744073709551616 ∧ Fl.bitsF x = Sv.op .quo (Fl.bitsF a) (Fl.bitsF b)) ∧ Bw w w' := by
  obtain ⟨x, w1, hx, hc, e1, b1⟩ := Sv.run Sv.iQuo a b w
  have H : Hid (x < 18446744073709551616 ∧ Fl.bitsF x = Sv.op .quo (Fl.bitsF a) (Fl.bitsF b)) := ⟨hx, hc⟩
  clear hx hc
  go_enter Try.func71, Try.ntmps71
  go_wp2
  go_ret
  exact ⟨x, rfl, H.out, b1⟩
theorem nought14 (x : Nat) (w : World) : Calls Try.prog 72 #[.float .f64 x] w fun e w' => e = .returned (.bool (Sv.nought x)) ∧ w' = w := by
  go_enter Try.func72, Try.ntmps72
  go_wp2
  go_ret
  exact ⟨rb (by rw [Fl.o_eq]; exact Sv.nought_eqF x), rfl⟩
theorem pfinite14 (x y : Nat) (w : World) (hx : x < 18446744073709551616) (hy : y < 18446744073709551616) : Calls Try.prog 74 #[.complex .f64 x y] w fun e w' => e = .returned (.bool (Fl.finB x && Fl.finB y)) ∧ w' = w := by
  have F : Hid (∀ x wz, x < 18446744073709551616 → Calls Try.prog 103 #[.float .f64 x] wz fun e w' => e = .returned (.bool (Fl.finB x)) ∧ w' = wz) := fun x wz h => finite_any x wz h
  cases c : Fl.finB x
  · go_enter Try.func74, Try.ntmps74
    go_wp2_with fail
    refine (F.out _ _ hx).mono ?_
    rintro e w ⟨rfl, rfl⟩
    rw [c]
    go_wp2
    go_ret
    exact ⟨rfl, rfl⟩
  · go_enter Try.func74, Try.ntmps74
    go_wp2_with fail
    refine (F.out _ _ hx).mono ?_
    rintro e w ⟨rfl, rfl⟩
    rw [c]
    go_wp2_with fail
    refine (F.out _ _ hy).mono ?_
    rintro e w ⟨rfl, rfl⟩
    go_wp2
    go_ret
    exact ⟨by simp, rfl⟩
theorem isfin14 (x : Nat) (w : World) (hx : x < 18446744073709551616) : Calls Try.prog 73 #[.float .f64 x] w fun e w' => e = .returned (.bool (Fl.finB x)) ∧ w' = w := by
  have P := Sv.hid (pfinite14 x 0 w hx (by decide))
  go_enter Try.func73, Try.ntmps73
  go_wp2_with fail
  refine P.out.mono ?_
  rintro e w ⟨rfl, rfl⟩
  clear P
  go_wp2
  go_ret
  exact ⟨rb (by rw [show Fl.finB 0 = true by decide, Bool.and_true]), rfl⟩
theorem store14 {P : Program} {w : World} {a : Addr} {m : Mode} (f : Fn) (x y : Array Value) : (store a (.func f x y) m).run P w = stored P w a (.func f x y) m := run_store P w a _ m rfl
attribute [local go_sem] store14
theorem floats14 (w : World) : Calls Try.prog 40 #[] w fun e w' => e = .returned (.agg #[.func (.func 70) #[] #[], .func (.func 71) #[] #[], .func (.func 31) #[] #[], .func (.func 72) #[] #[], .func (.func 73) #[] #[]]) ∧ Bw w w' := by
  go_enter Try.func40, Try.ntmps40
  go_wp2
  (try simp only [Exit.inBlock, Exit.then])
  refine bodyPost_ret (results_cell_row rfl _ _ w.heap.size _ _ _ _ rfl (heap_alloc_new _ _) Try.underlying73 rfl (by kernel_rfl)) rfl ?_
  exact ⟨rfl, Below.alloc (Bw.refl w) (Nat.le_refl _) _⟩
end Go.Proofs.Ytjfkdmddfeeheaa
/-
  OWN TEXT: package solve, of floats: which lists are finite.
-/
namespace Go.Proofs.Ytjfkdmddfeeheaa
open Go.ChangeShapes Go.WideShapes Go.ChangeAt Go.RowKit
set_option linter.unusedVariables false
attribute [local go_sem] frombits_call tobits_call run_neg

namespace Sv
/-- the box of the five functions -/
def Bx (w : World) (C : Nat) : Prop := C < w.heap.size ∧ w.cell? ⟨C, 0, none⟩ = some (.func (.func 70) #[] #[]) ∧ w.cell? ⟨C, 1, none⟩ = some (.func (.func 71) #[] #[]) ∧ w.cell? ⟨C, 2, none⟩ = some (.func (.func 31) #[] #[]) ∧ w.cell? ⟨C, 3, none⟩ = some (.func (.func 72) #[] #[]) ∧ w.cell? ⟨C, 4, none⟩ = some (.func (.func 73) #[] #[])
theorem Bx.made (w : World) : Bx (w.alloc (.cells #[.func (.func 70) #[] #[], .func (.func 71) #[] #[], .func (.func 31) #[] #[], .func (.func 72) #[] #[], .func (.func 73) #[] #[]] 73)) w.heap.size := ⟨by simp, by simp, by simp, by simp, by simp, by simp⟩
theorem Bx.block {w w' : World} {C : Nat} (h : Bx w C) (hs : w.heap.size ≤ w'.heap.size) (k : w'.heap[C]? = w.heap[C]?) : Bx w' C := by
  obtain ⟨h0, h1, h2, h3, h4, h5⟩ := h
  have c := fun (j : Nat) => World.cell?_of_block (w := w) (w' := w') (a := ⟨C, j, none⟩) k
  exact ⟨by omega, (c 0).trans h1, (c 1).trans h2, (c 2).trans h3, (c 3).trans h4, (c 4).trans h5⟩
theorem Bx.bw {w w' : World} {C : Nat} (h : Bx w C) (k : Bw w w') : Bx w' C := h.block k.size (k.block C h.1)
theorem Bx.gb {w w' : World} {C : Nat} {r : Option Nat} (h : Bx w C) (k : w.grownBy w' r) (hr : some C ≠ r) : Bx w' C := h.block k.size (k.block C h.1 hr)
theorem bw_new (w : World) (x : Obj) : Bw w (w.alloc x) := Below.alloc (Bw.refl w) (Nat.le_refl _) _
/-- are the first n of them finite? -/
def fin (F : Nat → Nat) (n : Nat) : Prop := ∀ j, j < n → Fl.finB (F j) = true
instance (F : Nat → Nat) (n : Nat) : Decidable (fin F n) := Nat.decidableBallLT n fun j _ => Fl.finB (F j) = true
end Sv
theorem arefin14 {w : World} {v : Value} {n : Nat} {F : Nat → Nat} (h : Sv.Ls w v n F) (hn : n < 1000000) : Calls Try.prog 69 #[(.agg #[.func (.func 70) #[] #[], .func (.func 71) #[] #[], .func (.func 31) #[] #[], .func (.func 72) #[] #[], .func (.func 73) #[] #[]]), v] w fun e w' => e = .returned (.bool (decide (Sv.fin F n))) ∧ Bw w w' := by
  have hb := Sv.Bx.made w
  have b0 := Sv.bw_new w (.cells #[.func (.func 70) #[] #[], .func (.func 71) #[] #[], .func (.func 31) #[] #[], .func (.func 72) #[] #[], .func (.func 73) #[] #[]] 73)
  rcases h with ⟨⟨p0, c0, rfl, hp0⟩, rfl⟩ | ⟨b, o, c, rfl, hc, h⟩
  · have z : decide (Sv.fin F 0) = true := decide_eq_true (fun j hj => absurd hj (by omega))
    rw [z]
    go_enter Try.func69, Try.ntmps69
    go_wp2
    go_loopw [9] (fun i wr => i = .int .i64 0 ∧ Bw w wr) (fun i _ => 0)
    case atStart => exact ⟨rfl, b0⟩
    case round =>
      obtain ⟨rfl, hbw⟩ := hrel
      go_wp2
      go_ret
      exact ⟨rfl, hbw⟩
  · have H := Sv.hid h
    have HB := Sv.hid hb
    clear h hb
    go_enter Try.func69, Try.ntmps69
    go_wp2
    generalize w.heap.size = C at *
    go_loopw [9] (fun i wr => ∃ k : Nat, k ≤ n ∧ i = .int .i64 k ∧ Sv.fin F k ∧ Sv.Bx wr C ∧ Bw w wr) (fun i _ => n - (intOf i).toNat)
    case atStart => exact ⟨0, Nat.zero_le _, rfl, fun j hj => absurd hj (by omega), HB.out, b0⟩
    case round =>
      obtain ⟨k, hk, rfl, hf, hbx, hbw⟩ := hrel
      have HF := Sv.hid hf
      have HX := Sv.hid hbx
      clear hf HB
      by_cases hk1 : k < n
      · obtain ⟨x, e, hx, q⟩ := (H.out.bw hbw).2 k hk1
        have c5 := hbx.2.2.2.2.2
        have hk2 : (k : Int) < n := by omega
        clear hbx
        have Q := Sv.hid q
        clear q
        cases z : Fl.finB x
        · have z2 : decide (Sv.fin F n) = false := decide_eq_false (fun g => by have := g k hk1; rw [← Q.out, Sv.fin_c, z] at this; cases this)
          have Z2 := Sv.hid z2
          clear z2
          go_wp2_with fail
          refine (isfin14 x _ hx).mono ?_
          rintro e' w1 ⟨rfl, rfl⟩
          rw [z]
          go_wp2
          go_ret
          exact ⟨rb Z2.out.symm, hbw⟩
        · go_wp2_with fail
          refine (isfin14 x _ hx).mono ?_
          rintro e' w1 ⟨rfl, rfl⟩
          rw [z]
          go_wp2
          go_roundw
          case rel =>
            refine ⟨k + 1, by omega, by simp, fun j hj => ?_, HX.out, hbw⟩
            by_cases y : j = k
            · subst y; rw [← Q.out, Sv.fin_c, z]
            · exact HF.out j (by omega)
          case measure => simp [intOf]; omega
      · have hk3 : k = n := by omega
        subst hk3
        have z2 : decide (Sv.fin F k) = true := decide_eq_true HF.out
        have Z2 := Sv.hid z2
        clear z2
        go_wp2
        go_ret
        exact ⟨rb Z2.out.symm, hbw⟩
end Go.Proofs.Ytjfkdmddfeeheaa
/-
  OWN TEXT: package solve, of floats: what is wrong with a system, and with lists beside it.
-/
namespace Go.Proofs.Ytjfkdmddfeeheaa
open Go.ChangeShapes Go.WideShapes Go.ChangeAt Go.RowKit
set_option linter.unusedVariables false
attribute [local go_sem] frombits_call tobits_call run_neg

namespace Sv
/-- what is wrong with a system -/
def chk (n : Nat) (l : Nat → Nat) (A : M) : Int := if n < 1 ∨ 128 < n then 4 else if ∀ i, i < n → l i = n then (if ∀ i, i < n → fin (A i) n then 0 else 5) else 140
/-- with a list beside it -/
def chkL (n m : Nat) (B : Nat → Nat) : Int := if m = n then (if fin B n then 0 else 5) else 140
/-- with q lists, from the left -/
def chkB (n : Nat) (l : Nat → Nat) (B : M) : Nat → Int
  | 0 => 0
  | q + 1 => if chkB n l B q = 0 then chkL n (l q) (B q) else chkB n l B q
def chkA (n : Nat) (l : Nat → Nat) (A : M) (q : Nat) (lb : Nat → Nat) (B : M) : Int := if chk n l A = 0 then chkB n lb B q else chk n l A
theorem chk_many {n : Nat} {l : Nat → Nat} {A : M} (h : n < 1 ∨ 128 < n) : chk n l A = 4 := by unfold chk; rw [if_pos h]
theorem chk_shape {n : Nat} {l : Nat → Nat} {A : M} (h : ¬ (n < 1 ∨ 128 < n)) {k : Nat} (hk : k < n) (hl : l k ≠ n) : chk n l A = 140 := by unfold chk; rw [if_neg h, if_neg (fun g => hl (g k hk))]
theorem chk_real {n : Nat} {l : Nat → Nat} {A : M} (h : ¬ (n < 1 ∨ 128 < n)) (hl : ∀ i, i < n → l i = n) {k : Nat} (hk : k < n) (hf : ¬ fin (A k) n) : chk n l A = 5 := by unfold chk; rw [if_neg h, if_pos hl, if_neg (fun g => hf (g k hk))]
theorem chk_ok {n : Nat} {l : Nat → Nat} {A : M} (h : ¬ (n < 1 ∨ 128 < n)) (hl : ∀ i, i < n → l i = n) (hf : ∀ i, i < n → fin (A i) n) : chk n l A = 0 := by unfold chk; rw [if_neg h, if_pos hl, if_pos hf]
theorem chkA_no {n : Nat} {l : Nat → Nat} {A : M} {q : Nat} {lb : Nat → Nat} {B : M} {e : Int} (h : chk n l A = e) (he : e ≠ 0) : chkA n l A q lb B = e := by unfold chkA; rw [h, if_neg he]
theorem chkA_yes {n : Nat} {l : Nat → Nat} {A : M} {q : Nat} {lb : Nat → Nat} {B : M} (h : chk n l A = 0) : chkA n l A q lb B = chkB n lb B q := by unfold chkA; rw [if_pos h]
theorem chkB_no {n : Nat} {lb : Nat → Nat} {B : M} : ∀ {q k : Nat}, k < q → chkB n lb B k = 0 → ∀ {e : Int}, chkL n (lb k) (B k) = e → e ≠ 0 → chkB n lb B q = e
  | 0, _, h, _, _, _, _ => absurd h (by omega)
  | q + 1, k, h, h0, e, he, hn => by
    by_cases z : k = q
    · subst z; unfold chkB; rw [if_pos h0, he]
    · unfold chkB
      rw [chkB_no (q := q) (by omega) h0 he hn, if_neg hn]
theorem fin_ext {F : Nat → Nat} {m n : Nat} (e : m = n) : decide (fin F m) = decide (fin F n) := by rw [e]
end Sv
set_option maxHeartbeats 4000000 in
theorem check14 {w : World} {va vb : Value} {n q : Nat} {l lb : Nat → Nat} {A B : Sv.M} (ha : Sv.Lm w va n l A) (hb : Sv.Lm w vb q lb B) (hn : n < 1000000) (hq : q < 1000000) : Calls Try.prog 41 #[(.agg #[.func (.func 70) #[] #[], .func (.func 71) #[] #[], .func (.func 31) #[] #[], .func (.func 72) #[] #[], .func (.func 73) #[] #[]]), va, vb] w fun e w' => e = .returned (.int .i64 (Sv.chkA n l A q lb B)) ∧ Bw w w' := by
  have b0 := Sv.bw_new w (.cells #[.func (.func 70) #[] #[], .func (.func 71) #[] #[], .func (.func 31) #[] #[], .func (.func 72) #[] #[], .func (.func 73) #[] #[]] 73)
  have HX := Sv.hid (Sv.Bx.made w)
  by_cases hm : n < 1 ∨ 128 < n
  · have Z := Sv.hid (Sv.chkA_no (q := q) (lb := lb) (B := B) (Sv.chk_many (l := l) (A := A) hm) (by decide))
    rcases ha with ⟨⟨p0, c0, rfl, hp0⟩, rfl⟩ | ⟨b, o, c, rfl, hc, _, h⟩
    · go_enter Try.func41, Try.ntmps41
      go_wp2
      go_ret
      exact ⟨ri Z.out.symm, b0⟩
    · clear h hb
      rcases hm with hm | hm
      · have hm1 : (n : Int) < 1 := by omega
        go_enter Try.func41, Try.ntmps41
        go_wp2
        go_ret
        exact ⟨ri Z.out.symm, b0⟩
      · have hm1 : ¬ (n : Int) < 1 := by omega
        have hm2 : 128 < (n : Int) := by omega
        go_enter Try.func41, Try.ntmps41
        go_wp2
        go_ret
        exact ⟨ri Z.out.symm, b0⟩
  obtain ⟨b, o, c, rfl, hc, hbl, ha⟩ := ha.resolve_left (fun h => hm (by omega))
  have HA := Sv.hid ha
  have HB := Sv.hid hb
  have HM := Sv.hid hm
  have hm1 : ¬ (n : Int) < 1 := by omega
  have hm2 : ¬ 128 < (n : Int) := by omega
  clear ha hb hm
  go_enter Try.func41, Try.ntmps41
  go_wp2
  clear hm1 hm2
  replace HX := Sv.hid (And.intro HX.out b0)
  generalize w.heap.size = C at HX ⊢
  generalize w.alloc (.cells #[.func (.func 70) #[] #[], .func (.func 71) #[] #[], .func (.func 31) #[] #[], .func (.func 72) #[] #[], .func (.func 73) #[] #[]] 73) = W0 at *
  clear b0
  go_loopw [23] (fun i wr => ∃ k : Nat, k ≤ n ∧ i = .int .i64 k ∧ (∀ j, j < k → l j = n) ∧ Sv.Bx wr C ∧ Bw w wr) (fun i _ => n - (intOf i).toNat)
  case atStart => exact ⟨0, Nat.zero_le _, rfl, fun j hj => absurd hj (by omega), HX.out.1, HX.out.2⟩
  case round =>
    obtain ⟨k, hk, rfl, hl, hx, hbw⟩ := hrel
    have HL := Sv.hid hl
    replace HX := Sv.hid hx
    clear hl hx W0
    by_cases hk1 : k < n
    · have hk2 : (k : Int) < n := by omega
      obtain ⟨r, e, hr⟩ := HA.out k hk1
      replace e := (Below.cell hbw (p := ⟨b, o + k, none⟩) hbl).trans e
      by_cases z : l k = n
      · obtain ⟨rb, ro, rc, rfl, _, _⟩ := hr.resolve_left (fun h => by omega)
        rw [z] at e
        clear hr
        go_wp2
        go_roundw
        case rel =>
          refine ⟨k + 1, by omega, by simp, fun j hj => ?_, HX.out, hbw⟩
          by_cases y : j = k
          · subst y; exact z
          · exact HL.out j (by omega)
        case measure => simp [intOf]; omega
      · have Z := Sv.hid (Sv.chkA_no (q := q) (lb := lb) (B := B) (Sv.chk_shape (A := A) HM.out hk1 z) (by decide))
        rcases hr with ⟨⟨p0, c0, rfl, hp0⟩, hr⟩ | ⟨rb, ro, rc, rfl, _, _⟩
        · have z1 : ((0 : Int) == n) = false := by rw [beq_eq_false_iff_ne]; omega
          clear hr z
          go_wp2
          go_ret
          exact ⟨ri Z.out.symm, hbw⟩
        · have z1 : ((l k : Int) == n) = false := by rw [beq_eq_false_iff_ne]; omega
          clear z
          generalize l k = m at *
          go_wp2
          go_ret
          exact ⟨ri Z.out.symm, hbw⟩
    · have hk3 : k = n := by omega
      subst hk3
      go_wp2
      go_loopw [35] (fun i wr => ∃ t : Nat, t ≤ k ∧ i = .int .i64 t ∧ (∀ j, j < t → Sv.fin (A j) k) ∧ Sv.Bx wr C ∧ Bw w wr) (fun i _ => k - (intOf i).toNat)
      case atStart => exact ⟨0, Nat.zero_le _, rfl, fun j hj => absurd hj (by omega), HX.out, hbw⟩
      case round =>
        clear hbw HX
        obtain ⟨t, ht, rfl, hf, hx, hbw⟩ := hrel
        have HF := Sv.hid hf
        have HX := Sv.hid hx
        clear hf
        by_cases ht1 : t < k
        · have ht2 : (t : Int) < k := by omega
          obtain ⟨r, e, hr⟩ := HA.out t ht1
          replace e := (Below.cell hbw (p := ⟨b, o + t, none⟩) hbl).trans e
          have R := Sv.hid (fun wz (hz : Bw w wz) => arefin14 (hr.bw hz) (by have := HL.out t ht1; omega))
          rw [HL.out t ht1] at R
          obtain ⟨hx0, c1, c2, c3, c4, c5⟩ := hx
          clear hr
          by_cases z : Sv.fin (A t) k
          · rw [decide_eq_true z] at R
            go_wp2_with fail
            refine (R.out _ hbw).mono ?_
            rintro e' w1 ⟨rfl, b1⟩
            replace HX := Sv.hid (HX.out.bw b1)
            replace hbw := bw_trans hbw b1
            clear R c1 c2 c3 c4 c5 b1 e
            go_wp2
            go_roundw
            case rel =>
              refine ⟨t + 1, by omega, by simp, fun j hj => ?_, HX.out, hbw⟩
              by_cases y : j = t
              · subst y; exact z
              · exact HF.out j (by omega)
            case measure => simp [intOf]; omega
          · rw [decide_eq_false z] at R
            have Z := Sv.hid (Sv.chkA_no (q := q) (lb := lb) (B := B) (Sv.chk_real HM.out HL.out ht1 z) (by decide))
            go_wp2_with fail
            refine (R.out _ hbw).mono ?_
            rintro e' w1 ⟨rfl, b1⟩
            replace hbw := bw_trans hbw b1
            clear R c1 c2 c3 c4 c5 b1 e
            go_wp2
            go_ret
            exact ⟨ri Z.out.symm, hbw⟩
        · have ht3 : t = k := by omega
          subst ht3
          have Y := Sv.hid (Sv.chkA_yes (q := q) (lb := lb) (B := B) (Sv.chk_ok HM.out HL.out HF.out))
          clear hx
          rcases HB.out with ⟨⟨p0, c0, rfl, hp0⟩, rfl⟩ | ⟨b', o', c', rfl, hc', hbl', hb⟩
          · have Y0 : Hid (Sv.chkA t l A 0 lb B = 0) := Y.out
            go_wp2
            go_loopw [46] (fun i wr => i = .int .i64 0 ∧ Bw w wr) (fun i _ => 0)
            case atStart => exact ⟨rfl, hbw⟩
            case round =>
              clear hbw
              obtain ⟨rfl, hbw⟩ := hrel
              go_wp2
              go_ret
              exact ⟨ri Y0.out.symm, hbw⟩
          · have HB2 := Sv.hid hb
            clear hb
            go_wp2
            go_loopw [46] (fun i wr => ∃ s : Nat, s ≤ q ∧ i = .int .i64 s ∧ Sv.chkB t lb B s = 0 ∧ Sv.Bx wr C ∧ Bw w wr) (fun i _ => q - (intOf i).toNat)
            case atStart => exact ⟨0, Nat.zero_le _, rfl, rfl, HX.out, hbw⟩
            case round =>
              clear hbw HX
              obtain ⟨s, hs, rfl, hf, hx, hbw⟩ := hrel
              have HS := Sv.hid hf
              have HX := Sv.hid hx
              clear hf
              by_cases hs1 : s < q
              · have hs2 : (s : Int) < q := by omega
                obtain ⟨r, e, hr⟩ := HB2.out s hs1
                replace e := (Below.cell hbw (p := ⟨b', o' + s, none⟩) hbl').trans e
                obtain ⟨hx0, c1, c2, c3, c4, c5⟩ := hx
                by_cases z : lb s = t
                · have R := Sv.hid (fun wz (hz : Bw w wz) => arefin14 (hr.bw hz) (by omega))
                  rw [z] at R
                  obtain ⟨rb, ro, rc, rfl, _, _⟩ := hr.resolve_left (fun h => by have := HM.out; omega)
                  rw [z] at e R
                  clear hr
                  by_cases y : Sv.fin (B s) t
                  · rw [decide_eq_true y] at R
                    go_wp2_with fail
                    refine (R.out _ hbw).mono ?_
                    rintro e' w1 ⟨rfl, b1⟩
                    replace HX := Sv.hid (HX.out.bw b1)
                    replace hbw := bw_trans hbw b1
                    clear R c1 c2 c3 c4 c5 b1 e
                    go_wp2
                    go_roundw
                    case rel =>
                      refine ⟨s + 1, by omega, by simp, ?_, HX.out, hbw⟩
                      unfold Sv.chkB Sv.chkL
                      rw [if_pos HS.out, if_pos z, if_pos y]
                    case measure => simp [intOf]; omega
                  · rw [decide_eq_false y] at R
                    have Z := Sv.hid (Y.out.trans (Sv.chkB_no hs1 HS.out (e := 5) (by unfold Sv.chkL; rw [if_pos z, if_neg y]) (by decide)))
                    go_wp2_with fail
                    refine (R.out _ hbw).mono ?_
                    rintro e' w1 ⟨rfl, b1⟩
                    replace hbw := bw_trans hbw b1
                    clear R c1 c2 c3 c4 c5 b1 e
                    go_wp2
                    go_ret
                    exact ⟨ri Z.out.symm, hbw⟩
                · have Z := Sv.hid (Y.out.trans (Sv.chkB_no hs1 HS.out (e := 140) (by unfold Sv.chkL; rw [if_neg z]) (by decide)))
                  rcases hr with ⟨⟨p0, c0, rfl, hp0⟩, hr⟩ | ⟨rb, ro, rc, rfl, _, _⟩
                  · have z1 : ((0 : Int) == t) = false := by rw [beq_eq_false_iff_ne]; omega
                    clear hr z
                    go_wp2
                    go_ret
                    exact ⟨ri Z.out.symm, hbw⟩
                  · have z1 : ((lb s : Int) == t) = false := by rw [beq_eq_false_iff_ne]; omega
                    clear z
                    generalize lb s = m at *
                    go_wp2
                    go_ret
                    exact ⟨ri Z.out.symm, hbw⟩
              · have hs3 : s = q := by omega
                subst hs3
                clear hx
                have Z := Sv.hid (Y.out.trans HS.out)
                go_wp2
                go_ret
                exact ⟨ri Z.out.symm, hbw⟩
end Go.Proofs.Ytjfkdmddfeeheaa
/-
  OWN TEXT: package solve, of floats: rows that are copied.
-/
namespace Go.Proofs.Ytjfkdmddfeeheaa
open Go.ChangeShapes Go.WideShapes Go.ChangeAt Go.RowKit
set_option linter.unusedVariables false
attribute [local go_sem] frombits_call tobits_call run_neg

namespace Sv
theorem info_f : (Try.prog.info? 25).map (fun i => (i.zero, i.size, i.bytes)) = some (some (.float .f64 0), 1, 8) := by kernel_rfl
theorem info_r : (Try.prog.info? 24).map (fun i => (i.zero, i.size, i.bytes)) = some (some (.slice none 0 0), 1, 24) := by kernel_rfl
theorem und_f : Try.prog.underlying 24 = some (.slice 25) := by kernel_rfl
theorem und_r : Try.prog.underlying 23 = some (.slice 24) := by kernel_rfl
def zf (n : Nat) : Array Value := madeCells #[.float .f64 0] n
def zr (n : Nat) : Array Value := madeCells #[.slice none 0 0] n
theorem zf_list (n : Nat) : (zf n).toList = fv (fun _ => 0) n := by
  apply List.ext_getElem?
  intro j
  by_cases h : j < n
  · rw [fv_get _ _ _ h]; simp [zf, madeCells, h, Nat.mod_one]
  · rw [List.getElem?_eq_none (by simp [zf, madeCells]; omega), List.getElem?_eq_none (by rw [fv_len]; omega)]
theorem zr_list (n : Nat) : (zr n).toList = (List.range n).map fun _ => .slice none 0 0 := by
  apply List.ext_getElem?
  intro j
  by_cases h : j < n
  · simp [zr, madeCells, h, Nat.mod_one]
  · rw [List.getElem?_eq_none (by simp [zr, madeCells]; omega), List.getElem?_eq_none (by simp; omega)]
theorem makeF (a b : Int) (m c : Nat) (ha : a = m) (hb : b = c) (hm : m ≤ c) (h : c ≤ 1000000) (w : World) :
    (Instr.makeSlice 24 (.int .i64 a) (.int .i64 b)).run Try.prog w = .ok (.slice (some ⟨w.heap.size, 0, none⟩) m c) (w.alloc (.cells (zf c) 25)) := by
  subst ha hb
  obtain ⟨i, hi, he⟩ := Option.map_eq_some_iff.1 info_f
  simp only [Prod.mk.injEq] at he
  have hr := run_make (P := Try.prog) w 24 25 i (.float .f64 0) und_f hi he.1 .i64 .i64 m c (by omega) (by omega) (by rw [he.2.2]; omega) (by omega)
  rw [he.2.1] at hr
  simp only [Int.toNat_natCast, Nat.mul_one] at hr
  exact hr
theorem makeR (a b : Int) (n : Nat) (ha : a = n) (hb : b = n) (h : n ≤ 1000000) (w : World) :
    (Instr.makeSlice 23 (.int .i64 a) (.int .i64 b)).run Try.prog w = .ok (.slice (some ⟨w.heap.size, 0, none⟩) n n) (w.alloc (.cells (zr n) 24)) := by
  subst ha hb
  obtain ⟨i, hi, he⟩ := Option.map_eq_some_iff.1 info_r
  simp only [Prod.mk.injEq] at he
  have hr := run_make (P := Try.prog) w 23 24 i (.slice none 0 0) und_r hi he.1 .i64 .i64 n n (by omega) (by omega) (by rw [he.2.2]; omega) (by omega)
  rw [he.2.1] at hr
  simp only [Int.toNat_natCast, Nat.mul_one] at hr
  exact hr
theorem Rw.made (w : World) {base : Nat} (hb : base ≤ w.heap.size) (m c : Nat) (hm : m ≤ c) (hc : c ≤ 1000000) : Rw (w.alloc (.cells (zf c) 25)) base w.heap.size m c (fun _ => 0) := by
  refine ⟨fun _ => 0, ⟨by rw [fv_len, Nat.mul_one], Or.inr ⟨w.heap.size, c, zf c, rfl, hb, heap_alloc_new w _, hm, by unfold maxLen; omega, by simp [zf, size_madeCells], ?_⟩⟩, fun j hj => ⟨by show 0 < _; decide, by show Fl.bitsF 0 = 0; decide⟩⟩
  rw [zf_list, Nat.mul_one]
  apply List.ext_getElem?
  intro j
  rw [List.getElem?_take]
  by_cases h : j < m
  · rw [if_pos h, fv_get _ _ _ h, fv_get _ _ _ (by omega)]
  · rw [if_neg h, List.getElem?_eq_none (by rw [fv_len]; omega)]
theorem ownsR_made (w : World) {base : Nat} (hb : base ≤ w.heap.size) (n : Nat) (hn : n ≤ 1000000) : (w.alloc (.cells (zr n) 24)).ownsRow base 24 1 (.slice (some ⟨w.heap.size, 0, none⟩) n n) n ((List.range n).map fun _ => .slice none 0 0) := by
  have h := World.ownsRow_lit (base := base) (e := 24) (size := 1) w (zr n) n hb (by unfold maxLen; omega) (by simp [zr, size_madeCells])
  rw [zr_list] at h
  exact h
/-- the words of a list -/
theorem Rd.words {w : World} {b o n : Nat} {F : Nat → Nat} (h : Rd w b o n F) : ∃ X : Nat → Nat, ∀ j, j < n → w.cell? ⟨b, o + j, none⟩ = some (.float .f64 (X j)) ∧ X j < 18446744073709551616 ∧ Fl.bitsF (X j) = F j := by
  have k : ∀ j, ∃ x, j < n → w.cell? ⟨b, o + j, none⟩ = some (.float .f64 x) ∧ x < 18446744073709551616 ∧ Fl.bitsF x = F j := by
    intro j
    by_cases hj : j < n
    · obtain ⟨x, e⟩ := h.2 j hj
      exact ⟨x, fun _ => e⟩
    · exact ⟨0, fun z => absurd z hj⟩
  exact ⟨fun j => Classical.choose (k j), fun j => Classical.choose_spec (k j)⟩
theorem add_off (b o j : Nat) : (⟨b, o, none⟩ : Addr).add j = ⟨b, o + j, none⟩ := by
  unfold Addr.add
  split
  · rename_i h; subst h; rfl
  · rfl
theorem copyF {w : World} {base g m c b o : Nat} {F G : Nat → Nat} (hw : Rw w base g m c F) (hr : Rd w b o m G) (cap : Nat) :
    ∃ w1, (Builtin.copy_ #[24, 24] 3 #[.slice (some ⟨g, 0, none⟩) m c, .slice (some ⟨b, o, none⟩) m cap]).run Try.prog w = .ok (.int .i64 m) w1 ∧ Rw w1 base g m c G ∧ w.grownBy w1 (some g) := by
  obtain ⟨X, hX⟩ := hr.words
  obtain ⟨Y, ⟨h1, h2⟩, _⟩ := hw
  rcases h2 with ⟨h2, _⟩ | ⟨g', c', cur, h2, hb, hg, hmc, hcm, hcs, htk⟩
  · simp at h2
  simp only [Value.slice.injEq, Option.some.injEq, Addr.mk.injEq, and_true, true_and] at h2
  obtain ⟨rfl, rfl⟩ := h2
  have hs : (Try.prog.info? 25).map (·.size) = some 1 := by kernel_rfl
  have k := run_copy_row (P := Try.prog) w 24 24 3 25 g 0 m c ⟨b, o, none⟩ m cap cur 25 (fv X m) und_f hs hg (by rw [fv_len]; simp) (fun j v hj => by
    have hjm : j < m := by have := (List.getElem?_eq_some_iff.1 hj).1; rw [fv_len] at this; exact this
    rw [fv_get _ _ _ hjm] at hj
    cases hj
    rw [add_off]
    exact (hX j hjm).1) (by rw [fv_len, hcs]; omega) (fv_one X m)
  rw [fv_len] at k
  refine ⟨_, k, ⟨X, ⟨by rw [fv_len, Nat.mul_one], Or.inr ⟨g, c, _, rfl, hb, setRow_heap _ _ _ _ _ _ hg, hmc, hcm, ?_, ?_⟩⟩, fun j hj => (hX j hj).2⟩, ⟨rfl, rfl, rfl, by simp, fun t _ ht => setRow_other _ _ _ _ (fun e => ht (by simp [e]))⟩⟩
  · simp only [List.size_toArray, List.length_append, List.length_take, List.length_drop, Array.length_toList, fv_len]; omega
  · simp only [List.take_zero, List.nil_append, Nat.mul_one]
    have := List.take_left (l₁ := fv X m) (l₂ := List.drop (0 + m) cur.toList)
    rw [fv_len] at this
    exact this
/-- k of the n rows stand -/
structure Mp (w : World) (base R n k m c : Nat) (f : Nat → Nat) (A : M) : Prop where
  own : w.ownsRow base 24 1 (.slice (some ⟨R, 0, none⟩) n n) n ((List.range n).map fun i => if i < k then .slice (some ⟨f i, 0, none⟩) m c else .slice none 0 0)
  row : ∀ i, i < k → Rw w base (f i) m c (A i)
  far : ∀ i, i < k → f i ≠ R
  inj : ∀ i j, i < k → j < k → f i = f j → i = j
theorem Mp.mt {w : World} {base R n m c : Nat} {f : Nat → Nat} {A : M} (h : Mp w base R n n m c f A) : Mt w base R n m c f A := by
  refine ⟨?_, h.row, h.far, h.inj⟩
  have e : ((List.range n).map fun i => if i < n then Value.slice (some ⟨f i, 0, none⟩) m c else .slice none 0 0) = (List.range n).map fun i => Value.slice (some ⟨f i, 0, none⟩) m c :=
    List.map_congr_left fun i hi => by rw [if_pos (List.mem_range.1 hi)]
  have o := h.own
  rw [e] at o
  exact o
theorem Mp.bw {w w' : World} {base R n k m c : Nat} {f : Nat → Nat} {A : M} (h : Mp w base R n k m c f A) (b : Bw w w') : Mp w' base R n k m c f A :=
  ⟨h.own.kept (gb_bw b none) (by simp [Value.ownBlock]), fun i hi => (h.row i hi).bw b, h.far, h.inj⟩
/-- one more row is laid into R -/
theorem Mp.more {w : World} {base R n k m c g : Nat} {f : Nat → Nat} {A : M} {F : Nat → Nat} (h : Mp w base R n k m c f A) (hr : Rw w base g m c F) (hk : k < n) (hg : g ≠ R) (hn : ∀ i, i < k → f i ≠ g) :
    Mp (w.setCell ⟨R, k, none⟩ (.slice (some ⟨g, 0, none⟩) m c)) base R n (k + 1) m c (fun i => if i = k then g else f i) (fun i => if i = k then F else A i) ∧ w.grownBy (w.setCell ⟨R, k, none⟩ (.slice (some ⟨g, 0, none⟩) m c)) (some R) := by
  obtain ⟨o1, g1⟩ := h.own.stored k (.slice (some ⟨g, 0, none⟩) m c)
  rw [range_set] at o1
  refine ⟨⟨?_, fun i hi => ?_, fun i hi => ?_, fun i j hi hj e => ?_⟩, g1⟩
  · have e : (fun t => if t = k then Value.slice (some ⟨g, 0, none⟩) m c else if t < k then Value.slice (some ⟨f t, 0, none⟩) m c else .slice none 0 0) = fun i => if i < k + 1 then Value.slice (some ⟨if i = k then g else f i, 0, none⟩) m c else .slice none 0 0 := by
      funext t
      by_cases e1 : t = k
      · subst e1; rw [if_pos rfl, if_pos (by omega), if_pos rfl]
      · rw [if_neg e1, if_neg e1]
        by_cases e2 : t < k
        · rw [if_pos e2, if_pos (by omega)]
        · rw [if_neg e2, if_neg (by omega)]
    rw [e] at o1
    exact o1
  · by_cases e : i = k
    · simp only [e, if_true]; exact hr.gb g1 (by simp only [ne_eq, Option.some.injEq]; exact hg)
    · simp only [if_neg e]; exact (h.row i (by omega)).gb g1 (by simp only [ne_eq, Option.some.injEq]; exact h.far i (by omega))
  · by_cases e : i = k
    · simp only [e, if_true]; exact hg
    · simp only [if_neg e]; exact h.far i (by omega)
  · by_cases a : i = k <;> by_cases b : j = k
    · omega
    · simp only [a, if_true, if_neg b] at e; exact absurd e.symm (hn j (by omega))
    · simp only [b, if_true, if_neg a] at e; exact absurd e (hn i (by omega))
    · simp only [if_neg a, if_neg b] at e; exact h.inj i j (by omega) (by omega) e
theorem Mp.cell {w : World} {base R n k m c : Nat} {f : Nat → Nat} {A : M} (h : Mp w base R n k m c f A) {i : Nat} (hi : i < n) : w.cell? ⟨R, i, none⟩ = some (if i < k then .slice (some ⟨f i, 0, none⟩) m c else .slice none 0 0) := by
  rw [h.own.cellAt i (by omega)]
  simp [hi]
/-- the last row turned -/
theorem Mp.turn {w w' : World} {base R n k m c : Nat} {f : Nat → Nat} {A : M} (h : Mp w base R n (k + 1) m c f A) {G : Nat → Nat} (g : w.grownBy w' (some (f k))) (r : Rw w' base (f k) m c G) : Mp w' base R n (k + 1) m c f (fun t => if t = k then G else A t) := by
  refine ⟨h.own.kept g (Or.inr (by simp only [Value.ownBlock, ne_eq, Option.some.injEq]; exact fun e => h.far k (by omega) e.symm)), fun t ht => ?_, h.far, h.inj⟩
  by_cases e : t = k
  · subst e; simp only [if_true]; exact r
  · simp only [if_neg e]
    exact (h.row t ht).gb g (by simp only [ne_eq, Option.some.injEq]; exact fun z => e (h.inj t k ht (by omega) z))
theorem Mp.ext {w : World} {base R n k m c : Nat} {f : Nat → Nat} {A A' : M} (h : Mp w base R n k m c f A) (e : ∀ i j, i < k → j < m → A i j = A' i j) : Mp w base R n k m c f A' :=
  ⟨h.own, fun i hi => (h.row i hi).ext (fun j hj => e i j hi hj), h.far, h.inj⟩
end Sv
set_option maxHeartbeats 4000000 in
set_option maxRecDepth 10000 in
theorem copied14 {w : World} {b o ca n m : Nat} {l : Nat → Nat} {A : Sv.M} (hb : b < w.heap.size) (h : ∀ i, i < n → ∃ r, w.cell? ⟨b, o + i, none⟩ = some r ∧ Sv.Ls w r (l i) (A i)) (hl : ∀ i, i < n → l i = m) (hn : n ≤ 1000) (hm : 0 < m) (hm2 : m ≤ 1000) :
    Calls Try.prog 43 #[.slice (some ⟨b, o, none⟩) n ca] w fun e w' => ∃ R f, e = .returned (.slice (some ⟨R, 0, none⟩) n n) ∧ Sv.Mt w' w.heap.size R n m (m + 1) f A ∧ Bw w w' := by
  have hmk := Sv.makeR (n : Int) (n : Int) n rfl rfl (by omega)
  have HO := Sv.hid (Sv.ownsR_made w (Nat.le_refl _) n (by omega))
  have b0 := Sv.bw_new w (.cells (Sv.zr n) 24)
  have H := Sv.hid h
  have HL := Sv.hid hl
  have HB := Sv.hid hb
  clear h hl hb
  go_enter Try.func43, Try.ntmps43
  go_wp2
  obtain ⟨R, eR⟩ : ∃ R, R = w.heap.size := ⟨_, rfl⟩
  have ER := Sv.hid eR
  have HO2 : Hid ((w.alloc (.cells (Sv.zr n) 24)).ownsRow w.heap.size 24 1 (.slice (some ⟨R, 0, none⟩) n n) n ((List.range n).map fun _ => .slice none 0 0)) := by rw [eR]; exact HO.out
  rw [← eR]
  clear HO eR hmk
  generalize w.alloc (.cells (Sv.zr n) 24) = W0 at *
  go_loopw [11] (fun i wr => ∃ (k : Nat) (f : Nat → Nat), k ≤ n ∧ i = .int .i64 k ∧ Sv.Mp wr w.heap.size R n k m (m + 1) f A ∧ Bw w wr) (fun i _ => n - (intOf i).toNat)
  case atStart =>
    refine ⟨0, fun _ => 0, Nat.zero_le _, rfl, ⟨?_, fun i hi => absurd hi (by omega), fun i hi => absurd hi (by omega), fun i j hi => absurd hi (by omega)⟩, b0⟩
    have e : ((List.range n).map fun i => if i < 0 then Value.slice (some ⟨0, 0, none⟩) m (m + 1) else .slice none 0 0) = (List.range n).map fun _ => .slice none 0 0 :=
      List.map_congr_left fun i hi => by rw [if_neg (by omega)]
    rw [e]
    exact HO2.out
  case round =>
    clear HO2 b0
    obtain ⟨k, f, hk, rfl, hp, hbw⟩ := hrel
    by_cases hk1 : k < n
    · have hk2 : (k : Int) < n := by omega
      obtain ⟨r, e, hr⟩ := H.out k hk1
      replace e := (Below.cell hbw (p := ⟨b, o + k, none⟩) HB.out).trans e
      rw [HL.out k hk1] at hr
      obtain ⟨rb, ro, rc, rfl, _, hr⟩ := hr.resolve_left (fun h => by omega)
      have hrb := hr.1
      replace hr := hr.bw hbw
      have hmk := Sv.makeF (m : Int) ((m : Int) + 1) m (m + 1) rfl (by omega) (by omega) (by omega)
      have hlt := hp.own.lt R rfl
      have hc0 := hp.cell hk1
      rw [if_neg (by omega)] at hc0
      have hfz := hp.own.frozenAt k
      have b1 := Sv.bw_new wr (.cells (Sv.zf (m + 1)) 25)
      have hw1 := Sv.Rw.made wr (base := w.heap.size) hbw.size m (m + 1) (by omega) (by omega)
      obtain ⟨hp2, g2⟩ := (hp.bw b1).more hw1 hk1 (by omega) (fun i hi => by have := (hp.row i hi).lt; omega)
      have hrr := (hr.bw b1).gb g2 (by simp only [ne_eq, Option.some.injEq]; have := ER.out; intro z; omega)
      have hw2 := hp2.row k (by omega)
      simp only [if_true] at hw2
      obtain ⟨w3, hcp, hw3, g3⟩ := Sv.copyF hw2 hrr rc
      have hp3 := hp2.turn (by simp only [if_true]; exact g3) (by simp only [if_true]; exact hw3)
      replace hp3 := hp3.ext (A' := A) (fun i j hi hj => by
        by_cases z : i = k
        · subst z; simp only [if_true]
        · simp only [if_neg z])
      have hc1 := hp2.cell hk1
      rw [if_pos (by omega), if_pos rfl] at hc1
      have b3 : Bw w w3 := by
        have q1 := bw_trans hbw b1
        have q2 : Bw w _ := Sv.gb_below q1 g2 q1.size hlt.1
        exact Sv.gb_below q2 g3 q2.size hbw.size
      have HP3 := Sv.hid hp3
      have hR : R < wr.heap.size := hlt.2
      have hR2 : ¬ R = wr.heap.size := by omega
      have hc2 : (wr.alloc (.cells (Sv.zf (m + 1)) 25)).cell? ⟨R, k, none⟩ = some (.slice none 0 0) := (Below.cell b1 (p := ⟨R, k, none⟩) hR).trans hc0
      have hf2 : (wr.alloc (.cells (Sv.zf (m + 1)) 25)).frozen? ⟨R, k, none⟩ = false := (Below.frozen b1 (p := ⟨R, k, none⟩) hR).trans hfz
      rw [World.setCell_alloc_past _ _ _ _ hR] at hcp hc1
      clear hp hp2 hw1 hw2 hw3 hp3 g2 g3 hrr hr b1 hlt hbw hrb
      go_wp2
      go_roundw
      case rel => exact ⟨k + 1, _, by omega, by simp, HP3.out, b3⟩
      case measure => simp [intOf]; omega
    · have hk3 : k = n := by omega
      subst hk3
      have HP := Sv.hid hp.mt
      clear hp
      go_wp2
      go_ret
      exact ⟨R, f, rfl, HP.out, hbw⟩
end Go.Proofs.Ytjfkdmddfeeheaa
/-
  OWN TEXT: package solve, of floats: the pivot's row is taken from another.
-/
namespace Go.Proofs.Ytjfkdmddfeeheaa
open Go.ChangeShapes Go.WideShapes Go.ChangeAt Go.RowKit
set_option linter.unusedVariables false
attribute [local go_sem] frombits_call tobits_call run_neg

theorem stof14 {P : Program} {w : World} {a : Addr} {m : Mode} (k : FloatKind) (x : Nat) : (store a (.float k x) m).run P w = stored P w a (.float k x) m := run_store P w a _ m rfl
attribute [local go_sem] stof14
set_option maxHeartbeats 4000000 in
theorem takeAway14 {w : World} {base B1 B2 k L D : Nat} {F G : Nat → Nat} (h1 : Sv.Rw w base B1 (k + L + 1) (k + D + 2) F) (h2 : Sv.Rw w base B2 (k + L + 1) (k + D + 2) G) (hne : B1 ≠ B2) (hk : k + L < 100000) (hD : L ≤ D + 1) :
    Calls Try.prog 76 #[(.agg #[.func (.func 70) #[] #[], .func (.func 71) #[] #[], .func (.func 31) #[] #[], .func (.func 72) #[] #[], .func (.func 73) #[] #[]]), .slice (some ⟨B1, k, none⟩) (L + 1) (D + 2), .slice (some ⟨B2, k, none⟩) (L + 1) (D + 2)] w fun e w' => e = .returned (.tuple #[]) ∧ Sv.Rw w' base B1 (k + L + 1) (k + D + 2) (fun j => if k < j then Sv.op .sub (F j) (Sv.op .mul (Sv.op .quo (F k) (G k)) (G j)) else F j) ∧ w.grownBy w' (some B1) := by
  have b0 := Sv.bw_new w (.cells #[.func (.func 70) #[] #[], .func (.func 71) #[] #[], .func (.func 31) #[] #[], .func (.func 72) #[] #[], .func (.func 73) #[] #[]] 73)
  have HX := Sv.hid (Sv.Bx.made w)
  obtain ⟨x, e1, hx, q1⟩ := (h1.bw b0).cell (j := k) (by omega)
  obtain ⟨y, e2, hy, q2⟩ := (h2.bw b0).cell (j := k) (by omega)
  have H1 := Sv.hid (h1.bw b0)
  have H2 := Sv.hid (h2.bw b0)
  have l1 := h1.lt
  have l2 := h2.lt
  have HC : Hid (w.heap.size ≠ B1) := by show _ ≠ _; omega
  have hs : (w.alloc (.cells #[.func (.func 70) #[] #[], .func (.func 71) #[] #[], .func (.func 31) #[] #[], .func (.func 72) #[] #[], .func (.func 73) #[] #[]] 73)).heap.size = w.heap.size + 1 := by simp
  have LT : Hid (w.heap.size < (w.alloc (.cells #[.func (.func 70) #[] #[], .func (.func 71) #[] #[], .func (.func 31) #[] #[], .func (.func 72) #[] #[], .func (.func 73) #[] #[]] 73)).drew.heap.size ∧ B1 < (w.alloc (.cells #[.func (.func 70) #[] #[], .func (.func 71) #[] #[], .func (.func 31) #[] #[], .func (.func 72) #[] #[], .func (.func 73) #[] #[]] 73)).drew.heap.size ∧ B2 < (w.alloc (.cells #[.func (.func 70) #[] #[], .func (.func 71) #[] #[], .func (.func 31) #[] #[], .func (.func 72) #[] #[], .func (.func 73) #[] #[]] 73)).drew.heap.size) := by
    show w.heap.size < (w.alloc (.cells #[.func (.func 70) #[] #[], .func (.func 71) #[] #[], .func (.func 31) #[] #[], .func (.func 72) #[] #[], .func (.func 73) #[] #[]] 73)).heap.size ∧ B1 < (w.alloc (.cells #[.func (.func 70) #[] #[], .func (.func 71) #[] #[], .func (.func 31) #[] #[], .func (.func 72) #[] #[], .func (.func 73) #[] #[]] 73)).heap.size ∧ B2 < (w.alloc (.cells #[.func (.func 70) #[] #[], .func (.func 71) #[] #[], .func (.func 31) #[] #[], .func (.func 72) #[] #[], .func (.func 73) #[] #[]] 73)).heap.size
    omega
  have c1 := HX.out.2.2.1
  have GB := Sv.hid (Sv.gb_bw b0.drew (some B1))
  have S0 : (w.alloc (.cells #[.func (.func 70) #[] #[], .func (.func 71) #[] #[], .func (.func 31) #[] #[], .func (.func 72) #[] #[], .func (.func 73) #[] #[]] 73)).drew.cell? ⟨w.heap.size, 1, none⟩ = some (.func (.func 71) #[] #[]) ∧ (w.alloc (.cells #[.func (.func 70) #[] #[], .func (.func 71) #[] #[], .func (.func 31) #[] #[], .func (.func 72) #[] #[], .func (.func 73) #[] #[]] 73)).drew.cell? ⟨B1, k, none⟩ = some (.float .f64 x) ∧ (w.alloc (.cells #[.func (.func 70) #[] #[], .func (.func 71) #[] #[], .func (.func 31) #[] #[], .func (.func 72) #[] #[], .func (.func 73) #[] #[]] 73)).drew.cell? ⟨B2, k, none⟩ = some (.float .f64 y) := ⟨c1, e1, e2⟩
  clear h1 h2 b0 hs c1 l1 l2 e1 e2
  have HX2 : Hid (Sv.Bx (w.alloc (.cells #[.func (.func 70) #[] #[], .func (.func 71) #[] #[], .func (.func 31) #[] #[], .func (.func 72) #[] #[], .func (.func 73) #[] #[]] 73)).drew w.heap.size) := HX.out.bw (Bw.refl _).drew
  have H12 : Hid (Sv.Rw (w.alloc (.cells #[.func (.func 70) #[] #[], .func (.func 71) #[] #[], .func (.func 31) #[] #[], .func (.func 72) #[] #[], .func (.func 73) #[] #[]] 73)).drew base B1 (k + L + 1) (k + D + 2) F ∧ Sv.Rw (w.alloc (.cells #[.func (.func 70) #[] #[], .func (.func 71) #[] #[], .func (.func 31) #[] #[], .func (.func 72) #[] #[], .func (.func 73) #[] #[]] 73)).drew base B2 (k + L + 1) (k + D + 2) G) := ⟨H1.out.bw (Bw.refl _).drew, H2.out.bw (Bw.refl _).drew⟩
  clear HX H1 H2
  go_enter Try.func76, Try.ntmps76
  go_wp2_with fail
  refine wp_region_K (fun w' => w'.cell? ⟨w.heap.size, 1, none⟩ = some (.func (.func 71) #[] #[]) ∧ w'.cell? ⟨B1, k, none⟩ = some (.float .f64 x) ∧ w'.cell? ⟨B2, k, none⟩ = some (.float .f64 y)) 9 10 #[false, false, false, false, false, false, false, false, false, false] (by kernel_rfl) (by kernel_rfl) (by kernel_rfl) ?_
  generalize (w.alloc (.cells #[.func (.func 70) #[] #[], .func (.func 71) #[] #[], .func (.func 31) #[] #[], .func (.func 72) #[] #[], .func (.func 73) #[] #[]] 73)).drew = W at *
  generalize w.heap.size = C at HX2 LT HC S0 ⊢
  refine wpAnyK_take 0 8 (v := ?v0) rfl (by kernel_rfl) (by kernel_rfl) (by kernel_rfl) (by kernel_rfl) (by kernel_rfl) (fun _ _ _ h => h) rfl (Or.inl ⟨by rfl, ?h0⟩) (by assumption) ?r0
  case h0 => (intro w hSw; go_simp; with_reducible rfl)
  simp only [Act.put, List.setIfInBounds_toArray, List.set_cons_zero, List.set_cons_succ]
  refine wpAnyK_take 1 9 (v := ?v1) rfl (by kernel_rfl) (by kernel_rfl) (by kernel_rfl) (by kernel_rfl) (by kernel_rfl) (fun _ _ _ h => h) rfl (Or.inl ⟨by rfl, ?h1⟩) (by assumption) ?r1
  case h1 => (intro w hSw; go_simp; with_reducible rfl)
  simp only [Act.put, List.setIfInBounds_toArray, List.set_cons_zero, List.set_cons_succ]
  refine wpAnyK_take 2 10 (v := ?v2) rfl (by kernel_rfl) (by kernel_rfl) (by kernel_rfl) (by kernel_rfl) (by kernel_rfl) (fun _ _ _ h => h) rfl (Or.inl ⟨by rfl, ?h2⟩) (by assumption) ?r2
  case h2 => (intro w hSw; go_simp; with_reducible rfl)
  simp only [Act.put, List.setIfInBounds_toArray, List.set_cons_zero, List.set_cons_succ]
  refine wpAnyK_take 3 11 (v := ?v3) rfl (by kernel_rfl) (by kernel_rfl) (by kernel_rfl) (by kernel_rfl) (by kernel_rfl) (fun _ _ _ h => h) rfl (Or.inl ⟨by rfl, ?h3⟩) (by assumption) ?r3
  case h3 => (intro w hSw; go_simp; with_reducible rfl)
  simp only [Act.put, List.setIfInBounds_toArray, List.set_cons_zero, List.set_cons_succ]
  refine wpAnyK_take 4 12 (v := ?v4) rfl (by kernel_rfl) (by kernel_rfl) (by kernel_rfl) (by kernel_rfl) (by kernel_rfl) (fun _ _ _ h => h) rfl (Or.inl ⟨by rfl, ?h4⟩) (by assumption) ?r4
  case h4 => (intro w hSw; go_simp; with_reducible rfl)
  simp only [Act.put, List.setIfInBounds_toArray, List.set_cons_zero, List.set_cons_succ]
  refine wpAnyK_take 5 13 (v := ?v5) rfl (by kernel_rfl) (by kernel_rfl) (by kernel_rfl) (by kernel_rfl) (by kernel_rfl) (fun _ _ _ h => h) rfl (Or.inl ⟨by rfl, ?h5⟩) (by assumption) ?r5
  case h5 => (intro w hSw; go_simp; with_reducible rfl)
  simp only [Act.put, List.setIfInBounds_toArray, List.set_cons_zero, List.set_cons_succ]
  refine wpAnyK_take 6 14 (v := ?v6) rfl (by kernel_rfl) (by kernel_rfl) (by kernel_rfl) (by kernel_rfl) (by kernel_rfl) (fun _ _ _ h => h) rfl (Or.inl ⟨by rfl, ?h6⟩) (by assumption) ?r6
  case h6 => (intro w hSw; go_simp; with_reducible rfl)
  simp only [Act.put, List.setIfInBounds_toArray, List.set_cons_zero, List.set_cons_succ]
  refine wpAnyK_take 7 15 (v := ?v7) rfl (by kernel_rfl) (by kernel_rfl) (by kernel_rfl) (by kernel_rfl) (by kernel_rfl) (fun _ _ _ h => h) rfl (Or.inl ⟨by rfl, ?h7⟩) (by assumption) ?r7
  case h7 => (intro w hSw; go_simp; with_reducible rfl)
  simp only [Act.put, List.setIfInBounds_toArray, List.set_cons_zero, List.set_cons_succ]
  refine wpAnyK_one 8 (by kernel_rfl) rfl (fun K hK => ?_)
  go_simp
  go_wp2_with (go_at_call 71; refine (over14 _ _ _).mono ?_; rintro e' w7 ⟨f, rfl, hf, b7⟩)
  have S7 : w7.cell? ⟨C, 1, none⟩ = some (.func (.func 71) #[] #[]) ∧ w7.cell? ⟨B1, k, none⟩ = some (.float .f64 x) ∧ w7.cell? ⟨B2, k, none⟩ = some (.float .f64 y) := ⟨(Below.cell b7 (p := ⟨C, 1, none⟩) LT.out.1).trans S0.1, (Below.cell b7 (p := ⟨B1, k, none⟩) LT.out.2.1).trans S0.2.1, (Below.cell b7 (p := ⟨B2, k, none⟩) LT.out.2.2).trans S0.2.2⟩
  refine hK.out _ _ (fun _ _ => S7) ?_
  clear hK K
  simp only [List.setIfInBounds_toArray, List.set_cons_zero, List.set_cons_succ]
  refine wpAnyK_one 9 (by kernel_rfl) rfl (fun K hK => ?_)
  go_simp
  refine hK.out _ _ (fun h => absurd rfl h) ?_
  clear hK K
  simp only [List.setIfInBounds_toArray, List.set_cons_zero, List.set_cons_succ]
  refine wpAnyK_done (by kernel_rfl) ?_ _
  replace H12 := Sv.hid (And.intro (H12.out.1.bw b7) (H12.out.2.bw b7))
  replace HX2 := Sv.hid (HX2.out.bw b7)
  replace GB := Sv.hid (GB.out.trans (Sv.gb_bw b7 _))
  have HFF := Sv.hid hf
  have Q12 := Sv.hid (And.intro q1 q2)
  clear S0 S7 b7 hf q1 q2 LT hx hy
  clear W
  go_wp2
  go_loopw [20] (fun i wr => ∃ t : Nat, t ≤ L ∧ i = .int .i64 t ∧ Sv.Rw wr base B1 (k + L + 1) (k + D + 2) (fun j => if k < j ∧ j ≤ k + t then Sv.op .sub (F j) (Sv.op .mul (Sv.op .quo (F k) (G k)) (G j)) else F j) ∧ Sv.Rw wr base B2 (k + L + 1) (k + D + 2) G ∧ Sv.Bx wr C ∧ w.grownBy wr (some B1)) (fun i _ => L - (intOf i).toNat)
  case atStart => exact ⟨0, Nat.zero_le _, rfl, H12.out.1.ext (fun j hj => by rw [if_neg (by omega)]), H12.out.2, HX2.out, GB.out⟩
  case round =>
    clear H12 HX2 GB
    obtain ⟨t, ht, rfl, h1, h2, hb, hg⟩ := hrel
    by_cases ht1 : t < L
    · have ht2 : (t : Int) < L := by omega
      obtain ⟨j1, hj1⟩ : ∃ j1, j1 = t + 1 := ⟨_, rfl⟩
      have hs : (t : Int) + 1 = (j1 : Int) := by omega
      have hin : (j1 : Int) < (L : Int) + 1 := by omega
      obtain ⟨x, e1, hx, q1⟩ := h1.cell (j := k + j1) (by omega)
      obtain ⟨y, e2, hy, q2⟩ := h2.cell (j := k + j1) (by omega)
      rw [if_neg (by omega)] at q1
      have LT : Hid (C < wr.drew.heap.size ∧ B1 < wr.drew.heap.size ∧ B2 < wr.drew.heap.size) := ⟨hb.1, h1.lt.2, h2.lt.2⟩
      have HR := Sv.hid (And.intro (h1.bw (Bw.refl _).drew) (And.intro (h2.bw (Bw.refl _).drew) (And.intro (hb.bw (Bw.refl _).drew) (hg.trans (Sv.gb_bw (Bw.refl _).drew _)))))
      have S0 : wr.drew.cell? ⟨C, 0, none⟩ = some (.func (.func 70) #[] #[]) ∧ wr.drew.cell? ⟨B1, k + j1, none⟩ = some (.float .f64 x) ∧ wr.drew.cell? ⟨B2, k + j1, none⟩ = some (.float .f64 y) ∧ wr.drew.frozen? ⟨B1, k + j1, none⟩ = false := ⟨hb.2.1, e1, e2, h1.frozen _⟩
      have HJ := Sv.hid hj1
      have HQ := Sv.hid (And.intro q1 q2)
      clear h1 h2 hb hg e1 e2 hj1 q1 q2
      go_wp2_with fail
      have wg : IntKind.i64.wrap (j1 : Int) = j1 := wrap_small j1 (by omega) (by omega)
      refine wp_region_K (fun w' => w'.cell? ⟨C, 0, none⟩ = some (.func (.func 70) #[] #[]) ∧ w'.cell? ⟨B1, k + j1, none⟩ = some (.float .f64 x) ∧ w'.cell? ⟨B2, k + j1, none⟩ = some (.float .f64 y) ∧ w'.frozen? ⟨B1, k + j1, none⟩ = false) 16 17 #[false, false, false, false, false, false, false, false, false, false, false, false, false, false, false, false, false] (by kernel_rfl) (by kernel_rfl) (by kernel_rfl) ?_
      generalize wr.drew = W at *
      refine wpAnyK_take 0 23 (v := ?vb0) rfl (by kernel_rfl) (by kernel_rfl) (by kernel_rfl) (by kernel_rfl) (by kernel_rfl) (fun _ _ _ h => h) rfl (Or.inl ⟨by rfl, ?hb0⟩) (by assumption) ?rb0
      case hb0 => (intro w hSw; go_simp; with_reducible rfl)
      simp only [Act.put, List.setIfInBounds_toArray, List.set_cons_zero, List.set_cons_succ]
      refine wpAnyK_take 1 24 (v := ?vb1) rfl (by kernel_rfl) (by kernel_rfl) (by kernel_rfl) (by kernel_rfl) (by kernel_rfl) (fun _ _ _ h => h) rfl (Or.inl ⟨by rfl, ?hb1⟩) (by assumption) ?rb1
      case hb1 => (intro w hSw; go_simp; with_reducible rfl)
      simp only [Act.put, List.setIfInBounds_toArray, List.set_cons_zero, List.set_cons_succ]
      refine wpAnyK_take 2 25 (v := ?vb2) rfl (by kernel_rfl) (by kernel_rfl) (by kernel_rfl) (by kernel_rfl) (by kernel_rfl) (fun _ _ _ h => h) rfl (Or.inl ⟨by rfl, ?hb2⟩) (by assumption) ?rb2
      case hb2 => (intro w hSw; go_simp; with_reducible rfl)
      simp only [Act.put, List.setIfInBounds_toArray, List.set_cons_zero, List.set_cons_succ]
      refine wpAnyK_take 3 26 (v := ?vb3) rfl (by kernel_rfl) (by kernel_rfl) (by kernel_rfl) (by kernel_rfl) (by kernel_rfl) (fun _ _ _ h => h) rfl (Or.inl ⟨by rfl, ?hb3⟩) (by assumption) ?rb3
      case hb3 => (intro w hSw; go_simp; with_reducible rfl)
      simp only [Act.put, List.setIfInBounds_toArray, List.set_cons_zero, List.set_cons_succ]
      refine wpAnyK_take 4 27 (v := ?vb4) rfl (by kernel_rfl) (by kernel_rfl) (by kernel_rfl) (by kernel_rfl) (by kernel_rfl) (fun _ _ _ h => h) rfl (Or.inl ⟨by rfl, ?hb4⟩) (by assumption) ?rb4
      case hb4 => (intro w hSw; go_simp; with_reducible rfl)
      simp only [Act.put, List.setIfInBounds_toArray, List.set_cons_zero, List.set_cons_succ]
      refine wpAnyK_take 5 28 (v := ?vb5) rfl (by kernel_rfl) (by kernel_rfl) (by kernel_rfl) (by kernel_rfl) (by kernel_rfl) (fun _ _ _ h => h) rfl (Or.inl ⟨by rfl, ?hb5⟩) (by assumption) ?rb5
      case hb5 => (intro w hSw; go_simp; with_reducible rfl)
      simp only [Act.put, List.setIfInBounds_toArray, List.set_cons_zero, List.set_cons_succ]
      refine wpAnyK_take 6 29 (v := ?vb6) rfl (by kernel_rfl) (by kernel_rfl) (by kernel_rfl) (by kernel_rfl) (by kernel_rfl) (fun _ _ _ h => h) rfl (Or.inl ⟨by rfl, ?hb6⟩) (by assumption) ?rb6
      case hb6 => (intro w hSw; go_simp; with_reducible rfl)
      simp only [Act.put, List.setIfInBounds_toArray, List.set_cons_zero, List.set_cons_succ]
      refine wpAnyK_take 7 30 (v := ?vb7) rfl (by kernel_rfl) (by kernel_rfl) (by kernel_rfl) (by kernel_rfl) (by kernel_rfl) (fun _ _ _ h => h) rfl (Or.inl ⟨by rfl, ?hb7⟩) (by assumption) ?rb7
      case hb7 => (intro w hSw; go_simp; with_reducible rfl)
      simp only [Act.put, List.setIfInBounds_toArray, List.set_cons_zero, List.set_cons_succ]
      refine wpAnyK_take 8 31 (v := ?vb8) rfl (by kernel_rfl) (by kernel_rfl) (by kernel_rfl) (by kernel_rfl) (by kernel_rfl) (fun _ _ _ h => h) rfl (Or.inl ⟨by rfl, ?hb8⟩) (by assumption) ?rb8
      case hb8 => (intro w hSw; go_simp; with_reducible rfl)
      simp only [Act.put, List.setIfInBounds_toArray, List.set_cons_zero, List.set_cons_succ]
      refine wpAnyK_take 9 32 (v := ?vb9) rfl (by kernel_rfl) (by kernel_rfl) (by kernel_rfl) (by kernel_rfl) (by kernel_rfl) (fun _ _ _ h => h) rfl (Or.inl ⟨by rfl, ?hb9⟩) (by assumption) ?rb9
      case hb9 => (intro w hSw; go_simp; with_reducible rfl)
      simp only [Act.put, List.setIfInBounds_toArray, List.set_cons_zero, List.set_cons_succ]
      refine wpAnyK_take 10 33 (v := ?vb10) rfl (by kernel_rfl) (by kernel_rfl) (by kernel_rfl) (by kernel_rfl) (by kernel_rfl) (fun _ _ _ h => h) rfl (Or.inl ⟨by rfl, ?hb10⟩) (by assumption) ?rb10
      case hb10 => (intro w hSw; go_simp; with_reducible rfl)
      simp only [Act.put, List.setIfInBounds_toArray, List.set_cons_zero, List.set_cons_succ]
      refine wpAnyK_take 11 34 (v := ?vb11) rfl (by kernel_rfl) (by kernel_rfl) (by kernel_rfl) (by kernel_rfl) (by kernel_rfl) (fun _ _ _ h => h) rfl (Or.inl ⟨by rfl, ?hb11⟩) (by assumption) ?rb11
      case hb11 => (intro w hSw; go_simp; with_reducible rfl)
      simp only [Act.put, List.setIfInBounds_toArray, List.set_cons_zero, List.set_cons_succ]
      refine wpAnyK_take 12 35 (v := ?vb12) rfl (by kernel_rfl) (by kernel_rfl) (by kernel_rfl) (by kernel_rfl) (by kernel_rfl) (fun _ _ _ h => h) rfl (Or.inl ⟨by rfl, ?hb12⟩) (by assumption) ?rb12
      case hb12 => (intro w hSw; go_simp; with_reducible rfl)
      simp only [Act.put, List.setIfInBounds_toArray, List.set_cons_zero, List.set_cons_succ]
      refine wpAnyK_one 13 (by kernel_rfl) rfl (fun K hK => ?_)
      go_simp
      go_wp2_with (go_at_call 70; refine (times14 _ _ _).mono ?_; rintro e' w7 ⟨p, rfl, hp, b7⟩)
      have S7 : w7.cell? ⟨C, 0, none⟩ = some (.func (.func 70) #[] #[]) ∧ w7.cell? ⟨B1, k + j1, none⟩ = some (.float .f64 x) ∧ w7.cell? ⟨B2, k + j1, none⟩ = some (.float .f64 y) ∧ w7.frozen? ⟨B1, k + j1, none⟩ = false := ⟨(Below.cell b7 (p := ⟨C, 0, none⟩) LT.out.1).trans S0.1, (Below.cell b7 (p := ⟨B1, k + j1, none⟩) LT.out.2.1).trans S0.2.1, (Below.cell b7 (p := ⟨B2, k + j1, none⟩) LT.out.2.2).trans S0.2.2.1, (Below.frozen b7 (p := ⟨B1, k + j1, none⟩) LT.out.2.1).trans S0.2.2.2⟩
      obtain ⟨r, w8, hr1, hr2, E8, b8⟩ := Sv.run Sv.iSub x p w7
      have S8 : w8.cell? ⟨C, 0, none⟩ = some (.func (.func 70) #[] #[]) ∧ w8.cell? ⟨B1, k + j1, none⟩ = some (.float .f64 x) ∧ w8.cell? ⟨B2, k + j1, none⟩ = some (.float .f64 y) ∧ w8.frozen? ⟨B1, k + j1, none⟩ = false := ⟨(Below.cell b8 (p := ⟨C, 0, none⟩) (Nat.lt_of_lt_of_le LT.out.1 b7.size)).trans S7.1, (Below.cell b8 (p := ⟨B1, k + j1, none⟩) (Nat.lt_of_lt_of_le LT.out.2.1 b7.size)).trans S7.2.1, (Below.cell b8 (p := ⟨B2, k + j1, none⟩) (Nat.lt_of_lt_of_le LT.out.2.2 b7.size)).trans S7.2.2.1, (Below.frozen b8 (p := ⟨B1, k + j1, none⟩) (Nat.lt_of_lt_of_le LT.out.2.1 b7.size)).trans S7.2.2.2⟩
      have HR2 := Sv.hid hr2
      clear hr2
      refine hK.out _ _ (fun _ _ => S7) ?_
      clear hK K
      simp only [List.setIfInBounds_toArray, List.set_cons_zero, List.set_cons_succ]
      refine wpAnyK_one 14 (by kernel_rfl) rfl (fun K hK => ?_)
      go_simp
      refine hK.out _ _ (fun _ _ => S8) ?_
      clear hK K
      simp only [List.setIfInBounds_toArray, List.set_cons_zero, List.set_cons_succ]
      refine wpAnyK_take 15 38 (v := ?vb15) rfl (by kernel_rfl) (by kernel_rfl) (by kernel_rfl) (by kernel_rfl) (by kernel_rfl) (fun _ _ _ h => h) rfl (Or.inl ⟨by rfl, ?hb15⟩) (by assumption) ?rb15
      case hb15 => (intro w hSw; go_simp; with_reducible rfl)
      simp only [Act.put, List.setIfInBounds_toArray, List.set_cons_zero, List.set_cons_succ]
      refine wpAnyK_one 16 (by kernel_rfl) rfl (fun K hK => ?_)
      go_simp
      refine hK.out _ _ (fun h => absurd rfl h) ?_
      clear hK K
      simp only [List.setIfInBounds_toArray, List.set_cons_zero, List.set_cons_succ]
      refine wpAnyK_done (by kernel_rfl) ?_ _
      have R : Hid (Sv.Rw (w8.setCell ⟨B1, k + j1, none⟩ (.float .f64 r)) base B1 (k + L + 1) (k + D + 2) (fun j => if k < j ∧ j ≤ k + (t + 1) then Sv.op .sub (F j) (Sv.op .mul (Sv.op .quo (F k) (G k)) (G j)) else F j) ∧ Sv.Rw (w8.setCell ⟨B1, k + j1, none⟩ (.float .f64 r)) base B2 (k + L + 1) (k + D + 2) G ∧ Sv.Bx (w8.setCell ⟨B1, k + j1, none⟩ (.float .f64 r)) C ∧ w.grownBy (w8.setCell ⟨B1, k + j1, none⟩ (.float .f64 r)) (some B1)) := by
        obtain ⟨i1, i2, i3, i4⟩ := HR.out
        have hj := HJ.out
        obtain ⟨z1, z2⟩ := ((i1.bw b7).bw b8).set (k + j1) r hr1
        refine ⟨z1.ext (fun j hj2 => ?_), ((i2.bw b7).bw b8).gb z2 (by simp only [ne_eq, Option.some.injEq]; exact fun e => hne e.symm), ((i3.bw b7).bw b8).gb z2 (by simp only [ne_eq, Option.some.injEq]; exact HC.out), ((i4.trans (Sv.gb_bw b7 _)).trans (Sv.gb_bw b8 _)).trans z2⟩
        by_cases z : j = k + j1
        · subst z
          rw [if_pos rfl, if_pos (by omega), HR2.out, hp.2, HFF.out.2, HQ.out.1, HQ.out.2, Q12.out.1, Q12.out.2]
        · rw [if_neg z]
          by_cases y : k < j ∧ j ≤ k + t
          · rw [if_pos y, if_pos (by omega)]
          · rw [if_neg y, if_neg (by omega)]
      clear S0 S7 S8 HR b7 b8 E8 wg hs LT hp hx hy W
      go_wp2
      go_roundw
      case rel => exact ⟨t + 1, by omega, by simp, R.out.1, R.out.2.1, R.out.2.2.1, R.out.2.2.2⟩
      case measure => simp [intOf]; omega
    · have ht3 : t = L := by omega
      subst ht3
      have R := Sv.hid (And.intro (h1.ext (G := fun j => if k < j then Sv.op .sub (F j) (Sv.op .mul (Sv.op .quo (F k) (G k)) (G j)) else F j) (fun j hj => by
        by_cases y : k < j
        · rw [if_pos (by omega), if_pos y]
        · rw [if_neg (by omega), if_neg y])) hg)
      clear h1 h2 hb hg
      go_wp2
      go_end0
      exact ⟨rfl, R.out.1, R.out.2⟩
end Go.Proofs.Ytjfkdmddfeeheaa
