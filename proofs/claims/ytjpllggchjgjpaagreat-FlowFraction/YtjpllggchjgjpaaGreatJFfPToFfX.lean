/-
 OWN TEXT: package flow over whole complex numbers: a fraction's value at a place.
-/
import Derived.Test.YtjpllggchjgjpaaGreatJFfLToFfO
import Derived.Test.YtjpllggchjgjpaaGreatJFfV
namespace Go.Proofs.YtjpllggchjgjpaaGreat
open Go.ChangeShapes Go.WideShapes Go.ChangeAt Go.RowKit
set_option linter.unusedVariables false
set_option linter.unusedSimpArgs false
attribute [local go_sem] frombits_call tobits_call run_neg run_store_cx El.run_store_fl
namespace Ff
/-- A, and Z times what stands, and A .. -/
def hr (A Z : Nat) : Nat → Nat
 | 0 => A
 | t + 1 => hr A Z t * Z + A
theorem hr_mono {A Z : Nat} (hZ : 1 ≤ Z) {t n : Nat} (h : t ≤ n) : hr A Z t ≤ hr A Z n := by
 induction n with
 | zero => rw [show t = 0 by omega]; exact Nat.le_refl _
 | succ n ih =>
  by_cases k : t = n + 1
  · rw [k]; exact Nat.le_refl _
  ·
   refine Nat.le_trans (ih (by omega)) ?_
   show hr A Z n ≤ hr A Z n * Z + A
   have := Nat.le_mul_of_pos_right (hr A Z n) (show 0 < Z by omega)
   omega
theorem hr_mul {A B Z : Nat} (h : A ≤ B) : ∀ n, hr A Z n ≤ hr B Z n
 | 0 => h
 | n + 1 => by
  show hr A Z n * Z + A ≤ hr B Z n * Z + B
  have := Nat.mul_le_mul_right Z (hr_mul (Z := Z) h n)
  omega
theorem steps_hr {l : List Py.G} {n N A Z : Nat} (hl : ∀ i, Py.Le (Py.co l i) A) (hZ : 1 ≤ Z) (hn : n ≤ N) (hN : hr A Z N ≤ 9007199254740992) : Steps l n Z (fun k => hr A Z (n - k)) := by
 refine ⟨?_, fun k hk => ⟨A, hl k, ?_⟩, fun k hk => Nat.le_trans (hr_mono hZ (by omega)) hN⟩
 · simp only [Nat.sub_self]; exact hl n
 ·
  simp only
  rw [show n - k = (n - (k + 1)) + 1 by omega]
  exact Nat.le_refl _
theorem ev_hr {z : Py.G} {A Z : Nat} (hz : Py.Le z Z) : ∀ (l : List Py.G) (n : Nat), l.length = n + 1 → (∀ i, Py.Le (Py.co l i) A) → Py.Le (Py.ev l z) (hr A Z n)
 | [], n, h, _ => by simp at h
 | x :: r, 0, h, hl => by
  obtain rfl : r = [] := List.length_eq_zero_iff.1 (by simpa using h)
  rw [ev_c]
  exact hl 0
 | x :: r, n + 1, h, hl => by
  have ih := ev_hr hz r n (by simpa using h) (fun i => hl (i + 1))
  show Py.Le (Py.ga (Py.gm (Py.ev r z) z) x) (hr A Z n * Z + A)
  exact (ih.mul hz).add (hl 0)
theorem Pv.at {c : Nat} (hc : c = 1074) {w : World} {z : Py.G} {v : Value} {N A x y : Nat} {g : Py.G} (h : Pv c w z v N A g) (hz : wC c x y z) (lz : Py.Le z 6) (hN : hr A 6 N ≤ 9007199254740992) : Calls Tryz.prog 74 #[v, .complex .f64 x y] w fun e w' => ∃ r s, e = .returned (.tuple #[.complex .f64 r s, .int .i64 0]) ∧ wC c r s g ∧ Bw w w' := by
 obtain ⟨B, o, m, cap, l, rfl, h1, h2, h3, h4, h5⟩ := h
 have := at8 (cap := cap) hc _ h1 h3 hz lz (by decide) (steps_hr h4 (by decide) h2 hN)
 rw [h5] at this
 exact this
theorem Pv.le {c : Nat} {w : World} {z : Py.G} {v : Value} {N A : Nat} {g : Py.G} (h : Pv c w z v N A g) (lz : Py.Le z 6) : Py.Le g (hr A 6 N) := by
 obtain ⟨B, o, m, cap, l, rfl, h1, h2, h3, h4, h5⟩ := h
 rw [← h5]
 exact (ev_hr lz l m h1.1 h4).mono (hr_mono (by decide) h2)
end Ff
theorem pfin16 {x y : Nat} (hx : x < 18446744073709551616 ∧ Fl.rg x < 9218868437227405312) (hy : y < 18446744073709551616 ∧ Fl.rg y < 9218868437227405312) (w : World) : Calls Tryz.prog 32 #[.complex .f64 x y] w fun e w' => e = .returned (.bool true) ∧ w' = w := by
 have fx : Fl.finB x = true := by unfold Fl.finB; exact decide_eq_true hx.2
 have fy : Fl.finB y = true := by unfold Fl.finB; exact decide_eq_true hy.2
 have A1 : Hid (∀ wz, Calls Tryz.prog 52 #[.float .f64 x] wz fun e w' => e = .returned (.bool true) ∧ w' = wz) := fun wz => by have q := finite_any x wz hx.1; rw [fx] at q; exact q
 have A2 : Hid (∀ wz, Calls Tryz.prog 52 #[.float .f64 y] wz fun e w' => e = .returned (.bool true) ∧ w' = wz) := fun wz => by have q := finite_any y wz hy.1; rw [fy] at q; exact q
 clear hx hy fx fy
 go_enter Tryz.func32, Tryz.ntmps32
 go_wp2_with fail
 refine (A1.out _).mono ?_
 rintro e' w ⟨rfl, rfl⟩
 go_wp2_with fail
 refine (A2.out _).mono ?_
 rintro e' w ⟨rfl, rfl⟩
 go_wp2
 go_ret
 exact ⟨rfl, rfl⟩
set_option maxHeartbeats 8000000 in
theorem ratio16 {w : World} {vT vB : Value} {N A M B zx zy : Nat} {z T β : Py.G} (hT : Ff.Pv 1074 w z vT N A T) (hB : Ff.Pv 1074 w z vB M B β) (hβ : β ≠ (0, 0)) (hz : wC 1074 zx zy z) (lz : Py.Le z 6) (hN : Ff.hr A 6 N ≤ 9007199254740992) (hM : Ff.hr B 6 M ≤ 9007199254740992)
  (hfin : ∀ a b : El.Z, El.zW a T → El.zW b β → El.fin (El.zdiv a b) = true) :
  Calls Tryz.prog 22 #[.agg #[vT, vB], .complex .f64 zx zy] w fun e w' => ∃ u v a b, e = .returned (.tuple #[.complex .f64 u v, .int .i64 0]) ∧ El.c2 u v = El.zdiv a b ∧ El.zW a T ∧ El.zW b β ∧ Bw w w' := by
 have CK : Hid (∀ wz, Bw w wz → Calls Tryz.prog 44 #[.agg #[vT, vB]] wz fun e w' => e = .returned (.int .i64 0) ∧ Bw wz w') := fun wz hz => by
  obtain ⟨B1, o1, m1, cap1, l1, rfl, h1, h2, h3, h4, h5⟩ := hT
  obtain ⟨B2, o2, m2, cap2, l2, rfl, k1, k2, k3, k4, k5⟩ := hB
  refine rcheck10 rfl h1 (h3.bw hz) k1 (k3.bw hz) ?_
  by_cases q : m2 = 0
  ·
   right
   subst q
   intro e
   apply hβ
   obtain ⟨x, rfl⟩ : ∃ x, l2 = [x] := List.length_eq_one_iff.1 (by simpa using k1.1)
   rw [Ff.ev_c] at k5
   rw [← k5]
   exact e
  · exact Or.inl q
 have A1 := hide (fun wz (hb : Bw w wz) => (hT.bw hb).at rfl hz lz hN)
 have A2 := hide (fun wz (hb : Bw w wz) => (hB.bw hb).at rfl hz lz hM)
 have IN := hide (fun (x y : Nat) (h : wC 1074 x y β) (wz : World) => (show Calls Tryz.prog 75 #[.complex .f64 x y] wz fun e w' => e = .returned (.bool false) ∧ w' = wz from by
  have q := risnought10 h wz
  rw [decide_eq_false hβ] at q
  exact q))
 have FN := hide hfin
 obtain ⟨ta, tn, tc, rfl⟩ := hT.form
 obtain ⟨ba, bn, bc, rfl⟩ := hB.form
 have f1 := Fc.made w (.slice ta tn tc) (.slice ba bn bc) 45
 have bA := bw_alloc w (.cells #[.slice ta tn tc, .slice ba bn bc] 45)
 have HF := hide f1
 have QT : Hid (∀ wz, Bw w wz → Calls Tryz.prog 45 #[.slice ta tn tc, .slice ba bn bc, .complex .f64 zx zy] wz fun e w' => ∃ u v a b, e = .returned (.tuple #[.complex .f64 u v, .int .i64 0]) ∧ El.c2 u v = El.zdiv a b ∧ El.zW a T ∧ El.zW b β ∧ Bw wz w') := fun wz hb => by
  have HB := hide hb
  clear hT hB hβ hz lz hN hM hfin f1 bA HF CK hb
  go_enter Tryz.func45, Tryz.ntmps45
  go_wp2_with fail
  refine (A1.out _ HB.out).mono ?_
  rintro e' w1 ⟨r, s, rfl, ht, b1⟩
  have X2 := hide (A2.out _ (bw_trans HB.out b1))
  go_wp2_with fail
  refine X2.out.mono ?_
  rintro e' w2 ⟨p, q, rfl, hb2, b2⟩
  have X3 := hide (IN.out p q hb2)
  clear X2 A1 A2 IN
  go_wp2_with fail
  refine (X3.out _).mono ?_
  rintro e' w3 ⟨rfl, hw3⟩
  subst hw3
  have ZD := hide (fun wz => zdiv_any r s p q wz hb2.1.1 hb2.2.1)
  clear X3
  go_wp2_with fail
  refine (ZD.out _).mono ?_
  rintro e' w4 ⟨u, v, rfl, huv, lu, lv, b4⟩
  have KA := hide (And.intro huv (And.intro (Ff.c2_W ht) (And.intro (Ff.c2_W hb2) (bw_trans (bw_trans b1 b2) b4))))
  have fu : Fl.finB u = true ∧ Fl.finB v = true := by
   have h := FN.out _ _ (Ff.c2_W ht) (Ff.c2_W hb2)
   rw [← huv, ← El.fin_c, Bool.and_eq_true] at h
   exact h
  have PF := hide (fun wz => pfin16 ⟨lu, of_decide_eq_true fu.1⟩ ⟨lv, of_decide_eq_true fu.2⟩ wz)
  clear ZD huv lu lv fu ht hb2 b1 b2 b4 FN
  go_wp2_with fail
  refine (PF.out _).mono ?_
  rintro e' w5 ⟨rfl, hw5⟩
  subst hw5
  clear PF
  go_wp2
  go_ret2
  exact ⟨u, v, _, _, rfl, KA.out⟩
 clear hT hB hβ hz lz hN hM hfin f1 A1 A2 IN FN
 go_enter Tryz.func22, Tryz.ntmps22
 go_wp2_with fail
 refine (CK.out _ bA).mono ?_
 rintro e' w1 ⟨rfl, b1'⟩
 obtain ⟨_, u0, u1⟩ := HF.out.bw b1'
 replace bA := bw_trans bA b1'
 clear CK b1' HF
 go_wp2_with fail
 refine (QT.out _ bA).mono ?_
 rintro e' w2 ⟨u, v, a, b, rfl, q1, q2, q3, b2'⟩
 have R := hide (And.intro q1 (And.intro q2 (And.intro q3 (bw_trans bA b2'))))
 clear QT b2' u0 u1 q1 q2 q3 bA
 go_wp2
 go_ret2
 exact ⟨u, v, a, b, rfl, R.out⟩
end Go.Proofs.YtjpllggchjgjpaaGreat

/-
 OWN TEXT: package flow over whole complex numbers: sums of speeds.
-/
namespace Go.Proofs.YtjpllggchjgjpaaGreat
open Go.ChangeShapes Go.WideShapes Go.ChangeAt Go.RowKit
set_option linter.unusedVariables false
set_option linter.unusedSimpArgs false
attribute [local go_sem] frombits_call tobits_call run_neg run_store_cx El.run_store_fl
namespace Ff
def zadd (a b : El.Z) : El.Z := (Sv.op .add a.1 b.1, Sv.op .add a.2 b.2)
def zsum : List El.Z → El.Z
 | [] => (0, 0)
 | y :: r => r.foldl zadd y
theorem zsum_succ {Ys : List El.Z} {k : Nat} {Y : El.Z} (h : Ys[k + 1]? = some Y) : zsum (Ys.take (k + 1 + 1)) = zadd (zsum (Ys.take (k + 1))) Y := by
 cases Ys with
 | nil => simp at h
 | cons y r =>
  simp only [List.getElem?_cons_succ] at h
  show (r.take (k + 1)).foldl zadd y = zadd ((r.take k).foldl zadd y) Y
  rw [List.take_add_one, h, List.foldl_append]
  rfl
theorem fin_num {Y : El.Z} (h : El.fin Y = true) (h1 : Y.1 < 18446744073709551616) (h2 : Y.2 < 18446744073709551616) : El.c2 Y.1 Y.2 = Y := by
 unfold El.fin at h
 rw [Bool.and_eq_true] at h
 have q : ∀ x, Fl.finB x = true → Fl.nan x = false := fun x hx => by
  have := of_decide_eq_true hx
  unfold Fl.nan
  exact decide_eq_false (by omega)
 rw [El.c2_num (q _ h.1) (q _ h.2)]
theorem fin_eq {Y : El.Z} {u v : Nat} (h : El.fin Y = true) (e : El.c2 u v = Y) : u = Y.1 ∧ v = Y.2 := by
 have q : ∀ x b, Fl.bitsF x = b → Fl.finB b = true → x = b := fun x b hx hb => by
  by_cases n : Fl.nan x = true
  ·
   rw [Sv.c_nan n] at hx
   subst hx
   exact absurd hb (by decide)
  ·
   rw [Sv.c_num (Bool.eq_false_iff.2 n)] at hx
   exact hx
 unfold El.fin at h
 rw [Bool.and_eq_true] at h
 exact ⟨q u _ (congrArg Prod.fst e) h.1, q v _ (congrArg Prod.snd e) h.2⟩
/-- a list of complex numbers, by their words -/
def Zl (w : World) (b o : Nat) (Ys : List El.Z) : Prop := b < w.heap.size ∧ ∀ (i : Nat) (Y : El.Z), Ys[i]? = some Y → w.cell? ⟨b, o + i, none⟩ = some (.complex .f64 Y.1 Y.2)
end Ff
theorem zadd16 (a b c d : Nat) (w : World) : Calls Tryz.prog 78 #[.complex .f64 a b, .complex .f64 c d] w fun e w' => ∃ x y, e = .returned (.complex .f64 x y) ∧ El.c2 x y = Ff.zadd (El.c2 a b) (El.c2 c d) ∧ Bw w w' := by
 obtain ⟨x, w1, h1, e1, b1⟩ := op_run .add isAdd a c w
 obtain ⟨y, w2, h2, e2, b2⟩ := op_run .add isAdd b d w1
 have cs := csum_run (Or.inl rfl) e1 e2
 have R : Hid (El.c2 x y = Ff.zadd (El.c2 a b) (El.c2 c d)) := Prod.ext (Sv.op_of isAdd h1) (Sv.op_of isAdd h2)
 clear h1 h2 e1 e2
 go_enter Tryz.func78, Tryz.ntmps78
 go_wp2
 go_ret
 exact ⟨x, y, rfl, R.out, bw_trans b1 b2⟩
set_option maxHeartbeats 4000000 in
theorem psum16 {w : World} {b o cap n : Nat} {Ys : List El.Z} (hn : Ys.length = n) (hm : n ≤ 1000) (h : Ff.Zl w b o Ys) (hf : ∀ Y ∈ Ys, El.c2 Y.1 Y.2 = Y) :
  Calls Tryz.prog 48 #[.slice (some ⟨b, o, none⟩) n cap] w fun e w' => ∃ x y, e = .returned (.complex .f64 x y) ∧ El.c2 x y = Ff.zsum Ys ∧ Bw w w' := by
 have HN := hide hn
 have HF := hide hf
 have HL := hide h
 by_cases h0 : n = 0
 ·
  subst h0
  obtain rfl : Ys = [] := List.length_eq_zero_iff.1 hn
  clear hn hf h
  go_enter Tryz.func48, Tryz.ntmps48
  go_wp2
  go_ret
  exact ⟨0, 0, rfl, rfl, Bw.refl _⟩
 ·
  obtain ⟨Y0, e0⟩ : ∃ Y, Ys[0]? = some Y := ⟨Ys[0]'(by omega), by simp [show 0 < Ys.length by omega]⟩
  have c0 := h.2 0 Y0 e0
  rw [Nat.add_zero] at c0
  have HY0 := hide (show El.c2 Y0.1 Y0.2 = Ff.zsum (Ys.take (0 + 1)) from by
   rw [HF.out Y0 (List.mem_of_getElem? e0)]
   cases Ys with
   | nil => simp at e0
   | cons y r => simp at e0; rw [e0]; rfl)
  have hn0 : ¬ (n : Int) = 0 := by omega
  have hnp : (0 : Int) < (n : Int) := by omega
  have hnb : ((n : Int) == 0) = false := by rw [beq_eq_false_iff_ne]; omega
  have hw1 : wrap64 ((n : Int) - 1) = ((n - 1 : Nat) : Int) := by unfold wrap64; omega
  obtain ⟨n1, hn1⟩ : ∃ n1, n - 1 = n1 := ⟨_, rfl⟩
  rw [hn1] at hw1
  have HN1 := hide hn1
  have hn1m : n1 < 1000 := by omega
  clear hn hf h e0 hn1
  go_enter Tryz.func48, Tryz.ntmps48
  go_wp2
  go_wp2
  go_loopw [3, 14] (fun s i wr => ∃ (k x y : Nat), k ≤ n1 ∧ i = .int .i64 k ∧ s = .complex .f64 x y ∧ El.c2 x y = Ff.zsum (Ys.take (k + 1)) ∧ Bw w wr) (fun _ i _ => n1 - (intOf i).toNat)
  case atStart => exact ⟨0, _, _, Nat.zero_le _, rfl, rfl, HY0.out, Bw.refl _⟩
  case round =>
   obtain ⟨k, x, y, hk, rfl, rfl, hs, hb⟩ := hrel
   by_cases hk1 : k < n1
   ·
    have hk2 : (k : Int) < n1 := by omega
    obtain ⟨Y, eY⟩ : ∃ Y, Ys[k + 1]? = some Y := ⟨Ys[k + 1]'(by have := HN.out; have := HN1.out; omega), by simp [show k + 1 < Ys.length by have := HN.out; have := HN1.out; omega]⟩
    have cY := (Below.cell hb (p := ⟨b, o + (k + 1), none⟩) HL.out.1).trans (HL.out.2 (k + 1) Y eY)
    have hk4 : ((k + 1 : Nat) : Int) < n := by have := HN1.out; omega
    have R0 := hide (show Ff.zsum (Ys.take (k + 1 + 1)) = Ff.zadd (El.c2 x y) (El.c2 Y.1 Y.2) from by rw [Ff.zsum_succ eY, hs, HF.out Y (List.mem_of_getElem? eY)])
    have hk6 : (k : Int) < (n : Int) - 1 := by have := HN1.out; omega
    have hk7 : (k : Int) + 1 < n := by omega
    have ZA := hide (fun wz => zadd16 x y Y.1 Y.2 wz)
    have HB := hide hb
    clear hs eY hb hk4
    go_wp2_with fail
    refine (ZA.out _).mono ?_
    rintro e' w5 ⟨x2, y2, rfl, h2, b5⟩
    have R := hide (And.intro (h2.trans R0.out.symm) (bw_trans HB.out b5))
    clear ZA h2 b5 R0 HB cY hk6 hk7
    go_wp2
    go_roundw
    case rel => exact ⟨k + 1, x2, y2, by omega, by simp, rfl, R.out.1, R.out.2⟩
    case measure => simp [intOf]; omega
   ·
    have hk3 : k = n1 := by omega
    subst hk3
    have hT : Ys.take (k + 1) = Ys := List.take_of_length_le (by have := HN.out; have := HN1.out; omega)
    rw [hT] at hs
    have R := hide hs
    have hk6 : ¬ (k : Int) < (n : Int) - 1 := by have := HN1.out; omega
    clear hs hT
    go_wp2
    go_ret
    exact ⟨x, y, rfl, R.out, hb⟩
end Go.Proofs.YtjpllggchjgjpaaGreat

/-
 OWN TEXT: package flow over whole complex numbers: the speed of a flow.
-/
namespace Go.Proofs.YtjpllggchjgjpaaGreat
open Go.ChangeShapes Go.WideShapes Go.ChangeAt Go.RowKit
set_option linter.unusedVariables false
set_option linter.unusedSimpArgs false
attribute [local go_sem] frombits_call tobits_call run_neg run_store_cx El.run_store_fl
namespace Ff
/-- the speeds of the elements at a place, as the program tells them -/
def Spd (zx zy : Nat) (es : List Fe) (Ys : List El.Z) : Prop := Ys.length = es.length ∧ ∀ (i : Nat) (e : Fe) (Y : El.Z), es[i]? = some e → Ys[i]? = some Y → El.c2 Y.1 Y.2 = Y ∧ ∀ w, Calls Tryz.prog 23 #[.agg #[.int .u8 e.k, .complex .f64 e.a e.b, .complex .f64 e.s e.t, .float .f64 (pw e.n)], .complex .f64 zx zy] w fun r w' => r = .returned (.tuple #[.complex .f64 Y.1 Y.2, .int .i64 0]) ∧ Bw w w'
theorem zsum_lt {Ys : List El.Z} (h : ∀ Y ∈ Ys, Y.1 < 18446744073709551616 ∧ Y.2 < 18446744073709551616) : (zsum Ys).1 < 18446744073709551616 ∧ (zsum Ys).2 < 18446744073709551616 := by
 cases Ys with
 | nil => exact ⟨by show (0 : Nat) < _; decide, by show (0 : Nat) < _; decide⟩
 | cons y r =>
  show (r.foldl zadd y).1 < _ ∧ (r.foldl zadd y).2 < _
  have hy := h y (by simp)
  clear h
  induction r generalizing y with
  | nil => exact hy
  | cons x r ih => exact ih (zadd y x) ⟨Sv.op_lt _ _ _, Sv.op_lt _ _ _⟩
end Ff
set_option maxHeartbeats 4000000 in
theorem told16 {w : World} {a : Option Addr} {cap n i zx zy : Nat} {es : List Ff.Fe} {Ys : List El.Z} {e : Ff.Fe} {Y : El.Z} (hn : es.length = n) (hm : n ≤ 3) (hE : Ff.Es w a es) (hS : Ff.Spd zx zy es Ys) (he : es[i]? = some e) (hY : Ys[i]? = some Y) :
  Calls Tryz.prog 26 #[.slice a n cap, .int .i64 (i : Int), .complex .f64 zx zy] w fun r w' => r = .returned (.tuple #[.complex .f64 Y.1 Y.2, .int .i64 0]) ∧ Bw w w' := by
 have hi : i < es.length := by
  rcases Nat.lt_or_ge i es.length with q | q
  · exact q
  · rw [List.getElem?_eq_none q] at he; cases he
 have SP := hide (hS.2 i e Y he hY).2
 obtain ⟨b, o, rfl, _, hcell⟩ := hE.resolve_left (by omega)
 obtain ⟨e0, e1, e2, e3⟩ := hcell i e he
 have hi2 : (i : Int) < n := by omega
 clear hcell hS he hY hn
 go_enter Tryz.func26, Tryz.ntmps26
 go_wp2_with fail
 refine (SP.out _).mono ?_
 rintro e' w5 ⟨rfl, b5⟩
 clear SP e0 e1 e2 e3
 go_wp2
 go_ret2
 exact ⟨rfl, b5⟩
set_option maxHeartbeats 8000000 in
theorem of16f {w : World} {a : Option Addr} {cap n zx zy : Nat} {es : List Ff.Fe} {Ys : List El.Z} (hn : es.length = n) (hm : n ≤ 3) (hE : Ff.Es w a es) (hS : Ff.Spd zx zy es Ys) (hF : El.fin (Ff.zsum Ys) = true) (hL : ∀ Y ∈ Ys, Y.1 < 18446744073709551616 ∧ Y.2 < 18446744073709551616) :
  Calls Tryz.prog 25 #[.agg #[.slice a n cap, .complex .f64 zx zy], .func (.func 26) #[.slice a n cap] #[]] w fun r w' => ∃ x y, r = .returned (.tuple #[.complex .f64 x y, .int .i64 0]) ∧ El.c2 x y = Ff.zsum Ys ∧ Bw w w' := by
 have bA := bw_alloc w (.cells #[.slice a n cap, .complex .f64 zx zy] 58)
 have c0 : (w.alloc (.cells #[.slice a n cap, .complex .f64 zx zy] 58)).cell? ⟨w.heap.size, 0, none⟩ = some (.slice a n cap) := by simp
 have c1 : (w.alloc (.cells #[.slice a n cap, .complex .f64 zx zy] 58)).cell? ⟨w.heap.size, 1, none⟩ = some (.complex .f64 zx zy) := by simp
 have hs1 : (w.alloc (.cells #[.slice a n cap, .complex .f64 zx zy] 58)).heap.size = w.heap.size + 1 := by simp
 obtain ⟨W1, hW1⟩ : ∃ v, v = w.alloc (.cells #[.slice a n cap, .complex .f64 zx zy] 58) := ⟨_, rfl⟩
 rw [← hW1] at bA c0 c1 hs1
 have hmk := make_c (n : Int) n rfl (by omega) W1
 have bM := bw_alloc W1 (.cells (zcC n) 26)
 have hGw := Gw.made 1074 W1 n 26
 have HN := hide hn
 have HE := hide (hE.bw bA)
 have HS := hide hS
 have HFI := hide hF
 have HLT := hide (Ff.zsum_lt hL)
 have HW1 := hide hW1
 have HSZ := hide hs1
 clear hn hE hS hF hW1
 obtain ⟨B, hB⟩ : ∃ B, W1.heap.size = B := ⟨_, rfl⟩
 rw [hB] at hmk hGw
 have HB := hide hB
 clear hB
 go_enter Tryz.func25, Tryz.ntmps25
 have HC1 := hide c1
 rw [HW1.out] at c0 c1 hmk
 go_wp2
 rw [← HW1.out]
 clear c0 c1 hmk
 have c1 := HC1.out
 generalize W1.alloc (.cells (zcC n) 26) = W2 at *
 have hG0 := hide (show B < W2.heap.size ∧ (∀ j, j < n → ∃ v, W2.cell? ⟨B, j, none⟩ = some v) ∧ ∀ j, W2.frozen? ⟨B, j, none⟩ = false from ⟨hGw.1.1, fun j hj => by
  obtain ⟨x, y, e, _⟩ := hGw.1.2 j (by simpa using hj)
  rw [Nat.zero_add] at e
  exact ⟨_, e⟩, hGw.2⟩)
 have HM := hide bM
 have BA := hide bA
 clear hGw bM bA
 go_loopw [16] (fun i wr => ∃ k : Nat, k ≤ n ∧ i = .int .i64 k ∧ Hid ((∀ j, j < n → ∃ v, wr.cell? ⟨B, j, none⟩ = some v) ∧ (∀ j Y, j < k → Ys[j]? = some Y → wr.cell? ⟨B, j, none⟩ = some (.complex .f64 Y.1 Y.2)) ∧ (∀ j, wr.frozen? ⟨B, j, none⟩ = false) ∧ B < wr.heap.size) ∧ Bw W1 wr) (fun i _ => n - (intOf i).toNat)
 case atStart => exact ⟨0, Nat.zero_le _, rfl, hide ⟨hG0.out.2.1, fun j Y hj => absurd hj (by omega), hG0.out.2.2, hG0.out.1⟩, HM.out⟩
 case round =>
  obtain ⟨k, hk, rfl, HR, hb⟩ := hrel
  by_cases hk1 : k < n
  ·
   have hk2 : (k : Int) < n := by omega
   obtain ⟨e, he⟩ : ∃ e, es[k]? = some e := ⟨es[k]'(by have := HN.out; omega), by simp [show k < es.length by have := HN.out; omega]⟩
   obtain ⟨Y, hY⟩ : ∃ Y, Ys[k]? = some Y := ⟨Ys[k]'(by have := HN.out; have := HS.out.1; omega), by simp [show k < Ys.length by have := HN.out; have := HS.out.1; omega]⟩
   have TD := hide (told16 (cap := cap) HN.out hm (HE.out.bw hb) HS.out he hY)
   have c1' := (Below.cell hb (p := ⟨w.heap.size, 1, none⟩) (by have := HSZ.out; show w.heap.size < _; omega)).trans c1
   have HB2 := hide hb
   have HY := hide hY
   clear he hY hb
   go_wp2_with fail
   refine TD.out.mono ?_
   rintro e' w5 ⟨rfl, b5⟩
   obtain ⟨g1, g2, g3, g4⟩ := HR.out
   obtain ⟨v0, e0⟩ := g1 k hk1
   have x0 := (Below.cell b5 (p := ⟨B, k, none⟩) g4).trans e0
   have f0 := (Below.frozen b5 (p := ⟨B, k, none⟩) g4).trans (g3 k)
   have R : Hid (Hid ((∀ j, j < n → ∃ v, (w5.setCell ⟨B, k, none⟩ (.complex .f64 Y.1 Y.2)).cell? ⟨B, j, none⟩ = some v) ∧ (∀ j Y', j < k + 1 → Ys[j]? = some Y' → (w5.setCell ⟨B, k, none⟩ (.complex .f64 Y.1 Y.2)).cell? ⟨B, j, none⟩ = some (.complex .f64 Y'.1 Y'.2)) ∧ (∀ j, (w5.setCell ⟨B, k, none⟩ (.complex .f64 Y.1 Y.2)).frozen? ⟨B, j, none⟩ = false) ∧ B < (w5.setCell ⟨B, k, none⟩ (.complex .f64 Y.1 Y.2)).heap.size) ∧ Bw W1 (w5.setCell ⟨B, k, none⟩ (.complex .f64 Y.1 Y.2))) := by
    refine ⟨⟨fun j hj => ?_, fun j Y' hj hY' => ?_, fun j => ?_, ?_⟩, Below.setCell (bw_trans HB2.out b5) (by have := HB.out; show _ ≤ B; omega) _⟩
    ·
     by_cases q : k = j
     · subst q; exact ⟨_, Ff.set_any x0⟩
     ·
      obtain ⟨v, ev⟩ := g1 j hj
      exact ⟨v, by rw [Ff.set_off q]; exact (Below.cell b5 (p := ⟨B, j, none⟩) g4).trans ev⟩
    ·
     by_cases q : k = j
     ·
      subst q
      rw [HY.out] at hY'
      cases hY'
      exact Ff.set_any x0
     ·
      rw [Ff.set_off q]
      exact (Below.cell b5 (p := ⟨B, j, none⟩) g4).trans (g2 j Y' (by omega) hY')
    · rw [World.frozen?_setCell]; exact (Below.frozen b5 (p := ⟨B, j, none⟩) g4).trans (g3 j)
    ·
     have := b5.size
     simp [World.setCell]; omega
   clear TD g1 g2 g3 g4 e0 b5 HB2 HY HR c1'
   go_wp2
   go_roundw
   case rel => exact ⟨k + 1, by omega, by simp, R.out.1, R.out.2⟩
   case measure => simp [intOf]; omega
  ·
   have hk3 : k = n := by omega
   subst hk3
   obtain ⟨g1, g2, g3, g4⟩ := HR.out
   have PS := hide (psum16 (cap := k) (n := k) (Ys := Ys) (b := B) (o := 0) (by have := HN.out; have := HS.out.1; omega) (by omega) ⟨g4, fun i Y hY => by
    have hi : i < Ys.length := by
     rcases Nat.lt_or_ge i Ys.length with q | q
     · exact q
     · rw [List.getElem?_eq_none q] at hY; cases hY
    rw [Nat.zero_add]
    exact g2 i Y (by have := HN.out; have := HS.out.1; omega) hY⟩ (fun Y hY => by
    obtain ⟨i, hi, rfl⟩ := List.getElem_of_mem hY
    have hi2 : i < es.length := by have := HS.out.1; omega
    exact (HS.out.2 i es[i] Ys[i] (by simp [hi2]) (by simp [hi])).1))
   have HB2 := hide hb
   clear g1 g2 g3 g4 HR hb
   go_wp2_with fail
   refine PS.out.mono ?_
   rintro e' w5 ⟨x, y, rfl, hxy, b5⟩
   have hfx : El.fin (El.c2 x y) = true := by rw [hxy]; exact HFI.out
   have hxx := Ff.fin_eq HFI.out hxy
   have PF := hide (fun wz => pfin16 (x := x) (y := y) (by
    rw [← El.fin_c, Bool.and_eq_true] at hfx
    refine ⟨?_, of_decide_eq_true hfx.1⟩
    rw [hxx.1]
    exact HLT.out.1) (by
    rw [← El.fin_c, Bool.and_eq_true] at hfx
    refine ⟨?_, of_decide_eq_true hfx.2⟩
    rw [hxx.2]
    exact HLT.out.2) wz)
   have R := hide (And.intro hxy (bw_trans (bw_trans BA.out HB2.out) b5))
   clear PS hxy b5 hfx hxx HB2
   go_wp2_with fail
   refine (PF.out _).mono ?_
   rintro e' w6 ⟨rfl, hw6⟩
   subst hw6
   clear PF
   go_wp2
   go_ret2
   exact ⟨x, y, rfl, R.out⟩
end Go.Proofs.YtjpllggchjgjpaaGreat

/-
 OWN TEXT: package flow over whole complex numbers: the speed of a flow (the walk).
-/
namespace Go.Proofs.YtjpllggchjgjpaaGreat
open Go.ChangeShapes Go.WideShapes Go.ChangeAt Go.RowKit
set_option linter.unusedVariables false
set_option linter.unusedSimpArgs false
attribute [local go_sem] frombits_call tobits_call run_neg run_store_cx El.run_store_fl
theorem place16 {c x y : Nat} {g : Py.G} (hc : c = 1074) (hg : wC c x y g) (hl : Py.Le g 1099511627776) (w : World) : Calls Tryz.prog 30 #[.complex .f64 x y] w fun e w' => e = .returned (.bool true) ∧ w' = w := by
 have A1 : Hid (∀ wz, Calls Tryz.prog 80 #[.float .f64 x, .float .f64 4787326403894837248] wz fun e w' => e = .returned (.bool true) ∧ w' = wz) := fun wz => by have q := within_any x 4787326403894837248 wz hg.1.1; rw [hg.1.within hc hl.one.1] at q; exact q
 have A2 : Hid (∀ wz, Calls Tryz.prog 80 #[.float .f64 y, .float .f64 4787326403894837248] wz fun e w' => e = .returned (.bool true) ∧ w' = wz) := fun wz => by have q := within_any y 4787326403894837248 wz hg.2.1; rw [hg.2.within hc hl.one.2] at q; exact q
 clear hg hl
 have P : Hid (∀ wz, Calls Tryz.prog 51 #[.complex .f64 x y, .float .f64 4787326403894837248] wz fun e w' => e = .returned (.bool true) ∧ w' = wz) := by
  intro wz
  go_enter Tryz.func51, Tryz.ntmps51
  go_wp2_with fail
  refine (A1.out _).mono ?_
  rintro e' w ⟨rfl, rfl⟩
  go_wp2_with fail
  refine (A2.out _).mono ?_
  rintro e' w ⟨rfl, rfl⟩
  go_wp2
  go_ret
  exact ⟨rfl, rfl⟩
 clear A1 A2
 go_enter Tryz.func30, Tryz.ntmps30
 go_wp2_with fail
 refine (P.out _).mono ?_
 rintro e' w ⟨rfl, rfl⟩
 go_wp2
 go_ret
 exact ⟨rfl, rfl⟩
namespace Ff
theorem sum_load {w : World} {B : Nat} {x y : Value} (h0 : w.cell? ⟨B, 0, none⟩ = some x) (h1 : w.cell? ⟨B, 1, none⟩ = some y) : (loadVar 58 ⟨B, 0, none⟩).run Tryz.prog w = .ok (.agg #[x, y]) w := by
 refine run_loadVar_mid w B 0 58 [x, y] _ (fun j v hv => ?_) Tryz.underlying58 rfl (by kernel_rfl)
 match j, hv with
 | 0, hv => cases hv; exact h0
 | 1, hv => cases hv; exact h1
theorem res_sum {fn : Func} {i j : Tmp} (hr : fn.results = #[.cell i 58, .tmp j]) (tmps : Array Value) (w : World) (B : Nat) {x y : Value} (hi : tmps.getD i undef = .pointer (some ⟨B, 0, none⟩)) (h0 : w.cell? ⟨B, 0, none⟩ = some x) (h1 : w.cell? ⟨B, 1, none⟩ = some y) : (results fn tmps).run Tryz.prog w = .ok (.tuple #[.agg #[x, y], tmps.getD j undef]) w := by
 rw [results_cell_tmp hr, hi]
 simp only [asAddr, Sem.run_pure, Result.andThen_ok, sum_load h0 h1]
end Ff
set_option maxHeartbeats 8000000 in
theorem sumat16 {w : World} {a : Option Addr} {cap n zx zy : Nat} {z : Py.G} {es : List Ff.Fe} (hn : es.length = n) (hm : n ≤ 3) (hE : Ff.Es w a es) (ho : ∀ e ∈ es, e.ok 1074) (hz : wC 1074 zx zy z) (lz : Py.Le z 6) :
  Calls Tryz.prog 24 #[.agg #[.slice a n cap], .complex .f64 zx zy] w fun r w' => r = .returned (.tuple #[.agg #[.slice a n cap, .complex .f64 zx zy], .int .i64 0]) ∧ Bw w w' := by
 have bA := bw_alloc w (.cells #[.slice a n cap] 24)
 have c0 : (w.alloc (.cells #[.slice a n cap] 24)).cell? ⟨w.heap.size, 0, none⟩ = some (.slice a n cap) := by simp
 have hs1 : (w.alloc (.cells #[.slice a n cap] 24)).heap.size = w.heap.size + 1 := by simp
 obtain ⟨W1, hW1⟩ : ∃ v, v = w.alloc (.cells #[.slice a n cap] 24) := ⟨_, rfl⟩
 rw [← hW1] at bA c0 hs1
 have b2 := bw_alloc W1 (.cells #[.slice none 0 0, .complex .f64 0 0] 58)
 have r0 : (W1.alloc (.cells #[.slice none 0 0, .complex .f64 0 0] 58)).cell? ⟨W1.heap.size, 0, none⟩ = some (.slice none 0 0) := by simp
 have r1 : (W1.alloc (.cells #[.slice none 0 0, .complex .f64 0 0] 58)).cell? ⟨W1.heap.size, 1, none⟩ = some (.complex .f64 0 0) := by simp
 have rz := Ff.fz_new W1 #[.slice none 0 0, .complex .f64 0 0] 58
 have hs2 : (W1.alloc (.cells #[.slice none 0 0, .complex .f64 0 0] 58)).heap.size = W1.heap.size + 1 := by simp
 obtain ⟨W2, hW2⟩ : ∃ v, v = W1.alloc (.cells #[.slice none 0 0, .complex .f64 0 0] 58) := ⟨_, rfl⟩
 rw [← hW2] at b2 r0 r1 rz hs2
 have bW := bw_trans bA b2
 have SF := hide (fun wz (hb : Bw W2 wz) => (show wz.cell? ⟨w.heap.size, 0, none⟩ = some (.slice a n cap) ∧ wz.cell? ⟨W1.heap.size, 0, none⟩ = some (.slice none 0 0) ∧ wz.cell? ⟨W1.heap.size, 1, none⟩ = some (.complex .f64 0 0) ∧ wz.frozen? ⟨W1.heap.size, 0, none⟩ = false ∧ wz.frozen? ⟨W1.heap.size, 1, none⟩ = false from by
  have h1 : w.heap.size < W1.heap.size := by omega
  have h2 : W1.heap.size < W2.heap.size := by omega
  exact ⟨(Below.cell (bw_trans b2 hb) (p := ⟨w.heap.size, 0, none⟩) h1).trans c0, (Below.cell hb (p := ⟨W1.heap.size, 0, none⟩) h2).trans r0, (Below.cell hb (p := ⟨W1.heap.size, 1, none⟩) h2).trans r1, (Below.frozen hb (p := ⟨W1.heap.size, 0, none⟩) h2).trans (rz 0), (Below.frozen hb (p := ⟨W1.heap.size, 1, none⟩) h2).trans (rz 1)⟩))
 have CK := hide (fcheck16 (cap := cap) hn hm (hE.bw bW) ho)
 have PL := hide (fun wz => place16 (c := 1074) rfl hz (lz.mono (by decide)) wz)
 have BW := hide bW
 have SZ := hide (And.intro hs1 hs2)
 have HW1 := hide hW1
 have HW2 := hide hW2
 have S1' := hide hs1
 obtain ⟨s0, s1, s2, s3, s4⟩ := SF.out W2 (Bw.refl W2)
 clear bA c0 hs1 b2 r0 r1 rz hs2 bW hE ho hn hW1 hW2 hz lz
 go_enter Tryz.func24, Tryz.ntmps24
 go_wp2_with fail
 rw [← HW1.out, ← HW2.out, ← S1'.out]
 refine CK.out.mono ?_
 rintro e' w3 ⟨rfl, b3⟩
 obtain ⟨s0, s1, s2, s3, s4⟩ := SF.out w3 b3
 clear CK
 go_wp2_with fail
 refine (PL.out _).mono ?_
 rintro e' w4 ⟨rfl, hw4⟩
 subst hw4
 have FIN : Hid (∀ V, V = (w4.setCell ⟨W1.heap.size, 0, none⟩ (.slice a n cap)).setCell ⟨W1.heap.size, 1, none⟩ (.complex .f64 zx zy) → V.cell? ⟨W1.heap.size, 0, none⟩ = some (.slice a n cap) ∧ V.cell? ⟨W1.heap.size, 1, none⟩ = some (.complex .f64 zx zy) ∧ Bw w V) := by
  rintro V rfl
  have h1 : w.heap.size ≤ W1.heap.size := by have := SZ.out.1; omega
  exact ⟨by rw [Ff.set_off (by decide)]; exact Ff.set_any s1, Ff.set_any (by rw [Ff.set_off (by decide)]; exact s2), Below.setCell (Below.setCell (bw_trans BW.out b3) h1 _) h1 _⟩
 clear PL b3
 go_wp2
 obtain ⟨f0, f1, f2⟩ := FIN.out _ rfl
 refine bodyPost_ret (Ff.res_sum rfl _ _ W1.heap.size rfl f0 f1) rfl ?_
 exact ⟨rfl, f2⟩
set_option maxHeartbeats 8000000 in
theorem fspeed16 {w : World} {a : Option Addr} {cap n zx zy : Nat} {z : Py.G} {es : List Ff.Fe} {Ys : List El.Z} (hn : es.length = n) (hm : n ≤ 3) (hE : Ff.Es w a es) (ho : ∀ e ∈ es, e.ok 1074) (hz : wC 1074 zx zy z) (lz : Py.Le z 6) (hS : Ff.Spd zx zy es Ys) (hF : El.fin (Ff.zsum Ys) = true) (hL : ∀ Y ∈ Ys, Y.1 < 18446744073709551616 ∧ Y.2 < 18446744073709551616) :
  Calls Tryz.prog 8 #[.agg #[.slice a n cap], .complex .f64 zx zy] w fun r w' => ∃ x y, r = .returned (.tuple #[.complex .f64 x y, .int .i64 0]) ∧ El.c2 x y = Ff.zsum Ys ∧ Bw w w' := by
 have bA := bw_alloc w (.cells #[.slice a n cap] 24)
 have SA := hide (sumat16 (cap := cap) hn hm (hE.bw bA) ho hz lz)
 have OF := hide (fun (wz : World) (hb : Bw w wz) => of16f (cap := cap) hn hm (hE.bw hb) hS hF hL)
 have BA := hide bA
 clear bA hn hE ho hz lz hS hF hL
 go_enter Tryz.func8, Tryz.ntmps8
 go_wp2_with fail
 refine SA.out.mono ?_
 rintro e' w3 ⟨rfl, b3⟩
 have bC := bw_alloc w3 (.cells #[.slice a n cap, .complex .f64 zx zy] 58)
 have OF2 := hide (OF.out _ (bw_trans (bw_trans BA.out b3) bC))
 have B3 := hide (bw_trans (bw_trans BA.out b3) bC)
 clear SA OF b3 bC
 go_wp2_with fail
 refine OF2.out.mono ?_
 rintro e' w5 ⟨x, y, rfl, hxy, b5⟩
 have R := hide (And.intro hxy (bw_trans B3.out b5))
 clear OF2 hxy b5 B3
 go_wp2
 go_ret2
 exact ⟨x, y, rfl, R.out⟩
end Go.Proofs.YtjpllggchjgjpaaGreat

/-
 OWN TEXT: package flow over whole complex numbers: elements' speeds and the fraction as Lean's fractions.
-/
set_option linter.unusedVariables false
set_option exponentiation.threshold 3000
namespace Go.Proofs.YtjpllggchjgjpaaGreat.Ff
open Sv (rv Ab ab Fi en uu)
/-- what a G is by another one, times its square: parts -/
def gP (g b : Py.G) : Rat := (g.1 : Rat) * b.1 + (g.2 : Rat) * b.2
def gR (g b : Py.G) : Rat := (g.2 : Rat) * b.1 - (g.1 : Rat) * b.2
def gN (b : Py.G) : Rat := (b.1 : Rat) * b.1 + (b.2 : Rat) * b.2
theorem gP_ga (g h b : Py.G) : gP (Py.ga g h) b = gP g b + gP h b := by
 unfold gP Py.ga
 rw [Rat.intCast_add, Rat.intCast_add]; grind
theorem gR_ga (g h b : Py.G) : gR (Py.ga g h) b = gR g b + gR h b := by
 unfold gR Py.ga
 rw [Rat.intCast_add, Rat.intCast_add]; grind
theorem gm_cast (g h : Py.G) : (((Py.gm g h).1 : Int) : Rat) = (g.1 : Rat) * h.1 - (g.2 : Rat) * h.2 ∧ (((Py.gm g h).2 : Int) : Rat) = (g.1 : Rat) * h.2 + (g.2 : Rat) * h.1 := by
 unfold Py.gm
 constructor
 · rw [Rat.intCast_sub, Rat.intCast_mul, Rat.intCast_mul]
 · rw [Rat.intCast_add, Rat.intCast_mul, Rat.intCast_mul]
theorem gP_gm (x b : Py.G) : gP (Py.gm x b) b = (x.1 : Rat) * gN b ∧ gR (Py.gm x b) b = (x.2 : Rat) * gN b := by
 obtain ⟨h1, h2⟩ := gm_cast x b
 unfold gP gR gN
 rw [h1, h2]
 constructor <;> grind
theorem gN_gm (x y : Py.G) : gN (Py.gm x y) = gN x * gN y := by
 obtain ⟨h1, h2⟩ := gm_cast x y
 unfold gN
 rw [h1, h2]
 grind
theorem gP_frac (a c d : Py.G) : gP (Py.gm a c) (Py.gm c d) = gN c * gP a d ∧ gR (Py.gm a c) (Py.gm c d) = gN c * gR a d := by
 obtain ⟨h1, h2⟩ := gm_cast a c
 obtain ⟨h3, h4⟩ := gm_cast c d
 unfold gP gR gN
 rw [h1, h2, h3, h4]
 constructor <;> grind
theorem gN_int (b : Py.G) : gN b = ((b.1 * b.1 + b.2 * b.2 : Int) : Rat) := by unfold gN; rw [Rat.intCast_add, Rat.intCast_mul, Rat.intCast_mul]
theorem gN_one {b : Py.G} (h : b ≠ (0, 0)) : 1 ≤ gN b := by
 rw [gN_int]
 have h1 := Py.sq_nonneg b.1
 have h2 := Py.sq_nonneg b.2
 have h3 : 1 ≤ b.1 * b.1 + b.2 * b.2 := by
  by_cases z : b.1 * b.1 + b.2 * b.2 = 0
  ·
   exfalso
   apply h
   have e1 : b.1 * b.1 = 0 := by omega
   have e2 : b.2 * b.2 = 0 := by omega
   rcases Int.mul_eq_zero.1 e1 with q | q <;> rcases Int.mul_eq_zero.1 e2 with r | r <;> exact Prod.ext q r
  · omega
 have h4 : ((1 : Int) : Rat) ≤ ((b.1 * b.1 + b.2 * b.2 : Int) : Rat) := Rat.intCast_le_intCast.2 h3
 simpa using h4
theorem gP_int (g b : Py.G) : gP g b = ((g.1 * b.1 + g.2 * b.2 : Int) : Rat) ∧ gR g b = ((g.2 * b.1 - g.1 * b.2 : Int) : Rat) := by
 unfold gP gR
 constructor
 · rw [Rat.intCast_add, Rat.intCast_mul, Rat.intCast_mul]
 · rw [Rat.intCast_sub, Rat.intCast_mul, Rat.intCast_mul]
/-- near the true speed: its parts p, q; noughts are noughts -/
structure Nx (Y : El.Z) (p q : Rat) : Prop where
 f1 : Fi Y.1
 f2 : Fi Y.2
 e1 : Ab (rv Y.1 - p) (1 / 8796093022208 * (ab p + ab q))
 e2 : Ab (rv Y.2 - q) (1 / 8796093022208 * (ab p + ab q))
 lo : ab p + ab q = 0 ∨ 1 ≤ 4194304 * (ab p + ab q)
 hi : ab p + ab q ≤ 1099511627776
theorem div_ab {r N P L : Rat} (hN : 0 < N) (h : Ab (r * N - P) L) : Ab (r - P / N) (L / N) := by
 have hi : 0 < N⁻¹ := Rat.inv_pos.2 hN
 have hu : N * N⁻¹ = 1 := Rat.mul_inv_cancel N (by grind)
 rw [Rat.div_def, Rat.div_def]
 obtain ⟨h1, h2⟩ := h
 have k1 := Rat.mul_le_mul_of_nonneg_right h1 (Rat.le_of_lt hi)
 have k2 := Rat.mul_le_mul_of_nonneg_right h2 (Rat.le_of_lt hi)
 have e : (r * N - P) * N⁻¹ = r - P * N⁻¹ := by
  rw [show (r * N - P) * N⁻¹ = r * (N * N⁻¹) - P * N⁻¹ by grind, hu]; grind
 rw [e] at k1 k2
 constructor
 · grind
 · exact k2
theorem ab_div (P N : Rat) (hN : 0 < N) : ab (P / N) = ab P / N := by
 have hi : 0 < N⁻¹ := Rat.inv_pos.2 hN
 rw [Rat.div_def, Rat.div_def]
 by_cases z : 0 ≤ P
 ·
  have : 0 ≤ P * N⁻¹ := Rat.mul_nonneg z (Rat.le_of_lt hi)
  unfold ab
  rw [if_pos z, if_pos this]
 ·
  have h1 : 0 < (-P) * N⁻¹ := Rat.mul_pos (by grind) hi
  unfold ab
  rw [if_neg z, if_neg (by grind)]
  grind
theorem nx_exact {Y : El.Z} {X : Py.G} (h : El.zW Y X) (h1 : X.1.natAbs ≤ 1000000) (h2 : X.2.natAbs ≤ 1000000) : Nx Y (X.1 : Rat) (X.2 : Rat) := by
 have n1 := Sv.ab_nat X.1 _ h1
 have n2 := Sv.ab_nat X.2 _ h2
 have c : ((1000000 : Nat) : Rat) = 1000000 := rfl
 rw [c] at n1 n2
 have p1 := Sv.ab_nn (X.1 : Rat)
 have p2 := Sv.ab_nn (X.2 : Rat)
 have q : ∀ n : Int, ab (n : Rat) = 0 ∨ 1 ≤ ab (n : Rat) := fun n => by
  by_cases z : n = 0
  · left; rw [z]; show ab ((0 : Int) : Rat) = 0; unfold ab; simp
  · exact Or.inr (Sv.ab_int n z)
 refine ⟨Sv.fi_whole h.1, Sv.fi_whole h.2, ?_, ?_, ?_, by grind⟩
 · rw [Sv.rv_whole h.1]; unfold Ab; constructor <;> grind
 · rw [Sv.rv_whole h.2]; unfold Ab; constructor <;> grind
 · rcases q X.1 with z1 | z1 <;> rcases q X.2 with z2 | z2 <;> grind
theorem nx_quo {a b : El.Z} {A B : Py.G} (ha : El.zW a A) (hb : El.zW b B) (hB : B ≠ (0, 0)) (lA : Py.Le A 1000) (lB : Py.Le B 1728) : Nx (El.zdiv a b) (gP A B / gN B) (gR A B / gN B) := by
 have hA := lA.one
 have hB1 := lB.one
 have hz := Sv.zdiv_near ha hb hB (by omega) (by omega) (by omega) (by omega)
 have h1 : Sv.Nr (El.zdiv a b).1 (gN B) (gP A B) (ab (gP A B) + ab (gR A B)) := hz.1
 have h2 : Sv.Nr (El.zdiv a b).2 (gN B) (gR A B) (ab (gP A B) + ab (gR A B)) := hz.2
 have hN1 := gN_one hB
 have hN : 0 < gN B := by grind
 have hNhi : gN B ≤ 4194304 := by
  rw [gN_int]
  have h : B.1 * B.1 + B.2 * B.2 ≤ (4194304 : Int) := by
   have := lB
   unfold Py.Le at this
   omega
  have h4 : ((B.1 * B.1 + B.2 * B.2 : Int) : Rat) ≤ ((4194304 : Int) : Rat) := Rat.intCast_le_intCast.2 h
  exact h4
 have hL : ab (gP A B / gN B) + ab (gR A B / gN B) = (ab (gP A B) + ab (gR A B)) / gN B := by
  rw [ab_div _ _ hN, ab_div _ _ hN, Rat.div_def, Rat.div_def, Rat.div_def]; grind
 have hi : 0 < (gN B)⁻¹ := Rat.inv_pos.2 hN
 have hu : gN B * (gN B)⁻¹ = 1 := Rat.mul_inv_cancel _ (by grind)
 have d1 := div_ab hN h1.2
 have d2 := div_ab hN h2.2
 have hLn : 0 ≤ (ab (gP A B) + ab (gR A B)) / gN B := by
  rw [Rat.div_def]
  exact Rat.mul_nonneg (by have := Sv.ab_nn (gP A B); have := Sv.ab_nn (gR A B); grind) (Rat.le_of_lt hi)
 have hc : 48 * uu * (ab (gP A B) + ab (gR A B)) / gN B ≤ 1 / 8796093022208 * ((ab (gP A B) + ab (gR A B)) / gN B) := by
  rw [Rat.div_def] at hLn ⊢
  rw [Rat.div_def]
  unfold uu
  grind
 rw [← hL] at hc
 have pi := gP_int A B
 have q : ∀ n : Int, ab (n : Rat) = 0 ∨ 1 ≤ ab (n : Rat) := fun n => by
  by_cases z : n = 0
  · left; rw [z]; show ab ((0 : Int) : Rat) = 0; unfold ab; simp
  · exact Or.inr (Sv.ab_int n z)
 refine ⟨h1.1, h2.1, d1.mono hc, d2.mono hc, ?_, ?_⟩
 ·
  rw [hL]
  have hPR : ab (gP A B) + ab (gR A B) = 0 ∨ 1 ≤ ab (gP A B) + ab (gR A B) := by
   rw [pi.1, pi.2]
   have n1 := Sv.ab_nn ((A.1 * B.1 + A.2 * B.2 : Int) : Rat)
   have n2 := Sv.ab_nn ((A.2 * B.1 - A.1 * B.2 : Int) : Rat)
   rcases q (A.1 * B.1 + A.2 * B.2) with z1 | z1 <;> rcases q (A.2 * B.1 - A.1 * B.2) with z2 | z2 <;> grind
  rcases hPR with z | z
  · left; rw [z, Rat.div_def]; grind
  ·
   right
   rw [Rat.div_def]
   have k1 : 1 * (gN B)⁻¹ ≤ (ab (gP A B) + ab (gR A B)) * (gN B)⁻¹ := Rat.mul_le_mul_of_nonneg_right z (Rat.le_of_lt hi)
   have k2 : gN B * (gN B)⁻¹ ≤ 4194304 * (gN B)⁻¹ := Rat.mul_le_mul_of_nonneg_right hNhi (Rat.le_of_lt hi)
   grind
 ·
  rw [hL, Rat.div_def]
  have b1 := Sv.ab_nat (A.1 * B.1 + A.2 * B.2) 10000000 (by
   have e1 := Int.natAbs_mul A.1 B.1
   have e2 := Int.natAbs_mul A.2 B.2
   have m1 := Nat.mul_le_mul hA.1 hB1.1
   have m2 := Nat.mul_le_mul hA.2 hB1.2
   omega)
  have b2 := Sv.ab_nat (A.2 * B.1 - A.1 * B.2) 10000000 (by
   have e1 := Int.natAbs_mul A.2 B.1
   have e2 := Int.natAbs_mul A.1 B.2
   have m1 := Nat.mul_le_mul hA.2 hB1.1
   have m2 := Nat.mul_le_mul hA.1 hB1.2
   omega)
  rw [← pi.1] at b1
  rw [← pi.2] at b2
  have c : ((10000000 : Nat) : Rat) = 10000000 := rfl
  rw [c] at b1 b2
  have k1 : (ab (gP A B) + ab (gR A B)) * (gN B)⁻¹ ≤ 20000000 * (gN B)⁻¹ := Rat.mul_le_mul_of_nonneg_right (by grind) (Rat.le_of_lt hi)
  have k2 : 1 * (gN B)⁻¹ ≤ gN B * (gN B)⁻¹ := Rat.mul_le_mul_of_nonneg_right hN1 (Rat.le_of_lt hi)
  grind
theorem gp_ne {g : Py.G} (h : g ≠ (0, 0)) : ∀ n, gp g n ≠ (0, 0)
 | 0 => by show ((1 : Int), (0 : Int)) ≠ (0, 0); decide
 | n + 1 => fun e => by
  rcases Py.gm_zero (a := gp g n) (b := g) e with q | q
  · exact gp_ne h n q
  · exact h q
theorem prd_ne {z : Py.G} : ∀ {cs : List (Py.G × Nat)}, (∀ p ∈ cs, p.1 ≠ z) → prd (rl cs) z ≠ (0, 0)
 | [], _ => by show ((1 : Int), (0 : Int)) ≠ (0, 0); decide
 | (g, f) :: r, h => fun e => by
  rw [prd_cons] at e
  have hg : Py.gs z g ≠ (0, 0) := fun e2 => by
   apply h (g, f) (by simp)
   unfold Py.gs at e2
   have e3 := congrArg Prod.fst e2
   have e4 := congrArg Prod.snd e2
   simp only at e3 e4
   exact Prod.ext (by show g.1 = z.1; omega) (by show g.2 = z.2; omega)
  rcases Py.gm_zero e with q | q
  · exact gp_ne hg f q
  · exact prd_ne (fun p hp => h p (by simp [hp])) q
theorem cm_ne {z : Py.G} {es : List Fe} (h : ∀ e ∈ es, e.k = 3 → e.at_ ≠ z) : prd (rl (cm es)) z ≠ (0, 0) := by
 refine prd_ne ?_
 unfold cm
 suffices H : ∀ (es : List Fe) (cs : List (Py.G × Nat)), (∀ e ∈ es, e.k = 3 → e.at_ ≠ z) → (∀ p ∈ cs, p.1 ≠ z) → ∀ p ∈ es.foldl cst cs, p.1 ≠ z from H es [] h (by simp)
 intro es
 induction es with
 | nil => intro cs _ h; exact h
 | cons e es ih =>
  intro cs he hc
  rw [List.foldl_cons]
  refine ih _ (fun x hx => he x (by simp [hx])) ?_
  unfold cst
  split
  ·
   rename_i hk
   exact tk_all (P := fun p => p.1 ≠ z) (fun g f m h1 _ => h1) cs _ _ hc (he e (by simp) hk)
  · exact hc
/-- an element's speed, and its top -/
theorem sp_nx {e : Fe} (ho : e.ok 1074) {z : Py.G} (hz : z.1.natAbs ≤ 4 ∧ z.2.natAbs ≤ 4) {Y : El.Z} (h : SpY z e Y) {cs : List (Py.G × Nat)} (h3 : e.k = 3 → e.at_ ≠ z) (hh : e.k = 3 → Held cs e.at_ (e.n + 1)) :
  ∃ p q, Nx Y p q ∧ p * gN (prd (rl cs) z) = gP (partv cs z (prd (rl cs) z) e) (prd (rl cs) z) ∧ q * gN (prd (rl cs) z) = gR (partv cs z (prd (rl cs) z) e) (prd (rl cs) z) := by
 have m1 := ho.la
 have lD : Py.Le (Py.gs z e.at_) 12 := le_natAbs (K := 8) ⟨by show (z.1 - e.at_.1).natAbs ≤ 8; omega, by show (z.2 - e.at_.2).natAbs ≤ 8; omega⟩ (by decide)
 rcases h with ⟨k, hY⟩ | ⟨k, a, b, rfl, ha, hb⟩
 ·
  have hX : Py.Le (exv z e) 10000 := by
   unfold exv
   split
   · exact ho.lst.mono (by decide)
   ·
    have hn3 := ho.n3
    have h12 : 12 ^ (e.n - 1) ≤ 12 ^ 2 := Nat.pow_le_pow_right (by decide) (by omega)
    refine ((sk_le (K := 3) ho.lst (by omega)).mul (gp_le lD (e.n - 1))).mono ?_
    have : (12 : Nat) ^ 2 = 144 := by decide
    have := Nat.mul_le_mul_left (3 * 12) h12
    omega
  have hp : partv cs z (prd (rl cs) z) e = Py.gm (exv z e) (prd (rl cs) z) := by
   unfold partv exv
   split
   · rfl
   · first | rw [prd_rep] | rw [if_neg k, prd_rep]
  have ho1 := hX.one
  refine ⟨_, _, nx_exact hY (by omega) (by omega), ?_, ?_⟩
  · rw [hp, (gP_gm _ _).1]
  · rw [hp, (gP_gm _ _).2]
 ·
  have hn := ho.kd
  have hD : gp (Py.gs z e.at_) (e.n + 1) ≠ (0, 0) := gp_ne (fun e2 => by
   apply h3 k
   unfold Py.gs at e2
   have e3 := congrArg Prod.fst e2
   have e4 := congrArg Prod.snd e2
   simp only at e3 e4
   exact Prod.ext (by show e.at_.1 = z.1; omega) (by show e.at_.2 = z.2; omega)) _
  have h12b : 12 ^ (e.n + 1) ≤ 1728 := Nat.le_trans (Nat.pow_le_pow_right (by decide) (show e.n + 1 ≤ 3 by omega)) (by decide)
  have hx := nx_quo ha hb hD ((sk_le (K := 2) ho.lst (by omega)).mono (by decide)) ((gp_le lD _).mono h12b)
  have hcut := cut_prd z (hh k)
  have hN : gN (gp (Py.gs z e.at_) (e.n + 1)) ≠ 0 := by have := gN_one hD; grind
  have hp : partv cs z (prd (rl cs) z) e = Py.gm (sk (-(e.n : Int)) e.st) (prd (rl (cut cs e.at_ (e.n + 1))) z) := by
   unfold partv
   rw [if_neg (by omega), if_pos k]
  refine ⟨_, _, hx, ?_, ?_⟩
  ·
   rw [hp, ← hcut, (gP_frac _ _ _).1, gN_gm, Rat.div_def]
   have := Rat.mul_inv_cancel _ hN
   generalize gN (gp (Py.gs z e.at_) (e.n + 1)) = W at *
   generalize W⁻¹ = V at *
   grind
  ·
   rw [hp, ← hcut, (gP_frac _ _ _).2, gN_gm, Rat.div_def]
   have := Rat.mul_inv_cancel _ hN
   generalize gN (gp (Py.gs z e.at_) (e.n + 1)) = W at *
   generalize W⁻¹ = V at *
   grind
end Go.Proofs.YtjpllggchjgjpaaGreat.Ff

/-
 OWN TEXT: sums of speeds, of their lengths, and what rounding does to them.
-/
set_option linter.unusedVariables false
set_option exponentiation.threshold 3000
namespace Go.Proofs.YtjpllggchjgjpaaGreat.Sv
def ep9 : Rat := 1 / 562949953421312
theorem val_of_rv {a : Nat} (h : rv a = 0) : Fl.val a = 0 := by
 unfold rv at h
 have := en_pos
 by_cases z : Fl.val a = 0
 · exact z
 ·
  exfalso
  have h1 := ab_int _ z
  have e : ab ((Fl.val a : Int) : Rat) = ((Fl.val a : Int) : Rat) ∨ ab ((Fl.val a : Int) : Rat) = -((Fl.val a : Int) : Rat) := by unfold ab; split <;> grind
  have h2 : 1 * en ≤ ab ((Fl.val a : Int) : Rat) * en := Rat.mul_le_mul_of_nonneg_right h1 (Rat.le_of_lt en_pos)
  rcases e with e | e <;> rw [e] at h2 <;> grind
theorem rv_nought {a : Nat} (h : Fl.val a = 0) : rv a = 0 := by unfold rv; rw [h]; grind
/-- one more -/
theorem add_step {a b : Nat} (fa : Fi a) (fb : Fi b) {P p S e γ : Rat} (hγ : 0 ≤ γ) (hγ1 : γ ≤ 1 / 1024) (ha : Ab (rv a - P) (γ * S)) (hb : Ab (rv b - p) (γ * e)) (hP : Ab P S) (hp : Ab p e) (hS : 0 ≤ S) (he : 0 ≤ e) (lo : S + e = 0 ∨ 1 ≤ 4194304 * (S + e)) (hi : S + e ≤ 35184372088832) :
  Fi (op .add a b) ∧ Ab (rv (op .add a b) - (P + p)) ((γ + ep9) * (S + e)) := by
 rcases lo with z | z
 ·
  have zS : S = 0 := by grind
  have ze : e = 0 := by grind
  subst zS ze
  have r1 : rv a = 0 := by unfold Ab at ha hP; grind
  have r2 : rv b = 0 := by unfold Ab at hb hp; grind
  obtain ⟨f, v⟩ := add_nought fa fb (val_of_rv r1) (val_of_rv r2)
  refine ⟨f, ?_⟩
  rw [rv_nought v]
  unfold Ab at *
  constructor <;> grind
 ·
  have es := en_small
  have ep := en_pos
  have g1 : γ * S ≤ 1 / 1024 * S := Rat.mul_le_mul_of_nonneg_right hγ1 hS
  have g2 : γ * e ≤ 1 / 1024 * e := Rat.mul_le_mul_of_nonneg_right hγ1 he
  have s0 : Ab (rv a + rv b) (2 * (S + e)) := (((ha.add hP).add (hb.add hp)).cong (by grind)).mono (by grind)
  have f := add_fi fa fb s0 (by grind)
  have g := add_err fa fb f s0
  refine ⟨f, ((g.add (ha.add hb)).cong (by grind)).mono ?_⟩
  unfold ep9
  grind
/-- a difference of what is near to the same -/
theorem sub_step {a b : Nat} (fa : Fi a) (fb : Fi b) {P S γ : Rat} (hγ1 : γ ≤ 1 / 2199023255552) (hγ : 0 ≤ γ) (ha : Ab (rv a - P) (γ * S)) (hb : Ab (rv b - P) (γ * S)) (hS : 0 ≤ S) (lo : S = 0 ∨ 1 ≤ 4194304 * S) (hi : S ≤ 35184372088832) :
  Fi (op .sub a b) ∧ Ab (rv (op .sub a b)) (3 * γ * S + ep9 * (1 / 1024) * S) ∧ (S = 0 → P = 0 → Fl.val (op .sub a b) = 0) := by
 have es := en_small
 have ep := en_pos
 have s0 : Ab (rv a - rv b) (2 * γ * S) := ((ha.sub hb).cong (by grind)).mono (by grind)
 have g1 : γ * S ≤ 1 / 2199023255552 * S := Rat.mul_le_mul_of_nonneg_right hγ1 hS
 have g0 : 0 ≤ γ * S := Rat.mul_nonneg hγ hS
 have f := sub_fi fa fb s0 (by grind)
 rcases lo with z | z
 ·
  subst z
  have r : rv a - rv b = 0 := by unfold Ab at s0; grind
  have v : Fl.val (op .sub a b) = 0 := by
   rw [op_sub_eq fa fb]
   have e : Fl.val a - Fl.val b = 0 := by
    rw [rv_sub] at r
    by_cases q : Fl.val a - Fl.val b = 0
    · exact q
    ·
     exfalso
     have h1 := ab_int _ q
     have e : ab ((Fl.val a - Fl.val b : Int) : Rat) = ((Fl.val a - Fl.val b : Int) : Rat) ∨ ab ((Fl.val a - Fl.val b : Int) : Rat) = -((Fl.val a - Fl.val b : Int) : Rat) := by unfold ab; split <;> grind
     have h2 : 1 * en ≤ ab ((Fl.val a - Fl.val b : Int) : Rat) * en := Rat.mul_le_mul_of_nonneg_right h1 (Rat.le_of_lt en_pos)
     rcases e with e | e <;> rw [e] at h2 <;> grind
   rw [e]
   exact wd_nought _
  refine ⟨f, ?_, fun _ _ => v⟩
  rw [rv_nought v]
  unfold Ab
  constructor <;> grind
 ·
  have g := sub_err fa fb f s0
  refine ⟨f, ((g.add s0).cong (by grind)).mono ?_, fun q => by grind⟩
  unfold ep9
  grind
theorem rg_rv {x : Nat} (h : Fi x) : Fi (Fl.rg x) ∧ rv (Fl.rg x) = ab (rv x) := by
 have e : Fl.rg (Fl.rg x) = Fl.rg x := by unfold Fl.rg; omega
 have s : Fl.sg (Fl.rg x) = false := by
  unfold Fl.sg
  refine decide_eq_false ?_
  have : Fl.rg x < 9223372036854775808 := by have := h.2; omega
  omega
 refine ⟨⟨by have := h.2; omega, by rw [e]; exact h.2⟩, ?_⟩
 have k := rv_abs (Fl.rg x)
 rw [e, ← rv_abs x] at k
 have n : 0 ≤ rv (Fl.rg x) := by
  unfold rv
  rw [show Fl.val (Fl.rg x) = if Fl.sg (Fl.rg x) then -(Fl.vl (Fl.rg (Fl.rg x)) : Int) else Fl.vl (Fl.rg (Fl.rg x)) from rfl, s]
  exact Rat.mul_nonneg (by
   show (0 : Rat) ≤ (((Fl.vl (Fl.rg (Fl.rg x)) : Nat) : Int) : Rat)
   rw [Rat.intCast_natCast]
   exact Rat.natCast_nonneg) (Rat.le_of_lt en_pos)
 rw [← k]
 unfold ab
 rw [if_pos n]
theorem leF_rv {x y : Nat} (hx : Fi x) (hy : Fi y) (h : rv x ≤ rv y) : Fl.leF x y = true := by
 have nn : ∀ z, Fi z → Fl.nan z = false := fun z hz => by unfold Fl.nan; exact decide_eq_false (by have := hz.2; omega)
 have hv : Fl.val x ≤ Fl.val y := by
  by_cases q : Fl.val x ≤ Fl.val y
  · exact q
  ·
   exfalso
   have h1 : ((Fl.val y : Int) : Rat) < ((Fl.val x : Int) : Rat) := Rat.intCast_lt_intCast.2 (by omega)
   have h2 := Rat.mul_lt_mul_of_pos_right h1 en_pos
   unfold rv at h
   grind
 have hk : Fl.key x ≤ Fl.key y := by
  unfold Fl.key
  have ex : Fl.val x = if Fl.sg x then -(Fl.vl (Fl.rg x) : Int) else Fl.vl (Fl.rg x) := rfl
  have ey : Fl.val y = if Fl.sg y then -(Fl.vl (Fl.rg y) : Int) else Fl.vl (Fl.rg y) := rfl
  rw [ex, ey] at hv
  have mono : ∀ a b : Nat, Fl.vl a ≤ Fl.vl b → a ≤ b := fun a b k => by
   rcases Nat.lt_or_ge b a with q | q
   · have := Fl.vl_mono q; omega
   · exact q
  have zero : ∀ a : Nat, Fl.vl a = 0 → a = 0 := fun a k => by
   have := mono a 0 (by rw [k]; exact Nat.zero_le _)
   omega
  cases hsx : Fl.sg x <;> cases hsy : Fl.sg y <;> rw [hsx, hsy] at hv <;> simp only [if_true, if_false, Bool.false_eq_true] at hv ⊢
  ·
   have := mono (Fl.rg x) (Fl.rg y) (by omega)
   omega
  ·
   have h1 := zero (Fl.rg x) (by omega)
   have h2 := zero (Fl.rg y) (by omega)
   omega
  · omega
  ·
   have := mono (Fl.rg y) (Fl.rg x) (by omega)
   omega
 unfold Fl.leF
 rw [nn x hx, nn y hy, decide_eq_true hk]
 rfl
end Go.Proofs.YtjpllggchjgjpaaGreat.Sv

