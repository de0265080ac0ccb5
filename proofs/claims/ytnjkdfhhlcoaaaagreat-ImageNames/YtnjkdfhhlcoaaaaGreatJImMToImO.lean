/-
 OWN TEXT: package image: the speed of one stream's flow.
-/
import Derived.Test.YtnjkdfhhlcoaaaaGreatJImBToImL
import Derived.Test.YtnjkdfhhlcoaaaaGreatJFfGToFfS
import Derived.Laws.OwnMore
namespace Go.Proofs.YtnjkdfhhlcoaaaaGreat
open Go.ChangeShapes Go.WideShapes Go.ChangeAt Go.RowKit
set_option linter.unusedVariables false
theorem speed1 {w : World} {b : Nat} (hb : Im.Rs w (some ⟨b, 0, none⟩) [⟨1, 0, 0, 0, 13830554455654793216, 0⟩]) : Calls Tryz.prog 18 #[.agg #[.slice (some ⟨b, 0, none⟩) 1 1], .complex .f64 0 0] w fun r w' => r = .returned (.tuple #[.complex .f64 0 13830554455654793216, .int .i64 0]) ∧ Bw w w' := by
 have hE : Ff.Es w (some ⟨b, 0, none⟩) [⟨1, 0, 0, 0, 13830554455654793216, 0, (0, 0), (0, -1)⟩] := by
  obtain ⟨b', o', he, hlt, hc⟩ := hb.resolve_left (by simp)
  refine Or.inr ⟨b', o', he, hlt, fun i e hi => ?_⟩
  match i, hi with
  | 0, hi => cases hi; exact hc 0 _ rfl
 have e1 : floatOfInt .f64 0 = 0 := by decide +kernel
 have e2 : floatOfInt .f64 (-1) = 13830554455654793216 := by decide +kernel
 have p0 := El.wP_thou 0 (by decide)
 have p1 := El.wP_thou (-1) (by decide)
 rw [e1] at p0
 rw [e2] at p1
 have ho : ∀ e ∈ [(⟨1, 0, 0, 0, 13830554455654793216, 0, (0, 0), (0, -1)⟩ : Ff.Fe)], e.ok 1074 := by
  intro e he
  rw [List.mem_singleton] at he
  subst he
  exact ⟨⟨p0, p0⟩, ⟨p0, p1⟩, ⟨w_nought 1074, w_nought 1074⟩, ⟨p0.1, p1.1⟩, ⟨by decide, by decide⟩, ⟨by decide, by decide⟩, Or.inl ⟨rfl, rfl, rfl, rfl, rfl⟩⟩
 have hS : Ff.Spd 0 0 [⟨1, 0, 0, 0, 13830554455654793216, 0, (0, 0), (0, -1)⟩] [(0, 13830554455654793216)] := by
  refine ⟨rfl, fun i e Y h1 h2 => ?_⟩
  match i, h1, h2 with
  | 0, h1, h2 =>
   cases h1
   cases h2
   exact ⟨by decide +kernel, fun w => Im.a_speed w⟩
 refine (fspeed16 (z := (0, 0)) (es := [⟨1, 0, 0, 0, 13830554455654793216, 0, (0, 0), (0, -1)⟩]) (Ys := [(0, 13830554455654793216)]) rfl (by decide) hE ho ⟨w_nought 1074, w_nought 1074⟩ (Py.Le.nought 6) hS (by decide +kernel) (by intro Y hY; rw [List.mem_singleton] at hY; subst hY; exact ⟨by decide, by decide⟩)).mono ?_
 rintro r w' ⟨x, y, rfl, hxy, bb⟩
 obtain ⟨rfl, rfl⟩ := Ff.fin_eq (Y := Ff.zsum [(0, 13830554455654793216)]) (by decide +kernel) hxy
 exact ⟨rfl, bb⟩
end Go.Proofs.YtnjkdfhhlcoaaaaGreat

/-
 OWN TEXT: package image: Wall and Circle of one source; the test of life's calls.
-/
namespace Go.Proofs.YtnjkdfhhlcoaaaaGreat
open Go.ChangeShapes Go.WideShapes Go.ChangeAt Go.RowKit
set_option linter.unusedVariables false
set_option linter.unusedSimpArgs false
namespace Im
def PA (e o : Re) (l : List Re) : Prop := o = e ∧ l = [⟨2, 4607182418800017408, 0, 4607182418800017408, 13830554455654793216, 0⟩, ⟨2, 0, 0, 13830554455654793216, 4607182418800017408, 0⟩]
def e0 : Re := ⟨2, 0, 4611686018427387904, 4607182418800017408, 13837309855095848960, 0⟩
def e4 : Re := ⟨2, 4616189618054758400, 0, 4607182418800017408, 4607182418800017408, 0⟩
def eb : Re := ⟨2, 0, 13830554455654793216, 4607182418800017408, 0, 0⟩
def eo : Re := ⟨2, 4613937818241073152, 0, 4607182418800017408, 0, 0⟩
theorem pw_two {e o : Re} {l : List Re} (h : PW e o l) : l.length ≤ 2 := by
 rcases h with ⟨_, _, h⟩ | ⟨_, h⟩ <;> rw [h] <;> simp
theorem check_one {w : World} {a : Option Addr} {c : Nat} {e : Re} (h : Rs w a [e]) (k : Ck e) : Hid (∀ wz, Bw w wz → Calls Tryz.prog 13 #[.agg #[.slice a 1 c]] wz fun r w' => r = .returned (.int .i64 0) ∧ Bw wz w') := fun wz hz =>
 fcheckI rfl (by decide) (h.bw hz) (fun x hx => by rw [List.mem_singleton] at hx; rw [hx]; exact k)
end Im
theorem wall_e0 {w : World} {a : Option Addr} {c : Nat} (h : Im.Rs w a [Im.e0]) : Calls Tryz.prog 6 #[.agg #[.slice a 1 c], .complex .f64 0 0, .complex .f64 4607182418800017408 0] w fun e w' => ∃ a' c', e = .returned (.tuple #[.agg #[.slice a' 2 c'], .int .i64 0]) ∧ Im.Rs w' a' [Im.e0, Im.imgW Im.e0] ∧ Bw w w' := by
 have me : Im.Me 47 Im.wallV Im.PW Im.e0 := me_wsrc rfl Im.a_conj Im.a_across Im.a_above
 refine (wallI (es := [Im.e0]) (P := Im.PW) (E := 0) (Im.check_one h Im.ck_e0) (hide Im.a_along) (fun wz hz => reflectedO rfl (by decide) (fun e o l => Im.pw_two) (h.bw hz) (fun x hx => by rw [List.mem_singleton] at hx; rw [hx]; exact me) (fun os fl hr => ?_))).mono ?_
 ·
  obtain ⟨o, l, rfl, rfl, hp⟩ := hr.one rfl
  rcases hp with ⟨_, rfl, rfl⟩ | ⟨hp, _⟩
  ·
   refine Or.inl ⟨rfl, by decide, fun x hx => ?_⟩
   simp only [List.cons_append, List.nil_append, List.mem_cons, List.not_mem_nil, or_false] at hx
   rcases hx with rfl | rfl
   · exact Im.ck_e0
   · exact Im.ck_i0
  · exact absurd hp (by decide)
 ·
  rintro r w' ⟨a', m, c', rfl, hO, bb⟩
  obtain ⟨os, fl, hr, hm, hR, _⟩ := hO.1 rfl
  obtain ⟨o, l, rfl, rfl, hp⟩ := hr.one rfl
  rcases hp with ⟨_, rfl, rfl⟩ | ⟨hp, _⟩
  ·
   subst hm
   exact ⟨a', c', rfl, hR, bb⟩
  · exact absurd hp (by decide)
theorem circ_e4 {w : World} {a : Option Addr} {c : Nat} (h : Im.Rs w a [Im.e4]) : Calls Tryz.prog 7 #[.agg #[.slice a 1 c], .agg #[.complex .f64 0 0, .float .f64 4611686018427387904]] w fun e w' => ∃ a' c', e = .returned (.tuple #[.agg #[.slice a' 3 c'], .int .i64 0]) ∧ Im.Rs w' a' [Im.e4, ⟨2, 4607182418800017408, 0, 4607182418800017408, 13830554455654793216, 0⟩, ⟨2, 0, 0, 13830554455654793216, 4607182418800017408, 0⟩] ∧ Bw w w' := by
 have me : Im.Me 53 (Im.circV 4611686018427387904) Im.PA Im.e4 := me_csrc rfl Im.a_conj4 Im.a_place Im.a_neg Im.a_out
 refine (circleI (es := [Im.e4]) (P := Im.PA) (E := 0) (Im.check_one h Im.ck_e4) (hide Im.a_may) (fun wz hz => reflectedO rfl (by decide) (fun e o l hp => by rw [hp.2]; decide) (h.bw hz) (fun x hx => by rw [List.mem_singleton] at hx; rw [hx]; exact me) (fun os fl hr => ?_))).mono ?_
 ·
  obtain ⟨o, l, rfl, rfl, rfl, rfl⟩ := hr.one rfl
  refine Or.inl ⟨rfl, by decide, fun x hx => ?_⟩
  simp only [List.cons_append, List.nil_append, List.mem_cons, List.not_mem_nil, or_false] at hx
  rcases hx with rfl | rfl | rfl
  · exact Im.ck_e4
  · exact Im.ck_c1
  · exact Im.ck_c2
 ·
  rintro r w' ⟨a', m, c', rfl, hO, bb⟩
  obtain ⟨os, fl, hr, hm, hR, _⟩ := hO.1 rfl
  obtain ⟨o, l, rfl, rfl, rfl, rfl⟩ := hr.one rfl
  subst hm
  exact ⟨a', c', rfl, hR, bb⟩
theorem wall_bad {w : World} {a : Option Addr} {c x y : Nat} {e : Im.Re} (hk : e.k = 2) (hc : Im.Ck e) (CJ : ∃ s' t', ∀ wz, Calls Tryz.prog 43 #[.complex .f64 e.s e.t] wz fun r w' => r = .returned (.complex .f64 s' t') ∧ Bw wz w')
  (AC : ∀ wz, Calls Tryz.prog 26 #[Im.wallV, .complex .f64 e.a e.b] wz fun r w' => r = .returned (.complex .f64 x y) ∧ Bw wz w')
  (AB : ∀ wz, Calls Tryz.prog 108 #[Im.wallV, .complex .f64 e.a e.b] wz fun r w' => r = .returned (.bool false) ∧ Bw wz w') (h : Im.Rs w a [e]) : Calls Tryz.prog 6 #[.agg #[.slice a 1 c], .complex .f64 0 0, .complex .f64 4607182418800017408 0] w fun e w' => ∃ a' m c', e = .returned (.tuple #[.agg #[.slice a' m c'], .int .i64 170]) ∧ Bw w w' := by
 obtain ⟨s', t', CJ⟩ := CJ
 refine (wallI (es := [e]) (P := Im.PW) (E := 170) (Im.check_one h hc) (hide Im.a_along) (fun wz hz => reflectedB (h.bw hz) (Im.find2 hk) (F := 102) (fun w => by kernel_rfl) (fun x y w => by kernel_rfl) (fun wy => ?_))).mono ?_
 ·
  refine (wsourceI (k := e.k) (p := e.p) wy (hide CJ) (hide AC) (hide AB)).mono ?_
  rintro r w' ⟨B, rfl, hB, gB, bb⟩
  exact ⟨_, _, _, _, _, _, _, _, _, rfl, bb⟩
 ·
  rintro r w' ⟨a', m, c', rfl, _, bb⟩
  exact ⟨a', m, c', rfl, bb⟩
theorem circ_bad {w : World} {a : Option Addr} {c x y rr : Nat} {e : Im.Re} (hk : e.k = 2) (hc : Im.Ck e) (CJ : ∀ wz, Calls Tryz.prog 43 #[.complex .f64 e.s e.t] wz fun r w' => r = .returned (.complex .f64 4607182418800017408 9223372036854775808) ∧ Bw wz w')
  (MB : ∀ wz, Calls Tryz.prog 16 #[Im.circV rr] wz fun r w' => r = .returned (.bool true) ∧ Bw wz w')
  (PL : ∀ wz, Calls Tryz.prog 25 #[Im.circV rr, .complex .f64 e.a e.b] wz fun r w' => r = .returned (.complex .f64 x y) ∧ Bw wz w')
  (IO : ∀ wz, Calls Tryz.prog 114 #[Im.circV rr, .complex .f64 e.a e.b] wz fun r w' => r = .returned (.bool false) ∧ Bw wz w') (h : Im.Rs w a [e]) : Calls Tryz.prog 7 #[.agg #[.slice a 1 c], Im.circV rr] w fun e w' => ∃ a' m c', e = .returned (.tuple #[.agg #[.slice a' m c'], .int .i64 170]) ∧ Bw w w' := by
 refine (circleI (es := [e]) (P := Im.PW) (E := 170) (Im.check_one h hc) (hide MB) (fun wz hz => reflectedB (h.bw hz) (Im.find2 hk) (F := 112) (fun w => by kernel_rfl) (fun x y w => by kernel_rfl) (fun wy => ?_))).mono ?_
 ·
  refine (csourceI (k := e.k) (p := e.p) (o0 := 0) (o1 := 0) wy (hide CJ) (hide PL) (hide Im.b_neg) (hide IO)).mono ?_
  rintro r w' ⟨B, rfl, hB, gB, bb⟩
  exact ⟨_, _, _, _, _, _, _, _, _, rfl, bb⟩
 ·
  rintro r w' ⟨a', m, c', rfl, _, bb⟩
  exact ⟨a', m, c', rfl, bb⟩
theorem through1 {w : World} {f a b : Option Addr} {B c c' : Nat} (hf : f = some ⟨B, 0, none⟩) (hb : Im.Rs w f [⟨1, 0, 0, 0, 13830554455654793216, 0⟩]) (hA : Im.Cs w a 1 0 0) (hB : Im.Cs w b 1 4607182418800017408 0) : Calls Tryz.prog 8 #[.agg #[.slice f 1 1], .slice a 1 c, .slice b 1 c'] w fun e w' => e = .returned (.tuple #[.float .f64 4607182418800017408, .int .i64 0]) ∧ Bw w w' := by
 subst hf
 exact through_ok (by decide) (by decide) hA hB (Im.check_one hb Im.ck_st) (hide (fun wz hz => speed1 (hb.bw hz))) (hide Im.a_mul) (hide Im.a_abs) (hide Im.a_max) (hide Im.a_max1) (hide Im.a_fin)
end Go.Proofs.YtnjkdfhhlcoaaaaGreat

/-
 OWN TEXT: package image: as many elements as may be, and one more, through walls and circles.
-/
namespace Go.Proofs.YtnjkdfhhlcoaaaaGreat
open Go.ChangeShapes Go.WideShapes Go.ChangeAt Go.RowKit
set_option linter.unusedVariables false
set_option linter.unusedSimpArgs false
set_option maxRecDepth 20000
namespace Im
def es128 : List Re := (List.range 128).map src
def e128 : Re := ⟨2, 0, 4617315517961601024, 0, 0, 0⟩
def s128 : Re := ⟨1, 0, 0, 0, 0, 0⟩
theorem mem128 {e : Re} (h : e ∈ es128) : ∃ i, i < 128 ∧ e = src i := by
 obtain ⟨i, hi, rfl⟩ := List.mem_map.1 h
 exact ⟨i, by simpa using hi, rfl⟩
theorem len128 : es128.length = 128 := by simp [es128]
theorem Rl.allm {P : Re → Re → List Re → Prop} {Q : Re → Prop} {es os fl : List Re} (h : Rl P es os fl) : (∀ e ∈ es, ∀ o l, P e o l → Q o ∧ ∀ x ∈ l, Q x) → ∀ x ∈ os ++ fl, Q x := by
 induction h with
 | nil => intro _ x hx; simp at hx
 | snoc _ k ih =>
  intro hf x hx
  obtain ⟨k1, k2⟩ := hf _ (by simp) _ _ k
  have ih2 := ih (fun e he => hf e (by simp [he]))
  simp only [List.mem_append, List.mem_singleton] at hx
  rcases hx with (hx | rfl) | (hx | hx)
  · exact ih2 x (by simp [hx])
  · exact k1
  · exact ih2 x (by simp [hx])
  · exact k2 x hx
def fW (e : Re) : Nat := if e.k = 2 then 1 else 0
def fC (e : Re) : Nat := if e.k = 2 then 2 else 1
theorem pw_f (e o : Re) (l : List Re) (h : PW e o l) : l.length = fW e := by
 rcases h with ⟨h1, _, h⟩ | ⟨h1, h⟩ <;> rw [h] <;> unfold fW <;> rw [h1] <;> rfl
theorem pc_f (e o : Re) (l : List Re) (h : PC e o l) : l.length = fC e := h
theorem sum_c (c : Nat) : ∀ l : List Nat, (l.map fun _ => c).sum = l.length * c
 | [] => by rw [List.map_nil, List.length_nil, Nat.zero_mul]; rfl
 | x :: l => by rw [List.map_cons, List.sum_cons, sum_c c l, List.length_cons, Nat.add_mul, Nat.one_mul, Nat.add_comm]
theorem flip0 : flip 0 = 9223372036854775808 := by decide
theorem cj0 (wz : World) : Calls Tryz.prog 43 #[.complex .f64 4607182418800017408 0] wz fun r w' => r = .returned (.complex .f64 4607182418800017408 (flip 0)) ∧ Bw wz w' := by rw [flip0]; exact a_conjb wz
theorem sumf (f : Re → Nat) (c : Nat) (h : ∀ i, f (src i) = c) : (es128.map f).sum = 128 * c := by
 unfold es128
 rw [List.map_map, show (f ∘ src) = fun _ => c from funext h, sum_c, List.length_range]
theorem sum128 : (es128.map fW).sum = 128 := sumf fW 1 fun _ => rfl
theorem sum129 : ((es128 ++ [e128]).map fW).sum = 129 := by rw [List.map_append, List.sum_append, sum128]; rfl
theorem sumS : ((es128 ++ [s128]).map fW).sum = 128 := by rw [List.map_append, List.sum_append, sum128]; rfl
theorem sumC : ((es128 ++ [s128]).map fC).sum = 257 := by rw [List.map_append, List.sum_append, sumf fC 2 fun _ => rfl]; rfl
theorem mw_src (i : Nat) (hi : i < 128) : Me 47 wallV PW (src i) := me_wsrc (e := src i) rfl cj0 (w_across i hi) (w_above i hi)
theorem mw_e : Me 47 wallV PW e128 := me_wsrc rfl b_conj b_across b_above
theorem mw_s : Me 47 wallV PW s128 := by
 obtain ⟨x, y, h⟩ := x_scale
 exact me_wstr rfl a_conjb b_mul h
theorem mc_src (i : Nat) (hi : i < 128) : Me 53 (circV 4607182418800017408) PC (src i) := by
 obtain ⟨x, y, h⟩ := c_place i hi
 exact (me_csrc (e := src i) rfl a_conjb h b_neg (c_outside i hi)).mono fun o l hp => by
  unfold PC
  rw [hp.2, if_pos (show (src i).k = 2 from rfl)]
  rfl
theorem mc_s : Me 53 (circV 4607182418800017408) PC s128 := by
 obtain ⟨x, y, h⟩ := x_scale2
 exact me_cstr rfl b_conj b_square h
theorem ck128 (e : Re) (h : e ∈ es128) : Ck e := by
 obtain ⟨i, hi, rfl⟩ := mem128 h
 exact ck_src i hi
theorem or_last {p : Re → Prop} {x : Re} (h : ∀ e ∈ es128, p e) (hx : p x) : ∀ e ∈ es128 ++ [x], p e := by
 intro e he
 rcases List.mem_append.1 he with he | he
 · exact h e he
 · rw [List.mem_singleton.1 he]; exact hx
theorem check_all {w : World} {a : Option Addr} {c n : Nat} {es : List Re} (hn : es.length = n) (hm : n ≤ 256) (h : Rs w a es) (k : ∀ e ∈ es, Ck e) : Hid (∀ wz, Bw w wz → Calls Tryz.prog 13 #[.agg #[.slice a n c]] wz fun r w' => r = .returned (.int .i64 0) ∧ Bw wz w') := fun wz hz =>
 fcheckI hn hm (h.bw hz) k
end Im
theorem wall_128 {w : World} {a : Option Addr} {c : Nat} (h : Im.Rs w a Im.es128) : Calls Tryz.prog 6 #[.agg #[.slice a 128 c], .complex .f64 0 0, .complex .f64 4607182418800017408 0] w fun e w' => ∃ a' c', e = .returned (.tuple #[.agg #[.slice a' 256 c'], .int .i64 0]) ∧ Bw w w' := by
 refine (wallI (es := Im.es128) (P := Im.PW) (E := 0) (Im.check_all Im.len128 (by decide) h Im.ck128) (hide Im.a_along) (fun wz hz => reflectedO Im.len128 (by decide) (fun e o l => Im.pw_two) (h.bw hz) (fun x hx => by obtain ⟨i, hi, rfl⟩ := Im.mem128 hx; exact Im.mw_src i hi) (fun os fl hr => ?_))).mono ?_
 ·
  have hs := hr.sum Im.pw_f
  rw [Im.sum128] at hs
  refine Or.inl ⟨rfl, by omega, hr.allm (fun e he o l hp => ?_)⟩
  obtain ⟨i, hi, rfl⟩ := Im.mem128 he
  rcases hp with ⟨_, rfl, rfl⟩ | ⟨hp, _⟩
  · exact ⟨ck_src i hi, fun x hx => by rw [List.mem_singleton.1 hx]; exact ck_img i hi⟩
  · exact absurd hp (by show ¬ (2 : Int) = 1; decide)
 ·
  rintro r w' ⟨a', m, c', rfl, hO, bb⟩
  obtain ⟨os, fl, hr, hm, _, _⟩ := hO.1 rfl
  have hs := hr.sum Im.pw_f
  rw [Im.sum128] at hs
  rw [Im.len128, hs] at hm
  subst hm
  exact ⟨a', c', rfl, bb⟩
theorem wall_129 {w : World} {a : Option Addr} {c : Nat} {x : Im.Re} (hx : Im.Ck x) (me : Im.Me 47 Im.wallV Im.PW x) (hs : 128 ≤ ((Im.es128 ++ [x]).map Im.fW).sum) (h : Im.Rs w a (Im.es128 ++ [x])) : Calls Tryz.prog 6 #[.agg #[.slice a 129 c], .complex .f64 0 0, .complex .f64 4607182418800017408 0] w fun e w' => ∃ a' c', e = .returned (.tuple #[.agg #[.slice a' 0 c'], .int .i64 4]) ∧ Bw w w' := by
 have hl : (Im.es128 ++ [x]).length = 129 := by rw [List.length_append, Im.len128]; rfl
 refine (wallI (es := Im.es128 ++ [x]) (P := Im.PW) (E := 4) (Im.check_all hl (by decide) h (Im.or_last Im.ck128 hx)) (hide Im.a_along) (fun wz hz => reflectedO hl (by decide) (fun e o l => Im.pw_two) (h.bw hz) (Im.or_last (fun e he => by obtain ⟨i, hi, rfl⟩ := Im.mem128 he; exact Im.mw_src i hi) me) (fun os fl hr => Or.inr ⟨rfl, ?_⟩))).mono ?_
 ·
  have h2 := hr.sum Im.pw_f
  omega
 ·
  rintro r w' ⟨a', m, c', rfl, hO, bb⟩
  obtain rfl := hO.2 (by decide)
  exact ⟨a', c', rfl, bb⟩
theorem circ_129 {w : World} {a : Option Addr} {c : Nat} (h : Im.Rs w a (Im.es128 ++ [Im.s128])) : Calls Tryz.prog 7 #[.agg #[.slice a 129 c], .agg #[.complex .f64 0 0, .float .f64 4607182418800017408]] w fun e w' => ∃ a' c', e = .returned (.tuple #[.agg #[.slice a' 0 c'], .int .i64 4]) ∧ Bw w w' := by
 have hl : (Im.es128 ++ [Im.s128]).length = 129 := by rw [List.length_append, Im.len128]; rfl
 refine (circleI (es := Im.es128 ++ [Im.s128]) (P := Im.PC) (E := 4) (Im.check_all hl (by decide) h (Im.or_last Im.ck128 Im.ck_s128)) (hide Im.b_may) (fun wz hz => reflectedO hl (by decide) (fun e o l hp => by rw [Im.pc_f e o l hp]; unfold Im.fC; split <;> decide) (h.bw hz) (Im.or_last (fun e he => by obtain ⟨i, hi, rfl⟩ := Im.mem128 he; exact Im.mc_src i hi) Im.mc_s) (fun os fl hr => Or.inr ⟨rfl, ?_⟩))).mono ?_
 ·
  have h2 := hr.sum Im.pc_f
  rw [Im.sumC] at h2
  omega
 ·
  rintro r w' ⟨a', m, c', rfl, hO, bb⟩
  obtain rfl := hO.2 (by decide)
  exact ⟨a', c', rfl, bb⟩
end Go.Proofs.YtnjkdfhhlcoaaaaGreat

/-
 OWN TEXT: eddylaw17: the test of life (typed by imo.py).
-/
namespace Go.Proofs.YtnjkdfhhlcoaaaaGreat
open Go.ChangeShapes Go.WideShapes Go.ChangeAt Go.RowKit
set_option linter.unusedVariables false
set_option linter.unusedSimpArgs false
attribute [local go_sem] frombits_call tobits_call run_neg run_store_cx El.run_store_fl
set_option maxHeartbeats 64000000 in
set_option maxRecDepth 100000 in
theorem alive17 (w : World) : Calls Tryz.prog 4 #[] w fun e w' => e = .returned (.bool true) ∧ Bw w w' := by
 go_enter Tryz.func4, Tryz.ntmps4
 go_wp2_with fail
 refine (source_c _ _ _ _ _).mono ?_
 rintro e' w1 ⟨B1, rfl, h1, b1⟩
 have H1 := hide h1
 have G1 := hide b1
 clear h1 b1
 go_wp2_with fail
 refine (wall_e0 H1.out).mono ?_
 rintro e' w2 ⟨a1, c1, rfl, h2, b2⟩
 have q2 := bw_alloc w2 (.cells #[.slice a1 2 c1] 30)
 have k2 : (w2.alloc (.cells #[.slice a1 2 c1] 30)).cell? ⟨w2.heap.size, 0, none⟩ = some (.slice a1 2 c1) := by simp
 have n2 : w2.heap.size < (w2.alloc (.cells #[.slice a1 2 c1] 30)).heap.size := by simp
 have G2 := hide (bw_trans G1.out (bw_trans b2 q2))
 have F1 := hide (fun (wz : World) (hz : Bw (w2.alloc (.cells #[.slice a1 2 c1] 30)) wz) => And.intro ((Below.cell hz (p := ⟨w2.heap.size, 0, none⟩) n2).trans k2) (h2.bw (bw_trans q2 hz)))
 clear q2 k2 n2 h2 b2 G1 H1
 go_wp2_with fail
 obtain ⟨V2, hV2⟩ : ∃ V, w2.alloc (.cells #[.slice a1 2 c1] 30) = V := ⟨_, rfl⟩
 obtain ⟨P1, hP1⟩ : ∃ P, w2.heap.size = P := ⟨_, rfl⟩
 rw [hV2, hP1] at F1
 rw [hV2] at G2
 try rw [hV2]
 try rw [hP1]
 clear hV2 hP1
 --CUT1
 refine (source_c _ _ _ _ _).mono ?_
 rintro e' w3 ⟨B2, rfl, h3, b3⟩
 have G3 := hide (bw_trans G2.out b3)
 have D3 := hide b3
 have H3 := hide h3
 clear h3 b3 G2
 go_wp2_with fail
 refine (circ_e4 H3.out).mono ?_
 rintro e' w4 ⟨a2, c2, rfl, h4, b4⟩
 have q4 := bw_alloc w4 (.cells #[.slice a2 3 c2] 30)
 have k4 : (w4.alloc (.cells #[.slice a2 3 c2] 30)).cell? ⟨w4.heap.size, 0, none⟩ = some (.slice a2 3 c2) := by simp
 have n4 : w4.heap.size < (w4.alloc (.cells #[.slice a2 3 c2] 30)).heap.size := by simp
 have G4 := hide (bw_trans G3.out (bw_trans b4 q4))
 have D4 := hide (bw_trans D3.out (bw_trans b4 q4))
 have F2 := hide (fun (wz : World) (hz : Bw (w4.alloc (.cells #[.slice a2 3 c2] 30)) wz) => And.intro ((Below.cell hz (p := ⟨w4.heap.size, 0, none⟩) n4).trans k4) (h4.bw (bw_trans q4 hz)))
 clear q4 k4 n4 h4 b4 G3 D3 H3
 go_wp2_with fail
 obtain ⟨V4, hV4⟩ : ∃ V, w4.alloc (.cells #[.slice a2 3 c2] 30) = V := ⟨_, rfl⟩
 obtain ⟨P2, hP2⟩ : ∃ P, w4.heap.size = P := ⟨_, rfl⟩
 rw [hV4, hP2] at F2
 rw [hV4] at G4 D4
 try rw [hV4]
 try rw [hP2]
 clear hV4 hP2
 --CUT2
 refine (source_c _ _ _ _ _).mono ?_
 rintro e' w5 ⟨B3, rfl, h5, b5⟩
 have H5 := hide h5
 have D5 := hide b5
 clear h5 b5
 go_wp2_with fail
 refine (wall_bad (e := Im.eb) rfl Im.ck_eb ⟨_, _, Im.a_conjb⟩ Im.a_acrossb Im.a_notabove H5.out).mono ?_
 rintro e' w6 ⟨a3, m3, c3, rfl, b6⟩
 have q6 := bw_alloc w6 (.cells #[.slice a3 m3 c3] 30)
 have D6 := hide (bw_trans D5.out (bw_trans b6 q6))
 clear b6 q6 D5 H5
 go_wp2_with fail
 generalize w6.alloc (.cells #[.slice a3 m3 c3] 30) = V6 at *
 --CUT3
 refine (Im.a_Place _).mono ?_
 rintro e' w7 ⟨rfl, b7⟩
 have D7 := hide (bw_trans D6.out b7)
 clear b7 D6
 go_wp2_with fail
 refine (imof_any _ _ _).mono ?_
 rintro e' w8 ⟨rfl, h8⟩
 obtain rfl : w7 = w8 := h8.symm
 go_wp2_with fail
 refine (Im.a_Across _).mono ?_
 rintro e' w8 ⟨rfl, b8⟩
 have D8 := hide (bw_trans D7.out b8)
 clear b8 D7
 go_wp2_with fail
 refine (imof_any _ _ _).mono ?_
 rintro e' w9 ⟨rfl, h9⟩
 obtain rfl : w8 = w9 := h9.symm
 --CUT4
 have x1 := bw_alloc w8 (.cells #[.int .u8 1, .complex .f64 0 0, .complex .f64 0 13830554455654793216, .float .f64 0] 28)
 have y1 := Im.Bl.new w8 #[.int .u8 1, .complex .f64 0 0, .complex .f64 0 13830554455654793216, .float .f64 0] 28
 have z1 : (w8.alloc (.cells #[.int .u8 1, .complex .f64 0 0, .complex .f64 0 13830554455654793216, .float .f64 0] 28)).heap.size = w8.heap.size + 1 := by simp
 obtain ⟨X1, hX1⟩ : ∃ V, w8.alloc (.cells #[.int .u8 1, .complex .f64 0 0, .complex .f64 0 13830554455654793216, .float .f64 0] 28) = V := ⟨_, rfl⟩
 rw [hX1] at x1 y1 z1
 have x2 := bw_alloc X1 (.cells #[.complex .f64 0 0] 24)
 have y2 := Im.Bl.new X1 #[.complex .f64 0 0] 24
 have z2 : (X1.alloc (.cells #[.complex .f64 0 0] 24)).heap.size = w8.heap.size + 1 + 1 := by simp [z1]
 obtain ⟨X2, hX2⟩ : ∃ V, X1.alloc (.cells #[.complex .f64 0 0] 24) = V := ⟨_, rfl⟩
 rw [hX2] at x2 y2 z2
 have x3 := bw_alloc X2 (.cells #[.complex .f64 4607182418800017408 0] 24)
 have y3 := Im.Bl.new X2 #[.complex .f64 4607182418800017408 0] 24
 obtain ⟨X3, hX3⟩ : ∃ V, X2.alloc (.cells #[.complex .f64 4607182418800017408 0] 24) = V := ⟨_, rfl⟩
 rw [hX3] at x3 y3
 rw [z1] at y2
 rw [z2] at y3
 have y1' := y1.bw (bw_trans x2 x3)
 have y2' := y2.bw x3
 have TH := hide (through1 (w := X3) (B := w8.heap.size) (c := 1) (c' := 1) rfl (Or.inr ⟨_, _, rfl, y1'.lt, fun i e he => by
  match i, he with
  | 0, he => cases he; exact ⟨y1'.c 0 _ rfl, y1'.c 1 _ rfl, y1'.c 2 _ rfl, y1'.c 3 _ rfl⟩⟩) (a := some ⟨w8.heap.size + 1, 0, none⟩) (b := some ⟨w8.heap.size + 1 + 1, 0, none⟩) (Or.inr ⟨_, _, rfl, y2'.lt, fun i hi => by
  match i, hi with
  | 0, _ => exact y2'.c 0 _ rfl⟩) (Or.inr ⟨_, _, rfl, y3.lt, fun i hi => by
  match i, hi with
  | 0, _ => exact y3.c 0 _ rfl⟩))
 have DX := hide (bw_trans D8.out (bw_trans x1 (bw_trans x2 x3)))
 have HX := hide (And.intro hX1 (And.intro hX2 hX3))
 clear x1 y1 z1 hX1 x2 y2 z2 hX2 x3 y3 hX3 y1' y2' D8
 go_wp2_with fail
 rw [HX.out.1, HX.out.2.1, HX.out.2.2]
 refine TH.out.mono ?_
 rintro e' w9 ⟨rfl, b9⟩
 have D9 := hide (bw_trans DX.out b9)
 clear b9 DX TH HX
 obtain ⟨f2, r2⟩ := F2.out w9 D9.out
 obtain ⟨f1, r1⟩ := F1.out w9 (bw_trans D4.out D9.out)
 have R1 := hide r1
 have R2 := hide r2
 clear r1 r2
 --CUT5
 go_wp2_with fail
 --CUT6
 obtain ⟨g1, o1, rfl, _, hc1⟩ := R1.out.resolve_left (by simp)
 obtain ⟨g2, o2, rfl, _, hc2⟩ := R2.out.resolve_left (by simp)
 have SF : Hid (∀ wz, Bw w9 wz → (fun w' => w'.cell? ⟨P1, 0, none⟩ = some (.slice (some ⟨g1, o1, none⟩) 2 c1) ∧ w'.cell? ⟨P2, 0, none⟩ = some (.slice (some ⟨g2, o2, none⟩) 3 c2) ∧ w'.cell? ⟨g1, o1 + 1 * 4 + 1, none⟩ = some (.complex .f64 0 13835058055282163712) ∧ w'.cell? ⟨g1, o1 + 1 * 4 + 2, none⟩ = some (.complex .f64 4607182418800017408 4613937818241073152) ∧ w'.cell? ⟨g2, o2 + 1 * 4 + 1, none⟩ = some (.complex .f64 4607182418800017408 0) ∧ w'.cell? ⟨g2, o2 + 1 * 4 + 2, none⟩ = some (.complex .f64 4607182418800017408 13830554455654793216) ∧ w'.cell? ⟨g2, o2 + 2 * 4 + 2, none⟩ = some (.complex .f64 13830554455654793216 4607182418800017408)) wz) := fun wz hz => by
  have r1 := R1.out.bw hz
  have r2 := R2.out.bw hz
  obtain ⟨g1', o1', e1, _, hc1⟩ := r1.resolve_left (by simp)
  obtain ⟨g2', o2', e2, _, hc2⟩ := r2.resolve_left (by simp)
  simp only [Option.some.injEq, Addr.mk.injEq, and_true] at e1 e2
  obtain ⟨rfl, rfl⟩ := e1
  obtain ⟨rfl, rfl⟩ := e2
  exact ⟨(F1.out wz (bw_trans D4.out (bw_trans D9.out hz))).1, (F2.out wz (bw_trans D9.out hz)).1, (hc1 1 _ rfl).2.1, (hc1 1 _ rfl).2.2.1, (hc2 1 _ rfl).2.1, (hc2 1 _ rfl).2.2.1, (hc2 2 _ rfl).2.2.1⟩
 clear hc1 hc2 f1 f2
 refine wp_region_K (fun w' => w'.cell? ⟨P1, 0, none⟩ = some (.slice (some ⟨g1, o1, none⟩) 2 c1) ∧ w'.cell? ⟨P2, 0, none⟩ = some (.slice (some ⟨g2, o2, none⟩) 3 c2) ∧ w'.cell? ⟨g1, o1 + 1 * 4 + 1, none⟩ = some (.complex .f64 0 13835058055282163712) ∧ w'.cell? ⟨g1, o1 + 1 * 4 + 2, none⟩ = some (.complex .f64 4607182418800017408 4613937818241073152) ∧ w'.cell? ⟨g2, o2 + 1 * 4 + 1, none⟩ = some (.complex .f64 4607182418800017408 0) ∧ w'.cell? ⟨g2, o2 + 1 * 4 + 2, none⟩ = some (.complex .f64 4607182418800017408 13830554455654793216) ∧ w'.cell? ⟨g2, o2 + 2 * 4 + 2, none⟩ = some (.complex .f64 13830554455654793216 4607182418800017408)) 42 43 #[false, false, false, false, false, false, false, false, false, false, false, false, false, false, false, false, false, false, false, false, false, false, false, false, false, false, false, false, false, false, false, false, false, false, false, false, false, false, false, false, false, false, false] (by kernel_rfl) (by kernel_rfl) (by kernel_rfl) ?_
 have DD := hide (show Bw w9 w9.drew from (Bw.refl w9).drew)
 generalize w9.drew = v0 at *
 have S0 := SF.out _ DD.out
 refine wpAnyK_take 0 84 (v := ?vz0) rfl (by kernel_rfl) (by kernel_rfl) (by kernel_rfl) (by kernel_rfl) (by kernel_rfl) (fun _ _ _ h => h) rfl (Or.inl ⟨by rfl, ?hz0⟩) (by assumption) ?rz0
 case hz0 => (intro w hSw; obtain ⟨s0, s1, s2, s3, s4, s5, s6⟩ := hSw; simp only [Nat.add_assoc, Nat.reduceMul, Nat.reduceAdd] at s2 s3 s4 s5 s6; go_simp; with_reducible rfl)
 simp only [Act.put, List.setIfInBounds_toArray, List.set_cons_zero, List.set_cons_succ]
 refine wpAnyK_take 1 85 (v := ?vz1) rfl (by kernel_rfl) (by kernel_rfl) (by kernel_rfl) (by kernel_rfl) (by kernel_rfl) (fun _ _ _ h => h) rfl (Or.inl ⟨by rfl, ?hz1⟩) (by assumption) ?rz1
 case hz1 => (intro w hSw; obtain ⟨s0, s1, s2, s3, s4, s5, s6⟩ := hSw; simp only [Nat.add_assoc, Nat.reduceMul, Nat.reduceAdd] at s2 s3 s4 s5 s6; go_simp; with_reducible rfl)
 simp only [Act.put, List.setIfInBounds_toArray, List.set_cons_zero, List.set_cons_succ]
 refine wpAnyK_take 2 86 (v := ?vz2) rfl (by kernel_rfl) (by kernel_rfl) (by kernel_rfl) (by kernel_rfl) (by kernel_rfl) (fun _ _ _ h => h) rfl (Or.inl ⟨by rfl, ?hz2⟩) (by assumption) ?rz2
 case hz2 => (intro w hSw; obtain ⟨s0, s1, s2, s3, s4, s5, s6⟩ := hSw; simp only [Nat.add_assoc, Nat.reduceMul, Nat.reduceAdd] at s2 s3 s4 s5 s6; go_simp; with_reducible rfl)
 simp only [Act.put, List.setIfInBounds_toArray, List.set_cons_zero, List.set_cons_succ]
 refine wpAnyK_take 3 87 (v := ?vz3) rfl (by kernel_rfl) (by kernel_rfl) (by kernel_rfl) (by kernel_rfl) (by kernel_rfl) (fun _ _ _ h => h) rfl (Or.inl ⟨by rfl, ?hz3⟩) (by assumption) ?rz3
 case hz3 => (intro w hSw; obtain ⟨s0, s1, s2, s3, s4, s5, s6⟩ := hSw; simp only [Nat.add_assoc, Nat.reduceMul, Nat.reduceAdd] at s2 s3 s4 s5 s6; go_simp; with_reducible rfl)
 simp only [Act.put, List.setIfInBounds_toArray, List.set_cons_zero, List.set_cons_succ]
 refine wpAnyK_take 4 88 (v := ?vz4) rfl (by kernel_rfl) (by kernel_rfl) (by kernel_rfl) (by kernel_rfl) (by kernel_rfl) (fun _ _ _ h => h) rfl (Or.inl ⟨by rfl, ?hz4⟩) (by assumption) ?rz4
 case hz4 => (intro w hSw; obtain ⟨s0, s1, s2, s3, s4, s5, s6⟩ := hSw; simp only [Nat.add_assoc, Nat.reduceMul, Nat.reduceAdd] at s2 s3 s4 s5 s6; go_simp; with_reducible rfl)
 simp only [Act.put, List.setIfInBounds_toArray, List.set_cons_zero, List.set_cons_succ]
 refine wpAnyK_one 5 (by kernel_rfl) rfl (fun K hK => ?_)
 go_simp
 refine (imof_any _ _ _).mono ?_
 rintro e' v1 ⟨rfl, hv⟩
 obtain rfl : v0 = v1 := hv.symm
 refine hK.out _ _ (fun _ _ => S0) ?_
 clear hK K
 simp only [List.setIfInBounds_toArray, List.set_cons_zero, List.set_cons_succ]
 refine wpAnyK_one 6 (by kernel_rfl) rfl (fun K hK => ?_)
 go_simp
 refine (Im.l_1 _).mono ?_
 rintro e' v2 ⟨rfl, hv⟩
 have D2x := hide (bw_trans DD.out hv)
 have S2 := SF.out _ D2x.out
 clear S0 hv
 refine hK.out _ _ (fun _ _ => S2) ?_
 clear hK K
 simp only [List.setIfInBounds_toArray, List.set_cons_zero, List.set_cons_succ]
 refine wpAnyK_take 7 91 (v := ?vz7) rfl (by kernel_rfl) (by kernel_rfl) (by kernel_rfl) (by kernel_rfl) (by kernel_rfl) (fun _ _ _ h => h) rfl (Or.inl ⟨by rfl, ?hz7⟩) (by assumption) ?rz7
 case hz7 => (intro w hSw; obtain ⟨s0, s1, s2, s3, s4, s5, s6⟩ := hSw; simp only [Nat.add_assoc, Nat.reduceMul, Nat.reduceAdd] at s2 s3 s4 s5 s6; go_simp; with_reducible rfl)
 simp only [Act.put, List.setIfInBounds_toArray, List.set_cons_zero, List.set_cons_succ]
 refine wpAnyK_take 8 92 (v := ?vz8) rfl (by kernel_rfl) (by kernel_rfl) (by kernel_rfl) (by kernel_rfl) (by kernel_rfl) (fun _ _ _ h => h) rfl (Or.inl ⟨by rfl, ?hz8⟩) (by assumption) ?rz8
 case hz8 => (intro w hSw; obtain ⟨s0, s1, s2, s3, s4, s5, s6⟩ := hSw; simp only [Nat.add_assoc, Nat.reduceMul, Nat.reduceAdd] at s2 s3 s4 s5 s6; go_simp; with_reducible rfl)
 simp only [Act.put, List.setIfInBounds_toArray, List.set_cons_zero, List.set_cons_succ]
 refine wpAnyK_take 9 93 (v := ?vz9) rfl (by kernel_rfl) (by kernel_rfl) (by kernel_rfl) (by kernel_rfl) (by kernel_rfl) (fun _ _ _ h => h) rfl (Or.inl ⟨by rfl, ?hz9⟩) (by assumption) ?rz9
 case hz9 => (intro w hSw; obtain ⟨s0, s1, s2, s3, s4, s5, s6⟩ := hSw; simp only [Nat.add_assoc, Nat.reduceMul, Nat.reduceAdd] at s2 s3 s4 s5 s6; go_simp; with_reducible rfl)
 simp only [Act.put, List.setIfInBounds_toArray, List.set_cons_zero, List.set_cons_succ]
 refine wpAnyK_take 10 94 (v := ?vz10) rfl (by kernel_rfl) (by kernel_rfl) (by kernel_rfl) (by kernel_rfl) (by kernel_rfl) (fun _ _ _ h => h) rfl (Or.inl ⟨by rfl, ?hz10⟩) (by assumption) ?rz10
 case hz10 => (intro w hSw; obtain ⟨s0, s1, s2, s3, s4, s5, s6⟩ := hSw; simp only [Nat.add_assoc, Nat.reduceMul, Nat.reduceAdd] at s2 s3 s4 s5 s6; go_simp; with_reducible rfl)
 simp only [Act.put, List.setIfInBounds_toArray, List.set_cons_zero, List.set_cons_succ]
 refine wpAnyK_take 11 95 (v := ?vz11) rfl (by kernel_rfl) (by kernel_rfl) (by kernel_rfl) (by kernel_rfl) (by kernel_rfl) (fun _ _ _ h => h) rfl (Or.inl ⟨by rfl, ?hz11⟩) (by assumption) ?rz11
 case hz11 => (intro w hSw; obtain ⟨s0, s1, s2, s3, s4, s5, s6⟩ := hSw; simp only [Nat.add_assoc, Nat.reduceMul, Nat.reduceAdd] at s2 s3 s4 s5 s6; go_simp; with_reducible rfl)
 simp only [Act.put, List.setIfInBounds_toArray, List.set_cons_zero, List.set_cons_succ]
 refine wpAnyK_take 12 96 (v := ?vz12) rfl (by kernel_rfl) (by kernel_rfl) (by kernel_rfl) (by kernel_rfl) (by kernel_rfl) (fun _ _ _ h => h) rfl (Or.inl ⟨by rfl, ?hz12⟩) (by assumption) ?rz12
 case hz12 => (intro w hSw; obtain ⟨s0, s1, s2, s3, s4, s5, s6⟩ := hSw; simp only [Nat.add_assoc, Nat.reduceMul, Nat.reduceAdd] at s2 s3 s4 s5 s6; go_simp; with_reducible rfl)
 simp only [Act.put, List.setIfInBounds_toArray, List.set_cons_zero, List.set_cons_succ]
 refine wpAnyK_one 13 (by kernel_rfl) rfl (fun K hK => ?_)
 go_simp
 refine (imof_any _ _ _).mono ?_
 rintro e' v3 ⟨rfl, hv⟩
 obtain rfl : v2 = v3 := hv.symm
 refine hK.out _ _ (fun _ _ => S2) ?_
 clear hK K
 simp only [List.setIfInBounds_toArray, List.set_cons_zero, List.set_cons_succ]
 refine wpAnyK_one 14 (by kernel_rfl) rfl (fun K hK => ?_)
 go_simp
 refine (Im.l_2 _).mono ?_
 rintro e' v4 ⟨rfl, hv⟩
 have D4x := hide (bw_trans D2x.out hv)
 have S4 := SF.out _ D4x.out
 clear S2 hv
 refine hK.out _ _ (fun _ _ => S4) ?_
 clear hK K
 simp only [List.setIfInBounds_toArray, List.set_cons_zero, List.set_cons_succ]
 refine wpAnyK_take 15 99 (v := ?vz15) rfl (by kernel_rfl) (by kernel_rfl) (by kernel_rfl) (by kernel_rfl) (by kernel_rfl) (fun _ _ _ h => h) rfl (Or.inl ⟨by rfl, ?hz15⟩) (by assumption) ?rz15
 case hz15 => (intro w hSw; obtain ⟨s0, s1, s2, s3, s4, s5, s6⟩ := hSw; simp only [Nat.add_assoc, Nat.reduceMul, Nat.reduceAdd] at s2 s3 s4 s5 s6; go_simp; with_reducible rfl)
 simp only [Act.put, List.setIfInBounds_toArray, List.set_cons_zero, List.set_cons_succ]
 refine wpAnyK_take 16 100 (v := ?vz16) rfl (by kernel_rfl) (by kernel_rfl) (by kernel_rfl) (by kernel_rfl) (by kernel_rfl) (fun _ _ _ h => h) rfl (Or.inl ⟨by rfl, ?hz16⟩) (by assumption) ?rz16
 case hz16 => (intro w hSw; obtain ⟨s0, s1, s2, s3, s4, s5, s6⟩ := hSw; simp only [Nat.add_assoc, Nat.reduceMul, Nat.reduceAdd] at s2 s3 s4 s5 s6; go_simp; with_reducible rfl)
 simp only [Act.put, List.setIfInBounds_toArray, List.set_cons_zero, List.set_cons_succ]
 refine wpAnyK_take 17 101 (v := ?vz17) rfl (by kernel_rfl) (by kernel_rfl) (by kernel_rfl) (by kernel_rfl) (by kernel_rfl) (fun _ _ _ h => h) rfl (Or.inl ⟨by rfl, ?hz17⟩) (by assumption) ?rz17
 case hz17 => (intro w hSw; obtain ⟨s0, s1, s2, s3, s4, s5, s6⟩ := hSw; simp only [Nat.add_assoc, Nat.reduceMul, Nat.reduceAdd] at s2 s3 s4 s5 s6; go_simp; with_reducible rfl)
 simp only [Act.put, List.setIfInBounds_toArray, List.set_cons_zero, List.set_cons_succ]
 refine wpAnyK_take 18 102 (v := ?vz18) rfl (by kernel_rfl) (by kernel_rfl) (by kernel_rfl) (by kernel_rfl) (by kernel_rfl) (fun _ _ _ h => h) rfl (Or.inl ⟨by rfl, ?hz18⟩) (by assumption) ?rz18
 case hz18 => (intro w hSw; obtain ⟨s0, s1, s2, s3, s4, s5, s6⟩ := hSw; simp only [Nat.add_assoc, Nat.reduceMul, Nat.reduceAdd] at s2 s3 s4 s5 s6; go_simp; with_reducible rfl)
 simp only [Act.put, List.setIfInBounds_toArray, List.set_cons_zero, List.set_cons_succ]
 refine wpAnyK_take 19 103 (v := ?vz19) rfl (by kernel_rfl) (by kernel_rfl) (by kernel_rfl) (by kernel_rfl) (by kernel_rfl) (fun _ _ _ h => h) rfl (Or.inl ⟨by rfl, ?hz19⟩) (by assumption) ?rz19
 case hz19 => (intro w hSw; obtain ⟨s0, s1, s2, s3, s4, s5, s6⟩ := hSw; simp only [Nat.add_assoc, Nat.reduceMul, Nat.reduceAdd] at s2 s3 s4 s5 s6; go_simp; with_reducible rfl)
 simp only [Act.put, List.setIfInBounds_toArray, List.set_cons_zero, List.set_cons_succ]
 refine wpAnyK_take 20 104 (v := ?vz20) rfl (by kernel_rfl) (by kernel_rfl) (by kernel_rfl) (by kernel_rfl) (by kernel_rfl) (fun _ _ _ h => h) rfl (Or.inl ⟨by rfl, ?hz20⟩) (by assumption) ?rz20
 case hz20 => (intro w hSw; obtain ⟨s0, s1, s2, s3, s4, s5, s6⟩ := hSw; simp only [Nat.add_assoc, Nat.reduceMul, Nat.reduceAdd] at s2 s3 s4 s5 s6; go_simp; with_reducible rfl)
 simp only [Act.put, List.setIfInBounds_toArray, List.set_cons_zero, List.set_cons_succ]
 refine wpAnyK_take 21 105 (v := ?vz21) rfl (by kernel_rfl) (by kernel_rfl) (by kernel_rfl) (by kernel_rfl) (by kernel_rfl) (fun _ _ _ h => h) rfl (Or.inl ⟨by rfl, ?hz21⟩) (by assumption) ?rz21
 case hz21 => (intro w hSw; obtain ⟨s0, s1, s2, s3, s4, s5, s6⟩ := hSw; simp only [Nat.add_assoc, Nat.reduceMul, Nat.reduceAdd] at s2 s3 s4 s5 s6; go_simp; with_reducible rfl)
 simp only [Act.put, List.setIfInBounds_toArray, List.set_cons_zero, List.set_cons_succ]
 refine wpAnyK_one 22 (by kernel_rfl) rfl (fun K hK => ?_)
 go_simp
 refine (Im.l_3 _).mono ?_
 rintro e' v5 ⟨rfl, hv⟩
 have D5x := hide (bw_trans D4x.out hv)
 have S5 := SF.out _ D5x.out
 clear S4 hv
 refine hK.out _ _ (fun _ _ => S5) ?_
 clear hK K
 simp only [List.setIfInBounds_toArray, List.set_cons_zero, List.set_cons_succ]
 refine wpAnyK_take 23 107 (v := ?vz23) rfl (by kernel_rfl) (by kernel_rfl) (by kernel_rfl) (by kernel_rfl) (by kernel_rfl) (fun _ _ _ h => h) rfl (Or.inl ⟨by rfl, ?hz23⟩) (by assumption) ?rz23
 case hz23 => (intro w hSw; obtain ⟨s0, s1, s2, s3, s4, s5, s6⟩ := hSw; simp only [Nat.add_assoc, Nat.reduceMul, Nat.reduceAdd] at s2 s3 s4 s5 s6; go_simp; with_reducible rfl)
 simp only [Act.put, List.setIfInBounds_toArray, List.set_cons_zero, List.set_cons_succ]
 refine wpAnyK_take 24 108 (v := ?vz24) rfl (by kernel_rfl) (by kernel_rfl) (by kernel_rfl) (by kernel_rfl) (by kernel_rfl) (fun _ _ _ h => h) rfl (Or.inl ⟨by rfl, ?hz24⟩) (by assumption) ?rz24
 case hz24 => (intro w hSw; obtain ⟨s0, s1, s2, s3, s4, s5, s6⟩ := hSw; simp only [Nat.add_assoc, Nat.reduceMul, Nat.reduceAdd] at s2 s3 s4 s5 s6; go_simp; with_reducible rfl)
 simp only [Act.put, List.setIfInBounds_toArray, List.set_cons_zero, List.set_cons_succ]
 refine wpAnyK_take 25 109 (v := ?vz25) rfl (by kernel_rfl) (by kernel_rfl) (by kernel_rfl) (by kernel_rfl) (by kernel_rfl) (fun _ _ _ h => h) rfl (Or.inl ⟨by rfl, ?hz25⟩) (by assumption) ?rz25
 case hz25 => (intro w hSw; obtain ⟨s0, s1, s2, s3, s4, s5, s6⟩ := hSw; simp only [Nat.add_assoc, Nat.reduceMul, Nat.reduceAdd] at s2 s3 s4 s5 s6; go_simp; with_reducible rfl)
 simp only [Act.put, List.setIfInBounds_toArray, List.set_cons_zero, List.set_cons_succ]
 refine wpAnyK_take 26 110 (v := ?vz26) rfl (by kernel_rfl) (by kernel_rfl) (by kernel_rfl) (by kernel_rfl) (by kernel_rfl) (fun _ _ _ h => h) rfl (Or.inl ⟨by rfl, ?hz26⟩) (by assumption) ?rz26
 case hz26 => (intro w hSw; obtain ⟨s0, s1, s2, s3, s4, s5, s6⟩ := hSw; simp only [Nat.add_assoc, Nat.reduceMul, Nat.reduceAdd] at s2 s3 s4 s5 s6; go_simp; with_reducible rfl)
 simp only [Act.put, List.setIfInBounds_toArray, List.set_cons_zero, List.set_cons_succ]
 refine wpAnyK_take 27 111 (v := ?vz27) rfl (by kernel_rfl) (by kernel_rfl) (by kernel_rfl) (by kernel_rfl) (by kernel_rfl) (fun _ _ _ h => h) rfl (Or.inl ⟨by rfl, ?hz27⟩) (by assumption) ?rz27
 case hz27 => (intro w hSw; obtain ⟨s0, s1, s2, s3, s4, s5, s6⟩ := hSw; simp only [Nat.add_assoc, Nat.reduceMul, Nat.reduceAdd] at s2 s3 s4 s5 s6; go_simp; with_reducible rfl)
 simp only [Act.put, List.setIfInBounds_toArray, List.set_cons_zero, List.set_cons_succ]
 refine wpAnyK_take 28 112 (v := ?vz28) rfl (by kernel_rfl) (by kernel_rfl) (by kernel_rfl) (by kernel_rfl) (by kernel_rfl) (fun _ _ _ h => h) rfl (Or.inl ⟨by rfl, ?hz28⟩) (by assumption) ?rz28
 case hz28 => (intro w hSw; obtain ⟨s0, s1, s2, s3, s4, s5, s6⟩ := hSw; simp only [Nat.add_assoc, Nat.reduceMul, Nat.reduceAdd] at s2 s3 s4 s5 s6; go_simp; with_reducible rfl)
 simp only [Act.put, List.setIfInBounds_toArray, List.set_cons_zero, List.set_cons_succ]
 refine wpAnyK_take 29 113 (v := ?vz29) rfl (by kernel_rfl) (by kernel_rfl) (by kernel_rfl) (by kernel_rfl) (by kernel_rfl) (fun _ _ _ h => h) rfl (Or.inl ⟨by rfl, ?hz29⟩) (by assumption) ?rz29
 case hz29 => (intro w hSw; obtain ⟨s0, s1, s2, s3, s4, s5, s6⟩ := hSw; simp only [Nat.add_assoc, Nat.reduceMul, Nat.reduceAdd] at s2 s3 s4 s5 s6; go_simp; with_reducible rfl)
 simp only [Act.put, List.setIfInBounds_toArray, List.set_cons_zero, List.set_cons_succ]
 refine wpAnyK_one 30 (by kernel_rfl) rfl (fun K hK => ?_)
 go_simp
 refine (imof_any _ _ _).mono ?_
 rintro e' v6 ⟨rfl, hv⟩
 obtain rfl : v5 = v6 := hv.symm
 refine hK.out _ _ (fun _ _ => S5) ?_
 clear hK K
 simp only [List.setIfInBounds_toArray, List.set_cons_zero, List.set_cons_succ]
 refine wpAnyK_one 31 (by kernel_rfl) rfl (fun K hK => ?_)
 go_simp
 refine (Im.l_4 _).mono ?_
 rintro e' v7 ⟨rfl, hv⟩
 have D7x := hide (bw_trans D5x.out hv)
 have S7 := SF.out _ D7x.out
 clear S5 hv
 refine hK.out _ _ (fun _ _ => S7) ?_
 clear hK K
 simp only [List.setIfInBounds_toArray, List.set_cons_zero, List.set_cons_succ]
 refine wpAnyK_take 32 116 (v := ?vz32) rfl (by kernel_rfl) (by kernel_rfl) (by kernel_rfl) (by kernel_rfl) (by kernel_rfl) (fun _ _ _ h => h) rfl (Or.inl ⟨by rfl, ?hz32⟩) (by assumption) ?rz32
 case hz32 => (intro w hSw; obtain ⟨s0, s1, s2, s3, s4, s5, s6⟩ := hSw; simp only [Nat.add_assoc, Nat.reduceMul, Nat.reduceAdd] at s2 s3 s4 s5 s6; go_simp; with_reducible rfl)
 simp only [Act.put, List.setIfInBounds_toArray, List.set_cons_zero, List.set_cons_succ]
 refine wpAnyK_take 33 117 (v := ?vz33) rfl (by kernel_rfl) (by kernel_rfl) (by kernel_rfl) (by kernel_rfl) (by kernel_rfl) (fun _ _ _ h => h) rfl (Or.inl ⟨by rfl, ?hz33⟩) (by assumption) ?rz33
 case hz33 => (intro w hSw; obtain ⟨s0, s1, s2, s3, s4, s5, s6⟩ := hSw; simp only [Nat.add_assoc, Nat.reduceMul, Nat.reduceAdd] at s2 s3 s4 s5 s6; go_simp; with_reducible rfl)
 simp only [Act.put, List.setIfInBounds_toArray, List.set_cons_zero, List.set_cons_succ]
 refine wpAnyK_take 34 118 (v := ?vz34) rfl (by kernel_rfl) (by kernel_rfl) (by kernel_rfl) (by kernel_rfl) (by kernel_rfl) (fun _ _ _ h => h) rfl (Or.inl ⟨by rfl, ?hz34⟩) (by assumption) ?rz34
 case hz34 => (intro w hSw; obtain ⟨s0, s1, s2, s3, s4, s5, s6⟩ := hSw; simp only [Nat.add_assoc, Nat.reduceMul, Nat.reduceAdd] at s2 s3 s4 s5 s6; go_simp; with_reducible rfl)
 simp only [Act.put, List.setIfInBounds_toArray, List.set_cons_zero, List.set_cons_succ]
 refine wpAnyK_take 35 119 (v := ?vz35) rfl (by kernel_rfl) (by kernel_rfl) (by kernel_rfl) (by kernel_rfl) (by kernel_rfl) (fun _ _ _ h => h) rfl (Or.inl ⟨by rfl, ?hz35⟩) (by assumption) ?rz35
 case hz35 => (intro w hSw; obtain ⟨s0, s1, s2, s3, s4, s5, s6⟩ := hSw; simp only [Nat.add_assoc, Nat.reduceMul, Nat.reduceAdd] at s2 s3 s4 s5 s6; go_simp; with_reducible rfl)
 simp only [Act.put, List.setIfInBounds_toArray, List.set_cons_zero, List.set_cons_succ]
 refine wpAnyK_take 36 120 (v := ?vz36) rfl (by kernel_rfl) (by kernel_rfl) (by kernel_rfl) (by kernel_rfl) (by kernel_rfl) (fun _ _ _ h => h) rfl (Or.inl ⟨by rfl, ?hz36⟩) (by assumption) ?rz36
 case hz36 => (intro w hSw; obtain ⟨s0, s1, s2, s3, s4, s5, s6⟩ := hSw; simp only [Nat.add_assoc, Nat.reduceMul, Nat.reduceAdd] at s2 s3 s4 s5 s6; go_simp; with_reducible rfl)
 simp only [Act.put, List.setIfInBounds_toArray, List.set_cons_zero, List.set_cons_succ]
 refine wpAnyK_take 37 121 (v := ?vz37) rfl (by kernel_rfl) (by kernel_rfl) (by kernel_rfl) (by kernel_rfl) (by kernel_rfl) (fun _ _ _ h => h) rfl (Or.inl ⟨by rfl, ?hz37⟩) (by assumption) ?rz37
 case hz37 => (intro w hSw; obtain ⟨s0, s1, s2, s3, s4, s5, s6⟩ := hSw; simp only [Nat.add_assoc, Nat.reduceMul, Nat.reduceAdd] at s2 s3 s4 s5 s6; go_simp; with_reducible rfl)
 simp only [Act.put, List.setIfInBounds_toArray, List.set_cons_zero, List.set_cons_succ]
 refine wpAnyK_take 38 122 (v := ?vz38) rfl (by kernel_rfl) (by kernel_rfl) (by kernel_rfl) (by kernel_rfl) (by kernel_rfl) (fun _ _ _ h => h) rfl (Or.inl ⟨by rfl, ?hz38⟩) (by assumption) ?rz38
 case hz38 => (intro w hSw; obtain ⟨s0, s1, s2, s3, s4, s5, s6⟩ := hSw; simp only [Nat.add_assoc, Nat.reduceMul, Nat.reduceAdd] at s2 s3 s4 s5 s6; go_simp; with_reducible rfl)
 simp only [Act.put, List.setIfInBounds_toArray, List.set_cons_zero, List.set_cons_succ]
 refine wpAnyK_one 39 (by kernel_rfl) rfl (fun K hK => ?_)
 go_simp
 refine (imof_any _ _ _).mono ?_
 rintro e' v8 ⟨rfl, hv⟩
 obtain rfl : v7 = v8 := hv.symm
 refine hK.out _ _ (fun _ _ => S7) ?_
 clear hK K
 simp only [List.setIfInBounds_toArray, List.set_cons_zero, List.set_cons_succ]
 refine wpAnyK_one 40 (by kernel_rfl) rfl (fun K hK => ?_)
 go_simp
 refine (Im.l_5 _).mono ?_
 rintro e' v9 ⟨rfl, hv⟩
 have D9x := hide (bw_trans D7x.out hv)
 have S9 := SF.out _ D9x.out
 clear S7 hv
 refine hK.out _ _ (fun _ _ => S9) ?_
 clear hK K
 simp only [List.setIfInBounds_toArray, List.set_cons_zero, List.set_cons_succ]
 refine wpAnyK_take 41 125 (v := ?vz41) rfl (by kernel_rfl) (by kernel_rfl) (by kernel_rfl) (by kernel_rfl) (by kernel_rfl) (fun _ _ _ h => h) rfl (Or.inl ⟨by rfl, ?hz41⟩) (by assumption) ?rz41
 case hz41 => (intro w hSw; obtain ⟨s0, s1, s2, s3, s4, s5, s6⟩ := hSw; simp only [Nat.add_assoc, Nat.reduceMul, Nat.reduceAdd] at s2 s3 s4 s5 s6; go_simp; with_reducible rfl)
 simp only [Act.put, List.setIfInBounds_toArray, List.set_cons_zero, List.set_cons_succ]
 refine wpAnyK_one 42 (by kernel_rfl) rfl (fun K hK => ?_)
 go_simp
 refine hK.out _ _ (fun h => absurd rfl h) ?_
 clear hK K
 simp only [List.setIfInBounds_toArray, List.set_cons_zero, List.set_cons_succ]
 refine wpAnyK_done (by kernel_rfl) ?_ _
 --CUT7
 clear S9
 go_wp2_with fail
 refine (Im.l_6 _).mono ?_
 rintro e' x1 ⟨rfl, hx1⟩
 have E1 := hide (bw_trans D9x.out hx1)
 clear hx1
 go_wp2_with fail
 refine (imof_any _ _ _).mono ?_
 rintro e' x2 ⟨rfl, hx2⟩
 obtain rfl : x1 = x2 := hx2.symm
 go_wp2_with fail
 refine (Im.l_7 _).mono ?_
 rintro e' x3 ⟨rfl, hx3⟩
 have E3 := hide (bw_trans E1.out hx3)
 clear hx3
 go_wp2
 --CUT8
 go_ret
 exact ⟨rfl, bw_trans G4.out (bw_trans D9.out E3.out)⟩
end Go.Proofs.YtnjkdfhhlcoaaaaGreat

