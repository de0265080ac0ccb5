/-
 OWN TEXT: package flow over whole complex numbers: powers, folds, a place in a list.
-/
import Derived.Test.YtjpllggchjgjpaaGreatJPyDToPyG
import Derived.Test.YtjpllggchjgjpaaGreatJElBToElE
import Derived.Test.YtjpllggchjgjpaaGreatJSvB
import Derived.Deep.Slices
import Derived.Laws.AppendOwnNone
import Derived.Maps.AppendAt
namespace Go.Proofs.YtjpllggchjgjpaaGreat
open Go.ChangeShapes Go.WideShapes Go.ChangeAt Go.RowKit
set_option linter.unusedVariables false
attribute [local go_sem] frombits_call tobits_call run_neg
namespace Ff
/-- the powers 1, 2, 3 as floats -/
def pw : Nat → Nat
 | 1 => 4607182418800017408
 | 2 => 4611686018427387904
 | 3 => 4613937818241073152
 | _ => 0
theorem pw_all : ∀ k : Fin 4, pw k.val < 18446744073709551616 ∧ Fl.rg (pw k.val) < 9218868437227405312 ∧ Fl.val (pw k.val) = (k.val : Int) * ((2 ^ 1074 : Nat) : Int) ∧ floatToIntVal .f64 (pw k.val) .i64 = some (k.val : Int) ∧ floatOfInt .f64 (k.val : Int) = pw k.val := by decide +kernel
theorem pw_int {n : Nat} (h : n ≤ 3) : floatToIntVal .f64 (pw n) .i64 = some (n : Int) := (pw_all ⟨n, by omega⟩).2.2.2.1
theorem pw_of {n : Nat} (h : n ≤ 3) : floatOfInt .f64 (n : Int) = pw n := (pw_all ⟨n, by omega⟩).2.2.2.2
theorem pw_wI {c n : Nat} (hc : c = 1074) (h : n ≤ 3) : wI c (pw n) (n : Int) := by
 obtain ⟨h1, h2, h3, _⟩ := pw_all ⟨n, by omega⟩
 subst hc
 exact ⟨h1, h2, h3⟩
theorem pw_eq {n : Nat} (h : n ≤ 3) : Fl.eqF (pw n) (pw n) = true := (show ∀ k : Fin 4, Fl.eqF (pw k.val) (pw k.val) = true by decide +kernel) ⟨n, by omega⟩
end Ff
theorem fold16_0 (a b s t p : Nat) (k : Int) (hk : k = 1 ∨ k = 4) (w : World) : Calls Tryz.prog 60 #[El.E k a b s t p] w fun e w' => e = .returned (.int .i64 0) ∧ Bw w w' := by
 have G := El.bw_new w (.cells #[.int .u8 k, .complex .f64 a b, .complex .f64 s t, .float .f64 p] 29)
 unfold El.E
 rcases hk with rfl | rfl
 ·
  go_enter Tryz.func60, Tryz.ntmps60
  go_wp2
  go_ret
  exact ⟨rfl, G⟩
 ·
  go_enter Tryz.func60, Tryz.ntmps60
  go_wp2
  go_ret
  exact ⟨rfl, G⟩
theorem fold16_3 (a b s t n : Nat) (hn : n ≤ 3) (w : World) : Calls Tryz.prog 60 #[El.E 3 a b s t (Ff.pw n)] w fun e w' => e = .returned (.int .i64 ((n + 1 : Nat) : Int)) ∧ Bw w w' := by
 have G := El.bw_new w (.cells #[.int .u8 3, .complex .f64 a b, .complex .f64 s t, .float .f64 (Ff.pw n)] 29)
 have CV := El.conv_run (Ff.pw_int hn)
 have wr : IntKind.i64.wrap ((n : Int) + 1) = ((n + 1 : Nat) : Int) := by rw [IntKind.wrap_i64]; omega
 unfold El.E
 generalize Ff.pw n = p at *
 go_enter Tryz.func60, Tryz.ntmps60
 go_wp2
 go_ret
 exact ⟨rfl, G⟩
theorem whole16 (n : Nat) (hn : n ≤ 3) (w : World) : Calls Tryz.prog 59 #[.float .f64 (Ff.pw n)] w fun e w' => e = .returned (.bool true) ∧ w' = w := by
 have CV := El.conv_run (Ff.pw_int hn)
 have CI := Ff.pw_of hn
 have o := Fl.o_eq (Ff.pw n) (Ff.pw n)
 rw [Ff.pw_eq hn] at o
 generalize Ff.pw n = p at *
 go_enter Tryz.func59, Tryz.ntmps59
 go_wp2
 go_ret
 exact ⟨rfl, rfl⟩
end Go.Proofs.YtjpllggchjgjpaaGreat

/-
 OWN TEXT: package flow over whole complex numbers: a place in a list, a place so many times.
-/
namespace Go.Proofs.YtjpllggchjgjpaaGreat
open Go.ChangeShapes Go.WideShapes Go.ChangeAt Go.RowKit
set_option linter.unusedVariables false
attribute [local go_sem] frombits_call tobits_call run_neg run_store_cx
namespace Ff
/-- a slice of places -/
def Pl (c : Nat) (w : World) (a : Option Addr) (gs : List Py.G) : Prop := gs.length = 0 ∨ ∃ b o, a = some ⟨b, o, none⟩ ∧ Gl c w b o gs
theorem Pl.bw {c : Nat} {w w' : World} {a : Option Addr} {gs : List Py.G} (h : Pl c w a gs) (k : Bw w w') : Pl c w' a gs := by
 rcases h with h | ⟨b, o, e, h⟩
 · exact Or.inl h
 · exact Or.inr ⟨b, o, e, h.bw k⟩
/-- the number of the first one that is the same, or -1 -/
def Fd (gs : List Py.G) (z : Py.G) (r : Int) : Prop := (∃ k : Nat, k < gs.length ∧ r = (k : Int) ∧ Py.co gs k = z ∧ ∀ j, j < k → Py.co gs j ≠ z) ∨ (r = -1 ∧ ∀ j, j < gs.length → Py.co gs j ≠ z)
end Ff
set_option maxHeartbeats 4000000 in
theorem find16 {c : Nat} {w : World} {a : Option Addr} {cap n x y : Nat} {gs : List Py.G} {z : Py.G} (hn : gs.length = n) (hm : n < 1000) (h : Ff.Pl c w a gs) (hz : wC c x y z) :
  Calls Tryz.prog 34 #[.slice a n cap, .complex .f64 x y] w fun e w' => ∃ r, e = .returned (.int .i64 r) ∧ Ff.Fd gs z r ∧ w' = w := by
 have HG := hide h
 have HZ := hide hz
 have HN := hide hn
 clear h hz hn
 go_enter Tryz.func34, Tryz.ntmps34
 go_wp2
 go_loopw [9] (fun i wr => ∃ k : Nat, k ≤ n ∧ i = .int .i64 k ∧ Hid (∀ j, j < k → Py.co gs j ≠ z) ∧ wr = w) (fun i _ => n - (intOf i).toNat)
 case atStart => exact ⟨0, Nat.zero_le _, rfl, hide (fun j hj => absurd hj (by omega)), rfl⟩
 case round =>
  obtain ⟨k, hk, rfl, HK, rfl⟩ := hrel
  by_cases hk1 : k < n
  ·
   obtain ⟨b, o, rfl, hg⟩ := HG.out.resolve_left (by have := HN.out; omega)
   obtain ⟨u, v, e, q⟩ := hg.2 k (by have := HN.out; omega)
   have P : Hid (∀ wz, Calls Tryz.prog 55 #[.complex .f64 u v, .complex .f64 x y] wz fun e w' => e = .returned (.bool (decide (Py.co gs k = z))) ∧ w' = wz) := fun wz => plike8 q HZ.out wz
   clear q hg
   have hk2 : (k : Int) < n := by omega
   go_wp2_with fail
   refine (P.out _).mono ?_
   rintro e' w1 ⟨rfl, hw⟩
   subst hw
   clear P e
   by_cases he : Py.co gs k = z
   ·
    rw [decide_eq_true he]
    have HE := hide he
    clear he
    go_wp2
    go_ret
    exact ⟨_, rfl, Or.inl ⟨k, by have := HN.out; omega, rfl, HE.out, HK.out⟩, rfl⟩
   ·
    rw [decide_eq_false he]
    have HE := hide he
    clear he
    go_wp2
    go_roundw
    case rel => exact ⟨k + 1, by omega, by simp, hide (fun j hj => by
     by_cases e : j = k
     · rw [e]; exact HE.out
     · exact HK.out j (by omega)), trivial⟩
    case measure => simp [intOf]; omega
  ·
   have hk3 : k = n := by omega
   subst hk3
   go_wp2
   go_ret
   exact ⟨_, rfl, Or.inr ⟨rfl, fun j hj => HK.out j (by have := HN.out; omega)⟩, rfl⟩
namespace Ff
theorem rep_co (n i : Nat) (z : Py.G) (h : i < n) : Py.co (List.replicate n z) i = z := by simp [Py.co, List.getD, h]
theorem gl_rep {c : Nat} {w : World} {B n : Nat} {L : List Py.G} {z : Py.G} (h : Gl c w B 0 L) (hl : L.length = n) (hz : ∀ i, i < n → Py.co L i = z) : Gl c w B 0 (List.replicate n z) := by
 have e : L = List.replicate n z := Py.list_ext (by rw [hl, List.length_replicate]) (fun i hi => by rw [hz i (by omega), rep_co n i z (by omega)])
 rw [← e]; exact h
end Ff
set_option maxHeartbeats 4000000 in
theorem repeated16 {c : Nat} (x y n : Nat) (z : Py.G) (hn : n ≤ 64) (hz : wC c x y z) (w : World) :
  Calls Tryz.prog 68 #[.complex .f64 x y, .int .i64 (n : Int)] w fun e w' => e = .returned (.slice (some ⟨w.heap.size, 0, none⟩) n n) ∧ Gl c w' w.heap.size 0 (List.replicate n z) ∧ Bw w w' := by
 have HZ := hide hz
 have hmk := make_c (n : Int) n rfl (by omega) w
 have hbw := bw_alloc w (.cells (zcC n) 26)
 have HW := hide (Gw.made c w n 26)
 have HB := hide (Nat.le_refl w.heap.size)
 clear hz
 generalize hW : w.alloc (.cells (zcC n) 26) = W at *
 obtain ⟨B, hB⟩ : ∃ B, w.heap.size = B := ⟨_, rfl⟩
 have HB2 := hide hB
 rw [hB] at hmk HW
 go_enter Tryz.func68, Tryz.ntmps68
 go_wp2
 clear hW hmk
 go_loopw [11] (fun i wr => ∃ (k : Nat) (L : List Py.G), k ≤ n ∧ i = .int .i64 k ∧ L.length = n ∧ Gw c wr B L ∧ Hid (∀ i, i < k → Py.co L i = z) ∧ Bw w wr) (fun i _ => n - (intOf i).toNat)
 case atStart => exact ⟨0, _, Nat.zero_le _, rfl, by simp, HW.out, hide (fun j hj => absurd hj (by omega)), hbw⟩
 case round =>
  obtain ⟨k, L, hk, rfl, hL, hG, HK, hb⟩ := hrel
  clear hbw HW
  by_cases hk1 : k < n
  ·
   have hk2 : (k : Int) < n := by omega
   obtain ⟨u, v, e, q⟩ := hG.1.2 k (by omega)
   rw [Nat.zero_add] at e
   have fz := hG.2 k
   have R : Hid ((L.set k z).length = n ∧ Gw c (wr.setCell ⟨B, k, none⟩ (.complex .f64 x y)) B (L.set k z) ∧ (∀ i, i < k + 1 → Py.co (L.set k z) i = z) ∧ Bw w (wr.setCell ⟨B, k, none⟩ (.complex .f64 x y))) := by
    refine ⟨by rw [List.length_set]; exact hL, hG.set k x y z (by omega) HZ.out, fun i hi => ?_, Below.setCell hb (by have := HB2.out; show _ ≤ B; omega) _⟩
    rw [Py.co_set _ _ _ _ (by omega)]
    by_cases e : i = k
    · rw [if_pos e]
    · rw [if_neg e]; exact HK.out i (by omega)
   clear q hG hb HK
   go_wp2
   go_roundw
   case rel => exact ⟨k + 1, _, by omega, by simp, R.out.1, R.out.2.1, hide R.out.2.2.1, R.out.2.2.2⟩
   case measure => simp [intOf]; omega
  ·
   have hk3 : k = n := by omega
   subst hk3
   have R := hide (Ff.gl_rep hG.1 hL HK.out)
   clear hG HK
   go_wp2
   go_ret
   exact ⟨by rw [hB]; rfl, by rw [hB]; exact R.out, hb⟩
end Go.Proofs.YtjpllggchjgjpaaGreat

/-
 OWN TEXT: package flow over whole complex numbers: lists that grow; the roots of a common bottom.
-/
namespace Go.Proofs.YtjpllggchjgjpaaGreat
open Go.ChangeShapes Go.WideShapes Go.ChangeAt Go.RowKit
set_option linter.unusedVariables false
attribute [local go_sem] frombits_call tobits_call run_neg run_store_cx
theorem ff_append {P : Program} {ops : Array Oper} {rest : List Oper} {o : Oper} {a : Act} {w : World} {Q : Exit → Act → World → Prop} (hgd : o.guard = none) (s x : Operand) (t : TypeId)
  (ho : o.op = Op.call { callee := Callee.builtin Builtin.append, args := #[s, x], argTypes := #[t, t] }) (v1 v2 v' : Value) (hs : a.eval s = v1) (hx : a.eval x = v2) (w' : World)
  (hrun : (Builtin.append_ #[t, t] o.type #[v1, v2]).run P w = .ok v' w') (h : wpList P ops Q rest (a.put o.dst v') w') : wpList P ops Q (o :: rest) a w := by
 refine wpList_plain hgd fun K hK => ?_
 unfold Oper.wp
 simp [execOp, ho, resolve, invoke, builtin, hs, hx, hrun, Result.andThen]
 exact hK _ _ h
namespace Ff
theorem info_c : (Tryz.prog.info? 26).map (fun i => (i.zero, i.size, i.bytes)) = some (some (.complex .f64 0 0), 1, 16) := by kernel_rfl
theorem info_i : (Tryz.prog.info? 3).map (fun i => (i.zero, i.size, i.bytes)) = some (some (.int .i64 0), 1, 8) := by kernel_rfl
theorem und_c : Tryz.prog.underlying 40 = some (.slice 26) := by kernel_rfl
theorem und_i : Tryz.prog.underlying 50 = some (.slice 3) := by kernel_rfl
def Vl (c : Nat) (vals : List Value) (L : List Py.G) : Prop := vals.length = L.length ∧ ∀ j, j < L.length → ∃ x y, vals[j]? = some (.complex .f64 x y) ∧ wC c x y (Py.co L j)
theorem Vl.app {c : Nat} {vals vals' : List Value} {L l : List Py.G} (h : Vl c vals L) (h' : Vl c vals' l) : Vl c (vals ++ vals') (L ++ l) := by
 obtain ⟨h1, h2⟩ := h
 obtain ⟨k1, k2⟩ := h'
 refine ⟨by simp [h1, k1], fun j hj => ?_⟩
 rw [List.length_append] at hj
 rw [Py.co_append]
 by_cases q : j < L.length
 ·
  rw [if_pos q, List.getElem?_append_left (by omega)]
  exact h2 j q
 ·
  rw [if_neg q, List.getElem?_append_right (by omega), h1]
  exact k2 _ (by omega)
/-- a slice of ints -/
def Ni (w : World) (a : Option Addr) (fs : List Nat) : Prop := fs.length = 0 ∨ ∃ b o, a = some ⟨b, o, none⟩ ∧ b < w.heap.size ∧ ∀ i, i < fs.length → w.cell? ⟨b, o + i, none⟩ = some (.int .i64 ((fs.getD i 0 : Nat) : Int))
theorem Ni.bw {w w' : World} {a : Option Addr} {fs : List Nat} (h : Ni w a fs) (k : Bw w w') : Ni w' a fs := by
 rcases h with h | ⟨b, o, e, hb, h⟩
 · exact Or.inl h
 · exact Or.inr ⟨b, o, e, Nat.lt_of_lt_of_le hb k.size, fun i hi => (Below.cell k (p := ⟨b, o + i, none⟩) hb).trans (h i hi)⟩
/-- each place as often as it is told -/
def rl (cs : List (Py.G × Nat)) : List Py.G := cs.flatMap fun p => List.replicate p.2 p.1
theorem rl_take {cs : List (Py.G × Nat)} {k : Nat} (h : k < cs.length) : rl (cs.take (k + 1)) = rl (cs.take k) ++ List.replicate ((cs.map Prod.snd).getD k 0) (Py.co (cs.map Prod.fst) k) := by
 unfold rl
 rw [List.take_succ_eq_append_getElem h, List.flatMap_append]
 simp [Py.co, List.getD, h]
theorem rl_le (cs : List (Py.G × Nat)) (k : Nat) : (rl (cs.take k)).length ≤ (rl cs).length := by
 have h := List.take_append_drop k cs
 have : rl cs = rl (cs.take k) ++ rl (cs.drop k) := by
  unfold rl
  rw [← List.flatMap_append, h]
 rw [this, List.length_append]
 omega
/-- append(l, s...) of complex numbers onto a list of the call's own -/
theorem pushC {c : Nat} {w : World} {base n m : Nat} {v : Value} {vals : List Value} {L l : List Py.G} (ty : TypeId) (ho : w.ownsRow base 26 1 v n vals) (hv : Vl c vals L) {b o cap : Nat} (hg : Gl c w b o l) (hm : l.length = m) (hnm : n + m ≤ 1000) (hb : base ≤ w.heap.size) :
  ∃ v' w' vals', (Builtin.append_ #[40, 40] ty #[v, .slice (some ⟨b, o, none⟩) m cap]).run Tryz.prog w = .ok v' w' ∧ w'.ownsRow base 26 1 v' (n + m) vals' ∧ Vl c vals' (L ++ l) ∧ w.grownBy w' v.ownBlock ∧ (v'.ownBlock = v.ownBlock ∨ v'.ownBlock = some w.heap.size) := by
 obtain ⟨i0, hi0, hz⟩ := Option.map_eq_some_iff.1 info_c
 simp only [Prod.mk.injEq] at hz
 obtain ⟨F, hF⟩ := hg.words
 obtain ⟨v', w', h1, h2, h3, _, h5⟩ := run_append_own_at (P := Tryz.prog) w base 40 ty 26 i0 (.complex .f64 0 0) 1 16 und_c hi0 hz.1 hz.2.1 hz.2.2 rfl (by decide) v n vals ho ⟨b, o, none⟩ m cap (vsC F m) (by rw [vsC_len, Nat.mul_one])
  (fun j u hu => by
   have hj : j < m := by
    rcases Nat.lt_or_ge j m with q | q
    · exact q
    · rw [List.getElem?_eq_none (by rw [vsC_len]; exact q)] at hu; cases hu
   rw [vsC_get _ _ _ hj] at hu
   cases hu
   rw [show (⟨b, o, none⟩ : Addr).add j = ⟨b, o + j, none⟩ by cases j <;> simp [Addr.add]]
   exact (hF j (by omega)).1) (fun u hu => by
   simp only [vsC, List.mem_map] at hu
   obtain ⟨j, _, rfl⟩ := hu
   rfl) (by unfold maxLen; omega) (by omega) hb
 refine ⟨v', w', _, h1, h2, hv.app ⟨by rw [vsC_len, hm], fun j hj => ⟨_, _, vsC_get _ _ _ (by omega), (hF j hj).2⟩⟩, h3, h5⟩
theorem own_pl {c : Nat} {w : World} {base n : Nat} {v : Value} {vals : List Value} {L : List Py.G} (ho : w.ownsRow base 26 1 v n vals) (hv : Vl c vals L) (hn : L.length = n) : ∃ a cap, v = .slice a n cap ∧ Pl c w a L := by
 rcases Nat.eq_zero_or_pos n with h | h
 ·
  rcases ho.2 with ⟨e, z⟩ | ⟨g, cap, _, e, _⟩
  · exact ⟨none, 0, by rw [e, z], Or.inl (by omega)⟩
  · exact ⟨_, cap, e, Or.inl (by omega)⟩
 ·
  obtain ⟨g, cap, e, hb, hlt⟩ := ho.form h
  refine ⟨_, cap, e, Or.inr ⟨g, 0, rfl, hlt, fun i hi => ?_⟩⟩
  obtain ⟨x, y, q1, q2⟩ := hv.2 i hi
  subst e
  exact ⟨x, y, by rw [Nat.zero_add, ho.cellAt i (by omega)]; exact q1, q2⟩
end Ff
set_option maxHeartbeats 8000000 in
theorem roots16 {c : Nat} {w : World} {a a' ab : Option Addr} {cap cap' n nb capb : Nat} {cs : List (Py.G × Nat)} (hn : cs.length = n) (hm : n ≤ 64) (hP : Ff.Pl c w a (cs.map Prod.fst)) (hF : Ff.Ni w a' (cs.map Prod.snd)) (hs : (Ff.rl cs).length ≤ 64) :
  Calls Tryz.prog 63 #[.agg #[.slice a n cap, .slice a' n cap', .slice ab nb capb]] w fun e w' => ∃ a'' cap'', e = .returned (.slice a'' (Ff.rl cs).length cap'') ∧ Ff.Pl c w' a'' (Ff.rl cs) ∧ Bw w w' := by
 have ba := bw_alloc w (.cells #[.slice a n cap, .slice a' n cap', .slice ab nb capb] 76)
 have c0 : (w.alloc (.cells #[.slice a n cap, .slice a' n cap', .slice ab nb capb] 76)).cell? ⟨w.heap.size, 0, none⟩ = some (.slice a n cap) := by simp
 have c1 : (w.alloc (.cells #[.slice a n cap, .slice a' n cap', .slice ab nb capb] 76)).cell? ⟨w.heap.size, 1, none⟩ = some (.slice a' n cap') := by simp
 have hB0 : w.heap.size < (w.alloc (.cells #[.slice a n cap, .slice a' n cap', .slice ab nb capb] 76)).heap.size := by simp
 have HP := hide (hP.bw ba)
 have HF := hide (hF.bw ba)
 have HN := hide hn
 have HS := hide hs
 clear hP hF hn hs
 go_enter Tryz.func63, Tryz.ntmps63
 go_wp2
 generalize w.alloc (.cells #[.slice a n cap, .slice a' n cap', .slice ab nb capb] 76) = W at *
 generalize w.heap.size = B0 at *
 go_loopw [3, 9] (fun v i wr => ∃ (k : Nat) (vals : List Value), k ≤ n ∧ i = .int .i64 k ∧ wr.ownsRow W.heap.size 26 1 v (Ff.rl (cs.take k)).length vals ∧ Ff.Vl c vals (Ff.rl (cs.take k)) ∧ Bw W wr) (fun _ i _ => n - (intOf i).toNat)
 case atStart => exact ⟨0, [], Nat.zero_le _, rfl, World.ownsRow_nil _ _ _ _, ⟨rfl, fun j hj => absurd hj (by simp [Ff.rl])⟩, Bw.refl _⟩
 case round =>
  obtain ⟨k, vals, hk, rfl, hown, hv, hb⟩ := hrel
  by_cases hk1 : k < n
  ·
   have hk2 : (k : Int) < n := by omega
   obtain ⟨b, o, rfl, hg⟩ := (HP.out.bw hb).resolve_left (by rw [List.length_map]; have := HN.out; omega)
   obtain ⟨b', o', rfl, hb', hf⟩ := (HF.out.bw hb).resolve_left (by rw [List.length_map]; have := HN.out; omega)
   obtain ⟨u, v, e, q⟩ := hg.2 k (by rw [List.length_map]; have := HN.out; omega)
   have e2 := hf k (by rw [List.length_map]; have := HN.out; omega)
   have hz0 := Ff.rl_take (cs := cs) (k := k) (by have := HN.out; omega)
   have hz1 := Ff.rl_le cs (k + 1)
   obtain ⟨m, hm'⟩ : ∃ m, (cs.map Prod.snd).getD k 0 = m := ⟨_, rfl⟩
   obtain ⟨z, hz⟩ : ∃ z, Py.co (cs.map Prod.fst) k = z := ⟨_, rfl⟩
   rw [hm'] at e2 hz0
   rw [hz] at q hz0
   rw [hz0, List.length_append, List.length_replicate] at hz1
   have hml : (Ff.rl (cs.take k)).length + m ≤ 64 := by have := HS.out; omega
   have RP := hide (fun wz => repeated16 u v m z (by omega) q wz)
   have HZ0 := hide hz0
   have HK := hide (And.intro hown (And.intro hv (And.intro hb hml)))
   have c0' := (Below.cell hb (p := ⟨B0, 0, none⟩) hB0).trans c0
   have c1' := (Below.cell hb (p := ⟨B0, 1, none⟩) hB0).trans c1
   clear hz0 hz1 q hg hf hb' hm' hz hown hv hml hb
   go_wp2_with fail
   refine (RP.out _).mono ?_
   rintro e' w1 ⟨rfl, hG, b1⟩
   obtain ⟨hown, hv, hb, hml⟩ := HK.out
   have bW1 := bw_trans hb b1
   obtain ⟨v', w', vals', h1, h2, h3, h4, h5⟩ := Ff.pushC 40 (hown.kept (Sv.gb_bw b1 none) (by cases (Value.ownBlock _) <;> simp)) hv hG List.length_replicate (cap := m) (by omega) bW1.size
   have ER := hide h1
   have b2 : Bw W w' := Below.grown bW1 h4 bW1.size (fun x e => (hown.lt x e).1)
   have R : Hid (w'.ownsRow W.heap.size 26 1 v' (Ff.rl (cs.take (k + 1))).length vals' ∧ Ff.Vl c vals' (Ff.rl (cs.take (k + 1))) ∧ Bw W w') := by
    rw [HZ0.out, List.length_append, List.length_replicate]
    exact ⟨h2, h3, b2⟩
   clear h1 h2 h3 h4 h5 b2 bW1 hG b1 hown hv hb hml HK RP HZ0 e e2 c0' c1'
   go_wp2_with (first
    | (at_builtin; refine ff_append rfl _ _ 40 rfl _ _ _ rfl rfl _ ER.out ?_)
    | go_in)
   clear ER
   go_wp2
   go_roundw
   case rel => exact ⟨k + 1, _, by omega, by simp, R.out.1, R.out.2.1, R.out.2.2⟩
   case measure => simp [intOf]; omega
  ·
   have hk3 : k = n := by omega
   subst hk3
   have hT : cs.take k = cs := List.take_of_length_le (by have := HN.out; omega)
   rw [hT] at hown hv
   obtain ⟨a2, cap2, rfl, hpl⟩ := Ff.own_pl hown hv rfl
   have R := hide (And.intro hpl (bw_trans ba hb))
   clear hown hv hpl hb
   go_wp2
   go_ret
   exact ⟨_, _, rfl, R.out⟩
end Go.Proofs.YtjpllggchjgjpaaGreat

