/-
 OWN TEXT: package solve, of floats: Solve.
-/
import Derived.Test.YtjfkdmddfeeheaaJSvIToSvJ
namespace Go.Proofs.Ytjfkdmddfeeheaa
open Go.ChangeShapes Go.WideShapes Go.ChangeAt Go.RowKit
set_option linter.unusedVariables false
attribute [local go_sem] frombits_call tobits_call run_neg

attribute [local go_sem] stof14
namespace Sv
/-- with a right side -/
def aug (n : Nat) (A : M) (b : Nat → Nat) : M := fun i j => if j < n then A i j else b i
/-- what Solve tells, and its unknowns -/
def solX (n : Nat) (A : M) (b : Nat → Nat) : Nat → Nat := bx (st n (aug n A b) n) n n
def solE (n : Nat) (l : Nat → Nat) (A : M) (nb : Nat) (b : Nat → Nat) : Int :=
 if chkA n l A 1 (fun _ => nb) (fun _ => b) = 0 then (if good n (aug n A b) n then (if fin (solX n A b) n then 0 else 141) else 141) else chkA n l A 1 (fun _ => nb) (fun _ => b)
/-- one more float behind a row that has room -/
theorem Rw.push {w : World} {base B n : Nat} {F : Nat → Nat} {ad : Addr} {c x : Nat} (h : Rw w base B n (n + 1) F) (hx : x < 18446744073709551616) (q : Fl.bitsF x = F n) (hc : ∀ j u, [Value.float .f64 x][j]? = some u → w.cell? (ad.add j) = some u) :
  ∃ w', (Builtin.append_ #[24, 24] 24 #[.slice (some ⟨B, 0, none⟩) n (n + 1), .slice (some ad) 1 c]).run Try.prog w = .ok (.slice (some ⟨B, 0, none⟩) (n + 1) (n + 1)) w' ∧ Rw w' base B (n + 1) (n + 1) F ∧ w.grownBy w' (some B) := by
 obtain ⟨X, ho, hX⟩ := h
 obtain ⟨i, hi, he⟩ := Option.map_eq_some_iff.1 info_f
 simp only [Prod.mk.injEq] at he
 obtain ⟨w', h1, h2, h3⟩ := run_append_fits (P := Try.prog) w base 24 24 25 i 1 und_f hi he.2.1 B n (n + 1) (fv X n) ho ad 1 c [.float .f64 x] rfl hc (fun u hu => by simp only [List.mem_singleton] at hu; subst hu; rfl) (Nat.le_refl _)
 refine ⟨w', h1, ⟨fun j => if j < n then X j else x, ?_, fun j hj => ?_⟩, h3⟩
 ·
  rw [fv_succ]
  have e : fv (fun j => if j < n then X j else x) n = fv X n := fv_ext _ _ _ (fun j hj => by rw [if_pos hj])
  rw [e]
  simp only [Nat.lt_irrefl, if_false]
  exact h2
 ·
  by_cases z : j < n
  · simp only [if_pos z]; exact hX j z
  ·
   simp only [if_neg z]
   rw [show j = n by omega]
   exact ⟨hx, q⟩
/-- k of the n rows have their right side -/
structure Ma (w : World) (base R n k : Nat) (f : Nat → Nat) (A : M) : Prop where
 own : w.ownsRow base 24 1 (.slice (some ⟨R, 0, none⟩) n n) n ((List.range n).map fun i => .slice (some ⟨f i, 0, none⟩) (if i < k then n + 1 else n) (n + 1))
 row : ∀ i, i < n → Rw w base (f i) (if i < k then n + 1 else n) (n + 1) (A i)
 far : ∀ i, i < n → f i ≠ R
 inj : ∀ i j, i < n → j < n → f i = f j → i = j
theorem Mt.ma {w : World} {base R n : Nat} {f : Nat → Nat} {A A' : M} (h : Mt w base R n n (n + 1) f A) (e : ∀ i j, i < n → j < n → A i j = A' i j) : Ma w base R n 0 f A' := by
 refine ⟨?_, fun i hi => ?_, h.far, h.inj⟩
 ·
  have e : ((List.range n).map fun i => Value.slice (some ⟨f i, 0, none⟩) (if i < 0 then n + 1 else n) (n + 1)) = (List.range n).map fun i => Value.slice (some ⟨f i, 0, none⟩) n (n + 1) :=
   List.map_congr_left fun i hi => by rw [if_neg (by omega)]
  rw [e]
  exact h.own
 ·
  rw [if_neg (by omega)]
  exact (h.row i hi).ext (fun j hj => e i j hi hj)
theorem Ma.mt {w : World} {base R n : Nat} {f : Nat → Nat} {A : M} (h : Ma w base R n n f A) : Mt w base R n (n + 1) (n + 1) f A := by
 refine ⟨?_, fun i hi => ?_, h.far, h.inj⟩
 ·
  have e : ((List.range n).map fun i => Value.slice (some ⟨f i, 0, none⟩) (if i < n then n + 1 else n) (n + 1)) = (List.range n).map fun i => Value.slice (some ⟨f i, 0, none⟩) (n + 1) (n + 1) :=
   List.map_congr_left fun i hi => by rw [if_pos (List.mem_range.1 hi)]
  have o := h.own
  rw [e] at o
  exact o
 ·
  have o := h.row i hi
  rw [if_pos hi] at o
  exact o
theorem Ma.bw {w w' : World} {base R n k : Nat} {f : Nat → Nat} {A : M} (h : Ma w base R n k f A) (b : Bw w w') : Ma w' base R n k f A :=
 ⟨h.own.kept (gb_bw b none) (by simp [Value.ownBlock]), fun i hi => (h.row i hi).bw b, h.far, h.inj⟩
theorem Ma.cell {w : World} {base R n k : Nat} {f : Nat → Nat} {A : M} (h : Ma w base R n k f A) {i : Nat} (hi : i < n) : w.cell? ⟨R, i, none⟩ = some (.slice (some ⟨f i, 0, none⟩) (if i < k then n + 1 else n) (n + 1)) := by
 rw [h.own.cellAt i (by omega)]
 simp [hi]
/-- the next row has its right side -/
theorem Ma.more {w w1 : World} {base R n k : Nat} {f : Nat → Nat} {A : M} (h : Ma w base R n k f A) (hk : k < n) (g : w.grownBy w1 (some (f k))) (r : Rw w1 base (f k) (n + 1) (n + 1) (A k)) :
  Ma (w1.setCell ⟨R, k, none⟩ (.slice (some ⟨f k, 0, none⟩) (n + 1) (n + 1))) base R n (k + 1) f A ∧ w1.grownBy (w1.setCell ⟨R, k, none⟩ (.slice (some ⟨f k, 0, none⟩) (n + 1) (n + 1))) (some R) ∧ w1.cell? ⟨R, k, none⟩ = some (.slice (some ⟨f k, 0, none⟩) n (n + 1)) ∧ w1.frozen? ⟨R, k, none⟩ = false := by
 have o0 := h.own.kept g (Or.inr (by simp only [Value.ownBlock, ne_eq, Option.some.injEq]; exact fun e => h.far k hk e.symm))
 obtain ⟨o1, g1⟩ := o0.stored k (.slice (some ⟨f k, 0, none⟩) (n + 1) (n + 1))
 rw [range_set] at o1
 refine ⟨⟨?_, fun i hi => ?_, h.far, h.inj⟩, g1, ?_, o0.frozenAt k⟩
 ·
  have e : (fun t => if t = k then Value.slice (some ⟨f k, 0, none⟩) (n + 1) (n + 1) else Value.slice (some ⟨f t, 0, none⟩) (if t < k then n + 1 else n) (n + 1)) = fun i => Value.slice (some ⟨f i, 0, none⟩) (if i < k + 1 then n + 1 else n) (n + 1) := by
   funext t
   by_cases e1 : t = k
   · subst e1; rw [if_pos rfl, if_pos (by omega)]
   ·
    rw [if_neg e1]
    by_cases e2 : t < k
    · rw [if_pos e2, if_pos (by omega)]
    · rw [if_neg e2, if_neg (by omega)]
  rw [e] at o1
  exact o1
 ·
  by_cases e : i = k
  · subst e; rw [if_pos (by omega)]; exact r.gb g1 (by simp only [ne_eq, Option.some.injEq]; exact h.far i hi)
  ·
   have q : Rw w1 base (f i) (if i < k then n + 1 else n) (n + 1) (A i) := (h.row i hi).gb g (by simp only [ne_eq, Option.some.injEq]; exact fun z => e (h.inj i k hi hk z))
   have q2 := q.gb g1 (by simp only [ne_eq, Option.some.injEq]; exact h.far i hi)
   by_cases y : i < k
   · rw [if_pos y] at q2; rw [if_pos (by omega)]; exact q2
   · rw [if_neg y] at q2; rw [if_neg (by omega)]; exact q2
 ·
  rw [o0.cellAt k (by omega)]
  simp [hk]
/-- one list, as a slice of lists -/
theorem Lm.one {w : World} {v : Value} {n : Nat} {F : Nat → Nat} (h : Ls w v n F) (t : TypeId) : Lm (w.alloc (.cells #[v] t)) (.slice (some ⟨w.heap.size, 0, none⟩) 1 1) 1 (fun _ => n) (fun _ => F) :=
 Or.inr ⟨w.heap.size, 0, 1, rfl, Nat.le_refl _, by simp, fun i hi => by
  have : i = 0 := by omega
  subst this
  exact ⟨v, by simp, h.bw (bw_new w _)⟩⟩
end Sv
theorem Sv.chk_zero {n : Nat} {l : Nat → Nat} {A : Sv.M} (h : Sv.chk n l A = 0) : (0 < n ∧ n ≤ 128) ∧ (∀ i, i < n → l i = n) ∧ ∀ i, i < n → Sv.fin (A i) n := by
 unfold Sv.chk at h
 split at h
 · cases h
 ·
  split at h
  ·
   split at h
   · rename_i a b c; exact ⟨by omega, b, c⟩
   · cases h
  · cases h
theorem Sv.chkA_zero {n : Nat} {l : Nat → Nat} {A : Sv.M} {q : Nat} {lb : Nat → Nat} {B : Sv.M} (h : Sv.chkA n l A q lb B = 0) : Sv.chk n l A = 0 ∧ Sv.chkB n lb B q = 0 := by
 unfold Sv.chkA at h
 split at h
 · rename_i a; exact ⟨a, h⟩
 · rename_i a; exact absurd h a
theorem Sv.chkB_zero {n : Nat} {lb : Nat → Nat} {B : Sv.M} : ∀ {q : Nat}, Sv.chkB n lb B q = 0 → ∀ k, k < q → lb k = n ∧ Sv.fin (B k) n
 | 0, _, k, hk => absurd hk (by omega)
 | q + 1, h, k, hk => by
  unfold Sv.chkB at h
  split at h
  ·
   rename_i a
   by_cases z : k = q
   ·
    subst z
    unfold Sv.chkL at h
    split at h
    ·
     split at h
     · rename_i x y; exact ⟨x, y⟩
     · cases h
    · cases h
   · exact Sv.chkB_zero a k (by omega)
  · rename_i a; exact absurd h a
theorem Sv.Rw.base {w : World} {base base' B n c : Nat} {F : Nat → Nat} (h : Sv.Rw w base B n c F) (hb : base' ≤ base) : Sv.Rw w base' B n c F := by
 obtain ⟨X, ⟨h1, h2⟩, q⟩ := h
 refine ⟨X, ⟨h1, ?_⟩, q⟩
 rcases h2 with h2 | ⟨g, cap, cur, e, hg, r⟩
 · exact Or.inl h2
 · exact Or.inr ⟨g, cap, cur, e, by omega, r⟩
theorem Sv.Bx.below {w w' : World} {C S : Nat} (h : Sv.Bx w C) (k : Below S w w') (hC : C < S) : Sv.Bx w' C := h.block k.size (k.block C hC)
theorem Sv.bw_below {w0 w w' : World} {S : Nat} (h : Bw w0 w) (k : Below S w w') (hS : w0.heap.size ≤ S) : Bw w0 w' := Below.trans h (Below.mono k hS)
/-- an append whose run is known, in a region that draws -/
theorem step_append_eq {P : Program} {ops : Array Oper} {o : Oper} {a : Act} {w : World} {K : Act → World → Prop} {Q : Exit → Act → World → Prop} {E : Prop} (hg : o.guard = none) (s x : Operand) (t : TypeId)
  (hop : o.op = Op.call { callee := Callee.builtin Builtin.append, args := #[s, x], argTypes := #[t, t] }) (v1 v2 v' : Value) (hs : a.eval s = v1) (hx : a.eval x = v2) (w' : World)
  (hrun : (Builtin.append_ #[t, t] o.type #[v1, v2]).run P w = .ok v' w') (hK : K (a.put o.dst v') w') : if Region.wanted o (yielded ops a.tmps) = true then Oper.wp P o a w K Q else E := by
 have hw : Region.wanted o (yielded ops a.tmps) = true := by simp [Region.wanted, hg]
 rw [if_pos hw]
 unfold Oper.wp
 simp [execOp, hop, resolve, invoke, builtin, hs, hx, hrun, Result.andThen]
 exact hK
/-- a pair of a slice and a number is answered -/
def Sv.Pr (e : Ending) (v : Value) (c : Int) : Prop := e = .returned (.tuple #[v, .int .i64 c])
set_option maxHeartbeats 8000000 in
theorem solved14 {w : World} {va vb : Value} {n nb : Nat} {l : Nat → Nat} {A : Sv.M} {b : Nat → Nat} (ha : Sv.Lm w va n l A) (hb : Sv.Ls w vb nb b) (hn : n < 1000000) (hnb : nb < 1000000) :
  Calls Try.prog 39 #[(.agg #[.func (.func 70) #[] #[], .func (.func 71) #[] #[], .func (.func 31) #[] #[], .func (.func 72) #[] #[], .func (.func 73) #[] #[]]), va, vb] w fun e w' => ∃ v, Sv.Pr e v (Sv.solE n l A nb b) ∧ Bw w w' ∧ ((Sv.solE n l A nb b ≠ 0 ∧ v = .slice none 0 0) ∨ (Sv.solE n l A nb b = 0 ∧ ∃ B, v = .slice (some ⟨B, 0, none⟩) n n ∧ Sv.Rw w' w.heap.size B n n (Sv.solX n A b))) := by
 obtain ⟨vp, vn, vc, rfl⟩ : ∃ p k c, vb = .slice p k c := by rcases hb with ⟨⟨_, _, rfl, _⟩, _⟩ | ⟨_, _, _, rfl, _⟩ <;> exact ⟨_, _, _, rfl⟩
 have b0 := Sv.bw_new w (.cells #[.func (.func 70) #[] #[], .func (.func 71) #[] #[], .func (.func 31) #[] #[], .func (.func 72) #[] #[], .func (.func 73) #[] #[]] 73)
 have b1 := Sv.bw_new (w.alloc (.cells #[.func (.func 70) #[] #[], .func (.func 71) #[] #[], .func (.func 31) #[] #[], .func (.func 72) #[] #[], .func (.func 73) #[] #[]] 73)) (.cells #[.slice vp vn vc] 24)
 have z0 : ∀ (w : World) (o : Obj), (w.alloc o).heap.size = w.heap.size + 1 := fun w o => by simp
 have CH := Sv.hid (check14 ((ha.bw b0).bw b1) (Sv.Lm.one (hb.bw b0) 24) hn (by omega))
 have HX := Sv.hid (And.intro ((Sv.Bx.made w).bw b1) (bw_trans b0 b1))
 simp only [z0] at CH
 have HA := Sv.hid (And.intro ha hb)
 clear ha hb b0 b1 z0
 go_enter Try.func39, Try.ntmps39
 go_wp2_with fail
 refine CH.out.mono ?_
 rintro e' w1 ⟨rfl, b2⟩
 replace HX := Sv.hid (And.intro (HX.out.1.bw b2) (bw_trans HX.out.2 b2))
 clear CH b2
 generalize w.heap.size = C at HX ⊢
 by_cases z : Sv.chkA n l A 1 (fun _ => nb) (fun _ => b) = 0
 ·
  obtain ⟨y1, y2⟩ := Sv.chkA_zero z
  obtain ⟨⟨hn0, hn1⟩, hl, hfA⟩ := Sv.chk_zero y1
  obtain ⟨hnn, hfb⟩ := Sv.chkB_zero y2 0 (by omega)
  have HE : Hid (Sv.solE n l A nb b = if Sv.good n (Sv.aug n A b) n then (if Sv.fin (Sv.solX n A b) n then 0 else 141) else 141) := by show _ = _; unfold Sv.solE; rw [if_pos z]
  rw [z]
  clear z y1 y2 hfA hfb
  obtain ⟨ha, hb⟩ := HA.out
  obtain ⟨ab, ao, ac, rfl, hac, habl, ha⟩ := ha.resolve_left (fun h => by omega)
  obtain ⟨b', o', c', hbe, hbc, hbr⟩ := hb.resolve_left (fun h => by omega)
  simp only [Value.slice.injEq] at hbe
  obtain ⟨rfl, rfl, rfl⟩ := hbe
  have hnn2 : vn = n := hnn
  subst hnn2
  have CP := Sv.hid (copied14 (w := w1) (n := vn) (m := vn) (ca := ac) (o := ao) (b := ab) (A := A) (l := l) (by have := HX.out.2.size; omega) (fun i hi => by
   obtain ⟨r, e, q⟩ := ha i hi
   exact ⟨r, (Below.cell HX.out.2 (p := ⟨ab, ao + i, none⟩) habl).trans e, q.bw HX.out.2⟩) hl (by omega) hn0 (by omega))
  have HBB := Sv.hid hbr
  clear ha hb hbr HA hac habl
  go_wp2_with fail
  refine CP.out.mono ?_
  rintro e' w2 ⟨R, f, rfl, hMt, b3⟩
  clear CP
  have hma := hMt.ma (A' := Sv.aug vn A b) (fun i j hi hj => by unfold Sv.aug; rw [if_pos hj])
  obtain ⟨S1, eS⟩ : ∃ S1, w1.heap.size = S1 := ⟨_, rfl⟩
  rw [eS] at hma
  have HS1 : Hid (C < S1 ∧ w.heap.size ≤ S1) := ⟨by rw [← eS]; exact HX.out.1.1, by rw [← eS]; exact HX.out.2.size⟩
  replace HX := Sv.hid (And.intro hma (And.intro (HX.out.1.bw b3) (bw_trans HX.out.2 b3)))
  clear hMt b3 hma eS
  go_wp2
  go_loopw [26] (fun v wr => ∃ k : Nat, k ≤ vn ∧ v = .int .i64 k ∧ Sv.Ma wr S1 R vn k f (Sv.aug vn A b) ∧ Sv.Bx wr C ∧ Bw w wr) (fun v _ => vn - (intOf v).toNat)
  case atStart => exact ⟨0, Nat.zero_le _, rfl, HX.out.1, HX.out.2.1, HX.out.2.2⟩
  case round =>
   clear HX
   obtain ⟨k, hk, rfl, hma, hbx, hbw⟩ := hrel
   by_cases hk1 : k < vn
   ·
    have hk2 : (k : Int) < vn := by omega
    replace hma := hma.bw (Bw.refl wr).drew
    replace hbx := hbx.bw (Bw.refl wr).drew
    replace hbw := bw_trans hbw (Bw.refl wr).drew
    obtain ⟨x, e2, hx, q⟩ := (HBB.out.bw hbw).2 k hk1
    have hb'l : b' < w.heap.size := HBB.out.1
    have e1 := hma.cell hk1
    rw [if_neg (by omega)] at e1
    have ba := Sv.bw_new wr.drew (.cells #[.float .f64 x] 25)
    have hrw := (hma.row k hk1).bw ba
    rw [if_neg (by omega)] at hrw
    have hlt := hrw.lt
    have hRl := hma.own.lt R rfl
    obtain ⟨w5, EA, hr5, g5⟩ := hrw.push (c := 1) (x := x) hx (by rw [q]; unfold Sv.aug; rw [if_neg (by omega)]) (cell_one_new _ _ _)
    obtain ⟨hm6, g6, c6, z6⟩ := (hma.bw ba).more hk1 g5 hr5
    have hs := HS1.out
    have hfR := hma.far k hk1
    have S0 : wr.drew.cell? ⟨R, k, none⟩ = some (.slice (some ⟨f k, 0, none⟩) vn (vn + 1)) ∧ wr.drew.cell? ⟨b', o' + k, none⟩ = some (.float .f64 x) := ⟨e1, e2⟩
    have SA : (wr.drew.alloc (.cells #[.float .f64 x] 25)).cell? ⟨R, k, none⟩ = some (.slice (some ⟨f k, 0, none⟩) vn (vn + 1)) ∧ (wr.drew.alloc (.cells #[.float .f64 x] 25)).cell? ⟨b', o' + k, none⟩ = some (.float .f64 x) := ⟨(Below.cell ba (p := ⟨R, k, none⟩) hRl.2).trans e1, (Below.cell ba (p := ⟨b', o' + k, none⟩) (by show b' < _; omega)).trans e2⟩
    have S5 : w5.cell? ⟨R, k, none⟩ = some (.slice (some ⟨f k, 0, none⟩) vn (vn + 1)) ∧ w5.cell? ⟨b', o' + k, none⟩ = some (.float .f64 x) := ⟨(g5.cell_far ⟨R, k, none⟩ (by show R < _; have := ba.size; omega) (by simp only [ne_eq, Option.some.injEq]; exact fun e => hfR e.symm)).trans SA.1, (g5.cell_far ⟨b', o' + k, none⟩ (by show b' < _; omega) (by simp only [ne_eq, Option.some.injEq]; omega)).trans SA.2⟩
    have KN : Hid (Sv.Ma (w5.setCell ⟨R, k, none⟩ (.slice (some ⟨f k, 0, none⟩) (vn + 1) (vn + 1))) S1 R vn (k + 1) f (Sv.aug vn A b) ∧ Sv.Bx (w5.setCell ⟨R, k, none⟩ (.slice (some ⟨f k, 0, none⟩) (vn + 1) (vn + 1))) C ∧ Bw w (w5.setCell ⟨R, k, none⟩ (.slice (some ⟨f k, 0, none⟩) (vn + 1) (vn + 1)))) := by
     have y1 := bw_trans hbw ba
     have y2 : Bw w w5 := Sv.gb_below y1 g5 y1.size (by omega)
     exact ⟨hm6, ((hbx.bw ba).gb g5 (by simp only [ne_eq, Option.some.injEq]; omega)).gb g6 (by simp only [ne_eq, Option.some.injEq]; omega), Sv.gb_below y2 g6 y2.size (by omega)⟩
    clear hma hbx hbw e1 e2 q hrw hlt hRl hr5 g5 hm6 g6 hs ba hb'l hfR
    go_wp2_with fail
    refine wp_region_K (fun w' => w'.cell? ⟨R, k, none⟩ = some (.slice (some ⟨f k, 0, none⟩) vn (vn + 1)) ∧ w'.cell? ⟨b', o' + k, none⟩ = some (.float .f64 x)) 13 14 #[false, false, false, false, false, false, false, false, false, false, false, false, false, false] (by kernel_rfl) (by kernel_rfl) (by kernel_rfl) ?_
    generalize wr.drew = W at *
    refine wpAnyK_take 0 29 (v := ?v0) rfl (by kernel_rfl) (by kernel_rfl) (by kernel_rfl) (by kernel_rfl) (by kernel_rfl) (fun _ _ _ h => h) rfl (Or.inl ⟨by rfl, ?h0⟩) (by assumption) ?r0
    case h0 => (intro w hSw; go_simp; with_reducible rfl)
    simp only [Act.put, List.setIfInBounds_toArray, List.set_cons_zero, List.set_cons_succ]
    refine wpAnyK_take 1 30 (v := ?v1) rfl (by kernel_rfl) (by kernel_rfl) (by kernel_rfl) (by kernel_rfl) (by kernel_rfl) (fun _ _ _ h => h) rfl (Or.inl ⟨by rfl, ?h1⟩) (by assumption) ?r1
    case h1 => (intro w hSw; go_simp; with_reducible rfl)
    simp only [Act.put, List.setIfInBounds_toArray, List.set_cons_zero, List.set_cons_succ]
    refine wpAnyK_take 2 31 (v := ?v2) rfl (by kernel_rfl) (by kernel_rfl) (by kernel_rfl) (by kernel_rfl) (by kernel_rfl) (fun _ _ _ h => h) rfl (Or.inl ⟨by rfl, ?h2⟩) (by assumption) ?r2
    case h2 => (intro w hSw; go_simp; with_reducible rfl)
    simp only [Act.put, List.setIfInBounds_toArray, List.set_cons_zero, List.set_cons_succ]
    refine wpAnyK_take 3 32 (v := ?v3) rfl (by kernel_rfl) (by kernel_rfl) (by kernel_rfl) (by kernel_rfl) (by kernel_rfl) (fun _ _ _ h => h) rfl (Or.inl ⟨by rfl, ?h3⟩) (by assumption) ?r3
    case h3 => (intro w hSw; go_simp; with_reducible rfl)
    simp only [Act.put, List.setIfInBounds_toArray, List.set_cons_zero, List.set_cons_succ]
    refine wpAnyK_take 4 33 (v := ?v4) rfl (by kernel_rfl) (by kernel_rfl) (by kernel_rfl) (by kernel_rfl) (by kernel_rfl) (fun _ _ _ h => h) rfl (Or.inl ⟨by rfl, ?h4⟩) (by assumption) ?r4
    case h4 => (intro w hSw; go_simp; with_reducible rfl)
    simp only [Act.put, List.setIfInBounds_toArray, List.set_cons_zero, List.set_cons_succ]
    refine wpAnyK_take 5 34 (v := ?v5) rfl (by kernel_rfl) (by kernel_rfl) (by kernel_rfl) (by kernel_rfl) (by kernel_rfl) (fun _ _ _ h => h) rfl (Or.inl ⟨by rfl, ?h5⟩) (by assumption) ?r5
    case h5 => (intro w hSw; go_simp; with_reducible rfl)
    simp only [Act.put, List.setIfInBounds_toArray, List.set_cons_zero, List.set_cons_succ]
    refine wpAnyK_take 6 35 (v := ?v6) rfl (by kernel_rfl) (by kernel_rfl) (by kernel_rfl) (by kernel_rfl) (by kernel_rfl) (fun _ _ _ h => h) rfl (Or.inl ⟨by rfl, ?h6⟩) (by assumption) ?r6
    case h6 => (intro w hSw; go_simp; with_reducible rfl)
    simp only [Act.put, List.setIfInBounds_toArray, List.set_cons_zero, List.set_cons_succ]
    refine wpAnyK_take 7 36 (v := ?v7) rfl (by kernel_rfl) (by kernel_rfl) (by kernel_rfl) (by kernel_rfl) (by kernel_rfl) (fun _ _ _ h => h) rfl (Or.inl ⟨by rfl, ?h7⟩) (by assumption) ?r7
    case h7 => (intro w hSw; go_simp; with_reducible rfl)
    simp only [Act.put, List.setIfInBounds_toArray, List.set_cons_zero, List.set_cons_succ]
    refine wpAnyK_take 8 37 (v := ?v8) rfl (by kernel_rfl) (by kernel_rfl) (by kernel_rfl) (by kernel_rfl) (by kernel_rfl) (fun _ _ _ h => h) rfl (Or.inl ⟨by rfl, ?h8⟩) (by assumption) ?r8
    case h8 => (intro w hSw; go_simp; with_reducible rfl)
    simp only [Act.put, List.setIfInBounds_toArray, List.set_cons_zero, List.set_cons_succ]
    refine wpAnyK_take 9 38 (v := ?v9) rfl (by kernel_rfl) (by kernel_rfl) (by kernel_rfl) (by kernel_rfl) (by kernel_rfl) (fun _ _ _ h => h) rfl (Or.inl ⟨by rfl, ?h9⟩) (by assumption) ?r9
    case h9 => (intro w hSw; go_simp; with_reducible rfl)
    simp only [Act.put, List.setIfInBounds_toArray, List.set_cons_zero, List.set_cons_succ]
    refine wpAnyK_one 10 (by kernel_rfl) rfl (fun K hK => ?_)
    go_simp
    refine hK.out _ _ (fun _ _ => SA) ?_
    clear hK K
    simp only [List.setIfInBounds_toArray, List.set_cons_zero, List.set_cons_succ]
    refine wpAnyK_one 11 (by kernel_rfl) rfl (fun K hK => ?_)
    refine step_append_eq rfl _ _ 24 rfl _ _ _ rfl rfl _ EA ?_
    refine hK.out _ _ (fun _ _ => S5) ?_
    clear hK K
    simp only [Act.put, List.setIfInBounds_toArray, List.set_cons_zero, List.set_cons_succ]
    refine wpAnyK_take 12 41 (v := ?v12) rfl (by kernel_rfl) (by kernel_rfl) (by kernel_rfl) (by kernel_rfl) (by kernel_rfl) (fun _ _ _ h => h) rfl (Or.inl ⟨by rfl, ?h12⟩) (by assumption) ?r12
    case h12 => (intro w hSw; go_simp; with_reducible rfl)
    simp only [Act.put, List.setIfInBounds_toArray, List.set_cons_zero, List.set_cons_succ]
    refine wpAnyK_one 13 (by kernel_rfl) rfl (fun K hK => ?_)
    go_simp
    refine hK.out _ _ (fun h => absurd rfl h) ?_
    clear hK K
    simp only [List.setIfInBounds_toArray, List.set_cons_zero, List.set_cons_succ]
    refine wpAnyK_done (by kernel_rfl) ?_ _
    clear S0 SA S5 EA c6 z6
    go_wp2
    go_roundw
    case rel => exact ⟨k + 1, by omega, by simp, KN.out.1, KN.out.2.1, KN.out.2.2⟩
    case measure => simp [intOf]; omega
   ·
    have hk3 : k = vn := by omega
    subst hk3
    have ST := Sv.hid (steps14 hma.mt hn0 hn1 (by omega) (by omega))
    have HX := Sv.hid (And.intro hbx hbw)
    obtain ⟨c0, c1, c2, c3, c4, c5⟩ := hbx
    clear hma hbw HBB
    go_wp2_with fail
    refine ST.out.mono ?_
    clear ST c0 c1 c2 c3 c4 c5
    rintro e' w3 ⟨tv, f', hb3, ⟨rfl, hgd, _, hMt⟩ | ⟨K, hK, rfl, hgd, hbad, _, _⟩⟩
    ·
     replace HX := Sv.hid (And.intro (HX.out.1.below hb3 HS1.out.1) (Sv.bw_below HX.out.2 hb3 HS1.out.2))
     have WB := Sv.hid (wayBack14 hMt hn1)
     have HE2 : Hid (Sv.solE k l A k b = if Sv.fin (Sv.solX k A b) k then 0 else 141) := by
      show _ = _
      rw [HE.out, if_pos hgd]
     obtain ⟨c0, c1, c2, c3, c4, c5⟩ := HX.out.1
     clear hMt hgd hb3 HE
     go_wp2_with fail
     refine WB.out.mono ?_
     clear WB c0 c1 c2 c3 c4 c5
     rintro e' w4 ⟨B, rfl, hrw, b4⟩
     have hls : Sv.Ls w4 (.slice (some ⟨B, 0, none⟩) k k) k (Sv.solX k A b) := Or.inr ⟨B, 0, k, rfl, Nat.le_refl _, hrw.rd⟩
     have AF := Sv.hid (arefin14 hls (by omega))
     have HRW := Sv.hid (And.intro (hrw.base HX.out.2.size) (And.intro (HX.out.1.bw b4) (bw_trans HX.out.2 b4)))
     obtain ⟨c0, c1, c2, c3, c4, c5⟩ := HRW.out.2.1
     clear hrw b4 hls HX
     by_cases z : Sv.fin (Sv.solX k A b) k
     ·
      rw [decide_eq_true z] at AF
      have HE3 : Hid (Sv.solE k l A k b = 0) := by show _ = _; rw [HE2.out, if_pos z]
      go_wp2_with fail
      refine AF.out.mono ?_
      rintro e' w5 ⟨rfl, b5⟩
      clear AF c0 c1 c2 c3 c4 c5
      go_wp2
      go_ret2
      exact ⟨_, by rw [HE3.out]; rfl, bw_trans HRW.out.2.2 b5, Or.inr ⟨HE3.out, B, rfl, HRW.out.1.bw b5⟩⟩
     ·
      rw [decide_eq_false z] at AF
      have HE3 : Hid (Sv.solE k l A k b = 141) := by show _ = _; rw [HE2.out, if_neg z]
      go_wp2_with fail
      refine AF.out.mono ?_
      rintro e' w5 ⟨rfl, b5⟩
      clear AF c0 c1 c2 c3 c4 c5
      go_wp2
      go_ret2
      exact ⟨_, by rw [HE3.out]; rfl, bw_trans HRW.out.2.2 b5, Or.inl ⟨by rw [HE3.out]; decide, rfl⟩⟩
    ·
     replace HX := Sv.hid (Sv.bw_below HX.out.2 hb3 HS1.out.2)
     have HE2 : Hid (Sv.solE k l A k b = 141) := by
      show _ = _
      rw [HE.out, if_neg (fun g => by have := g K hK; rw [hbad] at this; cases this)]
     clear hb3 HE hgd hbad
     go_wp2
     go_ret2
     exact ⟨_, by rw [HE2.out]; rfl, HX.out, Or.inl ⟨by rw [HE2.out]; decide, rfl⟩⟩
 ·
  have HE : Hid (Sv.solE n l A nb b = Sv.chkA n l A 1 (fun _ => nb) (fun _ => b)) := by show _ = _; unfold Sv.solE; rw [if_neg z]
  have HZ := Sv.hid z
  have z2 : (Sv.chkA n l A 1 (fun _ => nb) (fun _ => b) == 0) = false := by rw [beq_eq_false_iff_ne]; exact z
  generalize Sv.chkA n l A 1 (fun _ => nb) (fun _ => b) = code at *
  clear z
  go_wp2
  go_ret2
  exact ⟨_, by rw [HE.out]; rfl, HX.out.2, Or.inl ⟨by rw [HE.out]; exact HZ.out, rfl⟩⟩
theorem solve14 {w : World} {va vb : Value} {n nb : Nat} {l : Nat → Nat} {A : Sv.M} {b : Nat → Nat} (ha : Sv.Lm w va n l A) (hb : Sv.Ls w vb nb b) (hn : n < 1000000) (hnb : nb < 1000000) :
  Calls Try.prog 8 #[va, vb] w fun e w' => ∃ v, Sv.Pr e v (Sv.solE n l A nb b) ∧ Bw w w' ∧ ((Sv.solE n l A nb b ≠ 0 ∧ v = .slice none 0 0) ∨ (Sv.solE n l A nb b = 0 ∧ ∃ B, v = .slice (some ⟨B, 0, none⟩) n n ∧ Sv.Rw w' w.heap.size B n n (Sv.solX n A b))) := by
 have HA := Sv.hid (And.intro ha hb)
 clear ha hb
 go_enter Try.func8, Try.ntmps8
 go_wp2_with fail
 refine (floats14 _).mono ?_
 rintro e' w1 ⟨rfl, b1⟩
 go_wp2_with fail
 refine (solved14 (HA.out.1.bw b1) (HA.out.2.bw b1) hn hnb).mono ?_
 rintro e' w2 ⟨v, rfl, b2, h⟩
 have H := Sv.hid h
 clear h
 go_wp2
 go_ret2
 refine ⟨v, rfl, bw_trans b1 b2, ?_⟩
 rcases H.out with h | ⟨h, B, hv, hr⟩
 · exact Or.inl h
 · exact Or.inr ⟨h, B, hv, hr.base b1.size⟩
end Go.Proofs.Ytjfkdmddfeeheaa
/-
 OWN TEXT: package solve, of floats: Det.
-/
namespace Go.Proofs.Ytjfkdmddfeeheaa
open Go.ChangeShapes Go.WideShapes Go.ChangeAt Go.RowKit
set_option linter.unusedVariables false
attribute [local go_sem] frombits_call tobits_call run_neg

attribute [local go_sem] stof14 store14
namespace Sv
/-- the sign turned -/
def ngC (x : Nat) : Nat := Fl.bitsF (Fl.ng x)
theorem ng_c (x : Nat) : Fl.bitsF (Fl.ng x) = ngC (Fl.bitsF x) := by
 unfold ngC
 by_cases h : Fl.nan x = true
 · rw [c_nan h, c_nan (by rw [Fl.nan_ng]; exact h)]; decide
 · rw [c_num (Bool.eq_false_iff.2 h)]
/-- how many rows are taken -/
def upTo (n : Nat) (A : M) : Nat → Nat
 | 0 => 0
 | k + 1 => if good n A k then k + 1 else upTo n A k
theorem good_mono {n : Nat} {A : M} {k j : Nat} (h : good n A k) (hj : j ≤ k) : good n A j := fun i hi => h i (by omega)
theorem upTo_of {n : Nat} {A : M} {K : Nat} (h : good n A K) : ∀ {m : Nat}, K < m → (K + 1 = m ∨ ¬ good n A (K + 1)) → upTo n A m = K + 1
 | 0, hm, _ => absurd hm (by omega)
 | m + 1, hm, hb => by
  unfold upTo
  by_cases e : K = m
  · subst e; rw [if_pos h]
  · rw [if_neg (fun g => by rcases hb with hb | hb; omega; exact hb (good_mono g (by omega))), upTo_of h (by omega) (Or.inr (by rcases hb with hb | hb; omega; exact hb))]
/-- the product of the pivots, k of them done -/
def dd (n : Nat) (A : M) : Nat → Nat
 | 0 => 4607182418800017408
 | k + 1 => if tk n A k = k then op .mul (dd n A k) (piv n A k) else ngC (op .mul (dd n A k) (piv n A k))
theorem dd_c (n : Nat) (A : M) : ∀ k, Fl.bitsF (dd n A k) = dd n A k
 | 0 => by show Fl.bitsF 4607182418800017408 = 4607182418800017408; decide
 | k + 1 => by unfold dd; split; exact op_c _ _ _; unfold ngC; exact c_c _
/-- what Det tells: the number, the error -/
def detV (n : Nat) (A : M) : Nat := if nought (piv n A (upTo n A n - 1)) then 0 else if Fl.finB (dd n A (upTo n A n)) then dd n A (upTo n A n) else 0
def detC (n : Nat) (A : M) : Int := if nought (piv n A (upTo n A n - 1)) then 0 else if Fl.finB (dd n A (upTo n A n)) then 0 else 6
def detE (n : Nat) (l : Nat → Nat) (A : M) : Int := if chk n l A = 0 then detC n A else chk n l A
def detX (n : Nat) (l : Nat → Nat) (A : M) : Nat := if chk n l A = 0 then detV n A else 0
theorem chkA_none (n : Nat) (l : Nat → Nat) (A : M) (lb : Nat → Nat) (B : M) : chkA n l A 0 lb B = chk n l A := by
 unfold chkA
 split
 · rename_i h; rw [h]; rfl
 · rfl
/-- a row that has been a pivot's stays -/
theorem row_stays (n : Nat) (A : M) {k : Nat} : ∀ {m : Nat}, k < m → st n A m k = swap (st n A k) k (tk n A k) k
 | 0, h => absurd h (by omega)
 | m + 1, h => by
  funext j
  show elim (swap (st n A m) m (tk n A m)) m k j = _
  unfold elim
  rw [if_neg (by omega)]
  by_cases e : k = m
  · subst e; rfl
  ·
   have := tk_ge n m A
   rw [swap_sw, show sw m (tk n A m) k = k by unfold sw; rw [if_neg e, if_neg (by omega)], row_stays n A (m := m) (by omega)]
theorem diag (n : Nat) (A : M) {k m : Nat} (h : k < m) : st n A m k k = piv n A k := by rw [row_stays n A h, swap_piv]
theorem diag' (n : Nat) (A : M) {k m : Nat} (h : k ≤ m) : swap (st n A m) m (tk n A m) k k = piv n A k := by
 by_cases e : k = m
 · subst e; exact swap_piv n A k
 ·
  have := tk_ge n m A
  rw [swap_sw, show sw m (tk n A m) k = k by unfold sw; rw [if_neg e, if_neg (by omega)], diag n A (by omega)]
end Sv
set_option maxHeartbeats 8000000 in
theorem det14 {w : World} {va : Value} {n : Nat} {l : Nat → Nat} {A : Sv.M} (ha : Sv.Lm w va n l A) (hn : n < 1000000) :
  Calls Try.prog 10 #[va] w fun e w' => ∃ x, e = .returned (.tuple #[.float .f64 x, .int .i64 (Sv.detE n l A)]) ∧ x < 18446744073709551616 ∧ Fl.bitsF x = Sv.detX n l A ∧ Bw w w' := by
 have HA := Sv.hid ha
 clear ha
 go_enter Try.func10, Try.ntmps10
 go_wp2_with fail
 refine (floats14 _).mono ?_
 rintro e' w1 ⟨rfl, b1⟩
 have b2 := Sv.bw_new w1 (.cells #[.func (.func 70) #[] #[], .func (.func 71) #[] #[], .func (.func 31) #[] #[], .func (.func 72) #[] #[], .func (.func 73) #[] #[]] 73)
 have CH := Sv.hid (check14 ((HA.out.bw b1).bw b2) (q := 0) (lb := fun _ => 0) (B := fun _ _ => 0) (Or.inl ⟨Sv.emp.nil, rfl⟩) hn (by omega))
 rw [Sv.chkA_none] at CH
 have HX := Sv.hid (And.intro (Sv.Bx.made w1) (bw_trans b1 b2))
 clear b1 b2
 go_wp2_with fail
 refine CH.out.mono ?_
 rintro e' w2 ⟨rfl, b3⟩
 replace HX := Sv.hid (And.intro (HX.out.1.bw b3) (bw_trans HX.out.2 b3))
 clear CH b3
 generalize w1.heap.size = C at HX ⊢
 by_cases z : Sv.chk n l A = 0
 ·
  obtain ⟨⟨hn0, hn1⟩, hl, _⟩ := Sv.chk_zero z
  have HE : Hid (Sv.detE n l A = Sv.detC n A ∧ Sv.detX n l A = Sv.detV n A) := by show _ ∧ _; unfold Sv.detE Sv.detX; rw [if_pos z, if_pos z]; exact ⟨rfl, rfl⟩
  rw [z]
  clear z
  obtain ⟨ab, ao, ac, rfl, hac, habl, ha⟩ := HA.out.resolve_left (fun h => by omega)
  have CP := Sv.hid (copied14 (w := w2) (n := n) (m := n) (ca := ac) (o := ao) (b := ab) (A := A) (l := l) (by have := HX.out.2.size; omega) (fun i hi => by
   obtain ⟨r, e, q⟩ := ha i hi
   exact ⟨r, (Below.cell HX.out.2 (p := ⟨ab, ao + i, none⟩) habl).trans e, q.bw HX.out.2⟩) hl (by omega) hn0 (by omega))
  clear ha HA hac habl
  go_wp2_with fail
  refine CP.out.mono ?_
  rintro e' w3 ⟨R, f, rfl, hMt, b3⟩
  clear CP
  obtain ⟨S1, eS⟩ : ∃ S1, w2.heap.size = S1 := ⟨_, rfl⟩
  rw [eS] at hMt
  have HS1 : Hid (C < S1 ∧ w.heap.size ≤ S1) := ⟨by rw [← eS]; exact HX.out.1.1, by rw [← eS]; exact HX.out.2.size⟩
  replace HX := Sv.hid (And.intro (HX.out.1.bw b3) (bw_trans HX.out.2 b3))
  have ST := Sv.hid (steps14 hMt hn0 hn1 (by omega) (by omega))
  obtain ⟨c0, c1, c2, c3, c4, c5⟩ := HX.out.1
  clear hMt b3 eS
  go_wp2_with fail
  refine ST.out.mono ?_
  clear ST c0 c1 c2 c3 c4 c5
  intro e' w4 hst
  obtain ⟨tv, f', c, sg, hb4, rfl, hcn, hown, G, hMt, hdg, hup⟩ : ∃ (tv : Value) (f' : Nat → Nat) (c : Nat) (sg : Bool), Below S1 w3 w4 ∧ e' = .returned (.tuple #[tv, .bool sg]) ∧ c < n ∧ w4.ownsRow (w3.heap.size + 1) 3 1 tv (c + 1) (Sv.tks n A (c + 1)) ∧ ∃ G : Sv.M, Sv.Mt w4 S1 R n n (n + 1) f' G ∧ (∀ k, k ≤ c → G k k = Sv.piv n A k) ∧ Sv.upTo n A n = c + 1 := by
   obtain ⟨tv, f', hb, ⟨rfl, hgd, ho, hM⟩ | ⟨K, hK, rfl, hgd, hbad, ho, hM⟩⟩ := hst
   ·
    refine ⟨tv, f', n - 1, false, hb, rfl, by omega, ?_, _, hM, fun k hk => Sv.diag n A (by omega), ?_⟩
    · rw [show n - 1 + 1 = n by omega]; exact ho
    · exact Sv.upTo_of (Sv.good_mono hgd (by omega)) (by omega) (Or.inl (by omega))
   ·
    refine ⟨tv, f', K, true, hb, rfl, hK, ho, _, hM, fun k hk => Sv.diag' n A hk, ?_⟩
    exact Sv.upTo_of hgd hK (Or.inr (fun g => by have := g K (by omega); rw [hbad] at this; cases this))
  clear hst
  obtain ⟨g, cap, rfl, _, _⟩ := hown.form (by omega)
  replace HX := Sv.hid (And.intro (HX.out.1.below hb4 HS1.out.1) (Sv.bw_below HX.out.2 hb4 HS1.out.2))
  have e1 := (hMt.bw (Bw.refl _).drew).cell (i := c) hcn
  obtain ⟨x, e2, hx, q⟩ := ((hMt.bw (Bw.refl _).drew).row c hcn).cell (j := c) hcn
  obtain ⟨bc, ebc⟩ : ∃ bc, f' c = bc := ⟨_, rfl⟩
  rw [ebc] at e1 e2
  have S0 : w4.drew.cell? ⟨C, 3, none⟩ = some (.func (.func 72) #[] #[]) ∧ w4.drew.cell? ⟨R, c, none⟩ = some (.slice (some ⟨bc, 0, none⟩) n (n + 1)) ∧ w4.drew.cell? ⟨bc, c, none⟩ = some (.float .f64 x) := ⟨HX.out.1.2.2.2.2.1, e1, e2⟩
  have hc1 : (c : Int) < n := by omega
  have hc2 : (c : Int) + 1 - 1 = c := by omega
  rw [hdg c (Nat.le_refl _)] at q
  have HD : Hid (Sv.detC n A = (if Sv.nought x then 0 else if Fl.finB (Sv.dd n A (c + 1)) then 0 else 6) ∧ Sv.detV n A = (if Sv.nought x then 0 else if Fl.finB (Sv.dd n A (c + 1)) then Sv.dd n A (c + 1) else 0)) := by
   show _ ∧ _
   unfold Sv.detC Sv.detV
   rw [hup, show c + 1 - 1 = c by omega, ← q, Sv.nought_c]
   exact ⟨rfl, rfl⟩
  have bd : Bw w4 w4.drew := (Bw.refl w4).drew
  have KM := Sv.hid (And.intro (hown.kept (Sv.gb_bw bd none) (by simp [Value.ownBlock])) (And.intro (hMt.bw bd) hdg))
  replace HX := Sv.hid (And.intro (HX.out.1.bw bd) (bw_trans HX.out.2 bd))
  clear bd
  clear hb4 hown hMt hdg hup e1 e2 ebc q
  go_wp2_with fail
  refine wp_region_K (fun w' => w'.cell? ⟨C, 3, none⟩ = some (.func (.func 72) #[] #[]) ∧ w'.cell? ⟨R, c, none⟩ = some (.slice (some ⟨bc, 0, none⟩) n (n + 1)) ∧ w'.cell? ⟨bc, c, none⟩ = some (.float .f64 x)) 9 10 #[false, false, false, false, false, false, false, false, false, false] (by kernel_rfl) (by kernel_rfl) (by kernel_rfl) ?_
  generalize w4.drew = W at *
  refine wpAnyK_take 0 31 (v := ?v0) rfl (by kernel_rfl) (by kernel_rfl) (by kernel_rfl) (by kernel_rfl) (by kernel_rfl) (fun _ _ _ h => h) rfl (Or.inl ⟨by rfl, ?h0⟩) (by assumption) ?r0
  case h0 => (intro w hSw; go_simp; with_reducible rfl)
  simp only [Act.put, List.setIfInBounds_toArray, List.set_cons_zero, List.set_cons_succ]
  refine wpAnyK_take 1 32 (v := ?v1) rfl (by kernel_rfl) (by kernel_rfl) (by kernel_rfl) (by kernel_rfl) (by kernel_rfl) (fun _ _ _ h => h) rfl (Or.inl ⟨by rfl, ?h1⟩) (by assumption) ?r1
  case h1 => (intro w hSw; go_simp; with_reducible rfl)
  simp only [Act.put, List.setIfInBounds_toArray, List.set_cons_zero, List.set_cons_succ]
  refine wpAnyK_take 2 33 (v := ?v2) rfl (by kernel_rfl) (by kernel_rfl) (by kernel_rfl) (by kernel_rfl) (by kernel_rfl) (fun _ _ _ h => h) rfl (Or.inl ⟨by rfl, ?h2⟩) (by assumption) ?r2
  case h2 => (intro w hSw; go_simp; with_reducible rfl)
  simp only [Act.put, List.setIfInBounds_toArray, List.set_cons_zero, List.set_cons_succ]
  refine wpAnyK_take 3 34 (v := ?v3) rfl (by kernel_rfl) (by kernel_rfl) (by kernel_rfl) (by kernel_rfl) (by kernel_rfl) (fun _ _ _ h => h) rfl (Or.inl ⟨by rfl, ?h3⟩) (by assumption) ?r3
  case h3 => (intro w hSw; go_simp; with_reducible rfl)
  simp only [Act.put, List.setIfInBounds_toArray, List.set_cons_zero, List.set_cons_succ]
  refine wpAnyK_take 4 35 (v := ?v4) rfl (by kernel_rfl) (by kernel_rfl) (by kernel_rfl) (by kernel_rfl) (by kernel_rfl) (fun _ _ _ h => h) rfl (Or.inl ⟨by rfl, ?h4⟩) (by assumption) ?r4
  case h4 => (intro w hSw; go_simp; with_reducible rfl)
  simp only [Act.put, List.setIfInBounds_toArray, List.set_cons_zero, List.set_cons_succ]
  refine wpAnyK_take 5 36 (v := ?v5) rfl (by kernel_rfl) (by kernel_rfl) (by kernel_rfl) (by kernel_rfl) (by kernel_rfl) (fun _ _ _ h => h) rfl (Or.inl ⟨by rfl, ?h5⟩) (by assumption) ?r5
  case h5 => (intro w hSw; go_simp; with_reducible rfl)
  simp only [Act.put, List.setIfInBounds_toArray, List.set_cons_zero, List.set_cons_succ]
  refine wpAnyK_take 6 37 (v := ?v6) rfl (by kernel_rfl) (by kernel_rfl) (by kernel_rfl) (by kernel_rfl) (by kernel_rfl) (fun _ _ _ h => h) rfl (Or.inl ⟨by rfl, ?h6⟩) (by assumption) ?r6
  case h6 => (intro w hSw; go_simp; with_reducible rfl)
  simp only [Act.put, List.setIfInBounds_toArray, List.set_cons_zero, List.set_cons_succ]
  refine wpAnyK_take 7 38 (v := ?v7) rfl (by kernel_rfl) (by kernel_rfl) (by kernel_rfl) (by kernel_rfl) (by kernel_rfl) (fun _ _ _ h => h) rfl (Or.inl ⟨by rfl, ?h7⟩) (by assumption) ?r7
  case h7 => (intro w hSw; go_simp; with_reducible rfl)
  simp only [Act.put, List.setIfInBounds_toArray, List.set_cons_zero, List.set_cons_succ]
  refine wpAnyK_take 8 39 (v := ?v8) rfl (by kernel_rfl) (by kernel_rfl) (by kernel_rfl) (by kernel_rfl) (by kernel_rfl) (fun _ _ _ h => h) rfl (Or.inl ⟨by rfl, ?h8⟩) (by assumption) ?r8
  case h8 => (intro w hSw; go_simp; with_reducible rfl)
  simp only [Act.put, List.setIfInBounds_toArray, List.set_cons_zero, List.set_cons_succ]
  refine wpAnyK_one 9 (by kernel_rfl) rfl (fun K hK => ?_)
  go_simp
  go_wp2_with (go_at_call 72; refine (nought14 _ _).mono ?_; rintro e' w7 ⟨rfl, hw7⟩; subst hw7)
  refine hK.out _ _ (fun h => absurd rfl h) ?_
  clear hK K
  simp only [List.setIfInBounds_toArray, List.set_cons_zero, List.set_cons_succ]
  refine wpAnyK_done (by kernel_rfl) ?_ _
  clear S0
  generalize hnx : Sv.nought x = nx at HD ⊢
  clear hnx hx
  cases nx
  ·
   have HD2 : Hid (Sv.detC n A = (if Fl.finB (Sv.dd n A (c + 1)) then 0 else 6) ∧ Sv.detV n A = (if Fl.finB (Sv.dd n A (c + 1)) then Sv.dd n A (c + 1) else 0)) := HD.out
   clear HD
   go_wp2
   go_loopw [10, 43] (fun v i wr => ∃ (t d : Nat), t ≤ c + 1 ∧ i = .int .i64 t ∧ v = .float .f64 d ∧ d < 18446744073709551616 ∧ Fl.bitsF d = Sv.dd n A t ∧ Bw w7 wr) (fun _ i _ => c + 1 - (intOf i).toNat)
   case atStart => exact ⟨0, 4607182418800017408, Nat.zero_le _, rfl, rfl, by decide, Sv.dd_c n A 0, Bw.refl _⟩
   case round =>
    obtain ⟨t, d, ht, rfl, rfl, hd, hq, hbw⟩ := hrel
    have HQ := Sv.hid hq
    clear hq
    by_cases ht1 : t < c + 1
    ·
     have ht2 : (t : Int) < (c : Int) + 1 := by omega
     obtain ⟨hown, hMt, hdg⟩ := KM.out
     have e0 := (Below.cell hbw (p := ⟨g, t, none⟩) (hown.lt g rfl).2).trans ((hown.cellAt t (by omega)).trans (show (Sv.tks n A (c + 1))[t]? = some (.int .i64 (Sv.tk n A t)) by unfold Sv.tks; simp [ht1]))
     have e1 := (hMt.bw hbw).cell (i := t) (by omega)
     obtain ⟨y, e2, hy, q2⟩ := ((hMt.bw hbw).row t (by omega)).cell (j := t) (by omega)
     rw [hdg t (by omega)] at q2
     have ht3 : (t : Int) < n := by omega
     generalize f' t = bt at e1 e2
     obtain ⟨r, w8, hr1, hr2, E8, b8⟩ := Sv.run Sv.iMul d y wr
     rw [HQ.out, q2] at hr2
     have HR2 := Sv.hid hr2
     replace hbw := bw_trans hbw b8
     clear hown hMt hdg q2 hr2 b8
     by_cases zt : Sv.tk n A t = t
     ·
      rw [zt] at e0
      have HN : Hid (Fl.bitsF r = Sv.dd n A (t + 1)) := by show _ = _; rw [Sv.dd, if_pos zt]; exact HR2.out
      go_wp2
      go_roundw
      case rel => exact ⟨t + 1, r, by omega, by simp, rfl, hr1, HN.out, hbw⟩
      case measure => simp [intOf]; omega
     ·
      have zt2 : ((Sv.tk n A t : Int) == (t : Int)) = false := by rw [beq_eq_false_iff_ne]; omega
      have HN : Hid (Fl.bitsF (Op.negFloat .f64 r) = Sv.dd n A (t + 1) ∧ Op.negFloat .f64 r < 18446744073709551616) := by
       show _ ∧ _
       rw [Fl.neg_eq hr1, Sv.dd, if_neg zt, Sv.ng_c, HR2.out]
       exact ⟨rfl, Fl.ng_lt hr1⟩
      clear zt
      generalize Sv.tk n A t = tt at *
      go_wp2
      go_roundw
      case rel => exact ⟨t + 1, _, by omega, by simp, rfl, HN.out.2, HN.out.1, hbw⟩
      case measure => simp [intOf]; omega
    ·
     have ht3 : t = c + 1 := by omega
     subst ht3
     have hnl : ¬ ((c + 1 : Nat) : Int) < (c : Int) + 1 := by omega
     have c5 := (HX.out.1.bw hbw).2.2.2.2.2
     have FI := Sv.hid (fun wz => isfin14 d wz hd)
     rw [← Sv.fin_c d, HQ.out] at FI
     generalize hfi : Fl.finB (Sv.dd n A (c + 1)) = fi at *
     clear hfi
     cases fi
     ·
      have HD3 : Hid (Sv.detC n A = 6 ∧ Sv.detV n A = 0) := HD2.out
      clear HD2
      go_wp2_with fail
      refine (FI.out _).mono ?_
      rintro e' w9 ⟨rfl, hw9⟩
      subst hw9
      go_wp2
      go_ret2
      exact ⟨0, by rw [HE.out.1, HD3.out.1]; rfl, by decide, by rw [HE.out.2, HD3.out.2]; decide, bw_trans HX.out.2 hbw⟩
     ·
      have HD3 : Hid (Sv.detC n A = 0 ∧ Sv.detV n A = Sv.dd n A (c + 1)) := HD2.out
      clear HD2
      go_wp2_with fail
      refine (FI.out _).mono ?_
      rintro e' w9 ⟨rfl, hw9⟩
      subst hw9
      go_wp2
      go_ret2
      exact ⟨d, by rw [HE.out.1, HD3.out.1]; rfl, hd, by rw [HE.out.2, HD3.out.2]; exact HQ.out, bw_trans HX.out.2 hbw⟩
  ·
   have HD2 : Hid (Sv.detC n A = 0 ∧ Sv.detV n A = 0) := HD.out
   go_wp2
   go_ret2
   exact ⟨0, by rw [HE.out.1, HD2.out.1]; rfl, by decide, by rw [HE.out.2, HD2.out.2]; decide, HX.out.2⟩
 ·
  have HE : Hid (Sv.detE n l A = Sv.chk n l A ∧ Sv.detX n l A = 0) := by show _ ∧ _; unfold Sv.detE Sv.detX; rw [if_neg z, if_neg z]; exact ⟨rfl, rfl⟩
  have z2 : (Sv.chk n l A == 0) = false := by rw [beq_eq_false_iff_ne]; exact z
  clear z
  go_wp2
  go_ret2
  exact ⟨0, by rw [HE.out.1]; rfl, by decide, by rw [HE.out.2]; decide, HX.out.2⟩
end Go.Proofs.Ytjfkdmddfeeheaa
