/-
  OWN TEXT: the reference's List and Check of layer 14, for every list and system.
-/
import Derived.Test.YtjfkdmddfeeheaaJSvMToSvP
import Derived.Test.YtjfkdmddfeeheaaJFnEqToFnSame
namespace Go.Proofs.Ytjfkdmddfeeheaa
open Go.ChangeShapes Go.WideShapes Go.ChangeAt Go.RowKit
set_option linter.unusedVariables false
attribute [local go_sem] frombits_call tobits_call run_neg

set_option maxHeartbeats 4000000 in
theorem rlist14 {w : World} {v : Value} {m : Nat} {F : Nat → Nat} (n : Nat) (h : Sv.Ls w v m F) (hm : m < 1000000) (hn : n < 1000000) : Calls Try.prog 47 #[v, .int .i64 n] w fun e w' => e = .returned (.int .i64 (Sv.chkL n m F)) ∧ w' = w := by
  by_cases z : m = n
  · subst z
    have hz : Sv.chkL m m F = if Sv.fin F m then 0 else 5 := by unfold Sv.chkL; rw [if_pos rfl]
    have HZ := Sv.hid hz
    clear hz
    rcases h with ⟨⟨p0, c0, rfl, hp0⟩, rfl⟩ | ⟨b, o, c, rfl, hc, h⟩
    · have HZ2 : Hid (Sv.chkL 0 0 F = 0) := by show _ = _; rw [HZ.out, if_pos (show Sv.fin F 0 from fun j hj => absurd hj (by omega))]
      go_enter Try.func47, Try.ntmps47
      go_wp2
      go_loopw [5] (fun i wr => i = .int .i64 0 ∧ wr = w) (fun i _ => 0)
      case atStart => exact ⟨rfl, rfl⟩
      case round =>
        obtain ⟨rfl, rfl⟩ := hrel
        go_wp2
        go_ret
        exact ⟨ri HZ2.out.symm, rfl⟩
    · have H := Sv.hid h
      clear h
      go_enter Try.func47, Try.ntmps47
      go_wp2
      go_loopw [5] (fun i wr => ∃ k : Nat, k ≤ m ∧ i = .int .i64 k ∧ Sv.fin F k ∧ wr = w) (fun i _ => m - (intOf i).toNat)
      case atStart => exact ⟨0, Nat.zero_le _, rfl, fun j hj => absurd hj (by omega), rfl⟩
      case round =>
        obtain ⟨k, hk, rfl, hf, rfl⟩ := hrel
        have HF := Sv.hid hf
        clear hf
        by_cases hk1 : k < m
        · obtain ⟨x, e, hx, q⟩ := H.out.2 k hk1
          have hk2 : (k : Int) < m := by omega
          have Q := Sv.hid q
          clear q
          cases y : Fl.finB x
          · have Z2 := Sv.hid (HZ.out.trans (if_neg (fun g => by have := g k hk1; rw [← Q.out, Sv.fin_c, y] at this; cases this)))
            go_wp2_with fail
            refine (rfinite_any x _).mono ?_
            rintro e' w1 ⟨rfl, hw1⟩
            subst hw1
            rw [y]
            go_wp2
            go_ret
            exact ⟨ri Z2.out.symm, rfl⟩
          · go_wp2_with fail
            refine (rfinite_any x _).mono ?_
            rintro e' w1 ⟨rfl, hw1⟩
            subst hw1
            rw [y]
            go_wp2
            go_roundw
            case rel =>
              refine ⟨k + 1, by omega, by simp, fun j hj => ?_, trivial⟩
              by_cases t : j = k
              · subst t; rw [← Q.out, Sv.fin_c, y]
              · exact HF.out j (by omega)
            case measure => simp [intOf]; omega
        · have hk3 : k = m := by omega
          subst hk3
          have Z2 := Sv.hid (HZ.out.trans (if_pos HF.out))
          go_wp2
          go_ret
          exact ⟨ri Z2.out.symm, rfl⟩
  · have Z := Sv.hid (show Sv.chkL n m F = 140 by unfold Sv.chkL; rw [if_neg z])
    rcases h with ⟨⟨p0, c0, rfl, hp0⟩, rfl⟩ | ⟨b, o, c, rfl, hc, h⟩
    · have z1 : ((0 : Int) == n) = false := by rw [beq_eq_false_iff_ne]; omega
      clear z
      go_enter Try.func47, Try.ntmps47
      go_wp2
      go_ret
      exact ⟨ri Z.out.symm, rfl⟩
    · have z1 : ((m : Int) == n) = false := by rw [beq_eq_false_iff_ne]; omega
      clear z h
      go_enter Try.func47, Try.ntmps47
      go_wp2
      go_ret
      exact ⟨ri Z.out.symm, rfl⟩
set_option maxHeartbeats 4000000 in
theorem rcheck14 {w : World} {va : Value} {n : Nat} {l : Nat → Nat} {A : Sv.M} (ha : Sv.Lm w va n l A) (hn : n < 1000000) : Calls Try.prog 46 #[va] w fun e w' => e = .returned (.int .i64 (Sv.chk n l A)) ∧ w' = w := by
  by_cases hm : n < 1 ∨ 128 < n
  · have Z := Sv.hid (Sv.chk_many (l := l) (A := A) hm)
    rcases ha with ⟨⟨p0, c0, rfl, hp0⟩, rfl⟩ | ⟨b, o, c, rfl, hc, _, h⟩
    · go_enter Try.func46, Try.ntmps46
      go_wp2
      go_ret
      exact ⟨ri Z.out.symm, rfl⟩
    · clear h
      rcases hm with hm | hm
      · have hm1 : (n : Int) < 1 := by omega
        go_enter Try.func46, Try.ntmps46
        go_wp2
        go_ret
        exact ⟨ri Z.out.symm, rfl⟩
      · have hm1 : ¬ (n : Int) < 1 := by omega
        have hm2 : 128 < (n : Int) := by omega
        go_enter Try.func46, Try.ntmps46
        go_wp2
        go_ret
        exact ⟨ri Z.out.symm, rfl⟩
  obtain ⟨b, o, c, rfl, hc, hbl, ha⟩ := ha.resolve_left (fun h => hm (by omega))
  have HA := Sv.hid ha
  have HM := Sv.hid hm
  have hm1 : ¬ (n : Int) < 1 := by omega
  have hm2 : ¬ 128 < (n : Int) := by omega
  clear ha hm
  go_enter Try.func46, Try.ntmps46
  go_wp2
  clear hm1 hm2
  go_loopw [3] (fun i wr => ∃ k : Nat, k ≤ n ∧ i = .int .i64 k ∧ (∀ j, j < k → l j = n) ∧ wr = w) (fun i _ => n - (intOf i).toNat)
  case atStart => exact ⟨0, Nat.zero_le _, rfl, fun j hj => absurd hj (by omega), rfl⟩
  case round =>
    obtain ⟨k, hk, rfl, hl, rfl⟩ := hrel
    have HL := Sv.hid hl
    clear hl
    by_cases hk1 : k < n
    · have hk2 : (k : Int) < n := by omega
      obtain ⟨r, e, hr⟩ := HA.out k hk1
      by_cases z : l k = n
      · obtain ⟨rb, ro, rc, rfl, _, _⟩ := hr.resolve_left (fun h => by omega)
        rw [z] at e
        clear hr
        go_wp2
        go_roundw
        case rel =>
          refine ⟨k + 1, by omega, by simp, fun j hj => ?_, trivial⟩
          by_cases y : j = k
          · subst y; exact z
          · exact HL.out j (by omega)
        case measure => simp [intOf]; omega
      · have Z := Sv.hid (Sv.chk_shape (A := A) HM.out hk1 z)
        rcases hr with ⟨⟨p0, c0, rfl, hp0⟩, hr⟩ | ⟨rb, ro, rc, rfl, _, _⟩
        · have z1 : ((0 : Int) == n) = false := by rw [beq_eq_false_iff_ne]; omega
          clear hr z
          go_wp2
          go_ret
          exact ⟨ri Z.out.symm, rfl⟩
        · have z1 : ((l k : Int) == n) = false := by rw [beq_eq_false_iff_ne]; omega
          clear z
          generalize l k = m at *
          go_wp2
          go_ret
          exact ⟨ri Z.out.symm, rfl⟩
    · have hk3 : k = n := by omega
      subst hk3
      go_wp2
      go_loopw [4] (fun i ws => ∃ t : Nat, t ≤ k ∧ i = .int .i64 t ∧ (∀ j, j < t → Sv.fin (A j) k) ∧ ws = wr) (fun i _ => k - (intOf i).toNat)
      case atStart => exact ⟨0, Nat.zero_le _, rfl, fun j hj => absurd hj (by omega), rfl⟩
      case round =>
        obtain ⟨t, ht, rfl, hf, rfl⟩ := hrel
        have HF := Sv.hid hf
        clear hf
        by_cases ht1 : t < k
        · have ht2 : (t : Int) < k := by omega
          obtain ⟨r, e, hr⟩ := HA.out t ht1
          have R := Sv.hid (rlist14 k hr (by have := HL.out t ht1; omega) (by omega))
          have hlt := HL.out t ht1
          rw [hlt] at R
          rw [show Sv.chkL k k (A t) = if Sv.fin (A t) k then 0 else 5 by unfold Sv.chkL; rw [if_pos rfl]] at R
          clear hr
          by_cases z : Sv.fin (A t) k
          · rw [if_pos z] at R
            clear hlt
            go_wp2_with fail
            refine R.out.mono ?_
            rintro e' w1 ⟨rfl, hw1⟩
            subst hw1
            clear R e
            go_wp2
            go_roundw
            case rel =>
              refine ⟨t + 1, by omega, by simp, fun j hj => ?_, trivial⟩
              by_cases y : j = t
              · subst y; exact z
              · exact HF.out j (by omega)
            case measure => simp [intOf]; omega
          · rw [if_neg z] at R
            have Z := Sv.hid (Sv.chk_real HM.out HL.out ht1 z)
            clear hlt
            go_wp2_with fail
            refine R.out.mono ?_
            rintro e' w1 ⟨rfl, hw1⟩
            subst hw1
            clear R e
            go_wp2
            go_ret
            exact ⟨ri Z.out.symm, rfl⟩
        · have ht3 : t = k := by omega
          subst ht3
          have Z := Sv.hid (Sv.chk_ok HM.out HL.out HF.out)
          go_wp2
          go_ret
          exact ⟨ri Z.out.symm, rfl⟩
end Go.Proofs.Ytjfkdmddfeeheaa
/-
  OWN TEXT: rows of rows with room of any size; the reference's copies of rows.
-/
namespace Go.Proofs.Ytjfkdmddfeeheaa
open Go.ChangeShapes Go.WideShapes Go.ChangeAt Go.RowKit
set_option linter.unusedVariables false
attribute [local go_sem] frombits_call tobits_call run_neg

namespace Sv
/-- v owns n rows of m floats; row i lies in block f i, and has room for c i -/
structure Mr (w : World) (base : Nat) (v : Value) (n m : Nat) (c f : Nat → Nat) (A : M) : Prop where
  own : w.ownsRow base 24 1 v n ((List.range n).map fun i => .slice (some ⟨f i, 0, none⟩) m (c i))
  row : ∀ i, i < n → Rw w base (f i) m (c i) (A i)
  far : ∀ i, i < n → some (f i) ≠ v.ownBlock
  inj : ∀ i j, i < n → j < n → f i = f j → i = j
theorem Mr.nil (w : World) (base m : Nat) (c f : Nat → Nat) (A : M) : Mr w base (.slice none 0 0) 0 m c f A :=
  ⟨World.ownsRow_nil _ _ _ _, fun i hi => absurd hi (by omega), fun i hi => absurd hi (by omega), fun i j hi => absurd hi (by omega)⟩
theorem Mr.gb {w w' : World} {base n m : Nat} {v : Value} {c f : Nat → Nat} {A : M} {r : Option Nat} (h : Mr w base v n m c f A) (k : w.grownBy w' r) (hv : v.ownBlock = none ∨ v.ownBlock ≠ r) (hf : ∀ i, i < n → some (f i) ≠ r) : Mr w' base v n m c f A :=
  ⟨h.own.kept k hv, fun i hi => (h.row i hi).gb k (hf i hi), h.far, h.inj⟩
theorem Mr.bw {w w' : World} {base n m : Nat} {v : Value} {c f : Nat → Nat} {A : M} (h : Mr w base v n m c f A) (k : Bw w w') : Mr w' base v n m c f A :=
  h.gb (gb_bw k none) (by cases v.ownBlock <;> simp) (fun i _ => by simp)
theorem Mr.ext {w : World} {base n m : Nat} {v : Value} {c f : Nat → Nat} {A A' : M} (h : Mr w base v n m c f A) (e : ∀ i j, i < n → j < m → A i j = A' i j) : Mr w base v n m c f A' :=
  ⟨h.own, fun i hi => (h.row i hi).ext (fun j hj => e i j hi hj), h.far, h.inj⟩
theorem Mr.cell {w : World} {base n m R cR : Nat} {c f : Nat → Nat} {A : M} (h : Mr w base (.slice (some ⟨R, 0, none⟩) n cR) n m c f A) {i : Nat} (hi : i < n) : w.cell? ⟨R, i, none⟩ = some (.slice (some ⟨f i, 0, none⟩) m (c i)) := by
  rw [h.own.cellAt i (by omega)]
  simp [hi]
/-- one more row was appended -/
theorem Mr.next {w w' : World} {base k m g N cg : Nat} {v v' : Value} {c f : Nat → Nat} {A : M} {F : Nat → Nat} (h : Mr w base v k m c f A) (hr : Rw w base g m cg F) (hg : some g ≠ v.ownBlock) (hgf : ∀ i, i < k → f i ≠ g)
    (hown : w'.ownsRow base 24 1 v' (k + 1) (((List.range k).map fun i => .slice (some ⟨f i, 0, none⟩) m (c i)) ++ [.slice (some ⟨g, 0, none⟩) m cg])) (hgrow : w.grownBy w' v.ownBlock) (hat : v.ownBlock = v'.ownBlock ∨ v'.ownBlock = some N) (hN : w.heap.size ≤ N) :
    Mr w' base v' (k + 1) m (fun i => if i = k then cg else c i) (fun i => if i = k then g else f i) (fun i => if i = k then F else A i) := by
  have key : ∀ x, x < w.heap.size → some x ≠ v.ownBlock → some x ≠ v'.ownBlock := fun x hx hne e => by
    rcases hat with q | q
    · rw [q] at hne; exact hne e
    · rw [q] at e; cases e; omega
  refine ⟨?_, fun i hi => ?_, fun i hi => ?_, fun i j hi hj e => ?_⟩
  · rw [List.range_succ, List.map_append]
    have e1 : ((List.range k).map fun i => Value.slice (some ⟨if i = k then g else f i, 0, none⟩) m (if i = k then cg else c i)) = (List.range k).map fun i => Value.slice (some ⟨f i, 0, none⟩) m (c i) :=
      List.map_congr_left fun i hi => by rw [if_neg (by have := List.mem_range.1 hi; omega), if_neg (by have := List.mem_range.1 hi; omega)]
    rw [e1]
    simp only [List.map_cons, List.map_nil, if_true]
    exact hown
  · by_cases e : i = k
    · simp only [e, if_true]; exact hr.gb hgrow hg
    · simp only [if_neg e]; exact (h.row i (by omega)).gb hgrow (h.far i (by omega))
  · by_cases e : i = k
    · simp only [e, if_true]; exact key g hr.lt.2 hg
    · simp only [if_neg e]; exact key _ (h.row i (by omega)).lt.2 (h.far i (by omega))
  · by_cases a : i = k <;> by_cases b : j = k
    · omega
    · simp only [a, if_true, if_neg b] at e; exact absurd e.symm (hgf j (by omega))
    · simp only [b, if_true, if_neg a] at e; exact absurd e (hgf i (by omega))
    · simp only [if_neg a, if_neg b] at e; exact h.inj i j (by omega) (by omega) e
theorem Mr.turn {w w' : World} {base n m R cR : Nat} {c f : Nat → Nat} {A : M} (h : Mr w base (.slice (some ⟨R, 0, none⟩) n cR) n m c f A) {i : Nat} (hi : i < n) {G : Nat → Nat} (k : w.grownBy w' (some (f i))) (r : Rw w' base (f i) m (c i) G) : Mr w' base (.slice (some ⟨R, 0, none⟩) n cR) n m c f (fun t => if t = i then G else A t) := by
  refine ⟨h.own.kept k (Or.inr (fun e => h.far i hi e.symm)), fun t ht => ?_, h.far, h.inj⟩
  by_cases e : t = i
  · subst e; simp only [if_true]; exact r
  · simp only [if_neg e]
    exact (h.row t ht).gb k (by simp only [ne_eq, Option.some.injEq]; exact fun z => e (h.inj t i ht hi z))
theorem Mr.swap {w : World} {base n m R cR : Nat} {c f : Nat → Nat} {A : M} (h : Mr w base (.slice (some ⟨R, 0, none⟩) n cR) n m c f A) {k i : Nat} (hk : k < n) (hi : i < n) :
    Mr ((w.setCell ⟨R, k, none⟩ (.slice (some ⟨f i, 0, none⟩) m (c i))).setCell ⟨R, i, none⟩ (.slice (some ⟨f k, 0, none⟩) m (c k))) base (.slice (some ⟨R, 0, none⟩) n cR) n m (fun t => c (sw k i t)) (fun t => f (sw k i t)) (swap A k i) ∧ w.grownBy ((w.setCell ⟨R, k, none⟩ (.slice (some ⟨f i, 0, none⟩) m (c i))).setCell ⟨R, i, none⟩ (.slice (some ⟨f k, 0, none⟩) m (c k))) (some R) := by
  obtain ⟨o1, g1⟩ := h.own.stored k (.slice (some ⟨f i, 0, none⟩) m (c i))
  obtain ⟨o2, g2⟩ := o1.stored i (.slice (some ⟨f k, 0, none⟩) m (c k))
  rw [range_set, range_set] at o2
  have g := g1.trans g2
  refine ⟨⟨?_, fun t ht => ?_, fun t ht => h.far _ (sw_lt hk hi ht), fun s t hs ht e => sw_inj (h.inj _ _ (sw_lt hk hi hs) (sw_lt hk hi ht) e)⟩, g⟩
  · have e : (fun t => if t = i then Value.slice (some ⟨f k, 0, none⟩) m (c k) else if t = k then Value.slice (some ⟨f i, 0, none⟩) m (c i) else Value.slice (some ⟨f t, 0, none⟩) m (c t)) = fun t => Value.slice (some ⟨f (sw k i t), 0, none⟩) m (c (sw k i t)) := by
      funext t
      unfold sw
      by_cases e1 : t = i
      · subst e1
        by_cases e2 : t = k
        · subst e2; simp
        · simp [e2]
      · by_cases e2 : t = k
        · subst e2; rw [if_neg e1, if_pos rfl, if_pos rfl]
        · rw [if_neg e1, if_neg e2, if_neg e2, if_neg e1]
    rw [e] at o2
    exact o2
  · rw [swap_sw]
    exact (h.row _ (sw_lt hk hi ht)).gb g (by simp only [ne_eq, Option.some.injEq]; exact fun z => h.far _ (sw_lt hk hi ht) (by rw [z]; rfl))
end Sv
theorem info14 (t : TypeId) (z : Value) (s b : Nat) (h : (Try.prog.info? t).map (fun i => (i.zero, i.size, i.bytes)) = some (some z, s, b)) : ∃ i, Try.prog.info? t = some i ∧ i.zero = some z ∧ i.size = s ∧ i.bytes = b := by
  obtain ⟨i, hi, he⟩ := Option.map_eq_some_iff.1 h
  simp only [Prod.mk.injEq] at he
  exact ⟨i, hi, he.1, he.2.1, he.2.2⟩
set_option maxHeartbeats 4000000 in
theorem rrows14 {w : World} {b o ca n m : Nat} {l : Nat → Nat} {A : Sv.M} (hb : b < w.heap.size) (h : ∀ i, i < n → ∃ r, w.cell? ⟨b, o + i, none⟩ = some r ∧ Sv.Ls w r (l i) (A i)) (hl : ∀ i, i < n → l i = m) (hn0 : 0 < n) (hn : n ≤ 1000) (hm : 0 < m) (hm2 : m ≤ 1000) :
    Calls Try.prog 79 #[.slice (some ⟨b, o, none⟩) n ca] w fun e w' => ∃ R cR c f, e = .returned (.slice (some ⟨R, 0, none⟩) n cR) ∧ Sv.Mr w' w.heap.size (.slice (some ⟨R, 0, none⟩) n cR) n m c f A ∧ Bw w w' := by
  obtain ⟨i0, hi0, ha0, ha1, ha2⟩ := info14 _ _ _ _ Sv.info_f
  obtain ⟨j0, hj0, hb0, hb1, hb2⟩ := info14 _ _ _ _ Sv.info_r
  have H := Sv.hid h
  have HL := Sv.hid hl
  have HB := Sv.hid hb
  clear h hl hb
  go_enter Try.func79, Try.ntmps79
  go_wp2
  go_loopw [3, 4] (fun v i wr => ∃ (k : Nat) (c f : Nat → Nat), k ≤ n ∧ i = .int .i64 k ∧ Sv.Mr wr w.heap.size v k m c f A ∧ Bw w wr) (fun _ i _ => n - (intOf i).toNat)
  case atStart => exact ⟨0, fun _ => 0, fun _ => 0, Nat.zero_le _, rfl, Sv.Mr.nil _ _ _ _ _ _, Bw.refl _⟩
  case round =>
    obtain ⟨k, c, f, hk, rfl, hMr, hbw⟩ := hrel
    by_cases hk1 : k < n
    · have hk2 : (k : Int) < n := by omega
      obtain ⟨r, e, hr⟩ := H.out k hk1
      replace e := (Below.cell hbw (p := ⟨b, o + k, none⟩) HB.out).trans e
      rw [HL.out k hk1] at hr
      obtain ⟨rb, ro, rc, rfl, hrc, hr⟩ := hr.resolve_left (fun h => by omega)
      obtain ⟨X, hX⟩ := (hr.bw hbw).words
      have KX := Sv.hid hX
      have KM := Sv.hid (And.intro hMr hbw)
      have hsz := Sv.hid (show w.heap.size ≤ wr.heap.size from hbw.size)
      clear hMr hbw hr hX
      go_wp2_with (first
        | (at_builtin; refine wpList_append_lies _ (by rfl) _ _ 24 (by rfl) w.heap.size 25 i0 (.float .f64 0) 1 8 Sv.und_f hi0 ha0 ha1 ha2 rfl (by decide) _ 0 [] (by rfl) (World.ownsRow_nil _ _ _ _) ⟨rb, ro, none⟩ m rc (Sv.fv X m) (by rfl) (by rw [Sv.fv_len, Nat.mul_one]) (fun j u hj => by
            have hjm : j < m := by have := (List.getElem?_eq_some_iff.1 hj).1; rw [Sv.fv_len] at this; exact this
            rw [Sv.fv_get _ _ _ hjm] at hj
            cases hj
            rw [Sv.add_off]
            exact (KX.out j hjm).1) (Sv.fv_one X m) hm (by unfold maxLen; omega) (by omega) hsz.out wr.heap.size rfl ?_)
        | go_in)
      intro g cap w1 hown hgrow hat hlt
      have hgw : g = wr.heap.size := by rcases hat with z | z; cases z; exact z
      have b1 : Bw wr w1 := ⟨hgrow.os, hgrow.tape, hgrow.output, hgrow.size, fun t ht => hgrow.block t ht (by simp [Value.ownBlock])⟩
      have hrw : Sv.Rw w1 w.heap.size g m cap (A k) := ⟨X, hown, fun j hj => (KX.out j hj).2⟩
      obtain ⟨hMr, hbw⟩ := KM.out
      have hgl : ∀ x, u3.ownBlock = some x → x < wr.heap.size := fun x hx => (hMr.own.lt x hx).2
      have hfl : ∀ i, i < k → f i < wr.heap.size := fun i hi => (hMr.row i hi).lt.2
      have b2 := Sv.bw_new w1 (.cells #[.slice (some ⟨g, 0, none⟩) m cap] 24)
      have KA := Sv.hid (And.intro ((hMr.bw b1).bw b2) (And.intro (hrw.bw b2) (And.intro (bw_trans (bw_trans hbw b1) b2) (And.intro hgl hfl))))
      have HSZ : Hid (w.heap.size ≤ (w1.alloc (.cells #[.slice (some ⟨g, 0, none⟩) m cap] 24)).heap.size ∧ (w1.alloc (.cells #[.slice (some ⟨g, 0, none⟩) m cap] 24)).heap.size = w1.heap.size + 1) := by
        refine ⟨?_, by simp⟩
        have := hbw.size; have := b1.size; have := b2.size
        omega
      have HG := Sv.hid hgw
      clear hMr hbw hgl hfl b1 b2 hrw hown hgrow hat hgw KM KX e
      go_wp2_with (first
        | (at_builtin; refine wpList_append_lies _ (by rfl) _ _ 23 (by rfl) w.heap.size 24 j0 (.slice none 0 0) 1 24 Sv.und_r hj0 hb0 hb1 hb2 rfl (by decide) _ k _ (by rfl) KA.out.1.own ⟨w1.heap.size, 0, none⟩ 1 1 [.slice (some ⟨g, 0, none⟩) m cap] (by rfl) rfl (cell_one_new _ _ _) (fun u hu => by simp only [List.mem_singleton] at hu; subst hu; rfl) (by decide) (by unfold maxLen; omega) (by omega) HSZ.out.1 (w1.heap.size + 1) HSZ.out.2 ?_)
        | go_in)
      intro R cR w3 hown hgrow hat hlt2
      obtain ⟨hM, hr3, hb, hgl, hfl⟩ := KA.out
      have hG := HG.out
      have hnx := hM.next (N := w1.heap.size + 1) (v' := .slice (some ⟨R, 0, none⟩) (k + 1) cR) hr3 (fun e => by have := hgl _ e.symm; omega) (fun i hi => by have := hfl i hi; omega) hown hgrow (by rcases hat with z | z; exact Or.inl z; exact Or.inr (by rw [z]; rfl)) (by rw [HSZ.out.2]; exact Nat.le_refl _)
      have KN : Hid (∃ c' f', Sv.Mr w3 w.heap.size (.slice (some ⟨R, 0, none⟩) (k + 1) cR) (k + 1) m c' f' A ∧ Bw w w3) := by
        refine ⟨_, _, hnx.ext (fun i j hi hj => ?_), Below.grown hb hgrow HSZ.out.1 (fun x e => (hM.own.lt x e).1)⟩
        by_cases z : i = k
        · subst z; simp only [if_true]
        · simp only [if_neg z]
      clear hM hr3 hb hgl hfl hG hnx hown hgrow hat hlt2 KA HSZ HG hlt
      go_wp2
      go_roundw
      case rel =>
        obtain ⟨c', f', a1, a2⟩ := KN.out
        exact ⟨k + 1, c', f', by omega, by simp, a1, a2⟩
      case measure => simp [intOf]; omega
    · have hk3 : k = n := by omega
      subst hk3
      obtain ⟨R, cR, rfl, _, _⟩ := hMr.own.form hn0
      have KM := Sv.hid (And.intro hMr hbw)
      clear hMr hbw
      go_wp2
      go_ret
      exact ⟨R, cR, c, f, rfl, KM.out.1, KM.out.2⟩
end Go.Proofs.Ytjfkdmddfeeheaa
/-
  OWN TEXT: what the reference's steps keep in memory: a struct of five slices, all apart.
-/
namespace Go.Proofs.Ytjfkdmddfeeheaa
open Go.ChangeShapes Go.WideShapes Go.ChangeAt Go.RowKit
set_option linter.unusedVariables false
attribute [local go_sem] frombits_call tobits_call run_neg

namespace Sv
/-- the slice v owns n floats -/
def Rv (w : World) (base : Nat) (v : Value) (n : Nat) (F : Nat → Nat) : Prop := ∃ X : Nat → Nat, w.ownsRow base 25 1 v n (fv X n) ∧ ∀ j, j < n → X j < 18446744073709551616 ∧ Fl.bitsF (X j) = F j
theorem Rv.nil (w : World) (base : Nat) (F : Nat → Nat) : Rv w base (.slice none 0 0) 0 F := ⟨fun _ => 0, World.ownsRow_nil _ _ _ _, fun j hj => absurd hj (by omega)⟩
theorem Rv.gb {w w' : World} {base n : Nat} {v : Value} {F : Nat → Nat} {r : Option Nat} (h : Rv w base v n F) (k : w.grownBy w' r) (hr : v.ownBlock = none ∨ v.ownBlock ≠ r) : Rv w' base v n F := by
  obtain ⟨X, h, q⟩ := h
  exact ⟨X, h.kept k hr, q⟩
theorem Rv.rw {w : World} {base n B c : Nat} {F : Nat → Nat} (h : Rv w base (.slice (some ⟨B, 0, none⟩) n c) n F) : Rw w base B n c F := h
theorem Rv.form {w : World} {base n : Nat} {v : Value} {F : Nat → Nat} (h : Rv w base v n F) (hn : 0 < n) : ∃ B c, v = .slice (some ⟨B, 0, none⟩) n c ∧ base ≤ B ∧ B < w.heap.size := by
  obtain ⟨X, h, _⟩ := h
  exact h.form hn
theorem Rv.ext {w : World} {base n : Nat} {v : Value} {F G : Nat → Nat} (h : Rv w base v n F) (e : ∀ j, j < n → F j = G j) : Rv w base v n G := by
  obtain ⟨X, h, q⟩ := h
  exact ⟨X, h, fun j hj => ⟨(q j hj).1, (q j hj).2.trans (e j hj)⟩⟩
/-- truths, as values -/
def bv (O : Nat → Bool) (n : Nat) : List Value := (List.range n).map fun j => .bool (O j)
theorem bv_len (O : Nat → Bool) (n : Nat) : (bv O n).length = n := by simp [bv]
theorem bv_get (O : Nat → Bool) (n j : Nat) (h : j < n) : (bv O n)[j]? = some (.bool (O j)) := by simp [bv, h]
theorem bv_succ (O : Nat → Bool) (n : Nat) : bv O (n + 1) = bv O n ++ [.bool (O n)] := by unfold bv; rw [List.range_succ, List.map_append]; rfl
theorem iv_succ (X : Nat → Nat) (n : Nat) : iv X (n + 1) = iv X n ++ [.int .i64 (X n)] := by unfold iv; rw [List.range_succ, List.map_append]; rfl
theorem info_b : (Try.prog.info? 4).map (fun i => (i.zero, i.size, i.bytes)) = some (some (.bool false), 1, 1) := by kernel_rfl
theorem und_b : Try.prog.underlying 83 = some (.slice 4) := by kernel_rfl
/-- the struct's cells -/
def Dc (w : World) (D : Nat) (a b c d e f : Value) : Prop := D < w.heap.size ∧ w.cell? ⟨D, 0, none⟩ = some a ∧ w.cell? ⟨D, 1, none⟩ = some b ∧ w.cell? ⟨D, 2, none⟩ = some c ∧ w.cell? ⟨D, 3, none⟩ = some d ∧ w.cell? ⟨D, 4, none⟩ = some e ∧ w.cell? ⟨D, 5, none⟩ = some f ∧ ∀ j, w.frozen? ⟨D, j, none⟩ = false
theorem Dc.gb {w w' : World} {D : Nat} {a b c d e f : Value} {r : Option Nat} (h : Dc w D a b c d e f) (k : w.grownBy w' r) (hr : some D ≠ r) : Dc w' D a b c d e f := by
  obtain ⟨h0, h1, h2, h3, h4, h5, h6, h7⟩ := h
  have q := k.block D h0 hr
  have cc := fun (j : Nat) => World.cell?_of_block (w := w) (w' := w') (a := ⟨D, j, none⟩) q
  exact ⟨by have := k.size; omega, (cc 0).trans h1, (cc 1).trans h2, (cc 2).trans h3, (cc 3).trans h4, (cc 4).trans h5, (cc 5).trans h6, fun j => (World.frozen?_of_block (w := w) (w' := w') (a := ⟨D, j, none⟩) q).trans (h7 j)⟩
theorem Dc.set {w : World} {D : Nat} {a b c d e f : Value} (h : Dc w D a b c d e f) (i : Nat) (v : Value) : Dc (w.setCell ⟨D, i, none⟩ v) D (if i = 0 then v else a) (if i = 1 then v else b) (if i = 2 then v else c) (if i = 3 then v else d) (if i = 4 then v else e) (if i = 5 then v else f) ∧ w.grownBy (w.setCell ⟨D, i, none⟩ v) (some D) := by
  obtain ⟨h0, h1, h2, h3, h4, h5, h6, h7⟩ := h
  have key : ∀ j u, w.cell? ⟨D, j, none⟩ = some u → (w.setCell ⟨D, i, none⟩ v).cell? ⟨D, j, none⟩ = some (if i = j then v else u) := fun j u hu => by
    by_cases z : i = j
    · subst z; rw [if_pos rfl]; exact World.cell?_setCell_same _ _ _ hu
    · rw [if_neg z, World.cell?_setCell_other _ _ _ _ (by intro q; cases q; exact z rfl)]; exact hu
  refine ⟨⟨by simpa [World.setCell] using h0, key 0 a h1, key 1 b h2, key 2 c h3, key 3 d h4, key 4 e h5, key 5 f h6, fun j => (World.frozen?_setCell _ _ _ _).trans (h7 j)⟩, rfl, rfl, rfl, by simp [World.setCell], fun k _ hk => ?_⟩
  exact Below.heap_setCell w ⟨D, i, none⟩ v k (fun e => hk (by rw [e]))
/-- all that the steps keep: q right sides and row numbers, p pivots and turns; t tells which block is whose -/
structure Rs (w : World) (base n q q2 p p2 D R cR : Nat) (c f : Nat → Nat) (vB vR vP vO : Value) (G : M) (Bf X P : Nat → Nat) (O : Nat → Bool) (t : Nat → Nat) : Prop where
  hA : Mr w base (.slice (some ⟨R, 0, none⟩) n cR) n n c f G
  hB : Rv w base vB q Bf
  hR : w.ownsRow base 3 1 vR q2 (iv X q2)
  hP : Rv w base vP p P
  hO : w.ownsRow base 4 1 vO p2 (bv O p2)
  hD : Dc w D (.slice (some ⟨R, 0, none⟩) n cR) vB vR vP vO (.bool true)
  hb : base ≤ D
  tA : t R = 1
  tf : ∀ i, i < n → t (f i) = 0
  tB : ∀ x, vB.ownBlock = some x → t x = 2
  tR : ∀ x, vR.ownBlock = some x → t x = 3
  tP : ∀ x, vP.ownBlock = some x → t x = 4
  tO : ∀ x, vO.ownBlock = some x → t x = 5
  tD : t D = 6
section
variable {w w' : World} {base n q q2 p p2 D R cR : Nat} {c f : Nat → Nat} {vB vR vP vO : Value} {G : M} {Bf X P : Nat → Nat} {O : Nat → Bool} {t : Nat → Nat}
theorem Rs.kA (h : Rs w base n q q2 p p2 D R cR c f vB vR vP vO G Bf X P O t) {r : Option Nat} (g : w.grownBy w' r) (hr : ∀ x, r = some x → t x ≠ 1 ∧ t x ≠ 0) : Mr w' base (.slice (some ⟨R, 0, none⟩) n cR) n n c f G :=
  h.hA.gb g (Or.inr (fun e => (hr R e.symm).1 h.tA)) (fun i hi e => (hr (f i) e.symm).2 (h.tf i hi))
theorem apart {v : Value} {k : Nat} (h : ∀ x, v.ownBlock = some x → t x = k) {r : Option Nat} (hr : ∀ x, r = some x → t x ≠ k) : v.ownBlock = none ∨ v.ownBlock ≠ r := by
  cases e : v.ownBlock with
  | none => exact Or.inl rfl
  | some x => exact Or.inr (fun z => hr x z.symm (h x e))
theorem Rs.kB (h : Rs w base n q q2 p p2 D R cR c f vB vR vP vO G Bf X P O t) {r : Option Nat} (g : w.grownBy w' r) (hr : ∀ x, r = some x → t x ≠ 2) : Rv w' base vB q Bf := h.hB.gb g (apart h.tB hr)
theorem Rs.kR (h : Rs w base n q q2 p p2 D R cR c f vB vR vP vO G Bf X P O t) {r : Option Nat} (g : w.grownBy w' r) (hr : ∀ x, r = some x → t x ≠ 3) : w'.ownsRow base 3 1 vR q2 (iv X q2) := h.hR.kept g (apart h.tR hr)
theorem Rs.kP (h : Rs w base n q q2 p p2 D R cR c f vB vR vP vO G Bf X P O t) {r : Option Nat} (g : w.grownBy w' r) (hr : ∀ x, r = some x → t x ≠ 4) : Rv w' base vP p P := h.hP.gb g (apart h.tP hr)
theorem Rs.kO (h : Rs w base n q q2 p p2 D R cR c f vB vR vP vO G Bf X P O t) {r : Option Nat} (g : w.grownBy w' r) (hr : ∀ x, r = some x → t x ≠ 5) : w'.ownsRow base 4 1 vO p2 (bv O p2) := h.hO.kept g (apart h.tO hr)
theorem Rs.kD (h : Rs w base n q q2 p p2 D R cR c f vB vR vP vO G Bf X P O t) {r : Option Nat} (g : w.grownBy w' r) (hr : ∀ x, r = some x → t x ≠ 6) : Dc w' D (.slice (some ⟨R, 0, none⟩) n cR) vB vR vP vO (.bool true) := h.hD.gb g (fun e => hr D e.symm h.tD)
theorem Rs.bw (h : Rs w base n q q2 p p2 D R cR c f vB vR vP vO G Bf X P O t) (b : Bw w w') : Rs w' base n q q2 p p2 D R cR c f vB vR vP vO G Bf X P O t :=
  have g := gb_bw b none
  ⟨h.kA g (fun x e => by cases e), h.kB g (fun x e => by cases e), h.kR g (fun x e => by cases e), h.kP g (fun x e => by cases e), h.kO g (fun x e => by cases e), h.kD g (fun x e => by cases e), h.hb, h.tA, h.tf, h.tB, h.tR, h.tP, h.tO, h.tD⟩
/-- a row of A turned -/
theorem Rs.turn (h : Rs w base n q q2 p p2 D R cR c f vB vR vP vO G Bf X P O t) {i : Nat} (hi : i < n) {F : Nat → Nat} (g : w.grownBy w' (some (f i))) (r : Rw w' base (f i) n (c i) F) : Rs w' base n q q2 p p2 D R cR c f vB vR vP vO (fun s => if s = i then F else G s) Bf X P O t := by
  have z := h.tf i hi
  have e : ∀ k, k ≠ 0 → ∀ x, some (f i) = some x → t x ≠ k := fun k hk x e => by cases e; omega
  exact ⟨h.hA.turn hi g r, h.kB g (e 2 (by decide)), h.kR g (e 3 (by decide)), h.kP g (e 4 (by decide)), h.kO g (e 5 (by decide)), h.kD g (e 6 (by decide)), h.hb, h.tA, h.tf, h.tB, h.tR, h.tP, h.tO, h.tD⟩
theorem Rs.extA (h : Rs w base n q q2 p p2 D R cR c f vB vR vP vO G Bf X P O t) {G' : M} (e : ∀ i j, i < n → j < n → G i j = G' i j) : Rs w base n q q2 p p2 D R cR c f vB vR vP vO G' Bf X P O t :=
  ⟨h.hA.ext e, h.hB, h.hR, h.hP, h.hO, h.hD, h.hb, h.tA, h.tf, h.tB, h.tR, h.tP, h.tO, h.tD⟩
theorem Rs.ext (h : Rs w base n q q2 p p2 D R cR c f vB vR vP vO G Bf X P O t) {G' : M} {Bf' X' P' : Nat → Nat} {O' : Nat → Bool} (e1 : ∀ i j, i < n → j < n → G i j = G' i j) (e2 : ∀ j, j < q → Bf j = Bf' j) (e3 : ∀ j, j < q2 → X j = X' j) (e4 : ∀ j, j < p → P j = P' j) (e5 : ∀ j, j < p2 → O j = O' j) : Rs w base n q q2 p p2 D R cR c f vB vR vP vO G' Bf' X' P' O' t := by
  have o5 : bv O p2 = bv O' p2 := by
    unfold bv
    exact List.map_congr_left fun j hj => by rw [e5 j (List.mem_range.1 hj)]
  exact ⟨h.hA.ext e1, h.hB.ext e2, by rw [← iv_ext X X' q2 e3]; exact h.hR, h.hP.ext e4, by rw [← o5]; exact h.hO, h.hD, h.hb, h.tA, h.tf, h.tB, h.tR, h.tP, h.tO, h.tD⟩
/-- rows of A change places -/
theorem Rs.swapA (h : Rs w base n q q2 p p2 D R cR c f vB vR vP vO G Bf X P O t) {k i : Nat} (hk : k < n) (hi : i < n) : Rs ((w.setCell ⟨R, k, none⟩ (.slice (some ⟨f i, 0, none⟩) n (c i))).setCell ⟨R, i, none⟩ (.slice (some ⟨f k, 0, none⟩) n (c k))) base n q q2 p p2 D R cR (fun s => c (sw k i s)) (fun s => f (sw k i s)) vB vR vP vO (swap G k i) Bf X P O t ∧ w.grownBy ((w.setCell ⟨R, k, none⟩ (.slice (some ⟨f i, 0, none⟩) n (c i))).setCell ⟨R, i, none⟩ (.slice (some ⟨f k, 0, none⟩) n (c k))) (some R) := by
  obtain ⟨m, g⟩ := h.hA.swap hk hi
  have z := h.tA
  have e : ∀ k, k ≠ 1 → ∀ x, some R = some x → t x ≠ k := fun k hk x e => by cases e; omega
  exact ⟨⟨m, h.kB g (e 2 (by decide)), h.kR g (e 3 (by decide)), h.kP g (e 4 (by decide)), h.kO g (e 5 (by decide)), h.kD g (e 6 (by decide)), h.hb, h.tA, fun s hs => h.tf _ (sw_lt hk hi hs), h.tB, h.tR, h.tP, h.tO, h.tD⟩, g⟩
/-- right sides: one is set -/
theorem Rs.setB (h : Rs w base n q q2 p p2 D R cR c f vB vR vP vO G Bf X P O t) {B cB : Nat} (hv : vB = .slice (some ⟨B, 0, none⟩) q cB) (i x : Nat) (hx : x < 18446744073709551616) : Rs (w.setCell ⟨B, i, none⟩ (.float .f64 x)) base n q q2 p p2 D R cR c f vB vR vP vO G (fun j => if j = i then Fl.bitsF x else Bf j) X P O t ∧ w.grownBy (w.setCell ⟨B, i, none⟩ (.float .f64 x)) (some B) := by
  have hB := h.hB
  rw [hv] at hB
  obtain ⟨m, g⟩ := hB.rw.set i x hx
  have z := h.tB B (by rw [hv]; rfl)
  have e : ∀ k, k ≠ 2 → ∀ x, some B = some x → t x ≠ k := fun k hk x e => by cases e; omega
  exact ⟨⟨h.kA g (fun x y => ⟨e 1 (by decide) x y, e 0 (by decide) x y⟩), by rw [hv]; exact m, h.kR g (e 3 (by decide)), h.kP g (e 4 (by decide)), h.kO g (e 5 (by decide)), h.kD g (e 6 (by decide)), h.hb, h.tA, h.tf, h.tB, h.tR, h.tP, h.tO, h.tD⟩, g⟩
/-- row numbers: one is set -/
theorem Rs.setR (h : Rs w base n q q2 p p2 D R cR c f vB vR vP vO G Bf X P O t) {B cB : Nat} (hv : vR = .slice (some ⟨B, 0, none⟩) q2 cB) (i x : Nat) : Rs (w.setCell ⟨B, i, none⟩ (.int .i64 x)) base n q q2 p p2 D R cR c f vB vR vP vO G Bf (fun j => if j = i then x else X j) P O t ∧ w.grownBy (w.setCell ⟨B, i, none⟩ (.int .i64 x)) (some B) := by
  have hR := h.hR
  rw [hv] at hR
  obtain ⟨m, g⟩ := hR.stored i (.int .i64 x)
  rw [iv_set] at m
  have z := h.tR B (by rw [hv]; rfl)
  have e : ∀ k, k ≠ 3 → ∀ x, some B = some x → t x ≠ k := fun k hk x e => by cases e; omega
  exact ⟨⟨h.kA g (fun x y => ⟨e 1 (by decide) x y, e 0 (by decide) x y⟩), h.kB g (e 2 (by decide)), by rw [hv]; exact m, h.kP g (e 4 (by decide)), h.kO g (e 5 (by decide)), h.kD g (e 6 (by decide)), h.hb, h.tA, h.tf, h.tB, h.tR, h.tP, h.tO, h.tD⟩, g⟩
theorem Rs.ltf (h : Rs w base n q q2 p p2 D R cR c f vB vR vP vO G Bf X P O t) : R < w.heap.size ∧ (∀ i, i < n → f i < w.heap.size) ∧ (∀ x, vB.ownBlock = some x → x < w.heap.size) ∧ (∀ x, vR.ownBlock = some x → x < w.heap.size) ∧ (∀ x, vP.ownBlock = some x → x < w.heap.size) ∧ (∀ x, vO.ownBlock = some x → x < w.heap.size) ∧ D < w.heap.size := by
  obtain ⟨XB, hB, _⟩ := h.hB
  obtain ⟨XP, hP, _⟩ := h.hP
  exact ⟨(h.hA.own.lt R rfl).2, fun i hi => (h.hA.row i hi).lt.2, fun x e => (hB.lt x e).2, fun x e => (h.hR.lt x e).2, fun x e => (hP.lt x e).2, fun x e => (h.hO.lt x e).2, h.hD.1⟩
/-- a value of the call's own lies in block g now -/
def own (t : Nat → Nat) (g k : Nat) : Nat → Nat := fun x => if x = g then k else t x
theorem own_keep {g k x : Nat} (hx : t x ≠ k) (hg : t g = k ∨ x < g) : own t g k x = t x := by
  unfold own
  rw [if_neg]
  rintro rfl
  rcases hg with z | z
  · exact hx z
  · omega
theorem own_same (t : Nat → Nat) (g k : Nat) : own t g k g = k := by unfold own; rw [if_pos rfl]
theorem Rs.pushB (h : Rs w base n q q2 p p2 D R cR c f vB vR vP vO G Bf X P O t) {XP : Nat → Nat} (hq : ∀ j, j < q → XP j < 18446744073709551616 ∧ Fl.bitsF (XP j) = Bf j) {x : Nat} (hx : x < 18446744073709551616) {g cap H : Nat} (hown : w'.ownsRow base 25 1 (.slice (some ⟨g, 0, none⟩) (q + 1) cap) (q + 1) (fv XP q ++ [.float .f64 x])) (g1 : w.grownBy w' vB.ownBlock) (hat : vB.ownBlock = some g ∨ g = H) (hH : w.heap.size = H) :
    Rs (w'.setCell ⟨D, 1, none⟩ (.slice (some ⟨g, 0, none⟩) (q + 1) cap)) base n (q + 1) q2 p p2 D R cR c f (.slice (some ⟨g, 0, none⟩) (q + 1) cap) vR vP vO G (fun j => if j = q then Fl.bitsF x else Bf j) X P O (own t g 2) ∧ Dc w' D (.slice (some ⟨R, 0, none⟩) n cR) vB vR vP vO (.bool true) ∧ w'.grownBy (w'.setCell ⟨D, 1, none⟩ (.slice (some ⟨g, 0, none⟩) (q + 1) cap)) (some D) := by
  have e : ∀ k, k ≠ 2 → ∀ x, vB.ownBlock = some x → t x ≠ k := fun k hk x z => by rw [h.tB x z]; exact fun q => hk q.symm
  have lt := h.ltf
  have hgk : ∀ y, y < w.heap.size → t g = 2 ∨ y < g := fun y hy => by
    rcases hat with z | z
    · exact Or.inl (h.tB g z)
    · exact Or.inr (by omega)
  have hd := h.kD g1 (e 6 (by decide))
  obtain ⟨hd2, g2⟩ := hd.set 1 (.slice (some ⟨g, 0, none⟩) (q + 1) cap)
  have hgD : some g ≠ some D := fun z => by
    have z' : g = D := Option.some.inj z
    rcases hat with y | y
    · have := h.tB g y; rw [z', h.tD] at this; cases this
    · have := lt.2.2.2.2.2.2; omega
  have o3 := hown.kept g2 (Or.inr hgD)
  refine ⟨⟨(h.kA g1 (fun x y => ⟨e 1 (by decide) x y, e 0 (by decide) x y⟩)).gb g2 (Or.inr (fun z => by have := h.tA; cases z; rw [h.tD] at this; cases this)) (fun i hi z => by have := h.tf i hi; cases z; rw [h.tD] at this; cases this), ⟨fun j => if j = q then x else XP j, by
    have e : fv (fun j => if j = q then x else XP j) (q + 1) = fv XP q ++ [.float .f64 x] := by
      rw [fv_succ, if_pos rfl, fv_ext _ XP q (fun j hj => by rw [if_neg (by omega)])]
    rw [e]; exact o3, fun j hj => by
    by_cases z : j = q
    · simp only [z, if_true]; exact ⟨hx, trivial⟩
    · simp only [if_neg z]; exact hq j (by omega)⟩, ((h.kR g1 (e 3 (by decide))).kept g2 (apart h.tR (fun x y => by cases y; rw [h.tD]; decide))), ((h.kP g1 (e 4 (by decide))).gb g2 (apart h.tP (fun x y => by cases y; rw [h.tD]; decide))), ((h.kO g1 (e 5 (by decide))).kept g2 (apart h.tO (fun x y => by cases y; rw [h.tD]; decide))), ?_, h.hb, ?_, ?_, (fun y e => by cases e; exact own_same t g 2), (fun y e => by rw [own_keep (by rw [h.tR y e]; decide) (hgk y (lt.2.2.2.1 y e))]; exact h.tR y e), (fun y e => by rw [own_keep (by rw [h.tP y e]; decide) (hgk y (lt.2.2.2.2.1 y e))]; exact h.tP y e), (fun y e => by rw [own_keep (by rw [h.tO y e]; decide) (hgk y (lt.2.2.2.2.2.1 y e))]; exact h.tO y e), ?_⟩, hd, g2⟩
  · simpa using hd2
  · rw [own_keep (by rw [h.tA]; decide) (hgk R lt.1)]; exact h.tA
  · intro i hi; rw [own_keep (by rw [h.tf i hi]; decide) (hgk _ (lt.2.1 i hi))]; exact h.tf i hi
  · rw [own_keep (by rw [h.tD]; decide) (hgk D lt.2.2.2.2.2.2)]; exact h.tD
theorem Rs.pushR (h : Rs w base n q q2 p p2 D R cR c f vB vR vP vO G Bf X P O t) {x : Nat} {g cap H : Nat} (hown : w'.ownsRow base 3 1 (.slice (some ⟨g, 0, none⟩) (q2 + 1) cap) (q2 + 1) (iv X q2 ++ [.int .i64 x])) (g1 : w.grownBy w' vR.ownBlock) (hat : vR.ownBlock = some g ∨ g = H) (hH : w.heap.size = H) :
    Rs (w'.setCell ⟨D, 2, none⟩ (.slice (some ⟨g, 0, none⟩) (q2 + 1) cap)) base n q (q2 + 1) p p2 D R cR c f vB (.slice (some ⟨g, 0, none⟩) (q2 + 1) cap) vP vO G Bf (fun j => if j = q2 then x else X j) P O (own t g 3) ∧ Dc w' D (.slice (some ⟨R, 0, none⟩) n cR) vB vR vP vO (.bool true) ∧ w'.grownBy (w'.setCell ⟨D, 2, none⟩ (.slice (some ⟨g, 0, none⟩) (q2 + 1) cap)) (some D) := by
  have e : ∀ k, k ≠ 3 → ∀ x, vR.ownBlock = some x → t x ≠ k := fun k hk x z => by rw [h.tR x z]; exact fun q => hk q.symm
  have lt := h.ltf
  have hgk : ∀ y, y < w.heap.size → t g = 3 ∨ y < g := fun y hy => by
    rcases hat with z | z
    · exact Or.inl (h.tR g z)
    · exact Or.inr (by omega)
  have hd := h.kD g1 (e 6 (by decide))
  obtain ⟨hd2, g2⟩ := hd.set 2 (.slice (some ⟨g, 0, none⟩) (q2 + 1) cap)
  have hgD : some g ≠ some D := fun z => by
    have z' : g = D := Option.some.inj z
    rcases hat with y | y
    · have := h.tR g y; rw [z', h.tD] at this; cases this
    · have := lt.2.2.2.2.2.2; omega
  have o3 := hown.kept g2 (Or.inr hgD)
  refine ⟨⟨(h.kA g1 (fun x y => ⟨e 1 (by decide) x y, e 0 (by decide) x y⟩)).gb g2 (Or.inr (fun z => by have := h.tA; cases z; rw [h.tD] at this; cases this)) (fun i hi z => by have := h.tf i hi; cases z; rw [h.tD] at this; cases this), ((h.kB g1 (e 2 (by decide))).gb g2 (apart h.tB (fun x y => by cases y; rw [h.tD]; decide))), (by
    have e : iv (fun j => if j = q2 then x else X j) (q2 + 1) = iv X q2 ++ [.int .i64 x] := by
      rw [iv_succ, if_pos rfl, iv_ext _ X q2 (fun j hj => by rw [if_neg (by omega)])]
    rw [e]; exact o3), ((h.kP g1 (e 4 (by decide))).gb g2 (apart h.tP (fun x y => by cases y; rw [h.tD]; decide))), ((h.kO g1 (e 5 (by decide))).kept g2 (apart h.tO (fun x y => by cases y; rw [h.tD]; decide))), ?_, h.hb, ?_, ?_, (fun y e => by rw [own_keep (by rw [h.tB y e]; decide) (hgk y (lt.2.2.1 y e))]; exact h.tB y e), (fun y e => by cases e; exact own_same t g 3), (fun y e => by rw [own_keep (by rw [h.tP y e]; decide) (hgk y (lt.2.2.2.2.1 y e))]; exact h.tP y e), (fun y e => by rw [own_keep (by rw [h.tO y e]; decide) (hgk y (lt.2.2.2.2.2.1 y e))]; exact h.tO y e), ?_⟩, hd, g2⟩
  · simpa using hd2
  · rw [own_keep (by rw [h.tA]; decide) (hgk R lt.1)]; exact h.tA
  · intro i hi; rw [own_keep (by rw [h.tf i hi]; decide) (hgk _ (lt.2.1 i hi))]; exact h.tf i hi
  · rw [own_keep (by rw [h.tD]; decide) (hgk D lt.2.2.2.2.2.2)]; exact h.tD
theorem Rs.pushP (h : Rs w base n q q2 p p2 D R cR c f vB vR vP vO G Bf X P O t) {XP : Nat → Nat} (hq : ∀ j, j < p → XP j < 18446744073709551616 ∧ Fl.bitsF (XP j) = P j) {x : Nat} (hx : x < 18446744073709551616) {g cap H : Nat} (hown : w'.ownsRow base 25 1 (.slice (some ⟨g, 0, none⟩) (p + 1) cap) (p + 1) (fv XP p ++ [.float .f64 x])) (g1 : w.grownBy w' vP.ownBlock) (hat : vP.ownBlock = some g ∨ g = H) (hH : w.heap.size = H) :
    Rs (w'.setCell ⟨D, 3, none⟩ (.slice (some ⟨g, 0, none⟩) (p + 1) cap)) base n q q2 (p + 1) p2 D R cR c f vB vR (.slice (some ⟨g, 0, none⟩) (p + 1) cap) vO G Bf X (fun j => if j = p then Fl.bitsF x else P j) O (own t g 4) ∧ Dc w' D (.slice (some ⟨R, 0, none⟩) n cR) vB vR vP vO (.bool true) ∧ w'.grownBy (w'.setCell ⟨D, 3, none⟩ (.slice (some ⟨g, 0, none⟩) (p + 1) cap)) (some D) := by
  have e : ∀ k, k ≠ 4 → ∀ x, vP.ownBlock = some x → t x ≠ k := fun k hk x z => by rw [h.tP x z]; exact fun q => hk q.symm
  have lt := h.ltf
  have hgk : ∀ y, y < w.heap.size → t g = 4 ∨ y < g := fun y hy => by
    rcases hat with z | z
    · exact Or.inl (h.tP g z)
    · exact Or.inr (by omega)
  have hd := h.kD g1 (e 6 (by decide))
  obtain ⟨hd2, g2⟩ := hd.set 3 (.slice (some ⟨g, 0, none⟩) (p + 1) cap)
  have hgD : some g ≠ some D := fun z => by
    have z' : g = D := Option.some.inj z
    rcases hat with y | y
    · have := h.tP g y; rw [z', h.tD] at this; cases this
    · have := lt.2.2.2.2.2.2; omega
  have o3 := hown.kept g2 (Or.inr hgD)
  refine ⟨⟨(h.kA g1 (fun x y => ⟨e 1 (by decide) x y, e 0 (by decide) x y⟩)).gb g2 (Or.inr (fun z => by have := h.tA; cases z; rw [h.tD] at this; cases this)) (fun i hi z => by have := h.tf i hi; cases z; rw [h.tD] at this; cases this), ((h.kB g1 (e 2 (by decide))).gb g2 (apart h.tB (fun x y => by cases y; rw [h.tD]; decide))), ((h.kR g1 (e 3 (by decide))).kept g2 (apart h.tR (fun x y => by cases y; rw [h.tD]; decide))), ⟨fun j => if j = p then x else XP j, by
    have e : fv (fun j => if j = p then x else XP j) (p + 1) = fv XP p ++ [.float .f64 x] := by
      rw [fv_succ, if_pos rfl, fv_ext _ XP p (fun j hj => by rw [if_neg (by omega)])]
    rw [e]; exact o3, fun j hj => by
    by_cases z : j = p
    · simp only [z, if_true]; exact ⟨hx, trivial⟩
    · simp only [if_neg z]; exact hq j (by omega)⟩, ((h.kO g1 (e 5 (by decide))).kept g2 (apart h.tO (fun x y => by cases y; rw [h.tD]; decide))), ?_, h.hb, ?_, ?_, (fun y e => by rw [own_keep (by rw [h.tB y e]; decide) (hgk y (lt.2.2.1 y e))]; exact h.tB y e), (fun y e => by rw [own_keep (by rw [h.tR y e]; decide) (hgk y (lt.2.2.2.1 y e))]; exact h.tR y e), (fun y e => by cases e; exact own_same t g 4), (fun y e => by rw [own_keep (by rw [h.tO y e]; decide) (hgk y (lt.2.2.2.2.2.1 y e))]; exact h.tO y e), ?_⟩, hd, g2⟩
  · simpa using hd2
  · rw [own_keep (by rw [h.tA]; decide) (hgk R lt.1)]; exact h.tA
  · intro i hi; rw [own_keep (by rw [h.tf i hi]; decide) (hgk _ (lt.2.1 i hi))]; exact h.tf i hi
  · rw [own_keep (by rw [h.tD]; decide) (hgk D lt.2.2.2.2.2.2)]; exact h.tD
theorem Rs.pushO (h : Rs w base n q q2 p p2 D R cR c f vB vR vP vO G Bf X P O t) {x : Bool} {g cap H : Nat} (hown : w'.ownsRow base 4 1 (.slice (some ⟨g, 0, none⟩) (p2 + 1) cap) (p2 + 1) (bv O p2 ++ [.bool x])) (g1 : w.grownBy w' vO.ownBlock) (hat : vO.ownBlock = some g ∨ g = H) (hH : w.heap.size = H) :
    Rs (w'.setCell ⟨D, 4, none⟩ (.slice (some ⟨g, 0, none⟩) (p2 + 1) cap)) base n q q2 p (p2 + 1) D R cR c f vB vR vP (.slice (some ⟨g, 0, none⟩) (p2 + 1) cap) G Bf X P (fun j => if j = p2 then x else O j) (own t g 5) ∧ Dc w' D (.slice (some ⟨R, 0, none⟩) n cR) vB vR vP vO (.bool true) ∧ w'.grownBy (w'.setCell ⟨D, 4, none⟩ (.slice (some ⟨g, 0, none⟩) (p2 + 1) cap)) (some D) := by
  have e : ∀ k, k ≠ 5 → ∀ x, vO.ownBlock = some x → t x ≠ k := fun k hk x z => by rw [h.tO x z]; exact fun q => hk q.symm
  have lt := h.ltf
  have hgk : ∀ y, y < w.heap.size → t g = 5 ∨ y < g := fun y hy => by
    rcases hat with z | z
    · exact Or.inl (h.tO g z)
    · exact Or.inr (by omega)
  have hd := h.kD g1 (e 6 (by decide))
  obtain ⟨hd2, g2⟩ := hd.set 4 (.slice (some ⟨g, 0, none⟩) (p2 + 1) cap)
  have hgD : some g ≠ some D := fun z => by
    have z' : g = D := Option.some.inj z
    rcases hat with y | y
    · have := h.tO g y; rw [z', h.tD] at this; cases this
    · have := lt.2.2.2.2.2.2; omega
  have o3 := hown.kept g2 (Or.inr hgD)
  refine ⟨⟨(h.kA g1 (fun x y => ⟨e 1 (by decide) x y, e 0 (by decide) x y⟩)).gb g2 (Or.inr (fun z => by have := h.tA; cases z; rw [h.tD] at this; cases this)) (fun i hi z => by have := h.tf i hi; cases z; rw [h.tD] at this; cases this), ((h.kB g1 (e 2 (by decide))).gb g2 (apart h.tB (fun x y => by cases y; rw [h.tD]; decide))), ((h.kR g1 (e 3 (by decide))).kept g2 (apart h.tR (fun x y => by cases y; rw [h.tD]; decide))), ((h.kP g1 (e 4 (by decide))).gb g2 (apart h.tP (fun x y => by cases y; rw [h.tD]; decide))), (by
    have e : bv (fun j => if j = p2 then x else O j) (p2 + 1) = bv O p2 ++ [.bool x] := by
      rw [bv_succ, if_pos rfl]
      congr 1
      unfold bv
      exact List.map_congr_left fun j hj => by simp only [if_neg (show ¬ j = p2 by have := List.mem_range.1 hj; omega)]
    rw [e]; exact o3), ?_, h.hb, ?_, ?_, (fun y e => by rw [own_keep (by rw [h.tB y e]; decide) (hgk y (lt.2.2.1 y e))]; exact h.tB y e), (fun y e => by rw [own_keep (by rw [h.tR y e]; decide) (hgk y (lt.2.2.2.1 y e))]; exact h.tR y e), (fun y e => by rw [own_keep (by rw [h.tP y e]; decide) (hgk y (lt.2.2.2.2.1 y e))]; exact h.tP y e), (fun y e => by cases e; exact own_same t g 5), ?_⟩, hd, g2⟩
  · simpa using hd2
  · rw [own_keep (by rw [h.tA]; decide) (hgk R lt.1)]; exact h.tA
  · intro i hi; rw [own_keep (by rw [h.tf i hi]; decide) (hgk _ (lt.2.1 i hi))]; exact h.tf i hi
  · rw [own_keep (by rw [h.tD]; decide) (hgk D lt.2.2.2.2.2.2)]; exact h.tD
end
end Sv
end Go.Proofs.Ytjfkdmddfeeheaa
