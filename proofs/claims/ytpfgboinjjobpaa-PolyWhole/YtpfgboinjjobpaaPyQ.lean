/-
  OWN TEXT: the small polynomials of the law (eddylaw08.whole, of, small).
-/
import Derived.Test.YtpfgboinjjobpaaPyP
import Derived.Deep.AppendLies
namespace Go.Proofs.Ytpfgboinjjobpaa
open Go.ChangeShapes Go.WideShapes Go.ChangeAt Go.RowKit
set_option linter.unusedVariables false
attribute [local go_sem] frombits_call tobits_call run_neg run_store_cx
theorem small_all : ∀ k : Fin 17, floatOfInt .f64 ((k.val : Int) - 8) < 18446744073709551616 ∧ Fl.rg (floatOfInt .f64 ((k.val : Int) - 8)) < 9218868437227405312 ∧ Fl.val (floatOfInt .f64 ((k.val : Int) - 8)) = ((k.val : Int) - 8) * ((2 ^ 1074 : Nat) : Int) := by decide +kernel
theorem w_small {c : Nat} (hc : c = 1074) (m : Int) (h1 : -8 ≤ m) (h2 : m ≤ 8) : wI c (floatOfInt .f64 m) m := by
  have h := small_all ⟨(m + 8).toNat, by omega⟩
  simp only at h
  rw [show (((m + 8).toNat : Nat) : Int) - 8 = m by omega] at h
  subst hc
  exact h
theorem whole8 {c : Nat} (hc : c = 1074) (n : Int) (w : World) : ∃ x m, wI c x m ∧ m.natAbs ≤ 8 ∧ ∀ w, Calls Try.prog 7 #[.int .i64 n] w fun e w' => e = .returned (.float .f64 x) ∧ w' = w := by
  have hb : -8 ≤ n.tmod 9 ∧ n.tmod 9 ≤ 8 := by
    have h1 := Int.tmod_lt_of_pos n (show (0 : Int) < 9 by decide)
    have h2 := Int.lt_tmod_of_pos n (show (0 : Int) < 9 by decide)
    omega
  refine ⟨_, _, w_small hc (n.tmod 9) hb.1 hb.2, by omega, fun w => ?_⟩
  go_enter Try.func7, Try.ntmps7
  go_wp2
  go_ret
  exact ⟨rfl, rfl⟩
theorem lof8 (x y : Nat) (w : World) : Calls Try.prog 6 #[.float .f64 x, .float .f64 y] w fun e w' => e = .returned (.complex .f64 x y) ∧ w' = w := by
  go_enter Try.func6, Try.ntmps6
  go_wp2
  go_ret
  exact ⟨rfl, rfl⟩
/-- a slice of ints that is read -/
def Ix (w : World) (a : Option Addr) (len : Nat) : Prop := len = 0 ∨ ∃ b off, a = some ⟨b, off, none⟩ ∧ b < w.heap.size ∧ ∀ j, j < len → ∃ z, w.cell? ⟨b, off + j, none⟩ = some (.int .i64 z)
theorem info_c128 : (Try.prog.info? 26).map (fun i => (i.zero, i.size, i.bytes)) = some (some (.complex .f64 0 0), 1, 16) := by kernel_rfl
theorem info_parts8 {i0 : Option TypeInfo} {z : Option Value} {s b : Nat} (h : i0.map (fun i => (i.zero, i.size, i.bytes)) = some (z, s, b)) : ∃ i, i0 = some i ∧ i.zero = z ∧ i.size = s ∧ i.bytes = b := by
  obtain ⟨i, hi, he⟩ := Option.map_eq_some_iff.1 h
  simp only [Prod.mk.injEq] at he
  exact ⟨i, hi, he.1, he.2.1, he.2.2⟩
/-- the values of a list -/
def Vl (c : Nat) (vals : List Value) (L : List Py.G) : Prop := vals.length = L.length ∧ ∀ j, j < L.length → ∃ x y, vals[j]? = some (.complex .f64 x y) ∧ wC c x y (Py.co L j)
theorem Vl.snoc {c x y : Nat} {g : Py.G} {vals : List Value} {L : List Py.G} (h : Vl c vals L) (hg : wC c x y g) : Vl c (vals ++ [.complex .f64 x y]) (L ++ [g]) := by
  refine ⟨by simp [h.1], fun j hj => ?_⟩
  rw [Py.co_append]
  by_cases k : j < L.length
  · obtain ⟨x, y, e, q⟩ := h.2 j k
    rw [if_pos k]
    exact ⟨x, y, by rw [List.getElem?_append_left (by rw [h.1]; exact k)]; exact e, q⟩
  · have : j = L.length := by simp at hj; omega
    subst this
    rw [if_neg k, Nat.sub_self]
    exact ⟨x, y, by rw [List.getElem?_append_right (by rw [h.1]; exact Nat.le_refl _), h.1, Nat.sub_self]; rfl, hg⟩
theorem Vl.gw {c : Nat} {w : World} {B g n cap : Nat} {vals : List Value} {L : List Py.G} (h : Vl c vals L) (hn : L.length = n) (ho : w.ownsRow B 26 1 (.slice (some ⟨g, 0, none⟩) n cap) n vals) : Gw c w g L := by
  refine ⟨⟨(ho.lt g rfl).2, fun j hj => ?_⟩, fun j => ho.frozenAt j⟩
  obtain ⟨x, y, e, q⟩ := h.2 j hj
  exact ⟨x, y, by rw [Nat.zero_add, ho.cellAt j (by omega)]; exact e, q⟩
theorem le_small {m n : Int} (h1 : m.natAbs ≤ 8) (h2 : n.natAbs ≤ 8) : Py.Le (m, n) 12 := by
  have a1 : m * m ≤ 64 := by
    have : m * m = (m.natAbs * m.natAbs : Nat) := by rw [Int.natAbs_mul_self]
    rw [this]
    have := Nat.mul_le_mul h1 h1
    omega
  have a2 : n * n ≤ 64 := by
    have : n * n = (n.natAbs * n.natAbs : Nat) := by rw [Int.natAbs_mul_self]
    rw [this]
    have := Nat.mul_le_mul h2 h2
    omega
  show m * m + n * n ≤ _
  have e : ((12 : Nat) : Int) * (12 : Nat) = 144 := by decide
  rw [e]
  omega
/-- parts of at most 8 -/
def E8 (g : Py.G) : Prop := g.1.natAbs ≤ 8 ∧ g.2.natAbs ≤ 8
theorem E8.nought : E8 (0, 0) := ⟨by decide, by decide⟩
theorem E8.le {g : Py.G} (h : E8 g) : Py.Le g 12 := le_small h.1 h.2
theorem three8 {c : Nat} (hc : c = 1074) : wC c 0 13837309855095848960 (0, -3) := by
  have h := w_small hc (-3) (by decide) (by decide)
  rw [show floatOfInt .f64 (-3) = 13837309855095848960 by decide +kernel] at h
  exact ⟨w_nought c, h⟩
set_option maxHeartbeats 8000000 in
theorem small8 {c : Nat} (hc : c = 1074) (a : Option Addr) (len cap : Nat) (w : World) (h : Ix w a len) (hlen : len ≤ 140737488355328) :
    Calls Try.prog 5 #[.slice a len cap] w fun e w' => ∃ B m cp l, e = .returned (.slice (some ⟨B, 0, none⟩) (m + 1) cp) ∧ Gw c w' B l ∧ l.length = m + 1 ∧ m ≤ 6 ∧ m + 1 ≤ cp ∧ Py.co l m ≠ (0, 0) ∧ (∀ i, E8 (Py.co l i)) ∧ w.heap.size ≤ B ∧ Bw w w' := by
  obtain ⟨i0, hi, hz0, hz1, hz2⟩ := info_parts8 info_c128
  have hu : Try.prog.underlying 24 = some (.slice 26) := by kernel_rfl
  obtain ⟨B, hB⟩ : ∃ B, w.heap.size = B := ⟨_, rfl⟩
  have HB := hide hB
  have HI := hide h
  have HC := hide hc
  clear hB h hc
  go_enter Try.func5, Try.ntmps5
  go_wp2_with fail
  go_loopw [3, 4] (fun v q wr => ∃ (k : Nat) (vals : List Value) (L : List Py.G), k ≤ 7 ∧ q = .int .i64 (2 * (k : Int)) ∧ L.length = k ∧ Vl c vals L ∧ wr.ownsRow B 26 1 v k vals ∧ (∀ i, E8 (Py.co L i)) ∧ Bw w wr) (fun _ q _ => 16 - (intOf q).toNat)
  case atStart => exact ⟨0, [], [], by omega, rfl, rfl, ⟨rfl, fun j hj => by simp at hj⟩, World.ownsRow_nil _ _ _ _, fun i => E8.nought, Bw.refl _⟩
  case round =>
    obtain ⟨k, vals, L, hk, rfl, hL, hV, hown, hle, hbw⟩ := hrel
    have hwlen : ∃ (a' : Option Addr) (cp : Nat), u3 = .slice a' k cp := by
      rcases hown.2 with ⟨e, z⟩ | ⟨g, cp, _, e, _⟩
      · subst z; exact ⟨none, 0, e⟩
      · exact ⟨_, cp, e⟩
    by_cases hgo : 2 * k + 1 < len ∧ k < 7
    · obtain ⟨i, hi0⟩ : ∃ i, i = 2 * k := ⟨_, rfl⟩
      obtain ⟨i1, hi1⟩ : ∃ i1, i1 = i + 1 := ⟨_, rfl⟩
      have hs0 : 2 * (k : Int) = (i : Int) := by omega
      have hs : (i : Int) + 1 = (i1 : Int) := by omega
      have h1 : (i1 : Int) < len := by omega
      have h0 : (i : Int) < len := by omega
      have h7 : (k : Int) < 7 := by omega
      obtain ⟨b, off, rfl, hbs, hcells⟩ := (HI.out).resolve_left (by omega)
      obtain ⟨z1, ez1⟩ := hcells i (by omega)
      obtain ⟨z2, ez2⟩ := hcells i1 (by omega)
      have c1 : wr.cell? ⟨b, off + i, none⟩ = some (.int .i64 z1) := (Below.cell hbw (p := ⟨b, off + i, none⟩) hbs).trans ez1
      have c2 : wr.cell? ⟨b, off + i1, none⟩ = some (.int .i64 z2) := (Below.cell hbw (p := ⟨b, off + i1, none⟩) hbs).trans ez2
      obtain ⟨x, m1, qx, lx, W1⟩ := whole8 HC.out z1 w
      obtain ⟨y, m2, qy, ly, W2⟩ := whole8 HC.out z2 w
      have HW1 := hide W1
      have HW2 := hide W2
      have hbs2 : Hid (b < wr.heap.size) := Nat.lt_of_lt_of_le hbs (Below.size hbw)
      have HRW : Hid (∀ z, u3.ownBlock = some z → w.heap.size ≤ z) := fun z e => by have := (hown.lt z e).1; have := HB.out; omega
      have HNB : Hid (u3.ownBlock ≠ some b) := fun e => by have := HRW.out b e; omega
      have HB2 : Hid (B ≤ wr.heap.size) := by have := HB.out; have := Below.size hbw; show B ≤ _; omega
      obtain ⟨a', cp0, hu3⟩ := hwlen
      have HOA : Hid ((wr.drew.alloc (.cells #[.complex .f64 x y] 26)).ownsRow B 26 1 u3 k vals) := World.ownsRow.alloc (w := wr.drew) hown _
      have HBA : Hid (Bw w (wr.drew.alloc (.cells #[.complex .f64 x y] 26))) := bw_trans hbw.drew (bw_alloc _ _)
      have HCE : Hid ((wr.drew.alloc (.cells #[.complex .f64 x y] 26)).cell? ((⟨wr.heap.size, 0, none⟩ : Addr).add 0) = some (.complex .f64 x y)) := by
        show World.cell? _ (⟨wr.drew.heap.size, 0, none⟩ : Addr) = _
        rw [World.cell?_alloc_at _ _ _ _ rfl]
        rfl
      have HSZ : Hid ((wr.drew.alloc (.cells #[.complex .f64 x y] 26)).heap.size = wr.heap.size + 1) := by show _ = _; simp
      have S1 : (wr.drew.alloc (.cells #[.complex .f64 x y] 26)).cell? ⟨b, off + i, none⟩ = some (.int .i64 z1) ∧ (wr.drew.alloc (.cells #[.complex .f64 x y] 26)).cell? ⟨b, off + i1, none⟩ = some (.int .i64 z2) :=
        ⟨(World.cell?_alloc_past _ _ _ hbs2.out).trans c1, (World.cell?_alloc_past _ _ _ hbs2.out).trans c2⟩
      have HV2 := hide (hV.snoc ⟨qx, qy⟩ (g := (m1, m2)))
      have HLE : Hid (∀ j, E8 (Py.co (L ++ [(m1, m2)]) j)) := fun j => by
        rw [Py.co_append]
        by_cases z : j < L.length
        · rw [if_pos z]; exact hle j
        · rw [if_neg z]
          generalize j - L.length = t
          cases t with
          | zero => exact ⟨lx, ly⟩
          | succ t => exact E8.nought
      have HLL := hide hL
      have wg : IntKind.i64.wrap (i1 : Int) = i1 := by rw [IntKind.wrap_i64]; omega
      have HI0 := hide hi0
      subst hu3
      clear hV hown hle W1 W2 qx qy lx ly hL hi1 hi0 ez1 ez2 hcells hbs HI hgo
      rw [hs0]
      clear hs0
      go_wp2_with fail
      have S0 : wr.drew.cell? ⟨b, off + i, none⟩ = some (.int .i64 z1) ∧ wr.drew.cell? ⟨b, off + i1, none⟩ = some (.int .i64 z2) := ⟨c1, c2⟩
      generalize hWS : wr.heap.size = WS at HCE HSZ HB2 hbs2 ⊢
      refine wp_region_K (fun w' => w'.cell? ⟨b, off + i, none⟩ = some (.int .i64 z1) ∧ w'.cell? ⟨b, off + i1, none⟩ = some (.int .i64 z2)) 15 16 #[false, false, false, false, false, false, false, false, false, false, false, false, false, false, false, false] (by kernel_rfl) (by kernel_rfl) (by kernel_rfl) ?_
      refine wpAnyK_take 0 18 (v := ?v0) rfl (by kernel_rfl) (by kernel_rfl) (by kernel_rfl) (by kernel_rfl) (by kernel_rfl) (fun _ _ _ h => h) rfl (Or.inl ⟨by rfl, ?h0⟩) (by assumption) ?r0
      case h0 => (intro w hSw; go_simp; with_reducible rfl)
      simp only [Act.put, List.setIfInBounds_toArray, List.set_cons_zero, List.set_cons_succ]
      refine wpAnyK_take 1 19 (v := ?v1) rfl (by kernel_rfl) (by kernel_rfl) (by kernel_rfl) (by kernel_rfl) (by kernel_rfl) (fun _ _ _ h => h) rfl (Or.inl ⟨by rfl, ?h1⟩) (by assumption) ?r1
      case h1 => (intro w hSw; go_simp; with_reducible rfl)
      simp only [Act.put, List.setIfInBounds_toArray, List.set_cons_zero, List.set_cons_succ]
      refine wpAnyK_take 2 20 (v := ?v2) rfl (by kernel_rfl) (by kernel_rfl) (by kernel_rfl) (by kernel_rfl) (by kernel_rfl) (fun _ _ _ h => h) rfl (Or.inl ⟨by rfl, ?h2⟩) (by assumption) ?r2
      case h2 => (intro w hSw; go_simp; with_reducible rfl)
      simp only [Act.put, List.setIfInBounds_toArray, List.set_cons_zero, List.set_cons_succ]
      refine wpAnyK_take 3 21 (v := ?v3) rfl (by kernel_rfl) (by kernel_rfl) (by kernel_rfl) (by kernel_rfl) (by kernel_rfl) (fun _ _ _ h => h) rfl (Or.inl ⟨by rfl, ?h3⟩) (by assumption) ?r3
      case h3 => (intro w hSw; go_simp; with_reducible rfl)
      simp only [Act.put, List.setIfInBounds_toArray, List.set_cons_zero, List.set_cons_succ]
      refine wpAnyK_take 4 22 (v := ?v4) rfl (by kernel_rfl) (by kernel_rfl) (by kernel_rfl) (by kernel_rfl) (by kernel_rfl) (fun _ _ _ h => h) rfl (Or.inl ⟨by rfl, ?h4⟩) (by assumption) ?r4
      case h4 => (intro w hSw; go_simp; with_reducible rfl)
      simp only [Act.put, List.setIfInBounds_toArray, List.set_cons_zero, List.set_cons_succ]
      refine wpAnyK_take 6 24 (v := ?v6) rfl (by kernel_rfl) (by kernel_rfl) (by kernel_rfl) (by kernel_rfl) (by kernel_rfl) (fun _ _ _ h => h) rfl (Or.inl ⟨by rfl, ?h6⟩) (by assumption) ?r6
      case h6 => (intro w hSw; go_simp; with_reducible rfl)
      simp only [Act.put, List.setIfInBounds_toArray, List.set_cons_zero, List.set_cons_succ]
      refine wpAnyK_take 7 25 (v := ?v7) rfl (by kernel_rfl) (by kernel_rfl) (by kernel_rfl) (by kernel_rfl) (by kernel_rfl) (fun _ _ _ h => h) rfl (Or.inl ⟨by rfl, ?h7⟩) (by assumption) ?r7
      case h7 => (intro w hSw; go_simp; with_reducible rfl)
      simp only [Act.put, List.setIfInBounds_toArray, List.set_cons_zero, List.set_cons_succ]
      refine wpAnyK_take 8 26 (v := ?v8) rfl (by kernel_rfl) (by kernel_rfl) (by kernel_rfl) (by kernel_rfl) (by kernel_rfl) (fun _ _ _ h => h) rfl (Or.inl ⟨by rfl, ?h8⟩) (by assumption) ?r8
      case h8 => (intro w hSw; go_simp; with_reducible rfl)
      simp only [Act.put, List.setIfInBounds_toArray, List.set_cons_zero, List.set_cons_succ]
      refine wpAnyK_take 9 27 (v := ?v9) rfl (by kernel_rfl) (by kernel_rfl) (by kernel_rfl) (by kernel_rfl) (by kernel_rfl) (fun _ _ _ h => h) rfl (Or.inl ⟨by rfl, ?h9⟩) (by assumption) ?r9
      case h9 => (intro w hSw; go_simp; with_reducible rfl)
      simp only [Act.put, List.setIfInBounds_toArray, List.set_cons_zero, List.set_cons_succ]
      refine wpAnyK_take 10 28 (v := ?v10) rfl (by kernel_rfl) (by kernel_rfl) (by kernel_rfl) (by kernel_rfl) (by kernel_rfl) (fun _ _ _ h => h) rfl (Or.inl ⟨by rfl, ?h10⟩) (by assumption) ?r10
      case h10 => (intro w hSw; go_simp; with_reducible rfl)
      simp only [Act.put, List.setIfInBounds_toArray, List.set_cons_zero, List.set_cons_succ]
      refine wpAnyK_one 5 (by kernel_rfl) rfl (fun K hK => ?_)
      go_simp
      go_wp2_with (go_at_call 7; refine (HW1.out _).mono ?_; rintro e' w7 ⟨rfl, hw7⟩; subst hw7)
      refine hK.out _ _ (fun _ _ => S0) ?_
      clear hK K
      simp only [List.setIfInBounds_toArray, List.set_cons_zero, List.set_cons_succ]
      refine wpAnyK_one 11 (by kernel_rfl) rfl (fun K hK => ?_)
      go_simp
      go_wp2_with (go_at_call 7; refine (HW2.out _).mono ?_; rintro e' w7 ⟨rfl, hw7⟩; subst hw7)
      refine hK.out _ _ (fun _ _ => S0) ?_
      clear hK K
      simp only [List.setIfInBounds_toArray, List.set_cons_zero, List.set_cons_succ]
      refine wpAnyK_one 12 (by kernel_rfl) rfl (fun K hK => ?_)
      go_simp
      go_wp2_with (go_at_call 6; refine (lof8 _ _ _).mono ?_; rintro e' w7 ⟨rfl, hw7⟩; subst hw7)
      refine hK.out _ _ (fun _ _ => S0) ?_
      clear hK K
      simp only [List.setIfInBounds_toArray, List.set_cons_zero, List.set_cons_succ]
      refine wpAnyK_one 13 (by kernel_rfl) rfl (fun K hK => ?_)
      go_simp
      refine hK.out _ _ (fun _ _ => S1) ?_
      clear hK K
      simp only [List.setIfInBounds_toArray, List.set_cons_zero, List.set_cons_succ]
      refine wpAnyK_one 14 (by kernel_rfl) rfl (fun K hK => ?_)
      rw [if_pos (by rfl)]
      refine wp_append_lies _ _ _ 24 (by rfl) B 26 i0 (.complex .f64 0 0) 1 16 hu hi hz0 hz1 hz2 rfl (by decide) _ k vals (by rfl) HOA.out ⟨WS, 0, none⟩ 1 1 [.complex .f64 x y] (by rfl) rfl ?c1 ?c2 (by decide) ?c3 ?c4 ?c5 (WS + 1) ?c6 ?_
      case c1 =>
        intro j u hj
        match j, hj with
        | 0, hj => simp at hj; subst hj; exact HCE.out
      case c2 => intro u hu; simp at hu; subst hu; rfl
      case c3 => unfold maxLen; omega
      case c4 => omega
      case c5 => exact Nat.le_trans HB2.out (Nat.le_trans (Nat.le_succ _) (Nat.le_of_eq HSZ.out.symm))
      case c6 => exact HSZ.out
      intro g cp w9 hown' hgrow hat hlt
      refine hK.out _ _ (fun _ _ => ⟨hgrow.cell S1.1 ?d1, hgrow.cell S1.2 ?d1⟩) ?_
      case d1 => exact fun e => HNB.out e.symm
      clear hK K
      simp only [List.setIfInBounds_toArray, List.set_cons_zero, List.set_cons_succ]
      refine wpAnyK_one 15 (by kernel_rfl) rfl (fun K hK => ?_)
      go_simp
      refine hK.out _ _ (fun h => absurd rfl h) ?_
      clear hK K
      simp only [List.setIfInBounds_toArray, List.set_cons_zero, List.set_cons_succ]
      refine wpAnyK_done (by kernel_rfl) ?_ _
      have R : Hid (w9.ownsRow B 26 1 (.slice (some ⟨g, 0, none⟩) (k + 1) cp) (k + 1) (vals ++ [.complex .f64 x y]) ∧ Bw w w9) := by
        refine ⟨hown', Below.grown HBA.out hgrow ?_ HRW.out⟩
        exact Nat.le_trans (Nat.le_of_eq HB.out) (Nat.le_trans HB2.out (Nat.le_trans (Nat.le_succ _) (Nat.le_of_eq HSZ.out.symm)))
      clear hown' hgrow hat hlt S0 S1 HCE HSZ HOA HBA c1 c2 wg HW1 HW2 hs
      go_wp2
      go_roundw
      case rel => exact ⟨k + 1, _, _, by omega, by rw [show 2 * ((k + 1 : Nat) : Int) = (i : Int) + 2 by have := HI0.out; omega], by rw [List.length_append, HLL.out]; rfl, HV2.out, R.out.1, HLE.out, R.out.2⟩
      case measure => simp [intOf]; have := HI0.out; omega
    · by_cases hA : 2 * k + 1 < len
      · have hkk : k = 7 := by omega
        have t1 : 2 * (k : Int) + 1 < len := by omega
        have t2 : ¬ (k : Int) < 7 := by omega
        have HKK : Hid (k ≠ 0) := by show k ≠ 0; omega
        clear hgo hA hkk
        · skip
          by_cases hk0 : k = 0
          · exact absurd hk0 HKK.out
          · obtain ⟨j, rfl⟩ : ∃ j, k = j + 1 := ⟨k - 1, by omega⟩
            obtain ⟨g, cp, hu3, hgB, hgl⟩ := hown.form (by omega)
            subst hu3
            have hG := hV.gw hL hown
            have hcp : j + 1 ≤ cp := by
              rcases hown.2 with ⟨e, _⟩ | ⟨g', cp', _, e, _, _, h, _⟩
              · cases e
              · cases e; exact h
            obtain ⟨x, y, e1, q1⟩ := hG.1.2 j (by omega)
            rw [Nat.zero_add] at e1
            have e2 := hG.2 j
            have o1 := Fl.o_eq x 0
            have o2 := Fl.o_eq y 0
            rw [q1.1.eq (w_nought c)] at o1
            rw [q1.2.eq (w_nought c)] at o2
            have hz := g_eq (Py.co L j) (0, 0)
            simp only at hz
            have hj1 : ((j : Int) + 1 == 0) = false := by rw [beq_eq_false_iff_ne]; omega
            have HLL := hide hL
            have HLE := hide hle
            have HG := hide hG
            have HT := hide (three8 HC.out)
            have hgw : w.heap.size ≤ g := by have := HB.out; omega
            have HQ := hide q1
            clear hown hV hL hle hG q1
            by_cases z1 : (Py.co L j).1 = 0
            · rw [decide_eq_true z1] at o1
              by_cases z2 : (Py.co L j).2 = 0
              · rw [decide_eq_true z2] at o2
                have R : Hid (Gw c (wr.setCell ⟨g, j, none⟩ (.complex .f64 0 13837309855095848960)) g (L.set j (0, -3)) ∧ Bw w (wr.setCell ⟨g, j, none⟩ (.complex .f64 0 13837309855095848960)) ∧ Py.co (L.set j (0, -3)) j = (0, -3) ∧ ∀ i, E8 (Py.co (L.set j (0, -3)) i)) := by
                  refine ⟨HG.out.set j _ _ _ (by have := HLL.out; omega) HT.out, Below.setCell hbw hgw _, by rw [Py.co_set _ _ _ _ (by have := HLL.out; omega), if_pos rfl], fun i => ?_⟩
                  rw [Py.co_set _ _ _ _ (by have := HLL.out; omega)]
                  split
                  · exact ⟨by decide, by decide⟩
                  · exact HLE.out i
                clear hz z1 z2
                go_wp2_with (go_at_call 6; refine (lof8 _ _ _).mono ?_; rintro e' w7 ⟨rfl, hw7⟩; subst hw7)
                go_ret
                exact ⟨g, j, cp, _, rfl, R.out.1, by rw [List.length_set]; exact HLL.out, by omega, hcp, by rw [R.out.2.2.1]; decide, R.out.2.2.2, hgw, R.out.2.1⟩
              · rw [decide_eq_false z2] at o2
                have hne : Hid (Py.co L j ≠ (0, 0)) := fun e => z2 (by rw [e])
                clear hz z1 z2
                go_wp2
                go_ret
                exact ⟨g, j, cp, rfl, L, HG.out, HLL.out, by omega, hcp, hne.out, HLE.out, hgw, hbw⟩
            · rw [decide_eq_false z1] at o1
              have hne : Hid (Py.co L j ≠ (0, 0)) := fun e => z1 (by rw [e])
              clear hz z1
              go_wp2
              go_ret
              exact ⟨g, j, cp, rfl, L, HG.out, HLL.out, by omega, hcp, hne.out, HLE.out, hgw, hbw⟩
      · have t1 : ¬ 2 * (k : Int) + 1 < len := by omega
        clear hgo hA
        · skip
          by_cases hk0 : k = 0
          · subst hk0
            obtain ⟨a', cp0, hu3⟩ := hwlen
            subst hu3
            have G0 : Gw c (wr.alloc (.cells #[.complex .f64 4607182418800017408 0] 26)) wr.heap.size [(1, 0)] := by
              refine ⟨⟨by simp, fun i hi => ?_⟩, fun i => World.frozen?_alloc_at _ _ _ _ rfl⟩
              match i, hi with
              | 0, _ => exact ⟨4607182418800017408, 0, by simp, wC.one HC.out⟩
            have HG0 := hide G0
            have b2 := bw_trans hbw (bw_alloc wr (.cells #[.complex .f64 4607182418800017408 0] 26))
            have hsz := Below.size hbw
            clear G0 hown hV hle hL
            go_wp2
            go_ret
            exact ⟨_, 0, 1, rfl, [(1, 0)], HG0.out, rfl, by omega, by omega, by decide, fun i => by cases i; exact ⟨by decide, by decide⟩; exact E8.nought, hsz, b2⟩
          · obtain ⟨j, rfl⟩ : ∃ j, k = j + 1 := ⟨k - 1, by omega⟩
            obtain ⟨g, cp, hu3, hgB, hgl⟩ := hown.form (by omega)
            subst hu3
            have hG := hV.gw hL hown
            have hcp : j + 1 ≤ cp := by
              rcases hown.2 with ⟨e, _⟩ | ⟨g', cp', _, e, _, _, h, _⟩
              · cases e
              · cases e; exact h
            obtain ⟨x, y, e1, q1⟩ := hG.1.2 j (by omega)
            rw [Nat.zero_add] at e1
            have e2 := hG.2 j
            have o1 := Fl.o_eq x 0
            have o2 := Fl.o_eq y 0
            rw [q1.1.eq (w_nought c)] at o1
            rw [q1.2.eq (w_nought c)] at o2
            have hz := g_eq (Py.co L j) (0, 0)
            simp only at hz
            have hj1 : ((j : Int) + 1 == 0) = false := by rw [beq_eq_false_iff_ne]; omega
            have HLL := hide hL
            have HLE := hide hle
            have HG := hide hG
            have HT := hide (three8 HC.out)
            have hgw : w.heap.size ≤ g := by have := HB.out; omega
            have HQ := hide q1
            clear hown hV hL hle hG q1
            by_cases z1 : (Py.co L j).1 = 0
            · rw [decide_eq_true z1] at o1
              by_cases z2 : (Py.co L j).2 = 0
              · rw [decide_eq_true z2] at o2
                have R : Hid (Gw c (wr.setCell ⟨g, j, none⟩ (.complex .f64 0 13837309855095848960)) g (L.set j (0, -3)) ∧ Bw w (wr.setCell ⟨g, j, none⟩ (.complex .f64 0 13837309855095848960)) ∧ Py.co (L.set j (0, -3)) j = (0, -3) ∧ ∀ i, E8 (Py.co (L.set j (0, -3)) i)) := by
                  refine ⟨HG.out.set j _ _ _ (by have := HLL.out; omega) HT.out, Below.setCell hbw hgw _, by rw [Py.co_set _ _ _ _ (by have := HLL.out; omega), if_pos rfl], fun i => ?_⟩
                  rw [Py.co_set _ _ _ _ (by have := HLL.out; omega)]
                  split
                  · exact ⟨by decide, by decide⟩
                  · exact HLE.out i
                clear hz z1 z2
                go_wp2_with (go_at_call 6; refine (lof8 _ _ _).mono ?_; rintro e' w7 ⟨rfl, hw7⟩; subst hw7)
                go_ret
                exact ⟨g, j, cp, _, rfl, R.out.1, by rw [List.length_set]; exact HLL.out, by omega, hcp, by rw [R.out.2.2.1]; decide, R.out.2.2.2, hgw, R.out.2.1⟩
              · rw [decide_eq_false z2] at o2
                have hne : Hid (Py.co L j ≠ (0, 0)) := fun e => z2 (by rw [e])
                clear hz z1 z2
                go_wp2
                go_ret
                exact ⟨g, j, cp, rfl, L, HG.out, HLL.out, by omega, hcp, hne.out, HLE.out, hgw, hbw⟩
            · rw [decide_eq_false z1] at o1
              have hne : Hid (Py.co L j ≠ (0, 0)) := fun e => z1 (by rw [e])
              clear hz z1
              go_wp2
              go_ret
              exact ⟨g, j, cp, rfl, L, HG.out, HLL.out, by omega, hcp, hne.out, HLE.out, hgw, hbw⟩
end Go.Proofs.Ytpfgboinjjobpaa
