/-
  OWN TEXT: what blend of package eddybig returns: one number times p and another times q, together.
-/
import Derived.Test.YthfdcembajhgcaaBgO
namespace Go.Proofs.Ythfdcembajhgcaa
open Go.ChangeShapes Go.WideShapes Go.ChangeAt Go.RowKit
open Bg
set_option linter.unusedVariables false
theorem blend_step (vo vl vm P p q c c' d x y t : Int) (h : vo + c * P = p * vl + q * vm) (ht : t = p * x + c + q * y) (hd : t = c' * 4294967296 + d) : vo + d * P + c' * (P * 4294967296) = p * (vl + x * P) + q * (vm + y * P) := by
  have e : t * P = t * P := rfl
  have e1 : t * P = p * x * P + c * P + q * y * P := by rw [ht, Int.add_mul, Int.add_mul]
  have e2 : t * P = c' * 4294967296 * P + d * P := by rw [hd, Int.add_mul]
  have e3 : c' * (P * 4294967296) = c' * 4294967296 * P := by rw [Int.mul_comm P, ← Int.mul_assoc]
  rw [Int.mul_add, Int.mul_add, e3, ← Int.mul_assoc p, ← Int.mul_assoc q]
  omega
/-- a product of a small factor and a word, with its bounds -/
theorem pb_pos (p : Int) (x : Nat) (h0 : 0 ≤ p) (h1 : p ≤ 1073741824) (hx : x < 4294967296) : 0 ≤ p * x ∧ p * x ≤ 4611686018427387904 := by
  obtain ⟨k, rfl⟩ : ∃ k : Nat, p = k := ⟨p.toNat, by omega⟩
  have h := Nat.mul_le_mul (show k ≤ 1073741824 by omega) (show x ≤ 4294967296 by omega)
  have e : (k : Int) * x = ((k * x : Nat) : Int) := by simp
  rw [e]
  omega
theorem pb_neg (p : Int) (x : Nat) (h0 : p ≤ 0) (h1 : -1073741824 ≤ p) (hx : x < 4294967296) : -4611686018427387904 ≤ p * x ∧ p * x ≤ 0 := by
  have := pb_pos (-p) x (by omega) (by omega) hx
  rw [Int.neg_mul] at this
  omega
def Two (p q : Int) : Prop := (0 ≤ p ∧ p ≤ 1073741824 ∧ q ≤ 0 ∧ -1073741824 ≤ q) ∨ (p ≤ 0 ∧ -1073741824 ≤ p ∧ 0 ≤ q ∧ q ≤ 1073741824)
theorem two_bounds (p q : Int) (h : Two p q) (x y : Nat) (hx : x < 4294967296) (hy : y < 4294967296) : -4611686018427387904 ≤ p * x ∧ p * x ≤ 4611686018427387904 ∧ -4611686018427387904 ≤ q * y ∧ q * y ≤ 4611686018427387904 ∧ -4611686018427387904 ≤ p * x + q * y ∧ p * x + q * y ≤ 4611686018427387904 := by
  rcases h with ⟨a, b, c, d⟩ | ⟨a, b, c, d⟩
  · have h1 := pb_pos p x a b hx
    have h2 := pb_neg q y c d hy
    omega
  · have h1 := pb_neg p x a b hx
    have h2 := pb_pos q y c d hy
    omega
set_option maxHeartbeats 4000000 in
theorem blend_core (a c : Option Addr) (l m : List Nat) (ca cc : Nat) (p q : Int) (R : Nat) (w : World) (hha : Hs w a l) (hhc : Hs w c m) (hda : Dg l) (hdc : Dg m) (hca : l.length ≤ ca) (hcc : m.length ≤ cc) (hma : ca ≤ 1099511627776) (hlen : l.length ≤ 1099511627000) (hmc : cc ≤ 1099511627776) (hlm : m.length ≤ l.length) (htw : Two p q) (hR : p * (vL l : Int) + q * (vL m : Int) = R) :
    Calls Try.prog 74 #[.slice a l.length ca, .slice c m.length cc, .int .i64 p, .int .i64 q] w fun e w' => ∃ v, e = .returned v ∧ Nm w' v R ∧ Fr w w' := by
  have hmk := make_words ((l.length : Int) + 1) (l.length + 1) (by omega) (by omega)
  have hp1 : -1073741824 ≤ p ∧ p ≤ 1073741824 ∧ -1073741824 ≤ q ∧ q ≤ 1073741824 := by
    rcases htw with h | h <;> omega
  have HTW : Hid (Two p q) := htw
  have HRR : Hid (p * (vL l : Int) + q * (vL m : Int) = R) := hR
  clear htw hR
  generalize hn : l.length = n at *
  have HN : Hid (l.length = n) := hn
  generalize hn2 : m.length = n2 at *
  have HN2 : Hid (m.length = n2) := hn2
  clear hn hn2
  obtain ⟨p1, p2, p3, p4⟩ := hp1
  go_enter Try.func74, Try.ntmps74
  go_wp2
  go_loopw [10, 11] (fun cv i wr => ∃ j : Nat, ∃ z : Int, ∃ o : List Nat, j ≤ n ∧ i = .int .i64 j ∧ cv = .int .i64 z ∧ -2147483648 ≤ z ∧ z ≤ 2147483648 ∧ Hid (o.length = n + 1) ∧ Hid (Dg o) ∧ Ow wr w.heap.size o ∧ Fr w wr ∧ Hid ((vL (o.take j) : Int) + z * (4294967296 ^ j : Nat) = p * (vL (l.take j) : Nat) + q * (vL (m.take j) : Nat))) (fun _ i _ => n - (intOf i).toNat)
  case atStart => exact ⟨0, 0, List.replicate (n + 1) 0, Nat.zero_le _, rfl, rfl, by omega, by omega, by show _ = _; simp, Dg_zeros _, Ow.made _ _ _, (Fr.refl _).alloc _ _, by show _ = _; simp [vL]⟩
  case round =>
    obtain ⟨j, z, o, hj, rfl, rfl, hz1, hz2, HO, HD, how, hf, HI⟩ := hrel
    by_cases hlt : j < n
    · have hb1 := hs_len hha (by have := HN.out; omega)
      obtain ⟨b, of, rfl, hb, hcell⟩ := hb1
      have h1 : wr.cell? ⟨b, of + j, none⟩ = some (.int .u32 (l.getD j 0 : Nat)) := (hf.1.cell (p := ⟨b, of + j, none⟩) hb).trans (hcell j (by have := HN.out; omega))
      have x1 := hda j
      have y1 := hdc j
      have hw1 := how.2.1 j (by have := HO.out; omega)
      have hw2 := how.2.2 j
      have hltI : (j : Int) < n := by omega
      have hltI' : (j : Int) < (n : Int) + 1 := by omega
      obtain ⟨b1, b2, b3, b4, b5, b6⟩ := two_bounds p q HTW.out (l.getD j 0) (m.getD j 0) x1 y1
      have HS : Hid (∀ t c' : Int, ∀ d : Nat, t = p * (l.getD j 0 : Nat) + z + q * (m.getD j 0 : Nat) → t = c' * 4294967296 + d → (vL ((o.set j d).take (j + 1)) : Int) + c' * (4294967296 ^ (j + 1) : Nat) = p * (vL (l.take (j + 1)) : Nat) + q * (vL (m.take (j + 1)) : Nat)) := by
        intro t c' d ht hd
        rw [take_set_succ _ _ _ (by have := HO.out; omega), vL_take_succ' l j, vL_take_succ' m j, Nat.pow_succ]
        have := blend_step _ _ _ ((4294967296 ^ j : Nat) : Int) p q z c' d (l.getD j 0 : Nat) (m.getD j 0 : Nat) t HI.out ht hd
        generalize 4294967296 ^ j = P at this ⊢
        simp only [Int.natCast_add, Int.natCast_mul] at this ⊢
        exact this
      by_cases hl2 : j < n2
      · obtain ⟨b', of', rfl, hb', hcell'⟩ := hs_len hhc (by have := HN2.out; omega)
        have h2 : wr.cell? ⟨b', of' + j, none⟩ = some (.int .u32 (m.getD j 0 : Nat)) := (hf.1.cell (p := ⟨b', of' + j, none⟩) hb').trans (hcell' j (by have := HN2.out; omega))
        have hl2I : (j : Int) < n2 := by omega
        generalize l.getD j 0 = x at *
        generalize m.getD j 0 = y at *
        generalize o.getD j 0 = zo at *
        clear hcell hcell' HI
        go_wp2
        obtain ⟨d, hd⟩ : ∃ d : Nat, (p * (x : Int) + z + q * (y : Int)) % 4294967296 = d := ⟨((p * (x : Int) + z + q * (y : Int)) % 4294967296).toNat, by omega⟩
        rw [hd]
        refine ⟨⟨j + 1, (p * (x : Int) + z + q * (y : Int)) / 4294967296, o.set j d, by omega, by go_num, rfl, by omega, by omega, by show _ = _; rw [List.length_set]; exact HO.out, Dg_set HD.out _ _ (by omega), how.set _ _ (by have := HO.out; omega), hf.setCell (Nat.le_refl _) _, HS.out _ _ d rfl (by omega)⟩, by simp [intOf]; omega⟩
      · have y0 : m.getD j 0 = 0 := getD_out (by have := HN2.out; omega)
        have hl2I : ¬ (j : Int) < n2 := by omega
        rw [y0] at HS b3 b4 b5 b6
        have HS' : Hid (∀ t c' : Int, ∀ d : Nat, t = p * (l.getD j 0 : Nat) + z → t = c' * 4294967296 + d → (vL ((o.set j d).take (j + 1)) : Int) + c' * (4294967296 ^ (j + 1) : Nat) = p * (vL (l.take (j + 1)) : Nat) + q * (vL (m.take (j + 1)) : Nat)) := fun t c' d h1 h2 => HS.out t c' d (by rw [h1]; simp) h2
        clear HS y0 y1 b3 b4 b5 b6
        generalize l.getD j 0 = x at *
        generalize o.getD j 0 = zo at *
        clear hcell HI
        go_wp2
        obtain ⟨d, hd⟩ : ∃ d : Nat, (p * (x : Int) + z) % 4294967296 = d := ⟨((p * (x : Int) + z) % 4294967296).toNat, by omega⟩
        rw [hd]
        refine ⟨⟨j + 1, (p * (x : Int) + z) / 4294967296, o.set j d, by omega, by go_num, rfl, by omega, by omega, by show _ = _; rw [List.length_set]; exact HO.out, Dg_set HD.out _ _ (by omega), how.set _ _ (by have := HO.out; omega), hf.setCell (Nat.le_refl _) _, HS'.out _ _ d rfl (by omega)⟩, by simp [intOf]; omega⟩
    · have hjn : j = n := by omega
      subst hjn
      have hlt' : ¬ (j : Int) < j := by omega
      have hE := HI.out
      rw [List.take_of_length_le (l := l) (by have := HN.out; omega), List.take_of_length_le (l := m) (by have := HN2.out; omega), HRR.out] at hE
      have hlow := vL_lt (o.take j) (Dg_take HD.out _)
      rw [List.length_take, Nat.min_eq_left (by have := HO.out; omega)] at hlow
      have hz0 : 0 ≤ z := by
        rcases Int.lt_or_le z 0 with h | h
        · have h2 : z * ((4294967296 ^ j : Nat) : Int) ≤ (-1) * ((4294967296 ^ j : Nat) : Int) := Int.mul_le_mul_of_nonneg_right (by omega) (by omega)
          omega
        · exact h
      obtain ⟨zn, rfl⟩ : ∃ zn : Nat, z = zn := ⟨z.toNat, by omega⟩
      have HV : Hid (vL (o.set j zn) = R) := by
        show _ = _
        have h1 := take_set_succ o j zn (by have := HO.out; omega)
        rw [List.take_of_length_le (by rw [List.length_set]; have := HO.out; omega)] at h1
        rw [h1]
        generalize 4294967296 ^ j = P at *
        have e : (zn : Int) * P = ((zn * P : Nat) : Int) := by simp
        rw [e] at hE
        omega
      have hw1 := how.2.1 j (by have := HO.out; omega)
      have hw2 := how.2.2 j
      have hltI' : (j : Int) < (j : Int) + 1 := by omega
      generalize o.getD j 0 = zo at *
      clear hE hlow HI
      go_wp2_with fail
      have eZ : (zn : Int) % 4294967296 = zn := by omega
      try rw [eZ]
      refine (nm_own (n := j + 1) (how.set j zn (by have := HO.out; omega)) (Dg_set HD.out _ _ (by omega)) (by rw [List.length_set]; exact HO.out) (by omega)).mono ?_
      rintro e w1 ⟨v, rfl, hnm, rfl⟩
      rw [HV.out] at hnm
      have HNM := hnm
      go_wp2
      go_ret
      exact ⟨v, rfl, HNM, hf.setCell (Nat.le_refl _) _⟩
theorem blend_any (v u : Value) (N M R : Nat) (p q : Int) (w : World) (hv : Nm w v N) (hu : Nm w u M) (hN : N.log2 < 32000000) (hle : M ≤ N) (htw : Two p q) (hR : p * (N : Int) + q * (M : Int) = R) :
    Calls Try.prog 74 #[v, u, .int .i64 p, .int .i64 q] w fun e w' => ∃ x, e = .returned x ∧ Nm w' x R ∧ Fr w w' := by
  obtain ⟨a, l, ca, rfl, hca, hma, hha, hda, rfl, hta, kl⟩ := hv.len 1000000 (by omega)
  obtain ⟨c, m, cc, rfl, hcc, hmc, hhc, hdc, rfl, htc⟩ := hu
  have hlm : m.length ≤ l.length := by
    rcases Nat.lt_or_ge l.length m.length with h | h
    · have := vL_lt_len l m hda htc h; omega
    · exact h
  exact blend_core a c l m ca cc p q R w hha hhc hda hdc hca hcc hma (by omega) hmc hlm htw hR
end Go.Proofs.Ythfdcembajhgcaa
