/-
  OWN TEXT: what math/bits.LeadingZeros32 and bitLen of package eddybig return.
-/
import Derived.Test.YtlbikopancleoaaDoorBgG
import Derived.Test.YtlbikopancleoaaDoorBgL
import Derived.Laws.MathBits
import Derived.Laws.IdiomCopy
namespace Go.Proofs.YtlbikopancleoaaDoor
open Go.ChangeShapes Go.WideShapes Go.ChangeAt Go.RowKit
open Bg
set_option linter.unusedVariables false
theorem bl_small : ∀ i : Fin 256, Lib.bitLen i.val = bitLen i.val := by decide +kernel
theorem bl_eq (x : Nat) (hx : x < 4294967296) : Lib.bitLen x = bitLen x := by
  by_cases c1 : x < 256
  · exact bl_small ⟨x, c1⟩
  by_cases c2 : x < 65536
  · rw [Lib.bitLen_shift8 x (by omega) (by omega), bitLen_shift x 8 (by omega), show 2 ^ 8 = 256 from rfl, bl_small ⟨x / 256, by omega⟩]
  by_cases c3 : x < 16777216
  · rw [Lib.bitLen_shift16 x (by omega) (by omega), bitLen_shift x 16 (by omega), show 2 ^ 16 = 65536 from rfl, bl_small ⟨x / 65536, by omega⟩]
  · rw [Lib.bitLen_shift24 x (by omega) (by omega), bitLen_shift x 24 (by omega), show 2 ^ 24 = 16777216 from rfl, bl_small ⟨x / 16777216, by omega⟩]
theorem bl_le (n k : Nat) (h : n < 2 ^ k) : bitLen n ≤ k := by
  unfold bitLen
  split
  · omega
  · rename_i z; have := (Nat.log2_lt z).2 h; omega
theorem len32_any (x : Nat) (w : World) (hx : x < 4294967296) :
    Calls Tryd.prog 93 #[.int .u32 (x : Int)] w fun e w' => e = .returned (.int .i64 (bitLen x : Int)) ∧ w' = w := by
  have := len32_lib (x : Int) w (by omega) (by omega)
  rwa [Int.toNat_natCast, bl_eq x hx] at this
theorem lead32_any (x : Nat) (w : World) (hx : x < 4294967296) :
    Calls Tryd.prog 96 #[.int .u32 (x : Int)] w fun e w' => e = .returned (.int .i64 ((32 - bitLen x : Nat) : Int)) ∧ w' = w := by
  have l := bl_le x 32 (by omega)
  go_enter Tryd.func96, Tryd.ntmps96
  go_wp2_with (go_at_call 93; refine (len32_any _ _ hx).mono ?_; rintro e w' ⟨rfl, rfl⟩)
  go_ret
  exact ⟨ri' (by show (32 : Int) - _ = _; omega), rfl⟩
/-- how many bits a number has, out of its last word -/
theorem bitLen_words (l : List Nat) (hd : Dg l) (ht : tn l = l.length) (hl : ¬ l.length = 0) : bitLen (vL l) = 32 * (l.length - 1) + bitLen (l.getD (l.length - 1) 0) := by
  have h1 := vL_take_succ l (l.length - 1) (by omega)
  rw [show l.length - 1 + 1 = l.length by omega, List.take_length] at h1
  have h2 := vL_lt (l.take (l.length - 1)) (Dg_take hd _)
  rw [List.length_take, show min (l.length - 1) l.length = l.length - 1 by omega] at h2
  have h3 := tn_last l (by omega)
  rw [ht] at h3
  have h4 : vL l / 2 ^ (32 * (l.length - 1)) = l.getD (l.length - 1) 0 := by
    rw [← pow32, h1, Nat.add_mul_div_right _ _ (Nat.pow_pos (by omega)), Nat.div_eq_of_lt h2, Nat.zero_add]
  have := bitLen_shift (vL l) (32 * (l.length - 1)) (by rw [h4]; exact h3)
  rwa [h4] at this
theorem bitLen_any (v : Value) (N : Nat) (w : World) (hv : Nm w v N) (hN : N.log2 < 32000000) :
    Calls Tryd.prog 84 #[v] w fun e w' => e = .returned (.int .i64 (bitLen N : Int)) ∧ w' = w := by
  obtain ⟨a, l, ca, rfl, hca, hma, hha, hda, rfl, hta, kl⟩ := hv.len 1000000 (by omega)
  by_cases c : l.length = 0
  · have e : l = [] := List.length_eq_zero_iff.1 c
    subst e
    go_enter Tryd.func84, Tryd.ntmps84
    go_wp2
    go_ret
    exact ⟨rfl, rfl⟩
  · obtain ⟨b, of, rfl, hb, hcell⟩ := hs_len hha c
    have H := bitLen_words l hda hta c
    obtain ⟨n, hn⟩ : ∃ n, l.length = n + 1 := ⟨l.length - 1, by omega⟩
    rw [hn] at H hcell hca kl ⊢
    rw [show n + 1 - 1 = n by omega] at H
    have h1 := hcell n (by omega)
    have x1 := hda n
    have HH : Hid (bitLen (vL l) = 32 * n + bitLen (l.getD n 0)) := H
    have hb2 := bl_le (l.getD n 0) 32 (by omega)
    generalize l.getD n 0 = x at *
    have t0 : (((n + 1 : Nat) : Int) == 0) = false := beq_eq_false_iff_ne.2 (by omega)
    clear hcell H c hn hta
    go_enter Tryd.func84, Tryd.ntmps84
    go_wp2_with (go_at_call 93; refine (len32_any _ _ x1).mono ?_; rintro e w' ⟨rfl, rfl⟩)
    go_ret
    exact ⟨ri' (by rw [HH.out]; show (32 : Int) * _ + _ = _; omega), rfl⟩
end Go.Proofs.YtlbikopancleoaaDoor
/-
  OWN TEXT: what divSmall and copied of package eddybig return, for all words.
-/
namespace Go.Proofs.YtlbikopancleoaaDoor
open Go.ChangeShapes Go.WideShapes Go.ChangeAt Go.RowKit
open Bg
set_option linter.unusedVariables false
set_option maxHeartbeats 4000000 in
theorem divSmall_core (a : Option Addr) (l : List Nat) (ca d : Nat) (w : World) (hha : Hs w a l) (hda : Dg l) (hca : l.length ≤ ca) (hma : ca ≤ 1099511627776) (hlen : l.length ≤ 1000000) (hd : 0 < d) (hd2 : d < 4294967296) :
    Calls Tryd.prog 95 #[.slice a l.length ca, .int .u32 (d : Int)] w fun e w' => ∃ v, e = .returned (.tuple #[v, .int .u32 ((vL l % d : Nat) : Int)]) ∧ Nm w' v (vL l / d) ∧ Fr w w' := by
  have hmk := make_words (l.length : Int) l.length rfl (by omega)
  generalize hn : l.length = n at *
  have HN : Hid (l.length = n) := hn
  clear hn
  have hd3 : ((d : Int) == 0) = false := beq_eq_false_iff_ne.2 (by omega)
  go_enter Tryd.func95, Tryd.ntmps95
  go_wp2
  go_loopw [7, 8] (fun rr i wr => ∃ k r : Nat, ∃ o : List Nat, k ≤ n ∧ i = .int .i64 ((k : Int) - 1) ∧ rr = .int .u64 r ∧ r < d ∧ o.length = n ∧ Dg o ∧ Ow wr w.heap.size o ∧ Fr w wr ∧ vL (l.drop k) = vL (o.drop k) * d + r) (fun _ i _ => (intOf i + 1).toNat)
  case atStart => exact ⟨n, 0, List.replicate n 0, Nat.le_refl _, rfl, rfl, hd, by simp, Dg_zeros _, Ow.made _ _ _, (Fr.refl _).alloc _ _, by rw [List.drop_of_length_le (by have := HN.out; omega), List.drop_of_length_le (by simp)]; simp [vL]⟩
  case round =>
    obtain ⟨k, r, o, hk, rfl, rfl, hr, ho, hdo, how, hf, hinv⟩ := hrel
    have HI : Hid (vL (l.drop k) = vL (o.drop k) * d + r) := hinv
    have HO : Hid (o.length = n) := ho
    clear hinv ho
    cases k with
    | zero =>
      have HV : Hid (vL o = vL l / d ∧ r = vL l % d) := by
        have h := HI.out
        rw [List.drop_zero, List.drop_zero] at h
        have h2 : vL l / d = vL o := by
          rw [h, Nat.mul_comm, Nat.mul_add_div hd, Nat.div_eq_of_lt hr, Nat.add_zero]
        have h3 : vL l % d = r := by
          rw [h, Nat.mul_comm, Nat.mul_add_mod, Nat.mod_eq_of_lt hr]
        exact ⟨h2.symm, h3.symm⟩
      go_wp2_with fail
      refine (nm_own how hdo HO.out (by omega)).mono ?_
      rintro e w1 ⟨v, rfl, hnm, rfl⟩
      rw [HV.out.1] at hnm
      have HNM := hnm
      have hr2 : r < 4294967296 := by omega
      go_wp2
      go_ret2
      exact ⟨v, by rw [← HV.out.2]; rfl, HNM, hf⟩
    | succ j =>
      obtain ⟨b, of, rfl, hb, hcell⟩ := hs_len hha (by have := HN.out; omega)
      have h1 : wr.cell? ⟨b, of + j, none⟩ = some (.int .u32 (l.getD j 0 : Nat)) := (hf.1.cell (p := ⟨b, of + j, none⟩) hb).trans (hcell j (by have := HN.out; omega))
      have x1 := hda j
      have hw1 := how.2.1 j (by have := HO.out; omega)
      have hw2 := how.2.2 j
      rw [show (((j + 1 : Nat) : Int) - 1) = (j : Int) by omega]
      have hjn : (j : Int) < n := by omega
      have HS : Hid (vL (l.drop j) = vL ((o.set j ((4294967296 * r + l.getD j 0) / d)).drop j) * d + (4294967296 * r + l.getD j 0) % d) := divs_step l o j d r _ (by have := HN.out; omega) (by have := HO.out; omega) hd rfl HI.out
      generalize l.getD j 0 = x at *
      generalize o.getD j 0 = z at *
      have eO := or32 x r x1 (by omega)
      have l1 : x + 4294967296 * r < 18446744073709551616 := by omega
      rw [Nat.add_comm x] at eO l1
      have l2 : (4294967296 * r + x) / d < 4294967296 := by
        refine (Nat.div_lt_iff_lt_mul hd).2 ?_
        have : 4294967296 * (r + 1) ≤ 4294967296 * d := Nat.mul_le_mul_left _ (by omega)
        omega
      have l3 : (4294967296 * r + x) % d < d := Nat.mod_lt _ hd
      generalize 4294967296 * r + x = t at *
      clear hcell HI
      go_wp2
      have e0 : (t : Int) / d = ((t / d : Nat) : Int) := by simp
      have e1 : IntKind.u64.wrap ((t : Int) / d) % 4294967296 = ((t / d : Nat) : Int) := by
        rw [e0]
        generalize t / d = qq at l2 ⊢
        rw [IntKind.wrap_u64]; omega
      have e2 : (t : Int) % d = ((t % d : Nat) : Int) := by simp
      rw [e1, e2]
      exact ⟨⟨j, t % d, o.set j (t / d), by omega, rfl, rfl, l3, by rw [List.length_set]; exact HO.out, Dg_set hdo _ _ l2, how.set _ _ (by have := HO.out; omega), hf.setCell (Nat.le_refl _) _, HS.out⟩, by simp [intOf]⟩
theorem fr_setCells {w0 : World} (B : Nat) (hB : w0.heap.size ≤ B) (vs : List Value) : ∀ (o : Nat) (w : World), Fr w0 w → Fr w0 (w.setCells B o vs) := by
  induction vs with
  | nil => intro o w h; exact h
  | cons v r ih => intro o w h; exact ih (o + 1) _ (h.setCell hB v)
theorem size_setCells (B : Nat) (vs : List Value) : ∀ (o : Nat) (w : World), (w.setCells B o vs).heap.size = w.heap.size := by
  induction vs with
  | nil => intro o w; rfl
  | cons v r ih => intro o w; show ((w.setCell _ v).setCells B (o + 1) r).heap.size = _; rw [ih]; simp [World.setCell]
/-- the words as values -/
def vs (l : List Nat) : List Value := l.map fun x => .int .u32 (x : Nat)
theorem vs_get (l : List Nat) (j : Nat) (h : j < l.length) : (vs l)[j]? = some (.int .u32 (l.getD j 0 : Nat)) := by
  unfold vs
  simp [h, List.getD]
theorem ow_splice {w : World} {B : Nat} {o l : List Nat} (h : Ow w B o) (hl : l.length ≤ o.length) : Ow (w.setCells B 0 (vs l)) B (l ++ o.drop l.length) := by
  have hvl : (vs l).length = l.length := by simp [vs]
  refine ⟨by rw [size_setCells]; exact h.1, fun i hi => ?_, fun i => (World.frozen?_setCells B _ _ _ _).trans (h.2.2 i)⟩
  by_cases c : i < l.length
  · have := World.cell?_setCells_in B (vs l) 0 w (fun j hj => by rw [Nat.zero_add, h.2.1 j (by omega)]; rfl) i (by omega)
    rw [Nat.zero_add] at this
    rw [this]
    have e := vs_get l i c
    rw [List.getElem?_eq_getElem (by omega)] at e
    rw [e]
    simp [List.getD, List.getElem?_append, c]
  · rw [World.cell?_setCells_out B (vs l) 0 w _ (fun _ _ => Or.inr (by simp; omega))]
    rw [List.length_append, List.length_drop] at hi
    rw [h.2.1 i (by omega)]
    simp only [List.getD, List.getElem?_append, c, if_false, List.getElem?_drop]
    rw [show l.length + (i - l.length) = i by omega]
theorem copy_call (B : Nat) (o l : List Nat) (a : Option Addr) (n m ca cb : Nat) (w : World) (how : Ow w B o) (hh : Hs w a l) (hn : l.length = n) (hm : o.length = m) (hno : n ≤ m) :
    (Builtin.copy_ #[54, 54] 3 #[.slice (some ⟨B, 0, none⟩) m cb, .slice a n ca]).run Tryd.prog w = .ok (.int .i64 n) (w.setCells B 0 (vs l)) := by
  subst hn hm
  have hu : Tryd.prog.underlying 54 = some (.slice 64) := by kernel_rfl
  have hs : (Tryd.prog.info? 64).map (·.size) = some 1 := by kernel_rfl
  have hvl : (vs l).length = l.length := by simp [vs]
  rcases hh with rfl | ⟨b, of, rfl, hb, hcell⟩
  · exact run_copy_none w _ _ _ _ _ _ _ _ _ _ hu hs (by simp)
  · have := run_copy_cells (P := Tryd.prog) w 54 54 3 64 B 0 o.length cb ⟨b, of, none⟩ l.length ca (vs l) hu hs (by rw [hvl]; exact (Nat.min_eq_left hno).symm) ?_ ?_ ?_ ?_
    · rw [hvl] at this; exact this
    · intro j v hj
      have hjl : j < l.length := by
        have := (List.getElem?_eq_some_iff.1 hj).1; omega
      rw [vs_get l j hjl] at hj
      cases hj
      have hc := hcell j hjl
      simp only [Addr.add]
      by_cases z : j = 0
      · subst z; simpa using hc
      · rw [if_neg z]; exact hc
    · intro j hj; rw [Nat.zero_add, how.2.1 j (by omega)]; rfl
    · intro j hj; exact how.2.2 _
    · intro v hv
      unfold vs at hv
      obtain ⟨x, _, rfl⟩ := List.mem_map.1 hv
      rfl
theorem copied_any (v : Value) (N : Nat) (w : World) (hv : Nm w v N) (hN : N.log2 < 32000000) :
    Calls Tryd.prog 90 #[v] w fun e w' => ∃ x, e = .returned x ∧ Nm w' x N ∧ Fr w w' := by
  obtain ⟨a, l, ca, rfl, hca, hma, hha, hda, rfl, hta, kl⟩ := hv.len 1000000 (by omega)
  have hmk := make_words (l.length : Int) l.length rfl (by omega)
  have hcp := copy_call w.heap.size (List.replicate l.length 0) l a l.length l.length ca l.length (w.alloc (.cells (zc l.length) 64)) (Ow.made _ _ _) (hha.mono ((Fr.refl _).alloc _ _)) rfl (by simp) (Nat.le_refl _)
  have how := ow_splice (l := l) (Ow.made w l.length 64) (by simp)
  have hfr : Fr w ((w.alloc (.cells (zc l.length) 64)).setCells w.heap.size 0 (vs l)) := fr_setCells _ (Nat.le_refl _) _ _ _ ((Fr.refl _).alloc _ _)
  have HW : Hid (Nm ((w.alloc (.cells (zc l.length) 64)).setCells w.heap.size 0 (vs l)) (.slice (some ⟨w.heap.size, 0, none⟩) l.length l.length) (vL l)) := by
    rw [List.drop_of_length_le (by simp), List.append_nil] at how
    exact ⟨_, l, l.length, rfl, Nat.le_refl _, by omega, how.hs, hda, rfl, hta⟩
  clear how
  generalize (w.alloc (.cells (zc l.length) 64)).setCells w.heap.size 0 (vs l) = w2 at *
  generalize l.length = n at *
  go_enter Tryd.func90, Tryd.ntmps90
  go_wp2
  go_ret
  exact ⟨_, rfl, HW.out, hfr⟩
end Go.Proofs.YtlbikopancleoaaDoor
