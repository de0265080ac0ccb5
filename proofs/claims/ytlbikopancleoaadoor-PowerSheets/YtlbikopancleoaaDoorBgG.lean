/-
  OWN TEXT: what down of package eddybig returns, for all words.
-/
import Derived.Test.YtlbikopancleoaaDoorJnBg
namespace Go.Proofs.YtlbikopancleoaaDoor
open Go.ChangeShapes Go.WideShapes Go.ChangeAt Go.RowKit
open Bg
set_option linter.unusedVariables false
set_option maxHeartbeats 4000000 in
theorem down_core (b of : Nat) (l : List Nat) (ca k s : Nat) (w : World) (hb : b < w.heap.size) (hcell : ∀ i, i < l.length → w.cell? ⟨b, of + i, none⟩ = some (.int .u32 (l.getD i 0 : Nat))) (hda : Dg l) (hca : l.length ≤ ca) (hma : ca ≤ 1099511627776) (hlen : l.length ≤ 1000000) (hk : k < l.length) (hs : s < 32) :
    Calls Tryd.prog 86 #[.slice (some ⟨b, of, none⟩) l.length ca, .int .i64 ((32 * k + s : Nat) : Int)] w fun e w' => ∃ v, e = .returned v ∧ Nm w' v (vL l / 2 ^ (32 * k + s)) ∧ Fr w w' := by
  have hmk := make_words ((l.length : Int) - k) (l.length - k) (by omega) (by omega)
  have q1 : (((32 * k + s : Nat) : Int)) / 32 = k := by omega
  have q2 : (((32 * k + s : Nat) : Int)) % 32 = s := by omega
  have q3 : (0 : Int) ≤ ((32 * k + s : Nat) : Int) := by omega
  have q4 : ((32 * k + s : Nat) : Int) ≤ 32000032 := by omega
  generalize hN0 : ((32 * k + s : Nat) : Int) = n0 at *
  clear hN0
  generalize hn : l.length = n at *
  have HN : Hid (l.length = n) := hn
  clear hn
  obtain ⟨r, hr⟩ : ∃ r : Nat, n = k + r := ⟨n - k, by omega⟩
  have hr1 : n - k = r := by omega
  have hr2 : (n : Int) - k = r := by omega
  rw [hr1, hr2] at hmk
  have HR : Hid (n = k + r) := hr
  have k1 : (k : Int) < n := by omega
  clear hr hr1
  go_enter Tryd.func86, Tryd.ntmps86
  go_wp2
  simp only [q1, q2]
  clear q1 q2 q3 q4 hr2
  go_loopw [8] (fun i wr => ∃ j : Nat, ∃ o : List Nat, j ≤ r ∧ i = .int .i64 j ∧ o.length = r ∧ Dg o ∧ Ow wr w.heap.size o ∧ Fr w wr ∧ ∀ i, i < j → o.getD i 0 = (l.getD (k + i) 0 + 4294967296 * l.getD (k + (i + 1)) 0) / 2 ^ s % 4294967296) (fun i _ => r - (intOf i).toNat)
  case atStart => exact ⟨0, List.replicate r 0, Nat.zero_le _, rfl, by simp, Dg_zeros _, Ow.made _ _ _, (Fr.refl _).alloc _ _, fun i hi => absurd hi (by omega)⟩
  case round =>
    obtain ⟨j, o, hj, rfl, ho, hdo, how, hf, hinv⟩ := hrel
    have HI : Hid (∀ i, i < j → o.getD i 0 = (l.getD (k + i) 0 + 4294967296 * l.getD (k + (i + 1)) 0) / 2 ^ s % 4294967296) := hinv
    have HO : Hid (o.length = r) := ho
    clear hinv ho
    by_cases hlt : j < r
    · have h1 : wr.cell? ⟨b, of + (j + k), none⟩ = some (.int .u32 (l.getD (k + j) 0 : Nat)) := by
        have := (hf.1.cell (p := ⟨b, of + (k + j), none⟩) hb).trans (hcell (k + j) (by have := HR.out; omega))
        rwa [Nat.add_comm k] at this ⊢
      have x1 := hda (k + j)
      have hw1 := how.2.1 j (by have := HO.out; omega)
      have hw2 := how.2.2 j
      have hltI : (j : Int) < r := by omega
      have hI2 : (j : Int) + k < n := by have := HR.out; omega
      have HS : Hid (∀ d, d = (l.getD (k + j) 0 + 4294967296 * l.getD (k + (j + 1)) 0) / 2 ^ s % 4294967296 → ∀ i, i < j + 1 → (o.set j d).getD i 0 = (l.getD (k + i) 0 + 4294967296 * l.getD (k + (i + 1)) 0) / 2 ^ s % 4294967296) := by
        intro d hd i hi
        rw [getD_set _ _ _ _ (by have := HO.out; omega)]
        by_cases c : i = j
        · subst c; rw [if_pos rfl]; exact hd
        · rw [if_neg c]; exact HI.out i (by omega)
      by_cases hl2 : k + (j + 1) < n
      · have h2 : wr.cell? ⟨b, of + (j + k + 1), none⟩ = some (.int .u32 (l.getD (k + (j + 1)) 0 : Nat)) := by
          have := (hf.1.cell (p := ⟨b, of + (k + (j + 1)), none⟩) hb).trans (hcell (k + (j + 1)) hl2)
          rwa [show k + (j + 1) = j + k + 1 by omega] at this ⊢
        have x2 := hda (k + (j + 1))
        have hI3 : (j : Int) + k + 1 < n := by omega
        generalize l.getD (k + j) 0 = x at *
        generalize l.getD (k + (j + 1)) 0 = y at *
        generalize o.getD j 0 = z at *
        have eO := or32' x y x1 x2
        have xy : x + 4294967296 * y < 18446744073709551616 := by omega
        generalize hT : x + 4294967296 * y = t at *
        clear hT
        have HS' := HS.out (t / 2 ^ s % 4294967296) rfl
        have HSh : Hid (∀ i, i < j + 1 → (o.set j (t / 2 ^ s % 4294967296)).getD i 0 = (l.getD (k + i) 0 + 4294967296 * l.getD (k + (i + 1)) 0) / 2 ^ s % 4294967296) := HS'
        clear HS' HS
        go_wp2
        have e2 : (t : Int) / 2 ^ s % 4294967296 = ((t / 2 ^ s % 4294967296 : Nat) : Int) := by simp
        rw [e2]
        exact ⟨⟨j + 1, o.set j (t / 2 ^ s % 4294967296), by omega, by go_num, by rw [List.length_set]; exact HO.out, Dg_set hdo _ _ (Nat.mod_lt _ (by omega)), how.set _ _ (by have := HO.out; omega), hf.setCell (Nat.le_refl _) _, HSh.out⟩, by simp [intOf]; omega⟩
      · have y0 : l.getD (k + (j + 1)) 0 = 0 := getD_out (by have := HN.out; omega)
        have hI3 : ¬ (j : Int) + k + 1 < n := by omega
        rw [y0] at HS
        generalize l.getD (k + j) 0 = x at *
        generalize o.getD j 0 = z at *
        have HS' := HS.out (x / 2 ^ s % 4294967296) rfl
        have HSh : Hid (∀ i, i < j + 1 → (o.set j (x / 2 ^ s % 4294967296)).getD i 0 = (l.getD (k + i) 0 + 4294967296 * l.getD (k + (i + 1)) 0) / 2 ^ s % 4294967296) := HS'
        clear HS' HS y0
        go_wp2
        have e2 : (x : Int) / 2 ^ s % 4294967296 = ((x / 2 ^ s % 4294967296 : Nat) : Int) := by simp
        rw [e2]
        exact ⟨⟨j + 1, o.set j (x / 2 ^ s % 4294967296), by omega, by go_num, by rw [List.length_set]; exact HO.out, Dg_set hdo _ _ (Nat.mod_lt _ (by omega)), how.set _ _ (by have := HO.out; omega), hf.setCell (Nat.le_refl _) _, HSh.out⟩, by simp [intOf]; omega⟩
    · have hjn : j = r := by omega
      subst hjn
      have HV : Hid (vL o = vL l / 2 ^ (32 * k + s)) := by
        show vL o = _
        have h := down_val (l.drop k) o s hs (by rw [List.length_drop]; have := HO.out; have := HN.out; have := HR.out; omega) (Dg_drop hda k) (fun i hi => by rw [getD_drop, getD_drop]; exact HI.out i (by have := HO.out; omega))
        rw [h, vL_drop l k hda, Nat.div_div_eq_div_mul, pow32, ← Nat.pow_add]
      have hlt' : ¬ (j : Int) < j := by omega
      have hjj : j ≤ n := by have := HR.out; omega
      go_wp2_with fail
      refine (nm_own how hdo HO.out (by omega)).mono ?_
      rintro e w1 ⟨v, rfl, hnm, rfl⟩
      rw [HV.out] at hnm
      have HNM := hnm
      go_wp2
      go_ret
      exact ⟨v, rfl, HNM, hf⟩
theorem down_words (v : Value) (N n : Nat) (w : World) (hv : Nm w v N) (hN : N.log2 < 32000000) (hn : n < 32000000) :
    Calls Tryd.prog 86 #[v, .int .i64 (n : Int)] w fun e w' => ∃ x, e = .returned x ∧ Nm w' x (N / 2 ^ n) ∧ Fr w w' := by
  obtain ⟨a, l, ca, rfl, hca, hma, hha, hda, rfl, hta, kl⟩ := hv.len 1000000 (by omega)
  by_cases c : n / 32 < l.length
  · obtain ⟨b, of, rfl, hb, hcell⟩ := hs_len hha (by omega)
    have := down_core b of l ca (n / 32) (n % 32) w hb hcell hda hca hma kl c (by omega)
    rw [show 32 * (n / 32) + n % 32 = n by omega] at this
    exact this
  · have hz : vL l / 2 ^ n = 0 := by
      refine Nat.div_eq_of_lt ?_
      have h1 := vL_lt l hda
      rw [pow32] at h1
      exact Nat.lt_of_lt_of_le h1 (Nat.pow_le_pow_right (by omega) (by omega))
    rw [hz]
    have t1 : ¬ (n : Int) / 32 < l.length := by omega
    have t2 : (l.length : Int) ≤ (n : Int) / 32 := by omega
    generalize l.length = m at *
    clear hha hda hta hz
    go_enter Tryd.func86, Tryd.ntmps86
    go_wp2
    go_ret
    exact ⟨_, rfl, nm_nil _, Fr.refl _⟩
end Go.Proofs.YtlbikopancleoaaDoor
