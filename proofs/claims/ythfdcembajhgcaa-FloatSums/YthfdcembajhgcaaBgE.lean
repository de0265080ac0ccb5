/-
  OWN TEXT: what mulWords of package eddybig returns, for all words.
-/
import Derived.Test.YthfdcembajhgcaaBgD
namespace Go.Proofs.Ythfdcembajhgcaa
open Go.ChangeShapes Go.WideShapes Go.ChangeAt Go.RowKit
open Bg
set_option linter.unusedVariables false
theorem Ow.drewN {w : World} {B : Nat} {o : List Nat} (h : Ow w B o) (n : Nat) : Ow (w.drewN n) B o := h
set_option maxHeartbeats 4000000 in
theorem mulWords_core (a c : Option Addr) (l m : List Nat) (ca cc : Nat) (w : World) (hha : Hs w a l) (hhc : Hs w c m) (hda : Dg l) (hdc : Dg m) (hca : l.length ≤ ca) (hcc : m.length ≤ cc) (hma : ca ≤ 1099511627776) (hlen : l.length + m.length ≤ 1099511627000) (hmc : cc ≤ 1099511627776) :
    Calls Try.prog 43 #[.slice a l.length ca, .slice c m.length cc] w fun e w' => ∃ v, e = .returned v ∧ Nm w' v (vL l * vL m) ∧ Fr w w' := by
  have hmk := make_words ((l.length : Int) + m.length) (l.length + m.length) (by omega) (by omega)
  generalize hn : l.length = n at *
  generalize hk2 : m.length = n2 at *
  have HN : Hid (l.length = n) := hn
  have HM : Hid (m.length = n2) := hk2
  clear hn hk2
  go_enter Try.func43, Try.ntmps43
  go_wp2
  go_loopw [6] (fun i wr => ∃ k : Nat, ∃ o : List Nat, k ≤ n ∧ i = .int .i64 k ∧ o.length = n + n2 ∧ Dg o ∧ Ow wr w.heap.size o ∧ Fr w wr ∧ vL (o.take (k + n2)) = vL (l.take k) * vL m) (fun i _ => n - (intOf i).toNat)
  case atStart => exact ⟨0, List.replicate (n + n2) 0, Nat.zero_le _, rfl, by simp, Dg_zeros _, Ow.made _ _ _, (Fr.refl _).alloc _ _, by rw [List.take_replicate, vL_zeros]; simp [vL]⟩
  case round =>
    obtain ⟨k, o, hk, rfl, ho, hdo, how, hf, hinv⟩ := hrel
    have HI : Hid (vL (o.take (k + n2)) = vL (l.take k) * vL m) := hinv
    have HO : Hid (o.length = n + n2) := ho
    clear hinv ho
    by_cases hlt : k < n
    · obtain ⟨b, of, rfl, hb, hcell⟩ := hs_len hha (by have := HN.out; omega)
      have h1 : wr.cell? ⟨b, of + k, none⟩ = some (.int .u32 (l.getD k 0 : Nat)) := (hf.1.cell (p := ⟨b, of + k, none⟩) hb).trans (hcell k (by have := HN.out; omega))
      have x1 := hda k
      have hltI : (k : Int) < n := by omega
      generalize hx : l.getD k 0 = x at *
      have HX : Hid (x = l.getD k 0) := hx.symm
      clear hx
      go_wp2
      go_loopw [7, 9] (fun cy jj wi => ∃ j cr : Nat, ∃ p : List Nat, j ≤ n2 ∧ jj = .int .i64 j ∧ cy = .int .u64 cr ∧ cr < 4294967296 ∧ p.length = n + n2 ∧ Dg p ∧ Ow wi w.heap.size p ∧ Fr w wi ∧ vL (p.take (k + n2)) + cr * 4294967296 ^ (k + j) = vL (l.take k) * vL m + x * vL (m.take j) * 4294967296 ^ k) (fun _ jj _ => n2 - (intOf jj).toNat)
      case atStart => exact ⟨0, 0, o, Nat.zero_le _, rfl, rfl, by omega, HO.out, hdo, how, hf, by rw [HI.out]; simp [vL]⟩
      case round =>
        obtain ⟨j, cr, p, hj, rfl, rfl, hcr, hp, hdp, hop, hfi, hin⟩ := hrel
        have HJ : Hid (vL (p.take (k + n2)) + cr * 4294967296 ^ (k + j) = vL (l.take k) * vL m + x * vL (m.take j) * 4294967296 ^ k) := hin
        have HP : Hid (p.length = n + n2) := hp
        clear hin hp
        by_cases hj2 : j < n2
        · obtain ⟨b2, of2, rfl, hb2, hcell2⟩ := hs_len hhc (by have := HM.out; omega)
          have h2 : wr.cell? ⟨b2, of2 + j, none⟩ = some (.int .u32 (m.getD j 0 : Nat)) := (hfi.1.cell (p := ⟨b2, of2 + j, none⟩) hb2).trans (hcell2 j (by have := HM.out; omega))
          have x2 := hdc j
          have hw1 := hop.2.1 (k + j) (by have := HP.out; omega)
          have hw2 := hop.2.2 (k + j)
          have x3 := hdp (k + j)
          have hj2I : (j : Int) < n2 := by omega
          have hkjI : (k : Int) + j < (n : Int) + n2 := by omega
          have HS := mul_step p m k j (k + n2) x cr (vL (l.take k) * vL m) _ (by have := HP.out; omega) (by omega) HJ.out rfl
          have HSh : Hid (vL ((p.set (k + j) ((x * m.getD j 0 + p.getD (k + j) 0 + cr) % 4294967296)).take (k + n2)) + (x * m.getD j 0 + p.getD (k + j) 0 + cr) / 4294967296 * 4294967296 ^ (k + (j + 1)) = vL (l.take k) * vL m + x * vL (m.take (j + 1)) * 4294967296 ^ k) := HS
          clear HS
          generalize m.getD j 0 = y at *
          generalize p.getD (k + j) 0 = z at *
          have t1 := mul_top x y x1 x2
          have t2 : (x : Int) * y = ((x * y : Nat) : Int) := by simp
          have t3 : (0 : Int) ≤ (x : Int) * y := by rw [t2]; omega
          have t4 : (x : Int) * y ≤ 18446744065119617025 := by rw [t2]; omega
          have T2 : Hid ((x : Int) * y = ((x * y : Nat) : Int)) := t2
          clear t2 h1 hcell hcell2
          go_wp2
          go_quiet (fail)
          go_wp2
          have e1 : ((x : Int) * y + z + cr) % 4294967296 = (((x * y + z + cr) % 4294967296 : Nat) : Int) := by rw [T2.out]; omega
          have e2 : ((x : Int) * y + z + cr) / 4294967296 = (((x * y + z + cr) / 4294967296 : Nat) : Int) := by rw [T2.out]; omega
          rw [e1, e2]
          exact ⟨⟨j + 1, (x * y + z + cr) / 4294967296, p.set (k + j) ((x * y + z + cr) % 4294967296), by omega, by go_num, rfl, by omega, by rw [List.length_set]; exact HP.out, Dg_set hdp _ _ (by omega), (hop.drewN _).set _ _ (by have := HP.out; omega), (quiet_fr hfi _).setCell (Nat.le_refl _) _, HSh.out⟩, by simp [intOf]; omega⟩
        · have hjn : j = n2 := by omega
          subst hjn
          have hw1 := hop.2.1 (k + j) (by have := HP.out; omega)
          have hw2 := hop.2.2 (k + j)
          have hjI : ¬ (j : Int) < j := by omega
          have hkjI : (k : Int) + j < (n : Int) + j := by omega
          have HS : Hid (vL ((p.set (k + j) cr).take (k + 1 + j)) = vL (l.take (k + 1)) * vL m) := mul_outer p l m k j x cr (by have := HP.out; omega) HX.out (by have h := HJ.out; rw [List.take_of_length_le (l := m) (by have := HM.out; omega)] at h; exact h)
          generalize p.getD (k + j) 0 = z at *
          clear h1 hcell how hf hdo
          go_wp2
          exact ⟨⟨k + 1, p.set (k + j) cr, by omega, by go_num, by rw [List.length_set]; exact HP.out, Dg_set hdp _ _ (by omega), hop.set _ _ (by have := HP.out; omega), hfi.setCell (Nat.le_refl _) _, HS.out⟩, by simp [intOf]; omega⟩
    · have hkn : k = n := by omega
      subst hkn
      have HV : Hid (vL o = vL l * vL m) := by
        have h := HI.out
        rw [List.take_of_length_le (l := l) (by have := HN.out; omega), List.take_of_length_le (l := o) (by have := HO.out; omega)] at h
        exact h
      have hlt' : ¬ (k : Int) < k := by omega
      go_wp2_with fail
      refine (nm_own how hdo HO.out (by omega)).mono ?_
      rintro e w1 ⟨v, rfl, hnm, rfl⟩
      rw [HV.out] at hnm
      have HNM := hnm
      go_wp2
      go_ret
      exact ⟨v, rfl, HNM, hf⟩
theorem mulWords_any (v u : Value) (N M : Nat) (w : World) (hv : Nm w v N) (hu : Nm w u M) (hN : N.log2 < 32000000) (hM : M.log2 < 32000000) :
    Calls Try.prog 43 #[v, u] w fun e w' => ∃ x, e = .returned x ∧ Nm w' x (N * M) ∧ Fr w w' := by
  obtain ⟨a, l, ca, rfl, hca, hma, hha, hda, rfl, hta, kl⟩ := hv.len 1000000 (by omega)
  obtain ⟨c, m, cc, rfl, hcc, hmc, hhc, hdc, rfl, htc, km⟩ := hu.len 1000000 (by omega)
  exact mulWords_core a c l m ca cc w hha hhc hda hdc hca hcc hma (by omega) hmc
end Go.Proofs.Ythfdcembajhgcaa
