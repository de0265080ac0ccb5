/-
  OWN TEXT: what divWords of package eddybig returns where the divisor is the greater one or has one word; plain laws for the rest.
-/
import Derived.Test.YtdfepflfmmmnpaaGreatDoorBgI
import Derived.Test.YtdfepflfmmmnpaaGreatDoorBgM
namespace Go.Proofs.YtdfepflfmmmnpaaGreatDoor
open Go.ChangeShapes Go.WideShapes Go.ChangeAt Go.RowKit
open Bg
set_option linter.unusedVariables false
set_option maxHeartbeats 2000000 in
theorem divWords_less (v u : Value) (N M : Nat) (w : World) (hv : Nm w v N) (hu : Nm w u M) (hN : N.log2 < 32000000) (h : N < M) :
    Calls Tryz.prog 111 #[v, u] w fun e w' => ∃ q r, e = .returned (.tuple #[q, r]) ∧ Nm w' q (N / M) ∧ Nm w' r (N % M) ∧ Fr w w' := by
  have e1 : N / M = 0 := Nat.div_eq_of_lt h
  have e2 : N % M = N := Nat.mod_eq_of_lt h
  have e3 : cmpI N M = -1 := cmpI_lt h
  rw [e1, e2]
  clear e1 e2
  go_enter Tryz.func111, Tryz.ntmps111
  go_wp2_with fail
  refine (cmpWords_any v u N M _ hv hu).mono ?_
  rintro e w1 ⟨rfl, hf1⟩
  rw [e3]
  go_wp2_with fail
  refine (copied_any v N _ (hv.mono hf1) hN).mono ?_
  rintro e w2 ⟨x, rfl, hx, hf2⟩
  go_wp2
  go_ret2
  exact ⟨_, _, rfl, nm_nil _, hx, hf1.trans hf2⟩
theorem hs_one {w : World} (x : Nat) : Hs (w.alloc (.cells #[.int .u32 (x : Nat)] 70)) (some ⟨w.heap.size, 0, none⟩) [x] := by
  right
  refine ⟨_, _, rfl, by simp, fun i hi => ?_⟩
  simp only [List.length_cons, List.length_nil] at hi
  match i, hi with
  | 0, _ => simp
theorem dg_one (x : Nat) (h : x < 4294967296) : Dg [x] := by
  intro i
  match i with
  | 0 => exact h
  | n + 1 => show 0 < _; omega
theorem vL_one (x : Nat) : vL [x] = x := by simp [vL]
set_option maxHeartbeats 2000000 in
theorem divWords_one (v : Value) (c : Option Addr) (d cc : Nat) (N : Nat) (w : World) (hv : Nm w v N) (hh : Hs w c [d]) (hcc : 1 ≤ cc) (hcc2 : cc ≤ 1099511627776) (hN : N.log2 < 32000000) (hd : 0 < d) (hd2 : d < 4294967296) (h : d ≤ N) :
    Calls Tryz.prog 111 #[v, .slice c 1 cc] w fun e w' => ∃ q r, e = .returned (.tuple #[q, r]) ∧ Nm w' q (N / d) ∧ Nm w' r (N % d) ∧ Fr w w' := by
  have hdg : Dg [d] := by
    intro i
    match i with
    | 0 => exact hd2
    | n + 1 => show 0 < _; omega
  have hu : Nm w (.slice c 1 cc) d := ⟨c, [d], cc, rfl, hcc, hcc2, hh, hdg, by simp [vL], by simp [tn]; omega⟩
  have e3 : ¬ cmpI N d < 0 := by
    unfold cmpI
    rw [if_neg (by omega)]
    split <;> omega
  obtain ⟨a, l, ca, rfl, hca, hma, hha, hda, rfl, hta, kl⟩ := hv.len 1000000 (by omega)
  obtain ⟨b, of, rfl, hb, hcell⟩ := hs_len hh (by simp)
  have hc0 := hcell 0 (by simp)
  rw [Nat.add_zero] at hc0
  have hc0' : w.cell? ⟨b, of, none⟩ = some (.int .u32 (d : Nat)) := hc0
  clear hc0 hcell
  have hv : Nm w (.slice a l.length ca) (vL l) := ⟨a, l, ca, rfl, hca, hma, hha, hda, rfl, hta⟩
  clear hh
  go_enter Tryz.func111, Tryz.ntmps111
  go_wp2_with fail
  refine (cmpWords_any _ _ (vL l) d _ hv hu).mono ?_
  rintro e w1 ⟨rfl, hf1⟩
  have hc1 : w1.cell? ⟨b, of, none⟩ = some (.int .u32 (d : Nat)) := (hf1.1.cell (p := ⟨b, of, none⟩) hb).trans hc0'
  generalize cmpI (vL l) d = ci at *
  go_wp2_with fail
  refine (divSmall_core a l ca d _ (hha.mono hf1) hda hca hma kl hd hd2).mono ?_
  rintro e w2 ⟨q, rfl, hq, hf2⟩
  have hrl : vL l % d < 4294967296 := Nat.lt_trans (Nat.mod_lt _ hd) hd2
  have hF : Fr w w2 := hf1.trans hf2
  have HQ : Hid (Nm w2 q (vL l / d)) := hq
  clear hq hv hu hc0' hc1 hf1 hf2
  generalize hr : vL l % d = r at *
  have HR : Hid (vL l % d = r) := hr
  clear hr
  go_wp2_with fail
  refine (trim_nm _ [r] 1 1 _ (hs_one r) (dg_one r hrl) rfl (by omega) (by omega)).mono ?_
  rintro e w3 ⟨v, rfl, hnm, rfl⟩
  rw [vL_one] at hnm
  have HN := hnm
  go_wp2
  go_ret2
  exact ⟨_, _, rfl, HQ.out.mono ((Fr.refl _).alloc _ _), by rw [HR.out]; exact HN, hF.alloc _ _⟩
end Go.Proofs.YtdfepflfmmmnpaaGreatDoor
