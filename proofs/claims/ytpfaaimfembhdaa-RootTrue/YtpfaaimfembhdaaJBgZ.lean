/-
  OWN TEXT: a float's fraction: SetFloat64 of package eddybig, and exact of the statements.
-/
import Derived.Test.YtpfaaimfembhdaaJBgUToBgY
import Derived.Test.YtpfaaimfembhdaaJFnLdexpToFnParts
namespace Go.Proofs.Ytpfaaimfembhdaa
open Go.ChangeShapes Go.WideShapes Go.ChangeAt Go.RowKit
open Bg
set_option linter.unusedVariables false
attribute [local go_sem] frombits_call tobits_call
theorem low52 (x : Nat) (hx : x < 18446744073709551616) : bits BinOp.and IntKind.u64 (x : Int) 4503599627370495 = ((x % 4503599627370496 : Nat) : Int) := by
  have e := u64_and_nat x 4503599627370495 hx (by omega)
  rw [show ((4503599627370495 : Nat) : Int) = 4503599627370495 from rfl] at e
  rw [e]
  have h := Nat.and_two_pow_sub_one_eq_mod x 52
  rw [show 2 ^ 52 - 1 = 4503599627370495 from rfl] at h
  rw [h]
theorem or52 (m : Nat) (hm : m < 4503599627370496) : bits BinOp.or IntKind.u64 (m : Int) 4503599627370496 = ((4503599627370496 + m : Nat) : Int) := by
  have e := u64_or_nat m 4503599627370496 (by omega) (by omega)
  rw [show ((4503599627370496 : Nat) : Int) = 4503599627370496 from rfl] at e
  rw [e]
  have h := Nat.two_pow_add_eq_or_of_lt (b := m) (i := 52) hm 1
  rw [Nat.mul_one, Nat.or_comm] at h
  exact congrArg _ h.symm
theorem vl_parts (x : Nat) (M k : Nat) (h : (Fl.rg x / 4503599627370496 = 0 ∧ M = x % 4503599627370496 ∧ k = 0) ∨ (1 ≤ Fl.rg x / 4503599627370496 ∧ M = 4503599627370496 + x % 4503599627370496 ∧ k = Fl.rg x / 4503599627370496 - 1)) : Fl.vl (Fl.rg x) = M * 2 ^ k := by
  have hr : Fl.rg x % 4503599627370496 = x % 4503599627370496 := by unfold Fl.rg; omega
  rcases h with ⟨h1, rfl, rfl⟩ | ⟨h1, rfl, rfl⟩
  · unfold Fl.vl
    rw [if_pos (by omega)]
    omega
  · unfold Fl.vl
    rw [if_neg (by omega), hr]
theorem sv_val (x : Nat) : Fl.val x = sv (Fl.sg x) (Fl.vl (Fl.rg x)) := by
  unfold Fl.val sv; rfl
theorem log2_shift (M k j : Nat) (hM : M < 9007199254740992) (hk : k ≤ j) : (M * 2 ^ k).log2 < 53 + j := by
  refine log2_lt_of _ _ ?_ (by omega)
  rw [Nat.pow_add]
  have h1 : 2 ^ k ≤ 2 ^ j := Nat.pow_le_pow_right (by omega) hk
  exact Nat.lt_of_le_of_lt (Nat.mul_le_mul_left M h1) (Nat.mul_lt_mul_of_pos_right hM (Nat.pow_pos (by omega)))
set_option maxHeartbeats 8000000 in
set_option maxRecDepth 100000 in
theorem setfloat_any (B x c : Nat) (w : World) (s0 : Bool) (A0 D0 : Nat) (hz : Rt w B s0 A0 D0) (hx : x < 18446744073709551616) (hf : Fl.rg x < 9218868437227405312) (hc : c = 1074) :
    Calls Try.prog 25 #[.pointer (some ⟨B, 0, none⟩), .float .f64 x] w fun e w' => e = .returned (.pointer (some ⟨B, 0, none⟩)) ∧ Sv w B (Fl.val x) (2 ^ c) 2200 e w' := by
  have e1 := field_u hx
  have hE : Fl.rg x / 4503599627370496 ≤ 2046 := by omega
  have e2 := low52 x hx
  have hm0 : x % 4503599627370496 < 4503599627370496 := Nat.mod_lt _ (by omega)
  have e3 := or52 (x % 4503599627370496) hm0
  have hs : ((x : Int) / 9223372036854775808 == 1) = Fl.sg x := by
    unfold Fl.sg
    rw [Bool.eq_iff_iff, beq_iff_eq, beq_iff_eq]; omega
  have HV : Hid _ := vl_parts x
  generalize Fl.rg x / 4503599627370496 = E at *
  generalize x % 4503599627370496 = m0 at *
  have hone : ∀ wz : World, Nm (wz.alloc (.cells #[.int .u32 1] 70)) (.slice (some ⟨wz.heap.size, 0, none⟩) 1 1) 1 := nm_ones
  have RS : Hid (∀ wz av dv N M, Fr w wz → Nm wz av N → Nm wz dv M → 0 < M → N.log2 < 2200 → M.log2 < 2200 → N * 2 ^ c = Fl.vl (Fl.rg x) * M → Calls Try.prog 46 #[.pointer (some ⟨B, 0, none⟩), .bool (Fl.sg x), av, dv] wz fun e w' => e = .returned (.pointer (some ⟨B, 0, none⟩)) ∧ Sv w B (Fl.val x) (2 ^ c) 2200 e w') := by
    intro wz av dv N M hz' ha hd hM l1 l2 ha2
    refine (rset_any B _ av dv N M s0 A0 D0 wz (hz.mono hz') ha hd hM (by omega) (by omega)).mono ?_
    intro e w' hsd
    have := (sd_sv (hz.mono hz') hsd (Fl.val x) (2 ^ c) 2200 hM (by rw [sv_val, ← sv_mul, ← sv_mul, ha2]) l1 l2).pre hz'
    exact ⟨this.1, this⟩
  rcases Nat.eq_zero_or_pos E with h0 | h0
  · subst h0
    have HX := HV.out m0 0 (Or.inl ⟨rfl, rfl, rfl⟩)
    have HCI : Hid ((1074 : Int) = (c : Int)) := by show _ = _; omega
    have hc2 : c < 1100 := by omega
    clear hc
    go_enter Try.func25, Try.ntmps25
    go_wp2_with fail
    refine (fromUint_any m0 _ (by omega)).mono ?_
    rintro e w1 ⟨av, rfl, hav, f1⟩
    have ho := hone w1
    have f2 := f1.alloc #[.int .u32 1] 70
    have hav2 := hav.mono ((Fr.refl w1).alloc #[.int .u32 1] 70)
    go_wp2_with fail
    generalize w1.alloc (.cells #[.int .u32 1] 70) = w2 at *
    rw [HCI.out]
    refine (up_words _ 1 c _ ho (by decide) (by omega)).mono ?_
    rintro e w3 ⟨dv, rfl, hdv, f3⟩
    go_wp2_with fail
    refine (RS.out _ _ _ _ _ (f2.trans f3) (hav2.mono f3) hdv (Nat.mul_pos (by omega) (Nat.pow_pos (by omega))) (by have := log2_shift m0 0 0 (by omega) (by omega); rw [Nat.pow_zero, Nat.mul_one] at this; omega) (by have := log2_shift 1 c c (by omega) (by omega); omega) (by rw [HX]; simp only [Nat.pow_zero, Nat.mul_one, Nat.one_mul])).mono ?_
    rintro e w4 ⟨rfl, hsv⟩
    go_wp2
    go_ret
    exact ⟨rfl, hsv⟩
  · have HX : Hid _ := HV.out (4503599627370496 + m0) (E - 1) (Or.inr ⟨h0, rfl, rfl⟩)
    have h0I : (0 : Int) < E := by omega
    have hM1 : 4503599627370496 + m0 < 9007199254740992 := by omega
    generalize 4503599627370496 + m0 = M1 at *
    by_cases hge : 1075 ≤ E
    · obtain ⟨n, hn⟩ : ∃ n : Nat, E = 1075 + n := ⟨E - 1075, by omega⟩
      have hn' : (E : Int) - 1075 = (n : Int) := by omega
      have HN : Hid (E = 1075 + n) := hn
      have hnb : n < 1000 := by omega
      clear hn
      have hgeI : (1075 : Int) ≤ E := by omega
      go_enter Try.func25, Try.ntmps25
      go_wp2_with fail
      refine (fromUint_any M1 _ (by omega)).mono ?_
      rintro e w1 ⟨av, rfl, hav, f1⟩
      have ho := hone w1
      have f2 := f1.alloc #[.int .u32 1] 70
      have hav2 := hav.mono ((Fr.refl w1).alloc #[.int .u32 1] 70)
      go_wp2_with fail
      generalize w1.alloc (.cells #[.int .u32 1] 70) = w2 at *
      try rw [hn']
      refine (up_words _ _ n _ hav2 (by have := log2_shift M1 0 0 (by omega) (by omega); rw [Nat.pow_zero, Nat.mul_one] at this; omega) (by omega)).mono ?_
      rintro e w3 ⟨dv, rfl, hdv, f3⟩
      go_wp2_with fail
      refine (RS.out _ _ _ _ _ (f2.trans f3) hdv (ho.mono f3) (by omega) (by have := log2_shift M1 n 1000 (by omega) (by omega); omega) (by decide) (by rw [HX.out, Nat.mul_one, Nat.mul_assoc, ← Nat.pow_add]; congr 2; have := HN.out; omega)).mono ?_
      rintro e w4 ⟨rfl, hsv⟩
      go_wp2
      go_ret
      exact ⟨rfl, hsv⟩
    · obtain ⟨n, hn⟩ : ∃ n : Nat, E + n = 1075 := ⟨1075 - E, by omega⟩
      have HN' : Hid ((1075 : Int) - E = (n : Int)) := by show _ = _; omega
      have HN : Hid (E + n = 1075) := hn
      have hnb : n ≤ 1075 := by omega
      clear hn
      have hgeI : ¬ (1075 : Int) ≤ E := by omega
      go_enter Try.func25, Try.ntmps25
      go_wp2_with fail
      refine (fromUint_any M1 _ (by omega)).mono ?_
      rintro e w1 ⟨av, rfl, hav, f1⟩
      have ho := hone w1
      have f2 := f1.alloc #[.int .u32 1] 70
      have hav2 := hav.mono ((Fr.refl w1).alloc #[.int .u32 1] 70)
      go_wp2_with fail
      generalize w1.alloc (.cells #[.int .u32 1] 70) = w2 at *
      rw [HN'.out]
      refine (up_words _ 1 n _ ho (by decide) (by omega)).mono ?_
      rintro e w3 ⟨dv, rfl, hdv, f3⟩
      obtain ⟨dn, hdn⟩ : ∃ dn, dn = 1 * 2 ^ n := ⟨_, rfl⟩
      rw [← hdn] at hdv
      have HDN : Hid (dn = 1 * 2 ^ n) := hdn
      clear hdn hgeI hge
      go_wp2_with fail
      refine (RS.out _ _ _ _ _ (f2.trans f3) (hav2.mono f3) hdv (by rw [HDN.out]; exact Nat.mul_pos (by omega) (Nat.pow_pos (by omega))) (by have := log2_shift M1 0 0 (by omega) (by omega); rw [Nat.pow_zero, Nat.mul_one] at this; omega) (by rw [HDN.out]; have := log2_shift 1 n 1075 (by omega) (by omega); omega) (by rw [HDN.out, HX.out, Nat.one_mul, Nat.mul_assoc, ← Nat.pow_add]; congr 2; have := HN.out; omega)).mono ?_
      rintro e w4 ⟨rfl, hsv⟩
      go_wp2
      go_ret
      exact ⟨rfl, hsv⟩
end Go.Proofs.Ytpfaaimfembhdaa
