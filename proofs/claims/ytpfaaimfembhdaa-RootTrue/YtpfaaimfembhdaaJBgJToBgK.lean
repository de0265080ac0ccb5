/-
  OWN TEXT: what figure of package eddybig returns and leaves: a figure of a quotient, and what is left.
-/
import Derived.Test.YtpfaaimfembhdaaJBgHToBgI
import Derived.Test.YtpfaaimfembhdaaJBgAToBgC
namespace Go.Proofs.Ytpfaaimfembhdaa
open Go.ChangeShapes Go.WideShapes Go.ChangeAt Go.RowKit
open Bg
set_option linter.unusedVariables false
theorem ow_at {w : World} {B j : Nat} {P s : List Nat} (h : Ow w B (P ++ s)) (hP : P.length = j) (i : Nat) (hi : i < s.length) : w.cell? ⟨B, j + i, none⟩ = some (.int .u32 (s.getD i 0 : Nat)) := by
  rw [← getD_app P s j i hP]
  exact h.2.1 (j + i) (by rw [List.length_append]; omega)
theorem ow_set {w : World} {B j : Nat} {P s : List Nat} (h : Ow w B (P ++ s)) (hP : P.length = j) (i x : Nat) (hi : i < s.length) : Ow (w.setCell ⟨B, j + i, none⟩ (.int .u32 (x : Nat))) B (P ++ s.set i x) := by
  rw [← set_app P s j i x hP]
  exact h.set (j + i) x (by rw [List.length_append]; omega)
/-- every block but one is as it was -/
structure Beside (B : Nat) (w w' : World) : Prop where
  os : w'.os = w.os
  tape : w'.tape = w.tape
  output : w'.output = w.output
  size : w'.heap.size = w.heap.size
  block : ∀ k, k ≠ B → w'.heap[k]? = w.heap[k]?
theorem Beside.cell {B : Nat} {w w' : World} (h : Beside B w w') {p : Addr} (hp : p.block ≠ B) : w'.cell? p = w.cell? p := World.cell?_of_block (w := w) (h.block p.block hp)
def Fb (B : Nat) (w w' : World) : Prop := Beside B w w' ∧ ∀ a, w'.frozen? a = w.frozen? a
theorem Fb.refl (B : Nat) (w : World) : Fb B w w := ⟨⟨rfl, rfl, rfl, rfl, fun _ _ => rfl⟩, fun _ => rfl⟩
theorem Fb.setCell {B : Nat} {a b : World} (h : Fb B a b) {p : Addr} (hp : p.block = B) (v : Value) : Fb B a (b.setCell p v) :=
  ⟨⟨h.1.os, h.1.tape, h.1.output, (by simp [World.setCell]; exact h.1.size), fun k hk => (Below.heap_setCell _ _ _ _ (by rw [hp]; exact hk)).trans (h.1.block k hk)⟩, fun x => (World.frozen?_setCell _ _ _ _).trans (h.2 x)⟩
theorem quiet_fb {B : Nat} {a b : World} (h : Fb B a b) (n : Nat) : Fb B a (b.drewN n) := ⟨⟨h.1.os, h.1.tape, h.1.output, h.1.size, h.1.block⟩, h.2⟩
theorem Fb.fr {B : Nat} {w w1 w2 : World} (h : Fb B w1 w2) (k : Fr w w1) (hB : w.heap.size ≤ B) : Fr w w2 :=
  ⟨⟨h.1.os.trans k.1.os, h.1.tape.trans k.1.tape, h.1.output.trans k.1.output, by rw [h.1.size]; exact k.1.size, fun i hi => (h.1.block i (by omega)).trans (k.1.block i hi)⟩, fun a => (h.2 a).trans (k.2 a)⟩
theorem Fb.ow {B C : Nat} {w w' : World} {o : List Nat} (h : Fb B w w') (hC : C ≠ B) (k : Ow w C o) : Ow w' C o :=
  ⟨by rw [h.1.size]; exact k.1, fun i hi => (h.1.cell (p := ⟨C, i, none⟩) hC).trans (k.2.1 i hi), fun i => (h.2 _).trans (k.2.2 i)⟩
/-- what holds of a guess and what it leaves, round by round -/
def GB (g r top U V num : Nat) : Prop := r < 4294967296 ∧ g ≤ 4294967297 ∧ U < (g + 1) * V ∧ (g = 4294967297 → r + top < 4294967296) ∧ g * top + r = num
set_option maxHeartbeats 8000000 in
set_option maxRecDepth 100000 in
theorem figure_core (B j k cu cv b of : Nat) (P s m : List Nat) (w0 w : World) (hP : P.length = j) (hs : k + 3 ≤ s.length) (hm : m.length = k + 2) (hk : k ≤ 1000000) (hj : j ≤ 3000000) (hcu : k + 3 ≤ cu) (hcu2 : cu ≤ 1099511627776) (hcv : k + 2 ≤ cv) (hcv2 : cv ≤ 1099511627776)
    (hds : Dg s) (hdm : Dg m) (hcell : ∀ i, i < k + 2 → w0.cell? ⟨b, of + i, none⟩ = some (.int .u32 (m.getD i 0 : Nat))) (hb : b ≠ B) (hf : Fb B w0 w) (how : Ow w B (P ++ s))
    (htop : 2147483648 ≤ m.getD (k + 1) 0) (hU : vL (s.take (k + 3)) < vL m * 4294967296) :
    Calls Try.prog 81 #[.slice (some ⟨B, j, none⟩) (k + 3) cu, .slice (some ⟨b, of, none⟩) (k + 2) cv] w fun e w' => ∃ s', e = .returned (.int .u32 ((vL (s.take (k + 3)) / vL m : Nat) : Int)) ∧ s'.length = s.length ∧ Dg s' ∧ vL (s'.take (k + 3)) = vL (s.take (k + 3)) % vL m ∧ (∀ i, k + 3 ≤ i → s'.getD i 0 = s.getD i 0) ∧ Ow w' B (P ++ s') ∧ Fb B w0 w' := by
  have hV3 := vL_two m (k + 2) (by omega)
  have hU3 := vL_three s (k + 2) (by omega)
  rw [show k + 2 - 2 = k by omega, show k + 2 - 1 = k + 1 by omega] at hV3 hU3
  rw [List.take_of_length_le (l := m) (by omega)] at hV3
  rw [show k + 2 + 1 = k + 3 by omega] at hU3
  have lowV := vL_lt (m.take k) (Dg_take hdm k)
  rw [List.length_take, Nat.min_eq_left (by omega)] at lowV
  have lowU := vL_lt (s.take k) (Dg_take hds k)
  rw [List.length_take, Nat.min_eq_left (by omega)] at lowU
  have c1 : w.cell? ⟨b, of + (k + 1), none⟩ = some (.int .u32 (m.getD (k + 1) 0 : Nat)) := (hf.1.cell (p := ⟨b, of + (k + 1), none⟩) hb).trans (hcell (k + 1) (by omega))
  have c3 := ow_at how hP (k + 2) (by omega)
  have c4 := ow_at how hP (k + 1) (by omega)
  have x1 := hdm (k + 1)
  have x2 := hdm k
  have x3 := hds (k + 2)
  have x4 := hds (k + 1)
  have x5 := hds k
  have hst := guess_start (vL (s.take (k + 3))) (vL m) (m.getD (k + 1) 0) (m.getD k 0) (s.getD (k + 2) 0) (s.getD (k + 1) 0) (s.getD k 0) (4294967296 ^ k) (vL (m.take k)) (by rw [hV3]; omega) lowV (by rw [hU3]; omega) (by rw [hU3, Nat.add_mul _ 1, Nat.one_mul]; omega) hU htop x2 x4 x5
  have hlowL : ∀ g rest, g * m.getD (k + 1) 0 + rest = s.getD (k + 2) 0 * 4294967296 + s.getD (k + 1) 0 → rest * 4294967296 + s.getD k 0 < g * m.getD k 0 → vL (s.take (k + 3)) < g * vL m := fun g rest e h => guess_low _ _ (m.getD (k + 1) 0) (m.getD k 0) (s.getD k 0) (s.getD (k + 2) 0 * 4294967296 + s.getD (k + 1) 0) (4294967296 ^ k) g rest (by rw [hV3]; omega) (by rw [hU3, Nat.add_mul _ 1, Nat.one_mul]; omega) e h
  have hhighL : ∀ g rest, g * m.getD (k + 1) 0 + rest = s.getD (k + 2) 0 * 4294967296 + s.getD (k + 1) 0 → g ≤ 4294967295 → g * m.getD k 0 ≤ rest * 4294967296 + s.getD k 0 → g * vL m < vL (s.take (k + 3)) + vL m := fun g rest e hg h => guess_high _ _ (m.getD (k + 1) 0) (m.getD k 0) (s.getD k 0) (s.getD (k + 2) 0 * 4294967296 + s.getD (k + 1) 0) (4294967296 ^ k) g rest (vL (m.take k)) (by rw [hV3]; omega) lowV (by rw [hU3]; omega) e hg (by omega) h
  have hUs := vL_take_succ' s (k + 2)
  have c6 : ∀ nq, (w.drewN nq).cell? ⟨B, j + k, none⟩ = some (.int .u32 (s.getD k 0 : Nat)) := fun nq => ow_at how hP k (by omega)
  have c2 : w.cell? ⟨b, of + k, none⟩ = some (.int .u32 (m.getD k 0 : Nat)) := (hf.1.cell (p := ⟨b, of + k, none⟩) hb).trans (hcell k (by omega))
  have HST : Hid _ := hst
  have HLO : Hid _ := hlowL
  have HHI : Hid _ := hhighL
  have HUS : Hid _ := hUs
  clear hst hlowL hhighL hUs hV3 hU3 lowV lowU c6
  have eN := or32 (s.getD (k + 1) 0) (s.getD (k + 2) 0) x4 x3
  have HC : Hid _ := c2
  clear c2
  generalize hQ : vL (s.take (k + 3)) = U at *
  have HQ : Hid (vL (s.take (k + 3)) = U) := hQ
  clear hQ
  generalize hT : m.getD (k + 1) 0 = top at *
  have HT : Hid (m.getD (k + 1) 0 = top) := hT
  generalize hV2 : m.getD k 0 = v2 at *
  have HV2 : Hid (m.getD k 0 = v2) := hV2
  generalize hun : s.getD (k + 2) 0 = un at *
  have HUN : Hid (s.getD (k + 2) 0 = un) := hun
  generalize hun1 : s.getD (k + 1) 0 = un1 at *
  generalize hu2 : s.getD k 0 = u2 at *
  have HU2 : Hid (s.getD k 0 = u2) := hu2
  clear hT hV2 hun hun1 hu2
  have t0 : ((top : Int) == 0) = false := beq_eq_false_iff_ne.2 (by omega)
  rw [show un1 + 4294967296 * un = un * 4294967296 + un1 by omega] at eN
  have eN2 : un * 4294967296 + un1 < 18446744073709551616 := by omega
  generalize hnum : un * 4294967296 + un1 = num at *
  clear hnum
  have eG : IntKind.u64.wrap ((num : Int) / top) = ((num / top : Nat) : Int) := by
    have h1 : num / top ≤ num := Nat.div_le_self _ _
    rw [show (num : Int) / top = ((num / top : Nat) : Int) by simp]
    generalize num / top = q at h1 ⊢
    rw [IntKind.wrap_u64]; omega
  have eR : (num : Int) % top = ((num % top : Nat) : Int) := by simp
  have hrt : num % top < top := Nat.mod_lt _ (by omega)
  generalize hg0 : num / top = g0 at *
  generalize hr0 : num % top = r0 at *
  clear hg0 hr0
  go_enter Try.func81, Try.ntmps81
  go_wp2
  go_quiet (fail)
  go_wp2
  have hwq : Ow (w.drewN nq) B (P ++ s) := how
  have hfq : Fb B w0 (w.drewN nq) := quiet_fb hf nq
  have HR : Hid ((num : Int) % top = ((r0 : Nat) : Int)) := eR
  clear c1 c3 c4 eN eG eR HC how hf
  generalize w.drewN nq = wq at *
  go_loopw [8, 9] (fun gv rv wr => ∃ g r : Nat, gv = .int .u64 g ∧ rv = .int .u64 r ∧ Ow wr B (P ++ s) ∧ Fb B w0 wr ∧ GB g r top U (vL m) num) (fun gv _ _ => (intOf gv).toNat)
  case atStart => exact ⟨g0, r0, rfl, congrArg (Value.int .u64) HR.out, hwq, hfq, (by omega), HST.out.2.1, HST.out.1, HST.out.2.2.1, HST.out.2.2.2⟩
  case round =>
    obtain ⟨g, r, rfl, rfl, hwr, hfr, hr, hg, hG, hB, hE⟩ := hrel
    have HG : Hid (U < (g + 1) * vL m) := hG
    have HB : Hid (g = 4294967297 → r + top < 4294967296) := hB
    have HE : Hid (g * top + r = num) := hE
    clear hG hB hE
    have c1 : wr.cell? ⟨b, of + k, none⟩ = some (.int .u32 (v2 : Nat)) := by
      have := (hfr.1.cell (p := ⟨b, of + k, none⟩) hb).trans (hcell k (by omega))
      rw [HV2.out] at this; exact this
    have c2 : wr.cell? ⟨B, j + k, none⟩ = some (.int .u32 (u2 : Nat)) := by
      have := ow_at hwr hP k (by omega)
      rw [HU2.out] at this; exact this
    have eO := or32 u2 r x5 hr
    rw [show u2 + 4294967296 * r = r * 4294967296 + u2 by omega] at eO
    have ro : r * 4294967296 + u2 < 18446744073709551616 := by omega
    by_cases b1 : 4294967296 ≤ g
    · obtain ⟨f, hfg⟩ : ∃ f, g = f + 1 := ⟨g - 1, by omega⟩
      have HFG : Hid (g = f + 1) := hfg
      have eF : (g : Int) - 1 = ((f : Nat) : Int) := by omega
      have HG1 : Hid (U < (f + 1) * vL m) := by
        show U < (f + 1) * vL m
        have : 4294967296 * vL m ≤ (f + 1) * vL m := Nat.mul_le_mul_right _ (by omega)
        rw [Nat.mul_comm] at this
        omega
      have HE1 : Hid (f * top + (r + top) = num) := by
        show f * top + (r + top) = num
        have h := HE.out
        rw [hfg, Nat.add_mul f 1, Nat.one_mul] at h
        omega
      have b1' : (4294967296 : Int) ≤ (g : Int) := by omega
      by_cases b2 : 4294967296 ≤ r + top
      · have b2' : (4294967296 : Int) ≤ (r : Int) + top := by omega
        have hg1 : f ≤ 4294967295 := by
          have := HB.out
          by_cases z : g = 4294967297
          · have := this z; omega
          · omega
        have HH : Hid (f * vL m < U + vL m) := HHI.out f (r + top) HE1.out hg1 (by
          have h1 := mul_top f v2 (by omega) x2
          omega)
        clear HE HB HG c1 c2 eO ro hfg b1
        go_wp2
        go_quiet (fail)
        go_wp2
        have hwt : Ow (wr.drewN nq) B (P ++ s) := hwr
        have hft : Fb B w0 (wr.drewN nq) := quiet_fb hfr nq
        clear hwr hfr
        go_loopw [10, 11, 12] (fun cv' bv iv wr => ∃ i c bo : Nat, ∃ s' : List Nat, i ≤ k + 2 ∧ iv = .int .i64 i ∧ cv' = .int .u64 c ∧ bv = .int .u64 bo ∧ c ≤ 4294967295 ∧ bo ≤ 1 ∧ Hid (s'.length = s.length) ∧ Dg s' ∧ Ow wr B (P ++ s') ∧ Fb B w0 wr ∧ Hid (∀ t, i ≤ t → s'.getD t 0 = s.getD t 0) ∧ Hid (vL (s'.take i) + f * vL (m.take i) = vL (s.take i) + (c + bo) * 4294967296 ^ i)) (fun _ _ iv _ => k + 2 - (intOf iv).toNat)
        case atStart => exact ⟨0, 0, 0, s, Nat.zero_le _, rfl, rfl, rfl, by omega, by omega, rfl, hds, hwt, hft, fun t _ => rfl, by show _ = _; simp [vL]⟩
        case round =>
          obtain ⟨i, c, bo, s', hi, rfl, rfl, rfl, hc, hbo, HL, hds', hws, hfs, HZ, HI⟩ := hrel
          by_cases hlt : i < k + 2
          · have d1 : wr.cell? ⟨b, of + i, none⟩ = some (.int .u32 (m.getD i 0 : Nat)) := (hfs.1.cell (p := ⟨b, of + i, none⟩) hb).trans (hcell i hlt)
            have d2 := ow_at hws hP i (by have := HL.out; omega)
            have d3 := hws.2.2 (j + i)
            have HZi : Hid (s'.getD i 0 = s.getD i 0) := HZ.out i (Nat.le_refl _)
            rw [HZi.out] at d2
            have y1 := hdm i
            have y2 := hds i
            have HS : Hid (∀ d b' c', d + (f * m.getD i 0 + c) % 4294967296 + bo = s.getD i 0 + b' * 4294967296 → c' = (f * m.getD i 0 + c) / 4294967296 → vL ((s'.set i d).take (i + 1)) + f * vL (m.take (i + 1)) = vL (s.take (i + 1)) + (c' + b') * 4294967296 ^ (i + 1)) := fun d b' c' h1 h2 => take_step s s' m i f c bo c' b' d _ (by have := HL.out; omega) rfl HI.out h1 h2
            have HZ' : Hid (∀ d t, i + 1 ≤ t → (s'.set i d).getD t 0 = s.getD t 0) := fun d => take_drop_eq s s' i d HZ.out (by have := HL.out; omega)
            generalize m.getD i 0 = y at *
            generalize s.getD i 0 = u at *
            have t1 := mul_top f y (by omega) y1
            have t2 : (f : Int) * y = ((f * y : Nat) : Int) := by simp
            have t3 : (0 : Int) ≤ (f : Int) * y := by rw [t2]; omega
            have t4 : (f : Int) * y ≤ 18446744065119617025 := by rw [t2]; omega
            have T2 : Hid ((f : Int) * y = ((f * y : Nat) : Int)) := t2
            obtain ⟨pp, hpp⟩ : ∃ pp : Nat, (f : Int) * y + c = pp := ⟨f * y + c, by rw [t2]; omega⟩
            have HP : Hid (pp = f * y + c) := by show pp = f * y + c; rw [t2] at hpp; omega
            have hppb : pp < 18446744073709551616 := by rw [t2] at hpp; omega
            have eA := and_low32 (pp : Int) (by omega) (by omega)
            obtain ⟨q1, e1, f1⟩ : ∃ q1 : Nat, IntKind.u64.wrap ((u : Int) - (pp : Int) % 4294967296) = q1 ∧ q1 = (u + 18446744073709551616 - pp % 4294967296) % 18446744073709551616 := ⟨_, by rw [IntKind.wrap_u64]; omega, rfl⟩
            obtain ⟨q2, e2, f2⟩ : ∃ q2 : Nat, IntKind.u64.wrap ((q1 : Int) - bo) = q2 ∧ q2 = (q1 + 18446744073709551616 - bo) % 18446744073709551616 := ⟨_, by rw [IntKind.wrap_u64]; omega, rfl⟩
            have F : Hid (q2 % 4294967296 + pp % 4294967296 + bo = u + q2 / 9223372036854775808 * 4294967296) := by show _ = _; omega
            have q2b : q2 < 18446744073709551616 := by omega
            have q2c : q2 / 9223372036854775808 ≤ 1 := by omega
            clear t2 f1 f2 HZ HI
            have hltI : (i : Int) < (k : Int) + 2 := by omega
            go_wp2
            have e3 : (q2 : Int) % 4294967296 = ((q2 % 4294967296 : Nat) : Int) := by omega
            rw [e3]
            refine ⟨⟨i + 1, pp / 4294967296, q2 / 9223372036854775808, s'.set i (q2 % 4294967296), by omega, by go_num, congrArg _ (by omega), congrArg _ (by omega), ?_, q2c, by show _ = _; rw [List.length_set]; exact HL.out, Dg_set hds' _ _ (by omega), ow_set hws hP i _ (by have := HL.out; omega), hfs.setCell rfl _, HZ'.out _, HS.out _ _ _ (by rw [← HP.out]; exact F.out) (by rw [← HP.out])⟩, by simp [intOf]; omega⟩
            have := HP.out
            generalize f * y = fy at *
            omega
          · have hin : i = k + 2 := by omega
            subst hin
            have d2 := ow_at hws hP (k + 2) (by have := HL.out; omega)
            have d3 := hws.2.2 (j + (k + 2))
            have HZi := HZ.out (k + 2) (Nat.le_refl _)
            rw [HZi, HUN.out] at d2
            clear HZi
            have hltI : ¬ ((k + 2 : Nat) : Int) < (k : Int) + 2 := by omega
            obtain ⟨q1, e1, f1⟩ : ∃ q1 : Nat, IntKind.u64.wrap ((un : Int) - c) = q1 ∧ q1 = (un + 18446744073709551616 - c) % 18446744073709551616 := ⟨_, by rw [IntKind.wrap_u64]; omega, rfl⟩
            obtain ⟨q2, e2, f2⟩ : ∃ q2 : Nat, IntKind.u64.wrap ((q1 : Int) - bo) = q2 ∧ q2 = (q1 + 18446744073709551616 - bo) % 18446744073709551616 := ⟨_, by rw [IntKind.wrap_u64]; omega, rfl⟩
            have HF : Hid (q2 = (un + 18446744073709551616 + 18446744073709551616 - c - bo) % 18446744073709551616) := by show _ = _; omega
            have q2b : q2 < 18446744073709551616 := by omega
            have HIm := HI.out
            rw [List.take_of_length_le (l := m) (by omega)] at HIm
            have HI2 : Hid (vL (s'.take (k + 2)) + f * vL m = vL (s.take (k + 2)) + (c + bo) * 4294967296 ^ (k + 2)) := HIm
            clear f1 f2 HIm
            by_cases ng : c + bo ≤ un
            · have e4 : ((q2 : Int) / 9223372036854775808 == 0) = true := by rw [beq_iff_eq]; have := HF.out; omega
              have HFIN := fig_plain U (vL m) f (vL (s'.take (k + 2))) un c bo (4294967296 ^ (k + 2)) q2 (vL (s.take (k + 2))) HI2.out HUS.out (by have := HF.out; omega) HG1.out
              have HFI : Hid _ := HFIN
              clear HFIN
              go_wp2
              go_ret
              have e3 : (q2 : Int) % 4294967296 = ((q2 : Nat) : Int) := by have := HF.out; omega
              rw [e3]
              refine ⟨?_, s'.set (k + 2) q2, by rw [List.length_set]; exact HL.out, Dg_set hds' _ _ (by have := HF.out; omega), ?_, ?_, ow_set hws hP (k + 2) _ (by have := HL.out; omega), hfs.setCell rfl _⟩
              · refine ri' ?_
                have hq := HFI.out.2
                show (f : Int) = (U : Int) / ((vL m : Nat) : Int)
                rw [← Int.natCast_ediv, ← hq]
              · rw [show k + 3 = (k + 2) + 1 by omega, take_set_succ _ _ _ (by have := HL.out; omega)]; exact HFI.out.1
              · exact take_drop_eq s s' (k + 2) q2 HZ.out (by have := HL.out; omega)
            · have e4 : ((q2 : Int) / 9223372036854775808 == 0) = false := beq_eq_false_iff_ne.2 (by have := HF.out; omega)
              have hq2 : q2 % 4294967296 + c + bo = un + 4294967296 := by have := HF.out; omega
              have HQ2 : Hid (q2 % 4294967296 + c + bo = un + 4294967296) := hq2
              clear hq2
              go_wp2
              have e3 : (q2 : Int) % 4294967296 = ((q2 % 4294967296 : Nat) : Int) := by omega
              rw [e3]
              have hwz := ow_set hws hP (k + 2) (q2 % 4294967296) (by have := HL.out; omega)
              have hfz := hfs.setCell rfl (p := ⟨B, j + (k + 2), none⟩) (.int .u32 ((q2 % 4294967296 : Nat) : Int))
              have HLz : Hid ((s'.set (k + 2) (q2 % 4294967296)).length = s.length) := by show _ = _; rw [List.length_set]; exact HL.out
              have hdz : Dg (s'.set (k + 2) (q2 % 4294967296)) := Dg_set hds' _ _ (by omega)
              have HTz : Hid ((s'.set (k + 2) (q2 % 4294967296)).take (k + 2) = s'.take (k + 2)) := set_take_lt _ _ _ _ (Nat.le_refl _)
              have HDz : Hid ((s'.set (k + 2) (q2 % 4294967296)).getD (k + 2) 0 = q2 % 4294967296) := by show _ = _; rw [getD_set _ _ _ _ (by have := HL.out; omega), if_pos rfl]
              have HZz : Hid (∀ t, k + 2 + 1 ≤ t → (s'.set (k + 2) (q2 % 4294967296)).getD t 0 = s.getD t 0) := take_drop_eq s s' (k + 2) _ HZ.out (by have := HL.out; omega)
              generalize s'.set (k + 2) (q2 % 4294967296) = z at *
              generalize wr.setCell ⟨B, j + (k + 2), none⟩ (.int .u32 ((q2 % 4294967296 : Nat) : Int)) = wz at *
              clear e3 e4 d2 d3
              go_loopw [16, 17] (fun cv3 iv wr => ∃ i c3 : Nat, ∃ s3 : List Nat, i ≤ k + 2 ∧ iv = .int .i64 i ∧ cv3 = .int .u64 c3 ∧ c3 ≤ 1 ∧ Hid (s3.length = s.length) ∧ Dg s3 ∧ Ow wr B (P ++ s3) ∧ Fb B w0 wr ∧ Hid (∀ t, i ≤ t → s3.getD t 0 = z.getD t 0) ∧ Hid (vL (s3.take i) + c3 * 4294967296 ^ i = vL (z.take i) + vL (m.take i))) (fun _ iv _ => k + 2 - (intOf iv).toNat)
              case atStart => exact ⟨0, 0, z, Nat.zero_le _, rfl, rfl, by omega, HLz.out, hdz, hwz, hfz, fun t _ => rfl, by show _ = _; simp [vL]⟩
              case round =>
                obtain ⟨i, c3, s3, hi3, rfl, rfl, hc3, HL3, hd3, hw3, hf3, HZ3, HI3⟩ := hrel
                by_cases hlt3 : i < k + 2
                · have d1 : wr.cell? ⟨b, of + i, none⟩ = some (.int .u32 (m.getD i 0 : Nat)) := (hf3.1.cell (p := ⟨b, of + i, none⟩) hb).trans (hcell i hlt3)
                  have d2 := ow_at hw3 hP i (by have := HL3.out; omega)
                  have d3 := hw3.2.2 (j + i)
                  rw [HZ3.out i (Nat.le_refl _)] at d2
                  have y1 := hdm i
                  have y2 := hdz i
                  have HS : Hid (vL ((s3.set i ((z.getD i 0 + c3 + m.getD i 0) % 4294967296)).take (i + 1)) + (z.getD i 0 + c3 + m.getD i 0) / 4294967296 * 4294967296 ^ (i + 1) = vL (z.take (i + 1)) + vL (m.take (i + 1))) := add_step z m s3 i c3 _ (by have := HL3.out; omega) HI3.out rfl
                  have HZ' : Hid (∀ d t, i + 1 ≤ t → (s3.set i d).getD t 0 = z.getD t 0) := fun d => take_drop_eq z s3 i d HZ3.out (by have := HL3.out; omega)
                  generalize m.getD i 0 = y at *
                  generalize z.getD i 0 = u at *
                  have hltI : (i : Int) < (k : Int) + 2 := by omega
                  have hltJ : (i : Int) < (k : Int) + 3 := by omega
                  clear HZ3 HI3
                  go_wp2
                  go_quiet (fail)
                  go_wp2
                  have e1 : ((u : Int) + y + c3) % 4294967296 = (((u + c3 + y) % 4294967296 : Nat) : Int) := by omega
                  have e2 : ((u : Int) + y + c3) / 4294967296 = (((u + c3 + y) / 4294967296 : Nat) : Int) := by omega
                  rw [e1, e2]
                  exact ⟨⟨i + 1, (u + c3 + y) / 4294967296, s3.set i ((u + c3 + y) % 4294967296), by omega, by go_num, rfl, by omega, by show _ = _; rw [List.length_set]; exact HL3.out, Dg_set hd3 _ _ (by omega), ow_set (w := wr.drewN nq) hw3 hP i _ (by have := HL3.out; omega), (quiet_fb hf3 nq).setCell rfl _, HZ'.out _, HS.out⟩, by simp [intOf]; omega⟩
                · have hin3 : i = k + 2 := by omega
                  subst hin3
                  have d2 := ow_at hw3 hP (k + 2) (by have := HL3.out; omega)
                  have d3 := hw3.2.2 (j + (k + 2))
                  rw [HZ3.out (k + 2) (Nat.le_refl _), HDz.out] at d2
                  have hltI : ¬ ((k + 2 : Nat) : Int) < (k : Int) + 2 := by omega
                  have a1 := vL_lt (s3.take (k + 2)) (Dg_take hd3 _)
                  rw [List.length_take, Nat.min_eq_left (by have := HL3.out; omega)] at a1
                  have a2 := vL_lt (s'.take (k + 2)) (Dg_take hds' _)
                  rw [List.length_take, Nat.min_eq_left (by have := HL.out; omega)] at a2
                  have a3 := vL_lt (s.take (k + 2)) (Dg_take hds _)
                  rw [List.length_take, Nat.min_eq_left (by omega)] at a3
                  have HIm3 := HI3.out
                  rw [List.take_of_length_le (l := m) (by omega), HTz.out] at HIm3
                  have HFIN := fig_back U (vL m) f (vL (s'.take (k + 2))) un c bo (4294967296 ^ (k + 2)) (q2 % 4294967296) (vL (s.take (k + 2))) c3 (vL (s3.take (k + 2))) HI2.out HUS.out HQ2.out HG1.out HH.out HIm3 a1 a2 (by omega) hc3 (by omega) a3
                  have HFI : Hid _ := HFIN
                  have hf1 : 1 ≤ f := by rw [HFIN.2]; exact Nat.le_add_left 1 _
                  have HFQ : Hid (f = U / vL m + 1) := HFIN.2
                  clear HFIN HIm3 a1 a2 a3
                  generalize hqd : q2 % 4294967296 = qd at *
                  have hqb : qd < 4294967296 := by omega
                  clear hqd
                  go_wp2
                  go_ret
                  have e3 : ((qd : Int) + c3) % 4294967296 = (((qd + c3) % 4294967296 : Nat) : Int) := by omega
                  rw [e3]
                  refine ⟨?_, s3.set (k + 2) ((qd + c3) % 4294967296), by rw [List.length_set]; exact HL3.out, Dg_set hd3 _ _ (by omega), ?_, ?_, ow_set hw3 hP (k + 2) _ (by have := HL3.out; omega), hf3.setCell rfl _⟩
                  · refine ri' ?_
                    have hq := HFQ.out
                    show (f : Int) - 1 = (U : Int) / ((vL m : Nat) : Int)
                    rw [← Int.natCast_ediv]
                    omega
                  · rw [show k + 3 = (k + 2) + 1 by omega, take_set_succ _ _ _ (by have := HL3.out; omega)]; exact HFI.out.1
                  · intro t ht
                    show (s3.set (k + 2) ((qd + c3) % 4294967296)).getD t 0 = s.getD t 0
                    rw [take_drop_eq z s3 (k + 2) _ HZ3.out (by have := HL3.out; omega) t (by omega)]
                    exact HZz.out t (by omega)
      · obtain ⟨rt, ert⟩ : ∃ rt : Nat, (r : Int) + top = rt := ⟨r + top, by omega⟩
        have HRT : Hid (rt = r + top) := by show rt = r + top; omega
        have b2' : ¬ (4294967296 : Int) ≤ (rt : Int) := by omega
        have b2d : decide ((4294967296 : Int) ≤ (rt : Int)) = false := decide_eq_false b2'
        have hfb : f ≤ 4294967296 := by have := HFG.out; omega
        clear HE HB HG c1 c2 eO ro hfg b1 b2
        go_wp2
        go_quiet (fail)
        go_wp2
        go_roundw
        case rel => first | exact ⟨f, rt, rfl, rfl, hwr, quiet_fb hfr _, (by omega), (by omega), HG1.out, (fun h => absurd h (by omega)), by rw [HRT.out]; exact HE1.out⟩ | ((repeat apply Exists.intro); exact ⟨⟨f, rt, rfl, rfl, hwr, quiet_fb hfr _, (by omega), (by omega), HG1.out, (fun h => absurd h (by omega)), by rw [HRT.out]; exact HE1.out⟩, rfl⟩)
        case measure => simp [intOf]; have := HFG.out; omega
    · have b1d : decide ((4294967296 : Int) ≤ (g : Int)) = false := decide_eq_false (by omega)
      generalize hru : r * 4294967296 + u2 = ru at *
      have HRU : Hid (r * 4294967296 + u2 = ru) := hru
      clear hru
      have t1 := mul_top g v2 (by omega) x2
      have t2 : (g : Int) * v2 = ((g * v2 : Nat) : Int) := by simp
      have t3 : (0 : Int) ≤ (g : Int) * v2 := by rw [t2]; omega
      have t4 : (g : Int) * v2 ≤ 18446744065119617025 := by rw [t2]; omega
      by_cases b3 : ru < g * v2
      · have b3' : (ru : Int) < (g : Int) * v2 := by rw [t2]; omega
        have hg1 : 1 ≤ g := by
          cases g with
          | zero => simp at b3
          | succ g => omega
        obtain ⟨f, hfg⟩ : ∃ f, g = f + 1 := ⟨g - 1, by omega⟩
        have HFG : Hid (g = f + 1) := hfg
        have eF : (g : Int) - 1 = ((f : Nat) : Int) := by omega
        have HG1 : Hid (U < (f + 1) * vL m) := by
          show U < (f + 1) * vL m
          rw [← hfg]; exact HLO.out g r HE.out (by rw [HRU.out]; exact b3)
        have HE1 : Hid (f * top + (r + top) = num) := by
          show f * top + (r + top) = num
          have h := HE.out
          rw [hfg, Nat.add_mul f 1, Nat.one_mul] at h
          omega
        have hg2 : f ≤ 4294967295 := by omega
        by_cases b2 : 4294967296 ≤ r + top
        · have b2' : (4294967296 : Int) ≤ (r : Int) + top := by omega
          have HH : Hid (f * vL m < U + vL m) := HHI.out f (r + top) HE1.out hg2 (by
            have h1 := mul_top f v2 (by omega) x2
            omega)
          clear HE HB HG hfg b1 t1 t2 b3
          go_wp2
          go_quiet (fail)
          go_wp2
          clear c1 c2 eO ro t3 t4
          have hwt : Ow (wr.drewN nq) B (P ++ s) := hwr
          have hft : Fb B w0 (wr.drewN nq) := quiet_fb hfr nq
          clear hwr hfr
          go_loopw [10, 11, 12] (fun cv' bv iv wr => ∃ i c bo : Nat, ∃ s' : List Nat, i ≤ k + 2 ∧ iv = .int .i64 i ∧ cv' = .int .u64 c ∧ bv = .int .u64 bo ∧ c ≤ 4294967295 ∧ bo ≤ 1 ∧ Hid (s'.length = s.length) ∧ Dg s' ∧ Ow wr B (P ++ s') ∧ Fb B w0 wr ∧ Hid (∀ t, i ≤ t → s'.getD t 0 = s.getD t 0) ∧ Hid (vL (s'.take i) + f * vL (m.take i) = vL (s.take i) + (c + bo) * 4294967296 ^ i)) (fun _ _ iv _ => k + 2 - (intOf iv).toNat)
          case atStart => exact ⟨0, 0, 0, s, Nat.zero_le _, rfl, rfl, rfl, by omega, by omega, rfl, hds, hwt, hft, fun t _ => rfl, by show _ = _; simp [vL]⟩
          case round =>
            obtain ⟨i, c, bo, s', hi, rfl, rfl, rfl, hc, hbo, HL, hds', hws, hfs, HZ, HI⟩ := hrel
            by_cases hlt : i < k + 2
            · have d1 : wr.cell? ⟨b, of + i, none⟩ = some (.int .u32 (m.getD i 0 : Nat)) := (hfs.1.cell (p := ⟨b, of + i, none⟩) hb).trans (hcell i hlt)
              have d2 := ow_at hws hP i (by have := HL.out; omega)
              have d3 := hws.2.2 (j + i)
              have HZi : Hid (s'.getD i 0 = s.getD i 0) := HZ.out i (Nat.le_refl _)
              rw [HZi.out] at d2
              have y1 := hdm i
              have y2 := hds i
              have HS : Hid (∀ d b' c', d + (f * m.getD i 0 + c) % 4294967296 + bo = s.getD i 0 + b' * 4294967296 → c' = (f * m.getD i 0 + c) / 4294967296 → vL ((s'.set i d).take (i + 1)) + f * vL (m.take (i + 1)) = vL (s.take (i + 1)) + (c' + b') * 4294967296 ^ (i + 1)) := fun d b' c' h1 h2 => take_step s s' m i f c bo c' b' d _ (by have := HL.out; omega) rfl HI.out h1 h2
              have HZ' : Hid (∀ d t, i + 1 ≤ t → (s'.set i d).getD t 0 = s.getD t 0) := fun d => take_drop_eq s s' i d HZ.out (by have := HL.out; omega)
              generalize m.getD i 0 = y at *
              generalize s.getD i 0 = u at *
              have t1 := mul_top f y (by omega) y1
              have t2 : (f : Int) * y = ((f * y : Nat) : Int) := by simp
              have t3 : (0 : Int) ≤ (f : Int) * y := by rw [t2]; omega
              have t4 : (f : Int) * y ≤ 18446744065119617025 := by rw [t2]; omega
              have T2 : Hid ((f : Int) * y = ((f * y : Nat) : Int)) := t2
              obtain ⟨pp, hpp⟩ : ∃ pp : Nat, (f : Int) * y + c = pp := ⟨f * y + c, by rw [t2]; omega⟩
              have HP : Hid (pp = f * y + c) := by show pp = f * y + c; rw [t2] at hpp; omega
              have hppb : pp < 18446744073709551616 := by rw [t2] at hpp; omega
              have eA := and_low32 (pp : Int) (by omega) (by omega)
              obtain ⟨q1, e1, f1⟩ : ∃ q1 : Nat, IntKind.u64.wrap ((u : Int) - (pp : Int) % 4294967296) = q1 ∧ q1 = (u + 18446744073709551616 - pp % 4294967296) % 18446744073709551616 := ⟨_, by rw [IntKind.wrap_u64]; omega, rfl⟩
              obtain ⟨q2, e2, f2⟩ : ∃ q2 : Nat, IntKind.u64.wrap ((q1 : Int) - bo) = q2 ∧ q2 = (q1 + 18446744073709551616 - bo) % 18446744073709551616 := ⟨_, by rw [IntKind.wrap_u64]; omega, rfl⟩
              have F : Hid (q2 % 4294967296 + pp % 4294967296 + bo = u + q2 / 9223372036854775808 * 4294967296) := by show _ = _; omega
              have q2b : q2 < 18446744073709551616 := by omega
              have q2c : q2 / 9223372036854775808 ≤ 1 := by omega
              clear t2 f1 f2 HZ HI
              have hltI : (i : Int) < (k : Int) + 2 := by omega
              go_wp2
              have e3 : (q2 : Int) % 4294967296 = ((q2 % 4294967296 : Nat) : Int) := by omega
              rw [e3]
              refine ⟨⟨i + 1, pp / 4294967296, q2 / 9223372036854775808, s'.set i (q2 % 4294967296), by omega, by go_num, congrArg _ (by omega), congrArg _ (by omega), ?_, q2c, by show _ = _; rw [List.length_set]; exact HL.out, Dg_set hds' _ _ (by omega), ow_set hws hP i _ (by have := HL.out; omega), hfs.setCell rfl _, HZ'.out _, HS.out _ _ _ (by rw [← HP.out]; exact F.out) (by rw [← HP.out])⟩, by simp [intOf]; omega⟩
              have := HP.out
              generalize f * y = fy at *
              omega
            · have hin : i = k + 2 := by omega
              subst hin
              have d2 := ow_at hws hP (k + 2) (by have := HL.out; omega)
              have d3 := hws.2.2 (j + (k + 2))
              have HZi := HZ.out (k + 2) (Nat.le_refl _)
              rw [HZi, HUN.out] at d2
              clear HZi
              have hltI : ¬ ((k + 2 : Nat) : Int) < (k : Int) + 2 := by omega
              obtain ⟨q1, e1, f1⟩ : ∃ q1 : Nat, IntKind.u64.wrap ((un : Int) - c) = q1 ∧ q1 = (un + 18446744073709551616 - c) % 18446744073709551616 := ⟨_, by rw [IntKind.wrap_u64]; omega, rfl⟩
              obtain ⟨q2, e2, f2⟩ : ∃ q2 : Nat, IntKind.u64.wrap ((q1 : Int) - bo) = q2 ∧ q2 = (q1 + 18446744073709551616 - bo) % 18446744073709551616 := ⟨_, by rw [IntKind.wrap_u64]; omega, rfl⟩
              have HF : Hid (q2 = (un + 18446744073709551616 + 18446744073709551616 - c - bo) % 18446744073709551616) := by show _ = _; omega
              have q2b : q2 < 18446744073709551616 := by omega
              have HIm := HI.out
              rw [List.take_of_length_le (l := m) (by omega)] at HIm
              have HI2 : Hid (vL (s'.take (k + 2)) + f * vL m = vL (s.take (k + 2)) + (c + bo) * 4294967296 ^ (k + 2)) := HIm
              clear f1 f2 HIm
              by_cases ng : c + bo ≤ un
              · have e4 : ((q2 : Int) / 9223372036854775808 == 0) = true := by rw [beq_iff_eq]; have := HF.out; omega
                have HFIN := fig_plain U (vL m) f (vL (s'.take (k + 2))) un c bo (4294967296 ^ (k + 2)) q2 (vL (s.take (k + 2))) HI2.out HUS.out (by have := HF.out; omega) HG1.out
                have HFI : Hid _ := HFIN
                clear HFIN
                go_wp2
                go_ret
                have e3 : (q2 : Int) % 4294967296 = ((q2 : Nat) : Int) := by have := HF.out; omega
                rw [e3]
                refine ⟨?_, s'.set (k + 2) q2, by rw [List.length_set]; exact HL.out, Dg_set hds' _ _ (by have := HF.out; omega), ?_, ?_, ow_set hws hP (k + 2) _ (by have := HL.out; omega), hfs.setCell rfl _⟩
                · refine ri' ?_
                  have hq := HFI.out.2
                  show (f : Int) = (U : Int) / ((vL m : Nat) : Int)
                  rw [← Int.natCast_ediv, ← hq]
                · rw [show k + 3 = (k + 2) + 1 by omega, take_set_succ _ _ _ (by have := HL.out; omega)]; exact HFI.out.1
                · exact take_drop_eq s s' (k + 2) q2 HZ.out (by have := HL.out; omega)
              · have e4 : ((q2 : Int) / 9223372036854775808 == 0) = false := beq_eq_false_iff_ne.2 (by have := HF.out; omega)
                have hq2 : q2 % 4294967296 + c + bo = un + 4294967296 := by have := HF.out; omega
                have HQ2 : Hid (q2 % 4294967296 + c + bo = un + 4294967296) := hq2
                clear hq2
                go_wp2
                have e3 : (q2 : Int) % 4294967296 = ((q2 % 4294967296 : Nat) : Int) := by omega
                rw [e3]
                have hwz := ow_set hws hP (k + 2) (q2 % 4294967296) (by have := HL.out; omega)
                have hfz := hfs.setCell rfl (p := ⟨B, j + (k + 2), none⟩) (.int .u32 ((q2 % 4294967296 : Nat) : Int))
                have HLz : Hid ((s'.set (k + 2) (q2 % 4294967296)).length = s.length) := by show _ = _; rw [List.length_set]; exact HL.out
                have hdz : Dg (s'.set (k + 2) (q2 % 4294967296)) := Dg_set hds' _ _ (by omega)
                have HTz : Hid ((s'.set (k + 2) (q2 % 4294967296)).take (k + 2) = s'.take (k + 2)) := set_take_lt _ _ _ _ (Nat.le_refl _)
                have HDz : Hid ((s'.set (k + 2) (q2 % 4294967296)).getD (k + 2) 0 = q2 % 4294967296) := by show _ = _; rw [getD_set _ _ _ _ (by have := HL.out; omega), if_pos rfl]
                have HZz : Hid (∀ t, k + 2 + 1 ≤ t → (s'.set (k + 2) (q2 % 4294967296)).getD t 0 = s.getD t 0) := take_drop_eq s s' (k + 2) _ HZ.out (by have := HL.out; omega)
                generalize s'.set (k + 2) (q2 % 4294967296) = z at *
                generalize wr.setCell ⟨B, j + (k + 2), none⟩ (.int .u32 ((q2 % 4294967296 : Nat) : Int)) = wz at *
                clear e3 e4 d2 d3
                go_loopw [16, 17] (fun cv3 iv wr => ∃ i c3 : Nat, ∃ s3 : List Nat, i ≤ k + 2 ∧ iv = .int .i64 i ∧ cv3 = .int .u64 c3 ∧ c3 ≤ 1 ∧ Hid (s3.length = s.length) ∧ Dg s3 ∧ Ow wr B (P ++ s3) ∧ Fb B w0 wr ∧ Hid (∀ t, i ≤ t → s3.getD t 0 = z.getD t 0) ∧ Hid (vL (s3.take i) + c3 * 4294967296 ^ i = vL (z.take i) + vL (m.take i))) (fun _ iv _ => k + 2 - (intOf iv).toNat)
                case atStart => exact ⟨0, 0, z, Nat.zero_le _, rfl, rfl, by omega, HLz.out, hdz, hwz, hfz, fun t _ => rfl, by show _ = _; simp [vL]⟩
                case round =>
                  obtain ⟨i, c3, s3, hi3, rfl, rfl, hc3, HL3, hd3, hw3, hf3, HZ3, HI3⟩ := hrel
                  by_cases hlt3 : i < k + 2
                  · have d1 : wr.cell? ⟨b, of + i, none⟩ = some (.int .u32 (m.getD i 0 : Nat)) := (hf3.1.cell (p := ⟨b, of + i, none⟩) hb).trans (hcell i hlt3)
                    have d2 := ow_at hw3 hP i (by have := HL3.out; omega)
                    have d3 := hw3.2.2 (j + i)
                    rw [HZ3.out i (Nat.le_refl _)] at d2
                    have y1 := hdm i
                    have y2 := hdz i
                    have HS : Hid (vL ((s3.set i ((z.getD i 0 + c3 + m.getD i 0) % 4294967296)).take (i + 1)) + (z.getD i 0 + c3 + m.getD i 0) / 4294967296 * 4294967296 ^ (i + 1) = vL (z.take (i + 1)) + vL (m.take (i + 1))) := add_step z m s3 i c3 _ (by have := HL3.out; omega) HI3.out rfl
                    have HZ' : Hid (∀ d t, i + 1 ≤ t → (s3.set i d).getD t 0 = z.getD t 0) := fun d => take_drop_eq z s3 i d HZ3.out (by have := HL3.out; omega)
                    generalize m.getD i 0 = y at *
                    generalize z.getD i 0 = u at *
                    have hltI : (i : Int) < (k : Int) + 2 := by omega
                    have hltJ : (i : Int) < (k : Int) + 3 := by omega
                    clear HZ3 HI3
                    go_wp2
                    go_quiet (fail)
                    go_wp2
                    have e1 : ((u : Int) + y + c3) % 4294967296 = (((u + c3 + y) % 4294967296 : Nat) : Int) := by omega
                    have e2 : ((u : Int) + y + c3) / 4294967296 = (((u + c3 + y) / 4294967296 : Nat) : Int) := by omega
                    rw [e1, e2]
                    exact ⟨⟨i + 1, (u + c3 + y) / 4294967296, s3.set i ((u + c3 + y) % 4294967296), by omega, by go_num, rfl, by omega, by show _ = _; rw [List.length_set]; exact HL3.out, Dg_set hd3 _ _ (by omega), ow_set (w := wr.drewN nq) hw3 hP i _ (by have := HL3.out; omega), (quiet_fb hf3 nq).setCell rfl _, HZ'.out _, HS.out⟩, by simp [intOf]; omega⟩
                  · have hin3 : i = k + 2 := by omega
                    subst hin3
                    have d2 := ow_at hw3 hP (k + 2) (by have := HL3.out; omega)
                    have d3 := hw3.2.2 (j + (k + 2))
                    rw [HZ3.out (k + 2) (Nat.le_refl _), HDz.out] at d2
                    have hltI : ¬ ((k + 2 : Nat) : Int) < (k : Int) + 2 := by omega
                    have a1 := vL_lt (s3.take (k + 2)) (Dg_take hd3 _)
                    rw [List.length_take, Nat.min_eq_left (by have := HL3.out; omega)] at a1
                    have a2 := vL_lt (s'.take (k + 2)) (Dg_take hds' _)
                    rw [List.length_take, Nat.min_eq_left (by have := HL.out; omega)] at a2
                    have a3 := vL_lt (s.take (k + 2)) (Dg_take hds _)
                    rw [List.length_take, Nat.min_eq_left (by omega)] at a3
                    have HIm3 := HI3.out
                    rw [List.take_of_length_le (l := m) (by omega), HTz.out] at HIm3
                    have HFIN := fig_back U (vL m) f (vL (s'.take (k + 2))) un c bo (4294967296 ^ (k + 2)) (q2 % 4294967296) (vL (s.take (k + 2))) c3 (vL (s3.take (k + 2))) HI2.out HUS.out HQ2.out HG1.out HH.out HIm3 a1 a2 (by omega) hc3 (by omega) a3
                    have HFI : Hid _ := HFIN
                    have hf1 : 1 ≤ f := by rw [HFIN.2]; exact Nat.le_add_left 1 _
                    have HFQ : Hid (f = U / vL m + 1) := HFIN.2
                    clear HFIN HIm3 a1 a2 a3
                    generalize hqd : q2 % 4294967296 = qd at *
                    have hqb : qd < 4294967296 := by omega
                    clear hqd
                    go_wp2
                    go_ret
                    have e3 : ((qd : Int) + c3) % 4294967296 = (((qd + c3) % 4294967296 : Nat) : Int) := by omega
                    rw [e3]
                    refine ⟨?_, s3.set (k + 2) ((qd + c3) % 4294967296), by rw [List.length_set]; exact HL3.out, Dg_set hd3 _ _ (by omega), ?_, ?_, ow_set hw3 hP (k + 2) _ (by have := HL3.out; omega), hf3.setCell rfl _⟩
                    · refine ri' ?_
                      have hq := HFQ.out
                      show (f : Int) - 1 = (U : Int) / ((vL m : Nat) : Int)
                      rw [← Int.natCast_ediv]
                      omega
                    · rw [show k + 3 = (k + 2) + 1 by omega, take_set_succ _ _ _ (by have := HL3.out; omega)]; exact HFI.out.1
                    · intro t ht
                      show (s3.set (k + 2) ((qd + c3) % 4294967296)).getD t 0 = s.getD t 0
                      rw [take_drop_eq z s3 (k + 2) _ HZ3.out (by have := HL3.out; omega) t (by omega)]
                      exact HZz.out t (by omega)
        · obtain ⟨rt, ert⟩ : ∃ rt : Nat, (r : Int) + top = rt := ⟨r + top, by omega⟩
          have HRT : Hid (rt = r + top) := by show rt = r + top; omega
          have b2' : ¬ (4294967296 : Int) ≤ (rt : Int) := by omega
          have b2d : decide ((4294967296 : Int) ≤ (rt : Int)) = false := decide_eq_false b2'
          clear HE HB HG hfg b1 t1 t2 b3 b2
          go_wp2
          go_quiet (fail)
          go_wp2
          go_roundw
          case rel => first | exact ⟨f, rt, rfl, rfl, hwr, quiet_fb hfr _, (by omega), (by omega), HG1.out, (fun h => absurd h (by omega)), by rw [HRT.out]; exact HE1.out⟩ | ((repeat apply Exists.intro); exact ⟨⟨f, rt, rfl, rfl, hwr, quiet_fb hfr _, (by omega), (by omega), HG1.out, (fun h => absurd h (by omega)), by rw [HRT.out]; exact HE1.out⟩, rfl⟩)
          case measure => simp [intOf]; have := HFG.out; omega
      · have b3' : ¬ (ru : Int) < (g : Int) * v2 := by rw [t2]; omega
        have b3d : decide ((ru : Int) < (g : Int) * v2) = false := decide_eq_false b3'
        have hg1 : g ≤ 4294967295 := by omega
        have HH : Hid (g * vL m < U + vL m) := HHI.out g r HE.out hg1 (by rw [HRU.out]; omega)
        obtain ⟨f, rfl⟩ : ∃ f, f = g := ⟨g, rfl⟩
        have HG1 : Hid (U < (f + 1) * vL m) := HG.out
        clear HE HB HG b1 t1 t2 b3
        go_wp2
        go_quiet (fail)
        go_wp2
        clear c1 c2 eO ro t3 t4
        have hwt : Ow (wr.drewN nq) B (P ++ s) := hwr
        have hft : Fb B w0 (wr.drewN nq) := quiet_fb hfr nq
        clear hwr hfr
        go_loopw [10, 11, 12] (fun cv' bv iv wr => ∃ i c bo : Nat, ∃ s' : List Nat, i ≤ k + 2 ∧ iv = .int .i64 i ∧ cv' = .int .u64 c ∧ bv = .int .u64 bo ∧ c ≤ 4294967295 ∧ bo ≤ 1 ∧ Hid (s'.length = s.length) ∧ Dg s' ∧ Ow wr B (P ++ s') ∧ Fb B w0 wr ∧ Hid (∀ t, i ≤ t → s'.getD t 0 = s.getD t 0) ∧ Hid (vL (s'.take i) + f * vL (m.take i) = vL (s.take i) + (c + bo) * 4294967296 ^ i)) (fun _ _ iv _ => k + 2 - (intOf iv).toNat)
        case atStart => exact ⟨0, 0, 0, s, Nat.zero_le _, rfl, rfl, rfl, by omega, by omega, rfl, hds, hwt, hft, fun t _ => rfl, by show _ = _; simp [vL]⟩
        case round =>
          obtain ⟨i, c, bo, s', hi, rfl, rfl, rfl, hc, hbo, HL, hds', hws, hfs, HZ, HI⟩ := hrel
          by_cases hlt : i < k + 2
          · have d1 : wr.cell? ⟨b, of + i, none⟩ = some (.int .u32 (m.getD i 0 : Nat)) := (hfs.1.cell (p := ⟨b, of + i, none⟩) hb).trans (hcell i hlt)
            have d2 := ow_at hws hP i (by have := HL.out; omega)
            have d3 := hws.2.2 (j + i)
            have HZi : Hid (s'.getD i 0 = s.getD i 0) := HZ.out i (Nat.le_refl _)
            rw [HZi.out] at d2
            have y1 := hdm i
            have y2 := hds i
            have HS : Hid (∀ d b' c', d + (f * m.getD i 0 + c) % 4294967296 + bo = s.getD i 0 + b' * 4294967296 → c' = (f * m.getD i 0 + c) / 4294967296 → vL ((s'.set i d).take (i + 1)) + f * vL (m.take (i + 1)) = vL (s.take (i + 1)) + (c' + b') * 4294967296 ^ (i + 1)) := fun d b' c' h1 h2 => take_step s s' m i f c bo c' b' d _ (by have := HL.out; omega) rfl HI.out h1 h2
            have HZ' : Hid (∀ d t, i + 1 ≤ t → (s'.set i d).getD t 0 = s.getD t 0) := fun d => take_drop_eq s s' i d HZ.out (by have := HL.out; omega)
            generalize m.getD i 0 = y at *
            generalize s.getD i 0 = u at *
            have t1 := mul_top f y (by omega) y1
            have t2 : (f : Int) * y = ((f * y : Nat) : Int) := by simp
            have t3 : (0 : Int) ≤ (f : Int) * y := by rw [t2]; omega
            have t4 : (f : Int) * y ≤ 18446744065119617025 := by rw [t2]; omega
            have T2 : Hid ((f : Int) * y = ((f * y : Nat) : Int)) := t2
            obtain ⟨pp, hpp⟩ : ∃ pp : Nat, (f : Int) * y + c = pp := ⟨f * y + c, by rw [t2]; omega⟩
            have HP : Hid (pp = f * y + c) := by show pp = f * y + c; rw [t2] at hpp; omega
            have hppb : pp < 18446744073709551616 := by rw [t2] at hpp; omega
            have eA := and_low32 (pp : Int) (by omega) (by omega)
            obtain ⟨q1, e1, f1⟩ : ∃ q1 : Nat, IntKind.u64.wrap ((u : Int) - (pp : Int) % 4294967296) = q1 ∧ q1 = (u + 18446744073709551616 - pp % 4294967296) % 18446744073709551616 := ⟨_, by rw [IntKind.wrap_u64]; omega, rfl⟩
            obtain ⟨q2, e2, f2⟩ : ∃ q2 : Nat, IntKind.u64.wrap ((q1 : Int) - bo) = q2 ∧ q2 = (q1 + 18446744073709551616 - bo) % 18446744073709551616 := ⟨_, by rw [IntKind.wrap_u64]; omega, rfl⟩
            have F : Hid (q2 % 4294967296 + pp % 4294967296 + bo = u + q2 / 9223372036854775808 * 4294967296) := by show _ = _; omega
            have q2b : q2 < 18446744073709551616 := by omega
            have q2c : q2 / 9223372036854775808 ≤ 1 := by omega
            clear t2 f1 f2 HZ HI
            have hltI : (i : Int) < (k : Int) + 2 := by omega
            go_wp2
            have e3 : (q2 : Int) % 4294967296 = ((q2 % 4294967296 : Nat) : Int) := by omega
            rw [e3]
            refine ⟨⟨i + 1, pp / 4294967296, q2 / 9223372036854775808, s'.set i (q2 % 4294967296), by omega, by go_num, congrArg _ (by omega), congrArg _ (by omega), ?_, q2c, by show _ = _; rw [List.length_set]; exact HL.out, Dg_set hds' _ _ (by omega), ow_set hws hP i _ (by have := HL.out; omega), hfs.setCell rfl _, HZ'.out _, HS.out _ _ _ (by rw [← HP.out]; exact F.out) (by rw [← HP.out])⟩, by simp [intOf]; omega⟩
            have := HP.out
            generalize f * y = fy at *
            omega
          · have hin : i = k + 2 := by omega
            subst hin
            have d2 := ow_at hws hP (k + 2) (by have := HL.out; omega)
            have d3 := hws.2.2 (j + (k + 2))
            have HZi := HZ.out (k + 2) (Nat.le_refl _)
            rw [HZi, HUN.out] at d2
            clear HZi
            have hltI : ¬ ((k + 2 : Nat) : Int) < (k : Int) + 2 := by omega
            obtain ⟨q1, e1, f1⟩ : ∃ q1 : Nat, IntKind.u64.wrap ((un : Int) - c) = q1 ∧ q1 = (un + 18446744073709551616 - c) % 18446744073709551616 := ⟨_, by rw [IntKind.wrap_u64]; omega, rfl⟩
            obtain ⟨q2, e2, f2⟩ : ∃ q2 : Nat, IntKind.u64.wrap ((q1 : Int) - bo) = q2 ∧ q2 = (q1 + 18446744073709551616 - bo) % 18446744073709551616 := ⟨_, by rw [IntKind.wrap_u64]; omega, rfl⟩
            have HF : Hid (q2 = (un + 18446744073709551616 + 18446744073709551616 - c - bo) % 18446744073709551616) := by show _ = _; omega
            have q2b : q2 < 18446744073709551616 := by omega
            have HIm := HI.out
            rw [List.take_of_length_le (l := m) (by omega)] at HIm
            have HI2 : Hid (vL (s'.take (k + 2)) + f * vL m = vL (s.take (k + 2)) + (c + bo) * 4294967296 ^ (k + 2)) := HIm
            clear f1 f2 HIm
            by_cases ng : c + bo ≤ un
            · have e4 : ((q2 : Int) / 9223372036854775808 == 0) = true := by rw [beq_iff_eq]; have := HF.out; omega
              have HFIN := fig_plain U (vL m) f (vL (s'.take (k + 2))) un c bo (4294967296 ^ (k + 2)) q2 (vL (s.take (k + 2))) HI2.out HUS.out (by have := HF.out; omega) HG1.out
              have HFI : Hid _ := HFIN
              clear HFIN
              go_wp2
              go_ret
              have e3 : (q2 : Int) % 4294967296 = ((q2 : Nat) : Int) := by have := HF.out; omega
              rw [e3]
              refine ⟨?_, s'.set (k + 2) q2, by rw [List.length_set]; exact HL.out, Dg_set hds' _ _ (by have := HF.out; omega), ?_, ?_, ow_set hws hP (k + 2) _ (by have := HL.out; omega), hfs.setCell rfl _⟩
              · refine ri' ?_
                have hq := HFI.out.2
                show (f : Int) = (U : Int) / ((vL m : Nat) : Int)
                rw [← Int.natCast_ediv, ← hq]
              · rw [show k + 3 = (k + 2) + 1 by omega, take_set_succ _ _ _ (by have := HL.out; omega)]; exact HFI.out.1
              · exact take_drop_eq s s' (k + 2) q2 HZ.out (by have := HL.out; omega)
            · have e4 : ((q2 : Int) / 9223372036854775808 == 0) = false := beq_eq_false_iff_ne.2 (by have := HF.out; omega)
              have hq2 : q2 % 4294967296 + c + bo = un + 4294967296 := by have := HF.out; omega
              have HQ2 : Hid (q2 % 4294967296 + c + bo = un + 4294967296) := hq2
              clear hq2
              go_wp2
              have e3 : (q2 : Int) % 4294967296 = ((q2 % 4294967296 : Nat) : Int) := by omega
              rw [e3]
              have hwz := ow_set hws hP (k + 2) (q2 % 4294967296) (by have := HL.out; omega)
              have hfz := hfs.setCell rfl (p := ⟨B, j + (k + 2), none⟩) (.int .u32 ((q2 % 4294967296 : Nat) : Int))
              have HLz : Hid ((s'.set (k + 2) (q2 % 4294967296)).length = s.length) := by show _ = _; rw [List.length_set]; exact HL.out
              have hdz : Dg (s'.set (k + 2) (q2 % 4294967296)) := Dg_set hds' _ _ (by omega)
              have HTz : Hid ((s'.set (k + 2) (q2 % 4294967296)).take (k + 2) = s'.take (k + 2)) := set_take_lt _ _ _ _ (Nat.le_refl _)
              have HDz : Hid ((s'.set (k + 2) (q2 % 4294967296)).getD (k + 2) 0 = q2 % 4294967296) := by show _ = _; rw [getD_set _ _ _ _ (by have := HL.out; omega), if_pos rfl]
              have HZz : Hid (∀ t, k + 2 + 1 ≤ t → (s'.set (k + 2) (q2 % 4294967296)).getD t 0 = s.getD t 0) := take_drop_eq s s' (k + 2) _ HZ.out (by have := HL.out; omega)
              generalize s'.set (k + 2) (q2 % 4294967296) = z at *
              generalize wr.setCell ⟨B, j + (k + 2), none⟩ (.int .u32 ((q2 % 4294967296 : Nat) : Int)) = wz at *
              clear e3 e4 d2 d3
              go_loopw [16, 17] (fun cv3 iv wr => ∃ i c3 : Nat, ∃ s3 : List Nat, i ≤ k + 2 ∧ iv = .int .i64 i ∧ cv3 = .int .u64 c3 ∧ c3 ≤ 1 ∧ Hid (s3.length = s.length) ∧ Dg s3 ∧ Ow wr B (P ++ s3) ∧ Fb B w0 wr ∧ Hid (∀ t, i ≤ t → s3.getD t 0 = z.getD t 0) ∧ Hid (vL (s3.take i) + c3 * 4294967296 ^ i = vL (z.take i) + vL (m.take i))) (fun _ iv _ => k + 2 - (intOf iv).toNat)
              case atStart => exact ⟨0, 0, z, Nat.zero_le _, rfl, rfl, by omega, HLz.out, hdz, hwz, hfz, fun t _ => rfl, by show _ = _; simp [vL]⟩
              case round =>
                obtain ⟨i, c3, s3, hi3, rfl, rfl, hc3, HL3, hd3, hw3, hf3, HZ3, HI3⟩ := hrel
                by_cases hlt3 : i < k + 2
                · have d1 : wr.cell? ⟨b, of + i, none⟩ = some (.int .u32 (m.getD i 0 : Nat)) := (hf3.1.cell (p := ⟨b, of + i, none⟩) hb).trans (hcell i hlt3)
                  have d2 := ow_at hw3 hP i (by have := HL3.out; omega)
                  have d3 := hw3.2.2 (j + i)
                  rw [HZ3.out i (Nat.le_refl _)] at d2
                  have y1 := hdm i
                  have y2 := hdz i
                  have HS : Hid (vL ((s3.set i ((z.getD i 0 + c3 + m.getD i 0) % 4294967296)).take (i + 1)) + (z.getD i 0 + c3 + m.getD i 0) / 4294967296 * 4294967296 ^ (i + 1) = vL (z.take (i + 1)) + vL (m.take (i + 1))) := add_step z m s3 i c3 _ (by have := HL3.out; omega) HI3.out rfl
                  have HZ' : Hid (∀ d t, i + 1 ≤ t → (s3.set i d).getD t 0 = z.getD t 0) := fun d => take_drop_eq z s3 i d HZ3.out (by have := HL3.out; omega)
                  generalize m.getD i 0 = y at *
                  generalize z.getD i 0 = u at *
                  have hltI : (i : Int) < (k : Int) + 2 := by omega
                  have hltJ : (i : Int) < (k : Int) + 3 := by omega
                  clear HZ3 HI3
                  go_wp2
                  go_quiet (fail)
                  go_wp2
                  have e1 : ((u : Int) + y + c3) % 4294967296 = (((u + c3 + y) % 4294967296 : Nat) : Int) := by omega
                  have e2 : ((u : Int) + y + c3) / 4294967296 = (((u + c3 + y) / 4294967296 : Nat) : Int) := by omega
                  rw [e1, e2]
                  exact ⟨⟨i + 1, (u + c3 + y) / 4294967296, s3.set i ((u + c3 + y) % 4294967296), by omega, by go_num, rfl, by omega, by show _ = _; rw [List.length_set]; exact HL3.out, Dg_set hd3 _ _ (by omega), ow_set (w := wr.drewN nq) hw3 hP i _ (by have := HL3.out; omega), (quiet_fb hf3 nq).setCell rfl _, HZ'.out _, HS.out⟩, by simp [intOf]; omega⟩
                · have hin3 : i = k + 2 := by omega
                  subst hin3
                  have d2 := ow_at hw3 hP (k + 2) (by have := HL3.out; omega)
                  have d3 := hw3.2.2 (j + (k + 2))
                  rw [HZ3.out (k + 2) (Nat.le_refl _), HDz.out] at d2
                  have hltI : ¬ ((k + 2 : Nat) : Int) < (k : Int) + 2 := by omega
                  have a1 := vL_lt (s3.take (k + 2)) (Dg_take hd3 _)
                  rw [List.length_take, Nat.min_eq_left (by have := HL3.out; omega)] at a1
                  have a2 := vL_lt (s'.take (k + 2)) (Dg_take hds' _)
                  rw [List.length_take, Nat.min_eq_left (by have := HL.out; omega)] at a2
                  have a3 := vL_lt (s.take (k + 2)) (Dg_take hds _)
                  rw [List.length_take, Nat.min_eq_left (by omega)] at a3
                  have HIm3 := HI3.out
                  rw [List.take_of_length_le (l := m) (by omega), HTz.out] at HIm3
                  have HFIN := fig_back U (vL m) f (vL (s'.take (k + 2))) un c bo (4294967296 ^ (k + 2)) (q2 % 4294967296) (vL (s.take (k + 2))) c3 (vL (s3.take (k + 2))) HI2.out HUS.out HQ2.out HG1.out HH.out HIm3 a1 a2 (by omega) hc3 (by omega) a3
                  have HFI : Hid _ := HFIN
                  have hf1 : 1 ≤ f := by rw [HFIN.2]; exact Nat.le_add_left 1 _
                  have HFQ : Hid (f = U / vL m + 1) := HFIN.2
                  clear HFIN HIm3 a1 a2 a3
                  generalize hqd : q2 % 4294967296 = qd at *
                  have hqb : qd < 4294967296 := by omega
                  clear hqd
                  go_wp2
                  go_ret
                  have e3 : ((qd : Int) + c3) % 4294967296 = (((qd + c3) % 4294967296 : Nat) : Int) := by omega
                  rw [e3]
                  refine ⟨?_, s3.set (k + 2) ((qd + c3) % 4294967296), by rw [List.length_set]; exact HL3.out, Dg_set hd3 _ _ (by omega), ?_, ?_, ow_set hw3 hP (k + 2) _ (by have := HL3.out; omega), hf3.setCell rfl _⟩
                  · refine ri' ?_
                    have hq := HFQ.out
                    show (f : Int) - 1 = (U : Int) / ((vL m : Nat) : Int)
                    rw [← Int.natCast_ediv]
                    omega
                  · rw [show k + 3 = (k + 2) + 1 by omega, take_set_succ _ _ _ (by have := HL3.out; omega)]; exact HFI.out.1
                  · intro t ht
                    show (s3.set (k + 2) ((qd + c3) % 4294967296)).getD t 0 = s.getD t 0
                    rw [take_drop_eq z s3 (k + 2) _ HZ3.out (by have := HL3.out; omega) t (by omega)]
                    exact HZz.out t (by omega)
end Go.Proofs.Ytpfaaimfembhdaa
/-
  OWN TEXT: what divWords of package eddybig returns where the divisor is the greater one or has one word; plain laws for the rest.
-/
namespace Go.Proofs.Ytpfaaimfembhdaa
open Go.ChangeShapes Go.WideShapes Go.ChangeAt Go.RowKit
open Bg
set_option linter.unusedVariables false
set_option maxHeartbeats 2000000 in
theorem divWords_less (v u : Value) (N M : Nat) (w : World) (hv : Nm w v N) (hu : Nm w u M) (hN : N.log2 < 32000000) (h : N < M) :
    Calls Try.prog 63 #[v, u] w fun e w' => ∃ q r, e = .returned (.tuple #[q, r]) ∧ Nm w' q (N / M) ∧ Nm w' r (N % M) ∧ Fr w w' := by
  have e1 : N / M = 0 := Nat.div_eq_of_lt h
  have e2 : N % M = N := Nat.mod_eq_of_lt h
  have e3 : cmpI N M = -1 := cmpI_lt h
  rw [e1, e2]
  clear e1 e2
  go_enter Try.func63, Try.ntmps63
  go_wp2_with fail
  refine (cmpWords_any v u N M _ hv hu).mono ?_
  rintro e w1 ⟨rfl, hf1⟩
  rw [e3]
  go_wp2_with fail
  refine (copied_any v N _ (hv.mono hf1) hN).mono ?_
  rintro e w2 ⟨x, rfl, hx, hf2⟩
  go_wp2
  go_ret2
  exact ⟨_, _, rfl, nm_nil _, hx, hf1.trans hf2⟩
theorem hs_one {w : World} (x : Nat) : Hs (w.alloc (.cells #[.int .u32 (x : Nat)] 70)) (some ⟨w.heap.size, 0, none⟩) [x] := by
  right
  refine ⟨_, _, rfl, by simp, fun i hi => ?_⟩
  simp only [List.length_cons, List.length_nil] at hi
  match i, hi with
  | 0, _ => simp
theorem dg_one (x : Nat) (h : x < 4294967296) : Dg [x] := by
  intro i
  match i with
  | 0 => exact h
  | n + 1 => show 0 < _; omega
theorem vL_one (x : Nat) : vL [x] = x := by simp [vL]
set_option maxHeartbeats 2000000 in
theorem divWords_one (v : Value) (c : Option Addr) (d cc : Nat) (N : Nat) (w : World) (hv : Nm w v N) (hh : Hs w c [d]) (hcc : 1 ≤ cc) (hcc2 : cc ≤ 1099511627776) (hN : N.log2 < 32000000) (hd : 0 < d) (hd2 : d < 4294967296) (h : d ≤ N) :
    Calls Try.prog 63 #[v, .slice c 1 cc] w fun e w' => ∃ q r, e = .returned (.tuple #[q, r]) ∧ Nm w' q (N / d) ∧ Nm w' r (N % d) ∧ Fr w w' := by
  have hdg : Dg [d] := by
    intro i
    match i with
    | 0 => exact hd2
    | n + 1 => show 0 < _; omega
  have hu : Nm w (.slice c 1 cc) d := ⟨c, [d], cc, rfl, hcc, hcc2, hh, hdg, by simp [vL], by simp [tn]; omega⟩
  have e3 : ¬ cmpI N d < 0 := by
    unfold cmpI
    rw [if_neg (by omega)]
    split <;> omega
  obtain ⟨a, l, ca, rfl, hca, hma, hha, hda, rfl, hta, kl⟩ := hv.len 1000000 (by omega)
  obtain ⟨b, of, rfl, hb, hcell⟩ := hs_len hh (by simp)
  have hc0 := hcell 0 (by simp)
  rw [Nat.add_zero] at hc0
  have hc0' : w.cell? ⟨b, of, none⟩ = some (.int .u32 (d : Nat)) := hc0
  clear hc0 hcell
  have hv : Nm w (.slice a l.length ca) (vL l) := ⟨a, l, ca, rfl, hca, hma, hha, hda, rfl, hta⟩
  clear hh
  go_enter Try.func63, Try.ntmps63
  go_wp2_with fail
  refine (cmpWords_any _ _ (vL l) d _ hv hu).mono ?_
  rintro e w1 ⟨rfl, hf1⟩
  have hc1 : w1.cell? ⟨b, of, none⟩ = some (.int .u32 (d : Nat)) := (hf1.1.cell (p := ⟨b, of, none⟩) hb).trans hc0'
  generalize cmpI (vL l) d = ci at *
  go_wp2_with fail
  refine (divSmall_core a l ca d _ (hha.mono hf1) hda hca hma kl hd hd2).mono ?_
  rintro e w2 ⟨q, rfl, hq, hf2⟩
  have hrl : vL l % d < 4294967296 := Nat.lt_trans (Nat.mod_lt _ hd) hd2
  have hF : Fr w w2 := hf1.trans hf2
  have HQ : Hid (Nm w2 q (vL l / d)) := hq
  clear hq hv hu hc0' hc1 hf1 hf2
  generalize hr : vL l % d = r at *
  have HR : Hid (vL l % d = r) := hr
  clear hr
  go_wp2_with fail
  refine (trim_nm _ [r] 1 1 _ (hs_one r) (dg_one r hrl) rfl (by omega) (by omega)).mono ?_
  rintro e w3 ⟨v, rfl, hnm, rfl⟩
  rw [vL_one] at hnm
  have HN := hnm
  go_wp2
  go_ret2
  exact ⟨_, _, rfl, HQ.out.mono ((Fr.refl _).alloc _ _), by rw [HR.out]; exact HN, hF.alloc _ _⟩
end Go.Proofs.Ytpfaaimfembhdaa
