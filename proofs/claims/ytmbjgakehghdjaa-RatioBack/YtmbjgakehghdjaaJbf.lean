/-
  OWN TEXT: package ratio: Of, of whole complex numbers.
-/
import Derived.Test.YtmbjgakehghdjaaJbe
import Derived.Test.YtmbjgakehghdjaaJaz
import Derived.Deep.AppendLies
namespace Go.Proofs.Ytmbjgakehghdjaa
open Go.ChangeShapes Go.WideShapes Go.ChangeAt Go.RowKit
set_option linter.unusedVariables false
attribute [local go_sem] frombits_call tobits_call run_neg run_store_cx
/-- without the number k -/
def rm (zs : List Py.G) (k : Nat) : List Py.G := (List.range (zs.length - 1)).map fun i => if i < k then Py.co zs i else Py.co zs (i + 1)
theorem rm_len (zs : List Py.G) (k : Nat) : (rm zs k).length = zs.length - 1 := by simp [rm]
theorem co_rm (zs : List Py.G) (k i : Nat) (h : i < zs.length - 1) : Py.co (rm zs k) i = if i < k then Py.co zs i else Py.co zs (i + 1) := by
  unfold rm
  rw [Py.co_map, if_pos h]
/-- the Top behind k poles -/
def tt (zs rs : List Py.G) : Nat → Nat → Py.G
  | 0, _ => (0, 0)
  | k + 1, i => Py.ga (tt zs rs k i) (Py.gm (Py.co rs k) (Py.co (Py.ofl [(1, 0)] (rm zs k)) i))
theorem mem_le {zs : List Py.G} {Z : Nat} (h : ∀ i, Py.Le (Py.co zs i) Z) (z : Py.G) (hz : z ∈ zs) : Py.Le z Z := by
  obtain ⟨j, hj, rfl⟩ := List.getElem_of_mem hz
  have h1 := h j
  have h2 : Py.co zs j = zs[j] := by
    unfold Py.co
    rw [List.getD_eq_getElem?_getD, List.getElem?_eq_getElem hj]
    rfl
  rw [h2] at h1
  exact h1
theorem ofl_le12 {zs : List Py.G} (h : ∀ i, Py.Le (Py.co zs i) 12) (i : Nat) : Py.Le (Py.co (Py.ofl [(1, 0)] zs) i) (13 ^ zs.length) := by
  have := Py.ofl_le (p := [(1, 0)]) (zs := zs) (A := 1) (Z := 12) (fun i => one_le i 1 (Nat.le_refl _)) (fun z hz => mem_le h z hz) i
  rw [Nat.one_mul] at this
  exact this
theorem rm_le {zs : List Py.G} (h : ∀ i, Py.Le (Py.co zs i) 12) (k i : Nat) : Py.Le (Py.co (rm zs k) i) 12 := by
  by_cases z : i < zs.length - 1
  · rw [co_rm zs k i z]
    split
    · exact h i
    · exact h (i + 1)
  · rw [Py.co_out (by rw [rm_len]; omega)]; exact Py.Le.nought _
theorem tt_le {zs rs : List Py.G} (h : ∀ i, Py.Le (Py.co zs i) 12) (hr : ∀ i, Py.Le (Py.co rs i) 12) (hn : zs.length ≤ 3) (k i : Nat) : Py.Le (tt zs rs k i) (k * 2028) := by
  induction k with
  | zero => exact Py.Le.nought _
  | succ k ih =>
    rw [tt, Nat.add_mul, Nat.one_mul]
    refine ih.add ?_
    have h1 := ofl_le12 (rm_le h k) i
    rw [rm_len] at h1
    have h2 : 13 ^ (zs.length - 1) ≤ 169 := Nat.le_trans (Nat.pow_le_pow_right (by omega) (show zs.length - 1 ≤ 2 by omega)) (by decide)
    exact ((hr k).mul (h1.mono h2)).mono (by decide)
theorem ts_one (r : Py.G) (l : List Py.G) (j : Nat) : Py.ts [r] l j 1 = Py.gm r (Py.co l j) := by
  rw [Py.ts, if_pos (Nat.zero_le _)]
  exact Py.nought_ga _
theorem wl_rm {c n : Nat} {F : Nat → Nat × Nat} {zs : List Py.G} (hn : zs.length = n) (h : Wl c n F zs) (k : Nat) : Wl c (n - 1) (fun i => if i < k then F i else F (i + 1)) (rm zs k) := by
  refine ⟨by rw [rm_len, hn], fun i hi => ?_⟩
  rw [co_rm zs k i (by rw [hn]; exact hi)]
  simp only
  by_cases z : i < k
  · rw [if_pos z, if_pos z]; exact h.2 i (by omega)
  · rw [if_neg z, if_neg z]; exact h.2 (i + 1) (by omega)
theorem tt_le6 {zs rs : List Py.G} (h : ∀ i, Py.Le (Py.co zs i) 12) (hr : ∀ i, Py.Le (Py.co rs i) 12) (hn : zs.length ≤ 3) (k : Nat) (hk : k ≤ 3) (i : Nat) : Py.Le (tt zs rs k i) 6084 := (tt_le h hr hn k i).mono (Nat.le_trans (Nat.mul_le_mul_right 2028 hk) (by decide))
theorem one_le12 {r : Py.G} (h : Py.Le r 12) (i : Nat) : Py.Le (Py.co [r] i) 12 := by
  cases i with
  | zero => exact h
  | succ i => exact Py.Le.nought _
theorem may_one {r : Py.G} (h : Py.Le r 12) : May 0 [r] := ⟨rfl, by omega, Or.inl rfl, fun i _ => (one_le12 h i).mono (by omega)⟩
theorem without10 {w : World} {b o n k : Nat} {F : Nat → Nat × Nat} (hn : n ≤ 3) (hk : k < n) (h : Wf w b o n F) :
    Calls Try.prog 47 #[.slice (some ⟨b, o, none⟩) n n, .int .i64 k] w fun e w' => e = .returned (.slice (some ⟨w.heap.size, 0, none⟩) (n - 1) n) ∧ Wf w' w.heap.size 0 (n - 1) (fun i => if i < k then F i else F (i + 1)) ∧ Bw w w' := by
  rcases (show n = 1 ∨ n = 2 ∨ n = 3 by omega) with rfl | rfl | rfl
  · rcases (show k = 0 by omega) with rfl
    exact without10_10 h
  · rcases (show k = 0 ∨ k = 1 by omega) with rfl | rfl
    · exact without10_20 h
    · exact without10_21 h
  · rcases (show k = 0 ∨ k = 1 ∨ k = 2 by omega) with rfl | rfl | rfl
    · exact without10_30 h
    · exact without10_31 h
    · exact without10_32 h
/-- what stands while the Top is summed up -/
def Bd (c : Nat) (w w' : World) (S E Wb Bt n : Nat) (F : Nat → Nat × Nat) (B2 : Nat) (l2 : List Py.G) (Bk pk : Nat) (Lk : List Py.G) : Prop :=
  Fw w' S E (.slice (some ⟨Bk, 0, none⟩) (pk + 1) (pk + 1)) (.slice (some ⟨B2, 0, none⟩) (n + 1) (n + 1)) 0 ∧ Wk w' Wb ∧ Wf w' Bt 0 n F ∧ Gl c w' B2 0 l2 ∧ Gl c w' Bk 0 Lk ∧ Bw w w'
theorem Bd.bw {c : Nat} {w w1 w2 : World} {S E Wb Bt n : Nat} {F : Nat → Nat × Nat} {B2 : Nat} {l2 : List Py.G} {Bk pk : Nat} {Lk : List Py.G} (h : Bd c w w1 S E Wb Bt n F B2 l2 Bk pk Lk) (k : Bw w1 w2) : Bd c w w2 S E Wb Bt n F B2 l2 Bk pk Lk :=
  ⟨h.1.bw k, h.2.1.bw k, h.2.2.1.bw k, h.2.2.2.1.bw k, h.2.2.2.2.1.bw k, bw_trans h.2.2.2.2.2 k⟩
set_option maxHeartbeats 8000000 in
theorem rof10 {c : Nat} (hc : c = 1074) {w : World} {a : Option Addr} {n cap : Nat} {zs rs : List Py.G} (hn : n ≤ 3) (h : PL c w a n zs rs) (hz : ∀ i, Py.Le (Py.co zs i) 12) (hr : ∀ i, Py.Le (Py.co rs i) 12) :
    Calls Try.prog 15 #[.slice a n cap, .slice none 0 0] w fun e w' => ∃ S T m L l2, e = .returned (.tuple #[.agg #[S, T], .int .i64 0]) ∧ Sl c w' S m L ∧ Sl c w' T n l2 ∧ May m L ∧ May n l2 ∧ Nz n l2 ∧ m ≤ 3 ∧ (∀ i, Py.co L i = tt zs rs n i) ∧ (∀ i, Py.co l2 i = Py.co (Py.ofl [(1, 0)] zs) i) ∧ Bw w w' := by
  have hmf := makef10
  have H := hide h
  have HC := hide hc
  have HZ := hide (And.intro hz hr)
  have hmk := make_c (n : Int) n rfl (by omega)
  clear h hc hz hr
  have z0 : ∀ (w : World) (o : Obj), (w.alloc o).heap.size = w.heap.size + 1 := fun w o => by simp
  obtain ⟨S, E, W2, eS, eE, eW, fS, bW, q1, q2⟩ : ∃ (S E : Nat) (W : World), S = w.heap.size ∧ E = w.heap.size + 1 ∧ W = (w.alloc (.cells #[.slice none 0 0, .slice none 0 0] 24)).alloc (.cells #[.int .i64 0] 28) ∧ Fw W S E (.slice none 0 0) (.slice none 0 0) 0 ∧ Bw w W ∧ w.heap.size ≤ S ∧ S < E := by
    have hS := Fc.made w (.slice none 0 0) (.slice none 0 0) 24
    have fS := fz_made w #[.slice none 0 0, .slice none 0 0] 24
    have hE := Wk.made (w.alloc (.cells #[.slice none 0 0, .slice none 0 0] 24)) 28
    have b1 := bw_alloc w (.cells #[.slice none 0 0, .slice none 0 0] 24)
    have b2 := bw_alloc (w.alloc (.cells #[.slice none 0 0, .slice none 0 0] 24)) (.cells #[.int .i64 0] 28)
    simp only [z0] at hE
    refine ⟨_, _, _, rfl, rfl, rfl, ⟨hS.bw b2, ?_, ?_, hE⟩, bw_trans b1 b2, Nat.le_refl _, by omega⟩
    · exact (Below.frozen b2 (p := ⟨_, 0, none⟩) hS.1).trans (fS 0)
    · exact (Below.frozen b2 (p := ⟨_, 1, none⟩) hS.1).trans (fS 1)
  have CP := hide (cpoles10 (cap := cap) HC.out hn (H.out.bw bW) HZ.out.1 HZ.out.2)
  have HS := hide fS
  have HB := hide bW
  have HQ : Hid (w.heap.size ≤ S ∧ S < E) := ⟨q1, q2⟩
  clear fS bW q1 q2
  go_enter_defers Try.func15, Try.ntmps15
  go_wp2_with fail
  rw [← eW, ← eE, ← eS]
  clear eW eE eS
  refine CP.out.mono ?_
  clear CP
  rintro e' w3 ⟨rfl, b3⟩
  replace HS := hide (HS.out.bw b3)
  replace HB := hide (bw_trans HB.out b3)
  clear b3
  obtain ⟨⟨hlt, _, _⟩, _, _, hlt2, g0, g1⟩ := HS.out
  have y2 := set_self g0
  have hWk := Wk.made w3 64
  have b4 := bw_alloc w3 (.cells #[.int .i64 0] 64)
  have hGt := Gw.made c (w3.alloc (.cells #[.int .i64 0] 64)) n 27
  have b5 := bw_alloc (w3.alloc (.cells #[.int .i64 0] 64)) (.cells (zcC n) 27)
  simp only [z0] at hGt
  have KN : Hid (w3.heap.size ≠ S ∧ w3.heap.size + 1 ≠ S ∧ E ≠ S ∧ w.heap.size ≤ w3.heap.size + 1 ∧ w3.heap.size ≠ w3.heap.size + 1 ∧ E ≠ w3.heap.size + 1) := by
    have := Below.size HB.out; have := HQ.out; show _ ∧ _; omega
  have HK := hide (hWk.bw b5)
  have HGT := hide hGt
  replace HS := hide ((HS.out.bw b4).bw b5)
  replace HB := hide (bw_trans (bw_trans HB.out b4) b5)
  clear hWk hGt b4 b5 hlt hlt2 z0
  go_wp2
  clear y2 g0 g1 hmk
  generalize (w3.alloc (.cells #[.int .i64 0] 64)).alloc (.cells (zcC n) 27) = W5 at *
  generalize w3.heap.size + 1 = Bt at *
  generalize w3.heap.size = Wb at *
  go_loopw [25] (fun i wr => ∃ (k : Nat) (L : List Py.G), k ≤ n ∧ i = .int .i64 k ∧ L.length = n ∧ Gw c wr Bt L ∧ (∀ i, i < k → Py.co L i = Py.co zs i) ∧ Fw wr S E (.slice none 0 0) (.slice none 0 0) 0 ∧ Wk wr Wb ∧ Bw w wr) (fun i _ => n - (intOf i).toNat)
  case atStart => exact ⟨0, _, Nat.zero_le _, rfl, by simp, HGT.out, fun i hi => by omega, HS.out, HK.out, HB.out⟩
  case round =>
    obtain ⟨k, L, hk, rfl, hL, hw, hco, hS, hK, hbw⟩ := hrel
    clear HGT HS HK HB
    by_cases hk1 : k < n
    · have hk2 : (k : Int) < n := by omega
      obtain ⟨b, rfl, hb, hcell⟩ := (H.out.bw hbw).2.2.resolve_left (by omega)
      obtain ⟨x, y, u, v, e1, e2, q1, q2⟩ := hcell k hk1
      have bA := bw_alloc wr (.cells #[.complex .f64 x y, .complex .f64 u v] 42)
      have hw2 := hw.bw bA
      obtain ⟨x0, y0, e3, _⟩ := hw2.1.2 k (by omega)
      have e4 := hw2.2 k
      rw [Nat.zero_add] at e3
      have R : Hid (Gw c ((wr.alloc (.cells #[.complex .f64 x y, .complex .f64 u v] 42)).setCell ⟨Bt, k, none⟩ (.complex .f64 x y)) Bt (L.set k (Py.co zs k)) ∧ (∀ i, i < k + 1 → Py.co (L.set k (Py.co zs k)) i = Py.co zs i) ∧ Fw ((wr.alloc (.cells #[.complex .f64 x y, .complex .f64 u v] 42)).setCell ⟨Bt, k, none⟩ (.complex .f64 x y)) S E (.slice none 0 0) (.slice none 0 0) 0 ∧ Wk ((wr.alloc (.cells #[.complex .f64 x y, .complex .f64 u v] 42)).setCell ⟨Bt, k, none⟩ (.complex .f64 x y)) Wb ∧ Bw w ((wr.alloc (.cells #[.complex .f64 x y, .complex .f64 u v] 42)).setCell ⟨Bt, k, none⟩ (.complex .f64 x y))) := by
        refine ⟨hw2.set k x y _ (by omega) q1, fun i hi => ?_, ?_, (hK.bw bA).apart (by have := KN.out; omega) _ _, bw_set (bw_trans hbw bA) (by have := KN.out; omega) _ _⟩
        · rw [Py.co_set _ _ _ _ (by omega)]
          by_cases z : i = k
          · subst z; rw [if_pos rfl]
          · rw [if_neg z]; exact hco i (by omega)
        · have hS2 := hS.bw bA
          exact ⟨hS2.1.apart (by have := KN.out; omega) _ _, (World.frozen?_setCell _ _ _ _).trans hS2.2.1, (World.frozen?_setCell _ _ _ _).trans hS2.2.2.1, Wk0.apart hS2.2.2.2 (by have := KN.out; have := HQ.out; omega) _ _⟩
      have HLL := hide hL
      clear hL hw hco hS hK hbw hw2 q1 q2 hcell bA
      rcases (show k = 0 ∨ k = 1 ∨ k = 2 by omega) with rfl | rfl | rfl
      · go_wp2
        go_roundw
        case rel => exact ⟨1, _, by omega, by simp, by rw [List.length_set]; exact HLL.out, R.out.1, R.out.2.1, R.out.2.2.1, R.out.2.2.2.1, R.out.2.2.2.2⟩
        case measure => simp [intOf]; omega
      · go_wp2
        go_roundw
        case rel => exact ⟨2, _, by omega, by simp, by rw [List.length_set]; exact HLL.out, R.out.1, R.out.2.1, R.out.2.2.1, R.out.2.2.2.1, R.out.2.2.2.2⟩
        case measure => simp [intOf]; omega
      · go_wp2
        go_roundw
        case rel => exact ⟨3, _, by omega, by simp, by rw [List.length_set]; exact HLL.out, R.out.1, R.out.2.1, R.out.2.2.1, R.out.2.2.2.1, R.out.2.2.2.2⟩
        case measure => simp [intOf]; omega
    · have hk3 : n = k := by omega
      subst hk3
      have hLz : zs = L := (Py.list_ext (by rw [hL, H.out.1]) (fun i hi => hco i (by omega))).symm
      subst hLz
      obtain ⟨F, xF, yF⟩ := hw.1.wf hL
      have XF := hide xF
      have YF := hide yF
      have HLL := hide hL
      have HS := hide hS
      have HK := hide hK
      have HB := hide hbw
      have HW := hide hw
      clear xF yF hL hS hK hbw hw hco hk hk1
      go_wp2_with fail
      refine (wof10 (Z := 12) HC.out HK.out HLL.out (by omega) HW.out.1 HZ.out.1 (by omega) (Nat.le_trans (Nat.pow_le_pow_right (by omega) hn) (by decide))).mono ?_
      intro e' w6 h6
      obtain ⟨B2, p2, l2, rfl, M2, N2, Q2, H2, K2, C2⟩ := h6.use
      have hp2 : n = p2 := by
        have hne : Py.co l2 n ≠ (0, 0) := by
          have := Py.ofl_last [(1, 0)] zs rfl (by simp)
          rw [HLL.out, show [((1 : Int), (0 : Int))].length + n - 1 = n by simp] at this
          rw [C2, this]
          decide
        have : n < p2 + 1 := by
          rcases Nat.lt_or_ge n (p2 + 1) with k | k
          · exact k
          · exact absurd (Py.co_out (by have := M2.1; omega)) hne
        omega
      subst hp2
      have hB2 : Hid (B2 ≠ S) := by have := HS.out.1.1; show B2 ≠ S; omega
      replace HS := hide (HS.out.bw K2)
      replace HK := hide (HK.out.bw K2)
      replace HB := hide (bw_trans HB.out K2)
      replace XF := hide (XF.out.bw K2)
      have Q2' := hide Q2
      have M2' : Hid (May n l2 ∧ Nz n l2 ∧ ∀ i, Py.co l2 i = Py.co (Py.ofl [(1, 0)] zs) i) := by
        refine ⟨M2, Or.inr ?_, C2⟩
        have := Py.ofl_last [(1, 0)] zs rfl (by simp)
        rw [HLL.out, show [((1 : Int), (0 : Int))].length + n - 1 = n by simp] at this
        rw [C2, this]
        decide
      clear h6 M2 N2 Q2 H2 K2 C2 HW
      obtain ⟨⟨hlt, d0, d1⟩, f0, f1, _, g0, g1⟩ := HS.out
      have HX : Hid (May n l2) := M2'.out.1
      have G7 := hide (HS.out.bottom KN.out.2.2.1 (.slice (some ⟨B2, 0, none⟩) (n + 1) (n + 1)))
      replace G7 := hide (G7.out.top KN.out.2.2.1 (.slice (some ⟨w6.heap.size, 0, none⟩) 1 1))
      have K7 := hide ((HK.out.apart KN.out.1 1 (.slice (some ⟨B2, 0, none⟩) (n + 1) (n + 1))).apart KN.out.1 0 (.slice (some ⟨w6.heap.size, 0, none⟩) 1 1))
      have X7 := hide ((XF.out.set KN.out.2.1 1 (.slice (some ⟨B2, 0, none⟩) (n + 1) (n + 1))).set KN.out.2.1 0 (.slice (some ⟨w6.heap.size, 0, none⟩) 1 1))
      have J7 := hide (gl_set (gl_set Q2'.out hB2.out 1 (.slice (some ⟨B2, 0, none⟩) (n + 1) (n + 1))) hB2.out 0 (.slice (some ⟨w6.heap.size, 0, none⟩) 1 1))
      have B7 := hide (bw_set (bw_set HB.out HQ.out.1 1 (.slice (some ⟨B2, 0, none⟩) (n + 1) (n + 1))) HQ.out.1 0 (.slice (some ⟨w6.heap.size, 0, none⟩) 1 1))
      have hsz : ((w6.setCell ⟨S, 1, none⟩ (.slice (some ⟨B2, 0, none⟩) (n + 1) (n + 1))).setCell ⟨S, 0, none⟩ (.slice (some ⟨w6.heap.size, 0, none⟩) 1 1)).heap.size = w6.heap.size := by simp [World.setCell]
      have L7 : Hid (Gl c (((w6.setCell ⟨S, 1, none⟩ (.slice (some ⟨B2, 0, none⟩) (n + 1) (n + 1))).setCell ⟨S, 0, none⟩ (.slice (some ⟨w6.heap.size, 0, none⟩) 1 1)).alloc (.cells #[.complex .f64 0 0] 27)) w6.heap.size 0 [(0, 0)]) := by
        refine ⟨by rw [← hsz]; simp, fun i hi => ?_⟩
        match i, hi with
        | 0, _ => exact ⟨0, 0, by rw [World.cell?_alloc_at _ _ _ _ hsz.symm]; rfl, wC.nought c⟩
      have bA := bw_alloc ((w6.setCell ⟨S, 1, none⟩ (.slice (some ⟨B2, 0, none⟩) (n + 1) (n + 1))).setCell ⟨S, 0, none⟩ (.slice (some ⟨w6.heap.size, 0, none⟩) 1 1)) (.cells #[.complex .f64 0 0] 27)
      have BD : Hid (Bd c w (((w6.setCell ⟨S, 1, none⟩ (.slice (some ⟨B2, 0, none⟩) (n + 1) (n + 1))).setCell ⟨S, 0, none⟩ (.slice (some ⟨w6.heap.size, 0, none⟩) 1 1)).alloc (.cells #[.complex .f64 0 0] 27)) S E Wb Bt n F B2 l2 w6.heap.size 0 [(0, 0)]) :=
        ⟨G7.out.bw bA, K7.out.bw bA, X7.out.bw bA, J7.out.bw bA, L7.out, bw_trans B7.out bA⟩
      clear G7 K7 X7 J7 B7 L7 bA hsz HS HK HB XF Q2'
      go_wp2
      clear d0 d1 f0 f1 g0 g1 hlt
      generalize ((w6.setCell ⟨S, 1, none⟩ (.slice (some ⟨B2, 0, none⟩) (n + 1) (n + 1))).setCell ⟨S, 0, none⟩ (.slice (some ⟨w6.heap.size, 0, none⟩) 1 1)).alloc (.cells #[.complex .f64 0 0] 27) = W7 at *
      generalize w6.heap.size = B1 at *
      go_loopw [51] (fun i wr => ∃ (k Bk pk : Nat) (Lk : List Py.G), k ≤ n ∧ i = .int .i64 k ∧ Bd c w wr S E Wb Bt n F B2 l2 Bk pk Lk ∧ May pk Lk ∧ pk ≤ 2 ∧ (∀ i, Py.co Lk i = tt zs rs k i)) (fun i _ => n - (intOf i).toNat)
      case atStart => exact ⟨0, B1, 0, [(0, 0)], Nat.zero_le _, rfl, BD.out, May.nought, by omega, fun i => co_nought i⟩
      case round =>
        obtain ⟨k, Bk, pk, Lk, hk, rfl, hBD, hMk, hpk, hCk⟩ := hrel
        clear BD
        by_cases hk1 : k < n
        · have hk2 : (k : Int) < n := by omega
          obtain ⟨b, rfl, hb, hcell⟩ := (H.out.bw hBD.2.2.2.2.2).2.2.resolve_left (by omega)
          obtain ⟨x, y, u, v, e1, e2, q1, q2⟩ := hcell k hk1
          have bA := bw_alloc wr (.cells #[.complex .f64 x y, .complex .f64 u v] 42)
          have P8 : Hid (wr.heap.size < (wr.alloc (.cells #[.complex .f64 x y, .complex .f64 u v] 42)).heap.size ∧ (wr.alloc (.cells #[.complex .f64 x y, .complex .f64 u v] 42)).cell? ⟨wr.heap.size, 1, none⟩ = some (.complex .f64 u v)) := ⟨by simp, by simp⟩
          have D8 := hide (hBD.bw bA)
          have HR := hide q2
          have MK := hide (And.intro hMk (And.intro hpk hCk))
          clear hBD hMk hpk hCk q1 q2 hcell bA hb
          have G8 : Hid (∃ W8 Bp, W8 = wr.alloc (.cells #[.complex .f64 x y, .complex .f64 u v] 42) ∧ Bp = wr.heap.size) := ⟨_, _, rfl, rfl⟩
          obtain ⟨W8, Bp, eW8, eBp⟩ := G8.out
          rw [← eW8, ← eBp] at P8
          rw [← eW8] at D8
          clear G8
          rcases (show k = 0 ∨ k = 1 ∨ k = 2 by omega) with rfl | rfl | rfl
          · go_wp2_with fail
            rw [← eW8, ← eBp]
            clear eW8 eBp e1 e2
            have S0 : W8.drew.cell? ⟨S, 0, none⟩ = some (.slice (some ⟨Bk, 0, none⟩) (pk + 1) (pk + 1)) ∧ W8.drew.cell? ⟨Bp, 1, none⟩ = some (.complex .f64 u v) := ⟨D8.out.1.1.2.1, P8.out.2⟩
            replace D8 := hide (D8.out.bw (Bw.drw W8))
            replace P8 := hide (show Bp < W8.drew.heap.size from P8.out.1)
            refine wp_region_K (fun w' => w'.cell? ⟨S, 0, none⟩ = some (.slice (some ⟨Bk, 0, none⟩) (pk + 1) (pk + 1)) ∧ w'.cell? ⟨Bp, 1, none⟩ = some (.complex .f64 u v)) 12 13 #[false, false, false, false, false, false, false, false, false, false, false, false, false] (by kernel_rfl) (by kernel_rfl) (by kernel_rfl) ?_
            refine wpAnyK_take 0 56 (v := ?vq0) rfl (by kernel_rfl) (by kernel_rfl) (by kernel_rfl) (by kernel_rfl) (by kernel_rfl) (fun _ _ _ h => put_d 56 rfl (by decide) (by decide) h) rfl (Or.inl ⟨by rfl, ?hq0⟩) (by assumption) ?rq0
            case hq0 => (intro w hSw; go_simp; with_reducible rfl)
            simp only [Act.put, List.setIfInBounds_toArray, List.set_cons_zero, List.set_cons_succ]
            refine wpAnyK_take 1 57 (v := ?vq1) rfl (by kernel_rfl) (by kernel_rfl) (by kernel_rfl) (by kernel_rfl) (by kernel_rfl) (fun _ _ _ h => put_d 57 rfl (by decide) (by decide) h) rfl (Or.inl ⟨by rfl, ?hq1⟩) (by assumption) ?rq1
            case hq1 => (intro w hSw; go_simp; with_reducible rfl)
            simp only [Act.put, List.setIfInBounds_toArray, List.set_cons_zero, List.set_cons_succ]
            refine wpAnyK_take 2 58 (v := ?vq2) rfl (by kernel_rfl) (by kernel_rfl) (by kernel_rfl) (by kernel_rfl) (by kernel_rfl) (fun _ _ _ h => put_d 58 rfl (by decide) (by decide) h) rfl (Or.inl ⟨by rfl, ?hq2⟩) (by assumption) ?rq2
            case hq2 => (intro w hSw; go_simp; with_reducible rfl)
            simp only [Act.put, List.setIfInBounds_toArray, List.set_cons_zero, List.set_cons_succ]
            refine wpAnyK_take 3 59 (v := ?vq3) rfl (by kernel_rfl) (by kernel_rfl) (by kernel_rfl) (by kernel_rfl) (by kernel_rfl) (fun _ _ _ h => put_d 59 rfl (by decide) (by decide) h) rfl (Or.inl ⟨by rfl, ?hq3⟩) (by assumption) ?rq3
            case hq3 => (intro w hSw; go_simp; with_reducible rfl)
            simp only [Act.put, List.setIfInBounds_toArray, List.set_cons_zero, List.set_cons_succ]
            refine wpAnyK_take 5 61 (v := ?vq5) rfl (by kernel_rfl) (by kernel_rfl) (by kernel_rfl) (by kernel_rfl) (by kernel_rfl) (fun _ _ _ h => put_d 61 rfl (by decide) (by decide) h) rfl (Or.inl ⟨by rfl, ?hq5⟩) (by assumption) ?rq5
            case hq5 => (intro w hSw; go_simp; with_reducible rfl)
            simp only [Act.put, List.setIfInBounds_toArray, List.set_cons_zero, List.set_cons_succ]
            refine wpAnyK_take 6 62 (v := ?vq6) rfl (by kernel_rfl) (by kernel_rfl) (by kernel_rfl) (by kernel_rfl) (by kernel_rfl) (fun _ _ _ h => put_d 62 rfl (by decide) (by decide) h) rfl (Or.inl ⟨by rfl, ?hq6⟩) (by assumption) ?rq6
            case hq6 => (intro w hSw; go_simp; with_reducible rfl)
            simp only [Act.put, List.setIfInBounds_toArray, List.set_cons_zero, List.set_cons_succ]
            generalize W8.drew = W9 at *
            clear W8
            refine wpAnyK_two 4 7 (by kernel_rfl) rfl rfl (fun K hK => ?_) (fun K hK => ?_)
            · go_simp
              have bB := bw_alloc W9 (.cells #[.complex .f64 u v] 27)
              have GR : Hid (Gl c (W9.alloc (.cells #[.complex .f64 u v] 27)) W9.heap.size 0 [Py.co rs 0]) := by
                refine ⟨by simp, fun i hi => ?_⟩
                match i, hi with
                | 0, _ => exact ⟨u, v, by simp, HR.out⟩
              replace D8 := hide (D8.out.bw bB)
              have S1 : (W9.alloc (.cells #[.complex .f64 u v] 27)).cell? ⟨S, 0, none⟩ = some (.slice (some ⟨Bk, 0, none⟩) (pk + 1) (pk + 1)) ∧ (W9.alloc (.cells #[.complex .f64 u v] 27)).cell? ⟨Bp, 1, none⟩ = some (.complex .f64 u v) := ⟨D8.out.1.1.2.1, (Below.cell bB (p := ⟨Bp, 1, none⟩) P8.out).trans S0.2⟩
              replace P8 := hide (Nat.lt_of_lt_of_le P8.out (Below.size bB))
              clear bB S0
              refine hK.out _ _ (fun _ _ => S1) ?_
              clear hK K
              simp only [List.setIfInBounds_toArray, List.set_cons_zero, List.set_cons_succ]
              have S0 := S1
              clear S1
              generalize W9.alloc (.cells #[.complex .f64 u v] 27) = W9x at *
              generalize W9.heap.size = Br at *
              try clear W9
              refine wpAnyK_one 7 (by kernel_rfl) rfl (fun K hK => ?_)
              go_simp
              go_wp2_with (go_at_call 47; refine (without10 (k := 0) hn (by omega) D8.out.2.2.1).mono ?_; rintro e' w20 ⟨rfl, xo, bC⟩; have XO := hide (xo.gl (wl_rm HLL.out YF.out 0)); clear xo; replace D8 := hide (D8.out.bw bC); have S1 : w20.cell? ⟨S, 0, none⟩ = some (.slice (some ⟨Bk, 0, none⟩) (pk + 1) (pk + 1)) ∧ w20.cell? ⟨Bp, 1, none⟩ = some (.complex .f64 u v) := ⟨D8.out.1.1.2.1, (Below.cell bC (p := ⟨Bp, 1, none⟩) P8.out).trans S0.2⟩; replace P8 := hide (Nat.lt_of_lt_of_le P8.out (Below.size bC)); replace GR := hide (GR.out.bw bC); clear bC S0)
              refine hK.out _ _ (fun _ _ => S1) ?_
              clear hK K
              simp only [List.setIfInBounds_toArray, List.set_cons_zero, List.set_cons_succ]
              have S0 := S1
              clear S1
              generalize W9x.heap.size = Bo0 at *
              refine wpAnyK_one 8 (by kernel_rfl) rfl (fun K hK => ?_)
              go_simp
              go_wp2_with (go_at_call 46; refine (wof10 (Z := 12) HC.out D8.out.2.1 (by rw [rm_len, HLL.out]) (by omega) XO.out (rm_le HZ.out.1 0) (by omega) (Nat.le_trans (Nat.pow_le_pow_right (by omega) (show n - 1 ≤ 2 by omega)) (by decide))).mono ?_; intro e' w21 h21; obtain ⟨Bo, po, lo, rfl, mo, no, qo, _, bC, co'⟩ := h21.use; have QO := hide qo; have MO : Hid (May po lo ∧ po ≤ 2 ∧ (∀ i, Py.co lo i = Py.co (Py.ofl [(1, 0)] (rm zs 0)) i) ∧ ∀ i, Py.Le (Py.co lo i) 169) := ⟨mo, by omega, co', fun i => by rw [co']; have h1 := ofl_le12 (rm_le HZ.out.1 0) i; rw [rm_len, HLL.out] at h1; exact h1.mono (Nat.le_trans (Nat.pow_le_pow_right (by omega) (show n - 1 ≤ 2 by omega)) (by decide))⟩; clear h21 mo no qo co'; replace D8 := hide (D8.out.bw bC); have S1 : w21.cell? ⟨S, 0, none⟩ = some (.slice (some ⟨Bk, 0, none⟩) (pk + 1) (pk + 1)) ∧ w21.cell? ⟨Bp, 1, none⟩ = some (.complex .f64 u v) := ⟨D8.out.1.1.2.1, (Below.cell bC (p := ⟨Bp, 1, none⟩) P8.out).trans S0.2⟩; replace P8 := hide (Nat.lt_of_lt_of_le P8.out (Below.size bC)); replace GR := hide (GR.out.bw bC); clear bC S0)
              refine hK.out _ _ (fun _ _ => S1) ?_
              clear hK K
              simp only [List.setIfInBounds_toArray, List.set_cons_zero, List.set_cons_succ]
              have S0 := S1
              clear S1
              refine wpAnyK_one 9 (by kernel_rfl) rfl (fun K hK => ?_)
              go_simp
              go_wp2_with (go_at_call 37; refine (wmul10 (n := 0) (A := 12) (A' := 169) HC.out D8.out.2.1 (may_one (HZ.out.2 0)) GR.out MO.out.1 QO.out (one_le12 (HZ.out.2 0)) MO.out.2.2.2 (by omega) (by have := MO.out.2.1; omega)).mono ?_; intro e' w22 h22; obtain ⟨Bm, pm, lm, rfl, mm, nm, qm, _, bC, cm⟩ := h22.use; have QM := hide qm; have MM : Hid (May pm lm ∧ pm ≤ 2 ∧ (∀ i, Py.co lm i = Py.gm (Py.co rs 0) (Py.co (Py.ofl [(1, 0)] (rm zs 0)) i)) ∧ ∀ i, Py.Le (Py.co lm i) 2028) := ⟨mm, by have := MO.out.2.1; omega, fun i => by rw [cm, ts_one, MO.out.2.2.1], fun i => by rw [cm, ts_one]; exact ((HZ.out.2 0).mul (MO.out.2.2.2 i)).mono (by decide)⟩; clear h22 mm nm qm cm; replace D8 := hide (D8.out.bw bC); have S1 : w22.cell? ⟨S, 0, none⟩ = some (.slice (some ⟨Bk, 0, none⟩) (pk + 1) (pk + 1)) ∧ w22.cell? ⟨Bp, 1, none⟩ = some (.complex .f64 u v) := ⟨D8.out.1.1.2.1, (Below.cell bC (p := ⟨Bp, 1, none⟩) P8.out).trans S0.2⟩; replace P8 := hide (Nat.lt_of_lt_of_le P8.out (Below.size bC)); clear bC S0 GR QO)
              refine hK.out _ _ (fun _ _ => S1) ?_
              clear hK K
              simp only [List.setIfInBounds_toArray, List.set_cons_zero, List.set_cons_succ]
              have S0 := S1
              clear S1
              refine wpAnyK_one 10 (by kernel_rfl) rfl (fun K hK => ?_)
              go_simp
              go_wp2_with (go_at_call 36; refine (wadd10 (A := 6084) (A' := 2028) HC.out D8.out.2.1 MK.out.1 D8.out.2.2.2.2.1 MM.out.1 QM.out.1 (fun i => by rw [MK.out.2.2]; exact tt_le6 HZ.out.1 HZ.out.2 (by rw [HLL.out]; exact hn) 0 (by omega) i) MM.out.2.2.2 (by omega)).mono ?_; intro e' w23 h23; obtain ⟨Bn, pn, ln, rfl, mn, nn, qn, hBn, bC, cn⟩ := h23.use; have hBnS : Hid (Bn ≠ S) := (by have := D8.out.1.1.1; show Bn ≠ S; omega); have QN := hide qn; have MN : Hid (May pn ln ∧ pn ≤ 2 ∧ ∀ i, Py.co ln i = tt zs rs (0 + 1) i) := ⟨mn, by have := MK.out.2.1; have := MM.out.2.1; omega, fun i => by rw [cn, MK.out.2.2, MM.out.2.2.1]; rfl⟩; clear h23 mn nn qn cn hBn; replace D8 := hide (D8.out.bw bC); have S1 : w23.cell? ⟨S, 0, none⟩ = some (.slice (some ⟨Bk, 0, none⟩) (pk + 1) (pk + 1)) ∧ w23.cell? ⟨Bp, 1, none⟩ = some (.complex .f64 u v) := ⟨D8.out.1.1.2.1, (Below.cell bC (p := ⟨Bp, 1, none⟩) P8.out).trans S0.2⟩; replace P8 := hide (Nat.lt_of_lt_of_le P8.out (Below.size bC)); clear bC S0 QM)
              refine hK.out _ _ (fun _ _ => S1) ?_
              clear hK K
              simp only [List.setIfInBounds_toArray, List.set_cons_zero, List.set_cons_succ]
              have S0 := S1
              clear S1
              refine wpAnyK_take 11 67 (v := ?vqzb11) rfl (by kernel_rfl) (by kernel_rfl) (by kernel_rfl) (by kernel_rfl) (by kernel_rfl) (fun _ _ _ h => put_d 67 rfl (by decide) (by decide) h) rfl (Or.inl ⟨by rfl, ?hqzb11⟩) (by assumption) ?rqzb11
              case hqzb11 => (intro w hSw; go_simp; with_reducible rfl)
              simp only [Act.put, List.setIfInBounds_toArray, List.set_cons_zero, List.set_cons_succ]
              obtain ⟨⟨hlt, d0, d1⟩, f0, f1, _, g0, g1⟩ := D8.out.1
              have DN : Hid (Bd c w (w23.setCell ⟨S, 0, none⟩ (.slice (some ⟨Bn, 0, none⟩) (pn + 1) (pn + 1))) S E Wb Bt n F B2 l2 Bn pn ln) :=
                ⟨D8.out.1.top KN.out.2.2.1 (.slice (some ⟨Bn, 0, none⟩) (pn + 1) (pn + 1)), D8.out.2.1.apart KN.out.1 0 (.slice (some ⟨Bn, 0, none⟩) (pn + 1) (pn + 1)), D8.out.2.2.1.set KN.out.2.1 0 (.slice (some ⟨Bn, 0, none⟩) (pn + 1) (pn + 1)), gl_set D8.out.2.2.2.1 hB2.out 0 (.slice (some ⟨Bn, 0, none⟩) (pn + 1) (pn + 1)), gl_set QN.out hBnS.out 0 (.slice (some ⟨Bn, 0, none⟩) (pn + 1) (pn + 1)), bw_set D8.out.2.2.2.2.2 HQ.out.1 0 (.slice (some ⟨Bn, 0, none⟩) (pn + 1) (pn + 1))⟩
              clear D8 QN P8 S0
              refine wpAnyK_one 12 (by kernel_rfl) rfl (fun K hK => ?_)
              go_simp
              refine hK.out _ _ (fun h => absurd rfl h) ?_
              clear hK K
              simp only [List.setIfInBounds_toArray, List.set_cons_zero, List.set_cons_succ]
              refine wpAnyK_done (by kernel_rfl) ?_ _
              clear d0 d1 f0 f1 g0 g1 hlt
              go_wp2
              go_roundw
              case rel => exact ⟨0 + 1, Bn, pn, ln, by omega, by simp, DN.out, MN.out.1, MN.out.2.1, MN.out.2.2⟩
              case measure => simp [intOf]; omega
            · go_simp
              go_wp2_with (go_at_call 47; refine (without10 (k := 0) hn (by omega) D8.out.2.2.1).mono ?_; rintro e' w20 ⟨rfl, xo, bC⟩; have XO := hide (xo.gl (wl_rm HLL.out YF.out 0)); clear xo; replace D8 := hide (D8.out.bw bC); have S1 : w20.cell? ⟨S, 0, none⟩ = some (.slice (some ⟨Bk, 0, none⟩) (pk + 1) (pk + 1)) ∧ w20.cell? ⟨Bp, 1, none⟩ = some (.complex .f64 u v) := ⟨D8.out.1.1.2.1, (Below.cell bC (p := ⟨Bp, 1, none⟩) P8.out).trans S0.2⟩; replace P8 := hide (Nat.lt_of_lt_of_le P8.out (Below.size bC)); clear bC S0)
              refine hK.out _ _ (fun _ _ => S1) ?_
              clear hK K
              simp only [List.setIfInBounds_toArray, List.set_cons_zero, List.set_cons_succ]
              have S0 := S1
              clear S1
              generalize W9.heap.size = Bo0 at *
              refine wpAnyK_two 4 8 (by kernel_rfl) rfl rfl (fun K hK => ?_) (fun K hK => ?_)
              · go_simp
                have bB := bw_alloc w20 (.cells #[.complex .f64 u v] 27)
                have GR : Hid (Gl c (w20.alloc (.cells #[.complex .f64 u v] 27)) w20.heap.size 0 [Py.co rs 0]) := by
                  refine ⟨by simp, fun i hi => ?_⟩
                  match i, hi with
                  | 0, _ => exact ⟨u, v, by simp, HR.out⟩
                replace D8 := hide (D8.out.bw bB)
                have S1 : (w20.alloc (.cells #[.complex .f64 u v] 27)).cell? ⟨S, 0, none⟩ = some (.slice (some ⟨Bk, 0, none⟩) (pk + 1) (pk + 1)) ∧ (w20.alloc (.cells #[.complex .f64 u v] 27)).cell? ⟨Bp, 1, none⟩ = some (.complex .f64 u v) := ⟨D8.out.1.1.2.1, (Below.cell bB (p := ⟨Bp, 1, none⟩) P8.out).trans S0.2⟩
                replace P8 := hide (Nat.lt_of_lt_of_le P8.out (Below.size bB))
                replace XO := hide (XO.out.bw bB)
                clear bB S0
                refine hK.out _ _ (fun _ _ => S1) ?_
                clear hK K
                simp only [List.setIfInBounds_toArray, List.set_cons_zero, List.set_cons_succ]
                have S0 := S1
                clear S1
                generalize w20.alloc (.cells #[.complex .f64 u v] 27) = w20x at *
                generalize w20.heap.size = Br at *
                try clear w20
                refine wpAnyK_one 8 (by kernel_rfl) rfl (fun K hK => ?_)
                go_simp
                go_wp2_with (go_at_call 46; refine (wof10 (Z := 12) HC.out D8.out.2.1 (by rw [rm_len, HLL.out]) (by omega) XO.out (rm_le HZ.out.1 0) (by omega) (Nat.le_trans (Nat.pow_le_pow_right (by omega) (show n - 1 ≤ 2 by omega)) (by decide))).mono ?_; intro e' w21 h21; obtain ⟨Bo, po, lo, rfl, mo, no, qo, _, bC, co'⟩ := h21.use; have QO := hide qo; have MO : Hid (May po lo ∧ po ≤ 2 ∧ (∀ i, Py.co lo i = Py.co (Py.ofl [(1, 0)] (rm zs 0)) i) ∧ ∀ i, Py.Le (Py.co lo i) 169) := ⟨mo, by omega, co', fun i => by rw [co']; have h1 := ofl_le12 (rm_le HZ.out.1 0) i; rw [rm_len, HLL.out] at h1; exact h1.mono (Nat.le_trans (Nat.pow_le_pow_right (by omega) (show n - 1 ≤ 2 by omega)) (by decide))⟩; clear h21 mo no qo co'; replace D8 := hide (D8.out.bw bC); have S1 : w21.cell? ⟨S, 0, none⟩ = some (.slice (some ⟨Bk, 0, none⟩) (pk + 1) (pk + 1)) ∧ w21.cell? ⟨Bp, 1, none⟩ = some (.complex .f64 u v) := ⟨D8.out.1.1.2.1, (Below.cell bC (p := ⟨Bp, 1, none⟩) P8.out).trans S0.2⟩; replace P8 := hide (Nat.lt_of_lt_of_le P8.out (Below.size bC)); replace GR := hide (GR.out.bw bC); clear bC S0)
                refine hK.out _ _ (fun _ _ => S1) ?_
                clear hK K
                simp only [List.setIfInBounds_toArray, List.set_cons_zero, List.set_cons_succ]
                have S0 := S1
                clear S1
                refine wpAnyK_one 9 (by kernel_rfl) rfl (fun K hK => ?_)
                go_simp
                go_wp2_with (go_at_call 37; refine (wmul10 (n := 0) (A := 12) (A' := 169) HC.out D8.out.2.1 (may_one (HZ.out.2 0)) GR.out MO.out.1 QO.out (one_le12 (HZ.out.2 0)) MO.out.2.2.2 (by omega) (by have := MO.out.2.1; omega)).mono ?_; intro e' w22 h22; obtain ⟨Bm, pm, lm, rfl, mm, nm, qm, _, bC, cm⟩ := h22.use; have QM := hide qm; have MM : Hid (May pm lm ∧ pm ≤ 2 ∧ (∀ i, Py.co lm i = Py.gm (Py.co rs 0) (Py.co (Py.ofl [(1, 0)] (rm zs 0)) i)) ∧ ∀ i, Py.Le (Py.co lm i) 2028) := ⟨mm, by have := MO.out.2.1; omega, fun i => by rw [cm, ts_one, MO.out.2.2.1], fun i => by rw [cm, ts_one]; exact ((HZ.out.2 0).mul (MO.out.2.2.2 i)).mono (by decide)⟩; clear h22 mm nm qm cm; replace D8 := hide (D8.out.bw bC); have S1 : w22.cell? ⟨S, 0, none⟩ = some (.slice (some ⟨Bk, 0, none⟩) (pk + 1) (pk + 1)) ∧ w22.cell? ⟨Bp, 1, none⟩ = some (.complex .f64 u v) := ⟨D8.out.1.1.2.1, (Below.cell bC (p := ⟨Bp, 1, none⟩) P8.out).trans S0.2⟩; replace P8 := hide (Nat.lt_of_lt_of_le P8.out (Below.size bC)); clear bC S0 GR QO)
                refine hK.out _ _ (fun _ _ => S1) ?_
                clear hK K
                simp only [List.setIfInBounds_toArray, List.set_cons_zero, List.set_cons_succ]
                have S0 := S1
                clear S1
                refine wpAnyK_one 10 (by kernel_rfl) rfl (fun K hK => ?_)
                go_simp
                go_wp2_with (go_at_call 36; refine (wadd10 (A := 6084) (A' := 2028) HC.out D8.out.2.1 MK.out.1 D8.out.2.2.2.2.1 MM.out.1 QM.out.1 (fun i => by rw [MK.out.2.2]; exact tt_le6 HZ.out.1 HZ.out.2 (by rw [HLL.out]; exact hn) 0 (by omega) i) MM.out.2.2.2 (by omega)).mono ?_; intro e' w23 h23; obtain ⟨Bn, pn, ln, rfl, mn, nn, qn, hBn, bC, cn⟩ := h23.use; have hBnS : Hid (Bn ≠ S) := (by have := D8.out.1.1.1; show Bn ≠ S; omega); have QN := hide qn; have MN : Hid (May pn ln ∧ pn ≤ 2 ∧ ∀ i, Py.co ln i = tt zs rs (0 + 1) i) := ⟨mn, by have := MK.out.2.1; have := MM.out.2.1; omega, fun i => by rw [cn, MK.out.2.2, MM.out.2.2.1]; rfl⟩; clear h23 mn nn qn cn hBn; replace D8 := hide (D8.out.bw bC); have S1 : w23.cell? ⟨S, 0, none⟩ = some (.slice (some ⟨Bk, 0, none⟩) (pk + 1) (pk + 1)) ∧ w23.cell? ⟨Bp, 1, none⟩ = some (.complex .f64 u v) := ⟨D8.out.1.1.2.1, (Below.cell bC (p := ⟨Bp, 1, none⟩) P8.out).trans S0.2⟩; replace P8 := hide (Nat.lt_of_lt_of_le P8.out (Below.size bC)); clear bC S0 QM)
                refine hK.out _ _ (fun _ _ => S1) ?_
                clear hK K
                simp only [List.setIfInBounds_toArray, List.set_cons_zero, List.set_cons_succ]
                have S0 := S1
                clear S1
                refine wpAnyK_take 11 67 (v := ?vqzc11) rfl (by kernel_rfl) (by kernel_rfl) (by kernel_rfl) (by kernel_rfl) (by kernel_rfl) (fun _ _ _ h => put_d 67 rfl (by decide) (by decide) h) rfl (Or.inl ⟨by rfl, ?hqzc11⟩) (by assumption) ?rqzc11
                case hqzc11 => (intro w hSw; go_simp; with_reducible rfl)
                simp only [Act.put, List.setIfInBounds_toArray, List.set_cons_zero, List.set_cons_succ]
                obtain ⟨⟨hlt, d0, d1⟩, f0, f1, _, g0, g1⟩ := D8.out.1
                have DN : Hid (Bd c w (w23.setCell ⟨S, 0, none⟩ (.slice (some ⟨Bn, 0, none⟩) (pn + 1) (pn + 1))) S E Wb Bt n F B2 l2 Bn pn ln) :=
                  ⟨D8.out.1.top KN.out.2.2.1 (.slice (some ⟨Bn, 0, none⟩) (pn + 1) (pn + 1)), D8.out.2.1.apart KN.out.1 0 (.slice (some ⟨Bn, 0, none⟩) (pn + 1) (pn + 1)), D8.out.2.2.1.set KN.out.2.1 0 (.slice (some ⟨Bn, 0, none⟩) (pn + 1) (pn + 1)), gl_set D8.out.2.2.2.1 hB2.out 0 (.slice (some ⟨Bn, 0, none⟩) (pn + 1) (pn + 1)), gl_set QN.out hBnS.out 0 (.slice (some ⟨Bn, 0, none⟩) (pn + 1) (pn + 1)), bw_set D8.out.2.2.2.2.2 HQ.out.1 0 (.slice (some ⟨Bn, 0, none⟩) (pn + 1) (pn + 1))⟩
                clear D8 QN P8 S0
                refine wpAnyK_one 12 (by kernel_rfl) rfl (fun K hK => ?_)
                go_simp
                refine hK.out _ _ (fun h => absurd rfl h) ?_
                clear hK K
                simp only [List.setIfInBounds_toArray, List.set_cons_zero, List.set_cons_succ]
                refine wpAnyK_done (by kernel_rfl) ?_ _
                clear d0 d1 f0 f1 g0 g1 hlt
                go_wp2
                go_roundw
                case rel => exact ⟨0 + 1, Bn, pn, ln, by omega, by simp, DN.out, MN.out.1, MN.out.2.1, MN.out.2.2⟩
                case measure => simp [intOf]; omega
              · go_simp
                go_wp2_with (go_at_call 46; refine (wof10 (Z := 12) HC.out D8.out.2.1 (by rw [rm_len, HLL.out]) (by omega) XO.out (rm_le HZ.out.1 0) (by omega) (Nat.le_trans (Nat.pow_le_pow_right (by omega) (show n - 1 ≤ 2 by omega)) (by decide))).mono ?_; intro e' w21 h21; obtain ⟨Bo, po, lo, rfl, mo, no, qo, _, bC, co'⟩ := h21.use; have QO := hide qo; have MO : Hid (May po lo ∧ po ≤ 2 ∧ (∀ i, Py.co lo i = Py.co (Py.ofl [(1, 0)] (rm zs 0)) i) ∧ ∀ i, Py.Le (Py.co lo i) 169) := ⟨mo, by omega, co', fun i => by rw [co']; have h1 := ofl_le12 (rm_le HZ.out.1 0) i; rw [rm_len, HLL.out] at h1; exact h1.mono (Nat.le_trans (Nat.pow_le_pow_right (by omega) (show n - 1 ≤ 2 by omega)) (by decide))⟩; clear h21 mo no qo co'; replace D8 := hide (D8.out.bw bC); have S1 : w21.cell? ⟨S, 0, none⟩ = some (.slice (some ⟨Bk, 0, none⟩) (pk + 1) (pk + 1)) ∧ w21.cell? ⟨Bp, 1, none⟩ = some (.complex .f64 u v) := ⟨D8.out.1.1.2.1, (Below.cell bC (p := ⟨Bp, 1, none⟩) P8.out).trans S0.2⟩; replace P8 := hide (Nat.lt_of_lt_of_le P8.out (Below.size bC)); clear bC S0)
                refine hK.out _ _ (fun _ _ => S1) ?_
                clear hK K
                simp only [List.setIfInBounds_toArray, List.set_cons_zero, List.set_cons_succ]
                have S0 := S1
                clear S1
                refine wpAnyK_one 4 (by kernel_rfl) rfl (fun K hK => ?_)
                go_simp
                have bB := bw_alloc w21 (.cells #[.complex .f64 u v] 27)
                have GR : Hid (Gl c (w21.alloc (.cells #[.complex .f64 u v] 27)) w21.heap.size 0 [Py.co rs 0]) := by
                  refine ⟨by simp, fun i hi => ?_⟩
                  match i, hi with
                  | 0, _ => exact ⟨u, v, by simp, HR.out⟩
                replace D8 := hide (D8.out.bw bB)
                have S1 : (w21.alloc (.cells #[.complex .f64 u v] 27)).cell? ⟨S, 0, none⟩ = some (.slice (some ⟨Bk, 0, none⟩) (pk + 1) (pk + 1)) ∧ (w21.alloc (.cells #[.complex .f64 u v] 27)).cell? ⟨Bp, 1, none⟩ = some (.complex .f64 u v) := ⟨D8.out.1.1.2.1, (Below.cell bB (p := ⟨Bp, 1, none⟩) P8.out).trans S0.2⟩
                replace P8 := hide (Nat.lt_of_lt_of_le P8.out (Below.size bB))
                replace QO := hide (QO.out.bw bB)
                clear bB S0
                refine hK.out _ _ (fun _ _ => S1) ?_
                clear hK K
                simp only [List.setIfInBounds_toArray, List.set_cons_zero, List.set_cons_succ]
                have S0 := S1
                clear S1
                generalize w21.alloc (.cells #[.complex .f64 u v] 27) = w21x at *
                generalize w21.heap.size = Br at *
                try clear w21
                refine wpAnyK_one 9 (by kernel_rfl) rfl (fun K hK => ?_)
                go_simp
                go_wp2_with (go_at_call 37; refine (wmul10 (n := 0) (A := 12) (A' := 169) HC.out D8.out.2.1 (may_one (HZ.out.2 0)) GR.out MO.out.1 QO.out (one_le12 (HZ.out.2 0)) MO.out.2.2.2 (by omega) (by have := MO.out.2.1; omega)).mono ?_; intro e' w22 h22; obtain ⟨Bm, pm, lm, rfl, mm, nm, qm, _, bC, cm⟩ := h22.use; have QM := hide qm; have MM : Hid (May pm lm ∧ pm ≤ 2 ∧ (∀ i, Py.co lm i = Py.gm (Py.co rs 0) (Py.co (Py.ofl [(1, 0)] (rm zs 0)) i)) ∧ ∀ i, Py.Le (Py.co lm i) 2028) := ⟨mm, by have := MO.out.2.1; omega, fun i => by rw [cm, ts_one, MO.out.2.2.1], fun i => by rw [cm, ts_one]; exact ((HZ.out.2 0).mul (MO.out.2.2.2 i)).mono (by decide)⟩; clear h22 mm nm qm cm; replace D8 := hide (D8.out.bw bC); have S1 : w22.cell? ⟨S, 0, none⟩ = some (.slice (some ⟨Bk, 0, none⟩) (pk + 1) (pk + 1)) ∧ w22.cell? ⟨Bp, 1, none⟩ = some (.complex .f64 u v) := ⟨D8.out.1.1.2.1, (Below.cell bC (p := ⟨Bp, 1, none⟩) P8.out).trans S0.2⟩; replace P8 := hide (Nat.lt_of_lt_of_le P8.out (Below.size bC)); clear bC S0 GR QO)
                refine hK.out _ _ (fun _ _ => S1) ?_
                clear hK K
                simp only [List.setIfInBounds_toArray, List.set_cons_zero, List.set_cons_succ]
                have S0 := S1
                clear S1
                refine wpAnyK_one 10 (by kernel_rfl) rfl (fun K hK => ?_)
                go_simp
                go_wp2_with (go_at_call 36; refine (wadd10 (A := 6084) (A' := 2028) HC.out D8.out.2.1 MK.out.1 D8.out.2.2.2.2.1 MM.out.1 QM.out.1 (fun i => by rw [MK.out.2.2]; exact tt_le6 HZ.out.1 HZ.out.2 (by rw [HLL.out]; exact hn) 0 (by omega) i) MM.out.2.2.2 (by omega)).mono ?_; intro e' w23 h23; obtain ⟨Bn, pn, ln, rfl, mn, nn, qn, hBn, bC, cn⟩ := h23.use; have hBnS : Hid (Bn ≠ S) := (by have := D8.out.1.1.1; show Bn ≠ S; omega); have QN := hide qn; have MN : Hid (May pn ln ∧ pn ≤ 2 ∧ ∀ i, Py.co ln i = tt zs rs (0 + 1) i) := ⟨mn, by have := MK.out.2.1; have := MM.out.2.1; omega, fun i => by rw [cn, MK.out.2.2, MM.out.2.2.1]; rfl⟩; clear h23 mn nn qn cn hBn; replace D8 := hide (D8.out.bw bC); have S1 : w23.cell? ⟨S, 0, none⟩ = some (.slice (some ⟨Bk, 0, none⟩) (pk + 1) (pk + 1)) ∧ w23.cell? ⟨Bp, 1, none⟩ = some (.complex .f64 u v) := ⟨D8.out.1.1.2.1, (Below.cell bC (p := ⟨Bp, 1, none⟩) P8.out).trans S0.2⟩; replace P8 := hide (Nat.lt_of_lt_of_le P8.out (Below.size bC)); clear bC S0 QM)
                refine hK.out _ _ (fun _ _ => S1) ?_
                clear hK K
                simp only [List.setIfInBounds_toArray, List.set_cons_zero, List.set_cons_succ]
                have S0 := S1
                clear S1
                refine wpAnyK_take 11 67 (v := ?vqzd11) rfl (by kernel_rfl) (by kernel_rfl) (by kernel_rfl) (by kernel_rfl) (by kernel_rfl) (fun _ _ _ h => put_d 67 rfl (by decide) (by decide) h) rfl (Or.inl ⟨by rfl, ?hqzd11⟩) (by assumption) ?rqzd11
                case hqzd11 => (intro w hSw; go_simp; with_reducible rfl)
                simp only [Act.put, List.setIfInBounds_toArray, List.set_cons_zero, List.set_cons_succ]
                obtain ⟨⟨hlt, d0, d1⟩, f0, f1, _, g0, g1⟩ := D8.out.1
                have DN : Hid (Bd c w (w23.setCell ⟨S, 0, none⟩ (.slice (some ⟨Bn, 0, none⟩) (pn + 1) (pn + 1))) S E Wb Bt n F B2 l2 Bn pn ln) :=
                  ⟨D8.out.1.top KN.out.2.2.1 (.slice (some ⟨Bn, 0, none⟩) (pn + 1) (pn + 1)), D8.out.2.1.apart KN.out.1 0 (.slice (some ⟨Bn, 0, none⟩) (pn + 1) (pn + 1)), D8.out.2.2.1.set KN.out.2.1 0 (.slice (some ⟨Bn, 0, none⟩) (pn + 1) (pn + 1)), gl_set D8.out.2.2.2.1 hB2.out 0 (.slice (some ⟨Bn, 0, none⟩) (pn + 1) (pn + 1)), gl_set QN.out hBnS.out 0 (.slice (some ⟨Bn, 0, none⟩) (pn + 1) (pn + 1)), bw_set D8.out.2.2.2.2.2 HQ.out.1 0 (.slice (some ⟨Bn, 0, none⟩) (pn + 1) (pn + 1))⟩
                clear D8 QN P8 S0
                refine wpAnyK_one 12 (by kernel_rfl) rfl (fun K hK => ?_)
                go_simp
                refine hK.out _ _ (fun h => absurd rfl h) ?_
                clear hK K
                simp only [List.setIfInBounds_toArray, List.set_cons_zero, List.set_cons_succ]
                refine wpAnyK_done (by kernel_rfl) ?_ _
                clear d0 d1 f0 f1 g0 g1 hlt
                go_wp2
                go_roundw
                case rel => exact ⟨0 + 1, Bn, pn, ln, by omega, by simp, DN.out, MN.out.1, MN.out.2.1, MN.out.2.2⟩
                case measure => simp [intOf]; omega
          · go_wp2_with fail
            rw [← eW8, ← eBp]
            clear eW8 eBp e1 e2
            have S0 : W8.drew.cell? ⟨S, 0, none⟩ = some (.slice (some ⟨Bk, 0, none⟩) (pk + 1) (pk + 1)) ∧ W8.drew.cell? ⟨Bp, 1, none⟩ = some (.complex .f64 u v) := ⟨D8.out.1.1.2.1, P8.out.2⟩
            replace D8 := hide (D8.out.bw (Bw.drw W8))
            replace P8 := hide (show Bp < W8.drew.heap.size from P8.out.1)
            refine wp_region_K (fun w' => w'.cell? ⟨S, 0, none⟩ = some (.slice (some ⟨Bk, 0, none⟩) (pk + 1) (pk + 1)) ∧ w'.cell? ⟨Bp, 1, none⟩ = some (.complex .f64 u v)) 12 13 #[false, false, false, false, false, false, false, false, false, false, false, false, false] (by kernel_rfl) (by kernel_rfl) (by kernel_rfl) ?_
            refine wpAnyK_take 0 56 (v := ?vw0) rfl (by kernel_rfl) (by kernel_rfl) (by kernel_rfl) (by kernel_rfl) (by kernel_rfl) (fun _ _ _ h => put_d 56 rfl (by decide) (by decide) h) rfl (Or.inl ⟨by rfl, ?hw0⟩) (by assumption) ?rw0
            case hw0 => (intro w hSw; go_simp; with_reducible rfl)
            simp only [Act.put, List.setIfInBounds_toArray, List.set_cons_zero, List.set_cons_succ]
            refine wpAnyK_take 1 57 (v := ?vw1) rfl (by kernel_rfl) (by kernel_rfl) (by kernel_rfl) (by kernel_rfl) (by kernel_rfl) (fun _ _ _ h => put_d 57 rfl (by decide) (by decide) h) rfl (Or.inl ⟨by rfl, ?hw1⟩) (by assumption) ?rw1
            case hw1 => (intro w hSw; go_simp; with_reducible rfl)
            simp only [Act.put, List.setIfInBounds_toArray, List.set_cons_zero, List.set_cons_succ]
            refine wpAnyK_take 2 58 (v := ?vw2) rfl (by kernel_rfl) (by kernel_rfl) (by kernel_rfl) (by kernel_rfl) (by kernel_rfl) (fun _ _ _ h => put_d 58 rfl (by decide) (by decide) h) rfl (Or.inl ⟨by rfl, ?hw2⟩) (by assumption) ?rw2
            case hw2 => (intro w hSw; go_simp; with_reducible rfl)
            simp only [Act.put, List.setIfInBounds_toArray, List.set_cons_zero, List.set_cons_succ]
            refine wpAnyK_take 3 59 (v := ?vw3) rfl (by kernel_rfl) (by kernel_rfl) (by kernel_rfl) (by kernel_rfl) (by kernel_rfl) (fun _ _ _ h => put_d 59 rfl (by decide) (by decide) h) rfl (Or.inl ⟨by rfl, ?hw3⟩) (by assumption) ?rw3
            case hw3 => (intro w hSw; go_simp; with_reducible rfl)
            simp only [Act.put, List.setIfInBounds_toArray, List.set_cons_zero, List.set_cons_succ]
            refine wpAnyK_take 5 61 (v := ?vw5) rfl (by kernel_rfl) (by kernel_rfl) (by kernel_rfl) (by kernel_rfl) (by kernel_rfl) (fun _ _ _ h => put_d 61 rfl (by decide) (by decide) h) rfl (Or.inl ⟨by rfl, ?hw5⟩) (by assumption) ?rw5
            case hw5 => (intro w hSw; go_simp; with_reducible rfl)
            simp only [Act.put, List.setIfInBounds_toArray, List.set_cons_zero, List.set_cons_succ]
            refine wpAnyK_take 6 62 (v := ?vw6) rfl (by kernel_rfl) (by kernel_rfl) (by kernel_rfl) (by kernel_rfl) (by kernel_rfl) (fun _ _ _ h => put_d 62 rfl (by decide) (by decide) h) rfl (Or.inl ⟨by rfl, ?hw6⟩) (by assumption) ?rw6
            case hw6 => (intro w hSw; go_simp; with_reducible rfl)
            simp only [Act.put, List.setIfInBounds_toArray, List.set_cons_zero, List.set_cons_succ]
            generalize W8.drew = W9 at *
            clear W8
            refine wpAnyK_two 4 7 (by kernel_rfl) rfl rfl (fun K hK => ?_) (fun K hK => ?_)
            · go_simp
              have bB := bw_alloc W9 (.cells #[.complex .f64 u v] 27)
              have GR : Hid (Gl c (W9.alloc (.cells #[.complex .f64 u v] 27)) W9.heap.size 0 [Py.co rs 1]) := by
                refine ⟨by simp, fun i hi => ?_⟩
                match i, hi with
                | 0, _ => exact ⟨u, v, by simp, HR.out⟩
              replace D8 := hide (D8.out.bw bB)
              have S1 : (W9.alloc (.cells #[.complex .f64 u v] 27)).cell? ⟨S, 0, none⟩ = some (.slice (some ⟨Bk, 0, none⟩) (pk + 1) (pk + 1)) ∧ (W9.alloc (.cells #[.complex .f64 u v] 27)).cell? ⟨Bp, 1, none⟩ = some (.complex .f64 u v) := ⟨D8.out.1.1.2.1, (Below.cell bB (p := ⟨Bp, 1, none⟩) P8.out).trans S0.2⟩
              replace P8 := hide (Nat.lt_of_lt_of_le P8.out (Below.size bB))
              clear bB S0
              refine hK.out _ _ (fun _ _ => S1) ?_
              clear hK K
              simp only [List.setIfInBounds_toArray, List.set_cons_zero, List.set_cons_succ]
              have S0 := S1
              clear S1
              generalize W9.alloc (.cells #[.complex .f64 u v] 27) = W9x at *
              generalize W9.heap.size = Br at *
              try clear W9
              refine wpAnyK_one 7 (by kernel_rfl) rfl (fun K hK => ?_)
              go_simp
              go_wp2_with (go_at_call 47; refine (without10 (k := 1) hn (by omega) D8.out.2.2.1).mono ?_; rintro e' w20 ⟨rfl, xo, bC⟩; have XO := hide (xo.gl (wl_rm HLL.out YF.out 1)); clear xo; replace D8 := hide (D8.out.bw bC); have S1 : w20.cell? ⟨S, 0, none⟩ = some (.slice (some ⟨Bk, 0, none⟩) (pk + 1) (pk + 1)) ∧ w20.cell? ⟨Bp, 1, none⟩ = some (.complex .f64 u v) := ⟨D8.out.1.1.2.1, (Below.cell bC (p := ⟨Bp, 1, none⟩) P8.out).trans S0.2⟩; replace P8 := hide (Nat.lt_of_lt_of_le P8.out (Below.size bC)); replace GR := hide (GR.out.bw bC); clear bC S0)
              refine hK.out _ _ (fun _ _ => S1) ?_
              clear hK K
              simp only [List.setIfInBounds_toArray, List.set_cons_zero, List.set_cons_succ]
              have S0 := S1
              clear S1
              generalize W9x.heap.size = Bo0 at *
              refine wpAnyK_one 8 (by kernel_rfl) rfl (fun K hK => ?_)
              go_simp
              go_wp2_with (go_at_call 46; refine (wof10 (Z := 12) HC.out D8.out.2.1 (by rw [rm_len, HLL.out]) (by omega) XO.out (rm_le HZ.out.1 1) (by omega) (Nat.le_trans (Nat.pow_le_pow_right (by omega) (show n - 1 ≤ 2 by omega)) (by decide))).mono ?_; intro e' w21 h21; obtain ⟨Bo, po, lo, rfl, mo, no, qo, _, bC, co'⟩ := h21.use; have QO := hide qo; have MO : Hid (May po lo ∧ po ≤ 2 ∧ (∀ i, Py.co lo i = Py.co (Py.ofl [(1, 0)] (rm zs 1)) i) ∧ ∀ i, Py.Le (Py.co lo i) 169) := ⟨mo, by omega, co', fun i => by rw [co']; have h1 := ofl_le12 (rm_le HZ.out.1 1) i; rw [rm_len, HLL.out] at h1; exact h1.mono (Nat.le_trans (Nat.pow_le_pow_right (by omega) (show n - 1 ≤ 2 by omega)) (by decide))⟩; clear h21 mo no qo co'; replace D8 := hide (D8.out.bw bC); have S1 : w21.cell? ⟨S, 0, none⟩ = some (.slice (some ⟨Bk, 0, none⟩) (pk + 1) (pk + 1)) ∧ w21.cell? ⟨Bp, 1, none⟩ = some (.complex .f64 u v) := ⟨D8.out.1.1.2.1, (Below.cell bC (p := ⟨Bp, 1, none⟩) P8.out).trans S0.2⟩; replace P8 := hide (Nat.lt_of_lt_of_le P8.out (Below.size bC)); replace GR := hide (GR.out.bw bC); clear bC S0)
              refine hK.out _ _ (fun _ _ => S1) ?_
              clear hK K
              simp only [List.setIfInBounds_toArray, List.set_cons_zero, List.set_cons_succ]
              have S0 := S1
              clear S1
              refine wpAnyK_one 9 (by kernel_rfl) rfl (fun K hK => ?_)
              go_simp
              go_wp2_with (go_at_call 37; refine (wmul10 (n := 0) (A := 12) (A' := 169) HC.out D8.out.2.1 (may_one (HZ.out.2 1)) GR.out MO.out.1 QO.out (one_le12 (HZ.out.2 1)) MO.out.2.2.2 (by omega) (by have := MO.out.2.1; omega)).mono ?_; intro e' w22 h22; obtain ⟨Bm, pm, lm, rfl, mm, nm, qm, _, bC, cm⟩ := h22.use; have QM := hide qm; have MM : Hid (May pm lm ∧ pm ≤ 2 ∧ (∀ i, Py.co lm i = Py.gm (Py.co rs 1) (Py.co (Py.ofl [(1, 0)] (rm zs 1)) i)) ∧ ∀ i, Py.Le (Py.co lm i) 2028) := ⟨mm, by have := MO.out.2.1; omega, fun i => by rw [cm, ts_one, MO.out.2.2.1], fun i => by rw [cm, ts_one]; exact ((HZ.out.2 1).mul (MO.out.2.2.2 i)).mono (by decide)⟩; clear h22 mm nm qm cm; replace D8 := hide (D8.out.bw bC); have S1 : w22.cell? ⟨S, 0, none⟩ = some (.slice (some ⟨Bk, 0, none⟩) (pk + 1) (pk + 1)) ∧ w22.cell? ⟨Bp, 1, none⟩ = some (.complex .f64 u v) := ⟨D8.out.1.1.2.1, (Below.cell bC (p := ⟨Bp, 1, none⟩) P8.out).trans S0.2⟩; replace P8 := hide (Nat.lt_of_lt_of_le P8.out (Below.size bC)); clear bC S0 GR QO)
              refine hK.out _ _ (fun _ _ => S1) ?_
              clear hK K
              simp only [List.setIfInBounds_toArray, List.set_cons_zero, List.set_cons_succ]
              have S0 := S1
              clear S1
              refine wpAnyK_one 10 (by kernel_rfl) rfl (fun K hK => ?_)
              go_simp
              go_wp2_with (go_at_call 36; refine (wadd10 (A := 6084) (A' := 2028) HC.out D8.out.2.1 MK.out.1 D8.out.2.2.2.2.1 MM.out.1 QM.out.1 (fun i => by rw [MK.out.2.2]; exact tt_le6 HZ.out.1 HZ.out.2 (by rw [HLL.out]; exact hn) 1 (by omega) i) MM.out.2.2.2 (by omega)).mono ?_; intro e' w23 h23; obtain ⟨Bn, pn, ln, rfl, mn, nn, qn, hBn, bC, cn⟩ := h23.use; have hBnS : Hid (Bn ≠ S) := (by have := D8.out.1.1.1; show Bn ≠ S; omega); have QN := hide qn; have MN : Hid (May pn ln ∧ pn ≤ 2 ∧ ∀ i, Py.co ln i = tt zs rs (1 + 1) i) := ⟨mn, by have := MK.out.2.1; have := MM.out.2.1; omega, fun i => by rw [cn, MK.out.2.2, MM.out.2.2.1]; rfl⟩; clear h23 mn nn qn cn hBn; replace D8 := hide (D8.out.bw bC); have S1 : w23.cell? ⟨S, 0, none⟩ = some (.slice (some ⟨Bk, 0, none⟩) (pk + 1) (pk + 1)) ∧ w23.cell? ⟨Bp, 1, none⟩ = some (.complex .f64 u v) := ⟨D8.out.1.1.2.1, (Below.cell bC (p := ⟨Bp, 1, none⟩) P8.out).trans S0.2⟩; replace P8 := hide (Nat.lt_of_lt_of_le P8.out (Below.size bC)); clear bC S0 QM)
              refine hK.out _ _ (fun _ _ => S1) ?_
              clear hK K
              simp only [List.setIfInBounds_toArray, List.set_cons_zero, List.set_cons_succ]
              have S0 := S1
              clear S1
              refine wpAnyK_take 11 67 (v := ?vwzb11) rfl (by kernel_rfl) (by kernel_rfl) (by kernel_rfl) (by kernel_rfl) (by kernel_rfl) (fun _ _ _ h => put_d 67 rfl (by decide) (by decide) h) rfl (Or.inl ⟨by rfl, ?hwzb11⟩) (by assumption) ?rwzb11
              case hwzb11 => (intro w hSw; go_simp; with_reducible rfl)
              simp only [Act.put, List.setIfInBounds_toArray, List.set_cons_zero, List.set_cons_succ]
              obtain ⟨⟨hlt, d0, d1⟩, f0, f1, _, g0, g1⟩ := D8.out.1
              have DN : Hid (Bd c w (w23.setCell ⟨S, 0, none⟩ (.slice (some ⟨Bn, 0, none⟩) (pn + 1) (pn + 1))) S E Wb Bt n F B2 l2 Bn pn ln) :=
                ⟨D8.out.1.top KN.out.2.2.1 (.slice (some ⟨Bn, 0, none⟩) (pn + 1) (pn + 1)), D8.out.2.1.apart KN.out.1 0 (.slice (some ⟨Bn, 0, none⟩) (pn + 1) (pn + 1)), D8.out.2.2.1.set KN.out.2.1 0 (.slice (some ⟨Bn, 0, none⟩) (pn + 1) (pn + 1)), gl_set D8.out.2.2.2.1 hB2.out 0 (.slice (some ⟨Bn, 0, none⟩) (pn + 1) (pn + 1)), gl_set QN.out hBnS.out 0 (.slice (some ⟨Bn, 0, none⟩) (pn + 1) (pn + 1)), bw_set D8.out.2.2.2.2.2 HQ.out.1 0 (.slice (some ⟨Bn, 0, none⟩) (pn + 1) (pn + 1))⟩
              clear D8 QN P8 S0
              refine wpAnyK_one 12 (by kernel_rfl) rfl (fun K hK => ?_)
              go_simp
              refine hK.out _ _ (fun h => absurd rfl h) ?_
              clear hK K
              simp only [List.setIfInBounds_toArray, List.set_cons_zero, List.set_cons_succ]
              refine wpAnyK_done (by kernel_rfl) ?_ _
              clear d0 d1 f0 f1 g0 g1 hlt
              go_wp2
              go_roundw
              case rel => exact ⟨1 + 1, Bn, pn, ln, by omega, by simp, DN.out, MN.out.1, MN.out.2.1, MN.out.2.2⟩
              case measure => simp [intOf]; omega
            · go_simp
              go_wp2_with (go_at_call 47; refine (without10 (k := 1) hn (by omega) D8.out.2.2.1).mono ?_; rintro e' w20 ⟨rfl, xo, bC⟩; have XO := hide (xo.gl (wl_rm HLL.out YF.out 1)); clear xo; replace D8 := hide (D8.out.bw bC); have S1 : w20.cell? ⟨S, 0, none⟩ = some (.slice (some ⟨Bk, 0, none⟩) (pk + 1) (pk + 1)) ∧ w20.cell? ⟨Bp, 1, none⟩ = some (.complex .f64 u v) := ⟨D8.out.1.1.2.1, (Below.cell bC (p := ⟨Bp, 1, none⟩) P8.out).trans S0.2⟩; replace P8 := hide (Nat.lt_of_lt_of_le P8.out (Below.size bC)); clear bC S0)
              refine hK.out _ _ (fun _ _ => S1) ?_
              clear hK K
              simp only [List.setIfInBounds_toArray, List.set_cons_zero, List.set_cons_succ]
              have S0 := S1
              clear S1
              generalize W9.heap.size = Bo0 at *
              refine wpAnyK_two 4 8 (by kernel_rfl) rfl rfl (fun K hK => ?_) (fun K hK => ?_)
              · go_simp
                have bB := bw_alloc w20 (.cells #[.complex .f64 u v] 27)
                have GR : Hid (Gl c (w20.alloc (.cells #[.complex .f64 u v] 27)) w20.heap.size 0 [Py.co rs 1]) := by
                  refine ⟨by simp, fun i hi => ?_⟩
                  match i, hi with
                  | 0, _ => exact ⟨u, v, by simp, HR.out⟩
                replace D8 := hide (D8.out.bw bB)
                have S1 : (w20.alloc (.cells #[.complex .f64 u v] 27)).cell? ⟨S, 0, none⟩ = some (.slice (some ⟨Bk, 0, none⟩) (pk + 1) (pk + 1)) ∧ (w20.alloc (.cells #[.complex .f64 u v] 27)).cell? ⟨Bp, 1, none⟩ = some (.complex .f64 u v) := ⟨D8.out.1.1.2.1, (Below.cell bB (p := ⟨Bp, 1, none⟩) P8.out).trans S0.2⟩
                replace P8 := hide (Nat.lt_of_lt_of_le P8.out (Below.size bB))
                replace XO := hide (XO.out.bw bB)
                clear bB S0
                refine hK.out _ _ (fun _ _ => S1) ?_
                clear hK K
                simp only [List.setIfInBounds_toArray, List.set_cons_zero, List.set_cons_succ]
                have S0 := S1
                clear S1
                generalize w20.alloc (.cells #[.complex .f64 u v] 27) = w20x at *
                generalize w20.heap.size = Br at *
                try clear w20
                refine wpAnyK_one 8 (by kernel_rfl) rfl (fun K hK => ?_)
                go_simp
                go_wp2_with (go_at_call 46; refine (wof10 (Z := 12) HC.out D8.out.2.1 (by rw [rm_len, HLL.out]) (by omega) XO.out (rm_le HZ.out.1 1) (by omega) (Nat.le_trans (Nat.pow_le_pow_right (by omega) (show n - 1 ≤ 2 by omega)) (by decide))).mono ?_; intro e' w21 h21; obtain ⟨Bo, po, lo, rfl, mo, no, qo, _, bC, co'⟩ := h21.use; have QO := hide qo; have MO : Hid (May po lo ∧ po ≤ 2 ∧ (∀ i, Py.co lo i = Py.co (Py.ofl [(1, 0)] (rm zs 1)) i) ∧ ∀ i, Py.Le (Py.co lo i) 169) := ⟨mo, by omega, co', fun i => by rw [co']; have h1 := ofl_le12 (rm_le HZ.out.1 1) i; rw [rm_len, HLL.out] at h1; exact h1.mono (Nat.le_trans (Nat.pow_le_pow_right (by omega) (show n - 1 ≤ 2 by omega)) (by decide))⟩; clear h21 mo no qo co'; replace D8 := hide (D8.out.bw bC); have S1 : w21.cell? ⟨S, 0, none⟩ = some (.slice (some ⟨Bk, 0, none⟩) (pk + 1) (pk + 1)) ∧ w21.cell? ⟨Bp, 1, none⟩ = some (.complex .f64 u v) := ⟨D8.out.1.1.2.1, (Below.cell bC (p := ⟨Bp, 1, none⟩) P8.out).trans S0.2⟩; replace P8 := hide (Nat.lt_of_lt_of_le P8.out (Below.size bC)); replace GR := hide (GR.out.bw bC); clear bC S0)
                refine hK.out _ _ (fun _ _ => S1) ?_
                clear hK K
                simp only [List.setIfInBounds_toArray, List.set_cons_zero, List.set_cons_succ]
                have S0 := S1
                clear S1
                refine wpAnyK_one 9 (by kernel_rfl) rfl (fun K hK => ?_)
                go_simp
                go_wp2_with (go_at_call 37; refine (wmul10 (n := 0) (A := 12) (A' := 169) HC.out D8.out.2.1 (may_one (HZ.out.2 1)) GR.out MO.out.1 QO.out (one_le12 (HZ.out.2 1)) MO.out.2.2.2 (by omega) (by have := MO.out.2.1; omega)).mono ?_; intro e' w22 h22; obtain ⟨Bm, pm, lm, rfl, mm, nm, qm, _, bC, cm⟩ := h22.use; have QM := hide qm; have MM : Hid (May pm lm ∧ pm ≤ 2 ∧ (∀ i, Py.co lm i = Py.gm (Py.co rs 1) (Py.co (Py.ofl [(1, 0)] (rm zs 1)) i)) ∧ ∀ i, Py.Le (Py.co lm i) 2028) := ⟨mm, by have := MO.out.2.1; omega, fun i => by rw [cm, ts_one, MO.out.2.2.1], fun i => by rw [cm, ts_one]; exact ((HZ.out.2 1).mul (MO.out.2.2.2 i)).mono (by decide)⟩; clear h22 mm nm qm cm; replace D8 := hide (D8.out.bw bC); have S1 : w22.cell? ⟨S, 0, none⟩ = some (.slice (some ⟨Bk, 0, none⟩) (pk + 1) (pk + 1)) ∧ w22.cell? ⟨Bp, 1, none⟩ = some (.complex .f64 u v) := ⟨D8.out.1.1.2.1, (Below.cell bC (p := ⟨Bp, 1, none⟩) P8.out).trans S0.2⟩; replace P8 := hide (Nat.lt_of_lt_of_le P8.out (Below.size bC)); clear bC S0 GR QO)
                refine hK.out _ _ (fun _ _ => S1) ?_
                clear hK K
                simp only [List.setIfInBounds_toArray, List.set_cons_zero, List.set_cons_succ]
                have S0 := S1
                clear S1
                refine wpAnyK_one 10 (by kernel_rfl) rfl (fun K hK => ?_)
                go_simp
                go_wp2_with (go_at_call 36; refine (wadd10 (A := 6084) (A' := 2028) HC.out D8.out.2.1 MK.out.1 D8.out.2.2.2.2.1 MM.out.1 QM.out.1 (fun i => by rw [MK.out.2.2]; exact tt_le6 HZ.out.1 HZ.out.2 (by rw [HLL.out]; exact hn) 1 (by omega) i) MM.out.2.2.2 (by omega)).mono ?_; intro e' w23 h23; obtain ⟨Bn, pn, ln, rfl, mn, nn, qn, hBn, bC, cn⟩ := h23.use; have hBnS : Hid (Bn ≠ S) := (by have := D8.out.1.1.1; show Bn ≠ S; omega); have QN := hide qn; have MN : Hid (May pn ln ∧ pn ≤ 2 ∧ ∀ i, Py.co ln i = tt zs rs (1 + 1) i) := ⟨mn, by have := MK.out.2.1; have := MM.out.2.1; omega, fun i => by rw [cn, MK.out.2.2, MM.out.2.2.1]; rfl⟩; clear h23 mn nn qn cn hBn; replace D8 := hide (D8.out.bw bC); have S1 : w23.cell? ⟨S, 0, none⟩ = some (.slice (some ⟨Bk, 0, none⟩) (pk + 1) (pk + 1)) ∧ w23.cell? ⟨Bp, 1, none⟩ = some (.complex .f64 u v) := ⟨D8.out.1.1.2.1, (Below.cell bC (p := ⟨Bp, 1, none⟩) P8.out).trans S0.2⟩; replace P8 := hide (Nat.lt_of_lt_of_le P8.out (Below.size bC)); clear bC S0 QM)
                refine hK.out _ _ (fun _ _ => S1) ?_
                clear hK K
                simp only [List.setIfInBounds_toArray, List.set_cons_zero, List.set_cons_succ]
                have S0 := S1
                clear S1
                refine wpAnyK_take 11 67 (v := ?vwzc11) rfl (by kernel_rfl) (by kernel_rfl) (by kernel_rfl) (by kernel_rfl) (by kernel_rfl) (fun _ _ _ h => put_d 67 rfl (by decide) (by decide) h) rfl (Or.inl ⟨by rfl, ?hwzc11⟩) (by assumption) ?rwzc11
                case hwzc11 => (intro w hSw; go_simp; with_reducible rfl)
                simp only [Act.put, List.setIfInBounds_toArray, List.set_cons_zero, List.set_cons_succ]
                obtain ⟨⟨hlt, d0, d1⟩, f0, f1, _, g0, g1⟩ := D8.out.1
                have DN : Hid (Bd c w (w23.setCell ⟨S, 0, none⟩ (.slice (some ⟨Bn, 0, none⟩) (pn + 1) (pn + 1))) S E Wb Bt n F B2 l2 Bn pn ln) :=
                  ⟨D8.out.1.top KN.out.2.2.1 (.slice (some ⟨Bn, 0, none⟩) (pn + 1) (pn + 1)), D8.out.2.1.apart KN.out.1 0 (.slice (some ⟨Bn, 0, none⟩) (pn + 1) (pn + 1)), D8.out.2.2.1.set KN.out.2.1 0 (.slice (some ⟨Bn, 0, none⟩) (pn + 1) (pn + 1)), gl_set D8.out.2.2.2.1 hB2.out 0 (.slice (some ⟨Bn, 0, none⟩) (pn + 1) (pn + 1)), gl_set QN.out hBnS.out 0 (.slice (some ⟨Bn, 0, none⟩) (pn + 1) (pn + 1)), bw_set D8.out.2.2.2.2.2 HQ.out.1 0 (.slice (some ⟨Bn, 0, none⟩) (pn + 1) (pn + 1))⟩
                clear D8 QN P8 S0
                refine wpAnyK_one 12 (by kernel_rfl) rfl (fun K hK => ?_)
                go_simp
                refine hK.out _ _ (fun h => absurd rfl h) ?_
                clear hK K
                simp only [List.setIfInBounds_toArray, List.set_cons_zero, List.set_cons_succ]
                refine wpAnyK_done (by kernel_rfl) ?_ _
                clear d0 d1 f0 f1 g0 g1 hlt
                go_wp2
                go_roundw
                case rel => exact ⟨1 + 1, Bn, pn, ln, by omega, by simp, DN.out, MN.out.1, MN.out.2.1, MN.out.2.2⟩
                case measure => simp [intOf]; omega
              · go_simp
                go_wp2_with (go_at_call 46; refine (wof10 (Z := 12) HC.out D8.out.2.1 (by rw [rm_len, HLL.out]) (by omega) XO.out (rm_le HZ.out.1 1) (by omega) (Nat.le_trans (Nat.pow_le_pow_right (by omega) (show n - 1 ≤ 2 by omega)) (by decide))).mono ?_; intro e' w21 h21; obtain ⟨Bo, po, lo, rfl, mo, no, qo, _, bC, co'⟩ := h21.use; have QO := hide qo; have MO : Hid (May po lo ∧ po ≤ 2 ∧ (∀ i, Py.co lo i = Py.co (Py.ofl [(1, 0)] (rm zs 1)) i) ∧ ∀ i, Py.Le (Py.co lo i) 169) := ⟨mo, by omega, co', fun i => by rw [co']; have h1 := ofl_le12 (rm_le HZ.out.1 1) i; rw [rm_len, HLL.out] at h1; exact h1.mono (Nat.le_trans (Nat.pow_le_pow_right (by omega) (show n - 1 ≤ 2 by omega)) (by decide))⟩; clear h21 mo no qo co'; replace D8 := hide (D8.out.bw bC); have S1 : w21.cell? ⟨S, 0, none⟩ = some (.slice (some ⟨Bk, 0, none⟩) (pk + 1) (pk + 1)) ∧ w21.cell? ⟨Bp, 1, none⟩ = some (.complex .f64 u v) := ⟨D8.out.1.1.2.1, (Below.cell bC (p := ⟨Bp, 1, none⟩) P8.out).trans S0.2⟩; replace P8 := hide (Nat.lt_of_lt_of_le P8.out (Below.size bC)); clear bC S0)
                refine hK.out _ _ (fun _ _ => S1) ?_
                clear hK K
                simp only [List.setIfInBounds_toArray, List.set_cons_zero, List.set_cons_succ]
                have S0 := S1
                clear S1
                refine wpAnyK_one 4 (by kernel_rfl) rfl (fun K hK => ?_)
                go_simp
                have bB := bw_alloc w21 (.cells #[.complex .f64 u v] 27)
                have GR : Hid (Gl c (w21.alloc (.cells #[.complex .f64 u v] 27)) w21.heap.size 0 [Py.co rs 1]) := by
                  refine ⟨by simp, fun i hi => ?_⟩
                  match i, hi with
                  | 0, _ => exact ⟨u, v, by simp, HR.out⟩
                replace D8 := hide (D8.out.bw bB)
                have S1 : (w21.alloc (.cells #[.complex .f64 u v] 27)).cell? ⟨S, 0, none⟩ = some (.slice (some ⟨Bk, 0, none⟩) (pk + 1) (pk + 1)) ∧ (w21.alloc (.cells #[.complex .f64 u v] 27)).cell? ⟨Bp, 1, none⟩ = some (.complex .f64 u v) := ⟨D8.out.1.1.2.1, (Below.cell bB (p := ⟨Bp, 1, none⟩) P8.out).trans S0.2⟩
                replace P8 := hide (Nat.lt_of_lt_of_le P8.out (Below.size bB))
                replace QO := hide (QO.out.bw bB)
                clear bB S0
                refine hK.out _ _ (fun _ _ => S1) ?_
                clear hK K
                simp only [List.setIfInBounds_toArray, List.set_cons_zero, List.set_cons_succ]
                have S0 := S1
                clear S1
                generalize w21.alloc (.cells #[.complex .f64 u v] 27) = w21x at *
                generalize w21.heap.size = Br at *
                try clear w21
                refine wpAnyK_one 9 (by kernel_rfl) rfl (fun K hK => ?_)
                go_simp
                go_wp2_with (go_at_call 37; refine (wmul10 (n := 0) (A := 12) (A' := 169) HC.out D8.out.2.1 (may_one (HZ.out.2 1)) GR.out MO.out.1 QO.out (one_le12 (HZ.out.2 1)) MO.out.2.2.2 (by omega) (by have := MO.out.2.1; omega)).mono ?_; intro e' w22 h22; obtain ⟨Bm, pm, lm, rfl, mm, nm, qm, _, bC, cm⟩ := h22.use; have QM := hide qm; have MM : Hid (May pm lm ∧ pm ≤ 2 ∧ (∀ i, Py.co lm i = Py.gm (Py.co rs 1) (Py.co (Py.ofl [(1, 0)] (rm zs 1)) i)) ∧ ∀ i, Py.Le (Py.co lm i) 2028) := ⟨mm, by have := MO.out.2.1; omega, fun i => by rw [cm, ts_one, MO.out.2.2.1], fun i => by rw [cm, ts_one]; exact ((HZ.out.2 1).mul (MO.out.2.2.2 i)).mono (by decide)⟩; clear h22 mm nm qm cm; replace D8 := hide (D8.out.bw bC); have S1 : w22.cell? ⟨S, 0, none⟩ = some (.slice (some ⟨Bk, 0, none⟩) (pk + 1) (pk + 1)) ∧ w22.cell? ⟨Bp, 1, none⟩ = some (.complex .f64 u v) := ⟨D8.out.1.1.2.1, (Below.cell bC (p := ⟨Bp, 1, none⟩) P8.out).trans S0.2⟩; replace P8 := hide (Nat.lt_of_lt_of_le P8.out (Below.size bC)); clear bC S0 GR QO)
                refine hK.out _ _ (fun _ _ => S1) ?_
                clear hK K
                simp only [List.setIfInBounds_toArray, List.set_cons_zero, List.set_cons_succ]
                have S0 := S1
                clear S1
                refine wpAnyK_one 10 (by kernel_rfl) rfl (fun K hK => ?_)
                go_simp
                go_wp2_with (go_at_call 36; refine (wadd10 (A := 6084) (A' := 2028) HC.out D8.out.2.1 MK.out.1 D8.out.2.2.2.2.1 MM.out.1 QM.out.1 (fun i => by rw [MK.out.2.2]; exact tt_le6 HZ.out.1 HZ.out.2 (by rw [HLL.out]; exact hn) 1 (by omega) i) MM.out.2.2.2 (by omega)).mono ?_; intro e' w23 h23; obtain ⟨Bn, pn, ln, rfl, mn, nn, qn, hBn, bC, cn⟩ := h23.use; have hBnS : Hid (Bn ≠ S) := (by have := D8.out.1.1.1; show Bn ≠ S; omega); have QN := hide qn; have MN : Hid (May pn ln ∧ pn ≤ 2 ∧ ∀ i, Py.co ln i = tt zs rs (1 + 1) i) := ⟨mn, by have := MK.out.2.1; have := MM.out.2.1; omega, fun i => by rw [cn, MK.out.2.2, MM.out.2.2.1]; rfl⟩; clear h23 mn nn qn cn hBn; replace D8 := hide (D8.out.bw bC); have S1 : w23.cell? ⟨S, 0, none⟩ = some (.slice (some ⟨Bk, 0, none⟩) (pk + 1) (pk + 1)) ∧ w23.cell? ⟨Bp, 1, none⟩ = some (.complex .f64 u v) := ⟨D8.out.1.1.2.1, (Below.cell bC (p := ⟨Bp, 1, none⟩) P8.out).trans S0.2⟩; replace P8 := hide (Nat.lt_of_lt_of_le P8.out (Below.size bC)); clear bC S0 QM)
                refine hK.out _ _ (fun _ _ => S1) ?_
                clear hK K
                simp only [List.setIfInBounds_toArray, List.set_cons_zero, List.set_cons_succ]
                have S0 := S1
                clear S1
                refine wpAnyK_take 11 67 (v := ?vwzd11) rfl (by kernel_rfl) (by kernel_rfl) (by kernel_rfl) (by kernel_rfl) (by kernel_rfl) (fun _ _ _ h => put_d 67 rfl (by decide) (by decide) h) rfl (Or.inl ⟨by rfl, ?hwzd11⟩) (by assumption) ?rwzd11
                case hwzd11 => (intro w hSw; go_simp; with_reducible rfl)
                simp only [Act.put, List.setIfInBounds_toArray, List.set_cons_zero, List.set_cons_succ]
                obtain ⟨⟨hlt, d0, d1⟩, f0, f1, _, g0, g1⟩ := D8.out.1
                have DN : Hid (Bd c w (w23.setCell ⟨S, 0, none⟩ (.slice (some ⟨Bn, 0, none⟩) (pn + 1) (pn + 1))) S E Wb Bt n F B2 l2 Bn pn ln) :=
                  ⟨D8.out.1.top KN.out.2.2.1 (.slice (some ⟨Bn, 0, none⟩) (pn + 1) (pn + 1)), D8.out.2.1.apart KN.out.1 0 (.slice (some ⟨Bn, 0, none⟩) (pn + 1) (pn + 1)), D8.out.2.2.1.set KN.out.2.1 0 (.slice (some ⟨Bn, 0, none⟩) (pn + 1) (pn + 1)), gl_set D8.out.2.2.2.1 hB2.out 0 (.slice (some ⟨Bn, 0, none⟩) (pn + 1) (pn + 1)), gl_set QN.out hBnS.out 0 (.slice (some ⟨Bn, 0, none⟩) (pn + 1) (pn + 1)), bw_set D8.out.2.2.2.2.2 HQ.out.1 0 (.slice (some ⟨Bn, 0, none⟩) (pn + 1) (pn + 1))⟩
                clear D8 QN P8 S0
                refine wpAnyK_one 12 (by kernel_rfl) rfl (fun K hK => ?_)
                go_simp
                refine hK.out _ _ (fun h => absurd rfl h) ?_
                clear hK K
                simp only [List.setIfInBounds_toArray, List.set_cons_zero, List.set_cons_succ]
                refine wpAnyK_done (by kernel_rfl) ?_ _
                clear d0 d1 f0 f1 g0 g1 hlt
                go_wp2
                go_roundw
                case rel => exact ⟨1 + 1, Bn, pn, ln, by omega, by simp, DN.out, MN.out.1, MN.out.2.1, MN.out.2.2⟩
                case measure => simp [intOf]; omega
          · go_wp2_with fail
            rw [← eW8, ← eBp]
            clear eW8 eBp e1 e2
            have S0 : W8.drew.cell? ⟨S, 0, none⟩ = some (.slice (some ⟨Bk, 0, none⟩) (pk + 1) (pk + 1)) ∧ W8.drew.cell? ⟨Bp, 1, none⟩ = some (.complex .f64 u v) := ⟨D8.out.1.1.2.1, P8.out.2⟩
            replace D8 := hide (D8.out.bw (Bw.drw W8))
            replace P8 := hide (show Bp < W8.drew.heap.size from P8.out.1)
            refine wp_region_K (fun w' => w'.cell? ⟨S, 0, none⟩ = some (.slice (some ⟨Bk, 0, none⟩) (pk + 1) (pk + 1)) ∧ w'.cell? ⟨Bp, 1, none⟩ = some (.complex .f64 u v)) 12 13 #[false, false, false, false, false, false, false, false, false, false, false, false, false] (by kernel_rfl) (by kernel_rfl) (by kernel_rfl) ?_
            refine wpAnyK_take 0 56 (v := ?ve0) rfl (by kernel_rfl) (by kernel_rfl) (by kernel_rfl) (by kernel_rfl) (by kernel_rfl) (fun _ _ _ h => put_d 56 rfl (by decide) (by decide) h) rfl (Or.inl ⟨by rfl, ?he0⟩) (by assumption) ?re0
            case he0 => (intro w hSw; go_simp; with_reducible rfl)
            simp only [Act.put, List.setIfInBounds_toArray, List.set_cons_zero, List.set_cons_succ]
            refine wpAnyK_take 1 57 (v := ?ve1) rfl (by kernel_rfl) (by kernel_rfl) (by kernel_rfl) (by kernel_rfl) (by kernel_rfl) (fun _ _ _ h => put_d 57 rfl (by decide) (by decide) h) rfl (Or.inl ⟨by rfl, ?he1⟩) (by assumption) ?re1
            case he1 => (intro w hSw; go_simp; with_reducible rfl)
            simp only [Act.put, List.setIfInBounds_toArray, List.set_cons_zero, List.set_cons_succ]
            refine wpAnyK_take 2 58 (v := ?ve2) rfl (by kernel_rfl) (by kernel_rfl) (by kernel_rfl) (by kernel_rfl) (by kernel_rfl) (fun _ _ _ h => put_d 58 rfl (by decide) (by decide) h) rfl (Or.inl ⟨by rfl, ?he2⟩) (by assumption) ?re2
            case he2 => (intro w hSw; go_simp; with_reducible rfl)
            simp only [Act.put, List.setIfInBounds_toArray, List.set_cons_zero, List.set_cons_succ]
            refine wpAnyK_take 3 59 (v := ?ve3) rfl (by kernel_rfl) (by kernel_rfl) (by kernel_rfl) (by kernel_rfl) (by kernel_rfl) (fun _ _ _ h => put_d 59 rfl (by decide) (by decide) h) rfl (Or.inl ⟨by rfl, ?he3⟩) (by assumption) ?re3
            case he3 => (intro w hSw; go_simp; with_reducible rfl)
            simp only [Act.put, List.setIfInBounds_toArray, List.set_cons_zero, List.set_cons_succ]
            refine wpAnyK_take 5 61 (v := ?ve5) rfl (by kernel_rfl) (by kernel_rfl) (by kernel_rfl) (by kernel_rfl) (by kernel_rfl) (fun _ _ _ h => put_d 61 rfl (by decide) (by decide) h) rfl (Or.inl ⟨by rfl, ?he5⟩) (by assumption) ?re5
            case he5 => (intro w hSw; go_simp; with_reducible rfl)
            simp only [Act.put, List.setIfInBounds_toArray, List.set_cons_zero, List.set_cons_succ]
            refine wpAnyK_take 6 62 (v := ?ve6) rfl (by kernel_rfl) (by kernel_rfl) (by kernel_rfl) (by kernel_rfl) (by kernel_rfl) (fun _ _ _ h => put_d 62 rfl (by decide) (by decide) h) rfl (Or.inl ⟨by rfl, ?he6⟩) (by assumption) ?re6
            case he6 => (intro w hSw; go_simp; with_reducible rfl)
            simp only [Act.put, List.setIfInBounds_toArray, List.set_cons_zero, List.set_cons_succ]
            generalize W8.drew = W9 at *
            clear W8
            refine wpAnyK_two 4 7 (by kernel_rfl) rfl rfl (fun K hK => ?_) (fun K hK => ?_)
            · go_simp
              have bB := bw_alloc W9 (.cells #[.complex .f64 u v] 27)
              have GR : Hid (Gl c (W9.alloc (.cells #[.complex .f64 u v] 27)) W9.heap.size 0 [Py.co rs 2]) := by
                refine ⟨by simp, fun i hi => ?_⟩
                match i, hi with
                | 0, _ => exact ⟨u, v, by simp, HR.out⟩
              replace D8 := hide (D8.out.bw bB)
              have S1 : (W9.alloc (.cells #[.complex .f64 u v] 27)).cell? ⟨S, 0, none⟩ = some (.slice (some ⟨Bk, 0, none⟩) (pk + 1) (pk + 1)) ∧ (W9.alloc (.cells #[.complex .f64 u v] 27)).cell? ⟨Bp, 1, none⟩ = some (.complex .f64 u v) := ⟨D8.out.1.1.2.1, (Below.cell bB (p := ⟨Bp, 1, none⟩) P8.out).trans S0.2⟩
              replace P8 := hide (Nat.lt_of_lt_of_le P8.out (Below.size bB))
              clear bB S0
              refine hK.out _ _ (fun _ _ => S1) ?_
              clear hK K
              simp only [List.setIfInBounds_toArray, List.set_cons_zero, List.set_cons_succ]
              have S0 := S1
              clear S1
              generalize W9.alloc (.cells #[.complex .f64 u v] 27) = W9x at *
              generalize W9.heap.size = Br at *
              try clear W9
              refine wpAnyK_one 7 (by kernel_rfl) rfl (fun K hK => ?_)
              go_simp
              go_wp2_with (go_at_call 47; refine (without10 (k := 2) hn (by omega) D8.out.2.2.1).mono ?_; rintro e' w20 ⟨rfl, xo, bC⟩; have XO := hide (xo.gl (wl_rm HLL.out YF.out 2)); clear xo; replace D8 := hide (D8.out.bw bC); have S1 : w20.cell? ⟨S, 0, none⟩ = some (.slice (some ⟨Bk, 0, none⟩) (pk + 1) (pk + 1)) ∧ w20.cell? ⟨Bp, 1, none⟩ = some (.complex .f64 u v) := ⟨D8.out.1.1.2.1, (Below.cell bC (p := ⟨Bp, 1, none⟩) P8.out).trans S0.2⟩; replace P8 := hide (Nat.lt_of_lt_of_le P8.out (Below.size bC)); replace GR := hide (GR.out.bw bC); clear bC S0)
              refine hK.out _ _ (fun _ _ => S1) ?_
              clear hK K
              simp only [List.setIfInBounds_toArray, List.set_cons_zero, List.set_cons_succ]
              have S0 := S1
              clear S1
              generalize W9x.heap.size = Bo0 at *
              refine wpAnyK_one 8 (by kernel_rfl) rfl (fun K hK => ?_)
              go_simp
              go_wp2_with (go_at_call 46; refine (wof10 (Z := 12) HC.out D8.out.2.1 (by rw [rm_len, HLL.out]) (by omega) XO.out (rm_le HZ.out.1 2) (by omega) (Nat.le_trans (Nat.pow_le_pow_right (by omega) (show n - 1 ≤ 2 by omega)) (by decide))).mono ?_; intro e' w21 h21; obtain ⟨Bo, po, lo, rfl, mo, no, qo, _, bC, co'⟩ := h21.use; have QO := hide qo; have MO : Hid (May po lo ∧ po ≤ 2 ∧ (∀ i, Py.co lo i = Py.co (Py.ofl [(1, 0)] (rm zs 2)) i) ∧ ∀ i, Py.Le (Py.co lo i) 169) := ⟨mo, by omega, co', fun i => by rw [co']; have h1 := ofl_le12 (rm_le HZ.out.1 2) i; rw [rm_len, HLL.out] at h1; exact h1.mono (Nat.le_trans (Nat.pow_le_pow_right (by omega) (show n - 1 ≤ 2 by omega)) (by decide))⟩; clear h21 mo no qo co'; replace D8 := hide (D8.out.bw bC); have S1 : w21.cell? ⟨S, 0, none⟩ = some (.slice (some ⟨Bk, 0, none⟩) (pk + 1) (pk + 1)) ∧ w21.cell? ⟨Bp, 1, none⟩ = some (.complex .f64 u v) := ⟨D8.out.1.1.2.1, (Below.cell bC (p := ⟨Bp, 1, none⟩) P8.out).trans S0.2⟩; replace P8 := hide (Nat.lt_of_lt_of_le P8.out (Below.size bC)); replace GR := hide (GR.out.bw bC); clear bC S0)
              refine hK.out _ _ (fun _ _ => S1) ?_
              clear hK K
              simp only [List.setIfInBounds_toArray, List.set_cons_zero, List.set_cons_succ]
              have S0 := S1
              clear S1
              refine wpAnyK_one 9 (by kernel_rfl) rfl (fun K hK => ?_)
              go_simp
              go_wp2_with (go_at_call 37; refine (wmul10 (n := 0) (A := 12) (A' := 169) HC.out D8.out.2.1 (may_one (HZ.out.2 2)) GR.out MO.out.1 QO.out (one_le12 (HZ.out.2 2)) MO.out.2.2.2 (by omega) (by have := MO.out.2.1; omega)).mono ?_; intro e' w22 h22; obtain ⟨Bm, pm, lm, rfl, mm, nm, qm, _, bC, cm⟩ := h22.use; have QM := hide qm; have MM : Hid (May pm lm ∧ pm ≤ 2 ∧ (∀ i, Py.co lm i = Py.gm (Py.co rs 2) (Py.co (Py.ofl [(1, 0)] (rm zs 2)) i)) ∧ ∀ i, Py.Le (Py.co lm i) 2028) := ⟨mm, by have := MO.out.2.1; omega, fun i => by rw [cm, ts_one, MO.out.2.2.1], fun i => by rw [cm, ts_one]; exact ((HZ.out.2 2).mul (MO.out.2.2.2 i)).mono (by decide)⟩; clear h22 mm nm qm cm; replace D8 := hide (D8.out.bw bC); have S1 : w22.cell? ⟨S, 0, none⟩ = some (.slice (some ⟨Bk, 0, none⟩) (pk + 1) (pk + 1)) ∧ w22.cell? ⟨Bp, 1, none⟩ = some (.complex .f64 u v) := ⟨D8.out.1.1.2.1, (Below.cell bC (p := ⟨Bp, 1, none⟩) P8.out).trans S0.2⟩; replace P8 := hide (Nat.lt_of_lt_of_le P8.out (Below.size bC)); clear bC S0 GR QO)
              refine hK.out _ _ (fun _ _ => S1) ?_
              clear hK K
              simp only [List.setIfInBounds_toArray, List.set_cons_zero, List.set_cons_succ]
              have S0 := S1
              clear S1
              refine wpAnyK_one 10 (by kernel_rfl) rfl (fun K hK => ?_)
              go_simp
              go_wp2_with (go_at_call 36; refine (wadd10 (A := 6084) (A' := 2028) HC.out D8.out.2.1 MK.out.1 D8.out.2.2.2.2.1 MM.out.1 QM.out.1 (fun i => by rw [MK.out.2.2]; exact tt_le6 HZ.out.1 HZ.out.2 (by rw [HLL.out]; exact hn) 2 (by omega) i) MM.out.2.2.2 (by omega)).mono ?_; intro e' w23 h23; obtain ⟨Bn, pn, ln, rfl, mn, nn, qn, hBn, bC, cn⟩ := h23.use; have hBnS : Hid (Bn ≠ S) := (by have := D8.out.1.1.1; show Bn ≠ S; omega); have QN := hide qn; have MN : Hid (May pn ln ∧ pn ≤ 2 ∧ ∀ i, Py.co ln i = tt zs rs (2 + 1) i) := ⟨mn, by have := MK.out.2.1; have := MM.out.2.1; omega, fun i => by rw [cn, MK.out.2.2, MM.out.2.2.1]; rfl⟩; clear h23 mn nn qn cn hBn; replace D8 := hide (D8.out.bw bC); have S1 : w23.cell? ⟨S, 0, none⟩ = some (.slice (some ⟨Bk, 0, none⟩) (pk + 1) (pk + 1)) ∧ w23.cell? ⟨Bp, 1, none⟩ = some (.complex .f64 u v) := ⟨D8.out.1.1.2.1, (Below.cell bC (p := ⟨Bp, 1, none⟩) P8.out).trans S0.2⟩; replace P8 := hide (Nat.lt_of_lt_of_le P8.out (Below.size bC)); clear bC S0 QM)
              refine hK.out _ _ (fun _ _ => S1) ?_
              clear hK K
              simp only [List.setIfInBounds_toArray, List.set_cons_zero, List.set_cons_succ]
              have S0 := S1
              clear S1
              refine wpAnyK_take 11 67 (v := ?vezb11) rfl (by kernel_rfl) (by kernel_rfl) (by kernel_rfl) (by kernel_rfl) (by kernel_rfl) (fun _ _ _ h => put_d 67 rfl (by decide) (by decide) h) rfl (Or.inl ⟨by rfl, ?hezb11⟩) (by assumption) ?rezb11
              case hezb11 => (intro w hSw; go_simp; with_reducible rfl)
              simp only [Act.put, List.setIfInBounds_toArray, List.set_cons_zero, List.set_cons_succ]
              obtain ⟨⟨hlt, d0, d1⟩, f0, f1, _, g0, g1⟩ := D8.out.1
              have DN : Hid (Bd c w (w23.setCell ⟨S, 0, none⟩ (.slice (some ⟨Bn, 0, none⟩) (pn + 1) (pn + 1))) S E Wb Bt n F B2 l2 Bn pn ln) :=
                ⟨D8.out.1.top KN.out.2.2.1 (.slice (some ⟨Bn, 0, none⟩) (pn + 1) (pn + 1)), D8.out.2.1.apart KN.out.1 0 (.slice (some ⟨Bn, 0, none⟩) (pn + 1) (pn + 1)), D8.out.2.2.1.set KN.out.2.1 0 (.slice (some ⟨Bn, 0, none⟩) (pn + 1) (pn + 1)), gl_set D8.out.2.2.2.1 hB2.out 0 (.slice (some ⟨Bn, 0, none⟩) (pn + 1) (pn + 1)), gl_set QN.out hBnS.out 0 (.slice (some ⟨Bn, 0, none⟩) (pn + 1) (pn + 1)), bw_set D8.out.2.2.2.2.2 HQ.out.1 0 (.slice (some ⟨Bn, 0, none⟩) (pn + 1) (pn + 1))⟩
              clear D8 QN P8 S0
              refine wpAnyK_one 12 (by kernel_rfl) rfl (fun K hK => ?_)
              go_simp
              refine hK.out _ _ (fun h => absurd rfl h) ?_
              clear hK K
              simp only [List.setIfInBounds_toArray, List.set_cons_zero, List.set_cons_succ]
              refine wpAnyK_done (by kernel_rfl) ?_ _
              clear d0 d1 f0 f1 g0 g1 hlt
              go_wp2
              go_roundw
              case rel => exact ⟨2 + 1, Bn, pn, ln, by omega, by simp, DN.out, MN.out.1, MN.out.2.1, MN.out.2.2⟩
              case measure => simp [intOf]; omega
            · go_simp
              go_wp2_with (go_at_call 47; refine (without10 (k := 2) hn (by omega) D8.out.2.2.1).mono ?_; rintro e' w20 ⟨rfl, xo, bC⟩; have XO := hide (xo.gl (wl_rm HLL.out YF.out 2)); clear xo; replace D8 := hide (D8.out.bw bC); have S1 : w20.cell? ⟨S, 0, none⟩ = some (.slice (some ⟨Bk, 0, none⟩) (pk + 1) (pk + 1)) ∧ w20.cell? ⟨Bp, 1, none⟩ = some (.complex .f64 u v) := ⟨D8.out.1.1.2.1, (Below.cell bC (p := ⟨Bp, 1, none⟩) P8.out).trans S0.2⟩; replace P8 := hide (Nat.lt_of_lt_of_le P8.out (Below.size bC)); clear bC S0)
              refine hK.out _ _ (fun _ _ => S1) ?_
              clear hK K
              simp only [List.setIfInBounds_toArray, List.set_cons_zero, List.set_cons_succ]
              have S0 := S1
              clear S1
              generalize W9.heap.size = Bo0 at *
              refine wpAnyK_two 4 8 (by kernel_rfl) rfl rfl (fun K hK => ?_) (fun K hK => ?_)
              · go_simp
                have bB := bw_alloc w20 (.cells #[.complex .f64 u v] 27)
                have GR : Hid (Gl c (w20.alloc (.cells #[.complex .f64 u v] 27)) w20.heap.size 0 [Py.co rs 2]) := by
                  refine ⟨by simp, fun i hi => ?_⟩
                  match i, hi with
                  | 0, _ => exact ⟨u, v, by simp, HR.out⟩
                replace D8 := hide (D8.out.bw bB)
                have S1 : (w20.alloc (.cells #[.complex .f64 u v] 27)).cell? ⟨S, 0, none⟩ = some (.slice (some ⟨Bk, 0, none⟩) (pk + 1) (pk + 1)) ∧ (w20.alloc (.cells #[.complex .f64 u v] 27)).cell? ⟨Bp, 1, none⟩ = some (.complex .f64 u v) := ⟨D8.out.1.1.2.1, (Below.cell bB (p := ⟨Bp, 1, none⟩) P8.out).trans S0.2⟩
                replace P8 := hide (Nat.lt_of_lt_of_le P8.out (Below.size bB))
                replace XO := hide (XO.out.bw bB)
                clear bB S0
                refine hK.out _ _ (fun _ _ => S1) ?_
                clear hK K
                simp only [List.setIfInBounds_toArray, List.set_cons_zero, List.set_cons_succ]
                have S0 := S1
                clear S1
                generalize w20.alloc (.cells #[.complex .f64 u v] 27) = w20x at *
                generalize w20.heap.size = Br at *
                try clear w20
                refine wpAnyK_one 8 (by kernel_rfl) rfl (fun K hK => ?_)
                go_simp
                go_wp2_with (go_at_call 46; refine (wof10 (Z := 12) HC.out D8.out.2.1 (by rw [rm_len, HLL.out]) (by omega) XO.out (rm_le HZ.out.1 2) (by omega) (Nat.le_trans (Nat.pow_le_pow_right (by omega) (show n - 1 ≤ 2 by omega)) (by decide))).mono ?_; intro e' w21 h21; obtain ⟨Bo, po, lo, rfl, mo, no, qo, _, bC, co'⟩ := h21.use; have QO := hide qo; have MO : Hid (May po lo ∧ po ≤ 2 ∧ (∀ i, Py.co lo i = Py.co (Py.ofl [(1, 0)] (rm zs 2)) i) ∧ ∀ i, Py.Le (Py.co lo i) 169) := ⟨mo, by omega, co', fun i => by rw [co']; have h1 := ofl_le12 (rm_le HZ.out.1 2) i; rw [rm_len, HLL.out] at h1; exact h1.mono (Nat.le_trans (Nat.pow_le_pow_right (by omega) (show n - 1 ≤ 2 by omega)) (by decide))⟩; clear h21 mo no qo co'; replace D8 := hide (D8.out.bw bC); have S1 : w21.cell? ⟨S, 0, none⟩ = some (.slice (some ⟨Bk, 0, none⟩) (pk + 1) (pk + 1)) ∧ w21.cell? ⟨Bp, 1, none⟩ = some (.complex .f64 u v) := ⟨D8.out.1.1.2.1, (Below.cell bC (p := ⟨Bp, 1, none⟩) P8.out).trans S0.2⟩; replace P8 := hide (Nat.lt_of_lt_of_le P8.out (Below.size bC)); replace GR := hide (GR.out.bw bC); clear bC S0)
                refine hK.out _ _ (fun _ _ => S1) ?_
                clear hK K
                simp only [List.setIfInBounds_toArray, List.set_cons_zero, List.set_cons_succ]
                have S0 := S1
                clear S1
                refine wpAnyK_one 9 (by kernel_rfl) rfl (fun K hK => ?_)
                go_simp
                go_wp2_with (go_at_call 37; refine (wmul10 (n := 0) (A := 12) (A' := 169) HC.out D8.out.2.1 (may_one (HZ.out.2 2)) GR.out MO.out.1 QO.out (one_le12 (HZ.out.2 2)) MO.out.2.2.2 (by omega) (by have := MO.out.2.1; omega)).mono ?_; intro e' w22 h22; obtain ⟨Bm, pm, lm, rfl, mm, nm, qm, _, bC, cm⟩ := h22.use; have QM := hide qm; have MM : Hid (May pm lm ∧ pm ≤ 2 ∧ (∀ i, Py.co lm i = Py.gm (Py.co rs 2) (Py.co (Py.ofl [(1, 0)] (rm zs 2)) i)) ∧ ∀ i, Py.Le (Py.co lm i) 2028) := ⟨mm, by have := MO.out.2.1; omega, fun i => by rw [cm, ts_one, MO.out.2.2.1], fun i => by rw [cm, ts_one]; exact ((HZ.out.2 2).mul (MO.out.2.2.2 i)).mono (by decide)⟩; clear h22 mm nm qm cm; replace D8 := hide (D8.out.bw bC); have S1 : w22.cell? ⟨S, 0, none⟩ = some (.slice (some ⟨Bk, 0, none⟩) (pk + 1) (pk + 1)) ∧ w22.cell? ⟨Bp, 1, none⟩ = some (.complex .f64 u v) := ⟨D8.out.1.1.2.1, (Below.cell bC (p := ⟨Bp, 1, none⟩) P8.out).trans S0.2⟩; replace P8 := hide (Nat.lt_of_lt_of_le P8.out (Below.size bC)); clear bC S0 GR QO)
                refine hK.out _ _ (fun _ _ => S1) ?_
                clear hK K
                simp only [List.setIfInBounds_toArray, List.set_cons_zero, List.set_cons_succ]
                have S0 := S1
                clear S1
                refine wpAnyK_one 10 (by kernel_rfl) rfl (fun K hK => ?_)
                go_simp
                go_wp2_with (go_at_call 36; refine (wadd10 (A := 6084) (A' := 2028) HC.out D8.out.2.1 MK.out.1 D8.out.2.2.2.2.1 MM.out.1 QM.out.1 (fun i => by rw [MK.out.2.2]; exact tt_le6 HZ.out.1 HZ.out.2 (by rw [HLL.out]; exact hn) 2 (by omega) i) MM.out.2.2.2 (by omega)).mono ?_; intro e' w23 h23; obtain ⟨Bn, pn, ln, rfl, mn, nn, qn, hBn, bC, cn⟩ := h23.use; have hBnS : Hid (Bn ≠ S) := (by have := D8.out.1.1.1; show Bn ≠ S; omega); have QN := hide qn; have MN : Hid (May pn ln ∧ pn ≤ 2 ∧ ∀ i, Py.co ln i = tt zs rs (2 + 1) i) := ⟨mn, by have := MK.out.2.1; have := MM.out.2.1; omega, fun i => by rw [cn, MK.out.2.2, MM.out.2.2.1]; rfl⟩; clear h23 mn nn qn cn hBn; replace D8 := hide (D8.out.bw bC); have S1 : w23.cell? ⟨S, 0, none⟩ = some (.slice (some ⟨Bk, 0, none⟩) (pk + 1) (pk + 1)) ∧ w23.cell? ⟨Bp, 1, none⟩ = some (.complex .f64 u v) := ⟨D8.out.1.1.2.1, (Below.cell bC (p := ⟨Bp, 1, none⟩) P8.out).trans S0.2⟩; replace P8 := hide (Nat.lt_of_lt_of_le P8.out (Below.size bC)); clear bC S0 QM)
                refine hK.out _ _ (fun _ _ => S1) ?_
                clear hK K
                simp only [List.setIfInBounds_toArray, List.set_cons_zero, List.set_cons_succ]
                have S0 := S1
                clear S1
                refine wpAnyK_take 11 67 (v := ?vezc11) rfl (by kernel_rfl) (by kernel_rfl) (by kernel_rfl) (by kernel_rfl) (by kernel_rfl) (fun _ _ _ h => put_d 67 rfl (by decide) (by decide) h) rfl (Or.inl ⟨by rfl, ?hezc11⟩) (by assumption) ?rezc11
                case hezc11 => (intro w hSw; go_simp; with_reducible rfl)
                simp only [Act.put, List.setIfInBounds_toArray, List.set_cons_zero, List.set_cons_succ]
                obtain ⟨⟨hlt, d0, d1⟩, f0, f1, _, g0, g1⟩ := D8.out.1
                have DN : Hid (Bd c w (w23.setCell ⟨S, 0, none⟩ (.slice (some ⟨Bn, 0, none⟩) (pn + 1) (pn + 1))) S E Wb Bt n F B2 l2 Bn pn ln) :=
                  ⟨D8.out.1.top KN.out.2.2.1 (.slice (some ⟨Bn, 0, none⟩) (pn + 1) (pn + 1)), D8.out.2.1.apart KN.out.1 0 (.slice (some ⟨Bn, 0, none⟩) (pn + 1) (pn + 1)), D8.out.2.2.1.set KN.out.2.1 0 (.slice (some ⟨Bn, 0, none⟩) (pn + 1) (pn + 1)), gl_set D8.out.2.2.2.1 hB2.out 0 (.slice (some ⟨Bn, 0, none⟩) (pn + 1) (pn + 1)), gl_set QN.out hBnS.out 0 (.slice (some ⟨Bn, 0, none⟩) (pn + 1) (pn + 1)), bw_set D8.out.2.2.2.2.2 HQ.out.1 0 (.slice (some ⟨Bn, 0, none⟩) (pn + 1) (pn + 1))⟩
                clear D8 QN P8 S0
                refine wpAnyK_one 12 (by kernel_rfl) rfl (fun K hK => ?_)
                go_simp
                refine hK.out _ _ (fun h => absurd rfl h) ?_
                clear hK K
                simp only [List.setIfInBounds_toArray, List.set_cons_zero, List.set_cons_succ]
                refine wpAnyK_done (by kernel_rfl) ?_ _
                clear d0 d1 f0 f1 g0 g1 hlt
                go_wp2
                go_roundw
                case rel => exact ⟨2 + 1, Bn, pn, ln, by omega, by simp, DN.out, MN.out.1, MN.out.2.1, MN.out.2.2⟩
                case measure => simp [intOf]; omega
              · go_simp
                go_wp2_with (go_at_call 46; refine (wof10 (Z := 12) HC.out D8.out.2.1 (by rw [rm_len, HLL.out]) (by omega) XO.out (rm_le HZ.out.1 2) (by omega) (Nat.le_trans (Nat.pow_le_pow_right (by omega) (show n - 1 ≤ 2 by omega)) (by decide))).mono ?_; intro e' w21 h21; obtain ⟨Bo, po, lo, rfl, mo, no, qo, _, bC, co'⟩ := h21.use; have QO := hide qo; have MO : Hid (May po lo ∧ po ≤ 2 ∧ (∀ i, Py.co lo i = Py.co (Py.ofl [(1, 0)] (rm zs 2)) i) ∧ ∀ i, Py.Le (Py.co lo i) 169) := ⟨mo, by omega, co', fun i => by rw [co']; have h1 := ofl_le12 (rm_le HZ.out.1 2) i; rw [rm_len, HLL.out] at h1; exact h1.mono (Nat.le_trans (Nat.pow_le_pow_right (by omega) (show n - 1 ≤ 2 by omega)) (by decide))⟩; clear h21 mo no qo co'; replace D8 := hide (D8.out.bw bC); have S1 : w21.cell? ⟨S, 0, none⟩ = some (.slice (some ⟨Bk, 0, none⟩) (pk + 1) (pk + 1)) ∧ w21.cell? ⟨Bp, 1, none⟩ = some (.complex .f64 u v) := ⟨D8.out.1.1.2.1, (Below.cell bC (p := ⟨Bp, 1, none⟩) P8.out).trans S0.2⟩; replace P8 := hide (Nat.lt_of_lt_of_le P8.out (Below.size bC)); clear bC S0)
                refine hK.out _ _ (fun _ _ => S1) ?_
                clear hK K
                simp only [List.setIfInBounds_toArray, List.set_cons_zero, List.set_cons_succ]
                have S0 := S1
                clear S1
                refine wpAnyK_one 4 (by kernel_rfl) rfl (fun K hK => ?_)
                go_simp
                have bB := bw_alloc w21 (.cells #[.complex .f64 u v] 27)
                have GR : Hid (Gl c (w21.alloc (.cells #[.complex .f64 u v] 27)) w21.heap.size 0 [Py.co rs 2]) := by
                  refine ⟨by simp, fun i hi => ?_⟩
                  match i, hi with
                  | 0, _ => exact ⟨u, v, by simp, HR.out⟩
                replace D8 := hide (D8.out.bw bB)
                have S1 : (w21.alloc (.cells #[.complex .f64 u v] 27)).cell? ⟨S, 0, none⟩ = some (.slice (some ⟨Bk, 0, none⟩) (pk + 1) (pk + 1)) ∧ (w21.alloc (.cells #[.complex .f64 u v] 27)).cell? ⟨Bp, 1, none⟩ = some (.complex .f64 u v) := ⟨D8.out.1.1.2.1, (Below.cell bB (p := ⟨Bp, 1, none⟩) P8.out).trans S0.2⟩
                replace P8 := hide (Nat.lt_of_lt_of_le P8.out (Below.size bB))
                replace QO := hide (QO.out.bw bB)
                clear bB S0
                refine hK.out _ _ (fun _ _ => S1) ?_
                clear hK K
                simp only [List.setIfInBounds_toArray, List.set_cons_zero, List.set_cons_succ]
                have S0 := S1
                clear S1
                generalize w21.alloc (.cells #[.complex .f64 u v] 27) = w21x at *
                generalize w21.heap.size = Br at *
                try clear w21
                refine wpAnyK_one 9 (by kernel_rfl) rfl (fun K hK => ?_)
                go_simp
                go_wp2_with (go_at_call 37; refine (wmul10 (n := 0) (A := 12) (A' := 169) HC.out D8.out.2.1 (may_one (HZ.out.2 2)) GR.out MO.out.1 QO.out (one_le12 (HZ.out.2 2)) MO.out.2.2.2 (by omega) (by have := MO.out.2.1; omega)).mono ?_; intro e' w22 h22; obtain ⟨Bm, pm, lm, rfl, mm, nm, qm, _, bC, cm⟩ := h22.use; have QM := hide qm; have MM : Hid (May pm lm ∧ pm ≤ 2 ∧ (∀ i, Py.co lm i = Py.gm (Py.co rs 2) (Py.co (Py.ofl [(1, 0)] (rm zs 2)) i)) ∧ ∀ i, Py.Le (Py.co lm i) 2028) := ⟨mm, by have := MO.out.2.1; omega, fun i => by rw [cm, ts_one, MO.out.2.2.1], fun i => by rw [cm, ts_one]; exact ((HZ.out.2 2).mul (MO.out.2.2.2 i)).mono (by decide)⟩; clear h22 mm nm qm cm; replace D8 := hide (D8.out.bw bC); have S1 : w22.cell? ⟨S, 0, none⟩ = some (.slice (some ⟨Bk, 0, none⟩) (pk + 1) (pk + 1)) ∧ w22.cell? ⟨Bp, 1, none⟩ = some (.complex .f64 u v) := ⟨D8.out.1.1.2.1, (Below.cell bC (p := ⟨Bp, 1, none⟩) P8.out).trans S0.2⟩; replace P8 := hide (Nat.lt_of_lt_of_le P8.out (Below.size bC)); clear bC S0 GR QO)
                refine hK.out _ _ (fun _ _ => S1) ?_
                clear hK K
                simp only [List.setIfInBounds_toArray, List.set_cons_zero, List.set_cons_succ]
                have S0 := S1
                clear S1
                refine wpAnyK_one 10 (by kernel_rfl) rfl (fun K hK => ?_)
                go_simp
                go_wp2_with (go_at_call 36; refine (wadd10 (A := 6084) (A' := 2028) HC.out D8.out.2.1 MK.out.1 D8.out.2.2.2.2.1 MM.out.1 QM.out.1 (fun i => by rw [MK.out.2.2]; exact tt_le6 HZ.out.1 HZ.out.2 (by rw [HLL.out]; exact hn) 2 (by omega) i) MM.out.2.2.2 (by omega)).mono ?_; intro e' w23 h23; obtain ⟨Bn, pn, ln, rfl, mn, nn, qn, hBn, bC, cn⟩ := h23.use; have hBnS : Hid (Bn ≠ S) := (by have := D8.out.1.1.1; show Bn ≠ S; omega); have QN := hide qn; have MN : Hid (May pn ln ∧ pn ≤ 2 ∧ ∀ i, Py.co ln i = tt zs rs (2 + 1) i) := ⟨mn, by have := MK.out.2.1; have := MM.out.2.1; omega, fun i => by rw [cn, MK.out.2.2, MM.out.2.2.1]; rfl⟩; clear h23 mn nn qn cn hBn; replace D8 := hide (D8.out.bw bC); have S1 : w23.cell? ⟨S, 0, none⟩ = some (.slice (some ⟨Bk, 0, none⟩) (pk + 1) (pk + 1)) ∧ w23.cell? ⟨Bp, 1, none⟩ = some (.complex .f64 u v) := ⟨D8.out.1.1.2.1, (Below.cell bC (p := ⟨Bp, 1, none⟩) P8.out).trans S0.2⟩; replace P8 := hide (Nat.lt_of_lt_of_le P8.out (Below.size bC)); clear bC S0 QM)
                refine hK.out _ _ (fun _ _ => S1) ?_
                clear hK K
                simp only [List.setIfInBounds_toArray, List.set_cons_zero, List.set_cons_succ]
                have S0 := S1
                clear S1
                refine wpAnyK_take 11 67 (v := ?vezd11) rfl (by kernel_rfl) (by kernel_rfl) (by kernel_rfl) (by kernel_rfl) (by kernel_rfl) (fun _ _ _ h => put_d 67 rfl (by decide) (by decide) h) rfl (Or.inl ⟨by rfl, ?hezd11⟩) (by assumption) ?rezd11
                case hezd11 => (intro w hSw; go_simp; with_reducible rfl)
                simp only [Act.put, List.setIfInBounds_toArray, List.set_cons_zero, List.set_cons_succ]
                obtain ⟨⟨hlt, d0, d1⟩, f0, f1, _, g0, g1⟩ := D8.out.1
                have DN : Hid (Bd c w (w23.setCell ⟨S, 0, none⟩ (.slice (some ⟨Bn, 0, none⟩) (pn + 1) (pn + 1))) S E Wb Bt n F B2 l2 Bn pn ln) :=
                  ⟨D8.out.1.top KN.out.2.2.1 (.slice (some ⟨Bn, 0, none⟩) (pn + 1) (pn + 1)), D8.out.2.1.apart KN.out.1 0 (.slice (some ⟨Bn, 0, none⟩) (pn + 1) (pn + 1)), D8.out.2.2.1.set KN.out.2.1 0 (.slice (some ⟨Bn, 0, none⟩) (pn + 1) (pn + 1)), gl_set D8.out.2.2.2.1 hB2.out 0 (.slice (some ⟨Bn, 0, none⟩) (pn + 1) (pn + 1)), gl_set QN.out hBnS.out 0 (.slice (some ⟨Bn, 0, none⟩) (pn + 1) (pn + 1)), bw_set D8.out.2.2.2.2.2 HQ.out.1 0 (.slice (some ⟨Bn, 0, none⟩) (pn + 1) (pn + 1))⟩
                clear D8 QN P8 S0
                refine wpAnyK_one 12 (by kernel_rfl) rfl (fun K hK => ?_)
                go_simp
                refine hK.out _ _ (fun h => absurd rfl h) ?_
                clear hK K
                simp only [List.setIfInBounds_toArray, List.set_cons_zero, List.set_cons_succ]
                refine wpAnyK_done (by kernel_rfl) ?_ _
                clear d0 d1 f0 f1 g0 g1 hlt
                go_wp2
                go_roundw
                case rel => exact ⟨2 + 1, Bn, pn, ln, by omega, by simp, DN.out, MN.out.1, MN.out.2.1, MN.out.2.2⟩
                case measure => simp [intOf]; omega
        · have hk3 : n = k := by omega
          subst hk3
          have D8 := hide hBD
          have MK := hide (And.intro hMk (And.intro hpk hCk))
          clear hBD hMk hpk hCk hk hk1
          go_wp2_with fail
          obtain ⟨⟨_, d0, d1⟩, f0, f1, _, g0, g1⟩ := D8.out.1
          obtain ⟨_, wk, _⟩ := D8.out.2.1
          have S13 : wr.drew.cell? ⟨S, 0, none⟩ = some (.slice (some ⟨Bk, 0, none⟩) (pk + 1) (pk + 1)) ∧ wr.drew.cell? ⟨S, 1, none⟩ = some (.slice (some ⟨B2, 0, none⟩) (n + 1) (n + 1)) ∧ wr.drew.cell? ⟨Wb, 0, none⟩ = some (.int .i64 0) := ⟨d0, d1, wk⟩
          have y0 := set_self d0
          have y1 := set_self d1
          have y2 := set_self g0
          refine wp_region_K (fun w' => w'.cell? ⟨S, 0, none⟩ = some (.slice (some ⟨Bk, 0, none⟩) (pk + 1) (pk + 1)) ∧ w'.cell? ⟨S, 1, none⟩ = some (.slice (some ⟨B2, 0, none⟩) (n + 1) (n + 1)) ∧ w'.cell? ⟨Wb, 0, none⟩ = some (.int .i64 0)) 4 5 #[false, false, false, false, false] (by kernel_rfl) (by kernel_rfl) (by kernel_rfl) ?_
          refine wpAnyK_take 0 69 (v := ?vz0) rfl (by kernel_rfl) (by kernel_rfl) (by kernel_rfl) (by kernel_rfl) (by kernel_rfl) (fun _ _ _ h => put_d 69 rfl (by decide) (by decide) h) rfl (Or.inl ⟨by rfl, ?hz0⟩) (by assumption) ?rz0
          case hz0 => (intro w hSw; go_simp; with_reducible rfl)
          simp only [Act.put, List.setIfInBounds_toArray, List.set_cons_zero, List.set_cons_succ]
          refine wpAnyK_take 1 70 (v := ?vz1) rfl (by kernel_rfl) (by kernel_rfl) (by kernel_rfl) (by kernel_rfl) (by kernel_rfl) (fun _ _ _ h => put_d 70 rfl (by decide) (by decide) h) rfl (Or.inl ⟨by rfl, ?hz1⟩) (by assumption) ?rz1
          case hz1 => (intro w hSw; go_simp; with_reducible rfl)
          simp only [Act.put, List.setIfInBounds_toArray, List.set_cons_zero, List.set_cons_succ]
          refine wpAnyK_take 2 71 (v := ?vz2) rfl (by kernel_rfl) (by kernel_rfl) (by kernel_rfl) (by kernel_rfl) (by kernel_rfl) (fun _ _ _ h => put_d 71 rfl (by decide) (by decide) h) rfl (Or.inl ⟨by rfl, ?hz2⟩) (by assumption) ?rz2
          case hz2 => (intro w hSw; go_simp; with_reducible rfl)
          simp only [Act.put, List.setIfInBounds_toArray, List.set_cons_zero, List.set_cons_succ]
          refine wpAnyK_one 3 (by kernel_rfl) rfl (fun K hK => ?_)
          go_simp
          refine hK.out _ _ (fun _ _ => S13) ?_
          clear hK K
          simp only [List.setIfInBounds_toArray, List.set_cons_zero, List.set_cons_succ]
          refine wpAnyK_one 4 (by kernel_rfl) rfl (fun K hK => ?_)
          go_simp
          refine hK.out _ _ (fun h => absurd rfl h) ?_
          clear hK K
          simp only [List.setIfInBounds_toArray, List.set_cons_zero, List.set_cons_succ]
          refine wpAnyK_done (by kernel_rfl) ?_ _
          clear S13 y0 y1 y2 d0 d1 f0 f1 g0 g1 wk
          go_wp2_with fail
          refine leaves_cons (f := 45) (args := #[.pointer (some ⟨Wb, 0, none⟩), .pointer (some ⟨S, 0, none⟩), .pointer (some ⟨E, 0, none⟩)]) (by simp) (by simp [go_sem]) ?_
          replace D8 := hide (D8.out.bw (Bw.drw wr))
          refine (dof10 .returning D8.out.2.1 D8.out.1 M2'.out.1 D8.out.2.2.2.1 M2'.out.2.1).mono ?_
          rintro e u' w14 ⟨rfl, rfl, b14⟩
          have D14 := D8.out.bw b14
          exact ⟨_, res_cc rfl _ _ S E _ _ 0 rfl rfl D14.1.1 D14.1.2.2.2.2.1, _, _, pk, Lk, l2, rfl, ⟨_, _, _, rfl, D14.2.2.2.2.1⟩, ⟨_, _, _, rfl, D14.2.2.2.1⟩, MK.out.1, M2'.out.1, M2'.out.2.1, by have := MK.out.2.1; omega, MK.out.2.2, M2'.out.2.2, D14.2.2.2.2.2⟩
end Go.Proofs.Ytmbjgakehghdjaa
/-
  OWN TEXT: values of a sum of poles' Tops and of a derivative at a pole: plain whole complex numbers.
-/
namespace Go.Proofs.Ytmbjgakehghdjaa
set_option linter.unusedVariables false
theorem tt_out (zs rs : List Py.G) (k i : Nat) (h : zs.length + 1 ≤ i) : tt zs rs k i = (0, 0) := by
  induction k with
  | zero => rfl
  | succ k ih =>
    rw [tt, ih, Py.co_out (l := Py.ofl [(1, 0)] (rm zs k)) (by rw [Py.ofl_len, rm_len]; simp; omega), Py.gm_nought, Py.ga_nought]
/-- the product of the differences from all others -/
def Df (zs : List Py.G) (m : Nat) : Py.G := Py.ev (Py.ofl [(1, 0)] (rm zs m)) (Py.co zs m)
theorem rm_zero {zs : List Py.G} {k m : Nat} (hk : k < zs.length) (hm : m < zs.length) (hne : k ≠ m) : Py.ev (Py.ofl [(1, 0)] (rm zs k)) (Py.co zs m) = (0, 0) := by
  by_cases c : m < k
  · have h := Py.ofl_zero [(1, 0)] (rm zs k) m (by rw [rm_len]; omega)
    rw [co_rm zs k m (by omega), if_pos c] at h
    exact h
  · have h := Py.ofl_zero [(1, 0)] (rm zs k) (m - 1) (by rw [rm_len]; omega)
    rw [co_rm zs k (m - 1) (by omega), if_neg (by omega), show m - 1 + 1 = m by omega] at h
    exact h
theorem top_ev {zs rs : List Py.G} {m : Nat} (hm : m < zs.length) : ∀ (k : Nat) (T : List Py.G), k ≤ zs.length → (∀ i, Py.co T i = tt zs rs k i) → Py.ev T (Py.co zs m) = if m < k then Py.gm (Py.co rs m) (Df zs m) else (0, 0) := by
  intro k
  induction k with
  | zero =>
    intro T _ h
    rw [if_neg (by omega)]
    exact Py.ev_noughts T _ (fun i => by rw [h]; rfl)
  | succ k ih =>
    intro T hk h
    have hA : ∀ i, Py.co ((List.range (zs.length + 1)).map (tt zs rs k)) i = tt zs rs k i := fun i => by
      rw [Py.co_map]
      by_cases z : i < zs.length + 1
      · rw [if_pos z]
      · rw [if_neg z, tt_out zs rs k i (by omega)]
    have hB : ∀ i, Py.co ((List.range (zs.length + 1)).map (fun i => Py.gm (Py.co rs k) (Py.co (Py.ofl [(1, 0)] (rm zs k)) i))) i = Py.gm (Py.co rs k) (Py.co (Py.ofl [(1, 0)] (rm zs k)) i) := fun i => by
      rw [Py.co_map]
      by_cases z : i < zs.length + 1
      · rw [if_pos z]
      · rw [if_neg z, Py.co_out (l := Py.ofl [(1, 0)] (rm zs k)) (by rw [Py.ofl_len, rm_len]; simp; omega), Py.gm_nought]
    rw [Py.ev_add T ((List.range (zs.length + 1)).map (tt zs rs k)) ((List.range (zs.length + 1)).map (fun i => Py.gm (Py.co rs k) (Py.co (Py.ofl [(1, 0)] (rm zs k)) i))) _ (fun i => by rw [h, hA, hB]; rfl), ih _ (by omega) hA, Py.ev_scale _ _ (Py.co rs k) _ hB]
    by_cases c : k = m
    · subst c
      rw [if_neg (by omega), if_pos (by omega), Py.nought_ga]
      rfl
    · rw [rm_zero (by omega) hm c, Py.gm_nought, Py.ga_nought]
      by_cases c2 : m < k
      · rw [if_pos c2, if_pos (by omega)]
      · rw [if_neg c2, if_neg (by omega)]
theorem ev_ofl1 (a x : Py.G) : Py.ev (Py.ofl [(1, 0)] [a]) x = Py.gs x a := by
  show Py.ev (Py.wz [(1, 0)] a) x = _
  rw [Py.ev_wz, Py.ev, Py.ev, Py.nought_gm, Py.nought_ga]
  exact Py.gext (by unfold Py.gm; simp) (by unfold Py.gm; simp)
theorem ev_ofl2 (a b x : Py.G) : Py.ev (Py.ofl [(1, 0)] [a, b]) x = Py.gm (Py.gs x a) (Py.gs x b) := by
  show Py.ev (Py.wz (Py.ofl [(1, 0)] [a]) b) x = _
  rw [Py.ev_wz, ev_ofl1]
theorem df1 (a : Py.G) : Df [a] 0 = (1, 0) := by
  show Py.ev [(1, 0)] a = _
  rw [Py.ev, Py.ev, Py.nought_gm, Py.nought_ga]
theorem df2_0 (a b : Py.G) : Df [a, b] 0 = Py.gs a b := ev_ofl1 b a
theorem df2_1 (a b : Py.G) : Df [a, b] 1 = Py.gs b a := ev_ofl1 a b
theorem df3_0 (a b d : Py.G) : Df [a, b, d] 0 = Py.gm (Py.gs a b) (Py.gs a d) := ev_ofl2 b d a
theorem df3_1 (a b d : Py.G) : Df [a, b, d] 1 = Py.gm (Py.gs b a) (Py.gs b d) := ev_ofl2 a d b
theorem df3_2 (a b d : Py.G) : Df [a, b, d] 2 = Py.gm (Py.gs d a) (Py.gs d b) := ev_ofl2 a b d
theorem sl_ev1 {s l : List Py.G} (a : Py.G) (hs : ∀ i, Py.co s i = gk (i + 1) (Py.co l (i + 1))) (hl : ∀ i, Py.co l i = Py.co (Py.ofl [(1, 0)] [a]) i) (x : Py.G) : Py.ev s x = (1, 0) := by
  have e : Py.ev s x = Py.ev [(1, 0)] x := Py.ev_same s _ x (fun i => by
    rw [hs, hl]
    show gk (i + 1) (Py.co (Py.wz [(1, 0)] a) (i + 1)) = _
    rw [Py.co_wz, Py.co_succ]
    match i with
    | 0 => exact Py.gext (by simp [gk, Py.gs, Py.gm, Py.co]) (by simp [gk, Py.gs, Py.gm, Py.co])
    | i + 1 => exact Py.gext (by simp [gk, Py.gs, Py.gm, Py.co]) (by simp [gk, Py.gs, Py.gm, Py.co]))
  rw [e, Py.ev, Py.ev, Py.nought_gm, Py.nought_ga]
theorem sl_ev2 {s l : List Py.G} (a b : Py.G) (hs : ∀ i, Py.co s i = gk (i + 1) (Py.co l (i + 1))) (hl : ∀ i, Py.co l i = Py.co (Py.ofl [(1, 0)] [a, b]) i) (x : Py.G) : Py.ev s x = Py.ga (Py.gs x a) (Py.gs x b) := by
  have e : Py.ev s x = Py.ev [Py.gn (Py.ga a b), (2, 0)] x := Py.ev_same s _ x (fun i => by
    rw [hs, hl]
    show gk (i + 1) (Py.co (Py.wz (Py.wz [(1, 0)] a) b) (i + 1)) = _
    rw [Py.co_wz, Py.co_succ, Py.co_wz, Py.co_wz, Py.co_succ]
    match i with
    | 0 => exact Py.gext (by simp [gk, Py.gs, Py.gm, Py.gn, Py.ga, Py.co]; omega) (by simp [gk, Py.gs, Py.gm, Py.gn, Py.ga, Py.co]; omega)
    | 1 => exact Py.gext (by simp [gk, Py.gs, Py.gm, Py.gn, Py.ga, Py.co]) (by simp [gk, Py.gs, Py.gm, Py.gn, Py.ga, Py.co])
    | i + 2 => exact Py.gext (by simp [gk, Py.gs, Py.gm, Py.gn, Py.ga, Py.co]) (by simp [gk, Py.gs, Py.gm, Py.gn, Py.ga, Py.co]))
  rw [e, Py.ev, Py.ev, Py.ev, Py.nought_gm, Py.nought_ga]
  exact Py.gext (by simp [Py.gs, Py.gm, Py.gn, Py.ga]; omega) (by simp [Py.gs, Py.gm, Py.gn, Py.ga]; omega)
theorem sl_ev3 {s l : List Py.G} (a b d : Py.G) (hs : ∀ i, Py.co s i = gk (i + 1) (Py.co l (i + 1))) (hl : ∀ i, Py.co l i = Py.co (Py.ofl [(1, 0)] [a, b, d]) i) (x : Py.G) : Py.ev s x = Py.ga (Py.ga (Py.gm (Py.gs x a) (Py.gs x b)) (Py.gm (Py.gs x a) (Py.gs x d))) (Py.gm (Py.gs x b) (Py.gs x d)) := by
  have e : Py.ev s x = Py.ev [Py.ga (Py.ga (Py.gm a b) (Py.gm a d)) (Py.gm b d), Py.gm (-2, 0) (Py.ga (Py.ga a b) d), (3, 0)] x := Py.ev_same s _ x (fun i => by
    rw [hs, hl]
    show gk (i + 1) (Py.co (Py.wz (Py.wz (Py.wz [(1, 0)] a) b) d) (i + 1)) = _
    match i with
    | 0 =>
      simp only [Py.co_wz, Py.co_succ, Py.co_zero, Py.co_nil]
      exact Py.gext (by simp [gk, Py.gs, Py.gm, Py.ga]; grind) (by simp [gk, Py.gs, Py.gm, Py.ga]; grind)
    | 1 =>
      simp only [Py.co_wz, Py.co_succ, Py.co_zero, Py.co_nil]
      exact Py.gext (by simp [gk, Py.gs, Py.gm, Py.ga]; grind) (by simp [gk, Py.gs, Py.gm, Py.ga]; grind)
    | 2 =>
      simp only [Py.co_wz, Py.co_succ, Py.co_zero, Py.co_nil]
      exact Py.gext (by simp [gk, Py.gs, Py.gm]) (by simp [gk, Py.gs, Py.gm])
    | i + 3 =>
      simp only [Py.co_wz, Py.co_succ, Py.co_nil]
      exact Py.gext (by simp [gk, Py.gs, Py.gm]) (by simp [gk, Py.gs, Py.gm]))
  rw [e, Py.ev, Py.ev, Py.ev, Py.ev, Py.nought_gm, Py.nought_ga]
  exact Py.gext (by simp [Py.gs, Py.gm, Py.ga]; grind) (by simp [Py.gs, Py.gm, Py.ga]; grind)
theorem gs_self (a : Py.G) : Py.gs a a = (0, 0) := Py.gext (by simp [Py.gs]) (by simp [Py.gs])
theorem sl_df {zs s l : List Py.G} (hn : zs.length ≤ 3) (m : Nat) (hm : m < zs.length) (hs : ∀ i, Py.co s i = gk (i + 1) (Py.co l (i + 1))) (hl : ∀ i, Py.co l i = Py.co (Py.ofl [(1, 0)] zs) i) : Py.ev s (Py.co zs m) = Df zs m := by
  match zs, hn, hm with
  | [a], _, hm =>
    have : m = 0 := by simp at hm; exact hm
    subst this
    rw [sl_ev1 a hs hl, df1]
  | [a, b], _, hm =>
    rcases (show m = 0 ∨ m = 1 by simp at hm; omega) with rfl | rfl
    · rw [sl_ev2 a b hs hl, df2_0]
      show Py.ga (Py.gs a a) (Py.gs a b) = _
      rw [gs_self, Py.nought_ga]
    · rw [sl_ev2 a b hs hl, df2_1]
      show Py.ga (Py.gs b a) (Py.gs b b) = _
      rw [gs_self, Py.ga_nought]
  | [a, b, d], _, hm =>
    rcases (show m = 0 ∨ m = 1 ∨ m = 2 by simp at hm; omega) with rfl | rfl | rfl
    · rw [sl_ev3 a b d hs hl, df3_0]
      show Py.ga (Py.ga (Py.gm (Py.gs a a) (Py.gs a b)) (Py.gm (Py.gs a a) (Py.gs a d))) (Py.gm (Py.gs a b) (Py.gs a d)) = _
      rw [gs_self, Py.nought_gm, Py.nought_gm, Py.nought_ga, Py.nought_ga]
    · rw [sl_ev3 a b d hs hl, df3_1]
      show Py.ga (Py.ga (Py.gm (Py.gs b a) (Py.gs b b)) (Py.gm (Py.gs b a) (Py.gs b d))) (Py.gm (Py.gs b b) (Py.gs b d)) = _
      rw [gs_self, Py.nought_gm, Py.gm_nought, Py.nought_ga, Py.ga_nought]
    · rw [sl_ev3 a b d hs hl, df3_2]
      show Py.ga (Py.ga (Py.gm (Py.gs d a) (Py.gs d b)) (Py.gm (Py.gs d a) (Py.gs d d))) (Py.gm (Py.gs d b) (Py.gs d d)) = _
      rw [gs_self, Py.gm_nought, Py.gm_nought, Py.ga_nought, Py.ga_nought]
theorem gs_zero {a b : Py.G} (h : Py.gs a b = (0, 0)) : a = b := by
  have h1 := congrArg Prod.fst h
  have h2 := congrArg Prod.snd h
  simp only [Py.gs] at h1 h2
  exact Py.gext (by omega) (by omega)
theorem df_ne {zs : List Py.G} (hn : zs.length ≤ 3) (m : Nat) (hm : m < zs.length) (hd : ∀ j, j < zs.length → j ≠ m → Py.co zs j ≠ Py.co zs m) : Df zs m ≠ (0, 0) := by
  match zs, hn, hm, hd with
  | [a], _, hm, hd =>
    have : m = 0 := by simp at hm; exact hm
    subst this
    rw [df1]; decide
  | [a, b], _, hm, hd =>
    rcases (show m = 0 ∨ m = 1 by simp at hm; omega) with rfl | rfl
    · rw [df2_0]; exact fun e => hd 1 (by simp) (by omega) (gs_zero e).symm
    · rw [df2_1]; exact fun e => hd 0 (by simp) (by omega) (gs_zero e).symm
  | [a, b, d], _, hm, hd =>
    rcases (show m = 0 ∨ m = 1 ∨ m = 2 by simp at hm; omega) with rfl | rfl | rfl
    · rw [df3_0]
      intro e
      rcases Py.gm_zero e with e | e
      · exact hd 1 (by simp) (by omega) (gs_zero e).symm
      · exact hd 2 (by simp) (by omega) (gs_zero e).symm
    · rw [df3_1]
      intro e
      rcases Py.gm_zero e with e | e
      · exact hd 0 (by simp) (by omega) (gs_zero e).symm
      · exact hd 2 (by simp) (by omega) (gs_zero e).symm
    · rw [df3_2]
      intro e
      rcases Py.gm_zero e with e | e
      · exact hd 0 (by simp) (by omega) (gs_zero e).symm
      · exact hd 1 (by simp) (by omega) (gs_zero e).symm
theorem df_le {zs : List Py.G} (hn : zs.length ≤ 3) (m : Nat) (hm : m < zs.length) (hz : ∀ i, Py.Le (Py.co zs i) 12) : Py.Le (Df zs m) 576 := by
  match zs, hn, hm, hz with
  | [a], _, hm, hz =>
    have : m = 0 := by simp at hm; exact hm
    subst this
    rw [df1]
    show (1 : Int) * 1 + 0 * 0 ≤ _
    decide
  | [a, b], _, hm, hz =>
    have h0 := hz 0
    have h1 := hz 1
    rcases (show m = 0 ∨ m = 1 by simp at hm; omega) with rfl | rfl
    · rw [df2_0]; exact (h0.sub h1).mono (by omega)
    · rw [df2_1]; exact (h1.sub h0).mono (by omega)
  | [a, b, d], _, hm, hz =>
    have h0 := hz 0
    have h1 := hz 1
    have h2 := hz 2
    rcases (show m = 0 ∨ m = 1 ∨ m = 2 by simp at hm; omega) with rfl | rfl | rfl
    · rw [df3_0]; exact ((h0.sub h1).mul (h0.sub h2)).mono (by omega)
    · rw [df3_1]; exact ((h1.sub h0).mul (h1.sub h2)).mono (by omega)
    · rw [df3_2]; exact ((h2.sub h0).mul (h2.sub h1)).mono (by omega)
end Go.Proofs.Ytmbjgakehghdjaa
/-
  OWN TEXT: the small polynomials of the law (eddylaw08.whole, of, small).
-/
namespace Go.Proofs.Ytmbjgakehghdjaa
open Go.ChangeShapes Go.WideShapes Go.ChangeAt Go.RowKit
set_option linter.unusedVariables false
attribute [local go_sem] frombits_call tobits_call run_neg run_store_cx
theorem small_all : ∀ k : Fin 17, floatOfInt .f64 ((k.val : Int) - 8) < 18446744073709551616 ∧ Fl.rg (floatOfInt .f64 ((k.val : Int) - 8)) < 9218868437227405312 ∧ Fl.val (floatOfInt .f64 ((k.val : Int) - 8)) = ((k.val : Int) - 8) * ((2 ^ 1074 : Nat) : Int) := by decide +kernel
theorem w_small {c : Nat} (hc : c = 1074) (m : Int) (h1 : -8 ≤ m) (h2 : m ≤ 8) : wI c (floatOfInt .f64 m) m := by
  have h := small_all ⟨(m + 8).toNat, by omega⟩
  simp only at h
  rw [show (((m + 8).toNat : Nat) : Int) - 8 = m by omega] at h
  subst hc
  exact h
/-- a slice of ints that is read -/
def Ix (w : World) (a : Option Addr) (len : Nat) : Prop := len = 0 ∨ ∃ b off, a = some ⟨b, off, none⟩ ∧ b < w.heap.size ∧ ∀ j, j < len → ∃ z, w.cell? ⟨b, off + j, none⟩ = some (.int .i64 z)
theorem info_c128 : (Try.prog.info? 27).map (fun i => (i.zero, i.size, i.bytes)) = some (some (.complex .f64 0 0), 1, 16) := by kernel_rfl
theorem info_parts8 {i0 : Option TypeInfo} {z : Option Value} {s b : Nat} (h : i0.map (fun i => (i.zero, i.size, i.bytes)) = some (z, s, b)) : ∃ i, i0 = some i ∧ i.zero = z ∧ i.size = s ∧ i.bytes = b := by
  obtain ⟨i, hi, he⟩ := Option.map_eq_some_iff.1 h
  simp only [Prod.mk.injEq] at he
  exact ⟨i, hi, he.1, he.2.1, he.2.2⟩
/-- the values of a list -/
def Vl (c : Nat) (vals : List Value) (L : List Py.G) : Prop := vals.length = L.length ∧ ∀ j, j < L.length → ∃ x y, vals[j]? = some (.complex .f64 x y) ∧ wC c x y (Py.co L j)
theorem Vl.snoc {c x y : Nat} {g : Py.G} {vals : List Value} {L : List Py.G} (h : Vl c vals L) (hg : wC c x y g) : Vl c (vals ++ [.complex .f64 x y]) (L ++ [g]) := by
  refine ⟨by simp [h.1], fun j hj => ?_⟩
  rw [Py.co_append]
  by_cases k : j < L.length
  · obtain ⟨x, y, e, q⟩ := h.2 j k
    rw [if_pos k]
    exact ⟨x, y, by rw [List.getElem?_append_left (by rw [h.1]; exact k)]; exact e, q⟩
  · have : j = L.length := by simp at hj; omega
    subst this
    rw [if_neg k, Nat.sub_self]
    exact ⟨x, y, by rw [List.getElem?_append_right (by rw [h.1]; exact Nat.le_refl _), h.1, Nat.sub_self]; rfl, hg⟩
theorem Vl.gw {c : Nat} {w : World} {B g n cap : Nat} {vals : List Value} {L : List Py.G} (h : Vl c vals L) (hn : L.length = n) (ho : w.ownsRow B 27 1 (.slice (some ⟨g, 0, none⟩) n cap) n vals) : Gw c w g L := by
  refine ⟨⟨(ho.lt g rfl).2, fun j hj => ?_⟩, fun j => ho.frozenAt j⟩
  obtain ⟨x, y, e, q⟩ := h.2 j hj
  exact ⟨x, y, by rw [Nat.zero_add, ho.cellAt j (by omega)]; exact e, q⟩
theorem le_small {m n : Int} (h1 : m.natAbs ≤ 8) (h2 : n.natAbs ≤ 8) : Py.Le (m, n) 12 := by
  have a1 : m * m ≤ 64 := by
    have : m * m = (m.natAbs * m.natAbs : Nat) := by rw [Int.natAbs_mul_self]
    rw [this]
    have := Nat.mul_le_mul h1 h1
    omega
  have a2 : n * n ≤ 64 := by
    have : n * n = (n.natAbs * n.natAbs : Nat) := by rw [Int.natAbs_mul_self]
    rw [this]
    have := Nat.mul_le_mul h2 h2
    omega
  show m * m + n * n ≤ _
  have e : ((12 : Nat) : Int) * (12 : Nat) = 144 := by decide
  rw [e]
  omega
/-- parts of at most 8 -/
def E8 (g : Py.G) : Prop := g.1.natAbs ≤ 8 ∧ g.2.natAbs ≤ 8
theorem E8.nought : E8 (0, 0) := ⟨by decide, by decide⟩
theorem E8.le {g : Py.G} (h : E8 g) : Py.Le g 12 := le_small h.1 h.2
theorem three8 {c : Nat} (hc : c = 1074) : wC c 0 13837309855095848960 (0, -3) := by
  have h := w_small hc (-3) (by decide) (by decide)
  rw [show floatOfInt .f64 (-3) = 13837309855095848960 by decide +kernel] at h
  exact ⟨w_nought c, h⟩
end Go.Proofs.Ytmbjgakehghdjaa
