/-
 OWN TEXT: whole complex numbers as the program has them: signs, quotients by 1, tests; package poly's tests of one number.
-/
import Derived.Test.YtjpllggchjgjpaaGreatJPyAToPyC
import Derived.Test.YtjpllggchjgjpaaGreatJPoTToRpA
import Derived.Laws.IdiomCopy
namespace Go.Proofs.YtjpllggchjgjpaaGreat
open Go.ChangeShapes Go.WideShapes Go.ChangeAt Go.RowKit
set_option linter.unusedVariables false
attribute [local go_sem] frombits_call tobits_call run_neg
theorem pneg8 {c x y : Nat} {g : Py.G} (hg : wC c x y g) : ∃ r s, wC c r s (Py.gn g) ∧ ∀ w, Calls Tryz.prog 97 #[.complex .f64 x y] w fun e w' => e = .returned (.complex .f64 r s) ∧ w' = w :=
 ⟨_, _, ⟨hg.1.ng, hg.2.ng⟩, fun w => neg2_any x y w hg.1.1 hg.2.1⟩
/-- like, of two floats -/
theorem wI.like {c a b : Nat} {m n : Int} (ha : wI c a m) (hb : wI c b n) (h : Fl.eqF a b = false) : Fl.sameB a b = false := by
 rw [ha.eq hb] at h
 have hne := of_decide_eq_false h
 unfold Fl.sameB
 rw [ha.nan, hb.nan]
 simp only [Bool.and_false, Bool.false_or]
 have : a ≠ b := by
  rintro rfl
  have h1 := ha.2.2
  rw [hb.2.2] at h1
  have hp : (0 : Int) < ((2 ^ c : Nat) : Int) := by have := Nat.two_pow_pos c; omega
  exact hne (Int.eq_of_mul_eq_mul_right (by omega) h1).symm
 simp [this]
theorem alike8 {c a b : Nat} {m n : Int} (ha : wI c a m) (hb : wI c b n) (w : World) : Calls Tryz.prog 82 #[.float .f64 a, .float .f64 b] w fun e w' => e = .returned (.bool (decide (m = n))) ∧ w' = w := by
 have o := Fl.o_eq a b
 rw [ha.eq hb] at o
 by_cases k : m = n
 ·
  rw [decide_eq_true k] at o ⊢
  clear k ha hb
  go_enter Tryz.func82, Tryz.ntmps82
  go_wp2
  go_ret
  exact ⟨rfl, rfl⟩
 ·
  have s := ha.like hb (by rw [ha.eq hb]; exact decide_eq_false k)
  rw [decide_eq_false k] at o ⊢
  have S : Hid (∀ wz, Calls Tryz.prog 94 #[.float .f64 a, .float .f64 b] wz fun e w' => e = .returned (.bool false) ∧ w' = wz) := fun wz => by have q := same_any a b wz; rw [s] at q; exact q
  clear k ha hb s
  go_enter Tryz.func82, Tryz.ntmps82
  go_wp2_with fail
  refine (S.out _).mono ?_
  rintro e' w ⟨rfl, rfl⟩
  go_wp2
  go_ret
  exact ⟨rfl, rfl⟩
theorem g_eq (g h : Py.G) : decide (g = h) = (decide (g.1 = h.1) && decide (g.2 = h.2)) := by
 by_cases k : g = h
 · subst k; simp
 ·
  rw [decide_eq_false k]
  by_cases k1 : g.1 = h.1
  ·
   by_cases k2 : g.2 = h.2
   · exact absurd (Py.gext k1 k2) k
   · simp [k2]
  · simp [k1]
theorem plike8 {c x y u v : Nat} {g h : Py.G} (hg : wC c x y g) (hh : wC c u v h) (w : World) : Calls Tryz.prog 55 #[.complex .f64 x y, .complex .f64 u v] w fun e w' => e = .returned (.bool (decide (g = h))) ∧ w' = w := by
 rw [g_eq]
 have A1 : Hid (∀ wz, Calls Tryz.prog 82 #[.float .f64 x, .float .f64 u] wz fun e w' => e = .returned (.bool (decide (g.1 = h.1))) ∧ w' = wz) := fun wz => alike8 hg.1 hh.1 wz
 have A2 : Hid (∀ wz, Calls Tryz.prog 82 #[.float .f64 y, .float .f64 v] wz fun e w' => e = .returned (.bool (decide (g.2 = h.2))) ∧ w' = wz) := fun wz => alike8 hg.2 hh.2 wz
 generalize decide (g.1 = h.1) = p at *
 generalize decide (g.2 = h.2) = q at *
 clear hg hh
 cases p
 ·
  go_enter Tryz.func55, Tryz.ntmps55
  go_wp2_with fail
  refine (A1.out _).mono ?_
  rintro e' w ⟨rfl, rfl⟩
  go_wp2
  go_ret
  exact ⟨rfl, rfl⟩
 ·
  go_enter Tryz.func55, Tryz.ntmps55
  go_wp2_with fail
  refine (A1.out _).mono ?_
  rintro e' w ⟨rfl, rfl⟩
  go_wp2_with fail
  refine (A2.out _).mono ?_
  rintro e' w ⟨rfl, rfl⟩
  go_wp2
  go_ret
  exact ⟨by cases q <;> rfl, rfl⟩
theorem pwithin8 {c x y : Nat} {g : Py.G} (hc : c = 1074) (hg : wC c x y g) (hl : Py.Le g 1099511627776) (w : World) : Calls Tryz.prog 96 #[.complex .f64 x y] w fun e w' => e = .returned (.bool true) ∧ w' = w := by
 have A1 : Hid (∀ wz, Calls Tryz.prog 80 #[.float .f64 x, .float .f64 4787326403894837248] wz fun e w' => e = .returned (.bool true) ∧ w' = wz) := fun wz => by have q := within_any x 4787326403894837248 wz hg.1.1; rw [hg.1.within hc hl.one.1] at q; exact q
 have A2 : Hid (∀ wz, Calls Tryz.prog 80 #[.float .f64 y, .float .f64 4787326403894837248] wz fun e w' => e = .returned (.bool true) ∧ w' = wz) := fun wz => by have q := within_any y 4787326403894837248 wz hg.2.1; rw [hg.2.within hc hl.one.2] at q; exact q
 clear hg hl
 have P : Hid (∀ wz, Calls Tryz.prog 51 #[.complex .f64 x y, .float .f64 4787326403894837248] wz fun e w' => e = .returned (.bool true) ∧ w' = wz) := by
  intro wz
  go_enter Tryz.func51, Tryz.ntmps51
  go_wp2_with fail
  refine (A1.out _).mono ?_
  rintro e' w ⟨rfl, rfl⟩
  go_wp2_with fail
  refine (A2.out _).mono ?_
  rintro e' w ⟨rfl, rfl⟩
  go_wp2
  go_ret
  exact ⟨rfl, rfl⟩
 clear A1 A2
 go_enter Tryz.func96, Tryz.ntmps96
 go_wp2_with fail
 refine (P.out _).mono ?_
 rintro e' w ⟨rfl, rfl⟩
 go_wp2
 go_ret
 exact ⟨rfl, rfl⟩
theorem pfinite8 {c x y : Nat} {g : Py.G} (hg : wC c x y g) (w : World) : Calls Tryz.prog 32 #[.complex .f64 x y] w fun e w' => e = .returned (.bool true) ∧ w' = w := by
 have A1 : Hid (∀ wz, Calls Tryz.prog 52 #[.float .f64 x] wz fun e w' => e = .returned (.bool true) ∧ w' = wz) := fun wz => by have q := finite_any x wz hg.1.1; rw [hg.1.fin] at q; exact q
 have A2 : Hid (∀ wz, Calls Tryz.prog 52 #[.float .f64 y] wz fun e w' => e = .returned (.bool true) ∧ w' = wz) := fun wz => by have q := finite_any y wz hg.2.1; rw [hg.2.fin] at q; exact q
 clear hg
 go_enter Tryz.func32, Tryz.ntmps32
 go_wp2_with fail
 refine (A1.out _).mono ?_
 rintro e' w ⟨rfl, rfl⟩
 go_wp2_with fail
 refine (A2.out _).mono ?_
 rintro e' w ⟨rfl, rfl⟩
 go_wp2
 go_ret
 exact ⟨rfl, rfl⟩
theorem isnought8 {c x y : Nat} {g : Py.G} (hg : wC c x y g) (w : World) : Calls Tryz.prog 87 #[.complex .f64 x y] w fun e w' => e = .returned (.bool (decide (g = (0, 0)))) ∧ w' = w := by
 have P : Hid (∀ wz, Calls Tryz.prog 55 #[.complex .f64 x y, .complex .f64 0 0] wz fun e w' => e = .returned (.bool (decide (g = (0, 0)))) ∧ w' = wz) := fun wz => plike8 hg (wC.nought c) wz
 clear hg
 generalize decide (g = (0, 0)) = p at *
 go_enter Tryz.func87, Tryz.ntmps87
 go_wp2_with fail
 refine (P.out _).mono ?_
 rintro e' w ⟨rfl, rfl⟩
 go_wp2
 go_ret
 exact ⟨rfl, rfl⟩
end Go.Proofs.YtjpllggchjgjpaaGreat

/-
 OWN TEXT: lists of whole complex numbers in memory; package poly's tests of lists.
-/
namespace Go.Proofs.YtjpllggchjgjpaaGreat
open Go.ChangeShapes Go.WideShapes Go.ChangeAt Go.RowKit
set_option linter.unusedVariables false
attribute [local go_sem] frombits_call tobits_call run_neg
/-- the list l lies at block b, from o on -/
def Gl (c : Nat) (w : World) (b o : Nat) (l : List Py.G) : Prop := b < w.heap.size ∧ ∀ i, i < l.length → ∃ x y, w.cell? ⟨b, o + i, none⟩ = some (.complex .f64 x y) ∧ wC c x y (Py.co l i)
theorem Gl.bw {c : Nat} {w w' : World} {b o : Nat} {l : List Py.G} (h : Gl c w b o l) (k : Bw w w') : Gl c w' b o l := by
 obtain ⟨h1, h2⟩ := h
 have hs : w.heap.size ≤ w'.heap.size := Below.size k
 refine ⟨by omega, fun i hi => ?_⟩
 obtain ⟨x, y, e, q⟩ := h2 i hi
 exact ⟨x, y, (Below.cell k (p := ⟨b, o + i, none⟩) h1).trans e, q⟩
/-- the same, and it may be written -/
def Gw (c : Nat) (w : World) (B : Nat) (l : List Py.G) : Prop := Gl c w B 0 l ∧ ∀ i, w.frozen? ⟨B, i, none⟩ = false
theorem Gw.set {c : Nat} {w : World} {B : Nat} {l : List Py.G} (h : Gw c w B l) (i x y : Nat) (g : Py.G) (hi : i < l.length) (hg : wC c x y g) : Gw c (w.setCell ⟨B, i, none⟩ (.complex .f64 x y)) B (l.set i g) := by
 obtain ⟨⟨h1, h2⟩, h3⟩ := h
 refine ⟨⟨by simpa [World.setCell] using h1, fun j hj => ?_⟩, fun j => (World.frozen?_setCell _ _ _ _).trans (h3 j)⟩
 rw [List.length_set] at hj
 rw [Py.co_set _ _ _ _ hi]
 obtain ⟨x', y', e, q⟩ := h2 j hj
 by_cases k : j = i
 ·
  subst k
  rw [if_pos rfl]
  exact ⟨x, y, by rw [Nat.zero_add] at e ⊢; exact World.cell?_setCell_same _ _ _ e, hg⟩
 ·
  rw [if_neg k]
  refine ⟨x', y', ?_, q⟩
  rw [World.cell?_setCell_other]
  · exact e
  · intro e'; cases e'; omega
theorem last8 {c : Nat} {w : World} {b o cap : Nat} {l : List Py.G} (n : Nat) (hn : l.length = n + 1) (hm : n < 1000000) (h : Gl c w b o l) : ∃ x y, wC c x y (Py.co l n) ∧ Calls Tryz.prog 88 #[.slice (some ⟨b, o, none⟩) (n + 1) cap] w fun e w' => e = .returned (.complex .f64 x y) ∧ w' = w := by
 obtain ⟨x, y, e, q⟩ := h.2 n (by omega)
 refine ⟨x, y, q, ?_⟩
 clear q h hn
 go_enter Tryz.func88, Tryz.ntmps88
 go_wp2
 go_ret
 exact ⟨rfl, rfl⟩
theorem places8 {c : Nat} (hc : c = 1074) {w : World} {b o cap : Nat} {l : List Py.G} (n : Nat) (hn : l.length = n) (hm : n < 1000000) (h : Gl c w b o l) (hl : ∀ i, i < n → Py.Le (Py.co l i) 1099511627776) : Calls Tryz.prog 85 #[.slice (some ⟨b, o, none⟩) n cap] w fun e w' => e = .returned (.bool true) ∧ Bw w w' := by
 have HL : Hid (∀ i, i < n → Py.Le (Py.co l i) 1099511627776) := hl
 have HG : Hid (Gl c w b o l) := h
 have HN : Hid (l.length = n) := hn
 clear hl h hn
 go_enter Tryz.func85, Tryz.ntmps85
 go_wp2
 go_loopw [7] (fun i wr => ∃ k : Nat, k ≤ n ∧ i = .int .i64 k ∧ Bw w wr) (fun i _ => n - (intOf i).toNat)
 case atStart => exact ⟨0, Nat.zero_le _, rfl, Bw.refl _⟩
 case round =>
  obtain ⟨k, hk, rfl, hbw⟩ := hrel
  by_cases hk1 : k < n
  ·
   obtain ⟨x, y, e, q⟩ := (HG.out.bw hbw).2 k (by have := HN.out; omega)
   have P : Hid (∀ wz, Calls Tryz.prog 96 #[.complex .f64 x y] wz fun e w' => e = .returned (.bool true) ∧ w' = wz) := fun wz => pwithin8 hc q (HL.out k hk1) wz
   clear q
   have hk2 : (k : Int) < n := by omega
   go_wp2_with fail
   refine (P.out _).mono ?_
   rintro e' w1 ⟨rfl, rfl⟩
   clear P e
   go_wp2
   go_roundw
   case rel => exact ⟨k + 1, by omega, by simp, hbw⟩
   case measure => simp [intOf]; omega
  ·
   have hk3 : k = n := by omega
   subst hk3
   go_wp2
   go_ret
   exact ⟨rfl, hbw⟩
end Go.Proofs.YtjpllggchjgjpaaGreat

/-
 OWN TEXT: package poly: Check, copies, answers, of lists of whole complex numbers.
-/
namespace Go.Proofs.YtjpllggchjgjpaaGreat
open Go.ChangeShapes Go.WideShapes Go.ChangeAt Go.RowKit
set_option linter.unusedVariables false
attribute [local go_sem] frombits_call tobits_call run_neg
theorem hide {p : Prop} (h : p) : Hid p := h
/-- a polynomial that may be, of the degree n -/
def May (n : Nat) (l : List Py.G) : Prop := l.length = n + 1 ∧ n ≤ 64 ∧ (n = 0 ∨ Py.co l n ≠ (0, 0)) ∧ ∀ i, i < n + 1 → Py.Le (Py.co l i) 1099511627776
theorem check8 {c : Nat} (hc : c = 1074) {w : World} {b o cap n : Nat} {l : List Py.G} (hm : May n l) (h : Gl c w b o l) : Calls Tryz.prog 72 #[.slice (some ⟨b, o, none⟩) (n + 1) cap] w fun e w' => e = .returned (.int .i64 0) ∧ Bw w w' := by
 obtain ⟨h1, h2, h3, h4⟩ := hm
 have A : Hid (∀ wz, Bw w wz → Calls Tryz.prog 85 #[.slice (some ⟨b, o, none⟩) (n + 1) cap] wz fun e w' => e = .returned (.bool true) ∧ Bw wz w') := fun wz hz => places8 hc (n + 1) h1 (by omega) (h.bw hz) h4
 by_cases z : n = 0
 ·
  subst z
  clear h h1 h2 h3 h4
  go_enter Tryz.func72, Tryz.ntmps72
  go_wp2_with fail
  refine (A.out _ (Bw.refl _)).mono ?_
  rintro e' w1 ⟨rfl, hb⟩
  go_wp2
  go_ret
  exact ⟨rfl, hb⟩
 ·
  obtain ⟨x, y, q, L⟩ := last8 (cap := cap) n h1 (by omega) h
  have HL := hide L
  have I : Hid (∀ wz, Calls Tryz.prog 87 #[.complex .f64 x y] wz fun e w' => e = .returned (.bool false) ∧ w' = wz) := fun wz => by
   have k := isnought8 q wz
   rw [decide_eq_false (h3.resolve_left z)] at k
   exact k
  have t1 : ((n : Int) + 1 == 0) = false := by rw [beq_eq_false_iff_ne]; omega
  have t2 : ¬ 65 < (n : Int) + 1 := by omega
  have t3 : 1 < (n : Int) + 1 := by omega
  clear L q h h1 h3 h4 z h2
  go_enter Tryz.func72, Tryz.ntmps72
  go_wp2_with fail
  refine HL.out.mono ?_
  rintro e' w ⟨rfl, rfl⟩
  go_wp2_with fail
  refine (I.out _).mono ?_
  rintro e' w ⟨rfl, rfl⟩
  go_wp2_with fail
  refine (A.out _ (Bw.refl _)).mono ?_
  rintro e' w1 ⟨rfl, hb⟩
  go_wp2
  go_ret
  exact ⟨rfl, hb⟩
theorem checkwith8 {c : Nat} (hc : c = 1074) {w : World} {b o cap n x y : Nat} {l : List Py.G} {g : Py.G} (hm : May n l) (h : Gl c w b o l) (hg : wC c x y g) (lg : Py.Le g 1099511627776) : Calls Tryz.prog 92 #[.slice (some ⟨b, o, none⟩) (n + 1) cap, .complex .f64 x y] w fun e w' => e = .returned (.int .i64 0) ∧ Bw w w' := by
 have A := hide (check8 (cap := cap) hc hm h)
 have I : Hid (∀ wz, Calls Tryz.prog 96 #[.complex .f64 x y] wz fun e w' => e = .returned (.bool true) ∧ w' = wz) := fun wz => pwithin8 hc hg lg wz
 clear hm h hg lg
 go_enter Tryz.func92, Tryz.ntmps92
 go_wp2_with fail
 refine A.out.mono ?_
 rintro e' w1 ⟨rfl, hb⟩
 clear A
 go_wp2_with fail
 refine (I.out _).mono ?_
 rintro e' w ⟨rfl, rfl⟩
 go_wp2
 go_ret
 exact ⟨rfl, hb⟩
theorem checktwo8 {c : Nat} (hc : c = 1074) {w : World} {b o cap n b' o' cap' n' : Nat} {l l' : List Py.G} (hm : May n l) (h : Gl c w b o l) (hm' : May n' l') (h' : Gl c w b' o' l') : Calls Tryz.prog 69 #[.slice (some ⟨b, o, none⟩) (n + 1) cap, .slice (some ⟨b', o', none⟩) (n' + 1) cap'] w fun e w' => e = .returned (.int .i64 0) ∧ Bw w w' := by
 have A := hide (check8 (cap := cap) hc hm h)
 have A2 : Hid (∀ wz, Bw w wz → Calls Tryz.prog 72 #[.slice (some ⟨b', o', none⟩) (n' + 1) cap'] wz fun e w' => e = .returned (.int .i64 0) ∧ Bw wz w') := fun wz hz => check8 (cap := cap') hc hm' (h'.bw hz)
 clear hm h hm' h'
 go_enter Tryz.func69, Tryz.ntmps69
 go_wp2_with fail
 refine A.out.mono ?_
 rintro e' w1 ⟨rfl, hb⟩
 clear A
 go_wp2_with fail
 refine (A2.out _ hb).mono ?_
 rintro e' w2 ⟨rfl, hb2⟩
 replace hb := bw_trans hb hb2
 clear A2 hb2
 go_wp2
 go_ret
 exact ⟨rfl, hb⟩
theorem bw_alloc (w : World) (x : Obj) : Bw w (w.alloc x) := Below.alloc (Bw.refl w) (Nat.le_refl _) _
end Go.Proofs.YtjpllggchjgjpaaGreat

/-
 OWN TEXT: package poly: copies and answers, of lists of whole complex numbers.
-/
namespace Go.Proofs.YtjpllggchjgjpaaGreat
open Go.ChangeShapes Go.WideShapes Go.ChangeAt Go.RowKit
set_option linter.unusedVariables false
attribute [local go_sem] frombits_call tobits_call run_neg
theorem run_store_cx {P : Program} {w : World} {a : Addr} {m : Mode} (k : FloatKind) (x y : Nat) : (store a (.complex k x y) m).run P w = stored P w a (.complex k x y) m := run_store P w a _ m rfl
/-- noughts, as make lays them -/
def zcC (n : Nat) : Array Value := madeCells #[.complex .f64 0 0] n
theorem make_c (c : Int) (n : Nat) (hc : c = n) (h : n ≤ 1000000) (w : World) :
  (Instr.makeSlice 40 (.int .i64 c) (.int .i64 c)).run Tryz.prog w = .ok (.slice (some ⟨w.heap.size, 0, none⟩) n n) (w.alloc (.cells (zcC n) 26)) := by
 subst hc
 have k : (Tryz.prog.info? 26).map (fun i => (i.zero, i.size, i.bytes)) = some (some (.complex .f64 0 0), 1, 16) := by kernel_rfl
 obtain ⟨i, hi, he⟩ := Option.map_eq_some_iff.1 k
 simp only [Prod.mk.injEq] at he
 have hr := run_make (P := Tryz.prog) w 40 26 i (.complex .f64 0 0) (by kernel_rfl) hi he.1 .i64 .i64 n n (by omega) (by omega) (by rw [he.2.2]; omega) (by omega)
 rw [he.2.1] at hr
 simp only [Int.toNat_natCast, Nat.mul_one] at hr
 exact hr
theorem co_rep (n i : Nat) : Py.co (List.replicate n (0, 0)) i = (0, 0) := by
 unfold Py.co
 simp only [List.getD, List.getElem?_replicate]
 split <;> rfl
theorem Gw.made (c : Nat) (w : World) (n : Nat) (t : TypeId) : Gw c (w.alloc (.cells (zcC n) t)) w.heap.size (List.replicate n (0, 0)) := by
 refine ⟨⟨by simp, fun i hi => ?_⟩, fun i => ?_⟩
 ·
  rw [List.length_replicate] at hi
  rw [co_rep]
  refine ⟨0, 0, ?_, wC.nought c⟩
  rw [World.cell?_alloc_at _ _ _ _ rfl]
  unfold zcC madeCells
  simp [hi, Nat.mod_one]
 · exact World.frozen?_alloc_at _ _ _ _ rfl
theorem bw_setCells {w0 : World} (B : Nat) (hB : w0.heap.size ≤ B) (vs : List Value) : ∀ (o : Nat) (w : World), Bw w0 w → Bw w0 (w.setCells B o vs) := by
 induction vs with
 | nil => intro o w h; exact h
 | cons v r ih => intro o w h; exact ih (o + 1) _ (Below.setCell h hB v)
theorem size_setCells8 (B : Nat) (vs : List Value) : ∀ (o : Nat) (w : World), (w.setCells B o vs).heap.size = w.heap.size := by
 induction vs with
 | nil => intro o w; rfl
 | cons v r ih => intro o w; show ((w.setCell _ v).setCells B (o + 1) r).heap.size = _; rw [ih]; simp [World.setCell]
/-- the words of a list -/
theorem Gl.words {c : Nat} {w : World} {b o : Nat} {l : List Py.G} (h : Gl c w b o l) : ∃ F : Nat → Nat × Nat, ∀ i, i < l.length → w.cell? ⟨b, o + i, none⟩ = some (.complex .f64 (F i).1 (F i).2) ∧ wC c (F i).1 (F i).2 (Py.co l i) := by
 have k : ∀ i, ∃ p : Nat × Nat, i < l.length → w.cell? ⟨b, o + i, none⟩ = some (.complex .f64 p.1 p.2) ∧ wC c p.1 p.2 (Py.co l i) := by
  intro i
  by_cases hi : i < l.length
  ·
   obtain ⟨x, y, e, q⟩ := h.2 i hi
   exact ⟨(x, y), fun _ => ⟨e, q⟩⟩
  · exact ⟨(0, 0), fun x => absurd x hi⟩
 exact ⟨fun i => Classical.choose (k i), fun i => Classical.choose_spec (k i)⟩
def vsC (F : Nat → Nat × Nat) (n : Nat) : List Value := (List.range n).map fun i => .complex .f64 (F i).1 (F i).2
theorem vsC_len (F : Nat → Nat × Nat) (n : Nat) : (vsC F n).length = n := by simp [vsC]
theorem vsC_get (F : Nat → Nat × Nat) (n j : Nat) (h : j < n) : (vsC F n)[j]? = some (.complex .f64 (F j).1 (F j).2) := by
 unfold vsC; simp [h]
/-- L, with l laid over it from d on -/
def lay (L : List Py.G) (d : Nat) (l : List Py.G) : List Py.G := (List.range L.length).map fun i => if d ≤ i ∧ i < d + l.length then Py.co l (i - d) else Py.co L i
theorem lay_len (L : List Py.G) (d : Nat) (l : List Py.G) : (lay L d l).length = L.length := by simp [lay]
theorem co_lay (L : List Py.G) (d : Nat) (l : List Py.G) (h : d + l.length ≤ L.length) (i : Nat) : Py.co (lay L d l) i = if d ≤ i ∧ i < d + l.length then Py.co l (i - d) else Py.co L i := by
 unfold lay
 rw [Py.co_map]
 by_cases k : i < L.length
 · rw [if_pos k]
 · rw [if_neg k, if_neg (by omega), Py.co_out (by omega)]
theorem Gw.lay {c : Nat} {w : World} {B : Nat} {L l : List Py.G} (d : Nat) (F : Nat → Nat × Nat) (h : Gw c w B L) (hF : ∀ i, i < l.length → wC c (F i).1 (F i).2 (Py.co l i)) (hl : d + l.length ≤ L.length) : Gw c (w.setCells B d (vsC F l.length)) B (lay L d l) := by
 refine ⟨⟨by rw [size_setCells8]; exact h.1.1, fun i hi => ?_⟩, fun i => (World.frozen?_setCells B _ _ _ _).trans (h.2 i)⟩
 rw [lay_len] at hi
 rw [co_lay _ _ _ hl]
 obtain ⟨x, y, e, q⟩ := h.1.2 i hi
 rw [Nat.zero_add] at e ⊢
 by_cases k : d ≤ i ∧ i < d + l.length
 ·
  rw [if_pos k]
  refine ⟨_, _, ?_, hF (i - d) (by omega)⟩
  have m := World.cell?_setCells_in B (vsC F l.length) d w (fun j hj => by
   rw [vsC_len] at hj
   obtain ⟨x, y, e, q⟩ := h.1.2 (d + j) (by omega)
   rw [Nat.zero_add] at e
   rw [e]; rfl) (i - d) (by rw [vsC_len]; omega)
  rw [show d + (i - d) = i by omega] at m
  rw [m]
  have e' := vsC_get F l.length (i - d) (by omega)
  rw [List.getElem?_eq_getElem (by rw [vsC_len]; omega)] at e'
  exact e'
 ·
  rw [if_neg k]
  refine ⟨x, y, ?_, q⟩
  rw [World.cell?_setCells_out B (vsC F l.length) d w _ (fun _ _ => ?_)]
  · exact e
  · rw [vsC_len]; simp only; omega
theorem copy_c {c : Nat} {w : World} {B b o : Nat} {L l : List Py.G} (d n m ca cb : Nat) (F : Nat → Nat × Nat) (h : Gw c w B L) (hF : ∀ i, i < l.length → w.cell? ⟨b, o + i, none⟩ = some (.complex .f64 (F i).1 (F i).2)) (hn : l.length = n) (hm : n ≤ m) (hl : d + n ≤ L.length) :
  (Builtin.copy_ #[40, 40] 3 #[.slice (some ⟨B, d, none⟩) m cb, .slice (some ⟨b, o, none⟩) n ca]).run Tryz.prog w = .ok (.int .i64 n) (w.setCells B d (vsC F n)) := by
 subst hn
 have hu : Tryz.prog.underlying 40 = some (.slice 26) := by kernel_rfl
 have hs : (Tryz.prog.info? 26).map (·.size) = some 1 := by kernel_rfl
 have := run_copy_cells (P := Tryz.prog) w 40 40 3 26 B d m cb ⟨b, o, none⟩ l.length ca (vsC F l.length) hu hs (by rw [vsC_len]; exact (Nat.min_eq_left hm).symm) ?_ ?_ ?_ ?_
 · rw [vsC_len] at this; exact this
 ·
  intro j v hj
  have hjl : j < l.length := by
   have := (List.getElem?_eq_some_iff.1 hj).1; rw [vsC_len] at this; exact this
  rw [vsC_get F _ j hjl] at hj
  cases hj
  have hc := hF j hjl
  simp only [Addr.add]
  by_cases z : j = 0
  · subst z; simpa using hc
  · rw [if_neg z]; exact hc
 ·
  intro j hj
  rw [vsC_len] at hj
  obtain ⟨x, y, e, q⟩ := h.1.2 (d + j) (by omega)
  rw [Nat.zero_add] at e
  rw [e]; rfl
 · intro j hj; exact h.2 _
 ·
  intro v hv
  unfold vsC at hv
  obtain ⟨x, _, rfl⟩ := List.mem_map.1 hv
  rfl
theorem copied8 {c : Nat} {w : World} {b o cap : Nat} {l : List Py.G} (n : Nat) (hn : l.length = n) (hm : n ≤ 1000000) (h : Gl c w b o l) : Calls Tryz.prog 70 #[.slice (some ⟨b, o, none⟩) n cap] w fun e w' => e = .returned (.slice (some ⟨w.heap.size, 0, none⟩) n n) ∧ Gw c w' w.heap.size l ∧ Bw w w' := by
 have hmk := make_c (n : Int) n rfl hm
 have hbw := bw_alloc w (.cells (zcC n) 26)
 obtain ⟨F, hF⟩ := (h.bw hbw).words
 have hw := Gw.made c w n 26
 have hcp := copy_c (w := w.alloc (.cells (zcC n) 26)) (l := l) 0 n n cap n F hw (fun i hi => (hF i hi).1) hn (Nat.le_refl _) (by rw [List.length_replicate]; omega)
 have how := Gw.lay (l := l) 0 F hw (fun i hi => (hF i hi).2) (by rw [List.length_replicate]; omega)
 rw [hn] at how
 have e : lay (List.replicate n (0, 0)) 0 l = l := Py.list_ext (by rw [lay_len, List.length_replicate, hn]) (fun i hi => by
  rw [lay_len, List.length_replicate] at hi
  rw [co_lay _ _ _ (by rw [List.length_replicate]; omega), if_pos (by omega), Nat.sub_zero])
 rw [e] at how
 have hb2 := bw_setCells w.heap.size (Nat.le_refl _) (vsC F n) 0 _ hbw
 have HW := hide how
 clear how hF hw h e hbw
 generalize (w.alloc (.cells (zcC n) 26)).setCells w.heap.size 0 (vsC F n) = w2 at *
 go_enter Tryz.func70, Tryz.ntmps70
 go_wp2
 go_ret
 exact ⟨rfl, HW.out, hb2⟩
theorem Gl.take {c : Nat} {w : World} {b o : Nat} {l : List Py.G} (h : Gl c w b o l) (n : Nat) : Gl c w b o (l.take n) := by
 refine ⟨h.1, fun i hi => ?_⟩
 rw [List.length_take] at hi
 rw [Py.co_take, if_pos (by omega)]
 exact h.2 i (by omega)
theorem answered8 {c : Nat} (hc : c = 1074) {w : World} {b cap : Nat} {l : List Py.G} (n : Nat) (hn : l.length = n) (h0 : 0 < n) (hm : n < 1000000) (hcap : n ≤ cap) (h : Gl c w b 0 l) (hl : ∀ i, Py.Le (Py.co l i) 1099511627776) : Calls Tryz.prog 71 #[.slice (some ⟨b, 0, none⟩) n cap] w fun e w' => e = .returned (.tuple #[.slice (some ⟨b, 0, none⟩) (Py.tl l n) (Py.tl l n), .int .i64 0]) ∧ Bw w w' := by
 have HL := hide hl
 have HG := hide h
 have HN := hide hn
 clear hl h hn
 go_enter Tryz.func71, Tryz.ntmps71
 go_wp2
 go_loopw [4] (fun i wr => ∃ k : Nat, k + 1 ≤ n ∧ i = .int .i64 (k + 1) ∧ Py.tl l n = Py.tl l (k + 1) ∧ Bw w wr) (fun i _ => (intOf i).toNat)
 case atStart => exact ⟨n - 1, by omega, by rw [show ((n - 1 : Nat) : Int) + 1 = n by omega], by rw [show n - 1 + 1 = n by omega], Bw.refl _⟩
 case round =>
  obtain ⟨k, hk, rfl, ht, hbw⟩ := hrel
  have HT := hide ht
  clear ht
  have fin : Hid (∀ wz m, Bw wr wz → m ≤ n → Calls Tryz.prog 85 #[.slice (some ⟨b, 0, none⟩) m cap] wz fun e w' => e = .returned (.bool true) ∧ Bw wz w') := fun wz m hz hmn => by
   have g := ((HG.out.bw hbw).bw hz).take m
   exact places8 hc m (by rw [List.length_take]; have := HN.out; omega) (by omega) g (fun i hi => by rw [Py.co_take, if_pos hi]; exact HL.out i)
  by_cases hk1 : k = 0
  ·
   subst hk1
   have HE : Hid (Py.tl l n = 1) := HT.out
   go_wp2_with fail
   refine (fin.out _ _ (Bw.refl _) h0).mono ?_
   rintro e' w1 ⟨rfl, hb⟩
   replace hbw := bw_trans hbw hb
   clear hb fin
   go_wp2
   go_ret2
   exact ⟨by rw [HE.out]; rfl, hbw⟩
  ·
   obtain ⟨j, rfl⟩ : ∃ j, k = j + 1 := ⟨k - 1, by omega⟩
   obtain ⟨x, y, e, q⟩ := (HG.out.bw hbw).2 (j + 1) (by have := HN.out; omega)
   rw [Nat.zero_add] at e
   have I : Hid (∀ wz, Calls Tryz.prog 87 #[.complex .f64 x y] wz fun e w' => e = .returned (.bool (decide (Py.co l (j + 1) = (0, 0)))) ∧ w' = wz) := fun wz => isnought8 q wz
   have t3 : 1 < ((j + 1 : Nat) : Int) + 1 := by omega
   clear q
   by_cases z : Py.co l (j + 1) = (0, 0)
   ·
    rw [decide_eq_true z] at I
    have HE : Hid (Py.tl l n = Py.tl l (j + 1)) := by
     have := HT.out
     rw [Py.tl, if_pos z] at this
     exact this
    clear z fin HT
    go_wp2_with fail
    refine (I.out _).mono ?_
    rintro e' w1 ⟨rfl, rfl⟩
    clear I e
    go_wp2
    go_roundw
    case rel => exact ⟨j, by omega, by simp, HE.out, hbw⟩
    case measure => simp [intOf]; try omega
   ·
    rw [decide_eq_false z] at I
    have HE : Hid (Py.tl l n = j + 2) := by
     have := HT.out
     rw [Py.tl, if_neg z] at this
     exact this
    clear z HT
    go_wp2_with fail
    refine (I.out _).mono ?_
    rintro e' w1 ⟨rfl, rfl⟩
    clear I e
    have t4 : ((j + 1 : Nat) : Int) + 1 ≤ cap := by omega
    go_wp2_with fail
    refine (fin.out _ _ (Bw.refl _) (by omega)).mono ?_
    rintro e' w1 ⟨rfl, hb⟩
    replace hbw := bw_trans hbw hb
    clear hb fin
    go_wp2
    go_ret2
    exact ⟨by rw [HE.out]; rfl, hbw⟩
end Go.Proofs.YtjpllggchjgjpaaGreat

