/-
  OWN TEXT: package ratio: workOn, of fractions of whole complex numbers.
-/
import Derived.Test.YtmbjgakehghdjaaJam
import Derived.Test.YtmbjgakehghdjaaJai
namespace Go.Proofs.Ytmbjgakehghdjaa
open Go.ChangeShapes Go.WideShapes Go.ChangeAt Go.RowKit
set_option linter.unusedVariables false
attribute [local go_sem] frombits_call tobits_call run_neg run_store_cx
/-- a fraction that may be -/
def Fr (c : Nat) (w : World) (s t : Value) : Prop := ∃ b o cap n l b' o' cap' n' l', s = .slice (some ⟨b, o, none⟩) (n + 1) cap ∧ t = .slice (some ⟨b', o', none⟩) (n' + 1) cap' ∧ May n l ∧ Gl c w b o l ∧ May n' l' ∧ Gl c w b' o' l' ∧ Nz n' l'
theorem Fr.bw {c : Nat} {w w' : World} {s t : Value} (h : Fr c w s t) (k : Bw w w') : Fr c w' s t := by
  obtain ⟨b, o, cap, n, l, b', o', cap', n', l', h1, h2, h3, h4, h5, h6, h7⟩ := h
  exact ⟨b, o, cap, n, l, b', o', cap', n', l', h1, h2, h3, h4.bw k, h5, h6.bw k, h7⟩
theorem rcheckF {c : Nat} (hc : c = 1074) {w : World} {s t : Value} (h : Fr c w s t) : Calls Try.prog 8 #[.agg #[s, t]] w fun e w' => e = .returned (.int .i64 0) ∧ Bw w w' := by
  obtain ⟨b, o, cap, n, l, b', o', cap', n', l', rfl, rfl, h3, h4, h5, h6, h7⟩ := h
  exact rcheck10 hc h3 h4 h5 h6 h7
theorem res_w {fn : Func} {p : Tmp} (hr : fn.results = #[.cell p 64]) (tmps : Array Value) (w : World) (F : Nat) (hp : tmps.getD p undef = .pointer (some ⟨F, 0, none⟩)) (h : w.cell? ⟨F, 0, none⟩ = some (.int .i64 0)) : (results fn tmps).run Try.prog w = .ok (.agg #[.int .i64 0]) w := by
  have hp' : tmps[p]?.getD undef = .pointer (some ⟨F, 0, none⟩) := by simpa using hp
  have hl : (loadVar 64 ⟨F, 0, none⟩).run Try.prog w = .ok (.agg #[.int .i64 0]) w := by
    refine run_loadVar_mid w F 0 64 [.int .i64 0] _ (fun j v hv => ?_) Try.underlying64 rfl (by kernel_rfl)
    match j, hv with
    | 0, hv => cases hv; exact h
  simp [results, hr, hp', asAddr, hl]
set_option maxHeartbeats 4000000 in
theorem workon10 {c : Nat} (hc : c = 1074) {w : World} {b cap K : Nat} (hK : K ≤ 2) (hb : b < w.heap.size) (h : ∀ k, k < K → ∃ s t, w.cell? ⟨b, 2 * k, none⟩ = some s ∧ w.cell? ⟨b, 2 * k + 1, none⟩ = some t ∧ Fr c w s t) :
    Calls Try.prog 32 #[.slice (some ⟨b, 0, none⟩) K cap] w fun e w' => e = .returned (.agg #[.int .i64 0]) ∧ Bw w w' := by
  have H := hide h
  have HC := hide hc
  clear h hc
  go_enter Try.func32, Try.ntmps32
  go_wp2
  have W0 : Wk (w.alloc (.cells #[.int .i64 0] 64)) w.heap.size := ⟨by simp, by simp, World.frozen?_alloc_at _ _ _ _ rfl⟩
  have HW := hide W0
  have ba := bw_alloc w (.cells #[.int .i64 0] 64)
  clear W0
  generalize w.alloc (.cells #[.int .i64 0] 64) = W1 at *
  go_loopw [8] (fun i wr => ∃ k : Nat, k ≤ K ∧ i = .int .i64 k ∧ Bw W1 wr) (fun i _ => K - (intOf i).toNat)
  case atStart => exact ⟨0, Nat.zero_le _, rfl, Bw.refl _⟩
  case round =>
    obtain ⟨k, hk, rfl, hbw⟩ := hrel
    by_cases hk1 : k < K
    · have hk2 : (k : Int) < K := by omega
      obtain ⟨s, t, e1, e2, f⟩ := H.out k hk1
      have bz := bw_trans ba hbw
      replace e1 := (Below.cell bz (p := ⟨b, 2 * k, none⟩) hb).trans e1
      replace e2 := (Below.cell bz (p := ⟨b, 2 * k + 1, none⟩) hb).trans e2
      replace f := f.bw bz
      obtain ⟨b1, o1, cap1, n1, l1, b2, o2, cap2, n2, l2, rfl, rfl, h3, h4, h5, h6, h7⟩ := f
      have CK : Hid (∀ wz, Bw wr wz → Calls Try.prog 8 #[.agg #[.slice (some ⟨b1, o1, none⟩) (n1 + 1) cap1, .slice (some ⟨b2, o2, none⟩) (n2 + 1) cap2]] wz fun e w' => e = .returned (.int .i64 0) ∧ Bw wz w') := fun wz hz => rcheck10 HC.out h3 (h4.bw hz) h5 (h6.bw hz) h7
      have bA := bw_alloc wr (.cells #[.slice (some ⟨b1, o1, none⟩) (n1 + 1) cap1, .slice (some ⟨b2, o2, none⟩) (n2 + 1) cap2] 24)
      clear h3 h4 h5 h6 h7 bz
      rcases (show k = 0 ∨ k = 1 by omega) with rfl | rfl
      · go_wp2_with fail
        refine (CK.out _ bA).mono ?_
        rintro e' w5 ⟨rfl, b5⟩
        replace hbw := bw_trans (bw_trans hbw bA) b5
        clear CK bA b5 e1 e2
        go_wp2
        go_roundw
        case rel => exact ⟨1, by omega, by simp, hbw⟩
        case measure => simp [intOf]; omega
      · go_wp2_with fail
        refine (CK.out _ bA).mono ?_
        rintro e' w5 ⟨rfl, b5⟩
        replace hbw := bw_trans (bw_trans hbw bA) b5
        clear CK bA b5 e1 e2
        go_wp2
        go_roundw
        case rel => exact ⟨2, by omega, by simp, hbw⟩
        case measure => simp [intOf]; omega
    · have hk3 : k = K := by omega
      subst hk3
      obtain ⟨_, c1, c2⟩ := HW.out.bw hbw
      have S := hide (set_self c1)
      have F := bw_trans ba hbw
      go_wp2
      rw [S.out]
      refine bodyPost_ret (res_w rfl _ _ _ rfl c1) rfl ?_
      exact ⟨rfl, F⟩
end Go.Proofs.Ytmbjgakehghdjaa
/-
  OWN TEXT: package ratio: Add, Mul, of fractions of whole complex numbers.
-/
namespace Go.Proofs.Ytmbjgakehghdjaa
open Go.ChangeShapes Go.WideShapes Go.ChangeAt Go.RowKit
set_option linter.unusedVariables false
attribute [local go_sem] frombits_call tobits_call run_neg run_store_cx
/-- a slice with the list l of the degree n -/
def Sl (c : Nat) (w : World) (s : Value) (n : Nat) (l : List Py.G) : Prop := ∃ b o cap, s = .slice (some ⟨b, o, none⟩) (n + 1) cap ∧ Gl c w b o l
theorem Sl.bw {c : Nat} {w w' : World} {s : Value} {n : Nat} {l : List Py.G} (h : Sl c w s n l) (k : Bw w w') : Sl c w' s n l := by
  obtain ⟨b, o, cap, h1, h2⟩ := h
  exact ⟨b, o, cap, h1, h2.bw k⟩
theorem makef10 (fn : Fn) (first cap : Array Value) (w : World) : (Instr.makeFunc fn first cap).run Try.prog w = .ok (.func fn first cap) w := rfl
/-- a fraction in a block that may be written, and an error beside it -/
def Fw (w : World) (S E : Nat) (s t : Value) (e : Int) : Prop := Fc w S s t ∧ w.frozen? ⟨S, 0, none⟩ = false ∧ w.frozen? ⟨S, 1, none⟩ = false ∧ E < w.heap.size ∧ w.cell? ⟨E, 0, none⟩ = some (.int .i64 e) ∧ w.frozen? ⟨E, 0, none⟩ = false
theorem Fw.bw {w w' : World} {S E : Nat} {s t : Value} {e : Int} (h : Fw w S E s t e) (k : Bw w w') : Fw w' S E s t e :=
  ⟨h.1.bw k, (Below.frozen k (p := ⟨S, 0, none⟩) h.1.1).trans h.2.1, (Below.frozen k (p := ⟨S, 1, none⟩) h.1.1).trans h.2.2.1, Nat.lt_of_lt_of_le h.2.2.2.1 (Below.size k), (Below.cell k (p := ⟨E, 0, none⟩) h.2.2.2.1).trans h.2.2.2.2.1, (Below.frozen k (p := ⟨E, 0, none⟩) h.2.2.2.1).trans h.2.2.2.2.2⟩
set_option maxHeartbeats 4000000 in
theorem dadd10 {c : Nat} {w : World} {W S E a n k b' o' n' cap' : Nat} {l' : List Py.G} (u : FrameMode) (hW : Wk w W) (hS : Fw w S E (.slice (some ⟨a, 0, none⟩) n k) (.slice (some ⟨b', o', none⟩) (n' + 1) cap') 0) (hm' : May n' l') (h' : Gl c w b' o' l') (hz : Nz n' l') :
    CallsD Try.prog 49 #[.pointer (some ⟨W, 0, none⟩), .pointer (some ⟨S, 0, none⟩), .pointer (some ⟨E, 0, none⟩)] u w fun e u' w' => u' = u ∧ (e = .returned (.tuple #[]) ∧ Bw w w') := by
  have A := hide (wanswered10 (cap' := cap') (s := .slice (some ⟨a, 0, none⟩) n k) ⟨_, _, _, rfl⟩ hW hm' h' hz)
  have HS := hide hS
  obtain ⟨⟨_, c0, c1⟩, _⟩ := hS
  clear hW hm' h' hz
  go_enter_d Try.func49, Try.ntmps49
  go_wp2_with fail
  refine A.out.mono ?_
  rintro e' w1 ⟨rfl, b1⟩
  obtain ⟨⟨_, d0, d1⟩, f0, f1, _, g0, g1⟩ := HS.out.bw b1
  have S0 := set_self d0
  have S1 := set_self d1
  have S2 := set_self g0
  clear A HS c0 c1
  go_wp2
  go_end0
  exact ⟨rfl, b1⟩
set_option maxHeartbeats 4000000 in
theorem dmul10 {c : Nat} {w : World} {W S E a n k b' o' n' cap' : Nat} {l' : List Py.G} (u : FrameMode) (hW : Wk w W) (hS : Fw w S E (.slice (some ⟨a, 0, none⟩) n k) (.slice (some ⟨b', o', none⟩) (n' + 1) cap') 0) (hm' : May n' l') (h' : Gl c w b' o' l') (hz : Nz n' l') :
    CallsD Try.prog 39 #[.pointer (some ⟨W, 0, none⟩), .pointer (some ⟨S, 0, none⟩), .pointer (some ⟨E, 0, none⟩)] u w fun e u' w' => u' = u ∧ (e = .returned (.tuple #[]) ∧ Bw w w') := by
  have A := hide (wanswered10 (cap' := cap') (s := .slice (some ⟨a, 0, none⟩) n k) ⟨_, _, _, rfl⟩ hW hm' h' hz)
  have HS := hide hS
  obtain ⟨⟨_, c0, c1⟩, _⟩ := hS
  clear hW hm' h' hz
  go_enter_d Try.func39, Try.ntmps39
  go_wp2_with fail
  refine A.out.mono ?_
  rintro e' w1 ⟨rfl, b1⟩
  obtain ⟨⟨_, d0, d1⟩, f0, f1, _, g0, g1⟩ := HS.out.bw b1
  have S0 := set_self d0
  have S1 := set_self d1
  have S2 := set_self g0
  clear A HS c0 c1
  go_wp2
  go_end0
  exact ⟨rfl, b1⟩
set_option maxHeartbeats 4000000 in
theorem dslope10 {c : Nat} {w : World} {W S E a n k b' o' n' cap' : Nat} {l' : List Py.G} (u : FrameMode) (hW : Wk w W) (hS : Fw w S E (.slice (some ⟨a, 0, none⟩) n k) (.slice (some ⟨b', o', none⟩) (n' + 1) cap') 0) (hm' : May n' l') (h' : Gl c w b' o' l') (hz : Nz n' l') :
    CallsD Try.prog 33 #[.pointer (some ⟨W, 0, none⟩), .pointer (some ⟨S, 0, none⟩), .pointer (some ⟨E, 0, none⟩)] u w fun e u' w' => u' = u ∧ (e = .returned (.tuple #[]) ∧ Bw w w') := by
  have A := hide (wanswered10 (cap' := cap') (s := .slice (some ⟨a, 0, none⟩) n k) ⟨_, _, _, rfl⟩ hW hm' h' hz)
  have HS := hide hS
  obtain ⟨⟨_, c0, c1⟩, _⟩ := hS
  clear hW hm' h' hz
  go_enter_d Try.func33, Try.ntmps33
  go_wp2_with fail
  refine A.out.mono ?_
  rintro e' w1 ⟨rfl, b1⟩
  obtain ⟨⟨_, d0, d1⟩, f0, f1, _, g0, g1⟩ := HS.out.bw b1
  have S0 := set_self d0
  have S1 := set_self d1
  have S2 := set_self g0
  clear A HS c0 c1
  go_wp2
  go_end0
  exact ⟨rfl, b1⟩
set_option maxHeartbeats 4000000 in
theorem dturned10 {c : Nat} {w : World} {W S E a n k b' o' n' cap' : Nat} {l' : List Py.G} (u : FrameMode) (hW : Wk w W) (hS : Fw w S E (.slice (some ⟨a, 0, none⟩) n k) (.slice (some ⟨b', o', none⟩) (n' + 1) cap') 0) (hm' : May n' l') (h' : Gl c w b' o' l') (hz : Nz n' l') :
    CallsD Try.prog 40 #[.pointer (some ⟨W, 0, none⟩), .pointer (some ⟨S, 0, none⟩), .pointer (some ⟨E, 0, none⟩)] u w fun e u' w' => u' = u ∧ (e = .returned (.tuple #[]) ∧ Bw w w') := by
  have A := hide (wanswered10 (cap' := cap') (s := .slice (some ⟨a, 0, none⟩) n k) ⟨_, _, _, rfl⟩ hW hm' h' hz)
  have HS := hide hS
  obtain ⟨⟨_, c0, c1⟩, _⟩ := hS
  clear hW hm' h' hz
  go_enter_d Try.func40, Try.ntmps40
  go_wp2_with fail
  refine A.out.mono ?_
  rintro e' w1 ⟨rfl, b1⟩
  obtain ⟨⟨_, d0, d1⟩, f0, f1, _, g0, g1⟩ := HS.out.bw b1
  have S0 := set_self d0
  have S1 := set_self d1
  have S2 := set_self g0
  clear A HS c0 c1
  go_wp2
  go_end0
  exact ⟨rfl, b1⟩
end Go.Proofs.Ytmbjgakehghdjaa
/-
  OWN TEXT: package ratio: Add, of fractions of whole complex numbers.
-/
namespace Go.Proofs.Ytmbjgakehghdjaa
open Go.ChangeShapes Go.WideShapes Go.ChangeAt Go.RowKit
set_option linter.unusedVariables false
attribute [local go_sem] frombits_call tobits_call run_neg run_store_cx
theorem Wk.made (w : World) (T : TypeId) : Wk (w.alloc (.cells #[.int .i64 0] T)) w.heap.size := ⟨by simp, by simp, World.frozen?_alloc_at _ _ _ _ rfl⟩
theorem fz_made (w : World) (vs : Array Value) (T : TypeId) (i : Nat) : (w.alloc (.cells vs T)).frozen? ⟨w.heap.size, i, none⟩ = false := World.frozen?_alloc_at _ _ _ _ rfl
/-- the blocks that a call with two fractions lays first -/
theorem five10 (w : World) (s1 s2 s3 s4 : Value) : ∃ (F G S E V : Nat) (W : World), F = w.heap.size ∧ G = w.heap.size + 1 ∧ S = w.heap.size + 1 + 1 ∧ E = w.heap.size + 1 + 1 + 1 ∧ V = w.heap.size + 1 + 1 + 1 + 1 ∧
    W = ((((w.alloc (.cells #[s1, s2] 24)).alloc (.cells #[s3, s4] 24)).alloc (.cells #[.slice none 0 0, .slice none 0 0] 24)).alloc (.cells #[.int .i64 0] 28)).alloc (.cells #[s1, s2, s3, s4] 24) ∧
    (Fc W F s1 s2 ∧ Fc W G s3 s4 ∧ Fw W S E (.slice none 0 0) (.slice none 0 0) 0 ∧ V < W.heap.size ∧ W.cell? ⟨V, 0, none⟩ = some s1 ∧ W.cell? ⟨V, 1, none⟩ = some s2 ∧ W.cell? ⟨V, 2, none⟩ = some s3 ∧ W.cell? ⟨V, 3, none⟩ = some s4 ∧ Bw w W ∧ w.heap.size ≤ F ∧ F < S ∧ G < S ∧ S < E ∧ w.heap.size < S) := by
  have z : ∀ (w : World) (o : Obj), (w.alloc o).heap.size = w.heap.size + 1 := fun w o => by simp
  have hF := Fc.made w s1 s2 24
  have hG := Fc.made (w.alloc (.cells #[s1, s2] 24)) s3 s4 24
  have hS := Fc.made ((w.alloc (.cells #[s1, s2] 24)).alloc (.cells #[s3, s4] 24)) (.slice none 0 0) (.slice none 0 0) 24
  have hE := Wk.made (((w.alloc (.cells #[s1, s2] 24)).alloc (.cells #[s3, s4] 24)).alloc (.cells #[.slice none 0 0, .slice none 0 0] 24)) 28
  have fS := fz_made ((w.alloc (.cells #[s1, s2] 24)).alloc (.cells #[s3, s4] 24)) #[.slice none 0 0, .slice none 0 0] 24
  have b1 := bw_alloc w (.cells #[s1, s2] 24)
  have b2 := bw_alloc (w.alloc (.cells #[s1, s2] 24)) (.cells #[s3, s4] 24)
  have b3 := bw_alloc ((w.alloc (.cells #[s1, s2] 24)).alloc (.cells #[s3, s4] 24)) (.cells #[.slice none 0 0, .slice none 0 0] 24)
  have b4 := bw_alloc (((w.alloc (.cells #[s1, s2] 24)).alloc (.cells #[s3, s4] 24)).alloc (.cells #[.slice none 0 0, .slice none 0 0] 24)) (.cells #[.int .i64 0] 28)
  have b5 := bw_alloc ((((w.alloc (.cells #[s1, s2] 24)).alloc (.cells #[s3, s4] 24)).alloc (.cells #[.slice none 0 0, .slice none 0 0] 24)).alloc (.cells #[.int .i64 0] 28)) (.cells #[s1, s2, s3, s4] 24)
  have hV : ∀ i v, #[s1, s2, s3, s4][i]? = some v → (((((w.alloc (.cells #[s1, s2] 24)).alloc (.cells #[s3, s4] 24)).alloc (.cells #[.slice none 0 0, .slice none 0 0] 24)).alloc (.cells #[.int .i64 0] 28)).alloc (.cells #[s1, s2, s3, s4] 24)).cell? ⟨((((w.alloc (.cells #[s1, s2] 24)).alloc (.cells #[s3, s4] 24)).alloc (.cells #[.slice none 0 0, .slice none 0 0] 24)).alloc (.cells #[.int .i64 0] 28)).heap.size, i, none⟩ = some v := fun i v h => (World.cell?_alloc_at _ _ _ _ rfl).trans h
  simp only [z] at hF hG hS hE fS hV
  refine ⟨_, _, _, _, _, _, rfl, rfl, rfl, rfl, rfl, rfl, (((hF.bw b2).bw b3).bw b4).bw b5, ((hG.bw b3).bw b4).bw b5, ?_, by simp, hV 0 _ rfl, hV 1 _ rfl, hV 2 _ rfl, hV 3 _ rfl, bw_trans (bw_trans (bw_trans (bw_trans b1 b2) b3) b4) b5, by omega, by omega, by omega, by omega, by omega⟩
  have hS' := (hS.bw b4).bw b5
  refine ⟨hS', ?_, ?_, ?_⟩
  · exact (Below.frozen (bw_trans b4 b5) (p := ⟨_, 0, none⟩) hS.1).trans (fS 0)
  · exact (Below.frozen (bw_trans b4 b5) (p := ⟨_, 1, none⟩) hS.1).trans (fS 1)
  · exact hE.bw b5
theorem leaves_tmps {P : Program} {fn : Func} {t1 t2 : Array Value} {R : Ending → World → Prop} (he : results fn t1 = results fn t2) : ∀ (ds : List Deferred) (u : FrameMode) (w : World), Leaves P fn t1 R ds u w → Leaves P fn t2 R ds u w := by
  intro ds
  induction ds with
  | nil =>
    intro u w h
    cases u with
    | run => exact h
    | returning => obtain ⟨v, h1, h2⟩ := h; exact ⟨v, he ▸ h1, h2⟩
    | panicking c => exact h
  | cons d ds ih =>
    intro u w h
    obtain ⟨h1, fv, cap, f, args, h2, h3, h4⟩ := h
    refine ⟨h1, fv, cap, f, args, h2, h3, ?_⟩
    intro c cs hc
    obtain ⟨e, u', w', fr, k1, k2⟩ := h4 c cs hc
    refine ⟨e, u', w', fr, ?_, k2⟩
    cases e with
    | returned v => exact ih _ _ k1
    | panicked ch => exact ih _ _ k1
    | outgrown => exact k1
theorem put_d {P : Program} {fn : Func} {R : Ending → World → Prop} {p q : Tmp} {t t' : TypeId} (d : Nat) (hr : fn.results = #[.cell p t, .cell q t']) (h1 : d ≠ p) (h2 : d ≠ q) {c : List PanicEntry} {a : Act} {v : Value} {w : World} (h : bodyPostD P fn R (.panic c) (a.put (some d) v) w) : bodyPostD P fn R (.panic c) a w := by
  refine leaves_tmps ?_ _ _ _ h
  unfold results
  rw [hr]
  have e : ∀ x : Nat, d ≠ x → (a.put (some d) v).tmps[x]?.getD undef = a.tmps[x]?.getD undef := fun x hx => by
    simp [Act.put, hx]
  simp [e p h1, e q h2]
theorem Fc.apart {w : World} {F S : Nat} {s t : Value} (h : Fc w F s t) (hS : F ≠ S) (o : Nat) (v : Value) : Fc (w.setCell ⟨S, o, none⟩ v) F s t := by
  refine ⟨by simpa [World.setCell] using h.1, ?_, ?_⟩
  · rw [World.cell?_setCell_other]
    · exact h.2.1
    · intro e; cases e; exact hS rfl
  · rw [World.cell?_setCell_other]
    · exact h.2.2
    · intro e; cases e; exact hS rfl
theorem Wk.apart {w : World} {F S : Nat} (h : Wk w F) (hS : F ≠ S) (o : Nat) (v : Value) : Wk (w.setCell ⟨S, o, none⟩ v) F := by
  refine ⟨by simpa [World.setCell] using h.1, ?_, (World.frozen?_setCell _ _ _ _).trans h.2.2⟩
  rw [World.cell?_setCell_other]
  · exact h.2.1
  · intro e; cases e; exact hS rfl
theorem Wk0.apart {w : World} {F S : Nat} {e : Int} (h : F < w.heap.size ∧ w.cell? ⟨F, 0, none⟩ = some (.int .i64 e) ∧ w.frozen? ⟨F, 0, none⟩ = false) (hS : F ≠ S) (o : Nat) (v : Value) : F < (w.setCell ⟨S, o, none⟩ v).heap.size ∧ (w.setCell ⟨S, o, none⟩ v).cell? ⟨F, 0, none⟩ = some (.int .i64 e) ∧ (w.setCell ⟨S, o, none⟩ v).frozen? ⟨F, 0, none⟩ = false := by
  refine ⟨by simpa [World.setCell] using h.1, ?_, (World.frozen?_setCell _ _ _ _).trans h.2.2⟩
  rw [World.cell?_setCell_other]
  · exact h.2.1
  · intro e; cases e; exact hS rfl
theorem Fw.top {w : World} {S E : Nat} {s t : Value} {e : Int} (h : Fw w S E s t e) (hS : E ≠ S) (v : Value) : Fw (w.setCell ⟨S, 0, none⟩ v) S E v t e := by
  obtain ⟨⟨h1, h2, h3⟩, h4, h5, h6⟩ := h
  have k := Wk0.apart h6 hS 0 v
  refine ⟨⟨by simpa [World.setCell] using h1, World.cell?_setCell_same _ _ _ h2, ?_⟩, (World.frozen?_setCell _ _ _ _).trans h4, (World.frozen?_setCell _ _ _ _).trans h5, k⟩
  rw [World.cell?_setCell_other]
  · exact h3
  · intro e; cases e
theorem Fw.bottom {w : World} {S E : Nat} {s t : Value} {e : Int} (h : Fw w S E s t e) (hS : E ≠ S) (v : Value) : Fw (w.setCell ⟨S, 1, none⟩ v) S E s v e := by
  obtain ⟨⟨h1, h2, h3⟩, h4, h5, h6⟩ := h
  have k := Wk0.apart h6 hS 1 v
  refine ⟨⟨by simpa [World.setCell] using h1, ?_, World.cell?_setCell_same _ _ _ h3⟩, (World.frozen?_setCell _ _ _ _).trans h4, (World.frozen?_setCell _ _ _ _).trans h5, k⟩
  rw [World.cell?_setCell_other]
  · exact h2
  · intro e; cases e
theorem bw_set {w0 w : World} (h : Bw w0 w) {S : Nat} (hS : w0.heap.size ≤ S) (o : Nat) (v : Value) : Bw w0 (w.setCell ⟨S, o, none⟩ v) := Below.setCell h hS v
theorem gl_set {c : Nat} {w : World} {b o S : Nat} {l : List Py.G} (h : Gl c w b o l) (hS : b ≠ S) (i : Nat) (v : Value) : Gl c (w.setCell ⟨S, i, none⟩ v) b o l := ((Ob.refl S w).set i v).gl h hS
end Go.Proofs.Ytmbjgakehghdjaa
