/-
  OWN TEXT: package ratio: Add, Mul, of fractions of whole complex numbers.
-/
import Derived.Test.YtmbjgakehghdjaaJba
import Derived.Test.YtmbjgakehghdjaaJaw
namespace Go.Proofs.Ytmbjgakehghdjaa
open Go.ChangeShapes Go.WideShapes Go.ChangeAt Go.RowKit
set_option linter.unusedVariables false
attribute [local go_sem] frombits_call tobits_call run_neg run_store_cx
/-- a slice with the list l of the degree n -/
def Sl (c : Nat) (w : World) (s : Value) (n : Nat) (l : List Py.G) : Prop := ∃ b o cap, s = .slice (some ⟨b, o, none⟩) (n + 1) cap ∧ Gl c w b o l
theorem Sl.bw {c : Nat} {w w' : World} {s : Value} {n : Nat} {l : List Py.G} (h : Sl c w s n l) (k : Bw w w') : Sl c w' s n l := by
  obtain ⟨b, o, cap, h1, h2⟩ := h
  exact ⟨b, o, cap, h1, h2.bw k⟩
theorem makef10 (fn : Fn) (first cap : Array Value) (w : World) : (Instr.makeFunc fn first cap).run Try.prog w = .ok (.func fn first cap) w := rfl
/-- a fraction in a block that may be written, and an error beside it -/
def Fw (w : World) (S E : Nat) (s t : Value) (e : Int) : Prop := Fc w S s t ∧ w.frozen? ⟨S, 0, none⟩ = false ∧ w.frozen? ⟨S, 1, none⟩ = false ∧ E < w.heap.size ∧ w.cell? ⟨E, 0, none⟩ = some (.int .i64 e) ∧ w.frozen? ⟨E, 0, none⟩ = false
theorem Fw.bw {w w' : World} {S E : Nat} {s t : Value} {e : Int} (h : Fw w S E s t e) (k : Bw w w') : Fw w' S E s t e :=
  ⟨h.1.bw k, (Below.frozen k (p := ⟨S, 0, none⟩) h.1.1).trans h.2.1, (Below.frozen k (p := ⟨S, 1, none⟩) h.1.1).trans h.2.2.1, Nat.lt_of_lt_of_le h.2.2.2.1 (Below.size k), (Below.cell k (p := ⟨E, 0, none⟩) h.2.2.2.1).trans h.2.2.2.2.1, (Below.frozen k (p := ⟨E, 0, none⟩) h.2.2.2.1).trans h.2.2.2.2.2⟩
set_option maxHeartbeats 4000000 in
theorem dadd10 {c : Nat} {w : World} {W S E a n k b' o' n' cap' : Nat} {l' : List Py.G} (u : FrameMode) (hW : Wk w W) (hS : Fw w S E (.slice (some ⟨a, 0, none⟩) n k) (.slice (some ⟨b', o', none⟩) (n' + 1) cap') 0) (hm' : May n' l') (h' : Gl c w b' o' l') (hz : Nz n' l') :
    CallsD Try.prog 49 #[.pointer (some ⟨W, 0, none⟩), .pointer (some ⟨S, 0, none⟩), .pointer (some ⟨E, 0, none⟩)] u w fun e u' w' => u' = u ∧ (e = .returned (.tuple #[]) ∧ Bw w w') := by
  have A := hide (wanswered10 (cap' := cap') (s := .slice (some ⟨a, 0, none⟩) n k) ⟨_, _, _, rfl⟩ hW hm' h' hz)
  have HS := hide hS
  obtain ⟨⟨_, c0, c1⟩, _⟩ := hS
  clear hW hm' h' hz
  go_enter_d Try.func49, Try.ntmps49
  go_wp2_with fail
  refine A.out.mono ?_
  rintro e' w1 ⟨rfl, b1⟩
  obtain ⟨⟨_, d0, d1⟩, f0, f1, _, g0, g1⟩ := HS.out.bw b1
  have S0 := set_self d0
  have S1 := set_self d1
  have S2 := set_self g0
  clear A HS c0 c1
  go_wp2
  go_end0
  exact ⟨rfl, b1⟩
set_option maxHeartbeats 4000000 in
theorem dmul10 {c : Nat} {w : World} {W S E a n k b' o' n' cap' : Nat} {l' : List Py.G} (u : FrameMode) (hW : Wk w W) (hS : Fw w S E (.slice (some ⟨a, 0, none⟩) n k) (.slice (some ⟨b', o', none⟩) (n' + 1) cap') 0) (hm' : May n' l') (h' : Gl c w b' o' l') (hz : Nz n' l') :
    CallsD Try.prog 39 #[.pointer (some ⟨W, 0, none⟩), .pointer (some ⟨S, 0, none⟩), .pointer (some ⟨E, 0, none⟩)] u w fun e u' w' => u' = u ∧ (e = .returned (.tuple #[]) ∧ Bw w w') := by
  have A := hide (wanswered10 (cap' := cap') (s := .slice (some ⟨a, 0, none⟩) n k) ⟨_, _, _, rfl⟩ hW hm' h' hz)
  have HS := hide hS
  obtain ⟨⟨_, c0, c1⟩, _⟩ := hS
  clear hW hm' h' hz
  go_enter_d Try.func39, Try.ntmps39
  go_wp2_with fail
  refine A.out.mono ?_
  rintro e' w1 ⟨rfl, b1⟩
  obtain ⟨⟨_, d0, d1⟩, f0, f1, _, g0, g1⟩ := HS.out.bw b1
  have S0 := set_self d0
  have S1 := set_self d1
  have S2 := set_self g0
  clear A HS c0 c1
  go_wp2
  go_end0
  exact ⟨rfl, b1⟩
set_option maxHeartbeats 4000000 in
theorem dslope10 {c : Nat} {w : World} {W S E a n k b' o' n' cap' : Nat} {l' : List Py.G} (u : FrameMode) (hW : Wk w W) (hS : Fw w S E (.slice (some ⟨a, 0, none⟩) n k) (.slice (some ⟨b', o', none⟩) (n' + 1) cap') 0) (hm' : May n' l') (h' : Gl c w b' o' l') (hz : Nz n' l') :
    CallsD Try.prog 33 #[.pointer (some ⟨W, 0, none⟩), .pointer (some ⟨S, 0, none⟩), .pointer (some ⟨E, 0, none⟩)] u w fun e u' w' => u' = u ∧ (e = .returned (.tuple #[]) ∧ Bw w w') := by
  have A := hide (wanswered10 (cap' := cap') (s := .slice (some ⟨a, 0, none⟩) n k) ⟨_, _, _, rfl⟩ hW hm' h' hz)
  have HS := hide hS
  obtain ⟨⟨_, c0, c1⟩, _⟩ := hS
  clear hW hm' h' hz
  go_enter_d Try.func33, Try.ntmps33
  go_wp2_with fail
  refine A.out.mono ?_
  rintro e' w1 ⟨rfl, b1⟩
  obtain ⟨⟨_, d0, d1⟩, f0, f1, _, g0, g1⟩ := HS.out.bw b1
  have S0 := set_self d0
  have S1 := set_self d1
  have S2 := set_self g0
  clear A HS c0 c1
  go_wp2
  go_end0
  exact ⟨rfl, b1⟩
set_option maxHeartbeats 4000000 in
theorem dturned10 {c : Nat} {w : World} {W S E a n k b' o' n' cap' : Nat} {l' : List Py.G} (u : FrameMode) (hW : Wk w W) (hS : Fw w S E (.slice (some ⟨a, 0, none⟩) n k) (.slice (some ⟨b', o', none⟩) (n' + 1) cap') 0) (hm' : May n' l') (h' : Gl c w b' o' l') (hz : Nz n' l') :
    CallsD Try.prog 40 #[.pointer (some ⟨W, 0, none⟩), .pointer (some ⟨S, 0, none⟩), .pointer (some ⟨E, 0, none⟩)] u w fun e u' w' => u' = u ∧ (e = .returned (.tuple #[]) ∧ Bw w w') := by
  have A := hide (wanswered10 (cap' := cap') (s := .slice (some ⟨a, 0, none⟩) n k) ⟨_, _, _, rfl⟩ hW hm' h' hz)
  have HS := hide hS
  obtain ⟨⟨_, c0, c1⟩, _⟩ := hS
  clear hW hm' h' hz
  go_enter_d Try.func40, Try.ntmps40
  go_wp2_with fail
  refine A.out.mono ?_
  rintro e' w1 ⟨rfl, b1⟩
  obtain ⟨⟨_, d0, d1⟩, f0, f1, _, g0, g1⟩ := HS.out.bw b1
  have S0 := set_self d0
  have S1 := set_self d1
  have S2 := set_self g0
  clear A HS c0 c1
  go_wp2
  go_end0
  exact ⟨rfl, b1⟩
end Go.Proofs.Ytmbjgakehghdjaa
/-
  OWN TEXT: package ratio: Add, of fractions of whole complex numbers.
-/
namespace Go.Proofs.Ytmbjgakehghdjaa
open Go.ChangeShapes Go.WideShapes Go.ChangeAt Go.RowKit
set_option linter.unusedVariables false
attribute [local go_sem] frombits_call tobits_call run_neg run_store_cx
theorem Wk.made (w : World) (T : TypeId) : Wk (w.alloc (.cells #[.int .i64 0] T)) w.heap.size := ⟨by simp, by simp, World.frozen?_alloc_at _ _ _ _ rfl⟩
theorem fz_made (w : World) (vs : Array Value) (T : TypeId) (i : Nat) : (w.alloc (.cells vs T)).frozen? ⟨w.heap.size, i, none⟩ = false := World.frozen?_alloc_at _ _ _ _ rfl
/-- the blocks that a call with two fractions lays first -/
theorem five10 (w : World) (s1 s2 s3 s4 : Value) : ∃ (F G S E V : Nat) (W : World), F = w.heap.size ∧ G = w.heap.size + 1 ∧ S = w.heap.size + 1 + 1 ∧ E = w.heap.size + 1 + 1 + 1 ∧ V = w.heap.size + 1 + 1 + 1 + 1 ∧
    W = ((((w.alloc (.cells #[s1, s2] 24)).alloc (.cells #[s3, s4] 24)).alloc (.cells #[.slice none 0 0, .slice none 0 0] 24)).alloc (.cells #[.int .i64 0] 28)).alloc (.cells #[s1, s2, s3, s4] 24) ∧
    (Fc W F s1 s2 ∧ Fc W G s3 s4 ∧ Fw W S E (.slice none 0 0) (.slice none 0 0) 0 ∧ V < W.heap.size ∧ W.cell? ⟨V, 0, none⟩ = some s1 ∧ W.cell? ⟨V, 1, none⟩ = some s2 ∧ W.cell? ⟨V, 2, none⟩ = some s3 ∧ W.cell? ⟨V, 3, none⟩ = some s4 ∧ Bw w W ∧ w.heap.size ≤ F ∧ F < S ∧ G < S ∧ S < E ∧ w.heap.size < S) := by
  have z : ∀ (w : World) (o : Obj), (w.alloc o).heap.size = w.heap.size + 1 := fun w o => by simp
  have hF := Fc.made w s1 s2 24
  have hG := Fc.made (w.alloc (.cells #[s1, s2] 24)) s3 s4 24
  have hS := Fc.made ((w.alloc (.cells #[s1, s2] 24)).alloc (.cells #[s3, s4] 24)) (.slice none 0 0) (.slice none 0 0) 24
  have hE := Wk.made (((w.alloc (.cells #[s1, s2] 24)).alloc (.cells #[s3, s4] 24)).alloc (.cells #[.slice none 0 0, .slice none 0 0] 24)) 28
  have fS := fz_made ((w.alloc (.cells #[s1, s2] 24)).alloc (.cells #[s3, s4] 24)) #[.slice none 0 0, .slice none 0 0] 24
  have b1 := bw_alloc w (.cells #[s1, s2] 24)
  have b2 := bw_alloc (w.alloc (.cells #[s1, s2] 24)) (.cells #[s3, s4] 24)
  have b3 := bw_alloc ((w.alloc (.cells #[s1, s2] 24)).alloc (.cells #[s3, s4] 24)) (.cells #[.slice none 0 0, .slice none 0 0] 24)
  have b4 := bw_alloc (((w.alloc (.cells #[s1, s2] 24)).alloc (.cells #[s3, s4] 24)).alloc (.cells #[.slice none 0 0, .slice none 0 0] 24)) (.cells #[.int .i64 0] 28)
  have b5 := bw_alloc ((((w.alloc (.cells #[s1, s2] 24)).alloc (.cells #[s3, s4] 24)).alloc (.cells #[.slice none 0 0, .slice none 0 0] 24)).alloc (.cells #[.int .i64 0] 28)) (.cells #[s1, s2, s3, s4] 24)
  have hV : ∀ i v, #[s1, s2, s3, s4][i]? = some v → (((((w.alloc (.cells #[s1, s2] 24)).alloc (.cells #[s3, s4] 24)).alloc (.cells #[.slice none 0 0, .slice none 0 0] 24)).alloc (.cells #[.int .i64 0] 28)).alloc (.cells #[s1, s2, s3, s4] 24)).cell? ⟨((((w.alloc (.cells #[s1, s2] 24)).alloc (.cells #[s3, s4] 24)).alloc (.cells #[.slice none 0 0, .slice none 0 0] 24)).alloc (.cells #[.int .i64 0] 28)).heap.size, i, none⟩ = some v := fun i v h => (World.cell?_alloc_at _ _ _ _ rfl).trans h
  simp only [z] at hF hG hS hE fS hV
  refine ⟨_, _, _, _, _, _, rfl, rfl, rfl, rfl, rfl, rfl, (((hF.bw b2).bw b3).bw b4).bw b5, ((hG.bw b3).bw b4).bw b5, ?_, by simp, hV 0 _ rfl, hV 1 _ rfl, hV 2 _ rfl, hV 3 _ rfl, bw_trans (bw_trans (bw_trans (bw_trans b1 b2) b3) b4) b5, by omega, by omega, by omega, by omega, by omega⟩
  have hS' := (hS.bw b4).bw b5
  refine ⟨hS', ?_, ?_, ?_⟩
  · exact (Below.frozen (bw_trans b4 b5) (p := ⟨_, 0, none⟩) hS.1).trans (fS 0)
  · exact (Below.frozen (bw_trans b4 b5) (p := ⟨_, 1, none⟩) hS.1).trans (fS 1)
  · exact hE.bw b5
theorem leaves_tmps {P : Program} {fn : Func} {t1 t2 : Array Value} {R : Ending → World → Prop} (he : results fn t1 = results fn t2) : ∀ (ds : List Deferred) (u : FrameMode) (w : World), Leaves P fn t1 R ds u w → Leaves P fn t2 R ds u w := by
  intro ds
  induction ds with
  | nil =>
    intro u w h
    cases u with
    | run => exact h
    | returning => obtain ⟨v, h1, h2⟩ := h; exact ⟨v, he ▸ h1, h2⟩
    | panicking c => exact h
  | cons d ds ih =>
    intro u w h
    obtain ⟨h1, fv, cap, f, args, h2, h3, h4⟩ := h
    refine ⟨h1, fv, cap, f, args, h2, h3, ?_⟩
    intro c cs hc
    obtain ⟨e, u', w', fr, k1, k2⟩ := h4 c cs hc
    refine ⟨e, u', w', fr, ?_, k2⟩
    cases e with
    | returned v => exact ih _ _ k1
    | panicked ch => exact ih _ _ k1
    | outgrown => exact k1
theorem put_d {P : Program} {fn : Func} {R : Ending → World → Prop} {p q : Tmp} {t t' : TypeId} (d : Nat) (hr : fn.results = #[.cell p t, .cell q t']) (h1 : d ≠ p) (h2 : d ≠ q) {c : List PanicEntry} {a : Act} {v : Value} {w : World} (h : bodyPostD P fn R (.panic c) (a.put (some d) v) w) : bodyPostD P fn R (.panic c) a w := by
  refine leaves_tmps ?_ _ _ _ h
  unfold results
  rw [hr]
  have e : ∀ x : Nat, d ≠ x → (a.put (some d) v).tmps[x]?.getD undef = a.tmps[x]?.getD undef := fun x hx => by
    simp [Act.put, hx]
  simp [e p h1, e q h2]
theorem Fc.apart {w : World} {F S : Nat} {s t : Value} (h : Fc w F s t) (hS : F ≠ S) (o : Nat) (v : Value) : Fc (w.setCell ⟨S, o, none⟩ v) F s t := by
  refine ⟨by simpa [World.setCell] using h.1, ?_, ?_⟩
  · rw [World.cell?_setCell_other]
    · exact h.2.1
    · intro e; cases e; exact hS rfl
  · rw [World.cell?_setCell_other]
    · exact h.2.2
    · intro e; cases e; exact hS rfl
theorem Wk.apart {w : World} {F S : Nat} (h : Wk w F) (hS : F ≠ S) (o : Nat) (v : Value) : Wk (w.setCell ⟨S, o, none⟩ v) F := by
  refine ⟨by simpa [World.setCell] using h.1, ?_, (World.frozen?_setCell _ _ _ _).trans h.2.2⟩
  rw [World.cell?_setCell_other]
  · exact h.2.1
  · intro e; cases e; exact hS rfl
theorem Wk0.apart {w : World} {F S : Nat} {e : Int} (h : F < w.heap.size ∧ w.cell? ⟨F, 0, none⟩ = some (.int .i64 e) ∧ w.frozen? ⟨F, 0, none⟩ = false) (hS : F ≠ S) (o : Nat) (v : Value) : F < (w.setCell ⟨S, o, none⟩ v).heap.size ∧ (w.setCell ⟨S, o, none⟩ v).cell? ⟨F, 0, none⟩ = some (.int .i64 e) ∧ (w.setCell ⟨S, o, none⟩ v).frozen? ⟨F, 0, none⟩ = false := by
  refine ⟨by simpa [World.setCell] using h.1, ?_, (World.frozen?_setCell _ _ _ _).trans h.2.2⟩
  rw [World.cell?_setCell_other]
  · exact h.2.1
  · intro e; cases e; exact hS rfl
theorem Fw.top {w : World} {S E : Nat} {s t : Value} {e : Int} (h : Fw w S E s t e) (hS : E ≠ S) (v : Value) : Fw (w.setCell ⟨S, 0, none⟩ v) S E v t e := by
  obtain ⟨⟨h1, h2, h3⟩, h4, h5, h6⟩ := h
  have k := Wk0.apart h6 hS 0 v
  refine ⟨⟨by simpa [World.setCell] using h1, World.cell?_setCell_same _ _ _ h2, ?_⟩, (World.frozen?_setCell _ _ _ _).trans h4, (World.frozen?_setCell _ _ _ _).trans h5, k⟩
  rw [World.cell?_setCell_other]
  · exact h3
  · intro e; cases e
theorem Fw.bottom {w : World} {S E : Nat} {s t : Value} {e : Int} (h : Fw w S E s t e) (hS : E ≠ S) (v : Value) : Fw (w.setCell ⟨S, 1, none⟩ v) S E s v e := by
  obtain ⟨⟨h1, h2, h3⟩, h4, h5, h6⟩ := h
  have k := Wk0.apart h6 hS 1 v
  refine ⟨⟨by simpa [World.setCell] using h1, ?_, World.cell?_setCell_same _ _ _ h3⟩, (World.frozen?_setCell _ _ _ _).trans h4, (World.frozen?_setCell _ _ _ _).trans h5, k⟩
  rw [World.cell?_setCell_other]
  · exact h2
  · intro e; cases e
theorem bw_set {w0 w : World} (h : Bw w0 w) {S : Nat} (hS : w0.heap.size ≤ S) (o : Nat) (v : Value) : Bw w0 (w.setCell ⟨S, o, none⟩ v) := Below.setCell h hS v
theorem gl_set {c : Nat} {w : World} {b o S : Nat} {l : List Py.G} (h : Gl c w b o l) (hS : b ≠ S) (i : Nat) (v : Value) : Gl c (w.setCell ⟨S, i, none⟩ v) b o l := ((Ob.refl S w).set i v).gl h hS
end Go.Proofs.Ytmbjgakehghdjaa
/-
  OWN TEXT: package ratio: Add, of fractions of whole complex numbers.
-/
namespace Go.Proofs.Ytmbjgakehghdjaa
open Go.ChangeShapes Go.WideShapes Go.ChangeAt Go.RowKit
set_option linter.unusedVariables false
attribute [local go_sem] frombits_call tobits_call run_neg run_store_cx
theorem Bw.drw (w : World) : Bw w w.drew := (Bw.refl w).drew
theorem ts_le12 {a b : List Py.G} {n : Nat} (ha : ∀ i, Py.Le (Py.co a i) 12) (hb : ∀ i, Py.Le (Py.co b i) 12) (hn : n ≤ 3) (j : Nat) : Py.Le (Py.ts a b j (n + 1)) 576 := (Py.ts_le ha hb j (n + 1)).mono (by omega)
theorem nz_ts {a b L : List Py.G} {n m q : Nat} (ha : May n a) (hb : May m b) (za : Nz n a) (zb : Nz m b) (hL : May q L) (h : ∀ i, Py.co L i = Py.ts a b i (n + 1)) : Nz q L := by
  have na : Py.co a n ≠ (0, 0) := by
    rcases za with k | k
    · exact ha.2.2.1.resolve_left k
    · exact k
  have nb : Py.co b m ≠ (0, 0) := by
    rcases zb with k | k
    · exact hb.2.2.1.resolve_left k
    · exact k
  right
  intro e
  have e0 := hL.all0 e (n + m)
  rw [h] at e0
  have hl := Py.ml_last a b (by have := ha.1; omega) (by have := hb.1; omega)
  rw [Py.co_ml, ha.1, hb.1, show n + 1 + (m + 1) - 1 - 1 = n + m by omega, e0] at hl
  simp only [Nat.add_sub_cancel] at hl
  rcases Py.gm_zero hl.symm with k | k
  · exact na k
  · exact nb k
/-- what a call with two fractions keeps: the fractions, the answer, the error -/
def Tri (w : World) (F G S E : Nat) (s1 s2 s3 s4 x y : Value) (e : Int) : Prop := Fc w F s1 s2 ∧ Fc w G s3 s4 ∧ Fw w S E x y e
theorem Tri.bw {w w' : World} {F G S E : Nat} {s1 s2 s3 s4 x y : Value} {e : Int} (h : Tri w F G S E s1 s2 s3 s4 x y e) (k : Bw w w') : Tri w' F G S E s1 s2 s3 s4 x y e := ⟨h.1.bw k, h.2.1.bw k, h.2.2.bw k⟩
theorem Tri.cells {w : World} {F G S E : Nat} {s1 s2 s3 s4 x y : Value} {e : Int} (h : Tri w F G S E s1 s2 s3 s4 x y e) : w.cell? ⟨F, 0, none⟩ = some s1 ∧ w.cell? ⟨F, 1, none⟩ = some s2 ∧ w.cell? ⟨G, 0, none⟩ = some s3 ∧ w.cell? ⟨G, 1, none⟩ = some s4 := ⟨h.1.2.1, h.1.2.2, h.2.1.2.1, h.2.1.2.2⟩
theorem Tri.top {w : World} {F G S E : Nat} {s1 s2 s3 s4 x y : Value} {e : Int} (h : Tri w F G S E s1 s2 s3 s4 x y e) (hF : F ≠ S) (hG : G ≠ S) (hE : E ≠ S) (v : Value) : Tri (w.setCell ⟨S, 0, none⟩ v) F G S E s1 s2 s3 s4 v y e := ⟨h.1.apart hF 0 v, h.2.1.apart hG 0 v, h.2.2.top hE v⟩
theorem Tri.bottom {w : World} {F G S E : Nat} {s1 s2 s3 s4 x y : Value} {e : Int} (h : Tri w F G S E s1 s2 s3 s4 x y e) (hF : F ≠ S) (hG : G ≠ S) (hE : E ≠ S) (v : Value) : Tri (w.setCell ⟨S, 1, none⟩ v) F G S E s1 s2 s3 s4 x v e := ⟨h.1.apart hF 1 v, h.2.1.apart hG 1 v, h.2.2.bottom hE v⟩
set_option maxHeartbeats 8000000 in
theorem radd10 {c : Nat} (hc : c = 1074) {w : World} {b1 o1 c1 n1 b2 o2 c2 n2 b3 o3 c3 n3 b4 o4 c4 n4 : Nat} {l1 l2 l3 l4 : List Py.G} (g1 : Gl c w b1 o1 l1) (g2 : Gl c w b2 o2 l2) (g3 : Gl c w b3 o3 l3) (g4 : Gl c w b4 o4 l4) (m1 : May n1 l1) (m2 : May n2 l2) (m3 : May n3 l3) (m4 : May n4 l4) (z2 : Nz n2 l2) (z4 : Nz n4 l4) (k1 : n1 ≤ 3) (k2 : n2 ≤ 3) (k3 : n3 ≤ 3) (k4 : n4 ≤ 3)
    (e1 : ∀ i, Py.Le (Py.co l1 i) 12) (e2 : ∀ i, Py.Le (Py.co l2 i) 12) (e3 : ∀ i, Py.Le (Py.co l3 i) 12) (e4 : ∀ i, Py.Le (Py.co l4 i) 12) :
    Calls Try.prog 20 #[.agg #[.slice (some ⟨b1, o1, none⟩) (n1 + 1) c1, .slice (some ⟨b2, o2, none⟩) (n2 + 1) c2], .agg #[.slice (some ⟨b3, o3, none⟩) (n3 + 1) c3, .slice (some ⟨b4, o4, none⟩) (n4 + 1) c4]] w fun e w' => ∃ S T m L m' L', e = .returned (.tuple #[.agg #[S, T], .int .i64 0]) ∧ Sl c w' S m L ∧ Sl c w' T m' L' ∧ May m L ∧ May m' L' ∧ m ≤ 6 ∧ m' ≤ 6 ∧ (∀ i, Py.co L i = Py.ga (Py.ts l1 l4 i (n1 + 1)) (Py.ts l3 l2 i (n3 + 1))) ∧ (∀ i, Py.co L' i = Py.ts l2 l4 i (n2 + 1)) ∧ Bw w w' := by
  have hmf := makef10
  have HC := hide hc
  have HE := hide (And.intro e1 (And.intro e2 (And.intro e3 e4)))
  have HM := hide (And.intro m1 (And.intro m2 (And.intro m3 m4)))
  have HG := hide (And.intro g1 (And.intro g2 (And.intro g3 g4)))
  have HZ := hide (And.intro z2 z4)
  clear e1 e2 e3 e4 m1 m2 m3 m4 g1 g2 g3 g4 z2 z4 hc
  obtain ⟨F, G, S, E, V, W5, eF, eG, eS, eE, eV, eW, fF, fG, fS, lV, v0, v1, v2, v3, bW, q1, q2, q3, q4, q5⟩ := five10 w (.slice (some ⟨b1, o1, none⟩) (n1 + 1) c1) (.slice (some ⟨b2, o2, none⟩) (n2 + 1) c2) (.slice (some ⟨b3, o3, none⟩) (n3 + 1) c3) (.slice (some ⟨b4, o4, none⟩) (n4 + 1) c4)
  have WO : Hid (Calls Try.prog 32 #[.slice (some ⟨V, 0, none⟩) 2 2] W5 fun e w' => e = .returned (.agg #[.int .i64 0]) ∧ Bw W5 w') := by
    refine workon10 (K := 2) HC.out (by omega) lV (fun k hk => ?_)
    obtain ⟨g1, g2, g3, g4⟩ := HG.out
    obtain ⟨m1, m2, m3, m4⟩ := HM.out
    rcases (show k = 0 ∨ k = 1 by omega) with rfl | rfl
    · exact ⟨_, _, v0, v1, _, _, _, _, _, _, _, _, _, _, rfl, rfl, m1, g1.bw bW, m2, g2.bw bW, HZ.out.1⟩
    · exact ⟨_, _, v2, v3, _, _, _, _, _, _, _, _, _, _, rfl, rfl, m3, g3.bw bW, m4, g4.bw bW, HZ.out.2⟩
  have HT : Hid (Tri W5 F G S E (.slice (some ⟨b1, o1, none⟩) (n1 + 1) c1) (.slice (some ⟨b2, o2, none⟩) (n2 + 1) c2) (.slice (some ⟨b3, o3, none⟩) (n3 + 1) c3) (.slice (some ⟨b4, o4, none⟩) (n4 + 1) c4) (.slice none 0 0) (.slice none 0 0) 0) := ⟨fF, fG, fS⟩
  have HQ : Hid (F ≠ S ∧ G ≠ S ∧ E ≠ S ∧ S < E ∧ w.heap.size ≤ S) := by show _ ∧ _; omega
  have HB := hide bW
  clear fF fG fS lV v0 v1 v2 v3 bW q1 q2 q3 q4 q5
  go_enter_defers Try.func20, Try.ntmps20
  go_wp2_with fail
  rw [← eW, ← eV, ← eE, ← eS, ← eG, ← eF]
  refine WO.out.mono ?_
  clear WO eW eV eE eS eG eF
  rintro e' w6 ⟨rfl, b6⟩
  obtain ⟨Wb, eWb⟩ : ∃ Wb, Wb = w6.heap.size := ⟨_, rfl⟩
  obtain ⟨W7, eW7⟩ : ∃ W7, W7 = w6.alloc (.cells #[.int .i64 0] 64) := ⟨_, rfl⟩
  have b7 : Bw W5 W7 := by rw [eW7]; exact bw_trans b6 (bw_alloc _ _)
  have HK : Hid (Wk W7 Wb) := by show Wk _ _; rw [eW7, eWb]; exact Wk.made _ _
  have HWb : Hid (Wb ≠ S) := by
    have h1 := HT.out.2.2.1.1
    have h2 := Below.size b6
    show Wb ≠ S
    rw [eWb]; omega
  replace HT := hide (HT.out.bw b7)
  replace HB := hide (bw_trans HB.out b7)
  clear b6 b7
  go_wp2_with fail
  rw [← eW7, ← eWb]
  clear eW7 eWb
  have S0 := (HT.out.bw (Bw.drw W7)).cells
  refine wp_region_K (fun w' => w'.cell? ⟨F, 0, none⟩ = some (.slice (some ⟨b1, o1, none⟩) (n1 + 1) c1) ∧ w'.cell? ⟨F, 1, none⟩ = some (.slice (some ⟨b2, o2, none⟩) (n2 + 1) c2) ∧ w'.cell? ⟨G, 0, none⟩ = some (.slice (some ⟨b3, o3, none⟩) (n3 + 1) c3) ∧ w'.cell? ⟨G, 1, none⟩ = some (.slice (some ⟨b4, o4, none⟩) (n4 + 1) c4)) 12 13 #[false, false, false, false, false, false, false, false, false, false, false, false, false] (by kernel_rfl) (by kernel_rfl) (by kernel_rfl) ?_
  refine wpAnyK_take 0 12 (v := ?v0) rfl (by kernel_rfl) (by kernel_rfl) (by kernel_rfl) (by kernel_rfl) (by kernel_rfl) (fun _ _ _ h => put_d 12 rfl (by decide) (by decide) h) rfl (Or.inl ⟨by rfl, ?h0⟩) (by assumption) ?r0
  case h0 => (intro w hSw; go_simp; with_reducible rfl)
  simp only [Act.put, List.setIfInBounds_toArray, List.set_cons_zero, List.set_cons_succ]
  refine wpAnyK_take 1 13 (v := ?v1) rfl (by kernel_rfl) (by kernel_rfl) (by kernel_rfl) (by kernel_rfl) (by kernel_rfl) (fun _ _ _ h => put_d 13 rfl (by decide) (by decide) h) rfl (Or.inl ⟨by rfl, ?h1⟩) (by assumption) ?r1
  case h1 => (intro w hSw; go_simp; with_reducible rfl)
  simp only [Act.put, List.setIfInBounds_toArray, List.set_cons_zero, List.set_cons_succ]
  refine wpAnyK_take 2 14 (v := ?v2) rfl (by kernel_rfl) (by kernel_rfl) (by kernel_rfl) (by kernel_rfl) (by kernel_rfl) (fun _ _ _ h => put_d 14 rfl (by decide) (by decide) h) rfl (Or.inl ⟨by rfl, ?h2⟩) (by assumption) ?r2
  case h2 => (intro w hSw; go_simp; with_reducible rfl)
  simp only [Act.put, List.setIfInBounds_toArray, List.set_cons_zero, List.set_cons_succ]
  refine wpAnyK_take 3 15 (v := ?v3) rfl (by kernel_rfl) (by kernel_rfl) (by kernel_rfl) (by kernel_rfl) (by kernel_rfl) (fun _ _ _ h => put_d 15 rfl (by decide) (by decide) h) rfl (Or.inl ⟨by rfl, ?h3⟩) (by assumption) ?r3
  case h3 => (intro w hSw; go_simp; with_reducible rfl)
  simp only [Act.put, List.setIfInBounds_toArray, List.set_cons_zero, List.set_cons_succ]
  refine wpAnyK_take 5 17 (v := ?v5) rfl (by kernel_rfl) (by kernel_rfl) (by kernel_rfl) (by kernel_rfl) (by kernel_rfl) (fun _ _ _ h => put_d 17 rfl (by decide) (by decide) h) rfl (Or.inl ⟨by rfl, ?h5⟩) (by assumption) ?r5
  case h5 => (intro w hSw; go_simp; with_reducible rfl)
  simp only [Act.put, List.setIfInBounds_toArray, List.set_cons_zero, List.set_cons_succ]
  refine wpAnyK_take 6 18 (v := ?v6) rfl (by kernel_rfl) (by kernel_rfl) (by kernel_rfl) (by kernel_rfl) (by kernel_rfl) (fun _ _ _ h => put_d 18 rfl (by decide) (by decide) h) rfl (Or.inl ⟨by rfl, ?h6⟩) (by assumption) ?r6
  case h6 => (intro w hSw; go_simp; with_reducible rfl)
  simp only [Act.put, List.setIfInBounds_toArray, List.set_cons_zero, List.set_cons_succ]
  refine wpAnyK_take 7 19 (v := ?v7) rfl (by kernel_rfl) (by kernel_rfl) (by kernel_rfl) (by kernel_rfl) (by kernel_rfl) (fun _ _ _ h => put_d 19 rfl (by decide) (by decide) h) rfl (Or.inl ⟨by rfl, ?h7⟩) (by assumption) ?r7
  case h7 => (intro w hSw; go_simp; with_reducible rfl)
  simp only [Act.put, List.setIfInBounds_toArray, List.set_cons_zero, List.set_cons_succ]
  refine wpAnyK_take 8 20 (v := ?v8) rfl (by kernel_rfl) (by kernel_rfl) (by kernel_rfl) (by kernel_rfl) (by kernel_rfl) (fun _ _ _ h => put_d 20 rfl (by decide) (by decide) h) rfl (Or.inl ⟨by rfl, ?h8⟩) (by assumption) ?r8
  case h8 => (intro w hSw; go_simp; with_reducible rfl)
  simp only [Act.put, List.setIfInBounds_toArray, List.set_cons_zero, List.set_cons_succ]
  refine wpAnyK_one 4 (by kernel_rfl) rfl (fun K hK => ?_)
  go_simp
  go_wp2_with (go_at_call 37; refine (wmul10 (A := 12) (A' := 12) HC.out (HK.out.bw (Bw.drw _)) HM.out.1 ((HG.out.1.bw HB.out).bw (Bw.drw _)) HM.out.2.2.2 ((HG.out.2.2.2.bw HB.out).bw (Bw.drw _)) HE.out.1 HE.out.2.2.2 (by omega) (by omega)).mono ?_; intro e' w8 ha; obtain ⟨Ba, pa, La, rfl, Ma, Na, Qa, Ha, Ka, Ca⟩ := ha.use; clear ha; replace Ka := bw_trans (Bw.drw W7) Ka; have T8 := hide (HT.out.bw Ka); have S8 := T8.out.cells; have K8 := hide (HK.out.bw Ka); have B8 := hide (bw_trans HB.out Ka))
  refine hK.out _ _ (fun _ _ => S8) ?_
  clear hK K
  simp only [List.setIfInBounds_toArray, List.set_cons_zero, List.set_cons_succ]
  refine wpAnyK_one 9 (by kernel_rfl) rfl (fun K hK => ?_)
  go_simp
  go_wp2_with (go_at_call 37; refine (wmul10 (A := 12) (A' := 12) HC.out K8.out HM.out.2.2.1 (HG.out.2.2.1.bw B8.out) HM.out.2.1 (HG.out.2.1.bw B8.out) HE.out.2.2.1 HE.out.2.1 (by omega) (by omega)).mono ?_; intro e' w9 hb; obtain ⟨Bb, pb, Lb, rfl, Mb, Nb, Qb, Hb, Kb, Cb⟩ := hb.use; clear hb; have T9 := hide (T8.out.bw Kb); have S9 := T9.out.cells; have K9 := hide (K8.out.bw Kb); have B9 := hide (bw_trans B8.out Kb); have Ga := hide (Qa.bw Kb); clear Qa)
  refine hK.out _ _ (fun _ _ => S9) ?_
  clear hK K
  simp only [List.setIfInBounds_toArray, List.set_cons_zero, List.set_cons_succ]
  refine wpAnyK_one 10 (by kernel_rfl) rfl (fun K hK => ?_)
  go_simp
  go_wp2_with (go_at_call 36; refine (wadd10 (A := 576) (A' := 576) HC.out K9.out Ma Ga.out.1 Mb Qb.1 (fun i => by rw [Ca]; exact ts_le12 HE.out.1 HE.out.2.2.2 k1 i) (fun i => by rw [Cb]; exact ts_le12 HE.out.2.2.1 HE.out.2.1 k3 i) (by omega)).mono ?_; intro e' w10 hc; obtain ⟨Bc, pc, Lc, rfl, Mc, Nc, Qc, Hc, Kc, Cc⟩ := hc.use; clear hc; have T10 := hide (T9.out.bw Kc); have S10 := T10.out.cells; have K10 := hide (K9.out.bw Kc); have B10 := hide (bw_trans B9.out Kc))
  refine hK.out _ _ (fun _ _ => S10) ?_
  clear hK K
  simp only [List.setIfInBounds_toArray, List.set_cons_zero, List.set_cons_succ]
  refine wpAnyK_take 11 23 (v := ?v11) rfl (by kernel_rfl) (by kernel_rfl) (by kernel_rfl) (by kernel_rfl) (by kernel_rfl) (fun _ _ _ h => put_d 23 rfl (by decide) (by decide) h) rfl (Or.inl ⟨by rfl, ?h11⟩) (by assumption) ?r11
  case h11 => (intro w hSw; go_simp; with_reducible rfl)
  simp only [Act.put, List.setIfInBounds_toArray, List.set_cons_zero, List.set_cons_succ]
  obtain ⟨⟨_, d0, d1⟩, f0, f1, _, g0, g1⟩ := T10.out.2.2
  refine wpAnyK_one 12 (by kernel_rfl) rfl (fun K hK => ?_)
  go_simp
  refine hK.out _ _ (fun h => absurd rfl h) ?_
  clear hK K
  simp only [List.setIfInBounds_toArray, List.set_cons_zero, List.set_cons_succ]
  refine wpAnyK_done (by kernel_rfl) ?_ _
  have T11 := hide (T10.out.top HQ.out.1 HQ.out.2.1 HQ.out.2.2.1 (.slice (some ⟨Bc, 0, none⟩) (pc + 1) (pc + 1)))
  have K11 := hide (K10.out.apart HWb.out 0 (.slice (some ⟨Bc, 0, none⟩) (pc + 1) (pc + 1)))
  have B11 := hide (bw_set B10.out HQ.out.2.2.2.2 0 (.slice (some ⟨Bc, 0, none⟩) (pc + 1) (pc + 1)))
  have hBc : Hid (Bc ≠ S) := by have h1 := T9.out.2.2.1.1; show Bc ≠ S; omega
  have G11 := hide (gl_set Qc hBc.out 0 (.slice (some ⟨Bc, 0, none⟩) (pc + 1) (pc + 1)))
  have MC := hide (And.intro Mc (And.intro Nc Cc))
  have FIN : Hid (pc ≤ 6 ∧ ∀ i, Py.co Lc i = Py.ga (Py.ts l1 l4 i (n1 + 1)) (Py.ts l3 l2 i (n3 + 1))) := ⟨by omega, fun i => by rw [Cc, Ca, Cb]⟩
  clear d0 d1 f0 f1 g0 g1 S0 Qc Mc Nc Cc T10 K10 B10 Ma Mb Ca Cb Ka Kb Kc Na Nb Ha Hb Hc Qb Ga T8 T9 K8 K9 B8 B9 S8 S9 S10
  generalize w10.setCell ⟨S, 0, none⟩ (.slice (some ⟨Bc, 0, none⟩) (pc + 1) (pc + 1)) = W11 at *
  have S11 := T11.out.cells
  go_wp2_with fail
  refine (wmul10 (A := 12) (A' := 12) HC.out K11.out HM.out.2.1 (HG.out.2.1.bw B11.out) HM.out.2.2.2 (HG.out.2.2.2.bw B11.out) HE.out.2.1 HE.out.2.2.2 (by omega) (by omega)).mono ?_
  intro e' w12 hd
  obtain ⟨Bd, pd, Ld, rfl, Md, Nd, Qd, Hd, Kd, Cd⟩ := hd.use
  have hBd : Hid (Bd ≠ S) := by have h1 := T11.out.2.2.1.1; show Bd ≠ S; omega
  have T12 := hide (T11.out.bw Kd)
  have K12 := hide (K11.out.bw Kd)
  have B12 := hide (bw_trans B11.out Kd)
  have G12 := hide (G11.out.bw Kd)
  obtain ⟨⟨_, d0, d1⟩, f0, f1, _, g0, g1⟩ := T12.out.2.2
  clear hd S11 T11 K11 B11 G11
  have T13 := hide (T12.out.bottom HQ.out.1 HQ.out.2.1 HQ.out.2.2.1 (.slice (some ⟨Bd, 0, none⟩) (pd + 1) (pd + 1)))
  have K13 := hide (K12.out.apart HWb.out 1 (.slice (some ⟨Bd, 0, none⟩) (pd + 1) (pd + 1)))
  have B13 := hide (bw_set B12.out HQ.out.2.2.2.2 1 (.slice (some ⟨Bd, 0, none⟩) (pd + 1) (pd + 1)))
  have G13 := hide (And.intro (gl_set G12.out hBc.out 1 (.slice (some ⟨Bd, 0, none⟩) (pd + 1) (pd + 1))) (gl_set Qd.1 hBd.out 1 (.slice (some ⟨Bd, 0, none⟩) (pd + 1) (pd + 1))))
  have MD := hide (And.intro Md (And.intro Nd Cd))
  clear T12 K12 B12 G12 Md Nd Cd Qd Hd Kd
  go_wp2_with fail
  clear d0 d1 f0 f1 g0 g1
  generalize w12.setCell ⟨S, 1, none⟩ (.slice (some ⟨Bd, 0, none⟩) (pd + 1) (pd + 1)) = W13 at *
  obtain ⟨⟨_, d0, d1⟩, f0, f1, _, g0, g1⟩ := T13.out.2.2
  obtain ⟨_, wk, _⟩ := K13.out
  have S13 : W13.drew.cell? ⟨S, 0, none⟩ = some (.slice (some ⟨Bc, 0, none⟩) (pc + 1) (pc + 1)) ∧ W13.drew.cell? ⟨S, 1, none⟩ = some (.slice (some ⟨Bd, 0, none⟩) (pd + 1) (pd + 1)) ∧ W13.drew.cell? ⟨Wb, 0, none⟩ = some (.int .i64 0) := ⟨d0, d1, wk⟩
  have y0 := set_self d0
  have y1 := set_self d1
  have y2 := set_self g0
  refine wp_region_K (fun w' => w'.cell? ⟨S, 0, none⟩ = some (.slice (some ⟨Bc, 0, none⟩) (pc + 1) (pc + 1)) ∧ w'.cell? ⟨S, 1, none⟩ = some (.slice (some ⟨Bd, 0, none⟩) (pd + 1) (pd + 1)) ∧ w'.cell? ⟨Wb, 0, none⟩ = some (.int .i64 0)) 4 5 #[false, false, false, false, false] (by kernel_rfl) (by kernel_rfl) (by kernel_rfl) ?_
  refine wpAnyK_take 0 30 (v := ?vz0) rfl (by kernel_rfl) (by kernel_rfl) (by kernel_rfl) (by kernel_rfl) (by kernel_rfl) (fun _ _ _ h => put_d 30 rfl (by decide) (by decide) h) rfl (Or.inl ⟨by rfl, ?hz0⟩) (by assumption) ?rz0
  case hz0 => (intro w hSw; go_simp; with_reducible rfl)
  simp only [Act.put, List.setIfInBounds_toArray, List.set_cons_zero, List.set_cons_succ]
  refine wpAnyK_take 1 31 (v := ?vz1) rfl (by kernel_rfl) (by kernel_rfl) (by kernel_rfl) (by kernel_rfl) (by kernel_rfl) (fun _ _ _ h => put_d 31 rfl (by decide) (by decide) h) rfl (Or.inl ⟨by rfl, ?hz1⟩) (by assumption) ?rz1
  case hz1 => (intro w hSw; go_simp; with_reducible rfl)
  simp only [Act.put, List.setIfInBounds_toArray, List.set_cons_zero, List.set_cons_succ]
  refine wpAnyK_take 2 32 (v := ?vz2) rfl (by kernel_rfl) (by kernel_rfl) (by kernel_rfl) (by kernel_rfl) (by kernel_rfl) (fun _ _ _ h => put_d 32 rfl (by decide) (by decide) h) rfl (Or.inl ⟨by rfl, ?hz2⟩) (by assumption) ?rz2
  case hz2 => (intro w hSw; go_simp; with_reducible rfl)
  simp only [Act.put, List.setIfInBounds_toArray, List.set_cons_zero, List.set_cons_succ]
  refine wpAnyK_one 3 (by kernel_rfl) rfl (fun K hK => ?_)
  go_simp
  refine hK.out _ _ (fun _ _ => S13) ?_
  clear hK K
  simp only [List.setIfInBounds_toArray, List.set_cons_zero, List.set_cons_succ]
  refine wpAnyK_one 4 (by kernel_rfl) rfl (fun K hK => ?_)
  go_simp
  refine hK.out _ _ (fun h => absurd rfl h) ?_
  clear hK K
  simp only [List.setIfInBounds_toArray, List.set_cons_zero, List.set_cons_succ]
  refine wpAnyK_done (by kernel_rfl) ?_ _
  clear S13 y0 y1 y2 d0 d1 f0 f1 g0 g1 wk
  go_wp2_with fail
  refine leaves_cons (f := 49) (args := #[.pointer (some ⟨Wb, 0, none⟩), .pointer (some ⟨S, 0, none⟩), .pointer (some ⟨E, 0, none⟩)]) (by simp) (by simp [go_sem]) ?_
  refine (dadd10 .returning (K13.out.bw (Bw.drw _)) (T13.out.2.2.bw (Bw.drw _)) MD.out.1 (G13.out.2.bw (Bw.drw _)) (nz_ts HM.out.2.1 HM.out.2.2.2 HZ.out.1 HZ.out.2 MD.out.1 MD.out.2.2)).mono ?_
  rintro e u' w14 ⟨rfl, rfl, b14⟩
  replace b14 := bw_trans (Bw.drw W13) b14
  have T14 := (T13.out.2.2.bw b14)
  refine ⟨_, res_cc rfl _ _ S E _ _ 0 rfl rfl T14.1 T14.2.2.2.2.1, _, _, pc, Lc, pd, Ld, rfl, ⟨_, _, _, rfl, G13.out.1.bw b14⟩, ⟨_, _, _, rfl, G13.out.2.bw b14⟩, MC.out.1, MD.out.1, FIN.out.1, by have := MD.out.2.1; omega, FIN.out.2, MD.out.2.2, bw_trans B13.out b14⟩
end Go.Proofs.Ytmbjgakehghdjaa
