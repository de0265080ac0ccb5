/-
 OWN TEXT: package image: lists of elements of any words; flow.Check, image.answered.
-/
import Derived.Test.YtnjkdfhhlcoaaaaGreatJFfDToFfF
import Derived.MapKept
import Derived.Laws.AppendOwnNone
namespace Go.Proofs.YtnjkdfhhlcoaaaaGreat
open Go.ChangeShapes Go.WideShapes Go.ChangeAt Go.RowKit
set_option linter.unusedVariables false
set_option linter.unusedSimpArgs false
attribute [local go_sem] frombits_call tobits_call run_neg run_store_cx El.run_store_fl
namespace Im
/-- an element of any words -/
structure Re where
 k : Int
 a : Nat
 b : Nat
 s : Nat
 t : Nat
 p : Nat
def rc (e : Re) : List Value := [.int .u8 e.k, .complex .f64 e.a e.b, .complex .f64 e.s e.t, .float .f64 e.p]
def rcs (es : List Re) : List Value := es.flatMap rc
theorem rcs_app (es fs : List Re) : rcs (es ++ fs) = rcs es ++ rcs fs := by simp [rcs]
theorem rcs_len : ∀ es : List Re, (rcs es).length = es.length * 4
 | [] => rfl
 | e :: es => by
  have := rcs_len es
  have h : rcs (e :: es) = rc e ++ rcs es := by simp [rcs]
  rw [h, List.length_append, this, List.length_cons]
  show 4 + _ = _
  omega
theorem rcs_get : ∀ (es : List Re) (i : Nat) (e : Re) (j : Nat), es[i]? = some e → j < 4 → (rcs es)[i * 4 + j]? = (rc e)[j]?
 | [], i, e, j, h, _ => by simp at h
 | x :: es, 0, e, j, h, hj => by
  simp at h
  subst h
  have h : rcs (x :: es) = rc x ++ rcs es := by simp [rcs]
  rw [h, Nat.zero_mul, Nat.zero_add, List.getElem?_append_left (by show j < 4; exact hj)]
 | x :: es, i + 1, e, j, h, hj => by
  have h2 : rcs (x :: es) = rc x ++ rcs es := by simp [rcs]
  have k := rcs_get es i e j (by simpa using h) hj
  rw [h2, List.getElem?_append_right (by show 4 ≤ _; omega)]
  rw [show (i + 1) * 4 + j - (rc x).length = i * 4 + j by show (i + 1) * 4 + j - 4 = _; omega]
  exact k
/-- the elements lie from a on -/
def Rs (w : World) (a : Option Addr) (es : List Re) : Prop := es.length = 0 ∨ ∃ b o, a = some ⟨b, o, none⟩ ∧ b < w.heap.size ∧ ∀ (i : Nat) (e : Re), es[i]? = some e →
 w.cell? ⟨b, o + i * 4, none⟩ = some (.int .u8 e.k) ∧ w.cell? ⟨b, o + i * 4 + 1, none⟩ = some (.complex .f64 e.a e.b) ∧ w.cell? ⟨b, o + i * 4 + 2, none⟩ = some (.complex .f64 e.s e.t) ∧ w.cell? ⟨b, o + i * 4 + 3, none⟩ = some (.float .f64 e.p)
theorem Rs.bw {w w' : World} {a : Option Addr} {es : List Re} (h : Rs w a es) (k : Bw w w') : Rs w' a es := by
 rcases h with h | ⟨b, o, e, hb, h⟩
 · exact Or.inl h
 ·
  refine Or.inr ⟨b, o, e, Nat.lt_of_lt_of_le hb k.size, fun i e he => ?_⟩
  obtain ⟨h0, h1, h2, h3⟩ := h i e he
  exact ⟨(Below.cell k (p := ⟨b, o + i * 4, none⟩) hb).trans h0, (Below.cell k (p := ⟨b, o + i * 4 + 1, none⟩) hb).trans h1, (Below.cell k (p := ⟨b, o + i * 4 + 2, none⟩) hb).trans h2, (Below.cell k (p := ⟨b, o + i * 4 + 3, none⟩) hb).trans h3⟩
theorem own_rs {w : World} {base n : Nat} {v : Value} {es : List Re} (ho : w.ownsRow base 28 4 v n (rcs es)) (hn : es.length = n) : ∃ a cap, v = .slice a n cap ∧ Rs w a es := by
 rcases Nat.eq_zero_or_pos n with h | h
 ·
  rcases ho.2 with ⟨e, z⟩ | ⟨g, cap, _, e, _⟩
  · exact ⟨none, 0, by rw [e, z], Or.inl (by omega)⟩
  · exact ⟨_, cap, e, Or.inl (by omega)⟩
 ·
  obtain ⟨g, cap, e, hb, hlt⟩ := ho.form h
  subst e
  refine ⟨_, cap, rfl, Or.inr ⟨g, 0, rfl, hlt, fun i e he => ?_⟩⟩
  have hi : i < es.length := by
   rcases Nat.lt_or_ge i es.length with q | q
   · exact q
   · rw [List.getElem?_eq_none q] at he; cases he
  have k := fun j (hj : j < 4) => (ho.cellAt (i * 4 + j) (by omega)).trans (rcs_get es i e j he hj)
  rw [Nat.zero_add]
  exact ⟨k 0 (by decide), k 1 (by decide), k 2 (by decide), k 3 (by decide)⟩
theorem fz_new (w : World) (c : Array Value) (T : TypeId) (i : Nat) : (w.alloc (.cells c T)).frozen? ⟨w.heap.size, i, none⟩ = false := World.frozen?_alloc_at _ _ _ _ rfl
/-- it may be -/
def Ck (e : Re) : Prop := ∀ w, Calls Tryz.prog 28 #[.agg #[.int .u8 e.k, .complex .f64 e.a e.b, .complex .f64 e.s e.t, .float .f64 e.p]] w fun r w' => r = .returned (.int .i64 0) ∧ Bw w w'
theorem flow_load {w : World} {B : Nat} {x : Value} (h0 : w.cell? ⟨B, 0, none⟩ = some x) : (loadVar 30 ⟨B, 0, none⟩).run Tryz.prog w = .ok (.agg #[x]) w := by
 refine run_loadVar_mid w B 0 30 [x] _ (fun j v hv => ?_) Tryz.underlying30 rfl (by kernel_rfl)
 match j, hv with
 | 0, hv => cases hv; exact h0
theorem res_flow {fn : Func} {i j : Tmp} (hr : fn.results = #[.cell i 30, .tmp j]) (tmps : Array Value) (w : World) (B : Nat) {x : Value} (hi : tmps.getD i undef = .pointer (some ⟨B, 0, none⟩)) (h0 : w.cell? ⟨B, 0, none⟩ = some x) : (results fn tmps).run Tryz.prog w = .ok (.tuple #[.agg #[x], tmps.getD j undef]) w := by
 rw [results_cell_tmp hr, hi]
 simp only [asAddr, Sem.run_pure, Result.andThen_ok, flow_load h0]
end Im
set_option maxHeartbeats 4000000 in
theorem fcheckI {w : World} {a : Option Addr} {cap n : Nat} {es : List Im.Re} (hn : es.length = n) (hm : n ≤ 256) (hE : Im.Rs w a es) (ho : ∀ e ∈ es, Im.Ck e) :
  Calls Tryz.prog 13 #[.agg #[.slice a n cap]] w fun e w' => e = .returned (.int .i64 0) ∧ Bw w w' := by
 have bA := bw_alloc w (.cells #[.slice a n cap] 30)
 have c0 : (w.alloc (.cells #[.slice a n cap] 30)).cell? ⟨w.heap.size, 0, none⟩ = some (.slice a n cap) := by simp
 have HN := hide hn
 have HE := hide (hE.bw bA)
 have HO := hide ho
 have h256 : ¬ (256 : Int) < (n : Int) := by omega
 clear hn hE ho
 go_enter Tryz.func13, Tryz.ntmps13
 go_wp2
 go_wp2
 generalize w.alloc (.cells #[.slice a n cap] 30) = W at *
 go_loopw [13] (fun i wr => ∃ (k : Nat), k ≤ n ∧ i = .int .i64 k ∧ Bw W wr) (fun i _ => n - (intOf i).toNat)
 case atStart => exact ⟨0, Nat.zero_le _, rfl, Bw.refl _⟩
 case round =>
  obtain ⟨k, hk, rfl, hbw⟩ := hrel
  by_cases hk1 : k < n
  ·
   have hk2 : (k : Int) < n := by omega
   obtain ⟨e, he⟩ : ∃ e, es[k]? = some e := ⟨es[k]'(by have := HN.out; omega), by simp [show k < es.length by have := HN.out; omega]⟩
   have CK := hide (HO.out e (List.mem_of_getElem? he))
   obtain ⟨b, o, rfl, _, hcell⟩ := (HE.out.bw hbw).resolve_left (by have := HN.out; omega)
   obtain ⟨e0, e1, e2, e3⟩ := hcell k e he
   have bX := bw_alloc wr (.cells #[.int .u8 e.k, .complex .f64 e.a e.b, .complex .f64 e.s e.t, .float .f64 e.p] 28)
   have R := hide (bw_trans hbw bX)
   clear hcell hbw bX
   go_wp2_with fail
   refine (CK.out _).mono ?_
   rintro e' w5 ⟨rfl, b5⟩
   have R2 := hide (bw_trans R.out b5)
   clear e0 e1 e2 e3 CK b5
   go_wp2
   go_roundw
   case rel => exact ⟨k + 1, by omega, by simp, R2.out⟩
   case measure => simp [intOf]; omega
  ·
   have hk3 : k = n := by omega
   subst hk3
   go_wp2
   go_ret
   exact ⟨rfl, bw_trans bA hbw⟩
set_option maxHeartbeats 4000000 in
theorem answeredI {w : World} {a : Option Addr} {cap n : Nat} {es : List Im.Re} (hn : es.length = n) (hm : n ≤ 256) (hE : Im.Rs w a es) (ho : ∀ e ∈ es, Im.Ck e) :
  Calls Tryz.prog 31 #[.slice a n cap] w fun e w' => e = .returned (.tuple #[.agg #[.slice a n cap], .int .i64 0]) ∧ Bw w w' := by
 have bA := bw_alloc w (.cells #[.slice none 0 0] 30)
 have c0 : (w.alloc (.cells #[.slice none 0 0] 30)).cell? ⟨w.heap.size, 0, none⟩ = some (.slice none 0 0) := by simp
 have fz := Im.fz_new w #[.slice none 0 0] 30
 have hs : (w.alloc (.cells #[.slice none 0 0] 30)).heap.size = w.heap.size + 1 := by simp
 have HN := hide hn
 have HE := hide (hE.bw bA)
 have HO := hide ho
 have h256 : ¬ (256 : Int) < (n : Int) := by omega
 clear hn hE ho
 go_enter Tryz.func31, Tryz.ntmps31
 go_wp2_with fail
 have HC := hide (And.intro c0 (And.intro (fz 0) (And.intro hs bA)))
 clear c0 fz hs bA
 generalize w.alloc (.cells #[.slice none 0 0] 30) = W at *
 go_loopw [13] (fun i wr => ∃ (k : Nat), k ≤ n ∧ i = .int .i64 k ∧ Bw W wr) (fun i _ => n - (intOf i).toNat)
 case atStart => exact ⟨0, Nat.zero_le _, rfl, Bw.refl _⟩
 case round =>
  obtain ⟨k, hk, rfl, hbw⟩ := hrel
  by_cases hk1 : k < n
  ·
   have hk2 : (k : Int) < n := by omega
   obtain ⟨e, he⟩ : ∃ e, es[k]? = some e := ⟨es[k]'(by have := HN.out; omega), by simp [show k < es.length by have := HN.out; omega]⟩
   have CK := hide (HO.out e (List.mem_of_getElem? he))
   obtain ⟨b, o, rfl, _, hcell⟩ := (HE.out.bw hbw).resolve_left (by have := HN.out; omega)
   obtain ⟨e0, e1, e2, e3⟩ := hcell k e he
   have bX := bw_alloc wr (.cells #[.int .u8 e.k, .complex .f64 e.a e.b, .complex .f64 e.s e.t, .float .f64 e.p] 28)
   have R := hide (bw_trans hbw bX)
   clear hcell hbw bX
   go_wp2_with fail
   refine (CK.out _).mono ?_
   rintro e' w5 ⟨rfl, b5⟩
   have R2 := hide (bw_trans R.out b5)
   clear e0 e1 e2 e3 CK b5
   go_wp2
   go_roundw
   case rel => exact ⟨k + 1, by omega, by simp, R2.out⟩
   case measure => simp [intOf]; omega
  ·
   have hk3 : k = n := by omega
   subst hk3
   have hlt : w.heap.size < W.heap.size := by have := HC.out.2.2.1; omega
   have s0 := (Below.cell hbw (p := ⟨w.heap.size, 0, none⟩) hlt).trans HC.out.1
   have s1 := (Below.frozen hbw (p := ⟨w.heap.size, 0, none⟩) hlt).trans HC.out.2.1
   have FIN : Hid (∀ V, V = wr.setCell ⟨w.heap.size, 0, none⟩ (.slice a k cap) → V.cell? ⟨w.heap.size, 0, none⟩ = some (.slice a k cap) ∧ Bw w V) := by
    rintro V rfl
    exact ⟨Ff.set_any s0, Below.setCell (bw_trans HC.out.2.2.2 hbw) (Nat.le_refl _) _⟩
   go_wp2
   obtain ⟨f0, f2⟩ := FIN.out _ rfl
   refine bodyPost_ret (Im.res_flow rfl _ _ w.heap.size rfl f0) rfl ?_
   exact ⟨rfl, f2⟩
theorem answered_many {w : World} {a : Option Addr} {cap n : Nat} (hm : 256 < n) :
  Calls Tryz.prog 31 #[.slice a n cap] w fun e w' => e = .returned (.tuple #[.agg #[.slice none 0 0], .int .i64 4]) ∧ Bw w w' := by
 have bA := bw_alloc w (.cells #[.slice none 0 0] 30)
 have c0 : (w.alloc (.cells #[.slice none 0 0] 30)).cell? ⟨w.heap.size, 0, none⟩ = some (.slice none 0 0) := by simp
 have fz := Im.fz_new w #[.slice none 0 0] 30 0
 have h256 : (256 : Int) < (n : Int) := by omega
 have HB := hide bA
 clear bA hm
 go_enter Tryz.func31, Tryz.ntmps31
 go_wp2
 refine bodyPost_ret (Im.res_flow rfl _ _ w.heap.size rfl c0) rfl ?_
 exact ⟨rfl, HB.out⟩
end Go.Proofs.YtnjkdfhhlcoaaaaGreat

/-
 OWN TEXT: package image: the map of what is done with each kind.
-/
namespace Go.Proofs.YtnjkdfhhlcoaaaaGreat
open Go.ChangeShapes Go.WideShapes Go.ChangeAt Go.RowKit
set_option linter.unusedVariables false
set_option linter.unusedSimpArgs false
attribute [local go_sem] Instr.makeFunc
namespace Im
def KE : Array MapEntry := #[⟨.int .u8 1, .func (.methodOf 66 "eddy/image.stream") #[] #[], 0⟩, ⟨.int .u8 2, .func (.methodOf 66 "eddy/image.source") #[] #[], 1⟩, ⟨.int .u8 3, .func (.methodOf 66 "eddy/image.doublet") #[] #[], 2⟩, ⟨.int .u8 4, .func (.methodOf 66 "eddy/image.corner") #[] #[], 3⟩]
theorem undM : Tryz.prog.underlying 67 = some (.map 5 (67 + 5)) := by kernel_rfl
theorem undK : Tryz.prog.underlying 5 = some (.int .u8) := by kernel_rfl
def mset (w : World) (r : Nat) (o : Obj) : World := { w with heap := w.heap.setIfInBounds r o }
theorem mset_at {w : World} {r : Nat} {o o' : Obj} (h : w.heap[r]? = some o) : (mset w r o').heap[r]? = some o' := (Go.MapKept.heap_set h).1
theorem mset_bw {u w : World} {r : Nat} {o o' : Obj} (h : w.heap[r]? = some o) (b : Bw u w) (hr : u.heap.size ≤ r) : Bw u (mset w r o') :=
 ⟨b.os, b.tape, b.output, by have := b.size; show _ ≤ (w.heap.setIfInBounds r o').size; simpa using this, fun k hk => ((Go.MapKept.heap_set h).2 k (by omega)).trans (b.block k hk)⟩
theorem look_run {w : World} {M : Nat} {es : Array MapEntry} {c : Nat} {k : Int} {i : Nat} {v : Value} (h : w.heap[M]? = some (.map es c)) (hf : Instr.findNow (.int .u8) (.int .u8 k) es.toList 0 = some (some (i, v))) : (Instr.lookup 67 (.map (some M)) (.int .u8 k) false).run Tryz.prog w = .ok v w := by
 have hc := Go.MapKept.run_checkKey (P := Tryz.prog) (w := w) undK (show Go.MapKept.IsKey (.int .u8) (.int .u8 k) from rfl) es.isEmpty 9999
 simp only [Instr.lookup, Sem.run_bind, run_underlying undM, Result.andThen_ok, Go.MapKept.run_getObj_map h, Sem.run_pure, hc, Go.MapKept.run_findKey undK hf]
 rfl
theorem ins_run {w : World} {M : Nat} {es : Array MapEntry} {c : Nat} {k : Int} (v : Value) (h : w.heap[M]? = some (.map es c)) (hf : Instr.findNow (.int .u8) (.int .u8 k) es.toList 0 = some none) : (Instr.mapUpdate 67 (.map (some M)) (.int .u8 k) v).run Tryz.prog w = .ok () (mset w M (.map (es.push ⟨.int .u8 k, v, c⟩) (c + 1))) := by
 have hc := Go.MapKept.run_checkKey (P := Tryz.prog) (w := w) undK (show Go.MapKept.IsKey (.int .u8) (.int .u8 k) from rfl) false 9999
 simp only [Instr.mapUpdate, Sem.run_bind, run_underlying undM, Result.andThen_ok, Go.MapKept.run_getObj_map h, hc, Go.MapKept.run_findKey undK hf, Go.MapKept.run_setObj_map _ h]
 rfl
/-- the map lies at block M -/
def Mp (w : World) (M : Nat) : Prop := w.heap[M]? = some (.map KE 4) ∧ M < w.heap.size
theorem Mp.bw {w w' : World} {M : Nat} (h : Mp w M) (k : Bw w w') : Mp w' M := ⟨(k.block M h.2).trans h.1, Nat.lt_of_lt_of_le h.2 k.size⟩
end Im
theorem kinds_c (w : World) : Calls Tryz.prog 30 #[] w fun e w' => ∃ M, e = .returned (.map (some M)) ∧ Im.Mp w' M ∧ Bw w w' := by
 have b0 := bw_alloc w (.map #[] 0)
 have h0 : (w.alloc (.map #[] 0)).heap[w.heap.size]? = some (.map #[] 0) := (Go.MapKept.heap_alloc w _).1
 have e1 := Im.ins_run (k := 1) (.func (.methodOf 66 "eddy/image.stream") #[] #[]) h0 rfl
 have h1 := Im.mset_at (o' := .map ((#[] : Array MapEntry).push ⟨.int .u8 1, .func (.methodOf 66 "eddy/image.stream") #[] #[], 0⟩) (0 + 1)) h0
 have b1 := Im.mset_bw (o' := .map ((#[] : Array MapEntry).push ⟨.int .u8 1, .func (.methodOf 66 "eddy/image.stream") #[] #[], 0⟩) (0 + 1)) h0 b0 (Nat.le_refl _)
 generalize Im.mset (w.alloc (.map #[] 0)) w.heap.size _ = W1 at e1 h1 b1
 have e2 := Im.ins_run (k := 2) (.func (.methodOf 66 "eddy/image.source") #[] #[]) h1 rfl
 have h2 := Im.mset_at (o' := .map (((#[] : Array MapEntry).push ⟨.int .u8 1, .func (.methodOf 66 "eddy/image.stream") #[] #[], 0⟩).push ⟨.int .u8 2, .func (.methodOf 66 "eddy/image.source") #[] #[], 0 + 1⟩) (0 + 1 + 1)) h1
 have b2 := Im.mset_bw (o' := .map (((#[] : Array MapEntry).push ⟨.int .u8 1, .func (.methodOf 66 "eddy/image.stream") #[] #[], 0⟩).push ⟨.int .u8 2, .func (.methodOf 66 "eddy/image.source") #[] #[], 0 + 1⟩) (0 + 1 + 1)) h1 b1 (Nat.le_refl _)
 generalize Im.mset W1 w.heap.size _ = W2 at e2 h2 b2
 have e3 := Im.ins_run (k := 3) (.func (.methodOf 66 "eddy/image.doublet") #[] #[]) h2 rfl
 have h3 := Im.mset_at (o' := .map ((((#[] : Array MapEntry).push ⟨.int .u8 1, .func (.methodOf 66 "eddy/image.stream") #[] #[], 0⟩).push ⟨.int .u8 2, .func (.methodOf 66 "eddy/image.source") #[] #[], 0 + 1⟩).push ⟨.int .u8 3, .func (.methodOf 66 "eddy/image.doublet") #[] #[], 0 + 1 + 1⟩) (0 + 1 + 1 + 1)) h2
 have b3 := Im.mset_bw (o' := .map ((((#[] : Array MapEntry).push ⟨.int .u8 1, .func (.methodOf 66 "eddy/image.stream") #[] #[], 0⟩).push ⟨.int .u8 2, .func (.methodOf 66 "eddy/image.source") #[] #[], 0 + 1⟩).push ⟨.int .u8 3, .func (.methodOf 66 "eddy/image.doublet") #[] #[], 0 + 1 + 1⟩) (0 + 1 + 1 + 1)) h2 b2 (Nat.le_refl _)
 generalize Im.mset W2 w.heap.size _ = W3 at e3 h3 b3
 have e4 := Im.ins_run (k := 4) (.func (.methodOf 66 "eddy/image.corner") #[] #[]) h3 rfl
 have h4 := Im.mset_at (o' := .map Im.KE 4) h3
 have b4 := Im.mset_bw (o' := .map Im.KE 4) h3 b3 (Nat.le_refl _)
 change _ = Result.ok () (Im.mset W3 w.heap.size (.map Im.KE 4)) at e4
 generalize Im.mset W3 w.heap.size _ = W4 at e4 h4 b4
 have FIN : Hid (Im.Mp W4 w.heap.size ∧ Bw w W4) := ⟨⟨h4, (Array.getElem?_eq_some_iff.1 h4).1⟩, b4⟩
 have e0 : (Instr.makeMap 67 none).run Tryz.prog w = .ok (.map (some w.heap.size)) (w.alloc (.map #[] 0)) := by simp [Instr.makeMap, Result.andThen]
 clear h0 h1 h2 h3 h4 b0 b1 b2 b3 b4
 go_enter Tryz.func30, Tryz.ntmps30
 go_wp2
 go_ret
 exact ⟨_, rfl, FIN.out.1, FIN.out.2⟩
end Go.Proofs.YtnjkdfhhlcoaaaaGreat

/-
 OWN TEXT: package image: a flow with all its images behind it (image.reflected), for whatever is done with each element.
-/
namespace Go.Proofs.YtnjkdfhhlcoaaaaGreat
open Go.ChangeShapes Go.WideShapes Go.ChangeAt Go.RowKit
set_option linter.unusedVariables false
set_option linter.unusedSimpArgs false
attribute [local go_sem] frombits_call tobits_call run_neg run_store_cx El.run_store_fl
namespace Im
theorem join {P : Program} {Q : Exit → Act → World → Prop} {id : Nat} {ops : Array Oper} {draw : Bool} {a : Act} {w : World} {K : Act → World → Prop} (A : Nat → Act) (F : Nat → World → Prop)
  (way : ∀ K' : Act → World → Prop, Hid (∀ C W, F C W → K' (A C) W) → (Code.region id ops draw).wp P (Exit.then K' Q) a w) (rest : ∀ C W, F C W → K (A C) W) : (Code.region id ops draw).wp P (Exit.then K Q) a w := way K rest
theorem gb_bw {w w' : World} (h : Bw w w') (r : Option Nat) : w.grownBy w' r := ⟨h.os, h.tape, h.output, h.size, fun k hk _ => h.block k hk⟩
/-- each element's own one, and its images, one behind the other -/
inductive Rl (P : Re → Re → List Re → Prop) : List Re → List Re → List Re → Prop
 | nil : Rl P [] [] []
 | snoc {es os fl l : List Re} {e o : Re} : Rl P es os fl → P e o l → Rl P (es ++ [e]) (os ++ [o]) (fl ++ l)
theorem Rl.none {P : Re → Re → List Re → Prop} {es os fl : List Re} (h : Rl P es os fl) (he : es.length = 0) : os = [] ∧ fl = [] := by
 cases h with
 | nil => exact ⟨rfl, rfl⟩
 | snoc _ _ => simp at he
theorem Rl.one {P : Re → Re → List Re → Prop} {e : Re} {es os fl : List Re} (h : Rl P es os fl) (he : es = [e]) : ∃ o l, os = [o] ∧ fl = l ∧ P e o l := by
 cases h with
 | nil => cases he
 | snoc h1 h2 =>
  rename_i es0 os0 fl0 l e0 o
  have hn : es0.length = 0 := by
   have := congrArg List.length he
   simpa using this
  obtain ⟨rfl, rfl⟩ := h1.none hn
  obtain rfl := List.length_eq_zero_iff.1 hn
  simp at he
  subst he
  exact ⟨o, l, rfl, rfl, h2⟩
theorem Rl.len {P : Re → Re → List Re → Prop} {es os fl : List Re} (h : Rl P es os fl) : os.length = es.length := by
 induction h with
 | nil => rfl
 | snoc _ _ ih => simp [ih]
theorem Rl.sum {P : Re → Re → List Re → Prop} {f : Re → Nat} (hf : ∀ e o l, P e o l → l.length = f e) {es os fl : List Re} (h : Rl P es os fl) : fl.length = (es.map f).sum := by
 induction h with
 | nil => rfl
 | snoc _ k ih => simp [ih, hf _ _ _ k]
theorem Rl.all {P : Re → Re → List Re → Prop} {Q : Re → Prop} (hf : ∀ e o l, P e o l → Q o ∧ ∀ x ∈ l, Q x) {es os fl : List Re} (h : Rl P es os fl) : ∀ x ∈ os ++ fl, Q x := by
 induction h with
 | nil => intro x hx; simp at hx
 | snoc _ k ih =>
  intro x hx
  obtain ⟨k1, k2⟩ := hf _ _ _ k
  simp only [List.mem_append, List.mem_singleton] at hx
  rcases hx with (hx | rfl) | (hx | hx)
  · exact ih x (by simp [hx])
  · exact k1
  · exact ih x (by simp [hx])
  · exact k2 x hx
/-- images as a call hands them out -/
def Ih (w0 w : World) (a : Option Addr) (c : Nat) (l : List Re) : Prop := (l = [] ∧ a = none ∧ c = 0) ∨ ∃ b, a = some ⟨b, 0, none⟩ ∧ w0.heap.size ≤ b ∧ b < w.heap.size ∧ ∀ j u, (rcs l)[j]? = some u → w.cell? ⟨b, j, none⟩ = some u
theorem one_cell {es : List Re} : ∀ u ∈ rcs es, u.oneCell' = true := by
 intro u hu
 simp only [rcs, List.mem_flatMap, rc] at hu
 obtain ⟨e, _, hu⟩ := hu
 simp only [List.mem_cons, List.not_mem_nil, or_false] at hu
 rcases hu with rfl | rfl | rfl | rfl <;> rfl
theorem info_e : (Tryz.prog.info? 28).map (fun i => (i.zero.map Value.cells, i.size, i.bytes)) = some (some #[.int .u8 0, .complex .f64 0 0, .complex .f64 0 0, .float .f64 0], 4, 48) := by kernel_rfl
theorem und_e : Tryz.prog.underlying 23 = some (.slice 28) := by kernel_rfl
/-- elements behind elements -/
theorem appI {w w0 wc : World} {base n c : Nat} {v : Value} {es l : List Re} {a : Option Addr} (ty : TypeId) (ho : w.ownsRow base 28 4 v n (rcs es)) (hI : (l = [] ∧ a = none ∧ c = 0) ∨ ∃ b, a = some ⟨b, 0, none⟩ ∧ ∀ j u, (rcs l)[j]? = some u → w.cell? ⟨b, j, none⟩ = some u) (hn : n + l.length ≤ 100000) (hb : base ≤ w.heap.size) :
  ∃ v' w', (Builtin.append_ #[23, 23] ty #[v, .slice a l.length c]).run Tryz.prog w = .ok v' w' ∧ w'.ownsRow base 28 4 v' (n + l.length) (rcs (es ++ l)) ∧ w.grownBy w' v.ownBlock ∧ (v'.ownBlock = v.ownBlock ∨ v'.ownBlock = some w.heap.size) := by
 obtain ⟨i0, hi0, hz⟩ := Option.map_eq_some_iff.1 info_e
 simp only [Prod.mk.injEq] at hz
 obtain ⟨z, hz0, hzc⟩ := Option.map_eq_some_iff.1 hz.1
 rcases hI with ⟨rfl, rfl, rfl⟩ | ⟨b, rfl, hc⟩
 · exact ⟨v, w, run_append_owned_none (P := Tryz.prog) (w := w) base 23 ty 28 i0 4 und_e hi0 v n (rcs es) ho, by simpa using ho, World.grownBy.refl _ _, Or.inl rfl⟩
 ·
  obtain ⟨v', w', k1, k2, k3, _, k5⟩ := run_append_own_at (P := Tryz.prog) w base 23 ty 28 i0 z 4 48 und_e hi0 hz0 hz.2.1 hz.2.2 (by rw [hzc]; rfl) (by decide) v n (rcs es) ho ⟨b, 0, none⟩ l.length c (rcs l) (rcs_len l)
   (fun j u hu => by
    rw [show (⟨b, 0, none⟩ : Addr).add j = ⟨b, j, none⟩ by cases j <;> simp [Addr.add]]
    exact hc j u hu) one_cell (by unfold maxLen; omega) (by omega) hb
  rw [← rcs_app] at k2
  exact ⟨v', w', k1, k2, k3, k5⟩
/-- what is done with an element -/
def Me (bt : TypeId) (bv : Value) (P : Re → Re → List Re → Prop) (e : Re) : Prop := ∃ nm F i, Instr.findNow (.int .u8) (.int .u8 e.k) KE.toList 0 = some (some (i, .func (.methodOf 66 nm) #[] #[])) ∧ (∀ w, (method 242 bt bv nm).run Tryz.prog w = .ok (F, bv) w) ∧ (∀ x y w, (callFunc F #[x, y]).run Tryz.prog w = .ok (.enter F #[x, y]) w) ∧
 ∀ w, Calls Tryz.prog F #[bv, .agg #[.int .u8 e.k, .complex .f64 e.a e.b, .complex .f64 e.s e.t, .float .f64 e.p]] w fun r w' => ∃ o l a c, r = .returned (.tuple #[.agg #[.int .u8 o.k, .complex .f64 o.a o.b, .complex .f64 o.s o.t, .float .f64 o.p, .slice a l.length c], .bool true]) ∧ P e o l ∧ Ih w w' a c l ∧ Bw w w'
theorem own_form {w : World} {base n : Nat} {e : TypeId} {v : Value} {xs : List Value} (h : w.ownsRow base e 4 v n xs) : ∃ p k, v = .slice p n k := by
 rcases h.2 with ⟨e, z⟩ | ⟨g, cap, _, e, _⟩
 · exact ⟨_, _, by rw [e, z]⟩
 · exact ⟨_, _, e⟩
theorem ne_row {u v : Value} (h : ∀ x, u.ownBlock = some x → v.ownBlock ≠ some x) : v.ownBlock = none ∨ v.ownBlock ≠ u.ownBlock := by
 cases hi : v.ownBlock with
 | none => exact Or.inl rfl
 | some x => exact Or.inr fun e => h x e.symm hi
theorem ownI {w : World} {base n : Nat} {v : Value} {l : List Re} (h : w.ownsRow base 28 4 v n (rcs l)) (hn : l.length = n) : ∃ a c, v = .slice a l.length c ∧ ((l = [] ∧ a = none ∧ c = 0) ∨ ∃ b, a = some ⟨b, 0, none⟩ ∧ ∀ j u, (rcs l)[j]? = some u → w.cell? ⟨b, j, none⟩ = some u) ∧ ∀ b o s, a = some ⟨b, o, s⟩ → base ≤ b := by
 subst hn
 rcases Nat.eq_zero_or_pos l.length with q | q
 ·
  have ql := List.length_eq_zero_iff.1 q
  rcases h.2 with ⟨e, z⟩ | ⟨g, cap, _, e, _⟩
  · exact ⟨none, 0, by rw [e, z], Or.inl ⟨ql, rfl, rfl⟩, fun b o s h => by cases h⟩
  ·
   refine ⟨_, cap, e, Or.inr ⟨g, rfl, fun j u hu => by rw [ql] at hu; simp [rcs] at hu⟩, fun b o s hb => ?_⟩
   cases hb
   exact (h.lt _ (by rw [e]; rfl)).1
 ·
  obtain ⟨g, cap, e, hb, hlt⟩ := h.form q
  subst e
  refine ⟨_, cap, rfl, Or.inr ⟨g, rfl, fun j u hu => ?_⟩, fun b o s hb2 => by cases hb2; exact hb⟩
  have hj : j < (rcs l).length := by
   rcases Nat.lt_or_ge j (rcs l).length with r | r
   · exact r
   · rw [List.getElem?_eq_none r] at hu; cases hu
  rw [rcs_len] at hj
  exact (h.cellAt j hj).trans hu
theorem Rs.set {w : World} {B i : Nat} {v : Value} {a : Option Addr} {es : List Re} (h : Rs w a es) (hne : ∀ b o s, a = some ⟨b, o, s⟩ → B ≠ b) : Rs (w.setCell ⟨B, i, none⟩ v) a es := by
 rcases h with h | ⟨b, o, e, hb, h⟩
 · exact Or.inl h
 ·
  refine Or.inr ⟨b, o, e, by simpa [World.setCell] using hb, fun j x hx => ?_⟩
  have q := hne _ _ _ e
  rw [Ff.set_blk q, Ff.set_blk q, Ff.set_blk q, Ff.set_blk q]
  exact h j x hx
/-- behind k elements -/
structure Lp (P : Re → Re → List Re → Prop) (W wr : World) (es os fl : List Re) (vO vI : Value) : Prop where
 rl : Rl P es os fl
 ro : wr.ownsRow W.heap.size 28 4 vO es.length (rcs os)
 ri : wr.ownsRow W.heap.size 28 4 vI fl.length (rcs fl)
 ne : ∀ x, vO.ownBlock = some x → vI.ownBlock ≠ some x
 bw : Bw W wr
 fl : fl.length ≤ 2 * es.length
theorem Lp.grow {P : Re → Re → List Re → Prop} {W wr wr' : World} {es os fl : List Re} {vO vI : Value} (h : Lp P W wr es os fl vO vI) (g : Bw wr wr') : Lp P W wr' es os fl vO vI :=
 ⟨h.rl, h.ro.kept (gb_bw g none) (by cases vO.ownBlock <;> simp), h.ri.kept (gb_bw g none) (by cases vI.ownBlock <;> simp), h.ne, bw_trans h.bw g, h.fl⟩
end Im
set_option maxHeartbeats 16000000 in
set_option maxRecDepth 20000 in
theorem reflectedI {w : World} {a : Option Addr} {cap n : Nat} {es : List Im.Re} {bt : TypeId} {bv : Value} {P : Im.Re → Im.Re → List Im.Re → Prop} {E : Int} (hn : es.length = n) (hm : n ≤ 256) (hl : ∀ e o l, P e o l → l.length ≤ 2) (hE : Im.Rs w a es) (H : ∀ e ∈ es, Im.Me bt bv P e)
  (hA : ∀ os fl, Im.Rl P es os fl → (E = 0 ∧ n + fl.length ≤ 256 ∧ ∀ x ∈ os ++ fl, Im.Ck x) ∨ (E = 4 ∧ 256 < n + fl.length)) :
  Calls Tryz.prog 15 #[.agg #[.slice a n cap], .iface bt bv] w fun e w' => ∃ a' m c' os fl, e = .returned (.tuple #[.agg #[.slice a' m c'], .int .i64 E]) ∧ Im.Rl P es os fl ∧ (E = 0 → m = n + fl.length ∧ Im.Rs w' a' (os ++ fl) ∧ ∀ b o s, a' = some ⟨b, o, s⟩ → w.heap.size ≤ b) ∧ (E ≠ 0 → m = 0) ∧ Bw w w' := by
 have bA := bw_alloc w (.cells #[.slice a n cap] 30)
 have c0 : (w.alloc (.cells #[.slice a n cap] 30)).cell? ⟨w.heap.size, 0, none⟩ = some (.slice a n cap) := by simp
 have hs1 : (w.alloc (.cells #[.slice a n cap] 30)).heap.size = w.heap.size + 1 := by simp
 obtain ⟨W1, hW1⟩ : ∃ v, v = w.alloc (.cells #[.slice a n cap] 30) := ⟨_, rfl⟩
 rw [← hW1] at bA c0 hs1
 have b2 := bw_alloc W1 (.cells #[.slice none 0 0] 30)
 have r0 : (W1.alloc (.cells #[.slice none 0 0] 30)).cell? ⟨W1.heap.size, 0, none⟩ = some (.slice none 0 0) := by simp
 have rz := Im.fz_new W1 #[.slice none 0 0] 30 0
 have hs2 : (W1.alloc (.cells #[.slice none 0 0] 30)).heap.size = W1.heap.size + 1 := by simp
 obtain ⟨W2, hW2⟩ : ∃ v, v = W1.alloc (.cells #[.slice none 0 0] 30) := ⟨_, rfl⟩
 rw [← hW2] at b2 r0 rz hs2
 have bW := hide (bw_trans bA b2)
 have SF := hide (fun wz (hb : Bw W2 wz) => (show wz.cell? ⟨w.heap.size, 0, none⟩ = some (.slice a n cap) ∧ wz.cell? ⟨W1.heap.size, 0, none⟩ = some (.slice none 0 0) ∧ wz.frozen? ⟨W1.heap.size, 0, none⟩ = false from by
  have h1 : w.heap.size < W1.heap.size := by omega
  have h2 : W1.heap.size < W2.heap.size := by omega
  exact ⟨(Below.cell (bw_trans b2 hb) (p := ⟨w.heap.size, 0, none⟩) h1).trans c0, (Below.cell hb (p := ⟨W1.heap.size, 0, none⟩) h2).trans r0, (Below.frozen hb (p := ⟨W1.heap.size, 0, none⟩) h2).trans rz⟩))
 have HE := hide hE
 have HH := hide H
 have HN := hide hn
 have HA := hide hA
 have HLL := hide hl
 have SZ := hide (And.intro hs1 hs2)
 have HW1 := hide hW1
 have HW2 := hide hW2
 have S1' := hide hs1
 clear bA c0 hs1 b2 r0 rz hs2 hE H hn hW1 hW2 hA hl
 go_enter Tryz.func15, Tryz.ntmps15
 go_wp2_with fail
 rw [← HW1.out, ← HW2.out]
 refine (kinds_c _).mono ?_
 rintro e' W3 ⟨M, rfl, hM, b3⟩
 have HM := hide hM
 have B3 := hide b3
 obtain ⟨s0, s1, s2⟩ := SF.out W3 b3
 clear hM b3
 go_wp2_with fail
 have L0 : Hid (Im.Lp P W3 W3 [] [] [] (.slice none 0 0) (.slice none 0 0)) := ⟨.nil, World.ownsRow_nil _ _ _ _, World.ownsRow_nil _ _ _ _, (fun x e => by cases e), Bw.refl _, Nat.le_refl _⟩
 --CUTa
 go_loopw [6, 7, 17] (fun vO vI i wr => ∃ (k : Nat) (os fl : List Im.Re), k ≤ n ∧ i = .int .i64 k ∧ Hid (Im.Lp P W3 wr (es.take k) os fl vO vI)) (fun _ _ i _ => n - (intOf i).toNat)
 case atStart => exact ⟨0, [], [], Nat.zero_le _, rfl, L0⟩
 case round =>
  obtain ⟨k, os, fl, hk, rfl, LP⟩ := hrel
  clear L0
  have hkl : (es.take k).length = k := by rw [List.length_take]; have := HN.out; omega
  have HKL := hide hkl
  clear hkl
  by_cases hk1 : k < n
  ·
   have hk2 : (k : Int) < n := by omega
   obtain ⟨e, he⟩ : ∃ e, es[k]? = some e := ⟨es[k]'(by have := HN.out; omega), by simp [show k < es.length by have := HN.out; omega]⟩
   obtain ⟨nm, F, i0, hf, hme, hcf, hcall⟩ := HH.out e (List.mem_of_getElem? he)
   obtain ⟨b, o0, rfl, _, hcell⟩ := (HE.out.bw (bw_trans bW.out (bw_trans B3.out LP.out.bw))).resolve_left (by have := HN.out; omega)
   obtain ⟨e0, e1, e2, e3⟩ := hcell k e he
   have hts : es.take (k + 1) = es.take k ++ [e] := by rw [List.take_add_one, he]; rfl
   have HTS := hide hts
   obtain ⟨U1, hU1⟩ : ∃ U, U = wr.alloc (.cells #[.int .u8 e.k, .complex .f64 e.a e.b, .complex .f64 e.s e.t, .float .f64 e.p] 28) := ⟨_, rfl⟩
   have bU := bw_alloc wr (.cells #[.int .u8 e.k, .complex .f64 e.a e.b, .complex .f64 e.s e.t, .float .f64 e.p] 28)
   have lk := Im.look_run (HM.out.bw (bw_trans LP.out.bw bU)).1 hf
   have CA := hide (hcall (wr.alloc (.cells #[.int .u8 e.k, .complex .f64 e.a e.b, .complex .f64 e.s e.t, .float .f64 e.p] 28)))
   have LP1 := hide (LP.out.grow bU)
   have ro := LP.out.ro
   rw [HKL.out] at ro
   obtain ⟨po, ko, rfl⟩ := Im.own_form ro
   obtain ⟨pi, ki, rfl⟩ := Im.own_form LP.out.ri
   clear ro hcell hf hcall hU1 bU he hts LP
   go_wp2_with fail
   --CUTb
   refine CA.out.mono ?_
   rintro e' w5 ⟨o, l, a', c', rfl, hP, hI, b5⟩
   have LP2 := hide (LP1.out.grow b5)
   have hl2 := HLL.out _ _ _ hP
   have HP := hide (And.intro hP hl2)
   have HI := hide hI
   have B5 := hide b5
   obtain ⟨U2, hU2⟩ : ∃ U, w5.alloc (.cells #[.int .u8 o.k, .complex .f64 o.a o.b, .complex .f64 o.s o.t, .float .f64 o.p, .slice a' l.length c'] 70) = U := ⟨_, rfl⟩
   have bU2 := bw_alloc w5 (.cells #[.int .u8 o.k, .complex .f64 o.a o.b, .complex .f64 o.s o.t, .float .f64 o.p, .slice a' l.length c'] 70)
   have y0 : (w5.alloc (.cells #[.int .u8 o.k, .complex .f64 o.a o.b, .complex .f64 o.s o.t, .float .f64 o.p, .slice a' l.length c'] 70)).cell? ⟨w5.heap.size, 0, none⟩ = some (.int .u8 o.k) ∧ (w5.alloc (.cells #[.int .u8 o.k, .complex .f64 o.a o.b, .complex .f64 o.s o.t, .float .f64 o.p, .slice a' l.length c'] 70)).cell? ⟨w5.heap.size, 1, none⟩ = some (.complex .f64 o.a o.b) ∧ (w5.alloc (.cells #[.int .u8 o.k, .complex .f64 o.a o.b, .complex .f64 o.s o.t, .float .f64 o.p, .slice a' l.length c'] 70)).cell? ⟨w5.heap.size, 2, none⟩ = some (.complex .f64 o.s o.t) ∧ (w5.alloc (.cells #[.int .u8 o.k, .complex .f64 o.a o.b, .complex .f64 o.s o.t, .float .f64 o.p, .slice a' l.length c'] 70)).cell? ⟨w5.heap.size, 3, none⟩ = some (.float .f64 o.p) := ⟨by simp, by simp, by simp, by simp⟩
   have y4 : (w5.alloc (.cells #[.int .u8 o.k, .complex .f64 o.a o.b, .complex .f64 o.s o.t, .float .f64 o.p, .slice a' l.length c'] 70)).cell? ⟨w5.heap.size, 4, none⟩ = some (.slice a' l.length c') := by simp
   have yz : w5.heap.size < (w5.alloc (.cells #[.int .u8 o.k, .complex .f64 o.a o.b, .complex .f64 o.s o.t, .float .f64 o.p, .slice a' l.length c'] 70)).heap.size := by simp
   rw [hU2] at bU2 y0 y4 yz
   obtain ⟨y0, y1, y2, y3⟩ := y0
   have bU3 := bw_alloc U2 (.cells #[.int .u8 o.k, .complex .f64 o.a o.b, .complex .f64 o.s o.t, .float .f64 o.p] 28)
   have sU3 : U2.heap.size < (U2.alloc (.cells #[.int .u8 o.k, .complex .f64 o.a o.b, .complex .f64 o.s o.t, .float .f64 o.p] 28)).heap.size := by simp
   have cU3 : ∀ j u, (Im.rcs [o])[j]? = some u → (U2.alloc (.cells #[.int .u8 o.k, .complex .f64 o.a o.b, .complex .f64 o.s o.t, .float .f64 o.p] 28)).cell? ⟨U2.heap.size, j, none⟩ = some u := by
    intro j u hu
    match j, hu with
    | 0, hu => cases hu; simp
    | 1, hu => cases hu; simp
    | 2, hu => cases hu; simp
    | 3, hu => cases hu; simp
   have L3 := LP2.out.grow (bw_trans bU2 bU3)
   have L3' := hide L3
   obtain ⟨v1, V1, f1, o1, g1, q1⟩ := Im.appI (l := [o]) (a := some ⟨U2.heap.size, 0, none⟩) (c := 1) (w0 := w) (wc := w) (n := k) 23 (by have h := L3.ro; rw [HKL.out] at h; exact h) (Or.inr ⟨_, rfl, cU3⟩) (by simp; omega) (by have := L3.bw.size; omega)
   have x4 := g1.cell ((Below.cell bU3 (p := ⟨w5.heap.size, 4, none⟩) yz).trans y4) (fun e => by have h := (LP2.out.ro.lt _ e.symm).2; exact absurd h (by show ¬ w5.heap.size < w5.heap.size; omega))
   have hI2 : (l = [] ∧ a' = none ∧ c' = 0) ∨ ∃ b, a' = some ⟨b, 0, none⟩ ∧ ∀ j u, (Im.rcs l)[j]? = some u → V1.cell? ⟨b, j, none⟩ = some u := by
    rcases hI with h | ⟨b, h1, h2, h3, h4⟩
    · exact Or.inl h
    ·
     refine Or.inr ⟨b, h1, fun j u hu => g1.cell ((Below.cell (bw_trans bU2 bU3) (p := ⟨b, j, none⟩) h3).trans (h4 j u hu)) (fun e => ?_)⟩
     have h := (LP1.out.ro.lt _ e.symm).2
     exact absurd h (by show ¬ b < _; omega)
   have ri1 : V1.ownsRow W3.heap.size 28 4 (.slice pi fl.length ki) fl.length (Im.rcs fl) := L3.ri.kept g1 (Im.ne_row L3.ne)
   have bV1 : Bw W3 V1 := Below.grown L3.bw g1 L3.bw.size (fun x e => (L3.ro.lt x e).1)
   obtain ⟨v2, V2, f2, o2, g2, q2⟩ := Im.appI (l := l) (a := a') (c := c') (w0 := w) (wc := w) 23 ri1 hI2 (by have := L3.fl; have := HKL.out; omega) bV1.size
   have n1 : ∀ x, (Value.slice pi fl.length ki).ownBlock = some x → v1.ownBlock ≠ some x := fun x e e' => by
    rcases q1 with q | q
    · rw [q] at e'; exact L3.ne x e' e
    · rw [q] at e'; cases e'; exact absurd (L3.ri.lt _ e).2 (Nat.lt_irrefl _)
   have R : Hid (Im.Lp P W3 V2 (es.take (k + 1)) (os ++ [o]) (fl ++ l) v1 v2) := by
    rw [HTS.out]
    refine ⟨.snoc L3.rl hP, ?_, ?_, fun x e e' => ?_, Below.grown bV1 g2 bV1.size (fun x e => (L3.ri.lt x e).1), ?_⟩
    · rw [List.length_append, HKL.out]; exact o1.kept g2 (Im.ne_row n1)
    · rw [List.length_append]; exact o2
    ·
     rcases q2 with q | q
     · rw [q] at e'; exact n1 x e' e
     · rw [q] at e'; cases e'; exact absurd (o1.lt _ e).2 (Nat.lt_irrefl _)
    ·
     have := L3.fl
     simp only [List.length_append, List.length_singleton]
     omega
   have E2 := hide f2
   change (Builtin.append_ _ _ #[_, .slice _ 1 1]).run _ _ = _ at f1
   have E1 := hide f1
   clear f1 f2 o1 g1 q1 o2 g2 q2 n1 bV1 ri1 hI2 L3 L3' cU3 sU3 bU3 yz bU2 hI hP hl2 b5 LP1 LP2
   go_wp2_with (first
    | (at_builtin; refine ff_append rfl _ _ 23 rfl _ _ _ rfl rfl _ E1.out ?_)
    | (at_builtin; refine ff_append rfl _ _ 23 rfl _ _ _ rfl rfl _ E2.out ?_)
    | go_in)
   clear E1 E2
   go_wp2
   go_roundw
   case rel => exact ⟨k + 1, os ++ [o], fl ++ l, by omega, by simp, R⟩
   case measure => simp [intOf]; omega
  ·
   have hk3 : k = n := by omega
   subst hk3
   have hte : es.take k = es := List.take_of_length_le (by have := HN.out; omega)
   rw [hte] at LP
   have L := LP.out
   have ro := L.ro
   rw [HN.out] at ro
   obtain ⟨po, ko, rfl⟩ := Im.own_form ro
   obtain ⟨pi, ki, rfl, hI, _⟩ := Im.ownI L.ri rfl
   obtain ⟨v3, V3, f3, o3, g3, q3⟩ := Im.appI (l := fl) (a := pi) (c := ki) (w0 := w) (wc := w) 23 ro hI (by have := L.fl; have := HN.out; omega) L.bw.size
   have bV3 : Bw W3 V3 := Below.grown L.bw g3 L.bw.size (fun x e => (L.ro.lt x e).1)
   obtain ⟨a3, c3, rfl, hR⟩ := Im.own_rs o3 (by have := HN.out; simp [L.rl.len]; omega)
   have hfar : ∀ b o s, a3 = some ⟨b, o, s⟩ → W3.heap.size ≤ b := fun b o s e => (o3.lt b (by rw [e]; rfl)).1
   have AN : Hid (Calls Tryz.prog 31 #[.slice a3 (k + fl.length) c3] V3 fun r w' => ∃ a' m c', r = .returned (.tuple #[.agg #[.slice a' m c'], .int .i64 E]) ∧ (E = 0 → m = k + fl.length ∧ Im.Rs w' a' (os ++ fl) ∧ ∀ b o s, a' = some ⟨b, o, s⟩ → W3.heap.size ≤ b) ∧ (E ≠ 0 → m = 0) ∧ Bw V3 w') := by
    have hn2 := HN.out
    rcases HA.out os fl L.rl with ⟨rfl, h1, h2⟩ | ⟨rfl, h1⟩
    · exact (answeredI (by simp [L.rl.len]; omega) (by omega) hR h2).mono fun r w' ⟨e, b⟩ => ⟨_, _, _, e, fun _ => ⟨by omega, hR.bw b, hfar⟩, fun h => absurd rfl h, b⟩
    · exact (answered_many (by omega)).mono fun r w' ⟨e, b⟩ => ⟨_, _, _, e, fun h => absurd h (by decide), fun _ => rfl, b⟩
   have RL := hide L.rl
   have BV := hide bV3
   have E3 := hide f3
   clear ro f3 o3 g3 q3 bV3 hR hfar L LP hI
   go_wp2_with (first
    | (at_builtin; refine ff_append rfl _ _ 23 rfl _ _ _ rfl rfl _ E3.out ?_)
    | fail)
   refine AN.out.mono ?_
   rintro e' w9 ⟨a', m, c', rfl, h1, h2, b9⟩
   have H12 := hide (And.intro h1 h2)
   have b39 := bw_trans B3.out (bw_trans BV.out b9)
   obtain ⟨s0, s1, s2⟩ := SF.out w9 b39
   have FIN : Hid (∀ V, V = w9.setCell ⟨W1.heap.size, 0, none⟩ (.slice a' m c') → V.cell? ⟨W1.heap.size, 0, none⟩ = some (.slice a' m c') ∧ Bw w V ∧ (E = 0 → Im.Rs V a' (os ++ fl))) := by
    rintro V rfl
    have z1 := SZ.out.1
    have z2 := SZ.out.2
    have z3 := B3.out.size
    refine ⟨Ff.set_any s1, Below.setCell (bw_trans bW.out b39) (by show w.heap.size ≤ W1.heap.size; omega) _, fun h => (h1 h).2.1.set fun b o s e => ?_⟩
    have := (h1 h).2.2 b o s e
    omega
   clear h1 h2 b9 b39 AN E3
   rw [S1'.out] at FIN s1 s2
   go_wp2
   obtain ⟨f0, f2, f4⟩ := FIN.out _ rfl
   refine bodyPost_ret (Im.res_flow rfl _ _ (w.heap.size + 1) rfl f0) rfl ?_
   exact ⟨a', m, c', os, fl, rfl, RL.out, fun h => ⟨(H12.out.1 h).1, f4 h, fun b o s e => by have h1 := (H12.out.1 h).2.2 b o s e; have h2 := B3.out.size; have h3 := bW.out.size; omega⟩, H12.out.2, f2⟩
end Go.Proofs.YtnjkdfhhlcoaaaaGreat

