/-
 OWN TEXT: package flow over whole complex numbers: elements of three kinds; the common bottom of their speeds.
-/
import Derived.Test.YtjpllggchjgjpaaGreatJFfDToFfF
import Derived.Test.YtjpllggchjgjpaaGreatJElJ
namespace Go.Proofs.YtjpllggchjgjpaaGreat
open Go.ChangeShapes Go.WideShapes Go.ChangeAt Go.RowKit
set_option linter.unusedVariables false
set_option linter.unusedSimpArgs false
attribute [local go_sem] frombits_call tobits_call run_neg run_store_cx
namespace Ff
/-- a stream, a doublet, a corner: of whole places, strengths, powers -/
structure Fe where
 k : Int
 a : Nat
 b : Nat
 s : Nat
 t : Nat
 n : Nat
 at_ : Py.G
 st : Py.G
structure Fe.ok (c : Nat) (e : Fe) : Prop where
 pa : El.wP e.a e.at_.1 ∧ El.wP e.b e.at_.2
 ps : El.wP e.s e.st.1 ∧ El.wP e.t e.st.2
 wa : wC c e.a e.b e.at_
 ws : wC c e.s e.t e.st
 la : e.at_.1.natAbs ≤ 4 ∧ e.at_.2.natAbs ≤ 4
 ls : e.st.1.natAbs ≤ 8 ∧ e.st.2.natAbs ≤ 8
 kd : (e.k = 1 ∧ e.a = 0 ∧ e.b = 0 ∧ e.n = 0 ∧ e.at_ = (0, 0)) ∨ (e.k = 3 ∧ 1 ≤ e.n ∧ e.n ≤ 2) ∨ (e.k = 4 ∧ 1 ≤ e.n ∧ e.n ≤ 3)
theorem Fe.ok.n3 {c : Nat} {e : Fe} (h : e.ok c) : e.n ≤ 3 := by rcases h.kd with h | h | h <;> omega
theorem le_natAbs {g : Py.G} {K M : Nat} (h : g.1.natAbs ≤ K ∧ g.2.natAbs ≤ K) (hM : 2 * (K * K) ≤ M * M) : Py.Le g M := by
 unfold Py.Le
 have q : ∀ x : Int, x.natAbs ≤ K → x * x ≤ (K : Int) * K := fun x hx => by
  have := Nat.mul_le_mul hx hx
  rw [← Int.natAbs_mul_self' (a := x)]
  exact_mod_cast this
 have h1 := q g.1 h.1
 have h2 := q g.2 h.2
 have h3 : ((2 * (K * K) : Nat) : Int) ≤ ((M * M : Nat) : Int) := by exact_mod_cast hM
 push_cast at h3
 omega
theorem Fe.ok.lat {c : Nat} {e : Fe} (h : e.ok c) : Py.Le e.at_ 6 := le_natAbs h.la (by decide)
theorem Fe.ok.lst {c : Nat} {e : Fe} (h : e.ok c) : Py.Le e.st 12 := le_natAbs h.ls (by decide)
def Fe.val (e : Fe) : Value := El.E e.k e.a e.b e.s e.t (pw e.n)
/-- a slice of elements -/
def Es (w : World) (a : Option Addr) (es : List Fe) : Prop := es.length = 0 ∨ ∃ b o, a = some ⟨b, o, none⟩ ∧ b < w.heap.size ∧ ∀ (i : Nat) (e : Fe), es[i]? = some e →
 w.cell? ⟨b, o + i * 4, none⟩ = some (.int .u8 e.k) ∧ w.cell? ⟨b, o + i * 4 + 1, none⟩ = some (.complex .f64 e.a e.b) ∧ w.cell? ⟨b, o + i * 4 + 2, none⟩ = some (.complex .f64 e.s e.t) ∧ w.cell? ⟨b, o + i * 4 + 3, none⟩ = some (.float .f64 (pw e.n))
theorem Es.bw {w w' : World} {a : Option Addr} {es : List Fe} (h : Es w a es) (k : Bw w w') : Es w' a es := by
 rcases h with h | ⟨b, o, e, hb, h⟩
 · exact Or.inl h
 ·
  refine Or.inr ⟨b, o, e, Nat.lt_of_lt_of_le hb k.size, fun i e he => ?_⟩
  obtain ⟨h0, h1, h2, h3⟩ := h i e he
  exact ⟨(Below.cell k (p := ⟨b, o + i * 4, none⟩) hb).trans h0, (Below.cell k (p := ⟨b, o + i * 4 + 1, none⟩) hb).trans h1, (Below.cell k (p := ⟨b, o + i * 4 + 2, none⟩) hb).trans h2, (Below.cell k (p := ⟨b, o + i * 4 + 3, none⟩) hb).trans h3⟩
/-- the places of the doublets, each with its greatest fold -/
def cst (cs : List (Py.G × Nat)) (e : Fe) : List (Py.G × Nat) := if e.k = 3 then tk cs e.at_ (e.n + 1) else cs
def cm (es : List Fe) : List (Py.G × Nat) := es.foldl cst []
theorem cm_succ {es : List Fe} {i : Nat} {e : Fe} (h : es[i]? = some e) : cm (es.take (i + 1)) = cst (cm (es.take i)) e := by
 unfold cm
 rw [List.take_add_one, h, List.foldl_append]
 rfl
theorem tk_all {P : Py.G × Nat → Prop} (hP : ∀ g f m, P (g, f) → P (g, m) → P (g, max f m)) : ∀ (cs : List (Py.G × Nat)) (z : Py.G) (n : Nat), (∀ p ∈ cs, P p) → P (z, n) → ∀ p ∈ tk cs z n, P p
 | [], z, n, _, h, p, hp => by simp only [tk, List.mem_singleton] at hp; rw [hp]; exact h
 | (g, f) :: r, z, n, hc, h, p, hp => by
  simp only [tk] at hp
  split at hp
  ·
   rename_i e
   subst e
   rcases List.mem_cons.1 hp with rfl | hp
   · exact hP _ _ _ (hc _ (by simp)) h
   · exact hc p (by simp [hp])
  ·
   rcases List.mem_cons.1 hp with rfl | hp
   · exact hc _ (by simp)
   · exact tk_all hP r z n (fun q hq => hc q (by simp [hq])) h p hp
theorem tk_len : ∀ (cs : List (Py.G × Nat)) (z : Py.G) (n : Nat), (tk cs z n).length ≤ cs.length + 1
 | [], z, n => by simp [tk]
 | (g, f) :: r, z, n => by
  simp only [tk]
  split
  · simp
  · simp only [List.length_cons]; have := tk_len r z n; omega
theorem cm_all {c : Nat} {es : List Fe} (h : ∀ e ∈ es, e.ok c) : (cm es).length ≤ es.length ∧ ∀ p ∈ cm es, (p.1.1.natAbs ≤ 4 ∧ p.1.2.natAbs ≤ 4) ∧ p.2 ≤ 3 := by
 unfold cm
 suffices H : ∀ (es : List Fe) (cs : List (Py.G × Nat)), (∀ e ∈ es, e.ok c) → (∀ p ∈ cs, (p.1.1.natAbs ≤ 4 ∧ p.1.2.natAbs ≤ 4) ∧ p.2 ≤ 3) → (es.foldl cst cs).length ≤ cs.length + es.length ∧ ∀ p ∈ es.foldl cst cs, (p.1.1.natAbs ≤ 4 ∧ p.1.2.natAbs ≤ 4) ∧ p.2 ≤ 3 by
  have := H es [] h (by simp)
  simpa using this
 intro es
 induction es with
 | nil => intro cs _ h; exact ⟨by simp, h⟩
 | cons e es ih =>
  intro cs he hc
  have h0 := he e (by simp)
  have h1 : (cst cs e).length ≤ cs.length + 1 ∧ ∀ p ∈ cst cs e, (p.1.1.natAbs ≤ 4 ∧ p.1.2.natAbs ≤ 4) ∧ p.2 ≤ 3 := by
   unfold cst
   split
   ·
    rename_i hk
    refine ⟨tk_len _ _ _, tk_all (P := fun p => (p.1.1.natAbs ≤ 4 ∧ p.1.2.natAbs ≤ 4) ∧ p.2 ≤ 3) (fun g f m h1 h2 => ⟨h1.1, by have := h1.2; have := h2.2; omega⟩) cs _ _ hc ⟨h0.la, ?_⟩⟩
    rcases h0.kd with h | h | h
    · omega
    · omega
    · omega
   · exact ⟨by omega, hc⟩
  have h2 := ih (cst cs e) (fun x hx => he x (by simp [hx])) h1.2
  refine ⟨?_, h2.2⟩
  have := h2.1
  simp only [List.foldl_cons, List.length_cons]
  omega
theorem rl_len : ∀ (cs : List (Py.G × Nat)) (M : Nat), (∀ p ∈ cs, p.2 ≤ M) → (rl cs).length ≤ cs.length * M
 | [], M, _ => by simp [rl]
 | (g, f) :: r, M, h => by
  have h1 := h (g, f) (by simp)
  have h2 := rl_len r M (fun p hp => h p (by simp [hp]))
  have : rl ((g, f) :: r) = List.replicate f g ++ rl r := by simp [rl]
  rw [this, List.length_append, List.length_replicate, List.length_cons, Nat.succ_mul]
  have h1' : f ≤ M := h1
  omega
theorem rl_co {cs : List (Py.G × Nat)} (h : ∀ p ∈ cs, (p.1.1.natAbs ≤ 4 ∧ p.1.2.natAbs ≤ 4) ∧ p.2 ≤ 3) (i : Nat) : Py.Le (Py.co (rl cs) i) 6 := by
 rcases Nat.lt_or_ge i (rl cs).length with hi | hi
 ·
  have e : Py.co (rl cs) i = (rl cs)[i] := by simp [Py.co, List.getD, hi]
  rw [e]
  have hm := List.getElem_mem hi
  unfold rl at hm
  obtain ⟨p, hp, hq⟩ := List.mem_flatMap.1 hm
  have := List.eq_of_mem_replicate hq
  unfold rl
  rw [this]
  exact le_natAbs (h p hp).1 (by decide)
 · rw [Py.co_out hi]; exact Py.Le.nought _
theorem Cm.bw {c : Nat} {w w' : World} {base B : Nat} {cs : List (Py.G × Nat)} {vP vF : Value} {vals : List Value} (h : Cm c w base B cs vP vF vals) (k : Bw w w') : Cm c w' base B cs vP vF vals :=
 ⟨h.lo, Nat.lt_of_lt_of_le h.hi k.size, (Below.cell k (p := ⟨B, 0, none⟩) h.hi).trans h.c0, (Below.cell k (p := ⟨B, 1, none⟩) h.hi).trans h.c1, (Below.cell k (p := ⟨B, 2, none⟩) h.hi).trans h.c2, fun i => (Below.frozen k (p := ⟨B, i, none⟩) h.hi).trans (h.fz i),
  h.oP.kept (Sv.gb_bw k none) (by cases vP.ownBlock <;> simp), h.vl, h.oF.kept (Sv.gb_bw k none) (by cases vF.ownBlock <;> simp), h.dj, h.nP, h.nF⟩
theorem Cm.ni {c : Nat} {w : World} {base B : Nat} {cs : List (Py.G × Nat)} {vP vF : Value} {vals : List Value} (h : Cm c w base B cs vP vF vals) : ∃ a cap, vF = .slice a cs.length cap ∧ Ni w a (cs.map Prod.snd) := by
 rcases Nat.eq_zero_or_pos cs.length with q | q
 ·
  rcases h.oF.2 with ⟨e, z⟩ | ⟨g, cap, _, e, _⟩
  · exact ⟨none, 0, by rw [e, z], Or.inl (by simpa using q)⟩
  · exact ⟨_, cap, e, Or.inl (by simpa using q)⟩
 ·
  obtain ⟨g, cap, e, hb, hlt⟩ := h.oF.form q
  refine ⟨_, cap, e, Or.inr ⟨g, 0, rfl, hlt, fun i hi => ?_⟩⟩
  have ho := h.oF
  rw [e] at ho
  rw [List.length_map] at hi
  rw [Nat.zero_add, ho.cellAt i (by omega)]
  simp [List.getD, hi]
theorem Pl.set {c : Nat} {w : World} {a : Option Addr} {gs : List Py.G} (h : Pl c w a gs) {B i : Nat} {v : Value} (hb : ∀ b o, a = some ⟨b, o, none⟩ → b ≠ B) : Pl c (w.setCell ⟨B, i, none⟩ v) a gs := by
 rcases h with h | ⟨b, o, e, h1, h2⟩
 · exact Or.inl h
 ·
  refine Or.inr ⟨b, o, e, by simpa [World.setCell] using h1, fun j hj => ?_⟩
  rw [set_blk (hb b o e).symm]
  exact h2 j hj
theorem Ni.set {w : World} {a : Option Addr} {fs : List Nat} (h : Ni w a fs) {B i : Nat} {v : Value} (hb : ∀ b o, a = some ⟨b, o, none⟩ → b ≠ B) : Ni (w.setCell ⟨B, i, none⟩ v) a fs := by
 rcases h with h | ⟨b, o, e, h1, h2⟩
 · exact Or.inl h
 ·
  refine Or.inr ⟨b, o, e, by simpa [World.setCell] using h1, fun j hj => ?_⟩
  rw [set_blk (hb b o e).symm]
  exact h2 j hj
theorem Pv.set {c : Nat} {w : World} {z : Py.G} {v : Value} {N A : Nat} {g : Py.G} (h : Pv c w z v N A g) {B i : Nat} {x : Value} (hb : v.ownBlock ≠ some B) : Pv c (w.setCell ⟨B, i, none⟩ x) z v N A g := by
 obtain ⟨D, o, m, cap, l, rfl, h1, h2, h3, h4⟩ := h
 refine ⟨D, o, m, cap, l, rfl, h1, h2, ⟨by simpa [World.setCell] using h3.1, fun j hj => ?_⟩, h4⟩
 rw [set_blk (fun e => hb (by rw [e]; rfl))]
 exact h3.2 j hj
theorem fz_new (w : World) (vs : Array Value) (T : TypeId) (i : Nat) : (w.alloc (.cells vs T)).frozen? ⟨w.heap.size, i, none⟩ = false := World.frozen?_alloc_at _ _ _ _ rfl
theorem com_load {w : World} {B : Nat} {x y z : Value} (h0 : w.cell? ⟨B, 0, none⟩ = some x) (h1 : w.cell? ⟨B, 1, none⟩ = some y) (h2 : w.cell? ⟨B, 2, none⟩ = some z) : (loadVar 76 ⟨B, 0, none⟩).run Tryz.prog w = .ok (.agg #[x, y, z]) w := by
 refine run_loadVar_mid w B 0 76 [x, y, z] _ (fun j v hv => ?_) Tryz.underlying76 rfl (by kernel_rfl)
 match j, hv with
 | 0, hv => cases hv; exact h0
 | 1, hv => cases hv; exact h1
 | 2, hv => cases hv; exact h2
theorem res_com {fn : Func} {i j : Tmp} (hr : fn.results = #[.cell i 76, .tmp j]) (tmps : Array Value) (w : World) (B : Nat) {x y z : Value} (hi : tmps.getD i undef = .pointer (some ⟨B, 0, none⟩)) (h0 : w.cell? ⟨B, 0, none⟩ = some x) (h1 : w.cell? ⟨B, 1, none⟩ = some y) (h2 : w.cell? ⟨B, 2, none⟩ = some z) : (results fn tmps).run Tryz.prog w = .ok (.tuple #[.agg #[x, y, z], tmps.getD j undef]) w := by
 rw [results_cell_tmp hr, hi]
 simp only [asAddr, Sem.run_pure, Result.andThen_ok, com_load h0 h1 h2]
end Ff
end Go.Proofs.YtjpllggchjgjpaaGreat

/-
 OWN TEXT: package flow over whole complex numbers: the common bottom of elements' speeds (the walk).
-/
namespace Go.Proofs.YtjpllggchjgjpaaGreat
open Go.ChangeShapes Go.WideShapes Go.ChangeAt Go.RowKit
set_option linter.unusedVariables false
set_option linter.unusedSimpArgs false
attribute [local go_sem] frombits_call tobits_call run_neg run_store_cx El.run_store_fl
theorem fold16 {c : Nat} {e : Ff.Fe} (h : e.ok c) (w : World) : Calls Tryz.prog 60 #[.agg #[.int .u8 e.k, .complex .f64 e.a e.b, .complex .f64 e.s e.t, .float .f64 (Ff.pw e.n)]] w fun r w' => r = .returned (.int .i64 ((if e.k = 3 then e.n + 1 else 0 : Nat) : Int)) ∧ Bw w w' := by
 rcases h.kd with q | q | q
 ·
  rw [if_neg (by omega)]
  exact fold16_0 e.a e.b e.s e.t _ e.k (Or.inl q.1) w
 ·
  rw [if_pos q.1]
  have := fold16_3 e.a e.b e.s e.t e.n h.n3 w
  unfold El.E at this
  rw [q.1]
  exact this
 ·
  rw [if_neg (by omega)]
  exact fold16_0 e.a e.b e.s e.t _ e.k (Or.inr q.1) w
set_option maxHeartbeats 16000000 in
theorem common16 {c : Nat} (hc : c = 1074) {w : World} {a : Option Addr} {cap n : Nat} {es : List Ff.Fe} (z : Py.G) (hn : es.length = n) (hm : n ≤ 3) (hE : Ff.Es w a es) (ho : ∀ e ∈ es, e.ok c) :
  Calls Tryz.prog 39 #[.slice a n cap] w fun e w' => ∃ p cp q cq u, e = .returned (.tuple #[.agg #[.slice p (Ff.cm es).length cp, .slice q (Ff.cm es).length cq, u], .int .i64 0]) ∧
   Ff.Pl c w' p ((Ff.cm es).map Prod.fst) ∧ Ff.Ni w' q ((Ff.cm es).map Prod.snd) ∧ Ff.Pv c w' z u (Ff.rl (Ff.cm es)).length (7 ^ (Ff.rl (Ff.cm es)).length) (Ff.prd (Ff.rl (Ff.cm es)) z) ∧ Bw w w' ∧ ∀ g, u.ownBlock = some g → w.heap.size ≤ g := by
 have HC := hide hc
 have HN := hide hn
 have HE := hide hE
 have HO := hide ho
 clear hc hn hE ho
 have und : Tryz.prog.underlying 76 = Tryz.prog.underlying 76 := rfl
 go_enter Tryz.func39, Tryz.ntmps39
 go_wp2
 clear und
 have bA := bw_alloc w (.cells #[.slice none 0 0, .slice none 0 0, .slice none 0 0] 76)
 have hB1 : (w.alloc (.cells #[.slice none 0 0, .slice none 0 0, .slice none 0 0] 76)).heap.size = w.heap.size + 1 := by simp
 have r0 : ∀ i, i < 3 → (w.alloc (.cells #[.slice none 0 0, .slice none 0 0, .slice none 0 0] 76)).cell? ⟨w.heap.size, i, none⟩ = some (.slice none 0 0) := fun i hi => by
  rcases (show i = 0 ∨ i = 1 ∨ i = 2 by omega) with rfl | rfl | rfl <;> simp
 have rz := Ff.fz_new w #[.slice none 0 0, .slice none 0 0, .slice none 0 0] 76
 have b2 := bw_alloc (w.alloc (.cells #[.slice none 0 0, .slice none 0 0, .slice none 0 0] 76)) (.cells #[.slice none 0 0, .slice none 0 0, .slice none 0 0] 76)
 generalize w.alloc (.cells #[.slice none 0 0, .slice none 0 0, .slice none 0 0] 76) = W1 at *
 rw [← hB1]
 have C0 : Ff.Cm c (W1.alloc (.cells #[.slice none 0 0, .slice none 0 0, .slice none 0 0] 76)) W1.heap.size W1.heap.size [] (.slice none 0 0) (.slice none 0 0) [] :=
  ⟨Nat.le_refl _, by simp, by simp, by simp, by simp, Ff.fz_new W1 _ _, World.ownsRow_nil _ _ _ _, ⟨rfl, fun j hj => by simp at hj⟩, World.ownsRow_nil _ _ _ _, fun g e => (by cases e), fun e => (by cases e), fun e => (by cases e)⟩
 have hC0 := hide C0
 clear C0
 generalize W1.alloc (.cells #[.slice none 0 0, .slice none 0 0, .slice none 0 0] 76) = W2 at *
 have HR := hide (And.intro bA (And.intro hB1 (And.intro r0 (And.intro rz b2))))
 clear bA hB1 r0 rz b2
 obtain ⟨B, hB⟩ : ∃ B, W1.heap.size = B := ⟨_, rfl⟩
 obtain ⟨R0, hR0⟩ : ∃ R0, w.heap.size = R0 := ⟨_, rfl⟩
 rw [hB] at hC0 ⊢
 rw [hR0]
 have HB := hide hB
 have HR0 := hide hR0
 clear hB hR0
 go_loopw [11] (fun i wr => ∃ (k : Nat) (vP vF : Value) (vals : List Value), k ≤ n ∧ i = .int .i64 k ∧ Ff.Cm c wr B B (Ff.cm (es.take k)) vP vF vals ∧ Below B W1 wr) (fun i _ => n - (intOf i).toNat)
 case atStart => exact ⟨0, _, _, _, Nat.zero_le _, rfl, hC0.out, by rw [← HB.out]; exact HR.out.2.2.2.2⟩
 case round =>
  obtain ⟨k, vP, vF, vals, hk, rfl, hC, hb⟩ := hrel
  clear hC0
  have hbw : Bw W1 wr := by
   have := hb
   rw [← HB.out] at this
   exact this
  by_cases hk1 : k < n
  ·
   have hk2 : (k : Int) < n := by omega
   obtain ⟨e, he⟩ : ∃ e, es[k]? = some e := ⟨es[k]'(by have := HN.out; omega), by simp [show k < es.length by have := HN.out; omega]⟩
   have hok := HO.out e (List.mem_of_getElem? he)
   obtain ⟨b, o, rfl, _, hcell⟩ := ((HE.out.bw HR.out.1).bw hbw).resolve_left (by have := HN.out; omega)
   obtain ⟨e0, e1, e2, e3⟩ := hcell k e he
   have HS := hide (Ff.cm_succ he)
   have FO := hide (fun wz => fold16 hok wz)
   have bX := bw_alloc wr (.cells #[.int .u8 e.k, .complex .f64 e.a e.b, .complex .f64 e.s e.t, .float .f64 (Ff.pw e.n)] 29)
   have KK := hide (And.intro hC (And.intro hb (And.intro hbw hok)))
   clear hcell hok hC hb hbw
   go_wp2_with fail
   refine (FO.out _).mono ?_
   rintro e' w2 ⟨rfl, b2⟩
   clear FO e0 e1 e2 e3
   obtain ⟨hC, hb, hbw, hok⟩ := KK.out
   have x1 : w2.cell? ⟨wr.heap.size, 1, none⟩ = some (.complex .f64 e.a e.b) := (Below.cell b2 (p := ⟨wr.heap.size, 1, none⟩) (by simp)).trans (by simp)
   have bX2 := bw_trans bX b2
   have hC2 := hC.bw bX2
   have hBs : B ≤ wr.heap.size := by have := hbw.size; have := HB.out; omega
   have hb2 : Below B W1 w2 := Below.trans hb (Below.mono bX2 hBs)
   clear KK bX b2 bX2 hC hb hbw
   by_cases q : e.k = 3
   ·
    rw [if_pos q]
    have hCA := Ff.cm_all (c := c) (es := es.take k) (fun x hx => HO.out x (List.mem_of_mem_take hx))
    have hl : (Ff.cm (es.take k)).length ≤ 60 := by have := hCA.1; rw [List.length_take] at this; omega
    obtain ⟨m, hm'⟩ : ∃ m, e.n + 1 = m := ⟨_, rfl⟩
    rw [hm']
    have hgt : (0 : Int) < (m : Int) := by omega
    have TK := hide (take16 (n := m) hC2 hok.wa hl (by have := hok.n3; omega) (fun p hp => by have := (hCA.2 p hp).2; omega))
    have KB := hide hb2
    have HS2 : Hid (Ff.cm (es.take (k + 1)) = Ff.tk (Ff.cm (es.take k)) e.at_ m) := by rw [HS.out, Ff.cst, if_pos q, hm']; exact hide rfl
    clear hCA hl hm' hC2 hok hb2 HS q
    go_wp2_with fail
    refine TK.out.mono ?_
    rintro e' w3 ⟨rfl, vP', vF', vals', hC3, b3⟩
    have R : Hid (Ff.Cm c w3 B B (Ff.cm (es.take (k + 1))) vP' vF' vals' ∧ Below B W1 w3) := by
     rw [HS2.out]
     exact ⟨hC3, Below.trans KB.out b3⟩
    clear TK hC3 b3 KB HS2 x1
    go_wp2
    go_roundw
    case rel => exact ⟨k + 1, _, _, _, by omega, by simp, R.out.1, R.out.2⟩
    case measure => simp [intOf]; omega
   ·
    rw [if_neg q]
    have R : Hid (Ff.Cm c w2 B B (Ff.cm (es.take (k + 1))) vP vF vals ∧ Below B W1 w2) := by
     rw [HS.out, Ff.cst, if_neg q]
     exact ⟨hC2, hb2⟩
    clear hC2 hok hb2 HS q x1
    go_wp2
    go_roundw
    case rel => exact ⟨k + 1, _, _, _, by omega, by simp, R.out.1, R.out.2⟩
    case measure => simp [intOf]; omega
  ·
   have hk3 : k = n := by omega
   subst hk3
   have hT : es.take k = es := List.take_of_length_le (by have := HN.out; omega)
   rw [hT] at hC
   have hCA := Ff.cm_all (c := c) (es := es) HO.out
   have hl : (Ff.rl (Ff.cm es)).length ≤ 9 := by
    have h1 := Ff.rl_len (Ff.cm es) 3 (fun p hp => (hCA.2 p hp).2)
    have h2 := hCA.1
    have := HN.out
    omega
   obtain ⟨p, cp, rfl, hpl⟩ := Ff.own_pl hC.oP hC.vl (by simp)
   obtain ⟨q, cq, rfl, hni⟩ := hC.ni
   have RT := hide (roots16 (cap := cp) (cap' := cq) (ab := none) (nb := 0) (capb := 0) (n := (Ff.cm es).length) rfl (by have := hCA.1; have := HN.out; omega) hpl hni (by omega))
   have PO := hide (fun (wz : World) (a : Option Addr) (cap : Nat) (hp : Ff.Pl c wz a (Ff.rl (Ff.cm es))) => pof16 (cap := cap) (Z := 6) HC.out z rfl (by omega) hp (Ff.rl_co hCA.2) (by decide) (Nat.le_trans (Nat.pow_le_pow_right (by decide) hl) (by decide)))
   have c0 := hC.c0
   have c1 := hC.c1
   have c2 := hC.c2
   have KK := hide (And.intro hC (And.intro hbw (And.intro hCA hl)))
   have HBs := hide (show B ≤ wr.heap.size by have := hbw.size; have := HB.out; omega)
   clear hC hb hbw hCA hl hpl hni hT
   go_wp2_with fail
   refine RT.out.mono ?_
   rintro e' w4 ⟨a2, cap2, rfl, hpl2, b4⟩
   have PO2 := hide (PO.out w4 a2 cap2 hpl2)
   clear PO hpl2 RT
   go_wp2_with fail
   refine PO2.out.mono ?_
   rintro e' w5 ⟨u, rfl, hu, b5, hi5⟩
   obtain ⟨ua, un, uc, rfl⟩ := hu.form
   obtain ⟨hC, hbw, hCA, hl⟩ := KK.out
   have b45 := bw_trans b4 b5
   have hC5 := hC.bw b45
   have hbw5 := bw_trans hbw b45
   have hRB : R0 ≠ B := by have := HR.out.2.1; have := HB.out; have := HR0.out; omega
   have r0 : ∀ i, i < 3 → w5.cell? ⟨R0, i, none⟩ = some (.slice none 0 0) := fun i hi => by
    have h1 := HR.out.2.2.1 i hi
    rw [HR0.out] at h1
    exact (Below.cell hbw5 (p := ⟨R0, i, none⟩) (by have := HR.out.2.1; have := HR0.out; show R0 < _; omega)).trans h1
   have rz : ∀ i, w5.frozen? ⟨R0, i, none⟩ = false := fun i => by
    have h1 := HR.out.2.2.2.1 i
    rw [HR0.out] at h1
    exact (Below.frozen hbw5 (p := ⟨R0, i, none⟩) (by have := HR.out.2.1; have := HR0.out; show R0 < _; omega)).trans h1
   have d0 := hC5.c0
   have d1 := hC5.c1
   have d2 := hC5.c2
   have fz2 := hC5.fz 2
   have FIN : Hid (∀ V, V = (((w5.setCell ⟨B, 2, none⟩ (.slice ua un uc)).setCell ⟨R0, 0, none⟩ (.slice p (Ff.cm es).length cp)).setCell ⟨R0, 1, none⟩ (.slice q (Ff.cm es).length cq)).setCell ⟨R0, 2, none⟩ (.slice ua un uc) →
     (V.cell? ⟨R0, 0, none⟩ = some (.slice p (Ff.cm es).length cp) ∧ V.cell? ⟨R0, 1, none⟩ = some (.slice q (Ff.cm es).length cq) ∧ V.cell? ⟨R0, 2, none⟩ = some (.slice ua un uc)) ∧
     Ff.Pl c V p ((Ff.cm es).map Prod.fst) ∧ Ff.Ni V q ((Ff.cm es).map Prod.snd) ∧ Ff.Pv c V z (.slice ua un uc) (Ff.rl (Ff.cm es)).length (7 ^ (Ff.rl (Ff.cm es)).length) (Ff.prd (Ff.rl (Ff.cm es)) z) ∧ Bw w V ∧ ∀ g, (Value.slice ua un uc).ownBlock = some g → w.heap.size ≤ g) := by
    rintro V rfl
    have nP : ∀ b o, p = some ⟨b, o, none⟩ → b ≠ B ∧ b ≠ R0 := fun b o e => by
     subst e
     refine ⟨fun e => hC.nP (by rw [e]; rfl), fun e => ?_⟩
     have := (hC.oP.lt b rfl).1
     have := HR.out.2.1; have := HB.out; have := HR0.out
     omega
    have nF : ∀ b o, q = some ⟨b, o, none⟩ → b ≠ B ∧ b ≠ R0 := fun b o e => by
     subst e
     refine ⟨fun e => hC.nF (by rw [e]; rfl), fun e => ?_⟩
     have := (hC.oF.lt b rfl).1
     have := HR.out.2.1; have := HB.out; have := HR0.out
     omega
    have nU : ∀ g, (Value.slice ua un uc).ownBlock = some g → g ≠ B ∧ g ≠ R0 := fun g e => by
     have h1 := hi5 g e
     have h2 := b4.size
     have := HBs.out
     have := hC.hi
     have := HR.out.2.1; have := HB.out; have := HR0.out
     exact ⟨fun e => by omega, fun e => by omega⟩
    obtain ⟨a3, cap3, e3, hpl⟩ := Ff.own_pl hC5.oP hC5.vl (by simp)
    obtain ⟨a4, cap4, e4, hni⟩ := hC5.ni
    cases e3
    cases e4
    refine ⟨⟨?_, ?_, ?_⟩, ?_, ?_, ?_, ?_, fun g e => ?_⟩
    ·
     rw [Ff.set_off (by decide), Ff.set_off (by decide)]
     exact Ff.set_any (by rw [Ff.set_blk hRB.symm]; exact r0 0 (by omega))
    ·
     rw [Ff.set_off (by decide)]
     exact Ff.set_any (by rw [Ff.set_off (by decide), Ff.set_blk hRB.symm]; exact r0 1 (by omega))
    · exact Ff.set_any (by rw [Ff.set_off (by decide), Ff.set_off (by decide), Ff.set_blk hRB.symm]; exact r0 2 (by omega))
    · exact (((hpl.set (fun b o e => (nP b o e).1)).set (fun b o e => (nP b o e).2)).set (fun b o e => (nP b o e).2)).set (fun b o e => (nP b o e).2)
    · exact (((hni.set (fun b o e => (nF b o e).1)).set (fun b o e => (nF b o e).2)).set (fun b o e => (nF b o e).2)).set (fun b o e => (nF b o e).2)
    · exact (((hu.set (fun e => (nU _ e).1 rfl)).set (fun e => (nU _ e).2 rfl)).set (fun e => (nU _ e).2 rfl)).set (fun e => (nU _ e).2 rfl)
    ·
     have bb := bw_trans HR.out.1 hbw5
     have h1 : w.heap.size ≤ B := by have := HR.out.2.1; have := HB.out; omega
     have h2 : w.heap.size ≤ R0 := by have := HR0.out; omega
     exact Below.setCell (Below.setCell (Below.setCell (Below.setCell bb h1 _) h2 _) h2 _) h2 _
    ·
     have h1 := hi5 g e
     have h2 := b4.size
     have h3 := hbw.size
     have := HR.out.2.1; have := HR0.out; have := HB.out
     omega
   have g0 := (Ff.set_off (w := w5) (B := B) (i := 2) (j := 0) (v := .slice ua un uc) (by decide)).trans d0
   have g1 := (Ff.set_off (w := w5) (B := B) (i := 2) (j := 1) (v := .slice ua un uc) (by decide)).trans d1
   have g2 := Ff.set_any (v := .slice ua un uc) d2
   have q0 := r0 0 (by decide)
   have q1 := r0 1 (by decide)
   have q2 := r0 2 (by decide)
   have z0 := rz 0
   have z1 := rz 1
   have z2 := rz 2
   clear hu b5 hi5 hC hbw hCA hl b45 hC5 hbw5 r0 rz KK PO2 b4
   go_wp2
   obtain ⟨⟨f0, f1, f2⟩, rest⟩ := FIN.out _ rfl
   refine bodyPost_ret (Ff.res_com rfl _ _ R0 rfl f0 f1 f2) rfl ?_
   exact ⟨_, _, _, _, _, rfl, rest⟩
end Go.Proofs.YtjpllggchjgjpaaGreat

/-
 OWN TEXT: package flow over whole complex numbers: folds copied.
-/
namespace Go.Proofs.YtjpllggchjgjpaaGreat
open Go.ChangeShapes Go.WideShapes Go.ChangeAt Go.RowKit
set_option linter.unusedVariables false
set_option linter.unusedSimpArgs false
attribute [local go_sem] frombits_call tobits_call run_neg run_store_cx El.run_store_fl
namespace Ff
def fi (fs : List Nat) : List Value := fs.map fun f => .int .i64 ((f : Nat) : Int)
theorem fi_get {fs : List Nat} {j : Nat} (h : j < fs.length) : (fi fs)[j]? = some (.int .i64 ((fs.getD j 0 : Nat) : Int)) := by simp [fi, List.getD, h]
/-- append(l, s...) of ints onto an empty list of the call's own -/
theorem pushNs {w : World} {base n cap : Nat} {v : Value} {fs : List Nat} (ty : TypeId) (ho : w.ownsRow base 3 1 v 0 []) {b o : Nat} (hn : fs.length = n) (hc : ∀ i, i < fs.length → w.cell? ⟨b, o + i, none⟩ = some (.int .i64 ((fs.getD i 0 : Nat) : Int))) (hn2 : n ≤ 1000) (hb : base ≤ w.heap.size) :
  ∃ v' w', (Builtin.append_ #[50, 50] ty #[v, .slice (some ⟨b, o, none⟩) n cap]).run Tryz.prog w = .ok v' w' ∧ w'.ownsRow base 3 1 v' n (fi fs) ∧ w.grownBy w' v.ownBlock := by
 obtain ⟨i0, hi0, hz⟩ := Option.map_eq_some_iff.1 info_i
 simp only [Prod.mk.injEq] at hz
 obtain ⟨v', w', h1, h2, h3, _, h5⟩ := run_append_own_at (P := Tryz.prog) w base 50 ty 3 i0 (.int .i64 0) 1 8 und_i hi0 hz.1 hz.2.1 hz.2.2 rfl (by decide) v 0 [] ho ⟨b, o, none⟩ n cap (fi fs) (by simp [fi, hn])
  (fun j u hu => by
   have hj : j < fs.length := by
    rcases Nat.lt_or_ge j fs.length with q | q
    · exact q
    · rw [List.getElem?_eq_none (by simp [fi]; exact q)] at hu; cases hu
   rw [fi_get hj] at hu
   cases hu
   rw [show (⟨b, o, none⟩ : Addr).add j = ⟨b, o + j, none⟩ by cases j <;> simp [Addr.add]]
   exact hc j hj) (fun u hu => by
   simp only [fi, List.mem_map] at hu
   obtain ⟨j, _, rfl⟩ := hu
   rfl) (by unfold maxLen; omega) (by omega) hb
 rw [List.nil_append, Nat.zero_add] at h2
 exact ⟨v', w', h1, h2, h3⟩
end Ff
set_option maxHeartbeats 4000000 in
set_option maxRecDepth 20000 in
theorem clone16 {w : World} {b o cap n : Nat} {fs : List Nat} (hn : fs.length = n) (h0 : 0 < n) (hm : n ≤ 1000) (hb : b < w.heap.size) (hc : ∀ i, i < fs.length → w.cell? ⟨b, o + i, none⟩ = some (.int .i64 ((fs.getD i 0 : Nat) : Int))) :
  Calls Tryz.prog 91 #[.slice (some ⟨b, o, none⟩) n cap] w fun e w' => ∃ g cap2, e = .returned (.slice (some ⟨g, 0, none⟩) n cap2) ∧ w'.ownsRow w.heap.size 3 1 (.slice (some ⟨g, 0, none⟩) n cap2) n (Ff.fi fs) ∧ Bw w w' := by
 have bA := bw_alloc w (.cells #[] 3)
 have own0 : (w.alloc (.cells #[] 3)).ownsRow w.heap.size 3 1 (.slice (some ⟨w.heap.size, 0, none⟩) 0 0) 0 [] := ⟨rfl, Or.inr ⟨w.heap.size, 0, #[], rfl, Nat.le_refl _, Array.getElem?_push_size, Nat.le_refl _, by unfold maxLen; omega, rfl, rfl⟩⟩
 obtain ⟨v', w', h1, h2, h3⟩ := Ff.pushNs 50 (cap := cap) own0 hn (fun i hi => (Below.cell bA (p := ⟨b, o + i, none⟩) hb).trans (hc i hi)) hm bA.size
 obtain ⟨g, cap2, rfl, _⟩ := h2.form h0
 have ER := hide h1
 have R := hide (And.intro h2 (Below.grown bA h3 bA.size (fun x e => by simp only [Value.ownBlock, Option.some.injEq] at e; omega)))
 have EQ : ∀ wz, (binOp .eql 50 (.slice (some ⟨b, o, none⟩) n cap) (.slice none 0 0)).run Tryz.prog wz = .ok (.bool false) wz := fun wz => by
  show (do pure (.bool (← Op.equal 50 (.slice (some ⟨b, o, none⟩) n cap) (.slice none 0 0))) : Sem Value).run Tryz.prog wz = _
  rw [Sem.run_bind]
  show Result.andThen ((Op.equalIn (9999 + 1) 50 (.slice (some ⟨b, o, none⟩) n cap) (.slice none 0 0)).run Tryz.prog wz) _ = _
  rw [eq_slice Ff.und_i 9999 ⟨b, o, none⟩ n cap 0 0 wz]
  rfl
 clear own0 h1 h2 h3 hc
 go_enter Tryz.func91, Tryz.ntmps91
 go_wp2_with (first
  | (at_builtin; refine ff_append rfl _ _ 50 rfl _ _ _ rfl rfl _ ER.out ?_)
  | go_in)
 go_wp2
 go_ret
 exact ⟨_, _, rfl, R.out⟩
end Go.Proofs.YtjpllggchjgjpaaGreat

/-
 OWN TEXT: package flow over whole complex numbers: the roots but for those that a doublet asks for.
-/
namespace Go.Proofs.YtjpllggchjgjpaaGreat
open Go.ChangeShapes Go.WideShapes Go.ChangeAt Go.RowKit
set_option linter.unusedVariables false
set_option linter.unusedSimpArgs false
attribute [local go_sem] frombits_call tobits_call run_neg run_store_cx El.run_store_fl
namespace Ff
theorem Fd.uni {gs : List Py.G} {z : Py.G} {r : Int} {k : Nat} (h : Fd gs z r) (hk : k < gs.length) (hz : Py.co gs k = z) (hl : ∀ j, j < k → Py.co gs j ≠ z) : r = (k : Int) := by
 rcases h with ⟨j, hj, rfl, h1, h2⟩ | ⟨_, h⟩
 ·
  rcases Nat.lt_trichotomy j k with q | q | q
  · exact absurd h1 (hl j q)
  · rw [q]
  · exact absurd hz (h2 k q)
 · exact absurd hz (h k hk)
end Ff
set_option maxHeartbeats 16000000 in
theorem without16 {c : Nat} {w : World} {a a' ab : Option Addr} {cap cap' n nb capb k f : Nat} {cs : List (Py.G × Nat)} {e : Ff.Fe} (hn : cs.length = n) (hm : n ≤ 60) (hk : k < n) (wa : wC c e.a e.b e.at_) (n3 : e.n ≤ 3) (he : e.k = 3) (hz : Py.co (cs.map Prod.fst) k = e.at_) (hl : ∀ j, j < k → Py.co (cs.map Prod.fst) j ≠ e.at_)
  (hf : (cs.map Prod.snd).getD k 0 = f) (hf2 : e.n + 1 ≤ f) (hf3 : f ≤ 60) (hP : Ff.Pl c w a (cs.map Prod.fst)) (hF : Ff.Ni w a' (cs.map Prod.snd)) (hs : (Ff.rl (cs.set k (e.at_, f - (e.n + 1)))).length ≤ 64) :
  Calls Tryz.prog 67 #[.agg #[.slice a n cap, .slice a' n cap', .slice ab nb capb], .agg #[.int .u8 e.k, .complex .f64 e.a e.b, .complex .f64 e.s e.t, .float .f64 (Ff.pw e.n)]] w fun r w' => ∃ a'' cap'', r = .returned (.slice a'' (Ff.rl (cs.set k (e.at_, f - (e.n + 1)))).length cap'') ∧ Ff.Pl c w' a'' (Ff.rl (cs.set k (e.at_, f - (e.n + 1)))) ∧ Bw w w' := by
 obtain ⟨ek, ea, eb, es, et, en, ez, ev⟩ := e
 simp only at he hz hl hf2 hs wa n3 ⊢
 subst he
 obtain ⟨m, hm'⟩ : ∃ m, en + 1 = m := ⟨_, rfl⟩
 obtain ⟨f', hf'⟩ : ∃ f', f - m = f' := ⟨_, rfl⟩
 rw [hm'] at hf2 hs ⊢
 rw [hf'] at hs ⊢
 have bA := bw_alloc w (.cells #[.slice a n cap, .slice a' n cap', .slice ab nb capb] 76)
 have c0 : (w.alloc (.cells #[.slice a n cap, .slice a' n cap', .slice ab nb capb] 76)).cell? ⟨w.heap.size, 0, none⟩ = some (.slice a n cap) := by simp
 have c1 : (w.alloc (.cells #[.slice a n cap, .slice a' n cap', .slice ab nb capb] 76)).cell? ⟨w.heap.size, 1, none⟩ = some (.slice a' n cap') := by simp
 have hW1 : (w.alloc (.cells #[.slice a n cap, .slice a' n cap', .slice ab nb capb] 76)).heap.size = w.heap.size + 1 := by simp
 obtain ⟨W1, hW1e⟩ : ∃ v, v = w.alloc (.cells #[.slice a n cap, .slice a' n cap', .slice ab nb capb] 76) := ⟨_, rfl⟩
 rw [← hW1e] at bA c0 c1 hW1
 have bX := bw_alloc W1 (.cells #[.int .u8 3, .complex .f64 ea eb, .complex .f64 es et, .float .f64 (Ff.pw en)] 29)
 have x : ∀ i v, #[Value.int .u8 3, .complex .f64 ea eb, .complex .f64 es et, .float .f64 (Ff.pw en)][i]? = some v → (W1.alloc (.cells #[.int .u8 3, .complex .f64 ea eb, .complex .f64 es et, .float .f64 (Ff.pw en)] 29)).cell? ⟨W1.heap.size, i, none⟩ = some v := fun i v h => by
  rw [World.cell?_alloc_at _ _ _ _ rfl]; exact h
 have hW2 : W1.heap.size < (W1.alloc (.cells #[.int .u8 3, .complex .f64 ea eb, .complex .f64 es et, .float .f64 (Ff.pw en)] 29)).heap.size := by simp
 obtain ⟨W, hWe⟩ : ∃ v, v = W1.alloc (.cells #[.int .u8 3, .complex .f64 ea eb, .complex .f64 es et, .float .f64 (Ff.pw en)] 29) := ⟨_, rfl⟩
 rw [← hWe] at bX x hW2
 have bW := bw_trans bA bX
 obtain ⟨gb, go, rfl, hgb, hgc⟩ := (hF.bw bW).resolve_left (by rw [List.length_map]; omega)
 have CL := hide (clone16 (cap := cap') (n := n) (fs := cs.map Prod.snd) (by simpa using hn) (by omega) (by omega) hgb hgc)
 have d0 := (Below.cell bX (p := ⟨w.heap.size, 0, none⟩) (by show w.heap.size < _; omega)).trans c0
 have d1 := (Below.cell bX (p := ⟨w.heap.size, 1, none⟩) (by show w.heap.size < _; omega)).trans c1
 have FD := hide (fun wz (hb : Bw w wz) => find16 (cap := cap) (n := n) (by simpa using hn) (by omega) (hP.bw hb) wa)
 have FO : Hid (∀ wz, Calls Tryz.prog 60 #[.agg #[.int .u8 3, .complex .f64 ea eb, .complex .f64 es et, .float .f64 (Ff.pw en)]] wz fun r w' => r = .returned (.int .i64 (m : Int)) ∧ Bw wz w') := fun wz => by rw [← hm']; exact fold16_3 ea eb es et en n3 wz
 have RT := hide (fun (wz : World) (p' : Option Addr) (cp : Nat) (hb : Bw w wz) (hq : Ff.Ni wz p' ((cs.set k (ez, f')).map Prod.snd)) => roots16 (cs := cs.set k (ez, f')) (cap := cap) (cap' := cp) (ab := none) (nb := 0) (capb := 0) (n := n) (by simpa using hn) (by omega) (a := a) (by
  have e1 : (cs.set k (ez, f')).map Prod.fst = cs.map Prod.fst := by
   refine Py.list_ext (by simp) (fun i hi => ?_)
   rw [List.map_set, Py.co_set _ _ _ _ (by simp; omega)]
   by_cases q : i = k
   · rw [if_pos q, q, hz]
   · rw [if_neg q]
  rw [e1]; exact hP.bw hb) hq hs)
 have KK := hide (And.intro hn (And.intro hm (And.intro hk (And.intro hz (And.intro hl (And.intro hf (And.intro hf2 (And.intro hf3 (And.intro bW (And.intro hW1 hW2))))))))))
 have XX := hide x
 have HW1e := hide hW1e
 have HWe := hide hWe
 have HW1 := hide hW1
 clear hn hm hz hl hf hf3 hP hF hs x hgb hgc bA bX bW c0 c1 hW2 hW1e hWe hW1
 go_enter Tryz.func67, Tryz.ntmps67
 go_wp2_with fail
 rw [← HW1e.out, ← HWe.out, ← HW1.out]
 refine CL.out.mono ?_
 rintro e' w1 ⟨g, cap2, rfl, ho, b1⟩
 obtain ⟨hn, hm, hk, hz, hl, hf, hf2, hf3, bW, hW1, hW2⟩ := KK.out
 have hg := ho.lt g rfl
 have sg : w1.cell? ⟨g, k, none⟩ = some (.int .i64 (f : Int)) := by
  rw [ho.cellAt k (by omega), Ff.fi_get (by simpa using (show k < cs.length by omega)), hf]
 have hBW := bW.size
 have SF := hide (fun wz (hb : Bw w1 wz) => (show wz.cell? ⟨w.heap.size, 0, none⟩ = some (.slice a n cap) ∧ wz.cell? ⟨W1.heap.size, 0, none⟩ = some (.int .u8 3) ∧ wz.cell? ⟨W1.heap.size, 1, none⟩ = some (.complex .f64 ea eb) ∧ wz.cell? ⟨W1.heap.size, 2, none⟩ = some (.complex .f64 es et) ∧ wz.cell? ⟨W1.heap.size, 3, none⟩ = some (.float .f64 (Ff.pw en)) ∧ wz.cell? ⟨g, k, none⟩ = some (.int .i64 (f : Int)) from by
  have bb := bw_trans b1 hb
  have h1 : w.heap.size < W.heap.size := by omega
  exact ⟨(Below.cell bb (p := ⟨w.heap.size, 0, none⟩) h1).trans d0, (Below.cell bb (p := ⟨W1.heap.size, 0, none⟩) hW2).trans (XX.out 0 _ rfl), (Below.cell bb (p := ⟨W1.heap.size, 1, none⟩) hW2).trans (XX.out 1 _ rfl), (Below.cell bb (p := ⟨W1.heap.size, 2, none⟩) hW2).trans (XX.out 2 _ rfl), (Below.cell bb (p := ⟨W1.heap.size, 3, none⟩) hW2).trans (XX.out 3 _ rfl), (Below.cell hb (p := ⟨g, k, none⟩) hg.2).trans sg⟩))
 have bd := hide ((bw_trans bW b1).drew)
 have FZ := hide (fun wz (hb : Bw w1 wz) => (Below.frozen hb (p := ⟨g, k, none⟩) hg.2).trans (ho.frozenAt k))
 have UN := hide (fun (r : Int) (h : Ff.Fd (cs.map Prod.fst) ez r) => h.uni (by simpa using (show k < cs.length by omega)) hz hl)
 have FIN := hide (fun (w9 : World) (b9 : Bw w1 w9) => (show Bw w (w9.setCell ⟨g, k, none⟩ (.int .i64 (f' : Int))) ∧ Ff.Ni (w9.setCell ⟨g, k, none⟩ (.int .i64 (f' : Int))) (some ⟨g, 0, none⟩) ((cs.set k (ez, f')).map Prod.snd) ∧ (w9.setCell ⟨g, k, none⟩ (.int .i64 (f' : Int))).cell? ⟨w.heap.size, 0, none⟩ = some (.slice a n cap) from by
  have o9 := Ff.own_set (i := k) (ho.kept (Sv.gb_bw b9 none) (Or.inr (by simp [Value.ownBlock]))) rfl (.int .i64 (f' : Int))
  refine ⟨Below.setCell (bw_trans (bw_trans bW b1) b9) (by show w.heap.size ≤ g; omega) _, Or.inr ⟨g, 0, rfl, (o9.lt g rfl).2, fun i hi => ?_⟩, ?_⟩
  ·
   simp only [List.length_map, List.length_set] at hi
   rw [Nat.zero_add, o9.cellAt i (by omega)]
   by_cases q : k = i
   ·
    subst q
    simp [Ff.fi, List.getD, show k < cs.length by omega]
   ·
    rw [List.getElem?_set_ne q, Ff.fi_get (by simpa using hi)]
    simp [List.getD, List.getElem?_set_ne q]
  ·
   rw [Ff.set_blk (by omega)]
   exact (SF.out w9 b9).1))
 have hkn : (k : Int) < n := by omega
 have hkn0 : ¬ (k : Int) < 0 := by omega
 have wr : wrap64 ((f : Int) - (m : Int)) = (f' : Int) := by unfold wrap64; omega
 have S0 := SF.out w1.drew (Bw.refl w1).drew
 have Z0 := hide (Bw.refl w1).drew
 clear hn hm hk hz hl hf hf2 hf3 bW hW1 hW2 hg sg hBW ho b1 KK XX CL d0 d1 HW1e HWe HW1 wa n3 hm' hf'
 go_wp2_with fail
 refine wp_region_K (fun w' => w'.cell? ⟨w.heap.size, 0, none⟩ = some (.slice a n cap) ∧ w'.cell? ⟨W1.heap.size, 0, none⟩ = some (.int .u8 3) ∧ w'.cell? ⟨W1.heap.size, 1, none⟩ = some (.complex .f64 ea eb) ∧ w'.cell? ⟨W1.heap.size, 2, none⟩ = some (.complex .f64 es et) ∧ w'.cell? ⟨W1.heap.size, 3, none⟩ = some (.float .f64 (Ff.pw en)) ∧ w'.cell? ⟨g, k, none⟩ = some (.int .i64 (f : Int))) 12 13 #[false, false, false, false, false, false, false, false, false, false, false, false, false] (by kernel_rfl) (by kernel_rfl) (by kernel_rfl) ?_
 generalize hWd : w1.drew = Wd at *
 refine wpAnyK_take 0 9 (v := ?v0) rfl (by kernel_rfl) (by kernel_rfl) (by kernel_rfl) (by kernel_rfl) (by kernel_rfl) (fun _ _ _ h => h) rfl (Or.inl ⟨by rfl, ?h0⟩) (by assumption) ?r0
 case h0 => (intro w hSw; obtain ⟨s0, s1, s2, s3, s4, s5⟩ := hSw; go_simp; with_reducible rfl)
 simp only [Act.put, List.setIfInBounds_toArray, List.set_cons_zero, List.set_cons_succ]
 refine wpAnyK_take 1 10 (v := ?v1) rfl (by kernel_rfl) (by kernel_rfl) (by kernel_rfl) (by kernel_rfl) (by kernel_rfl) (fun _ _ _ h => h) rfl (Or.inl ⟨by rfl, ?h1⟩) (by assumption) ?r1
 case h1 => (intro w hSw; obtain ⟨s0, s1, s2, s3, s4, s5⟩ := hSw; go_simp; with_reducible rfl)
 simp only [Act.put, List.setIfInBounds_toArray, List.set_cons_zero, List.set_cons_succ]
 refine wpAnyK_take 2 11 (v := ?v2) rfl (by kernel_rfl) (by kernel_rfl) (by kernel_rfl) (by kernel_rfl) (by kernel_rfl) (fun _ _ _ h => h) rfl (Or.inl ⟨by rfl, ?h2⟩) (by assumption) ?r2
 case h2 => (intro w hSw; obtain ⟨s0, s1, s2, s3, s4, s5⟩ := hSw; go_simp; with_reducible rfl)
 simp only [Act.put, List.setIfInBounds_toArray, List.set_cons_zero, List.set_cons_succ]
 refine wpAnyK_take 3 12 (v := ?v3) rfl (by kernel_rfl) (by kernel_rfl) (by kernel_rfl) (by kernel_rfl) (by kernel_rfl) (fun _ _ _ h => h) rfl (Or.inl ⟨by rfl, ?h3⟩) (by assumption) ?r3
 case h3 => (intro w hSw; obtain ⟨s0, s1, s2, s3, s4, s5⟩ := hSw; go_simp; with_reducible rfl)
 simp only [Act.put, List.setIfInBounds_toArray, List.set_cons_zero, List.set_cons_succ]
 refine wpAnyK_take 4 13 (v := ?v4) rfl (by kernel_rfl) (by kernel_rfl) (by kernel_rfl) (by kernel_rfl) (by kernel_rfl) (fun _ _ _ h => h) rfl (Or.inl ⟨by rfl, ?h4⟩) (by assumption) ?r4
 case h4 => (intro w hSw; obtain ⟨s0, s1, s2, s3, s4, s5⟩ := hSw; go_simp; with_reducible rfl)
 simp only [Act.put, List.setIfInBounds_toArray, List.set_cons_zero, List.set_cons_succ]
 refine wpAnyK_take 8 17 (v := ?v8) rfl (by kernel_rfl) (by kernel_rfl) (by kernel_rfl) (by kernel_rfl) (by kernel_rfl) (fun _ _ _ h => h) rfl (Or.inl ⟨by rfl, ?h8⟩) (by assumption) ?r8
 case h8 => (intro w hSw; obtain ⟨s0, s1, s2, s3, s4, s5⟩ := hSw; go_simp; with_reducible rfl)
 simp only [Act.put, List.setIfInBounds_toArray, List.set_cons_zero, List.set_cons_succ]
 refine wpAnyK_one 5 (by kernel_rfl) rfl (fun K hK => ?_)
 go_simp
 go_wp2_with (go_at_call 34; refine (FD.out _ bd.out).mono ?_; rintro e' w7 ⟨r, rfl, hr, hw7⟩; subst hw7; obtain rfl := UN.out r hr; clear hr)
 refine hK.out _ _ (fun _ _ => S0) ?_
 clear hK K
 simp only [List.setIfInBounds_toArray, List.set_cons_zero, List.set_cons_succ]
 refine wpAnyK_take 6 15 (v := ?v6) rfl (by kernel_rfl) (by kernel_rfl) (by kernel_rfl) (by kernel_rfl) (by kernel_rfl) (fun _ _ _ h => h) rfl (Or.inl ⟨by rfl, ?h6⟩) (by assumption) ?r6
 case h6 => (intro w hSw; obtain ⟨s0, s1, s2, s3, s4, s5⟩ := hSw; go_simp; with_reducible rfl)
 simp only [Act.put, List.setIfInBounds_toArray, List.set_cons_zero, List.set_cons_succ]
 refine wpAnyK_take 7 16 (v := ?v7) rfl (by kernel_rfl) (by kernel_rfl) (by kernel_rfl) (by kernel_rfl) (by kernel_rfl) (fun _ _ _ h => h) rfl (Or.inl ⟨by rfl, ?h7⟩) (by assumption) ?r7
 case h7 => (intro w hSw; obtain ⟨s0, s1, s2, s3, s4, s5⟩ := hSw; go_simp; with_reducible rfl)
 simp only [Act.put, List.setIfInBounds_toArray, List.set_cons_zero, List.set_cons_succ]
 refine wpAnyK_one 9 (by kernel_rfl) rfl (fun K hK => ?_)
 go_simp
 go_wp2_with (go_at_call 60; refine (FO.out _).mono ?_; rintro e' w9 ⟨rfl, b9⟩; have b19 := bw_trans Z0.out b9)
 refine hK.out _ _ (fun _ _ => SF.out _ b19) ?_
 clear hK K
 simp only [List.setIfInBounds_toArray, List.set_cons_zero, List.set_cons_succ]
 have S9 := SF.out _ b19
 refine wpAnyK_take 10 19 (v := ?v10) rfl (by kernel_rfl) (by kernel_rfl) (by kernel_rfl) (by kernel_rfl) (by kernel_rfl) (fun _ _ _ h => h) rfl (Or.inl ⟨by rfl, ?h10⟩) (by assumption) ?r10
 case h10 => (intro w hSw; obtain ⟨s0, s1, s2, s3, s4, s5⟩ := hSw; go_simp; with_reducible rfl)
 simp only [Act.put, List.setIfInBounds_toArray, List.set_cons_zero, List.set_cons_succ]
 refine wpAnyK_take 11 20 (v := ?v11) rfl (by kernel_rfl) (by kernel_rfl) (by kernel_rfl) (by kernel_rfl) (by kernel_rfl) (fun _ _ _ h => h) rfl (Or.inl ⟨by rfl, ?h11⟩) (by assumption) ?r11
 case h11 => (intro w hSw; obtain ⟨s0, s1, s2, s3, s4, s5⟩ := hSw; go_simp; with_reducible rfl)
 simp only [Act.put, List.setIfInBounds_toArray, List.set_cons_zero, List.set_cons_succ]
 have s5 := S9.2.2.2.2.2
 have fz9 := FZ.out _ b19
 refine wpAnyK_one 12 (by kernel_rfl) rfl (fun K hK => ?_)
 go_simp
 refine hK.out _ _ (fun h => absurd rfl h) ?_
 clear hK K
 simp only [List.setIfInBounds_toArray, List.set_cons_zero, List.set_cons_succ]
 refine wpAnyK_done (by kernel_rfl) ?_ _
 obtain ⟨f1, f2, f3⟩ := FIN.out _ b19
 have RR := hide (RT.out _ (some ⟨g, 0, none⟩) cap2 f1 f2)
 have F1 := hide f1
 clear f1 f2 S9 s5 fz9 S0 FIN RT
 go_wp2_with fail
 refine RR.out.mono ?_
 rintro e' w5 ⟨a2, cap3, rfl, hp, b5⟩
 have RZ := hide (And.intro hp (bw_trans F1.out b5))
 clear hp b5 RR
 go_wp2
 go_ret
 exact ⟨_, _, rfl, RZ.out⟩
end Go.Proofs.YtjpllggchjgjpaaGreat

/-
 OWN TEXT: package flow over whole complex numbers: products of differences; a place less in them; scaled numbers.
-/
namespace Go.Proofs.YtjpllggchjgjpaaGreat
open Go.ChangeShapes Go.WideShapes Go.ChangeAt Go.RowKit
set_option linter.unusedVariables false
set_option linter.unusedSimpArgs false
attribute [local go_sem] frombits_call tobits_call run_neg run_store_cx El.run_store_fl
namespace Ff
def gp (g : Py.G) : Nat → Py.G
 | 0 => (1, 0)
 | n + 1 => Py.gm (gp g n) g
theorem one_gm (a : Py.G) : Py.gm (1, 0) a = a := by rw [Py.gm_comm, Py.gm_one]
theorem gp_add (g : Py.G) (m : Nat) : ∀ n, gp g (m + n) = Py.gm (gp g m) (gp g n)
 | 0 => (Py.gm_one _).symm
 | n + 1 => by
  show Py.gm (gp g (m + n)) g = Py.gm (gp g m) (Py.gm (gp g n) g)
  rw [gp_add g m n, Py.gm_assoc]
theorem prd_from (x : Py.G) : ∀ (zs : List Py.G) (a : Py.G), zs.foldl (fun a y => Py.gm a (Py.gs x y)) a = Py.gm a (prd zs x)
 | [], a => (Py.gm_one a).symm
 | y :: zs, a => by
  unfold prd
  rw [List.foldl_cons, List.foldl_cons, prd_from x zs, prd_from x zs (Py.gm (1, 0) (Py.gs x y)), one_gm, Py.gm_assoc]
theorem prd_app (a b : List Py.G) (x : Py.G) : prd (a ++ b) x = Py.gm (prd a x) (prd b x) := by
 have h := prd_from x b (prd a x)
 unfold prd at h ⊢
 rw [List.foldl_append]
 exact h
theorem prd_rep (z x : Py.G) : ∀ n, prd (List.replicate n z) x = gp (Py.gs x z) n
 | 0 => rfl
 | n + 1 => by
  rw [List.replicate_succ', prd_app, prd_rep z x n]
  show Py.gm _ (Py.gm (1, 0) (Py.gs x z)) = _
  rw [one_gm]
  rfl
theorem rl_cons (g : Py.G) (f : Nat) (r : List (Py.G × Nat)) : rl ((g, f) :: r) = List.replicate f g ++ rl r := by simp [rl]
theorem prd_cons (g : Py.G) (f : Nat) (r : List (Py.G × Nat)) (x : Py.G) : prd (rl ((g, f) :: r)) x = Py.gm (gp (Py.gs x g) f) (prd (rl r) x) := by rw [rl_cons, prd_app, prd_rep]
/-- so many times less at a place -/
def cut : List (Py.G × Nat) → Py.G → Nat → List (Py.G × Nat)
 | [], z, m => []
 | (g, f) :: r, z, m => if g = z then (g, f - m) :: r else (g, f) :: cut r z m
theorem cut_old : ∀ (cs : List (Py.G × Nat)) (z : Py.G) (m k : Nat), k < cs.length → Py.co (cs.map Prod.fst) k = z → (∀ j, j < k → Py.co (cs.map Prod.fst) j ≠ z) → cut cs z m = cs.set k (z, (cs.map Prod.snd).getD k 0 - m)
 | [], z, m, k, hk, _, _ => by simp at hk
 | (g, f) :: r, z, m, 0, _, he, _ => by
  have : g = z := he
  rw [cut, if_pos this, this]
  rfl
 | (g, f) :: r, z, m, k + 1, hk, he, h => by
  have h0 : g ≠ z := h 0 (by omega)
  rw [cut, if_neg h0, cut_old r z m k (by simpa using hk) he (fun j hj => h (j + 1) (by omega))]
  rfl
/-- a place is held at least so many times -/
def Held : List (Py.G × Nat) → Py.G → Nat → Prop
 | [], z, m => False
 | (g, f) :: r, z, m => if g = z then m ≤ f else Held r z m
theorem Held.at : ∀ {cs : List (Py.G × Nat)} {z : Py.G} {m : Nat}, Held cs z m → ∃ k, k < cs.length ∧ Py.co (cs.map Prod.fst) k = z ∧ (∀ j, j < k → Py.co (cs.map Prod.fst) j ≠ z) ∧ m ≤ (cs.map Prod.snd).getD k 0
 | [], z, m, h => by cases h
 | (g, f) :: r, z, m, h => by
  unfold Held at h
  split at h
  ·
   rename_i e
   exact ⟨0, by simp, e, fun j hj => absurd hj (by omega), h⟩
  ·
   rename_i e
   obtain ⟨k, h1, h2, h3, h4⟩ := Held.at h
   refine ⟨k + 1, by simpa using h1, h2, fun j hj => ?_, h4⟩
   cases j with
   | zero => exact e
   | succ j => exact h3 j (by omega)
theorem cut_len : ∀ {cs : List (Py.G × Nat)} {z : Py.G} {m : Nat}, Held cs z m → (rl (cut cs z m)).length + m = (rl cs).length
 | [], z, m, h => by cases h
 | (g, f) :: r, z, m, h => by
  unfold Held at h
  unfold cut
  split at h
  ·
   rename_i e
   rw [if_pos e, rl_cons, rl_cons]
   simp only [List.length_append, List.length_replicate]
   omega
  ·
   rename_i e
   rw [if_neg e, rl_cons, rl_cons]
   have := cut_len h
   simp only [List.length_append, List.length_replicate]
   omega
theorem cut_prd (x : Py.G) : ∀ {cs : List (Py.G × Nat)} {z : Py.G} {m : Nat}, Held cs z m → Py.gm (prd (rl (cut cs z m)) x) (gp (Py.gs x z) m) = prd (rl cs) x
 | [], z, m, h => by cases h
 | (g, f) :: r, z, m, h => by
  unfold Held at h
  unfold cut
  split at h
  ·
   rename_i e
   subst e
   rw [if_pos rfl, prd_cons, prd_cons, Py.gm_assoc, Py.gm_comm (prd (rl r) x), ← Py.gm_assoc, ← gp_add, show f - m + m = f by omega]
  ·
   rename_i e
   rw [if_neg e, prd_cons, prd_cons, Py.gm_assoc, cut_prd x h]
theorem cut_all {z : Py.G} {m : Nat} : ∀ {cs : List (Py.G × Nat)}, (∀ p ∈ cs, (p.1.1.natAbs ≤ 4 ∧ p.1.2.natAbs ≤ 4) ∧ p.2 ≤ 3) → ∀ p ∈ cut cs z m, (p.1.1.natAbs ≤ 4 ∧ p.1.2.natAbs ≤ 4) ∧ p.2 ≤ 3
 | [], _, p, hp => by simp [cut] at hp
 | (g, f) :: r, h, p, hp => by
  have h0 := h (g, f) (by simp)
  simp only [cut] at hp
  split at hp
  ·
   rcases List.mem_cons.1 hp with rfl | hp
   · exact ⟨h0.1, by have := h0.2; show f - m ≤ 3; have h1 : f ≤ 3 := this; omega⟩
   · exact h p (by simp [hp])
  ·
   rcases List.mem_cons.1 hp with rfl | hp
   · exact h0
   · exact cut_all (fun q hq => h q (by simp [hq])) p hp
theorem held_tk : ∀ {cs : List (Py.G × Nat)} {z y : Py.G} {m n : Nat}, Held cs z m → Held (tk cs y n) z m
 | [], z, y, m, n, h => by cases h
 | (g, f) :: r, z, y, m, n, h => by
  unfold Held at h
  unfold tk
  split at h
  ·
   rename_i e
   split
   · unfold Held; rw [if_pos e]; omega
   · unfold Held; rw [if_pos e]; exact h
  ·
   rename_i e
   split
   · unfold Held; rw [if_neg e]; exact h
   · unfold Held; rw [if_neg e]; exact held_tk h
theorem held_new : ∀ (cs : List (Py.G × Nat)) (z : Py.G) (n : Nat), Held (tk cs z n) z n
 | [], z, n => by unfold tk Held; rw [if_pos rfl]; exact Nat.le_refl _
 | (g, f) :: r, z, n => by
  unfold tk
  split
  ·
   rename_i e
   unfold Held; rw [if_pos e]; omega
  ·
   rename_i e
   unfold Held; rw [if_neg e]; exact held_new r z n
theorem held_cm {es : List Fe} {e : Fe} (h : e ∈ es) (hk : e.k = 3) : Held (cm es) e.at_ (e.n + 1) := by
 unfold cm
 suffices H : ∀ (es : List Fe) (cs : List (Py.G × Nat)), (Held cs e.at_ (e.n + 1) ∨ e ∈ es) → Held (es.foldl cst cs) e.at_ (e.n + 1) from H es [] (Or.inr h)
 intro es
 induction es with
 | nil => intro cs h; exact h.resolve_right (by simp)
 | cons x es ih =>
  intro cs h
  rw [List.foldl_cons]
  rcases h with h | h
  ·
   refine ih _ (Or.inl ?_)
   unfold cst
   split
   · exact held_tk h
   · exact h
  ·
   rcases List.mem_cons.1 h with rfl | h
   ·
    refine ih _ (Or.inl ?_)
    unfold cst
    rw [if_pos hk]
    exact held_new _ _ _
   · exact ih _ (Or.inr h)
def sk (m : Int) (g : Py.G) : Py.G := (g.1 * m, g.2 * m)
theorem sk_le {m : Int} {K M : Nat} {g : Py.G} (h : Py.Le g M) (hm : m.natAbs ≤ K) : Py.Le (sk m g) (K * M) := by
 have e : sk m g = Py.gm (m, 0) g := Py.gext (by unfold sk Py.gm; simp [Int.mul_comm]) (by unfold sk Py.gm; simp [Int.mul_comm])
 rw [e]
 refine Py.Le.mul ?_ h
 show m * m + 0 * 0 ≤ _
 have := Nat.mul_le_mul hm hm
 rw [← Int.natAbs_mul_self' (a := m)]
 have h2 : ((m.natAbs * m.natAbs : Nat) : Int) ≤ ((K * K : Nat) : Int) := by exact_mod_cast this
 push_cast at h2
 omega
end Ff
theorem pscale16 {c x y p K M : Nat} {m : Int} {g : Py.G} (hc : c = 1074) (hg : wC c x y g) (hp : wI c p m) (lg : Py.Le g M) (hm : m.natAbs ≤ K) (hs : K * M ≤ 9007199254740992) : ∃ r s, wC c r s (Ff.sk m g) ∧ ∀ w, Calls Tryz.prog 66 #[.complex .f64 x y, .float .f64 p] w fun e w' => e = .returned (.complex .f64 r s) ∧ w' = w := by
 have hb := (Ff.sk_le (m := m) lg hm).one
 obtain ⟨r, h1, e1⟩ := w_mul hc hg.1 hp (Nat.le_trans hb.1 hs)
 obtain ⟨s, h2, e2⟩ := w_mul hc hg.2 hp (Nat.le_trans hb.2 hs)
 refine ⟨r, s, ⟨h1, h2⟩, fun w => ?_⟩
 clear h1 h2 hb hp hg lg hs
 go_enter Tryz.func66, Tryz.ntmps66
 go_wp2
 go_ret
 exact ⟨rfl, rfl⟩
end Go.Proofs.YtjpllggchjgjpaaGreat

