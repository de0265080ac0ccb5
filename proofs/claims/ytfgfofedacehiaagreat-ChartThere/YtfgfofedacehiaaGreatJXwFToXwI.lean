/-
 OWN TEXT: an evaluator made for the kernel: numbers.
-/
import Derived.Test.YtfgfofedacehiaaGreatJXwCToXwE
namespace Go.Proofs.YtfgfofedacehiaaGreat
open Go.RowKit
set_option linter.unusedVariables false
set_option linter.unusedSimpArgs false
theorem iOp_some {f : Int → Int → (Int → Out) → Out} {F : Int → Int → Int} (hf : ∀ a b k, f a b k = k (F a b)) {x y : Value} {k : Value → Out} {out : Value × Me} (h : iOp f x y k = some out) :
  ∃ i a b, x = .int i a ∧ y = .int i b ∧ ∀ k : Value → Out, iOp f x y k = k (.int i (i.wrap (F a b))) := by
 unfold iOp at h
 obtain ⟨i, a, rfl, h1⟩ := asI_some h
 clear h
 obtain ⟨j, b, rfl, h⟩ := asI_some h1
 clear h1
 rw [eqK_eq] at h
 by_cases c : i = j
 ·
  subst c
  refine ⟨i, a, b, rfl, rfl, fun k => ?_⟩
  show Bool.rec (motive := fun _ => Out) none (f a b fun z => wrapK i z fun z => k (.int i z)) (eqK i i) = _
  rw [eqK_eq, decide_eq_true rfl]
  show f a b (fun z => wrapK i z fun z => k (.int i z)) = _
  rw [hf, wrapK_eq]
 · rw [decide_eq_false c] at h; cases h
theorem iCmp_some {f : Int → Int → Bool} {x y : Value} {k : Value → Out} {out : Value × Me} (h : iCmp f x y k = some out) :
  ∃ i a b, x = .int i a ∧ y = .int i b ∧ ∀ k : Value → Out, iCmp f x y k = k (.bool (f a b)) := by
 unfold iCmp at h
 obtain ⟨i, a, rfl, h1⟩ := asI_some h
 clear h
 obtain ⟨j, b, rfl, h⟩ := asI_some h1
 clear h1
 rw [eqK_eq] at h
 by_cases c : i = j
 ·
  subst c
  refine ⟨i, a, b, rfl, rfl, fun k => ?_⟩
  show Bool.rec (motive := fun _ => Out) none (frcB (f a b) fun t => k (.bool t)) (eqK i i) = _
  rw [eqK_eq, decide_eq_true rfl]
  show frcB (f a b) (fun t => k (.bool t)) = _
  rw [frcB_eq]
 · rw [decide_eq_false c] at h; cases h
theorem asFE_cases {α : Type} (v : Value) (z : Option α) (k : Nat → Option α) : (∃ n, v = .float .f64 n ∧ asFE v z k = k n) ∨ ((∀ n, v ≠ .float .f64 n) ∧ asFE v z k = z) := by
 cases v
 case float i n => cases i <;> first | exact Or.inl ⟨_, rfl, rfl⟩ | exact Or.inr ⟨(fun m q => by cases q), rfl⟩
 all_goals exact Or.inr ⟨(fun m q => by cases q), rfl⟩
theorem flO_shape {v : Value} {a : Nat} (h : flO v = some a) : (∃ n, v = .float .f64 n) ∨ v = nanV := by
 unfold flO at h
 split at h
 · exact Or.inl ⟨_, rfl⟩
 · exact Or.inr rfl
 · cases h
/-- where the slow way is gone -/
def SlowAt (op : BinOp) (x y : Value) : Prop := (x = nanV ∨ y = nanV) ∨ ∃ a b, x = .float .f64 a ∧ y = .float .f64 b ∧ isAr op = true ∧ floatBits op .f64 a b = none
theorem slowF_some {op : BinOp} {x y : Value} {k : Value → Out} {out : Value × Me} (h : slowF op x y k = some out) : ∃ u a b, flO x = some a ∧ flO y = some b ∧ binN op x y = some u ∧ ∀ k : Value → Out, slowF op x y k = k u := by
 unfold slowF at h
 split at h
 ·
  rename_i a b q1 q2
  split at h
  ·
   rename_i u q3
   refine ⟨u, a, b, q1, q2, ?_, fun k => ?_⟩
   · unfold binN; rw [q1, q2]; exact q3
   · unfold slowF; rw [q1, q2]; simp only [q3]; exact frc_eq _ _
  · cases h
 · cases h
theorem slow_mark {op : BinOp} {x y : Value} {a b : Nat} (h1 : flO x = some a) (h2 : flO y = some b) (h : (∀ n, x ≠ .float .f64 n) ∨ (∀ n, y ≠ .float .f64 n)) : SlowAt op x y := by
 rcases h with h | h
 ·
  rcases flO_shape h1 with ⟨n, q⟩ | q
  · exact absurd q (h n)
  · exact Or.inl (Or.inl q)
 ·
  rcases flO_shape h2 with ⟨n, q⟩ | q
  · exact absurd q (h n)
  · exact Or.inl (Or.inr q)
theorem fOp_some {op : BinOp} {f : Nat → Nat → Option Nat} (ho : isAr op = true) (hf : ∀ a b, f a b = floatBits op .f64 a b) {x y : Value} {k : Value → Out} {out : Value × Me} (h : fOp op f x y k = some out) :
  (∃ a b r, x = .float .f64 a ∧ y = .float .f64 b ∧ f a b = some r ∧ ∀ k : Value → Out, fOp op f x y k = k (.float .f64 r)) ∨ ∃ u, binN op x y = some u ∧ SlowAt op x y ∧ (∃ c, flO x = some c) ∧ ∀ k : Value → Out, fOp op f x y k = k u := by
 have e0 : ∀ k : Value → Out, fOp op f x y k = asFE x (slowF op x y k) fun a => asFE y (slowF op x y k) fun b => Option.rec (motive := fun _ => Out) (slowF op x y k) (fun r => frcN r fun r => k (.float .f64 r)) (f a b) := fun _ => rfl
 rcases asFE_cases x (slowF op x y k) (fun a => asFE y (slowF op x y k) fun b => Option.rec (motive := fun _ => Out) (slowF op x y k) (fun r => frcN r fun r => k (.float .f64 r)) (f a b)) with ⟨a, rfl, e1⟩ | ⟨n1, e1⟩
 ·
  rw [e0, e1] at h
  rcases asFE_cases y (slowF op (.float .f64 a) y k) (fun b => Option.rec (motive := fun _ => Out) (slowF op (.float .f64 a) y k) (fun r => frcN r fun r => k (.float .f64 r)) (f a b)) with ⟨b, rfl, e2⟩ | ⟨n2, e2⟩
  ·
   rw [e2] at h
   cases q : f a b with
   | none =>
    rw [q] at h
    obtain ⟨u, _, _, q1, _, q3, q4⟩ := slowF_some h
    refine Or.inr ⟨u, q3, Or.inr ⟨a, b, rfl, rfl, ho, by rw [← hf]; exact q⟩, ⟨_, q1⟩, fun k => ?_⟩
    show Option.rec (motive := fun _ => Out) (slowF op (.float .f64 a) (.float .f64 b) k) (fun r => frcN r fun r => k (.float .f64 r)) (f a b) = _
    rw [q]
    exact q4 k
   | some r =>
    refine Or.inl ⟨a, b, r, rfl, rfl, q, fun k => ?_⟩
    show Option.rec (motive := fun _ => Out) (slowF op (.float .f64 a) (.float .f64 b) k) (fun r => frcN r fun r => k (.float .f64 r)) (f a b) = _
    rw [q]
    show frcN r (fun r => k (.float .f64 r)) = _
    rw [frcN_eq]
  ·
   rw [e2] at h
   obtain ⟨u, _, _, q1, q2, q3, q4⟩ := slowF_some h
   refine Or.inr ⟨u, q3, slow_mark q1 q2 (Or.inr n2), ⟨_, q1⟩, fun k => ?_⟩
   show asFE y (slowF op (.float .f64 a) y k) _ = _
   rcases asFE_cases y (slowF op (.float .f64 a) y k) (fun b => Option.rec (motive := fun _ => Out) (slowF op (.float .f64 a) y k) (fun r => frcN r fun r => k (.float .f64 r)) (f a b)) with ⟨b, rfl, _⟩ | ⟨_, e3⟩
   · exact absurd rfl (n2 b)
   · rw [e3]; exact q4 k
 ·
  rw [e0, e1] at h
  obtain ⟨u, _, _, q1, q2, q3, q4⟩ := slowF_some h
  refine Or.inr ⟨u, q3, slow_mark q1 q2 (Or.inl n1), ⟨_, q1⟩, fun k => ?_⟩
  rw [e0]
  rcases asFE_cases x (slowF op x y k) (fun a => asFE y (slowF op x y k) fun b => Option.rec (motive := fun _ => Out) (slowF op x y k) (fun r => frcN r fun r => k (.float .f64 r)) (f a b)) with ⟨a, rfl, _⟩ | ⟨_, e3⟩
  · exact absurd rfl (n1 a)
  · rw [e3]; exact q4 k
theorem fCmp_some {op : BinOp} {f : Nat → Nat → Bool} {x y : Value} {k : Value → Out} {out : Value × Me} (h : fCmp op f x y k = some out) :
  (∃ a b, x = .float .f64 a ∧ y = .float .f64 b ∧ ∀ k : Value → Out, fCmp op f x y k = k (.bool (f a b))) ∨ ∃ u, binN op x y = some u ∧ SlowAt op x y ∧ (∃ c, flO x = some c) ∧ ∀ k : Value → Out, fCmp op f x y k = k u := by
 have e0 : ∀ k : Value → Out, fCmp op f x y k = asFE x (slowF op x y k) fun a => asFE y (slowF op x y k) fun b => frcB (f a b) fun t => k (.bool t) := fun _ => rfl
 rcases asFE_cases x (slowF op x y k) (fun a => asFE y (slowF op x y k) fun b => frcB (f a b) fun t => k (.bool t)) with ⟨a, rfl, e1⟩ | ⟨n1, e1⟩
 ·
  rw [e0, e1] at h
  rcases asFE_cases y (slowF op (.float .f64 a) y k) (fun b => frcB (f a b) fun t => k (.bool t)) with ⟨b, rfl, e2⟩ | ⟨n2, e2⟩
  ·
   refine Or.inl ⟨a, b, rfl, rfl, fun k => ?_⟩
   show frcB (f a b) (fun t => k (.bool t)) = _
   rw [frcB_eq]
  ·
   rw [e2] at h
   obtain ⟨u, _, _, q1, q2, q3, q4⟩ := slowF_some h
   refine Or.inr ⟨u, q3, slow_mark q1 q2 (Or.inr n2), ⟨_, q1⟩, fun k => ?_⟩
   show asFE y (slowF op (.float .f64 a) y k) (fun b => frcB (f a b) fun t => k (.bool t)) = _
   rcases asFE_cases y (slowF op (.float .f64 a) y k) (fun b => frcB (f a b) fun t => k (.bool t)) with ⟨b, rfl, _⟩ | ⟨_, e3⟩
   · exact absurd rfl (n2 b)
   · rw [e3]; exact q4 k
 ·
  rw [e0, e1] at h
  obtain ⟨u, _, _, q1, q2, q3, q4⟩ := slowF_some h
  refine Or.inr ⟨u, q3, slow_mark q1 q2 (Or.inl n1), ⟨_, q1⟩, fun k => ?_⟩
  rw [e0]
  rcases asFE_cases x (slowF op x y k) (fun a => asFE y (slowF op x y k) fun b => frcB (f a b) fun t => k (.bool t)) with ⟨a, rfl, _⟩ | ⟨_, e3⟩
  · exact absurd rfl (n1 a)
  · rw [e3]; exact q4 k
theorem binI_fast {op : BinOp} {f : Value → Value → (Value → Out) → Out} (hb : binI op = some f) {x y : Value} {k : Value → Out} {out : Value × Me} (h : f x y k = some out) : ∃ u, (∀ k, f x y k = k u) ∧ fastBin op x y = some u := by
 unfold binI at hb
 split at hb <;> cases hb
 · obtain ⟨i, a, b, rfl, rfl, e⟩ := iOp_some addZ_eq h; exact ⟨_, e, by simp [fastBin, wrapF_eq]⟩
 · obtain ⟨i, a, b, rfl, rfl, e⟩ := iOp_some subZ_eq h; exact ⟨_, e, by simp [fastBin, wrapF_eq]⟩
 · obtain ⟨i, a, b, rfl, rfl, e⟩ := iOp_some mulZ_eq h; exact ⟨_, e, by simp [fastBin, wrapF_eq]⟩
 · obtain ⟨i, a, b, rfl, rfl, e⟩ := iCmp_some h; exact ⟨_, e, by simp [fastBin, eqZ_eq]⟩
 · obtain ⟨i, a, b, rfl, rfl, e⟩ := iCmp_some h; exact ⟨_, e, by simp only [fastBin, eqZ_eq, if_true]; rfl⟩
 · obtain ⟨i, a, b, rfl, rfl, e⟩ := iCmp_some h; exact ⟨_, e, by simp [fastBin, ltZ_eq]⟩
 · obtain ⟨i, a, b, rfl, rfl, e⟩ := iCmp_some h; exact ⟨_, e, by simp [fastBin, leZ_eq]⟩
 · obtain ⟨i, a, b, rfl, rfl, e⟩ := iCmp_some h; exact ⟨_, e, by simp [fastBin, ltZ_eq]⟩
 · obtain ⟨i, a, b, rfl, rfl, e⟩ := iCmp_some h; exact ⟨_, e, by simp [fastBin, leZ_eq]⟩
theorem binF_fast {op : BinOp} {f : Value → Value → (Value → Out) → Out} (hb : binF op = some f) {x y : Value} {k : Value → Out} {out : Value × Me} (h : f x y k = some out) : ∃ u, (∀ k, f x y k = k u) ∧ (fastBin op x y = some u ∨ (binN op x y = some u ∧ SlowAt op x y ∧ ∃ c, flO x = some c)) := by
 unfold binF at hb
 split at hb <;> cases hb
 ·
  rcases fOp_some rfl (fun a b => by rw [← addR_eq]; rfl) h with ⟨a, b, r, rfl, rfl, q, e⟩ | ⟨u, q1, q2, q3, e⟩
  · exact ⟨_, e, Or.inl (by simp [fastBin, q])⟩
  · exact ⟨u, e, Or.inr ⟨q1, q2, q3⟩⟩
 ·
  rcases fOp_some rfl (fun a b => by rw [← subR_eq]; rfl) h with ⟨a, b, r, rfl, rfl, q, e⟩ | ⟨u, q1, q2, q3, e⟩
  · exact ⟨_, e, Or.inl (by simp [fastBin, q])⟩
  · exact ⟨u, e, Or.inr ⟨q1, q2, q3⟩⟩
 ·
  rcases fOp_some rfl (fun a b => by rw [← mulR_eq]; rfl) h with ⟨a, b, r, rfl, rfl, q, e⟩ | ⟨u, q1, q2, q3, e⟩
  · exact ⟨_, e, Or.inl (by simp [fastBin, q])⟩
  · exact ⟨u, e, Or.inr ⟨q1, q2, q3⟩⟩
 ·
  rcases fOp_some (f := FloatKind.f64.format.div) rfl (fun a b => rfl) h with ⟨a, b, r, rfl, rfl, q, e⟩ | ⟨u, q1, q2, q3, e⟩
  ·
   have q' : FloatKind.f64.format.div a b = some r := q
   exact ⟨_, e, Or.inl (by simp [fastBin, q'])⟩
  · exact ⟨u, e, Or.inr ⟨q1, q2, q3⟩⟩
 ·
  rcases fCmp_some h with ⟨a, b, rfl, rfl, e⟩ | ⟨u, q1, q2, q3, e⟩
  · exact ⟨_, e, Or.inl (by simp [fastBin])⟩
  · exact ⟨u, e, Or.inr ⟨q1, q2, q3⟩⟩
 ·
  rcases fCmp_some h with ⟨a, b, rfl, rfl, e⟩ | ⟨u, q1, q2, q3, e⟩
  · exact ⟨_, e, Or.inl (by simp [fastBin])⟩
  · exact ⟨u, e, Or.inr ⟨q1, q2, q3⟩⟩
 ·
  rcases fCmp_some h with ⟨a, b, rfl, rfl, e⟩ | ⟨u, q1, q2, q3, e⟩
  · exact ⟨_, e, Or.inl (by simp [fastBin])⟩
  · exact ⟨u, e, Or.inr ⟨q1, q2, q3⟩⟩
 ·
  rcases fCmp_some h with ⟨a, b, rfl, rfl, e⟩ | ⟨u, q1, q2, q3, e⟩
  · exact ⟨_, e, Or.inl (by simp [fastBin])⟩
  · exact ⟨u, e, Or.inr ⟨q1, q2, q3⟩⟩
 ·
  rcases fCmp_some h with ⟨a, b, rfl, rfl, e⟩ | ⟨u, q1, q2, q3, e⟩
  · exact ⟨_, e, Or.inl (by simp [fastBin])⟩
  · exact ⟨u, e, Or.inr ⟨q1, q2, q3⟩⟩
 ·
  rcases fCmp_some h with ⟨a, b, rfl, rfl, e⟩ | ⟨u, q1, q2, q3, e⟩
  · exact ⟨_, e, Or.inl (by simp [fastBin])⟩
  · exact ⟨u, e, Or.inr ⟨q1, q2, q3⟩⟩
/-- the slow way is what the operation comes to -/
theorem evB_float {P : Program} {e : Operand → Option Value} {op : BinOp} {t yt : TypeId} {x y : Operand} {v : Value} {a : Nat} {dst : Option Tmp} {type : TypeId} {pos : String} {after : Array Edge} {guard : Option (Nat × Bool)} (h : e x = some v) (hf : flO v = some a) : evB P e ⟨dst, .binOp op t x y yt, type, pos, after, guard⟩ = none := by
 unfold evB
 simp only [h]
 rcases flO_shape hf with ⟨n, rfl⟩ | rfl
 · split <;> first | rfl | simp_all
 · split <;> first | rfl | simp_all [nanV]
theorem drew_ne (w : World) : w.drew ≠ w := by
 intro h
 have : w.drawn + 1 = w.drawn := congrArg World.drawn h
 omega
theorem evPN_slow {P : Program} {a : Act} {op : BinOp} {t yt : TypeId} {x y : Operand} {v w u : Value} {dst : Option Tmp} {type : TypeId} {pos : String} {after : Array Edge} {guard : Option (Nat × Bool)} (h1 : evalO a x = some v) (h2 : evalO a y = some w) (hu : binN op v w = some u) (hs : SlowAt op v w) (hv : ∃ c, flO v = some c) : evPN P (evalO a) ⟨dst, .binOp op t x y yt, type, pos, after, guard⟩ = some u := by
 obtain ⟨c, hv⟩ := hv
 have hn : evNaN P (evalO a) ⟨dst, .binOp op t x y yt, type, pos, after, guard⟩ = some u := by
  unfold evNaN
  simp only [h1, h2]
  exact hu
 rw [evPN_nan ?_]; exact hn
 have hflat : flatP P (evalO a) ⟨dst, .binOp op t x y yt, type, pos, after, guard⟩ = none := by
  rcases hs with (rfl | rfl) | ⟨m, n, rfl, rfl, ho, hb⟩
  · exact flatP_none (x := x) (by simp [Op.operands]) h1 rfl
  · exact flatP_none (x := y) (by simp [Op.operands]) h2 rfl
  ·
   cases q : flatP P (evalO a) ⟨dst, .binOp op t x y yt, type, pos, after, guard⟩ with
   | none => rfl
   | some z =>
    exfalso
    have k : OpsRel [] (evalO a) (fun z => (evalO a z).getD undef) (.binOp op t x y yt) := by
     intro z hz v hv
     simp [Op.operands] at hz
     rcases hz with rfl | rfl
     · rw [h1] at hv; cases hv; simp only [h1, Option.getD_some]; exact VRel.of_flat _ rfl
     · rw [h2] at hv; cases hv; simp only [h2, Option.getD_some]; exact VRel.of_flat _ rfl
    obtain ⟨v', r1, _⟩ := flatP_sound q k
    obtain ⟨z', _, e⟩ := arith_nan P op m n (default : World) ho hb
    have hg : (eqGuard op t x y (.float .f64 m) (.float .f64 n)).run P (default : World) = .ok () default := by
     unfold eqGuard
     split <;> rfl
    have e3 : (execOp (fun z => (evalO a z).getD undef) (Oper.mk dst (.binOp op t x y yt) type pos after guard)).run P (default : World) = .ok (.value (.float .f64 z')) (default : World).drew := by
     show (do pure (.value (← (do eqGuard op t x y ((evalO a x).getD undef) ((evalO a y).getD undef); binOp op t ((evalO a x).getD undef) ((evalO a y).getD undef)))) : Sem Next).run P default = _
     rw [h1, h2, Option.getD_some, Option.getD_some, Sem.run_bind, Sem.run_bind, hg, Result.andThen_ok]
     have e4 : (binOp op t (.float .f64 m) (.float .f64 n)).run P (default : World) = .ok (.float .f64 z') (default : World).drew := by
      rw [← e]
      rcases isAr_or ho with rfl | rfl | rfl | rfl <;> simp [binOp]
     rw [e4]
     rfl
    have k2 := r1 (default : World)
    rw [e3] at k2
    injection k2 with _ k3
    exact drew_ne _ k3
 unfold evP
 rw [hflat]
 have e2 : evS P (evalO a) ⟨dst, .binOp op t x y yt, type, pos, after, guard⟩ = none := rfl
 rw [e2]
 exact evB_float h1 hv
-- bits
theorem uOp_some {f : Nat → Nat → Nat} {x y : Value} {k : Value → Out} {out : Value × Me} (h : uOp f x y k = some out) :
  ∃ m n : Nat, x = .int .u64 (m : Int) ∧ y = .int .u64 (n : Int) ∧ m < 18446744073709551616 ∧ n < 18446744073709551616 ∧ ∀ k : Value → Out, uOp f x y k = k (.int .u64 ((f m n : Nat) : Int)) := by
 unfold uOp at h
 split at h
 ·
  rename_i a
  cases a with
  | negSucc m => cases h
  | ofNat m =>
   obtain ⟨j, b, rfl, h1⟩ := asI_some h
   clear h
   have h := h1
   clear h1
   cases b with
   | negSucc n => cases h
   | ofNat n =>
    have e1 : ∀ (q : Bool) (u v : Out), (bif q then u else v) = cond q u v := fun _ _ _ => rfl
    simp only [eqK_eq, ble_iff] at h
    by_cases c : (decide (j = IntKind.u64) && decide (m ≤ 18446744073709551615) && decide (n ≤ 18446744073709551615)) = true
    ·
     have c' := c
     simp only [Bool.and_eq_true, decide_eq_true_eq] at c
     obtain ⟨⟨rfl, c2⟩, c3⟩ := c
     refine ⟨m, n, rfl, rfl, by omega, by omega, fun k => ?_⟩
     show cond (eqK .u64 .u64 && Nat.ble m 18446744073709551615 && Nat.ble n 18446744073709551615) _ _ = _
     rw [eqK_eq, ble_iff, ble_iff, c', cond_true, frcN_eq]
     rfl
    · rw [Bool.eq_false_iff.2 c] at h; cases h
 · cases h
theorem shlU_some {x y : Value} {k : Value → Out} {out : Value × Me} (h : shlU x y k = some out) :
  ∃ (m n : Nat) (j : IntKind), x = .int .u64 (m : Int) ∧ y = .int j (n : Int) ∧ ∀ k : Value → Out, shlU x y k = k (.int .u64 ((m * 2 ^ (min n 64) % 18446744073709551616 : Nat) : Int)) := by
 unfold shlU at h
 split at h
 ·
  rename_i a
  cases a with
  | negSucc m => cases h
  | ofNat m =>
   obtain ⟨j, b, rfl, h1⟩ := asI_some h
   clear h
   have h := h1
   clear h1
   cases b with
   | negSucc n => cases h
   | ofNat n =>
    refine ⟨m, n, j, rfl, rfl, fun k => ?_⟩
    show cond (Nat.ble n 64) _ _ = _
    rw [ble_iff]
    by_cases c : n ≤ 64
    · rw [decide_eq_true c, cond_true, frcN_eq, Nat.min_eq_left c]; rfl
    ·
     rw [decide_eq_false c, cond_false, Nat.min_eq_right (by omega)]
     have : m * 2 ^ 64 % 18446744073709551616 = 0 := by
      have : (2 : Nat) ^ 64 = 18446744073709551616 := by decide
      rw [this]; exact Nat.mul_mod_left m _
     rw [this]; rfl
 · cases h
theorem shrU_some {x y : Value} {k : Value → Out} {out : Value × Me} (h : shrU x y k = some out) :
  ∃ (m n : Nat) (j : IntKind), x = .int .u64 (m : Int) ∧ y = .int j (n : Int) ∧ n ≤ 64 ∧ ∀ k : Value → Out, shrU x y k = k (.int .u64 ((m / 2 ^ n : Nat) : Int)) := by
 unfold shrU at h
 obtain ⟨i, a, rfl, h1⟩ := asI_some h
 clear h
 have h := h1
 clear h1
 simp only [eqK_eq] at h
 by_cases c0 : i = .u64
 ·
  subst c0
  rw [decide_eq_true rfl, cond_true] at h
  cases a with
  | negSucc m => cases h
  | ofNat m =>
   obtain ⟨j, b, rfl, h1⟩ := asI_some h
   clear h
   have h := h1
   clear h1
   cases b with
   | negSucc n => cases h
   | ofNat n =>
    have h' : cond (Nat.ble n 64) (frcN (Nat.div m (Nat.pow 2 n)) fun z => k (.int .u64 (.ofNat z))) none = some out := h
    rw [ble_iff] at h'
    by_cases c : n ≤ 64
    ·
     refine ⟨m, n, j, rfl, rfl, c, fun k => ?_⟩
     show cond (eqK .u64 .u64) (cond (Nat.ble n 64) (frcN (Nat.div m (Nat.pow 2 n)) fun z => k (.int .u64 (.ofNat z))) none) none = _
     rw [eqK_eq, ble_iff, decide_eq_true rfl, cond_true, decide_eq_true c, cond_true, frcN_eq]
     rfl
    · rw [decide_eq_false c] at h'; cases h'
 · rw [decide_eq_false c0] at h; cases h
theorem ofInt_u64 {m : Nat} (h : m < 18446744073709551616) : (BitVec.ofInt 64 (m : Int)).toNat = m := by
 rw [BitVec.toNat_ofInt]
 have : (2 : Nat) ^ 64 = 18446744073709551616 := by decide
 rw [this]
 omega
theorem run_bits {P : Program} {op : BinOp} {m n r : Nat} (hm : m < 18446744073709551616) (hn : n < 18446744073709551616) (hr : r < 18446744073709551616)
  (hop : (op = .and ∧ r = m &&& n) ∨ (op = .or ∧ r = m ||| n) ∨ (op = .xor ∧ r = m ^^^ n) ∨ (op = .andNot ∧ r = m &&& (18446744073709551615 - n))) (t : TypeId) (ox oy : Operand) :
  pureRun P (do eqGuard op t ox oy (.int .u64 (m : Int)) (.int .u64 (n : Int)); binOp op t (.int .u64 (m : Int)) (.int .u64 (n : Int))) = some (.int .u64 (r : Int)) := by
 have w : IntKind.u64.wrap (r : Int) = (r : Int) := wrap_u64_in (by omega) (by omega)
 have hb : IntKind.u64.bits = 64 := rfl
 have e1 := ofInt_u64 hm
 have e2 := ofInt_u64 hn
 rcases hop with ⟨rfl, rfl⟩ | ⟨rfl, rfl⟩ | ⟨rfl, rfl⟩ | ⟨rfl, rfl⟩
 ·
  show some (Value.int .u64 (IntKind.u64.wrap ((BitVec.ofInt 64 (m : Int) &&& BitVec.ofInt 64 (n : Int)).toNat))) = _
  rw [BitVec.toNat_and, e1, e2, w]
 ·
  show some (Value.int .u64 (IntKind.u64.wrap ((BitVec.ofInt 64 (m : Int) ||| BitVec.ofInt 64 (n : Int)).toNat))) = _
  rw [BitVec.toNat_or, e1, e2, w]
 ·
  show some (Value.int .u64 (IntKind.u64.wrap ((BitVec.ofInt 64 (m : Int) ^^^ BitVec.ofInt 64 (n : Int)).toNat))) = _
  rw [BitVec.toNat_xor, e1, e2, w]
 ·
  show some (Value.int .u64 (IntKind.u64.wrap ((BitVec.ofInt 64 (m : Int) &&& ~~~ BitVec.ofInt 64 (n : Int)).toNat))) = _
  rw [BitVec.toNat_and, BitVec.toNat_not, e1, e2]
  have : (2 : Nat) ^ 64 - 1 - n = 18446744073709551615 - n := by
   have : (2 : Nat) ^ 64 = 18446744073709551616 := by decide
   rw [this]
  rw [this, w]
theorem run_shl {P : Program} (m n : Nat) (j : IntKind) (t : TypeId) (ox oy : Operand) :
  pureRun P (do eqGuard .shl t ox oy (.int .u64 (m : Int)) (.int j (n : Int)); binOp .shl t (.int .u64 (m : Int)) (.int j (n : Int))) = some (.int .u64 ((m * 2 ^ (min n 64) % 18446744073709551616 : Nat) : Int)) := by
 show pureRun P (Op.shift .shl .u64 (m : Int) j (n : Int)) = _
 unfold Op.shift
 rw [if_neg (by omega)]
 show some (Value.int .u64 (IntKind.u64.wrap ((m : Int) * 2 ^ (min (n : Int).toNat 64)))) = _
 rw [IntKind.wrap_u64, Int.toNat_natCast]
 have : (m : Int) * 2 ^ min n 64 = ((m * 2 ^ min n 64 : Nat) : Int) := by simp
 rw [this]
 rfl
theorem run_shr {P : Program} (m n : Nat) (hn : n ≤ 64) (j : IntKind) (t : TypeId) (ox oy : Operand) :
  pureRun P (do eqGuard .shr t ox oy (.int .u64 (m : Int)) (.int j (n : Int)); binOp .shr t (.int .u64 (m : Int)) (.int j (n : Int))) = some (.int .u64 ((m / 2 ^ n : Nat) : Int)) := by
 show pureRun P (Op.shift .shr .u64 (m : Int) j (n : Int)) = _
 unfold Op.shift
 rw [if_neg (by omega)]
 show some (Value.int .u64 ((m : Int).fdiv (2 ^ (min (n : Int).toNat 64)))) = _
 rw [Int.toNat_natCast, Nat.min_eq_left hn]
 have : (2 : Int) ^ n = ((2 ^ n : Nat) : Int) := by simp
 rw [this, Int.fdiv_eq_ediv_of_nonneg _ (Int.natCast_nonneg _)]
 rfl
theorem binU_run {P : Program} {op : BinOp} {f : Value → Value → (Value → Out) → Out} (hb : binU op = some f) {x y : Value} {k : Value → Out} {out : Value × Me} (h : f x y k = some out) (t : TypeId) (ox oy : Operand) :
  ∃ u, (∀ k, f x y k = k u) ∧ pureRun P (do eqGuard op t ox oy x y; binOp op t x y) = some u ∧ flat x = true ∧ flat y = true ∧ flat u = true := by
 unfold binU at hb
 have p64 : (2 : Nat) ^ 64 = 18446744073709551616 := by decide
 split at hb <;> cases hb
 ·
  obtain ⟨m, n, rfl, rfl, hm, hn, e⟩ := uOp_some h
  exact ⟨_, e, run_bits hm hn (Nat.lt_of_le_of_lt Nat.and_le_left hm) (Or.inl ⟨rfl, rfl⟩) t ox oy, rfl, rfl, rfl⟩
 ·
  obtain ⟨m, n, rfl, rfl, hm, hn, e⟩ := uOp_some h
  exact ⟨_, e, run_bits hm hn (by rw [← p64] at *; exact Nat.or_lt_two_pow hm hn) (Or.inr (Or.inl ⟨rfl, rfl⟩)) t ox oy, rfl, rfl, rfl⟩
 ·
  obtain ⟨m, n, rfl, rfl, hm, hn, e⟩ := uOp_some h
  exact ⟨_, e, run_bits hm hn (by rw [← p64] at *; exact Nat.xor_lt_two_pow hm hn) (Or.inr (Or.inr (Or.inl ⟨rfl, rfl⟩))) t ox oy, rfl, rfl, rfl⟩
 ·
  obtain ⟨m, n, rfl, rfl, hm, hn, e⟩ := uOp_some h
  exact ⟨_, e, run_bits hm hn (Nat.lt_of_le_of_lt Nat.and_le_left hm) (Or.inr (Or.inr (Or.inr ⟨rfl, rfl⟩))) t ox oy, rfl, rfl, rfl⟩
 ·
  obtain ⟨m, n, j, rfl, rfl, e⟩ := shlU_some h
  exact ⟨_, e, run_shl m n j t ox oy, rfl, rfl, rfl⟩
 ·
  obtain ⟨m, n, j, rfl, rfl, hn, e⟩ := shrU_some h
  exact ⟨_, e, run_shr m n hn j t ox oy, rfl, rfl, rfl⟩
end Go.Proofs.YtfgfofedacehiaaGreat

/-
 OWN TEXT: an evaluator made for the kernel: reads, writes, new blocks.
-/
namespace Go.Proofs.YtfgfofedacehiaaGreat
open Go.RowKit
set_option linter.unusedVariables false
set_option linter.unusedSimpArgs false
theorem cutK_eq {α β : Type} : ∀ (l : List β) (o n : Nat) (k : List β → Option α), cutK l o n k = if o + n ≤ l.length then k ((l.drop o).take n) else none
 | [], 0, 0, k => rfl
 | [], 0, n + 1, k => rfl
 | [], o + 1, n, k => by rw [if_neg (by simp)]; rfl
 | x :: l, 0, 0, k => rfl
 | x :: l, 0, n + 1, k => by
  show cutK l 0 n (fun r => k (x :: r)) = _
  rw [cutK_eq l 0 n]
  by_cases c : 0 + n ≤ l.length
  · rw [if_pos c, if_pos (by simp; omega)]; rfl
  · rw [if_neg c, if_neg (by simp; omega)]
 | x :: l, o + 1, n, k => by
  show cutK l o n k = _
  rw [cutK_eq l o n]
  by_cases c : o + n ≤ l.length
  · rw [if_pos c, if_pos (by simp; omega)]; rfl
  · rw [if_neg c, if_neg (by simp; omega)]
theorem layK_eq {α β : Type} : ∀ (l : List β) (o : Nat) (m : List β) (k : List β → Option α), layK l o m k = if o + m.length ≤ l.length then k (l.take o ++ m ++ l.drop (o + m.length)) else none
 | [], 0, [], k => rfl
 | [], 0, y :: m, k => by rw [if_neg (by simp)]; rfl
 | [], o + 1, m, k => by rw [if_neg (by simp)]; rfl
 | x :: l, 0, [], k => rfl
 | x :: l, 0, y :: m, k => by
  show layK l 0 m (fun r => k (y :: r)) = _
  rw [layK_eq l 0 m]
  by_cases c : 0 + m.length ≤ l.length
  · rw [if_pos c, if_pos (by simp; omega)]; simp
  · rw [if_neg c, if_neg (by simp; omega)]
 | x :: l, o + 1, m, k => by
  show layK l o m (fun r => k (x :: r)) = _
  rw [layK_eq l o m]
  by_cases c : o + m.length ≤ l.length
  ·
   rw [if_pos c, if_pos (by simp; omega)]
   congr 1
   rw [show o + 1 + m.length = (o + m.length) + 1 by omega]
   simp
  · rw [if_neg c, if_neg (by simp; omega)]
theorem cellsK_eq {α : Type} (v : Value) (k : List Value → Option α) : cellsK v k = (cellsO v).bind k := by
 unfold cellsK
 cases v <;> rfl
theorem beq_iff (m n : Nat) : Nat.beq m n = decide (m = n) := by
 by_cases c : m = n
 · subst c; rw [Nat.beq_refl]; simp
 · rw [decide_eq_false c]; exact Bool.eq_false_iff.2 fun q => c (Nat.eq_of_beq_eq_true q)
/-- reads -/
theorem ldK_some {P : Program} {n : Nat} {row : Bool} {v : Value} {M : Me} {k : Value → Out} {out : Value × Me} (h : ldK n row v M k = some out) :
  ∃ b o u, v = .pointer (some ⟨b, o, none⟩) ∧ (∀ k : Value → Out, ldK n row v M k = k u) ∧
   ((∃ blk, (toMem M)[b]? = some (some blk) ∧ ((row = true ∧ o + n ≤ blk.cells.length ∧ u = .agg ⟨(blk.cells.drop o).take n⟩) ∨ (row = false ∧ blk.cells[o]? = some u))) ∨
    ((toMem M)[b]? = some none ∧ row = false ∧ ∃ x, roTab[b]? = some x ∧ x.2[o]? = some u)) := by
 unfold ldK at h
 obtain ⟨b, o, rfl, h1⟩ := ptrK_some h
 clear h
 have e : Nat.blt b M.n = decide (b < M.n) := blt_iff _ _
 rw [e] at h1
 have key : ∀ k : Value → Out, ldK n row (.pointer (some ⟨b, o, none⟩)) M k = Bool.rec (motive := fun _ => Out) none (Option.rec (motive := fun _ => Out)
  (Bool.rec (motive := fun _ => Out) (nthK roTab b fun x => nthK x.2 o k) none row)
  (fun blk => Bool.rec (motive := fun _ => Out) (nthK blk.cells o k) (cutK blk.cells o n fun l => k (.agg ⟨l⟩)) row)
  (getB M b)) (decide (b < M.n)) := fun k => by rw [← e]; rfl
 by_cases c : b < M.n
 ·
  rw [decide_eq_true c] at h1 key
  have hmem : (toMem M)[b]? = some (getB M b) := by rw [toMem_get, if_pos c]
  cases q : getB M b with
  | none =>
   rw [q] at h1 key hmem
   cases row with
   | true => cases h1
   | false =>
    have h2 : nthK roTab b (fun x => nthK x.2 o k) = some out := h1
    rw [nthK_eq] at h2
    obtain ⟨x, e1, h3⟩ := bind_some h2
    rw [nthK_eq] at h3
    obtain ⟨u, e2, h4⟩ := bind_some h3
    refine ⟨b, o, u, rfl, fun k => ?_, Or.inr ⟨hmem, rfl, x, e1, e2⟩⟩
    rw [key]
    show nthK roTab b (fun x => nthK x.2 o k) = _
    rw [nthK_eq, e1]
    show nthK x.2 o k = _
    rw [nthK_eq, e2]; rfl
  | some blk =>
   rw [q] at h1 key hmem
   cases row with
   | true =>
    have h2 : cutK blk.cells o n (fun l => k (.agg ⟨l⟩)) = some out := h1
    rw [cutK_eq] at h2
    split at h2
    ·
     rename_i c2
     refine ⟨b, o, _, rfl, fun k => ?_, Or.inl ⟨blk, hmem, Or.inl ⟨rfl, c2, rfl⟩⟩⟩
     rw [key]
     show cutK blk.cells o n (fun l => k (.agg ⟨l⟩)) = _
     rw [cutK_eq, if_pos c2]
    · cases h2
   | false =>
    have h2 : nthK blk.cells o k = some out := h1
    rw [nthK_eq] at h2
    obtain ⟨u, e2, h4⟩ := bind_some h2
    refine ⟨b, o, u, rfl, fun k => ?_, Or.inl ⟨blk, hmem, Or.inr ⟨rfl, e2⟩⟩⟩
    rw [key]
    show nthK blk.cells o k = _
    rw [nthK_eq, e2]; rfl
 · rw [decide_eq_false c] at h1; cases h1
/-- writes -/
theorem stM_some {n : Nat} {v u : Value} {M : Me} (hM : Can M) {k : Me → Out} {out : Value × Me} (h : stM n v u M k = some out) :
  ∃ b o l blk, v = .pointer (some ⟨b, o, none⟩) ∧ cellsO u = some l ∧ (toMem M)[b]? = some (some blk) ∧ l.length = n ∧ o + l.length ≤ blk.cells.length ∧
   ∃ M', Can M' ∧ toMem M' = (toMem M).set b (some ⟨blk.cells.take o ++ l ++ blk.cells.drop (o + l.length), blk.elem⟩) ∧ ∀ k : Me → Out, stM n v u M k = k M' := by
 have key : ∀ (b o : Nat) (k : Me → Out), stM n (.pointer (some ⟨b, o, none⟩)) u M k = (cellsO u).bind fun l => Bool.rec (motive := fun _ => Out) none (Option.rec (motive := fun _ => Out) none
  (fun blk => layK blk.cells o l fun c => setM M b (some ⟨c, blk.elem⟩) k) (getB M b)) (Nat.beq l.length n && Nat.blt b M.n) := fun b o k => by
  rw [← cellsK_eq]; rfl
 have h0 := h
 unfold stM at h
 obtain ⟨b, o, rfl, _⟩ := ptrK_some h
 clear h
 rw [key] at h0
 obtain ⟨l, hl, h1⟩ := bind_some h0
 rw [beq_iff, blt_iff] at h1
 by_cases c : (decide (l.length = n) && decide (b < M.n)) = true
 ·
  have c' := c
  simp only [Bool.and_eq_true, decide_eq_true_eq] at c
  obtain ⟨c1, c2⟩ := c
  rw [c'] at h1
  have hmem : (toMem M)[b]? = some (getB M b) := by rw [toMem_get, if_pos c2]
  cases q : getB M b with
  | none => rw [q] at h1; cases h1
  | some blk =>
   rw [q] at h1 hmem
   have h2 : layK blk.cells o l (fun c => setM M b (some ⟨c, blk.elem⟩) k) = some out := h1
   rw [layK_eq] at h2
   split at h2
   ·
    rename_i c3
    obtain ⟨k1, k2⟩ := hM.set c2 (some ⟨blk.cells.take o ++ l ++ blk.cells.drop (o + l.length), blk.elem⟩)
    refine ⟨b, o, l, blk, rfl, hl, hmem, c1, c3, _, k1, k2, fun k => ?_⟩
    rw [key, hl]
    show Bool.rec (motive := fun _ => Out) none (Option.rec (motive := fun _ => Out) none (fun blk => layK blk.cells o l fun c => setM M b (some ⟨c, blk.elem⟩) k) (getB M b)) (Nat.beq l.length n && Nat.blt b M.n) = _
    rw [beq_iff, blt_iff, c', q]
    show layK blk.cells o l (fun c => setM M b (some ⟨c, blk.elem⟩) k) = _
    rw [layK_eq, if_pos c3, setM_eq]
   · cases h2
 · rw [Bool.eq_false_iff.2 c] at h1; cases h1
/-- how memory turns -/
theorem dlM_some {d : Dl} {M : Me} (hM : Can M) {k : Me → Out} {out : Value × Me} (h : dlM d M k = some out) : ∃ M', Can M' ∧ toMem M' = d.app (toMem M) ∧ ∀ k : Me → Out, dlM d M k = k M' := by
 unfold dlM at h
 cases d with
 | same => exact ⟨M, hM, rfl, fun k => rfl⟩
 | push b =>
  have h1 : frcK b (fun b => pushM M b fun M => k M) = some out := h
  rw [frcK_eq] at h1
  obtain ⟨c, e⟩ := pushM_some h1
  obtain ⟨k1, k2⟩ := hM.push c b
  refine ⟨_, k1, k2, fun k => ?_⟩
  show frcK b (fun b => pushM M b fun M => k M) = _
  rw [frcK_eq, e]
 | set i b =>
  have h1 : frcK b (fun b => cond (Nat.blt i M.n) (setM M i (some b) k) none) = some out := h
  rw [frcK_eq, blt_iff] at h1
  by_cases c : i < M.n
  ·
   obtain ⟨k1, k2⟩ := hM.set c (some b)
   refine ⟨_, k1, k2, fun k => ?_⟩
   show frcK b (fun b => cond (Nat.blt i M.n) (setM M i (some b) k) none) = _
   rw [frcK_eq, blt_iff, decide_eq_true c, cond_true, setM_eq]
  · rw [decide_eq_false c] at h1; cases h1
 | turn i b =>
  have h1 : frcK b (fun b => cond (Nat.blt i M.n) (setM M i none fun M => pushM M b fun M => k M) none) = some out := h
  rw [frcK_eq, blt_iff] at h1
  by_cases c : i < M.n
  ·
   rw [decide_eq_true c, cond_true, setM_eq] at h1
   obtain ⟨k1, k2⟩ := hM.set c none
   obtain ⟨c2, e⟩ := pushM_some h1
   obtain ⟨k3, k4⟩ := k1.push c2 b
   refine ⟨_, k3, by rw [k4, k2]; rfl, fun k => ?_⟩
   show frcK b (fun b => cond (Nat.blt i M.n) (setM M i none fun M => pushM M b fun M => k M) none) = _
   rw [frcK_eq, blt_iff, decide_eq_true c, cond_true, setM_eq, e]
  · rw [decide_eq_false c] at h1; cases h1
 | whole B => cases h
/-- memory as a function -/
theorem getM_eq (M : Me) : getM M = fun b => (toMem M)[b]? := by
 funext b
 unfold getM
 rw [blt_iff, toMem_get]
 by_cases c : b < M.n
 · rw [decide_eq_true c, if_pos c]; rfl
 · rw [decide_eq_false c, if_neg c]; rfl
theorem partsG_eq (A : Mem) (size n : Nat) (v : Value) : partsG (fun b => A[b]?) size n v = partsO A size n v := by
 unfold partsG partsO
 rfl
theorem growG_eq (P : Program) (A : Mem) (i : TypeInfo) (z : Value) (el : TypeId) (a : Option Addr) (len cap n : Nat) (news : List Value) : growG P (fun b => A[b]?) A.length i z el a len cap n news = growD P A i z el a len cap n news := by
 unfold growG growD
 rw [partsG_eq]
 rfl
theorem zeroG_eq (P : Program) (A : Mem) (el : TypeId) (b off : Nat) (sp : Option Nat) (len cap n : Nat) : zeroG P (fun b => A[b]?) el b off sp len cap n = zeroD P A el b off sp len cap n := by
 unfold zeroG zeroD
 rfl
theorem appendG_eq (P : Program) (A : Mem) (e : Operand → Option Value) (o : Oper) : appendG P (fun b => A[b]?) A.length e o = appendD P A e o := by
 unfold appendG appendD
 simp only [partsG_eq, growG_eq, zeroG_eq]
 rfl
theorem copyG_eq (P : Program) (A : Mem) (e : Operand → Option Value) (o : Oper) : copyG P (fun b => A[b]?) e o = copyD P A e o := by
 unfold copyG copyD
 simp only [partsG_eq]
 rfl
end Go.Proofs.YtfgfofedacehiaaGreat

/-
 OWN TEXT: an evaluator made for the kernel: every operation that was made ready does what the operation does.
-/
namespace Go.Proofs.YtfgfofedacehiaaGreat
open Go.RowKit
set_option linter.unusedVariables false
set_option linter.unusedSimpArgs false
/-- functions without a body: they answer as they are told -/
def XnOk (P : Program) (ex : Xn) : Prop := ∀ (f : FuncId) (g : List Value → (Value → Out) → Out), ex f = some g → ∀ (vs : List Value) (k : Value → Out) (out : Value × Me), g vs k = some out →
 ∃ v, (∀ k, g vs k = k v) ∧ flat v = true ∧ (∀ u ∈ vs, flat u = true) ∧ pureRun P (callFunc f ⟨vs⟩) = some (.value v)
section
variable {P : Program} {Ks : Caller} {o : Oper} {res : Rs}
theorem resT_some : ∀ {l : List Nat} {xs : List Sc}, resT res l = some xs → xs.length = l.length ∧ ∀ (i : Nat) (t : Nat), l[i]? = some t → ∃ sc, xs[i]? = some sc ∧ res (.tmp t) = some sc
 | [], xs, h => by cases h; exact ⟨rfl, fun i t e => by simp at e⟩
 | t :: l, xs, h => by
  simp only [resT] at h
  split at h
  ·
   rename_i x ys q1 q2
   cases h
   obtain ⟨h1, h2⟩ := resT_some q2
   refine ⟨by simp [h1], fun i u e => ?_⟩
   cases i with
   | zero => simp at e; subst e; exact ⟨x, rfl, q1⟩
   | succ i => simpa using h2 i u (by simpa using e)
  · cases h
theorem resO2_some : ∀ {l : List Operand} {xs : List Sc}, resO2 res l = some xs → ∀ {a : Act} {T : Tm} {L : Rg}, Fits res a T L → argsO (evalO a) l = some (xs.map fun x => x T L)
 | [], xs, h, _, _, _, _ => by cases h; rfl
 | t :: l, xs, h, a, T, L, hf => by
  simp only [resO2] at h
  split at h
  ·
   rename_i x ys q1 q2
   cases h
   simp only [argsO, hf t x q1, resO2_some q2 hf, List.map_cons]
  · cases h
theorem tvT_at {a : Act} {T : Tm} {L : Rg} : ∀ (l : List Nat) (xs : List Sc), xs.length = l.length → (∀ (i t : Nat), l[i]? = some t → ∃ sc, xs[i]? = some sc ∧ evalO a (.tmp t) = some (sc T L)) → ∀ t ∈ l, evalL.tvT (l.zip (xs.map fun x => x T L)) t = evalO a (.tmp t)
 | [], xs, _, _, t, ht => by cases ht
 | u :: l, [], hl, _, _, _ => by simp at hl
 | u :: l, x :: xs, hl, h, t, ht => by
  simp only [List.map_cons, List.zip_cons_cons, evalL.tvT]
  rw [beq_iff]
  by_cases c : u = t
  ·
   subst c
   obtain ⟨sc, e1, e2⟩ := h 0 u rfl
   simp at e1
   subst e1
   rw [decide_eq_true rfl, cond_true, e2]
  ·
   rw [decide_eq_false c, cond_false]
   have ht' : t ∈ l := by
    rcases List.mem_cons.1 ht with e | e
    · exact absurd e.symm c
    · exact e
   exact tvT_at l xs (by simpa using hl) (fun i v e => by obtain ⟨sc, e1, e2⟩ := h (i + 1) v (by simpa using e); exact ⟨sc, by simpa using e1, e2⟩) t ht'
theorem mem_tmpsOf : ∀ {l : List Operand} {t : Nat}, .tmp t ∈ l → t ∈ tmpsOf l
 | [], t, h => by cases h
 | x :: l, t, h => by
  rcases List.mem_cons.1 h with e | e
  · subst e; simp [tmpsOf]
  ·
   have := mem_tmpsOf e
   cases x <;> simp [tmpsOf, this]
theorem evalL_at {xs : List Sc} (h : resT res (tmpsOf o.op.operands.toList) = some xs) {a : Act} {T : Tm} {L : Rg} (hf : Fits res a T L) : ∀ x ∈ o.op.operands, evalL ((tmpsOf o.op.operands.toList).zip (xs.map fun x => x T L)) x = evalO a x := by
 obtain ⟨h1, h2⟩ := resT_some h
 intro x hx
 cases x with
 | tmp t =>
  exact tvT_at _ xs h1 (fun i t e => by obtain ⟨sc, e1, e2⟩ := h2 i t e; exact ⟨sc, e1, hf _ _ e2⟩) t (mem_tmpsOf (by simpa using hx))
 | _ => rfl
theorem mkL_some {k : List Sc → XO} {c : XO} (h : mkL res o k = some c) : ∃ xs, resT res (tmpsOf o.op.operands.toList) = some xs ∧ c = k xs := by
 unfold mkL at h
 split at h
 · rename_i q; cases h; exact ⟨_, q, rfl⟩
 · cases h
theorem gen_ok {c : XO} (h : mkL res o (xPn (genP P o)) = some c) (hp : ∀ a A, evOp Ks P A (evalO a) o = (evPN P (evalO a) o).map (·, A)) : OpOk P Ks c o res := by
 obtain ⟨xs, h1, rfl⟩ := mkL_some h
 intro K T M L k out a hK hM hfit h
 have h' : scsK xs T L (fun vs => genP P o vs fun u => k u M) = some out := h
 rw [scsK_eq] at h'
 have ce := evPN_congr (P := P) (evalL_at h1 hfit)
 unfold genP at h'
 rw [ce] at h'
 cases q : evPN P (evalO a) o with
 | none => rw [q] at h'; cases h'
 | some v =>
  refine ⟨v, M, hM, fun K k => ?_, by rw [hp, q]; rfl⟩
  show scsK xs T L (fun vs => genP P o vs fun u => k u M) = _
  rw [scsK_eq]
  unfold genP
  rw [ce, q]
  exact frc_eq _ _
theorem genF_ok {c : XO} (h : mkL res o (xPn (genF P o)) = some c) (hp : ∀ a A, evOp Ks P A (evalO a) o = (flatP P (evalO a) o).map (·, A)) : OpOk P Ks c o res := by
 obtain ⟨xs, h1, rfl⟩ := mkL_some h
 intro K T M L k out a hK hM hfit h
 have h' : scsK xs T L (fun vs => genF P o vs fun u => k u M) = some out := h
 rw [scsK_eq] at h'
 have ce := flatP_congr (P := P) (evalL_at h1 hfit)
 unfold genF at h'
 rw [ce] at h'
 cases q : flatP P (evalO a) o with
 | none => rw [q] at h'; cases h'
 | some v =>
  refine ⟨v, M, hM, fun K k => ?_, by rw [hp, q]; rfl⟩
  show scsK xs T L (fun vs => genF P o vs fun u => k u M) = _
  rw [scsK_eq]
  unfold genF
  rw [ce, q]
  exact frc_eq _ _
theorem genN_ok {c : XO} (h : mkL res o (xNw (genN P o)) = some c) (hp : ∀ a A, evOp Ks P A (evalO a) o = (evN P A.length (evalO a) o).map fun x => (x.1, A ++ [some x.2])) : OpOk P Ks c o res := by
 obtain ⟨xs, h1, rfl⟩ := mkL_some h
 intro K T M L k out a hK hM hfit h
 have h' : scsK xs T L (fun vs => genN P o M.n vs fun v b => pushM M b fun M => k v M) = some out := h
 rw [scsK_eq] at h'
 have ce := fun id => evN_congr (P := P) (id := id) (evalL_at h1 hfit)
 unfold genN at h'
 rw [ce] at h'
 cases q : evN P M.n (evalO a) o with
 | none => rw [q] at h'; cases h'
 | some x =>
  obtain ⟨v, b⟩ := x
  rw [q] at h'
  simp only [frc_eq, frcK_eq] at h'
  obtain ⟨c1, e⟩ := pushM_some h'
  obtain ⟨k1, k2⟩ := hM.push c1 b
  refine ⟨v, _, k1, fun K k => ?_, by rw [hp, toMem_len, q, k2]; rfl⟩
  show scsK xs T L (fun vs => genN P o M.n vs fun v b => pushM M b fun M => k v M) = _
  rw [scsK_eq]
  unfold genN
  rw [ce, q]
  simp only [frc_eq, frcK_eq, e]
theorem appendD_congr {A : Mem} {e e' : Operand → Option Value} (he : ∀ x ∈ o.op.operands, e x = e' x) : appendD P A e o = appendD P A e' o := by
 obtain ⟨dst, op, type, pos, after, guard⟩ := o
 cases op
 case call c =>
  obtain ⟨callee, args, argTypes⟩ := c
  have ha : ∀ x ∈ args.toList, e x = e' x := fun x hx => he x (by simp only [Op.operands, Call.operands]; simp at hx ⊢; exact Or.inr hx)
  simp only [appendD]
  split
  ·
   rename_i d s dT sT qa qt
   rw [ha d (by rw [qa]; simp), ha s (by rw [qa]; simp)]
  · rfl
 all_goals rfl
theorem genA_ok {c : XO} (h : mkL res o (xMm (genA P o)) = some c) (hp : ∀ a A, evOp Ks P A (evalO a) o = evAppend P A (evalO a) o) : OpOk P Ks c o res := by
 obtain ⟨xs, h1, rfl⟩ := mkL_some h
 intro K T M L k out a hK hM hfit h
 have h' : scsK xs T L (fun vs => genA P o M vs k) = some out := h
 rw [scsK_eq] at h'
 unfold genA at h'
 rw [getM_eq, ← toMem_len, appendG_eq, appendD_congr (evalL_at h1 hfit)] at h'
 cases q : appendD P (toMem M) (evalO a) o with
 | none => rw [q] at h'; cases h'
 | some x =>
  obtain ⟨v, d⟩ := x
  rw [q] at h'
  simp only [frc_eq] at h'
  obtain ⟨M', k1, k2, k3⟩ := dlM_some hM h'
  refine ⟨v, M', k1, fun K k => ?_, by rw [hp]; unfold evAppend; rw [q, k2]; rfl⟩
  show scsK xs T L (fun vs => genA P o M vs k) = _
  rw [scsK_eq]
  unfold genA
  rw [getM_eq, ← toMem_len, appendG_eq, appendD_congr (evalL_at h1 hfit), q]
  simp only [frc_eq, k3]
theorem copyD_congr {A : Mem} {e e' : Operand → Option Value} (he : ∀ x ∈ o.op.operands, e x = e' x) : copyD P A e o = copyD P A e' o := by
 obtain ⟨dst, op, type, pos, after, guard⟩ := o
 cases op
 case call c =>
  obtain ⟨callee, args, argTypes⟩ := c
  have ha : ∀ x ∈ args.toList, e x = e' x := fun x hx => he x (by simp only [Op.operands, Call.operands]; simp at hx ⊢; exact Or.inr hx)
  simp only [copyD]
  split
  ·
   rename_i d s dT sT qa qt
   rw [ha d (by rw [qa]; simp), ha s (by rw [qa]; simp)]
  · rfl
 all_goals rfl
theorem genC_ok {c : XO} (h : mkL res o (xMm (genC P o)) = some c) (hp : ∀ a A, evOp Ks P A (evalO a) o = evCopy P A (evalO a) o) : OpOk P Ks c o res := by
 obtain ⟨xs, h1, rfl⟩ := mkL_some h
 intro K T M L k out a hK hM hfit h
 have h' : scsK xs T L (fun vs => genC P o M vs k) = some out := h
 rw [scsK_eq] at h'
 unfold genC at h'
 rw [getM_eq, copyG_eq, copyD_congr (evalL_at h1 hfit)] at h'
 cases q : copyD P (toMem M) (evalO a) o with
 | none => rw [q] at h'; cases h'
 | some x =>
  obtain ⟨v, d⟩ := x
  rw [q] at h'
  simp only [frc_eq] at h'
  obtain ⟨M', k1, k2, k3⟩ := dlM_some hM h'
  refine ⟨v, M', k1, fun K k => ?_, by rw [hp]; unfold evCopy; rw [q, k2]; rfl⟩
  show scsK xs T L (fun vs => genC P o M vs k) = _
  rw [scsK_eq]
  unfold genC
  rw [getM_eq, copyG_eq, copyD_congr (evalL_at h1 hfit), q]
  simp only [frc_eq, k3]
end
end Go.Proofs.YtfgfofedacehiaaGreat

/-
 OWN TEXT: an evaluator made for the kernel: every operation that was made ready does what the operation does.
-/
namespace Go.Proofs.YtfgfofedacehiaaGreat
open Go.RowKit
set_option linter.unusedVariables false
set_option linter.unusedSimpArgs false
def KBody (P : Program) (Ks : Caller) : Prop := ∀ (f : FuncId) (vs : List Value) (A : Mem) (r : Value × Mem), Ks f vs A = some r → ∃ fn, P.funcs[f]? = some fn ∧ fn.body.isSome = true
section
variable {P : Program} {Ks : Caller} {res : Rs} {dst : Option Tmp} {type : TypeId} {pos : String} {after : Array Edge} {guard : Option (Nat × Bool)}
theorem trBin_ok {ex : Xn} {op : BinOp} {t yt : TypeId} {x y : Operand} {c : XO} (h : trBin op t x y P ex res ⟨dst, .binOp op t x y yt, type, pos, after, guard⟩ = some c) : OpOk P Ks c ⟨dst, .binOp op t x y yt, type, pos, after, guard⟩ res := by
 unfold trBin at h
 split at h
 ·
  rename_i f qf
  obtain ⟨sx, sy, h1, h2, rfl⟩ := mk2_some h
  have fast : ∀ {a : Act} {v w u : Value}, evalO a x = some v → evalO a y = some w → fastBin op v w = some u → ∀ A, evOp Ks P A (evalO a) ⟨dst, .binOp op t x y yt, type, pos, after, guard⟩ = some (u, A) := by
   intro a v w u e1 e2 hu A
   refine evOp_flat rfl (fastP_ok ?_) (fun _ q => by cases q) (fun _ q => by cases q) (fun _ _ q => by cases q) A
   unfold fastP
   simp only [e1, e2, hu]
  have run : ∀ {a : Act} {v w u : Value}, evalO a x = some v → evalO a y = some w → pureRun P (do eqGuard op t x y v w; binOp op t v w) = some u → flat v = true → flat w = true → flat u = true → ∀ A, evOp Ks P A (evalO a) ⟨dst, .binOp op t x y yt, type, pos, after, guard⟩ = some (u, A) := by
   intro a v w u e1 e2 hr f1 f2 f3 A
   refine evOp_flat rfl (flatP_of rfl ?_ ?_ f3) (fun _ q => by cases q) (fun _ q => by cases q) (fun _ _ q => by cases q) A
   ·
    intro z hz
    simp [Op.operands] at hz
    rcases hz with rfl | rfl
    · exact ⟨v, e1, f1⟩
    · exact ⟨w, e2, f2⟩
   ·
    simp only [execOp, e1, e2, Option.getD_some]
    rw [pureRun_bind, hr]
    rfl
  refine ok_p2 h1 h2 fun a v w k out e1 e2 hk => ?_
  unfold binX at qf
  split at qf
  ·
   split at qf
   ·
    rename_i f' q'
    cases qf
    obtain ⟨u, k1, k2⟩ := binI_fast q' hk
    exact ⟨u, k1, fast e1 e2 k2⟩
   ·
    obtain ⟨u, k1, k2, f1, f2, f3⟩ := binU_run (P := P) qf hk t x y
    exact ⟨u, k1, run e1 e2 k2 f1 f2 f3⟩
  ·
   obtain ⟨u, k1, k2⟩ := binI_fast qf hk
   exact ⟨u, k1, fast e1 e2 k2⟩
  ·
   obtain ⟨u, k1, k2 | ⟨k2, k3, k4⟩⟩ := binF_fast qf hk
   · exact ⟨u, k1, fast e1 e2 k2⟩
   · exact ⟨u, k1, fun A => by simp only [evOp, evPN_slow e1 e2 k2 k3 k4]; rfl⟩
  · cases qf
 · exact gen_ok h fun a A => rfl
theorem pickK_some {x y z : Value} {k : Value → Out} {out : Value × Me} (h : pickK x y z k = some out) : ∃ b, x = .bool b ∧ flat y = true ∧ flat z = true ∧ ∀ k : Value → Out, pickK x y z k = k (if b then y else z) := by
 unfold pickK at h
 split at h
 ·
  rename_i b
  by_cases c : (flat y && flat z) = true
  ·
   have c' := c
   rw [Bool.and_eq_true] at c
   refine ⟨b, rfl, c.1, c.2, fun k => ?_⟩
   show cond (flat y && flat z) (cond b (k y) (k z)) none = _
   rw [c', cond_true]
   cases b <;> rfl
  · rw [Bool.eq_false_iff.2 c] at h; cases h
 · cases h
theorem trPick_ok {ex : Xn} {x y z : Operand} {c : XO} (h : trPick x y z P ex res ⟨dst, .pick x y z, type, pos, after, guard⟩ = some c) : OpOk P Ks c ⟨dst, .pick x y z, type, pos, after, guard⟩ res := by
 unfold trPick at h
 obtain ⟨sx, sy, sz, h1, h2, h3, rfl⟩ := mk3_some h
 refine ok_p3 h1 h2 h3 fun a v w q k out e1 e2 e3 hk => ?_
 obtain ⟨b, rfl, f1, f2, k1⟩ := pickK_some hk
 refine ⟨_, k1, evOp_flat rfl (flatP_of rfl ?_ ?_ (by cases b <;> simp [f1, f2])) (fun _ q => by cases q) (fun _ q => by cases q) (fun _ _ q => by cases q)⟩
 ·
  intro u hu
  simp [Op.operands] at hu
  rcases hu with rfl | rfl | rfl
  · exact ⟨_, e1, rfl⟩
  · exact ⟨_, e2, f1⟩
  · exact ⟨_, e3, f2⟩
 ·
  simp only [execOp, e1, e2, e3, Option.getD_some]
  cases b <;> rfl
theorem notK_some {x : Value} {k : Value → Out} {out : Value × Me} (h : notK x k = some out) : ∃ b, x = .bool b ∧ ∀ k : Value → Out, notK x k = k (.bool !b) := by
 unfold notK at h
 split at h
 ·
  rename_i b
  refine ⟨b, rfl, fun k => ?_⟩
  show frcB (!b) (fun t => k (.bool t)) = _
  rw [frcB_eq]
 · cases h
theorem trUn_ok {ex : Xn} {op : UnOp} {t : TypeId} {x : Operand} {c : XO} (h : trUn op x P ex res ⟨dst, .unOp op t x, type, pos, after, guard⟩ = some c) : OpOk P Ks c ⟨dst, .unOp op t x, type, pos, after, guard⟩ res := by
 unfold trUn at h
 cases op with
 | not =>
  obtain ⟨sx, h1, rfl⟩ := mk1_some (k := xP1 notK) h
  refine ok_p1 h1 fun a v k out e1 hk => ?_
  obtain ⟨b, rfl, k1⟩ := notK_some hk
  refine ⟨_, k1, evOp_flat rfl (flatP_of rfl ?_ ?_ rfl) (fun _ q => by cases q) (fun _ q => by cases q) (fun _ _ q => by cases q)⟩
  ·
   intro u hu
   simp [Op.operands] at hu
   subst hu
   exact ⟨_, e1, rfl⟩
  ·
   simp only [execOp, e1, Option.getD_some]
   rfl
 | neg => exact gen_ok h fun a A => rfl
 | xor => exact gen_ok h fun a A => rfl
 | plus => exact gen_ok h fun a A => rfl
theorem convI_some {i : IntKind} {x : Value} {k : Value → Out} {out : Value × Me} (h : convI i x k = some out) : ∃ j n, x = .int j n ∧ ∀ k : Value → Out, convI i x k = k (.int i (i.wrap n)) := by
 unfold convI at h
 obtain ⟨j, n, rfl, h1⟩ := asI_some h
 refine ⟨j, n, rfl, fun k => ?_⟩
 show wrapK i n (fun z => k (.int i z)) = _
 rw [wrapK_eq]
theorem trConv_ok {ex : Xn} {s d : TypeId} {x : Operand} {c : XO} (h : trConv s d x P ex res ⟨dst, .convert s d x, type, pos, after, guard⟩ = some c) : OpOk P Ks c ⟨dst, .convert s d x, type, pos, after, guard⟩ res := by
 unfold trConv at h
 split at h
 ·
  rename_i i j q1 q2
  rw [frcI_eq] at h
  obtain ⟨sx, h1, rfl⟩ := mk1_some h
  refine ok_p1 h1 fun a v k out e1 hk => ?_
  obtain ⟨i', n, rfl, k1⟩ := convI_some hk
  refine ⟨_, k1, evOp_flat rfl (fastP_ok ?_) (fun _ q => by cases q) (fun _ q => by cases q) (fun _ _ q => by cases q)⟩
  unfold fastP
  simp only [e1, fastConv, q1, q2, ← wrapF_eq]
 · exact gen_ok h fun a A => rfl
theorem trLoad_ok {ex : Xn} {t : TypeId} {x : Operand} {c : XO} (h : trLoad t x P ex res ⟨dst, .load t x, type, pos, after, guard⟩ = some c) : OpOk P Ks c ⟨dst, .load t x, type, pos, after, guard⟩ res := by
 unfold trLoad at h
 split at h
 ·
  rename_i d qd
  cases hrow : d.isRow with
  | true =>
   rw [hrow, cond_true] at h
   split at h
   ·
    rename_i i qi
    rw [frcN_eq] at h
    obtain ⟨sx, h1, rfl⟩ := mk1_some h
    intro K T M L k out a hK hM hfit hk
    have hk' : ldK i.size true (sx T L) M (fun u => k u M) = some out := hk
    obtain ⟨b, off, u, e1, e2, e3⟩ := ldK_some (P := P) hk'
    have ex := hfit x sx h1
    rw [e1] at ex
    refine ⟨u, M, hM, fun _ k => e2 _, ?_⟩
    rcases e3 with ⟨blk, hb, ⟨_, c1, rfl⟩ | ⟨q, _⟩⟩ | ⟨_, q, _⟩
    · simp only [evOp, evR, ex, hb, qd, hrow, if_true, qi, c1, Option.map_some]
    · cases q
    · cases q
   · cases h
  | false =>
   rw [hrow, cond_false] at h
   obtain ⟨sx, h1, rfl⟩ := mk1_some h
   intro K T M L k out a hK hM hfit hk
   have hk' : ldK 0 false (sx T L) M (fun u => k u M) = some out := hk
   obtain ⟨b, off, u, e1, e2, e3⟩ := ldK_some (P := P) hk'
   have ex := hfit x sx h1
   rw [e1] at ex
   refine ⟨u, M, hM, fun _ k => e2 _, ?_⟩
   rcases e3 with ⟨blk, hb, ⟨q, _⟩ | ⟨_, c1⟩⟩ | ⟨hb, _, y, c1, c2⟩
   · cases q
   · simp only [evOp, evR, ex, hb, qd, hrow, c1, Bool.false_eq_true, if_false, Option.map_some]
   · simp only [evOp, evR, ex, hb, qd, hrow, c1, c2, Bool.false_eq_true, if_false, Option.map_some]
 · cases h
theorem trStore_ok {ex : Xn} {t : TypeId} {x y : Operand} {c : XO} (h : trStore t x y P ex res ⟨dst, .store t x y, type, pos, after, guard⟩ = some c) : OpOk P Ks c ⟨dst, .store t x y, type, pos, after, guard⟩ res := by
 unfold trStore at h
 split at h
 ·
  rename_i i qi
  rw [frcN_eq] at h
  obtain ⟨sx, sy, h1, h2, rfl⟩ := mk2_some h
  intro K T M L k out a hK hM hfit hk
  have hk' : stM i.size (sx T L) (sy T L) M (fun M => k undef M) = some out := hk
  obtain ⟨b, off, l, blk, e1, e2, e3, e4, e5, M', k1, k2, k3⟩ := stM_some hM hk'
  have ex := hfit x sx h1
  have ey := hfit y sy h2
  rw [e1] at ex
  refine ⟨undef, M', k1, fun _ k => k3 _, ?_⟩
  simp only [evOp, evStore, storeD, ex, ey, e3, e2, qi]
  rw [if_pos ⟨e4, e5⟩, k2]
  rfl
 · cases h
theorem trAlloc_ok {ex : Xn} {el : TypeId} {c : XO} (h : trAlloc el P ex res ⟨dst, .alloc el, type, pos, after, guard⟩ = some c) : OpOk P Ks c ⟨dst, .alloc el, type, pos, after, guard⟩ res := by
 unfold trAlloc at h
 split at h
 ·
  rename_i i qi
  split at h
  ·
   rename_i z qz
   split at h
   ·
    rename_i hf
    rw [frcL_eq] at h
    cases h
    intro K T M L k out a hK hM hfit hk
    have hk' : pushM M ⟨z.cells.toList, el⟩ (fun M' => k (.pointer (some ⟨M.n, 0, none⟩)) M') = some out := hk
    obtain ⟨c1, e⟩ := pushM_some hk'
    obtain ⟨k1, k2⟩ := hM.push c1 ⟨z.cells.toList, el⟩
    refine ⟨_, _, k1, fun _ k => e _, ?_⟩
    simp only [evOp, evN, qi, qz, hf, if_true, Option.map_some, toMem_len, k2]
   · cases h
  · cases h
 · cases h
theorem trBox_ok {ex : Xn} {el : TypeId} {x : Operand} {c : XO} (h : trBox el x P ex res ⟨dst, .box el x, type, pos, after, guard⟩ = some c) : OpOk P Ks c ⟨dst, .box el x, type, pos, after, guard⟩ res := by
 unfold trBox at h
 obtain ⟨sx, h1, rfl⟩ := mk1_some h
 intro K T M L k out a hK hM hfit hk
 have key : ∀ (K : KC) (k : Value → Me → Out), xNw (boxK el) [sx] K T M L k = (cellsO (sx T L)).bind fun l => pushM M ⟨l, el⟩ fun M' => k (.pointer (some ⟨M.n, 0, none⟩)) M' := fun K k => by
  rw [← cellsK_eq]; rfl
 rw [key] at hk
 obtain ⟨l, hl, h2⟩ := bind_some hk
 obtain ⟨c1, e⟩ := pushM_some h2
 obtain ⟨k1, k2⟩ := hM.push c1 ⟨l, el⟩
 refine ⟨_, _, k1, fun _ k => by rw [key, hl]; exact e _, ?_⟩
 simp only [evOp, evN, hfit x sx h1, hl, Option.map_some, toMem_len, k2]
theorem trExt_ok {ex : Xn} {x : Operand} {i : Nat} {c : XO} (h : trExt x i P ex res ⟨dst, .extract x i, type, pos, after, guard⟩ = some c) : OpOk P Ks c ⟨dst, .extract x i, type, pos, after, guard⟩ res := by
 unfold trExt at h
 obtain ⟨sx, h1, rfl⟩ := mk1_some h
 refine ok_p1 h1 fun a v k out e1 hk => ?_
 unfold extK at hk
 split at hk
 ·
  rename_i l
  rw [nthK_eq] at hk
  obtain ⟨u, e2, _⟩ := bind_some hk
  refine ⟨u, fun k => ?_, fun A => ?_⟩
  ·
   show nthK l i k = _
   rw [nthK_eq, e2]; rfl
  · simp only [evOp, evS, e1, e2, Option.map_some]
 · cases hk
theorem evP_S {o : Oper} {a : Act} {u : Value} (h1 : flatP P (evalO a) o = none) (h2 : evS P (evalO a) o = some u) : evPN P (evalO a) o = some u := by
 unfold evPN evP
 rw [h1, h2]
theorem trFld_ok {ex : Xn} {s : TypeId} {x : Operand} {f : Nat} {c : XO} (h : trFld s x f P ex res ⟨dst, .fieldAddr s x f, type, pos, after, guard⟩ = some c) : OpOk P Ks c ⟨dst, .fieldAddr s x f, type, pos, after, guard⟩ res := by
 unfold trFld at h
 split at h
 ·
  rename_i fields qu
  split at h
  ·
   rename_i fl qf
   rw [nth_eq, Array.getElem?_toList] at qf
   split at h
   ·
    rename_i hz
    rw [frcN_eq] at h
    obtain ⟨sx, h1, rfl⟩ := mk1_some h
    refine ok_p1 h1 fun a v k out e1 hk => ?_
    unfold fldK at hk
    obtain ⟨b, off, rfl, _⟩ := ptrK_some hk
    refine ⟨.pointer (some ⟨b, off + fl.offset, none⟩), fun k => ?_, fun A => ?_⟩
    ·
     show frcN (Nat.add off fl.offset) (fun o => k (.pointer (some ⟨b, o, none⟩))) = _
     rw [frcN_eq]; rfl
    ·
     have : evS P (evalO a) ⟨dst, .fieldAddr s x f, type, pos, after, guard⟩ = some (.pointer (some ⟨b, off + fl.offset, none⟩)) := by
      simp only [evS, e1, qu, qf]
      rw [if_pos hz]
     simp only [evOp, evP_S (flatP_none (x := x) (by simp [Op.operands]) e1 rfl) this, Option.map_some]
   · cases h
  · cases h
 · cases h
theorem trIdx_ok {ex : Xn} {t : TypeId} {x ix : Operand} {c : XO} (h : trIdx t x ix P ex res ⟨dst, .indexAddr t x ix, type, pos, after, guard⟩ = some c) : OpOk P Ks c ⟨dst, .indexAddr t x ix, type, pos, after, guard⟩ res := by
 unfold trIdx at h
 split at h
 ·
  rename_i el qu
  split at h
  ·
   rename_i hz
   rw [frcN_eq] at h
   obtain ⟨sx, sy, h1, h2, rfl⟩ := mk2_some h
   refine ok_p2 h1 h2 fun a v w k out e1 e2 hk => ?_
   unfold idxK at hk
   split at hk
   ·
    rename_i ad len cap
    obtain ⟨i, n, rfl, h3⟩ := asI_some hk
    cases n with
    | negSucc m => cases h3
    | ofNat m =>
     have h4 : cond (Nat.blt m len) (frcN (Nat.add ad.off (Nat.mul m (szOf P el))) fun o => k (.pointer (some ⟨ad.block, o, none⟩))) none = some out := h3
     rw [blt_iff] at h4
     by_cases c : m < len
     ·
      refine ⟨.pointer (some ⟨ad.block, ad.off + m * szOf P el, none⟩), fun k => ?_, fun A => ?_⟩
      ·
       show cond (Nat.blt m len) (frcN (Nat.add ad.off (Nat.mul m (szOf P el))) fun o => k (.pointer (some ⟨ad.block, o, none⟩))) none = _
       rw [blt_iff, decide_eq_true c, cond_true, frcN_eq]; rfl
      ·
       have : evS P (evalO a) ⟨dst, .indexAddr t x ix, type, pos, after, guard⟩ = some (.pointer (some ⟨ad.block, ad.off + m * szOf P el, none⟩)) := by
        obtain ⟨b, off, sp⟩ := ad
        simp only [evS, e1, e2, qu]
        rw [if_pos ⟨Int.natCast_nonneg _, by show (m : Int) < _; omega, hz⟩]
        rfl
       simp only [evOp, evP_S (flatP_none (x := x) (by simp [Op.operands]) e1 rfl) this, Option.map_some]
     · rw [decide_eq_false c] at h4; cases h4
   · cases hk
  · cases h
 ·
  rename_i len el qu
  split at h
  ·
   rename_i hz
   rw [frcN_eq, frcN_eq] at h
   obtain ⟨sx, sy, h1, h2, rfl⟩ := mk2_some h
   refine ok_p2 h1 h2 fun a v w k out e1 e2 hk => ?_
   unfold idxA at hk
   obtain ⟨b, off, rfl, h3⟩ := ptrK_some hk
   obtain ⟨i, n, rfl, h4⟩ := asI_some h3
   cases n with
   | negSucc m => cases h4
   | ofNat m =>
    have h5 : cond (Nat.blt m len) (frcN (Nat.add off (Nat.mul m (szOf P el))) fun o => k (.pointer (some ⟨b, o, none⟩))) none = some out := h4
    rw [blt_iff] at h5
    by_cases c : m < len
    ·
     refine ⟨.pointer (some ⟨b, off + m * szOf P el, none⟩), fun k => ?_, fun A => ?_⟩
     ·
      show cond (Nat.blt m len) (frcN (Nat.add off (Nat.mul m (szOf P el))) fun o => k (.pointer (some ⟨b, o, none⟩))) none = _
      rw [blt_iff, decide_eq_true c, cond_true, frcN_eq]; rfl
     ·
      have : evS P (evalO a) ⟨dst, .indexAddr t x ix, type, pos, after, guard⟩ = some (.pointer (some ⟨b, off + m * szOf P el, none⟩)) := by
       simp only [evS, e1, e2, qu]
       rw [if_pos ⟨Int.natCast_nonneg _, by show (m : Int) < _; omega, hz⟩]
       rfl
      simp only [evOp, evP_S (flatP_none (x := x) (by simp [Op.operands]) e1 rfl) this, Option.map_some]
    · rw [decide_eq_false c] at h5; cases h5
  · cases h
 · cases h
end
end Go.Proofs.YtfgfofedacehiaaGreat

