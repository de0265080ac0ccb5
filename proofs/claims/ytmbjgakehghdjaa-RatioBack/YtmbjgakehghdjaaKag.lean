/-
  OWN TEXT: an evaluator made for the kernel: what its rows of eight hold.
-/
import Derived.Test.YtmbjgakehghdjaaKaf
namespace Go.Proofs.Ytmbjgakehghdjaa
open Go.RowKit
set_option linter.unusedVariables false
set_option linter.unusedSimpArgs false
theorem nthK_eq {α β : Type} : ∀ (L : List β) (n : Nat) (k : β → Option α), nthK L n k = (L[n]?).bind k
  | [], n, k => by cases n <;> rfl
  | x :: L, 0, k => rfl
  | x :: L, n + 1, k => (nthK_eq L n k).trans (by simp)
section
variable {α β : Type}
def g8 (i : Nat) (x : N8 β) : β := match i with
  | 0 => x.c0
  | 1 => x.c1
  | 2 => x.c2
  | 3 => x.c3
  | 4 => x.c4
  | 5 => x.c5
  | 6 => x.c6
  | _ => x.c7
def p8 (i : Nat) (v : β) (x : N8 β) : N8 β := match i with
  | 0 => { x with c0 := v }
  | 1 => { x with c1 := v }
  | 2 => { x with c2 := v }
  | 3 => { x with c3 := v }
  | 4 => { x with c4 := v }
  | 5 => { x with c5 := v }
  | 6 => { x with c6 := v }
  | _ => { x with c7 := v }
theorem g8_p8 {i j : Nat} (hi : i < 8) (hj : j < 8) (v : β) (x : N8 β) : g8 j (p8 i v x) = if i = j then v else g8 j x := by
  rcases i with _ | _ | _ | _ | _ | _ | _ | _ | i <;> first | (exfalso; omega) | (rcases j with _ | _ | _ | _ | _ | _ | _ | _ | j <;> first | (exfalso; omega) | rfl)
theorem g8_ext {x y : N8 β} (h : ∀ i, i < 8 → g8 i x = g8 i y) : x = y := by
  obtain ⟨x0, x1, x2, x3, x4, x5, x6, x7⟩ := x
  obtain ⟨y0, y1, y2, y3, y4, y5, y6, y7⟩ := y
  have h0 : x0 = y0 := h 0 (by decide)
  have h1 : x1 = y1 := h 1 (by decide)
  have h2 : x2 = y2 := h 2 (by decide)
  have h3 : x3 = y3 := h 3 (by decide)
  have h4 : x4 = y4 := h 4 (by decide)
  have h5 : x5 = y5 := h 5 (by decide)
  have h6 : x6 = y6 := h 6 (by decide)
  have h7 : x7 = y7 := h 7 (by decide)
  subst h0 h1 h2 h3 h4 h5 h6 h7
  rfl
theorem bits8 (n : Nat) : n % 8 = 4 * (n / 4 % 2) + 2 * (n / 2 % 2) + n % 2 := by omega
theorem pr8_eq (n : Nat) (x : N8 β) : pr8 n x = g8 (n % 8) x := by
  have h := bits8 n
  have a : n / 4 % 2 = 0 ∨ n / 4 % 2 = 1 := by omega
  have b : n / 2 % 2 = 0 ∨ n / 2 % 2 = 1 := by omega
  have c : n % 2 = 0 ∨ n % 2 = 1 := by omega
  have ea : Nat.mod (Nat.div n 4) 2 = n / 4 % 2 := rfl
  have eb : Nat.mod (Nat.div n 2) 2 = n / 2 % 2 := rfl
  have ec : Nat.mod n 2 = n % 2 := rfl
  unfold pr8 prL prH prLL prLH prHL prHH
  rw [h, ea, eb, ec]
  rcases a with a | a <;> rcases b with b | b <;> rcases c with c | c <;> rw [a, b, c] <;> rfl
theorem up0_eq (v : β) (x : N8 β) (k : N8 β → α) : up0 v x k = k (p8 0 v x) := by cases x; rfl
theorem up1_eq (v : β) (x : N8 β) (k : N8 β → α) : up1 v x k = k (p8 1 v x) := by cases x; rfl
theorem up2_eq (v : β) (x : N8 β) (k : N8 β → α) : up2 v x k = k (p8 2 v x) := by cases x; rfl
theorem up3_eq (v : β) (x : N8 β) (k : N8 β → α) : up3 v x k = k (p8 3 v x) := by cases x; rfl
theorem up4_eq (v : β) (x : N8 β) (k : N8 β → α) : up4 v x k = k (p8 4 v x) := by cases x; rfl
theorem up5_eq (v : β) (x : N8 β) (k : N8 β → α) : up5 v x k = k (p8 5 v x) := by cases x; rfl
theorem up6_eq (v : β) (x : N8 β) (k : N8 β → α) : up6 v x k = k (p8 6 v x) := by cases x; rfl
theorem up7_eq (v : β) (x : N8 β) (k : N8 β → α) : up7 v x k = k (p8 7 v x) := by cases x; rfl
theorem up8_eq (n : Nat) (v : β) (x : N8 β) (k : N8 β → α) : up8 n v x k = k (p8 (n % 8) v x) := by
  have h := bits8 n
  have a : n / 4 % 2 = 0 ∨ n / 4 % 2 = 1 := by omega
  have b : n / 2 % 2 = 0 ∨ n / 2 % 2 = 1 := by omega
  have c : n % 2 = 0 ∨ n % 2 = 1 := by omega
  have ea : Nat.mod (Nat.div n 4) 2 = n / 4 % 2 := rfl
  have eb : Nat.mod (Nat.div n 2) 2 = n / 2 % 2 := rfl
  have ec : Nat.mod n 2 = n % 2 := rfl
  unfold up8
  rw [h, ea, eb, ec]
  cases x
  rcases a with a | a <;> rcases b with b | b <;> rcases c with c | c <;> rw [a, b, c] <;> rfl
end
/-- a temporary, told and put -/
def gT (i : Nat) (T : Tm) : Value := g8 (i % 8) (g8 (i / 8) T)
def pT (i : Nat) (v : Value) (T : Tm) : Tm := p8 (i / 8) (p8 (i % 8) v (g8 (i / 8) T)) T
theorem gT_pT {i j : Nat} (hi : i < 64) (hj : j < 64) (v : Value) (T : Tm) : gT j (pT i v T) = if i = j then v else gT j T := by
  unfold gT pT
  rw [g8_p8 (by omega) (by omega)]
  by_cases h : i / 8 = j / 8
  · rw [if_pos h, g8_p8 (by omega) (by omega)]
    by_cases h2 : i % 8 = j % 8
    · rw [if_pos h2, if_pos (by omega)]
    · rw [if_neg h2, if_neg (by omega), h]
  · rw [if_neg h, if_neg (by omega)]
theorem gT_t0 {i : Nat} (hi : i < 64) : gT i t0 = undef := by
  unfold gT t0
  have h1 : ∀ {β : Type} (n : Nat) (x : β), g8 n (rep8 x) = x := by
    intro β n x
    rcases n with _ | _ | _ | _ | _ | _ | _ | n <;> rfl
  rw [h1, h1]
set_option maxHeartbeats 1000000
theorem gRows_ok {i j : Nat} {r : List (Tm → Value)} {g : (Tm → Value)} (h1 : gRows[i]? = some r) (h2 : r[j]? = some g) : i < 8 ∧ j < 8 ∧ ∀ T, g T = g8 j (g8 i T) := by
  unfold gRows at h1
  rcases i with _ | _ | _ | _ | _ | _ | _ | _ | i <;> simp only [Nat.zero_add, Nat.reduceAdd, List.getElem?_cons_zero, List.getElem?_cons_succ, List.getElem?_nil, Option.some.injEq, reduceCtorEq] at h1 <;> subst h1 <;> rcases j with _ | _ | _ | _ | _ | _ | _ | _ | j <;> simp only [Nat.zero_add, Nat.reduceAdd, List.getElem?_cons_zero, List.getElem?_cons_succ, List.getElem?_nil, Option.some.injEq, reduceCtorEq] at h2 <;> subst h2 <;> refine ⟨by decide, by decide, ?_⟩
  all_goals (intro T; rfl)
theorem sRows_ok {i j : Nat} {r : List Sc} {g : Sc} (h1 : sRows[i]? = some r) (h2 : r[j]? = some g) : i < 8 ∧ j < 8 ∧ ∀ T L, g T L = g8 j (g8 i T) := by
  unfold sRows at h1
  rcases i with _ | _ | _ | _ | _ | _ | _ | _ | i <;> simp only [Nat.zero_add, Nat.reduceAdd, List.getElem?_cons_zero, List.getElem?_cons_succ, List.getElem?_nil, Option.some.injEq, reduceCtorEq] at h1 <;> subst h1 <;> rcases j with _ | _ | _ | _ | _ | _ | _ | _ | j <;> simp only [Nat.zero_add, Nat.reduceAdd, List.getElem?_cons_zero, List.getElem?_cons_succ, List.getElem?_nil, Option.some.injEq, reduceCtorEq] at h2 <;> subst h2 <;> refine ⟨by decide, by decide, ?_⟩
  all_goals (intro T L; rfl)
theorem pRows_ok {i j : Nat} {r : List Pt} {g : Pt} (h1 : pRows[i]? = some r) (h2 : r[j]? = some g) : i < 8 ∧ j < 8 ∧ ∀ v T c, g v T c = c (p8 i (p8 j v (g8 i T)) T) := by
  unfold pRows at h1
  rcases i with _ | _ | _ | _ | _ | _ | _ | _ | i <;> simp only [Nat.zero_add, Nat.reduceAdd, List.getElem?_cons_zero, List.getElem?_cons_succ, List.getElem?_nil, Option.some.injEq, reduceCtorEq] at h1 <;> subst h1 <;> rcases j with _ | _ | _ | _ | _ | _ | _ | _ | j <;> simp only [Nat.zero_add, Nat.reduceAdd, List.getElem?_cons_zero, List.getElem?_cons_succ, List.getElem?_nil, Option.some.injEq, reduceCtorEq] at h2 <;> subst h2 <;> refine ⟨by decide, by decide, ?_⟩
  all_goals (intro v T c; simp only [up0_eq, up1_eq, up2_eq, up3_eq, up4_eq, up5_eq, up6_eq, up7_eq]; rfl)
theorem bind_some {α β : Type} {x : Option α} {k : α → Option β} {r : β} (h : x.bind k = some r) : ∃ y, x = some y ∧ k y = some r := by
  cases x with
  | none => cases h
  | some y => exact ⟨y, rfl, h⟩
theorem mkG_some {γ : Type} {n : Nat} {k : (Tm → Value) → Option γ} {r : γ} (h : mkG n k = some r) : n < 64 ∧ ∃ g, (∀ T, g T = gT n T) ∧ k g = some r := by
  unfold mkG at h
  rw [nthK_eq] at h
  obtain ⟨x, h1, h2⟩ := bind_some h
  rw [nthK_eq] at h2
  obtain ⟨g, h3, h4⟩ := bind_some h2
  obtain ⟨k1, k2, k3⟩ := gRows_ok h1 h3
  have e : Nat.div n 8 = n / 8 := rfl
  rw [e] at k1
  exact ⟨by omega, g, k3, h4⟩
theorem mkS_some {γ : Type} {n : Nat} {k : Sc → Option γ} {r : γ} (h : mkS n k = some r) : n < 64 ∧ ∃ g, (∀ T L, g T L = gT n T) ∧ k g = some r := by
  unfold mkS at h
  rw [nthK_eq] at h
  obtain ⟨x, h1, h2⟩ := bind_some h
  rw [nthK_eq] at h2
  obtain ⟨g, h3, h4⟩ := bind_some h2
  obtain ⟨k1, k2, k3⟩ := sRows_ok h1 h3
  have e : Nat.div n 8 = n / 8 := rfl
  rw [e] at k1
  exact ⟨by omega, g, k3, h4⟩
theorem mkP_some {γ : Type} {n : Nat} {k : Pt → Option γ} {r : γ} (h : mkP n k = some r) : n < 64 ∧ ∃ p : Pt, (∀ v T c, p v T c = c (pT n v T)) ∧ k p = some r := by
  unfold mkP at h
  rw [nthK_eq] at h
  obtain ⟨x, h1, h2⟩ := bind_some h
  rw [nthK_eq] at h2
  obtain ⟨g, h3, h4⟩ := bind_some h2
  obtain ⟨k1, k2, k3⟩ := pRows_ok h1 h3
  have e : Nat.div n 8 = n / 8 := rfl
  rw [e] at k1
  exact ⟨by omega, g, k3, h4⟩
/-- memory as a list -/
noncomputable def toMem (M : Me) : Mem := (List.range M.n).map (getB M)
theorem toMem_len (M : Me) : (toMem M).length = M.n := by simp [toMem]
theorem toMem_get (M : Me) (b : Nat) : (toMem M)[b]? = if b < M.n then some (getB M b) else none := by
  unfold toMem
  rw [List.getElem?_map]
  by_cases h : b < M.n
  · rw [if_pos h, List.getElem?_range h]; rfl
  · rw [if_neg h, List.getElem?_eq_none (by simpa using h)]; rfl
theorem getB_eq (M : Me) (b : Nat) : getB M b = g8 (b % 8) (g8 (b / 8 % 8) (g8 (b / 64 % 8) (g8 (b / 512 % 8) (g8 (b / 4096 % 8) M.t)))) := by
  unfold getB
  simp only [pr8_eq]
  rfl
/-- memory with a block set -/
def sM (M : Me) (b : Nat) (x : Option Blk) : Me := ⟨M.n, p8 (b / 4096 % 8) (p8 (b / 512 % 8) (p8 (b / 64 % 8) (p8 (b / 8 % 8) (p8 (b % 8) x (g8 (b / 8 % 8) (g8 (b / 64 % 8) (g8 (b / 512 % 8) (g8 (b / 4096 % 8) M.t))))) (g8 (b / 64 % 8) (g8 (b / 512 % 8) (g8 (b / 4096 % 8) M.t)))) (g8 (b / 512 % 8) (g8 (b / 4096 % 8) M.t))) (g8 (b / 4096 % 8) M.t)) M.t⟩
theorem setM_eq {α : Type} (M : Me) (b : Nat) (x : Option Blk) (k : Me → α) : setM M b x k = k (sM M b x) := by
  unfold setM sM
  simp only [up8_eq, pr8_eq]
  rfl
theorem getB_sM {b c : Nat} (hb : b < 32768) (hc : c < 32768) (M : Me) (x : Option Blk) : getB (sM M b x) c = if b = c then x else getB M c := by
  rw [getB_eq, getB_eq]
  unfold sM
  simp only
  rw [g8_p8 (by omega) (by omega)]
  by_cases h4 : b / 4096 % 8 = c / 4096 % 8
  · rw [if_pos h4, g8_p8 (by omega) (by omega)]
    by_cases h3 : b / 512 % 8 = c / 512 % 8
    · rw [if_pos h3, g8_p8 (by omega) (by omega)]
      by_cases h2 : b / 64 % 8 = c / 64 % 8
      · rw [if_pos h2, g8_p8 (by omega) (by omega)]
        by_cases h1 : b / 8 % 8 = c / 8 % 8
        · rw [if_pos h1, g8_p8 (by omega) (by omega)]
          by_cases h0 : b % 8 = c % 8
          · rw [if_pos h0, if_pos (by omega)]
          · rw [if_neg h0, if_neg (by omega), h1, h2, h3, h4]
        · rw [if_neg h1, if_neg (by omega), h2, h3, h4]
      · rw [if_neg h2, if_neg (by omega), h3, h4]
    · rw [if_neg h3, if_neg (by omega), h4]
  · rw [if_neg h4, if_neg (by omega)]
/-- what is not laid yet is none -/
structure Can (M : Me) : Prop where
  le : M.n ≤ 32768
  none : ∀ b, M.n ≤ b → b < 32768 → getB M b = none
theorem Can.ext {M N : Me} (h : Can M) (k : Can N) (e : toMem M = toMem N) : M = N := by
  have hn : M.n = N.n := by rw [← toMem_len, ← toMem_len, e]
  have hg : ∀ b, b < 32768 → getB M b = getB N b := by
    intro b hb
    rcases Nat.lt_or_ge b M.n with c | c
    · have := congrArg (fun l => l[b]?) e
      simp only [toMem_get] at this
      rw [if_pos c, if_pos (by omega)] at this
      exact Option.some.inj this
    · rw [h.none b c hb, k.none b (by omega) hb]
  have ht : M.t = N.t := by
    refine g8_ext fun i4 h4 => g8_ext fun i3 h3 => g8_ext fun i2 h2 => g8_ext fun i1 h1 => g8_ext fun i0 h0 => ?_
    have := hg (i0 + 8 * i1 + 64 * i2 + 512 * i3 + 4096 * i4) (by omega)
    rw [getB_eq, getB_eq] at this
    rw [show (i0 + 8 * i1 + 64 * i2 + 512 * i3 + 4096 * i4) % 8 = i0 by omega, show (i0 + 8 * i1 + 64 * i2 + 512 * i3 + 4096 * i4) / 8 % 8 = i1 by omega, show (i0 + 8 * i1 + 64 * i2 + 512 * i3 + 4096 * i4) / 64 % 8 = i2 by omega, show (i0 + 8 * i1 + 64 * i2 + 512 * i3 + 4096 * i4) / 512 % 8 = i3 by omega, show (i0 + 8 * i1 + 64 * i2 + 512 * i3 + 4096 * i4) / 4096 % 8 = i4 by omega] at this
    exact this
  obtain ⟨m, t⟩ := M
  obtain ⟨n, u⟩ := N
  simp only at hn ht
  subst hn ht
  rfl
theorem Can.set {M : Me} (h : Can M) {b : Nat} (hb : b < M.n) (x : Option Blk) : Can (sM M b x) ∧ toMem (sM M b x) = (toMem M).set b x := by
  have hle := h.le
  refine ⟨⟨h.le, fun c h1 h2 => ?_⟩, ?_⟩
  · rw [getB_sM (by omega) h2, if_neg (by have : M.n ≤ c := h1; omega)]; exact h.none c h1 h2
  · refine List.ext_getElem? fun c => ?_
    rw [toMem_get, List.getElem?_set, toMem_len, toMem_get]
    show (if c < M.n then _ else _) = _
    by_cases hc : c < M.n
    · rw [if_pos hc, getB_sM (by omega) (by omega)]
      by_cases e : b = c
      · rw [if_pos e, if_pos e, if_pos hb]
      · rw [if_neg e, if_neg e, if_pos hc]
    · rw [if_neg hc, if_neg (by omega), if_neg hc]
/-- memory with a block more -/
def pM (M : Me) (x : Blk) : Me := ⟨M.n + 1, (sM M M.n (some x)).t⟩
theorem Can.push {M : Me} (h : Can M) (hlt : M.n < 32768) (x : Blk) : Can (pM M x) ∧ toMem (pM M x) = toMem M ++ [some x] := by
  have hle := h.le
  have hg : ∀ c, c < 32768 → getB (pM M x) c = if M.n = c then some x else getB M c := fun c hc => by
    have := getB_sM (b := M.n) (c := c) hlt hc M (some x)
    exact this
  refine ⟨⟨by show M.n + 1 ≤ 32768; omega, fun c h1 h2 => ?_⟩, ?_⟩
  · have : M.n + 1 ≤ c := h1
    rw [hg c h2, if_neg (by omega)]; exact h.none c (by omega) h2
  · refine List.ext_getElem? fun c => ?_
    rw [toMem_get]
    show (if c < M.n + 1 then _ else _) = _
    rcases Nat.lt_trichotomy c M.n with hc | hc | hc
    · rw [if_pos (by omega), hg c (by omega), if_neg (by omega), List.getElem?_append_left (by rw [toMem_len]; exact hc), toMem_get, if_pos hc]
    · rw [if_pos (by omega), hg c (by omega), if_pos hc.symm, List.getElem?_append_right (by rw [toMem_len]; omega), toMem_len, hc]; simp
    · rw [if_neg (by omega), List.getElem?_append_right (by rw [toMem_len]; omega), toMem_len, List.getElem?_eq_none (by simp; omega)]
theorem pushM_some {α : Type} {M : Me} {x : Blk} {k : Me → Option α} {r : α} (h : pushM M x k = some r) : M.n < 32768 ∧ ∀ k' : Me → Option α, pushM M x k' = k' (pM M x) := by
  unfold pushM at h ⊢
  have e : Nat.blt M.n 32768 = decide (M.n < 32768) := blt_iff _ _
  rw [e] at h ⊢
  by_cases c : M.n < 32768
  · rw [decide_eq_true c] at h ⊢
    refine ⟨c, fun k' => ?_⟩
    show setM M M.n (some x) _ = _
    rw [setM_eq, frcN_eq]
    rfl
  · rw [decide_eq_false c] at h; cases h
end Go.Proofs.Ytmbjgakehghdjaa
/-
  OWN TEXT: an evaluator made for the kernel: what an operation that was made ready does.
-/
namespace Go.Proofs.Ytmbjgakehghdjaa
open Go.RowKit
set_option linter.unusedVariables false
set_option linter.unusedSimpArgs false
/-- calls as they come to their end, in both ways -/
def KGood (K : KC) (Ks : Caller) : Prop := ∀ (f : FuncId) (vs : List Value) (M : Me) (k : Value → Me → Out) (out : Value × Me), Can M → K f vs M k = some out → ∃ v M', Can M' ∧ (∀ k, K f vs M k = k v M') ∧ Ks f vs (toMem M) = some (v, toMem M')
/-- operands are where they are told -/
def Fits (res : Rs) (a : Act) (T : Tm) (L : Rg) : Prop := ∀ (x : Operand) (sc : Sc), res x = some sc → evalO a x = some (sc T L)
/-- it does what the operation does -/
def OpOk (P : Program) (Ks : Caller) (c : XO) (o : Oper) (res : Rs) : Prop := ∀ (K : KC) (T : Tm) (M : Me) (L : Rg) (k : Value → Me → Out) (out : Value × Me) (a : Act), KGood K Ks → Can M → Fits res a T L → c K T M L k = some out →
  ∃ v M', Can M' ∧ (∀ k, c K T M L k = k v M') ∧ evOp Ks P (toMem M) (evalO a) o = some (v, toMem M')
section
variable {P : Program} {Ks : Caller} {o : Oper} {res : Rs}
theorem mk1_some {x : Operand} {k : Sc → XO} {c : XO} (h : mk1 res x k = some c) : ∃ sx, res x = some sx ∧ c = k sx := by
  unfold mk1 at h
  split at h
  · rename_i q; cases h; exact ⟨_, q, rfl⟩
  · cases h
theorem mk2_some {x y : Operand} {k : Sc → Sc → XO} {c : XO} (h : mk2 res x y k = some c) : ∃ sx sy, res x = some sx ∧ res y = some sy ∧ c = k sx sy := by
  unfold mk2 at h
  split at h
  · rename_i q1 q2; cases h; exact ⟨_, _, q1, q2, rfl⟩
  · cases h
theorem mk3_some {x y z : Operand} {k : Sc → Sc → Sc → XO} {c : XO} (h : mk3 res x y z k = some c) : ∃ sx sy sz, res x = some sx ∧ res y = some sy ∧ res z = some sz ∧ c = k sx sy sz := by
  unfold mk3 at h
  split at h
  · rename_i q1 q2 q3; cases h; exact ⟨_, _, _, q1, q2, q3, rfl⟩
  · cases h
theorem scsK_eq {α : Type} : ∀ (xs : List Sc) (T : Tm) (L : Rg) (k : List Value → Option α), scsK xs T L k = k (xs.map fun x => x T L)
  | [], _, _, _ => rfl
  | x :: xs, T, L, k => by
    show scsK xs T L (fun vs => k (x T L :: vs)) = _
    rw [scsK_eq xs]
    rfl
theorem ok_p1 {f : Value → (Value → Out) → Out} {x : Operand} {sx : Sc} (hx : res x = some sx)
    (hf : ∀ (a : Act) (v : Value) (k : Value → Out) (out : Value × Me), evalO a x = some v → f v k = some out → ∃ u, (∀ k, f v k = k u) ∧ ∀ A, evOp Ks P A (evalO a) o = some (u, A)) : OpOk P Ks (xP1 f sx) o res := by
  intro K T M L k out a hK hM hfit h
  obtain ⟨u, h1, h2⟩ := hf a _ _ out (hfit x sx hx) h
  exact ⟨u, M, hM, fun k => h1 _, h2 _⟩
theorem ok_p2 {f : Value → Value → (Value → Out) → Out} {x y : Operand} {sx sy : Sc} (hx : res x = some sx) (hy : res y = some sy)
    (hf : ∀ (a : Act) (v w : Value) (k : Value → Out) (out : Value × Me), evalO a x = some v → evalO a y = some w → f v w k = some out → ∃ u, (∀ k, f v w k = k u) ∧ ∀ A, evOp Ks P A (evalO a) o = some (u, A)) : OpOk P Ks (xP2 f sx sy) o res := by
  intro K T M L k out a hK hM hfit h
  obtain ⟨u, h1, h2⟩ := hf a _ _ _ out (hfit x sx hx) (hfit y sy hy) h
  exact ⟨u, M, hM, fun k => h1 _, h2 _⟩
theorem ok_p3 {f : Value → Value → Value → (Value → Out) → Out} {x y z : Operand} {sx sy sz : Sc} (hx : res x = some sx) (hy : res y = some sy) (hz : res z = some sz)
    (hf : ∀ (a : Act) (v w q : Value) (k : Value → Out) (out : Value × Me), evalO a x = some v → evalO a y = some w → evalO a z = some q → f v w q k = some out → ∃ u, (∀ k, f v w q k = k u) ∧ ∀ A, evOp Ks P A (evalO a) o = some (u, A)) : OpOk P Ks (xP3 f sx sy sz) o res := by
  intro K T M L k out a hK hM hfit h
  obtain ⟨u, h1, h2⟩ := hf a _ _ _ _ out (hfit x sx hx) (hfit y sy hy) (hfit z sz hz) h
  exact ⟨u, M, hM, fun k => h1 _, h2 _⟩
/-- operations that only reckon, at values without addresses -/
theorem evOp_flat {a : Act} {v : Value} (hp : isP o.op = true) (h : flatP P (evalO a) o = some v) (hm : ∀ x, o.op ≠ .move x) (hs : ∀ x, o.op ≠ .assign x) (he : ∀ x i, o.op ≠ .extract x i) (A : Mem) : evOp Ks P A (evalO a) o = some (v, A) := by
  have hE : evP P (evalO a) o = some v := by unfold evP; rw [h]
  obtain ⟨dst, op, type, pos, after, guard⟩ := o
  cases op
  case move x => exact absurd rfl (hm x)
  case assign x => exact absurd rfl (hs x)
  case extract x i => exact absurd rfl (he x i)
  case call c =>
    obtain ⟨callee, args, argTypes⟩ := c
    cases callee with
    | value f => cases hp
    | invoke r m => simp only [evOp, hE]; rfl
    | builtin b => cases b <;> first | (simp only [evOp, hE]; rfl) | cases hp
  all_goals first | (simp only [evOp, hE]; rfl) | cases hp
theorem flatP_none {e : Operand → Option Value} {x : Operand} {v : Value} (hx : x ∈ o.op.operands) (h : e x = some v) (hf : flat v = false) : flatP P e o = none := by
  unfold flatP
  have : o.op.operands.toList.all (flatO e) = false := by
    rw [List.all_eq_false]
    exact ⟨x, by simpa using hx, by unfold flatO; rw [h]; simp [hf]⟩
  rw [this, Bool.and_false]
  rfl
end
-- numbers
section
variable {α : Type}
theorem asI_some {v : Value} {k : IntKind → Int → Option α} {r : α} (h : asI v k = some r) : ∃ i n, v = .int i n ∧ k i n = some r := by
  cases v <;> first | cases h | exact ⟨_, _, rfl, h⟩
theorem asF_some {v : Value} {k : Nat → Option α} {r : α} (h : asF v k = some r) : ∃ n, v = .float .f64 n ∧ k n = some r := by
  cases v
  case float i n => cases i <;> first | cases h | exact ⟨_, rfl, h⟩
  all_goals cases h
theorem asB_some {v : Value} {k : Bool → Option α} {r : α} (h : asB v k = some r) : ∃ b, v = .bool b ∧ k b = some r := by
  cases v <;> first | cases h | exact ⟨_, rfl, h⟩
theorem ptrK_some {v : Value} {k : Nat → Nat → Option α} {r : α} (h : ptrK v k = some r) : ∃ b o, v = .pointer (some ⟨b, o, none⟩) ∧ k b o = some r := by
  cases v
  case pointer a =>
    cases a with
    | none => cases h
    | some a =>
      obtain ⟨b, o, s⟩ := a
      cases s with
      | none => exact ⟨b, o, rfl, h⟩
      | some s => cases h
  all_goals cases h
theorem eqK_eq (i j : IntKind) : eqK i j = decide (i = j) := by cases i <;> cases j <;> rfl
theorem addZ_eq (a b : Int) (k : Int → α) : addZ a b k = k (a + b) := by
  cases a with
  | ofNat m => cases b with
    | ofNat n => show frcN (Nat.add m n) (fun z => k (Int.ofNat z)) = _; rw [frcN_eq]; rfl
    | negSucc n => show frcZ (Int.add (.ofNat m) (.negSucc n)) k = _; rw [frcZ_eq]; rfl
  | negSucc m => show frcZ (Int.add (.negSucc m) b) k = _; rw [frcZ_eq]; rfl
theorem subZ_eq (a b : Int) (k : Int → α) : subZ a b k = k (a - b) := by
  cases a with
  | ofNat m => cases b with
    | ofNat n =>
      show cond (Nat.ble n m) _ _ = _
      rw [ble_iff]
      by_cases c : n ≤ m
      · rw [decide_eq_true c, cond_true, frcN_eq]
        congr 1
        show ((m - n : Nat) : Int) = (m : Int) - (n : Int)
        omega
      · rw [decide_eq_false c, cond_false, frcN_eq]
        congr 1
        show Int.negSucc (n - m - 1) = (m : Int) - (n : Int)
        rw [Int.negSucc_eq]
        omega
    | negSucc n => show frcZ (Int.sub (.ofNat m) (.negSucc n)) k = _; rw [frcZ_eq]; rfl
  | negSucc m => show frcZ (Int.sub (.negSucc m) b) k = _; rw [frcZ_eq]; rfl
theorem mulZ_eq (a b : Int) (k : Int → α) : mulZ a b k = k (a * b) := by
  cases a with
  | ofNat m => cases b with
    | ofNat n => show frcN (Nat.mul m n) (fun z => k (Int.ofNat z)) = _; rw [frcN_eq]; rfl
    | negSucc n => show frcZ (Int.mul (.ofNat m) (.negSucc n)) k = _; rw [frcZ_eq]; rfl
  | negSucc m => show frcZ (Int.mul (.negSucc m) b) k = _; rw [frcZ_eq]; rfl
theorem wrap_in (i : IntKind) (z : Int) (h1 : i.min ≤ z) (h2 : z ≤ i.max) : i.wrap z = z := by
  cases i <;> simp [IntKind.min, IntKind.max, IntKind.signed, IntKind.bits, IntKind.wrap] at * <;> omega
theorem wrapK_eq (i : IntKind) (z : Int) (k : Int → α) : wrapK i z k = k (i.wrap z) := by
  cases z with
  | ofNat m =>
    have e : ∀ j : IntKind, j.wrap (Int.ofNat m) = j.wrap (m : Int) := fun _ => rfl
    have go : ∀ (b : Nat) (y : α), (i.max = (b : Int)) → (¬ m ≤ b → y = k (i.wrap (m : Int))) → cond (Nat.ble m b) (k (Int.ofNat m)) y = k (i.wrap (m : Int)) := by
      intro b y hb hy
      rw [ble_iff]
      by_cases c : m ≤ b
      · rw [decide_eq_true c, cond_true, wrap_in i m]
        · rfl
        · have : i.min ≤ 0 := by cases i <;> decide
          omega
        · rw [hb]; omega
      · rw [decide_eq_false c, cond_false]; exact hy c
    rw [e]
    cases i
    case i8 => exact go 127 _ (by decide) fun _ => frcZ_eq _ _
    case i16 => exact go 32767 _ (by decide) fun _ => frcZ_eq _ _
    case i32 => exact go 2147483647 _ (by decide) fun _ => frcZ_eq _ _
    case i64 => exact go 9223372036854775807 _ (by decide) fun _ => frcZ_eq _ _
    case u8 => exact go 255 _ (by decide) fun _ => (frcN_eq _ _).trans (by rw [IntKind.wrap_u8]; rfl)
    case u16 => exact go 65535 _ (by decide) fun _ => (frcN_eq _ _).trans (by rw [IntKind.wrap_u16]; rfl)
    case u32 => exact go 4294967295 _ (by decide) fun _ => (frcN_eq _ _).trans (by rw [IntKind.wrap_u32]; rfl)
    case u64 => exact go 18446744073709551615 _ (by decide) fun _ => (frcN_eq _ _).trans (by rw [IntKind.wrap_u64]; rfl)
  | negSucc m =>
    have e : Int.negSucc m = -((m : Int) + 1) := Int.negSucc_eq m
    have go : ∀ (b : Nat), (m < b → i.min ≤ -(b : Int)) → cond (Nat.blt m b) (k (Int.negSucc m)) (frcZ (i.wrap (.negSucc m)) k) = k (i.wrap (.negSucc m)) := by
      intro b hb
      rw [blt_iff]
      by_cases c : m < b
      · rw [decide_eq_true c, cond_true, wrap_in i (.negSucc m)]
        · have := hb c; omega
        · have : 0 ≤ i.max := by cases i <;> decide
          omega
      · rw [decide_eq_false c, cond_false, frcZ_eq]
    cases i
    case i8 => exact go 128 (fun _ => by decide)
    case i16 => exact go 32768 (fun _ => by decide)
    case i32 => exact go 2147483648 (fun _ => by decide)
    case i64 => exact go 9223372036854775808 (fun _ => by decide)
    case u8 => exact go 0 (fun c => by omega)
    case u16 => exact go 0 (fun c => by omega)
    case u32 => exact go 0 (fun c => by omega)
    case u64 => exact go 0 (fun c => by omega)
theorem ltZ_eq (a b : Int) : ltZ a b = decide (a < b) := by
  cases a with
  | ofNat m => cases b with
    | ofNat n => show Nat.blt m n = _; rw [blt_iff]; congr 1; simp
    | negSucc n => show false = _; symm; rw [decide_eq_false_iff_not, Int.negSucc_eq]; show ¬ (m : Int) < _; omega
  | negSucc m => cases b with
    | ofNat n => show true = _; symm; rw [decide_eq_true_iff, Int.negSucc_eq]; show _ < (n : Int); omega
    | negSucc n => show Nat.blt n m = _; rw [blt_iff]; congr 1; rw [Int.negSucc_eq, Int.negSucc_eq, eq_iff_iff]; omega
theorem leZ_eq (a b : Int) : leZ a b = decide (a ≤ b) := by
  cases a with
  | ofNat m => cases b with
    | ofNat n => show Nat.ble m n = _; rw [ble_iff]; congr 1; simp
    | negSucc n => show false = _; symm; rw [decide_eq_false_iff_not, Int.negSucc_eq]; show ¬ (m : Int) ≤ _; omega
  | negSucc m => cases b with
    | ofNat n => show true = _; symm; rw [decide_eq_true_iff, Int.negSucc_eq]; show _ ≤ (n : Int); omega
    | negSucc n => show Nat.ble n m = _; rw [ble_iff]; congr 1; rw [Int.negSucc_eq, Int.negSucc_eq, eq_iff_iff]; omega
theorem eqZ_eq (a b : Int) : eqZ a b = (a == b) := by
  have hb : ∀ m n : Nat, Nat.beq m n = decide (m = n) := fun m n => by
    by_cases c : m = n
    · subst c; rw [Nat.beq_refl]; simp
    · rw [decide_eq_false c]; exact Bool.eq_false_iff.2 fun q => c (Nat.eq_of_beq_eq_true q)
  rw [show (a == b) = decide (a = b) from rfl]
  cases a with
  | ofNat m => cases b with
    | ofNat n => show Nat.beq m n = _; rw [hb]; congr 1; rw [eq_iff_iff]; show m = n ↔ (m : Int) = (n : Int); omega
    | negSucc n => show false = _; symm; rw [decide_eq_false_iff_not]; intro q; cases q
  | negSucc m => cases b with
    | ofNat n => show false = _; symm; rw [decide_eq_false_iff_not]; intro q; cases q
    | negSucc n => show Nat.beq m n = _; rw [hb]; congr 1; simp
end
end Go.Proofs.Ytmbjgakehghdjaa
/-
  OWN TEXT: an evaluator made for the kernel: numbers.
-/
namespace Go.Proofs.Ytmbjgakehghdjaa
open Go.RowKit
set_option linter.unusedVariables false
set_option linter.unusedSimpArgs false
theorem iOp_some {f : Int → Int → (Int → Out) → Out} {F : Int → Int → Int} (hf : ∀ a b k, f a b k = k (F a b)) {x y : Value} {k : Value → Out} {out : Value × Me} (h : iOp f x y k = some out) :
    ∃ i a b, x = .int i a ∧ y = .int i b ∧ ∀ k : Value → Out, iOp f x y k = k (.int i (i.wrap (F a b))) := by
  unfold iOp at h
  obtain ⟨i, a, rfl, h1⟩ := asI_some h
  clear h
  obtain ⟨j, b, rfl, h⟩ := asI_some h1
  clear h1
  rw [eqK_eq] at h
  by_cases c : i = j
  · subst c
    refine ⟨i, a, b, rfl, rfl, fun k => ?_⟩
    show Bool.rec (motive := fun _ => Out) none (f a b fun z => wrapK i z fun z => k (.int i z)) (eqK i i) = _
    rw [eqK_eq, decide_eq_true rfl]
    show f a b (fun z => wrapK i z fun z => k (.int i z)) = _
    rw [hf, wrapK_eq]
  · rw [decide_eq_false c] at h; cases h
theorem iCmp_some {f : Int → Int → Bool} {x y : Value} {k : Value → Out} {out : Value × Me} (h : iCmp f x y k = some out) :
    ∃ i a b, x = .int i a ∧ y = .int i b ∧ ∀ k : Value → Out, iCmp f x y k = k (.bool (f a b)) := by
  unfold iCmp at h
  obtain ⟨i, a, rfl, h1⟩ := asI_some h
  clear h
  obtain ⟨j, b, rfl, h⟩ := asI_some h1
  clear h1
  rw [eqK_eq] at h
  by_cases c : i = j
  · subst c
    refine ⟨i, a, b, rfl, rfl, fun k => ?_⟩
    show Bool.rec (motive := fun _ => Out) none (frcB (f a b) fun t => k (.bool t)) (eqK i i) = _
    rw [eqK_eq, decide_eq_true rfl]
    show frcB (f a b) (fun t => k (.bool t)) = _
    rw [frcB_eq]
  · rw [decide_eq_false c] at h; cases h
theorem fOp_some {f : Nat → Nat → Option Nat} {x y : Value} {k : Value → Out} {out : Value × Me} (h : fOp f x y k = some out) :
    ∃ a b r, x = .float .f64 a ∧ y = .float .f64 b ∧ f a b = some r ∧ ∀ k : Value → Out, fOp f x y k = k (.float .f64 r) := by
  unfold fOp at h
  obtain ⟨a, rfl, h1⟩ := asF_some h
  clear h
  obtain ⟨b, rfl, h⟩ := asF_some h1
  clear h1
  cases q : f a b with
  | none => rw [q] at h; cases h
  | some r =>
    refine ⟨a, b, r, rfl, rfl, q, fun k => ?_⟩
    show Option.rec (motive := fun _ => Out) none (fun r => frcN r fun r => k (.float .f64 r)) (f a b) = _
    rw [q]
    show frcN r (fun r => k (.float .f64 r)) = _
    rw [frcN_eq]
theorem fCmp_some {f : Nat → Nat → Bool} {x y : Value} {k : Value → Out} {out : Value × Me} (h : fCmp f x y k = some out) :
    ∃ a b, x = .float .f64 a ∧ y = .float .f64 b ∧ ∀ k : Value → Out, fCmp f x y k = k (.bool (f a b)) := by
  unfold fCmp at h
  obtain ⟨a, rfl, h1⟩ := asF_some h
  clear h
  obtain ⟨b, rfl, h⟩ := asF_some h1
  clear h1
  refine ⟨a, b, rfl, rfl, fun k => ?_⟩
  show frcB (f a b) (fun t => k (.bool t)) = _
  rw [frcB_eq]
theorem binI_fast {op : BinOp} {f : Value → Value → (Value → Out) → Out} (hb : binI op = some f) {x y : Value} {k : Value → Out} {out : Value × Me} (h : f x y k = some out) : ∃ u, (∀ k, f x y k = k u) ∧ fastBin op x y = some u := by
  unfold binI at hb
  split at hb <;> cases hb
  · obtain ⟨i, a, b, rfl, rfl, e⟩ := iOp_some addZ_eq h; exact ⟨_, e, by simp [fastBin, wrapF_eq]⟩
  · obtain ⟨i, a, b, rfl, rfl, e⟩ := iOp_some subZ_eq h; exact ⟨_, e, by simp [fastBin, wrapF_eq]⟩
  · obtain ⟨i, a, b, rfl, rfl, e⟩ := iOp_some mulZ_eq h; exact ⟨_, e, by simp [fastBin, wrapF_eq]⟩
  · obtain ⟨i, a, b, rfl, rfl, e⟩ := iCmp_some h; exact ⟨_, e, by simp [fastBin, eqZ_eq]⟩
  · obtain ⟨i, a, b, rfl, rfl, e⟩ := iCmp_some h; exact ⟨_, e, by simp only [fastBin, eqZ_eq, if_true]; rfl⟩
  · obtain ⟨i, a, b, rfl, rfl, e⟩ := iCmp_some h; exact ⟨_, e, by simp [fastBin, ltZ_eq]⟩
  · obtain ⟨i, a, b, rfl, rfl, e⟩ := iCmp_some h; exact ⟨_, e, by simp [fastBin, leZ_eq]⟩
  · obtain ⟨i, a, b, rfl, rfl, e⟩ := iCmp_some h; exact ⟨_, e, by simp [fastBin, ltZ_eq]⟩
  · obtain ⟨i, a, b, rfl, rfl, e⟩ := iCmp_some h; exact ⟨_, e, by simp [fastBin, leZ_eq]⟩
theorem binF_fast {op : BinOp} {f : Value → Value → (Value → Out) → Out} (hb : binF op = some f) {x y : Value} {k : Value → Out} {out : Value × Me} (h : f x y k = some out) : ∃ u, (∀ k, f x y k = k u) ∧ fastBin op x y = some u := by
  unfold binF at hb
  split at hb <;> cases hb
  · obtain ⟨a, b, r, rfl, rfl, q, e⟩ := fOp_some h; exact ⟨_, e, by simp [fastBin, q]⟩
  · obtain ⟨a, b, r, rfl, rfl, q, e⟩ := fOp_some h; exact ⟨_, e, by simp [fastBin, q]⟩
  · obtain ⟨a, b, r, rfl, rfl, q, e⟩ := fOp_some h; exact ⟨_, e, by simp [fastBin, q]⟩
  · obtain ⟨a, b, r, rfl, rfl, q, e⟩ := fOp_some h; exact ⟨_, e, by simp [fastBin, q]⟩
  · obtain ⟨a, b, rfl, rfl, e⟩ := fCmp_some h; exact ⟨_, e, by simp [fastBin]⟩
  · obtain ⟨a, b, rfl, rfl, e⟩ := fCmp_some h; exact ⟨_, e, by simp [fastBin]⟩
  · obtain ⟨a, b, rfl, rfl, e⟩ := fCmp_some h; exact ⟨_, e, by simp [fastBin]⟩
  · obtain ⟨a, b, rfl, rfl, e⟩ := fCmp_some h; exact ⟨_, e, by simp [fastBin]⟩
  · obtain ⟨a, b, rfl, rfl, e⟩ := fCmp_some h; exact ⟨_, e, by simp [fastBin]⟩
  · obtain ⟨a, b, rfl, rfl, e⟩ := fCmp_some h; exact ⟨_, e, by simp [fastBin]⟩
-- bits
theorem uOp_some {f : Nat → Nat → Nat} {x y : Value} {k : Value → Out} {out : Value × Me} (h : uOp f x y k = some out) :
    ∃ m n : Nat, x = .int .u64 (m : Int) ∧ y = .int .u64 (n : Int) ∧ m < 18446744073709551616 ∧ n < 18446744073709551616 ∧ ∀ k : Value → Out, uOp f x y k = k (.int .u64 ((f m n : Nat) : Int)) := by
  unfold uOp at h
  split at h
  · rename_i a
    cases a with
    | negSucc m => cases h
    | ofNat m =>
      obtain ⟨j, b, rfl, h1⟩ := asI_some h
      clear h
      have h := h1
      clear h1
      cases b with
      | negSucc n => cases h
      | ofNat n =>
        have e1 : ∀ (q : Bool) (u v : Out), (bif q then u else v) = cond q u v := fun _ _ _ => rfl
        simp only [eqK_eq, ble_iff] at h
        by_cases c : (decide (j = IntKind.u64) && decide (m ≤ 18446744073709551615) && decide (n ≤ 18446744073709551615)) = true
        · have c' := c
          simp only [Bool.and_eq_true, decide_eq_true_eq] at c
          obtain ⟨⟨rfl, c2⟩, c3⟩ := c
          refine ⟨m, n, rfl, rfl, by omega, by omega, fun k => ?_⟩
          show cond (eqK .u64 .u64 && Nat.ble m 18446744073709551615 && Nat.ble n 18446744073709551615) _ _ = _
          rw [eqK_eq, ble_iff, ble_iff, c', cond_true, frcN_eq]
          rfl
        · rw [Bool.eq_false_iff.2 c] at h; cases h
  · cases h
theorem shlU_some {x y : Value} {k : Value → Out} {out : Value × Me} (h : shlU x y k = some out) :
    ∃ (m n : Nat) (j : IntKind), x = .int .u64 (m : Int) ∧ y = .int j (n : Int) ∧ ∀ k : Value → Out, shlU x y k = k (.int .u64 ((m * 2 ^ (min n 64) % 18446744073709551616 : Nat) : Int)) := by
  unfold shlU at h
  split at h
  · rename_i a
    cases a with
    | negSucc m => cases h
    | ofNat m =>
      obtain ⟨j, b, rfl, h1⟩ := asI_some h
      clear h
      have h := h1
      clear h1
      cases b with
      | negSucc n => cases h
      | ofNat n =>
        refine ⟨m, n, j, rfl, rfl, fun k => ?_⟩
        show cond (Nat.ble n 64) _ _ = _
        rw [ble_iff]
        by_cases c : n ≤ 64
        · rw [decide_eq_true c, cond_true, frcN_eq, Nat.min_eq_left c]; rfl
        · rw [decide_eq_false c, cond_false, Nat.min_eq_right (by omega)]
          have : m * 2 ^ 64 % 18446744073709551616 = 0 := by
            have : (2 : Nat) ^ 64 = 18446744073709551616 := by decide
            rw [this]; exact Nat.mul_mod_left m _
          rw [this]; rfl
  · cases h
theorem shrU_some {x y : Value} {k : Value → Out} {out : Value × Me} (h : shrU x y k = some out) :
    ∃ (m n : Nat) (j : IntKind), x = .int .u64 (m : Int) ∧ y = .int j (n : Int) ∧ n ≤ 64 ∧ ∀ k : Value → Out, shrU x y k = k (.int .u64 ((m / 2 ^ n : Nat) : Int)) := by
  unfold shrU at h
  obtain ⟨i, a, rfl, h1⟩ := asI_some h
  clear h
  have h := h1
  clear h1
  simp only [eqK_eq] at h
  by_cases c0 : i = .u64
  · subst c0
    rw [decide_eq_true rfl, cond_true] at h
    cases a with
    | negSucc m => cases h
    | ofNat m =>
      obtain ⟨j, b, rfl, h1⟩ := asI_some h
      clear h
      have h := h1
      clear h1
      cases b with
      | negSucc n => cases h
      | ofNat n =>
        have h' : cond (Nat.ble n 64) (frcN (Nat.div m (Nat.pow 2 n)) fun z => k (.int .u64 (.ofNat z))) none = some out := h
        rw [ble_iff] at h'
        by_cases c : n ≤ 64
        · refine ⟨m, n, j, rfl, rfl, c, fun k => ?_⟩
          show cond (eqK .u64 .u64) (cond (Nat.ble n 64) (frcN (Nat.div m (Nat.pow 2 n)) fun z => k (.int .u64 (.ofNat z))) none) none = _
          rw [eqK_eq, ble_iff, decide_eq_true rfl, cond_true, decide_eq_true c, cond_true, frcN_eq]
          rfl
        · rw [decide_eq_false c] at h'; cases h'
  · rw [decide_eq_false c0] at h; cases h
theorem ofInt_u64 {m : Nat} (h : m < 18446744073709551616) : (BitVec.ofInt 64 (m : Int)).toNat = m := by
  rw [BitVec.toNat_ofInt]
  have : (2 : Nat) ^ 64 = 18446744073709551616 := by decide
  rw [this]
  omega
theorem run_bits {P : Program} {op : BinOp} {m n r : Nat} (hm : m < 18446744073709551616) (hn : n < 18446744073709551616) (hr : r < 18446744073709551616)
    (hop : (op = .and ∧ r = m &&& n) ∨ (op = .or ∧ r = m ||| n) ∨ (op = .xor ∧ r = m ^^^ n) ∨ (op = .andNot ∧ r = m &&& (18446744073709551615 - n))) (t : TypeId) (ox oy : Operand) :
    pureRun P (do eqGuard op t ox oy (.int .u64 (m : Int)) (.int .u64 (n : Int)); binOp op t (.int .u64 (m : Int)) (.int .u64 (n : Int))) = some (.int .u64 (r : Int)) := by
  have w : IntKind.u64.wrap (r : Int) = (r : Int) := wrap_u64_in (by omega) (by omega)
  have hb : IntKind.u64.bits = 64 := rfl
  have e1 := ofInt_u64 hm
  have e2 := ofInt_u64 hn
  rcases hop with ⟨rfl, rfl⟩ | ⟨rfl, rfl⟩ | ⟨rfl, rfl⟩ | ⟨rfl, rfl⟩
  · show some (Value.int .u64 (IntKind.u64.wrap ((BitVec.ofInt 64 (m : Int) &&& BitVec.ofInt 64 (n : Int)).toNat))) = _
    rw [BitVec.toNat_and, e1, e2, w]
  · show some (Value.int .u64 (IntKind.u64.wrap ((BitVec.ofInt 64 (m : Int) ||| BitVec.ofInt 64 (n : Int)).toNat))) = _
    rw [BitVec.toNat_or, e1, e2, w]
  · show some (Value.int .u64 (IntKind.u64.wrap ((BitVec.ofInt 64 (m : Int) ^^^ BitVec.ofInt 64 (n : Int)).toNat))) = _
    rw [BitVec.toNat_xor, e1, e2, w]
  · show some (Value.int .u64 (IntKind.u64.wrap ((BitVec.ofInt 64 (m : Int) &&& ~~~ BitVec.ofInt 64 (n : Int)).toNat))) = _
    rw [BitVec.toNat_and, BitVec.toNat_not, e1, e2]
    have : (2 : Nat) ^ 64 - 1 - n = 18446744073709551615 - n := by
      have : (2 : Nat) ^ 64 = 18446744073709551616 := by decide
      rw [this]
    rw [this, w]
theorem run_shl {P : Program} (m n : Nat) (j : IntKind) (t : TypeId) (ox oy : Operand) :
    pureRun P (do eqGuard .shl t ox oy (.int .u64 (m : Int)) (.int j (n : Int)); binOp .shl t (.int .u64 (m : Int)) (.int j (n : Int))) = some (.int .u64 ((m * 2 ^ (min n 64) % 18446744073709551616 : Nat) : Int)) := by
  show pureRun P (Op.shift .shl .u64 (m : Int) j (n : Int)) = _
  unfold Op.shift
  rw [if_neg (by omega)]
  show some (Value.int .u64 (IntKind.u64.wrap ((m : Int) * 2 ^ (min (n : Int).toNat 64)))) = _
  rw [IntKind.wrap_u64, Int.toNat_natCast]
  have : (m : Int) * 2 ^ min n 64 = ((m * 2 ^ min n 64 : Nat) : Int) := by simp
  rw [this]
  rfl
theorem run_shr {P : Program} (m n : Nat) (hn : n ≤ 64) (j : IntKind) (t : TypeId) (ox oy : Operand) :
    pureRun P (do eqGuard .shr t ox oy (.int .u64 (m : Int)) (.int j (n : Int)); binOp .shr t (.int .u64 (m : Int)) (.int j (n : Int))) = some (.int .u64 ((m / 2 ^ n : Nat) : Int)) := by
  show pureRun P (Op.shift .shr .u64 (m : Int) j (n : Int)) = _
  unfold Op.shift
  rw [if_neg (by omega)]
  show some (Value.int .u64 ((m : Int).fdiv (2 ^ (min (n : Int).toNat 64)))) = _
  rw [Int.toNat_natCast, Nat.min_eq_left hn]
  have : (2 : Int) ^ n = ((2 ^ n : Nat) : Int) := by simp
  rw [this, Int.fdiv_eq_ediv_of_nonneg _ (Int.natCast_nonneg _)]
  rfl
theorem binU_run {P : Program} {op : BinOp} {f : Value → Value → (Value → Out) → Out} (hb : binU op = some f) {x y : Value} {k : Value → Out} {out : Value × Me} (h : f x y k = some out) (t : TypeId) (ox oy : Operand) :
    ∃ u, (∀ k, f x y k = k u) ∧ pureRun P (do eqGuard op t ox oy x y; binOp op t x y) = some u ∧ flat x = true ∧ flat y = true ∧ flat u = true := by
  unfold binU at hb
  have p64 : (2 : Nat) ^ 64 = 18446744073709551616 := by decide
  split at hb <;> cases hb
  · obtain ⟨m, n, rfl, rfl, hm, hn, e⟩ := uOp_some h
    exact ⟨_, e, run_bits hm hn (Nat.lt_of_le_of_lt Nat.and_le_left hm) (Or.inl ⟨rfl, rfl⟩) t ox oy, rfl, rfl, rfl⟩
  · obtain ⟨m, n, rfl, rfl, hm, hn, e⟩ := uOp_some h
    exact ⟨_, e, run_bits hm hn (by rw [← p64] at *; exact Nat.or_lt_two_pow hm hn) (Or.inr (Or.inl ⟨rfl, rfl⟩)) t ox oy, rfl, rfl, rfl⟩
  · obtain ⟨m, n, rfl, rfl, hm, hn, e⟩ := uOp_some h
    exact ⟨_, e, run_bits hm hn (by rw [← p64] at *; exact Nat.xor_lt_two_pow hm hn) (Or.inr (Or.inr (Or.inl ⟨rfl, rfl⟩))) t ox oy, rfl, rfl, rfl⟩
  · obtain ⟨m, n, rfl, rfl, hm, hn, e⟩ := uOp_some h
    exact ⟨_, e, run_bits hm hn (Nat.lt_of_le_of_lt Nat.and_le_left hm) (Or.inr (Or.inr (Or.inr ⟨rfl, rfl⟩))) t ox oy, rfl, rfl, rfl⟩
  · obtain ⟨m, n, j, rfl, rfl, e⟩ := shlU_some h
    exact ⟨_, e, run_shl m n j t ox oy, rfl, rfl, rfl⟩
  · obtain ⟨m, n, j, rfl, rfl, hn, e⟩ := shrU_some h
    exact ⟨_, e, run_shr m n hn j t ox oy, rfl, rfl, rfl⟩
end Go.Proofs.Ytmbjgakehghdjaa
