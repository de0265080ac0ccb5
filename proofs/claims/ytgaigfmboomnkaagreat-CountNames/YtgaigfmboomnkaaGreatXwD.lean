/-
  OWN TEXT: an evaluator made for the kernel: what its rows of eight hold.
-/
import Derived.Test.YtgaigfmboomnkaaGreatXwC
namespace Go.Proofs.YtgaigfmboomnkaaGreat
open Go.RowKit
set_option linter.unusedVariables false
set_option linter.unusedSimpArgs false
theorem nthK_eq {α β : Type} : ∀ (L : List β) (n : Nat) (k : β → Option α), nthK L n k = (L[n]?).bind k
  | [], n, k => by cases n <;> rfl
  | x :: L, 0, k => rfl
  | x :: L, n + 1, k => (nthK_eq L n k).trans (by simp)
section
variable {α β : Type}
def g8 (i : Nat) (x : N8 β) : β := match i with
  | 0 => x.c0
  | 1 => x.c1
  | 2 => x.c2
  | 3 => x.c3
  | 4 => x.c4
  | 5 => x.c5
  | 6 => x.c6
  | _ => x.c7
def p8 (i : Nat) (v : β) (x : N8 β) : N8 β := match i with
  | 0 => { x with c0 := v }
  | 1 => { x with c1 := v }
  | 2 => { x with c2 := v }
  | 3 => { x with c3 := v }
  | 4 => { x with c4 := v }
  | 5 => { x with c5 := v }
  | 6 => { x with c6 := v }
  | _ => { x with c7 := v }
theorem g8_p8 {i j : Nat} (hi : i < 8) (hj : j < 8) (v : β) (x : N8 β) : g8 j (p8 i v x) = if i = j then v else g8 j x := by
  rcases i with _ | _ | _ | _ | _ | _ | _ | _ | i <;> first | (exfalso; omega) | (rcases j with _ | _ | _ | _ | _ | _ | _ | _ | j <;> first | (exfalso; omega) | rfl)
theorem g8_ext {x y : N8 β} (h : ∀ i, i < 8 → g8 i x = g8 i y) : x = y := by
  obtain ⟨x0, x1, x2, x3, x4, x5, x6, x7⟩ := x
  obtain ⟨y0, y1, y2, y3, y4, y5, y6, y7⟩ := y
  have h0 : x0 = y0 := h 0 (by decide)
  have h1 : x1 = y1 := h 1 (by decide)
  have h2 : x2 = y2 := h 2 (by decide)
  have h3 : x3 = y3 := h 3 (by decide)
  have h4 : x4 = y4 := h 4 (by decide)
  have h5 : x5 = y5 := h 5 (by decide)
  have h6 : x6 = y6 := h 6 (by decide)
  have h7 : x7 = y7 := h 7 (by decide)
  subst h0 h1 h2 h3 h4 h5 h6 h7
  rfl
theorem bits8 (n : Nat) : n % 8 = 4 * (n / 4 % 2) + 2 * (n / 2 % 2) + n % 2 := by omega
theorem pr8_eq (n : Nat) (x : N8 β) : pr8 n x = g8 (n % 8) x := by
  have h := bits8 n
  have a : n / 4 % 2 = 0 ∨ n / 4 % 2 = 1 := by omega
  have b : n / 2 % 2 = 0 ∨ n / 2 % 2 = 1 := by omega
  have c : n % 2 = 0 ∨ n % 2 = 1 := by omega
  have ea : Nat.mod (Nat.div n 4) 2 = n / 4 % 2 := rfl
  have eb : Nat.mod (Nat.div n 2) 2 = n / 2 % 2 := rfl
  have ec : Nat.mod n 2 = n % 2 := rfl
  unfold pr8 prL prH prLL prLH prHL prHH
  rw [h, ea, eb, ec]
  rcases a with a | a <;> rcases b with b | b <;> rcases c with c | c <;> rw [a, b, c] <;> rfl
theorem up0_eq (v : β) (x : N8 β) (k : N8 β → α) : up0 v x k = k (p8 0 v x) := by cases x; rfl
theorem up1_eq (v : β) (x : N8 β) (k : N8 β → α) : up1 v x k = k (p8 1 v x) := by cases x; rfl
theorem up2_eq (v : β) (x : N8 β) (k : N8 β → α) : up2 v x k = k (p8 2 v x) := by cases x; rfl
theorem up3_eq (v : β) (x : N8 β) (k : N8 β → α) : up3 v x k = k (p8 3 v x) := by cases x; rfl
theorem up4_eq (v : β) (x : N8 β) (k : N8 β → α) : up4 v x k = k (p8 4 v x) := by cases x; rfl
theorem up5_eq (v : β) (x : N8 β) (k : N8 β → α) : up5 v x k = k (p8 5 v x) := by cases x; rfl
theorem up6_eq (v : β) (x : N8 β) (k : N8 β → α) : up6 v x k = k (p8 6 v x) := by cases x; rfl
theorem up7_eq (v : β) (x : N8 β) (k : N8 β → α) : up7 v x k = k (p8 7 v x) := by cases x; rfl
theorem up8_eq (n : Nat) (v : β) (x : N8 β) (k : N8 β → α) : up8 n v x k = k (p8 (n % 8) v x) := by
  have h := bits8 n
  have a : n / 4 % 2 = 0 ∨ n / 4 % 2 = 1 := by omega
  have b : n / 2 % 2 = 0 ∨ n / 2 % 2 = 1 := by omega
  have c : n % 2 = 0 ∨ n % 2 = 1 := by omega
  have ea : Nat.mod (Nat.div n 4) 2 = n / 4 % 2 := rfl
  have eb : Nat.mod (Nat.div n 2) 2 = n / 2 % 2 := rfl
  have ec : Nat.mod n 2 = n % 2 := rfl
  unfold up8
  rw [h, ea, eb, ec]
  cases x
  rcases a with a | a <;> rcases b with b | b <;> rcases c with c | c <;> rw [a, b, c] <;> rfl
end
/-- a temporary, told and put -/
def gT (i : Nat) (T : Tm) : Value := g8 (i % 8) (g8 (i / 8) T)
def pT (i : Nat) (v : Value) (T : Tm) : Tm := p8 (i / 8) (p8 (i % 8) v (g8 (i / 8) T)) T
theorem gT_pT {i j : Nat} (hi : i < 64) (hj : j < 64) (v : Value) (T : Tm) : gT j (pT i v T) = if i = j then v else gT j T := by
  unfold gT pT
  rw [g8_p8 (by omega) (by omega)]
  by_cases h : i / 8 = j / 8
  · rw [if_pos h, g8_p8 (by omega) (by omega)]
    by_cases h2 : i % 8 = j % 8
    · rw [if_pos h2, if_pos (by omega)]
    · rw [if_neg h2, if_neg (by omega), h]
  · rw [if_neg h, if_neg (by omega)]
theorem gT_t0 {i : Nat} (hi : i < 64) : gT i t0 = undef := by
  unfold gT t0
  have h1 : ∀ {β : Type} (n : Nat) (x : β), g8 n (rep8 x) = x := by
    intro β n x
    rcases n with _ | _ | _ | _ | _ | _ | _ | n <;> rfl
  rw [h1, h1]
set_option maxHeartbeats 1000000
theorem gRows_ok {i j : Nat} {r : List (Tm → Value)} {g : (Tm → Value)} (h1 : gRows[i]? = some r) (h2 : r[j]? = some g) : i < 8 ∧ j < 8 ∧ ∀ T, g T = g8 j (g8 i T) := by
  unfold gRows at h1
  rcases i with _ | _ | _ | _ | _ | _ | _ | _ | i <;> simp only [Nat.zero_add, Nat.reduceAdd, List.getElem?_cons_zero, List.getElem?_cons_succ, List.getElem?_nil, Option.some.injEq, reduceCtorEq] at h1 <;> subst h1 <;> rcases j with _ | _ | _ | _ | _ | _ | _ | _ | j <;> simp only [Nat.zero_add, Nat.reduceAdd, List.getElem?_cons_zero, List.getElem?_cons_succ, List.getElem?_nil, Option.some.injEq, reduceCtorEq] at h2 <;> subst h2 <;> refine ⟨by decide, by decide, ?_⟩
  all_goals (intro T; rfl)
theorem sRows_ok {i j : Nat} {r : List Sc} {g : Sc} (h1 : sRows[i]? = some r) (h2 : r[j]? = some g) : i < 8 ∧ j < 8 ∧ ∀ T L, g T L = g8 j (g8 i T) := by
  unfold sRows at h1
  rcases i with _ | _ | _ | _ | _ | _ | _ | _ | i <;> simp only [Nat.zero_add, Nat.reduceAdd, List.getElem?_cons_zero, List.getElem?_cons_succ, List.getElem?_nil, Option.some.injEq, reduceCtorEq] at h1 <;> subst h1 <;> rcases j with _ | _ | _ | _ | _ | _ | _ | _ | j <;> simp only [Nat.zero_add, Nat.reduceAdd, List.getElem?_cons_zero, List.getElem?_cons_succ, List.getElem?_nil, Option.some.injEq, reduceCtorEq] at h2 <;> subst h2 <;> refine ⟨by decide, by decide, ?_⟩
  all_goals (intro T L; rfl)
theorem pRows_ok {i j : Nat} {r : List Pt} {g : Pt} (h1 : pRows[i]? = some r) (h2 : r[j]? = some g) : i < 8 ∧ j < 8 ∧ ∀ v T c, g v T c = c (p8 i (p8 j v (g8 i T)) T) := by
  unfold pRows at h1
  rcases i with _ | _ | _ | _ | _ | _ | _ | _ | i <;> simp only [Nat.zero_add, Nat.reduceAdd, List.getElem?_cons_zero, List.getElem?_cons_succ, List.getElem?_nil, Option.some.injEq, reduceCtorEq] at h1 <;> subst h1 <;> rcases j with _ | _ | _ | _ | _ | _ | _ | _ | j <;> simp only [Nat.zero_add, Nat.reduceAdd, List.getElem?_cons_zero, List.getElem?_cons_succ, List.getElem?_nil, Option.some.injEq, reduceCtorEq] at h2 <;> subst h2 <;> refine ⟨by decide, by decide, ?_⟩
  all_goals (intro v T c; simp only [up0_eq, up1_eq, up2_eq, up3_eq, up4_eq, up5_eq, up6_eq, up7_eq]; rfl)
theorem bind_some {α β : Type} {x : Option α} {k : α → Option β} {r : β} (h : x.bind k = some r) : ∃ y, x = some y ∧ k y = some r := by
  cases x with
  | none => cases h
  | some y => exact ⟨y, rfl, h⟩
theorem mkG_some {γ : Type} {n : Nat} {k : (Tm → Value) → Option γ} {r : γ} (h : mkG n k = some r) : n < 64 ∧ ∃ g, (∀ T, g T = gT n T) ∧ k g = some r := by
  unfold mkG at h
  rw [nthK_eq] at h
  obtain ⟨x, h1, h2⟩ := bind_some h
  rw [nthK_eq] at h2
  obtain ⟨g, h3, h4⟩ := bind_some h2
  obtain ⟨k1, k2, k3⟩ := gRows_ok h1 h3
  have e : Nat.div n 8 = n / 8 := rfl
  rw [e] at k1
  exact ⟨by omega, g, k3, h4⟩
theorem mkS_some {γ : Type} {n : Nat} {k : Sc → Option γ} {r : γ} (h : mkS n k = some r) : n < 64 ∧ ∃ g, (∀ T L, g T L = gT n T) ∧ k g = some r := by
  unfold mkS at h
  rw [nthK_eq] at h
  obtain ⟨x, h1, h2⟩ := bind_some h
  rw [nthK_eq] at h2
  obtain ⟨g, h3, h4⟩ := bind_some h2
  obtain ⟨k1, k2, k3⟩ := sRows_ok h1 h3
  have e : Nat.div n 8 = n / 8 := rfl
  rw [e] at k1
  exact ⟨by omega, g, k3, h4⟩
theorem mkP_some {γ : Type} {n : Nat} {k : Pt → Option γ} {r : γ} (h : mkP n k = some r) : n < 64 ∧ ∃ p : Pt, (∀ v T c, p v T c = c (pT n v T)) ∧ k p = some r := by
  unfold mkP at h
  rw [nthK_eq] at h
  obtain ⟨x, h1, h2⟩ := bind_some h
  rw [nthK_eq] at h2
  obtain ⟨g, h3, h4⟩ := bind_some h2
  obtain ⟨k1, k2, k3⟩ := pRows_ok h1 h3
  have e : Nat.div n 8 = n / 8 := rfl
  rw [e] at k1
  exact ⟨by omega, g, k3, h4⟩
/-- memory as a list -/
noncomputable def toMem (M : Me) : Mem := (List.range M.n).map (getB M)
theorem toMem_len (M : Me) : (toMem M).length = M.n := by simp [toMem]
theorem toMem_get (M : Me) (b : Nat) : (toMem M)[b]? = if b < M.n then some (getB M b) else none := by
  unfold toMem
  rw [List.getElem?_map]
  by_cases h : b < M.n
  · rw [if_pos h, List.getElem?_range h]; rfl
  · rw [if_neg h, List.getElem?_eq_none (by simpa using h)]; rfl
theorem getB_eq (M : Me) (b : Nat) : getB M b = g8 (b % 8) (g8 (b / 8 % 8) (g8 (b / 64 % 8) (g8 (b / 512 % 8) (g8 (b / 4096 % 8) M.t)))) := by
  unfold getB
  simp only [pr8_eq]
  rfl
/-- memory with a block set -/
def sM (M : Me) (b : Nat) (x : Option Blk) : Me := ⟨M.n, p8 (b / 4096 % 8) (p8 (b / 512 % 8) (p8 (b / 64 % 8) (p8 (b / 8 % 8) (p8 (b % 8) x (g8 (b / 8 % 8) (g8 (b / 64 % 8) (g8 (b / 512 % 8) (g8 (b / 4096 % 8) M.t))))) (g8 (b / 64 % 8) (g8 (b / 512 % 8) (g8 (b / 4096 % 8) M.t)))) (g8 (b / 512 % 8) (g8 (b / 4096 % 8) M.t))) (g8 (b / 4096 % 8) M.t)) M.t⟩
theorem setM_eq {α : Type} (M : Me) (b : Nat) (x : Option Blk) (k : Me → α) : setM M b x k = k (sM M b x) := by
  unfold setM sM
  simp only [up8_eq, pr8_eq]
  rfl
theorem getB_sM {b c : Nat} (hb : b < 32768) (hc : c < 32768) (M : Me) (x : Option Blk) : getB (sM M b x) c = if b = c then x else getB M c := by
  rw [getB_eq, getB_eq]
  unfold sM
  simp only
  rw [g8_p8 (by omega) (by omega)]
  by_cases h4 : b / 4096 % 8 = c / 4096 % 8
  · rw [if_pos h4, g8_p8 (by omega) (by omega)]
    by_cases h3 : b / 512 % 8 = c / 512 % 8
    · rw [if_pos h3, g8_p8 (by omega) (by omega)]
      by_cases h2 : b / 64 % 8 = c / 64 % 8
      · rw [if_pos h2, g8_p8 (by omega) (by omega)]
        by_cases h1 : b / 8 % 8 = c / 8 % 8
        · rw [if_pos h1, g8_p8 (by omega) (by omega)]
          by_cases h0 : b % 8 = c % 8
          · rw [if_pos h0, if_pos (by omega)]
          · rw [if_neg h0, if_neg (by omega), h1, h2, h3, h4]
        · rw [if_neg h1, if_neg (by omega), h2, h3, h4]
      · rw [if_neg h2, if_neg (by omega), h3, h4]
    · rw [if_neg h3, if_neg (by omega), h4]
  · rw [if_neg h4, if_neg (by omega)]
/-- what is not laid yet is none -/
structure Can (M : Me) : Prop where
  le : M.n ≤ 32768
  none : ∀ b, M.n ≤ b → b < 32768 → getB M b = none
theorem Can.ext {M N : Me} (h : Can M) (k : Can N) (e : toMem M = toMem N) : M = N := by
  have hn : M.n = N.n := by rw [← toMem_len, ← toMem_len, e]
  have hg : ∀ b, b < 32768 → getB M b = getB N b := by
    intro b hb
    rcases Nat.lt_or_ge b M.n with c | c
    · have := congrArg (fun l => l[b]?) e
      simp only [toMem_get] at this
      rw [if_pos c, if_pos (by omega)] at this
      exact Option.some.inj this
    · rw [h.none b c hb, k.none b (by omega) hb]
  have ht : M.t = N.t := by
    refine g8_ext fun i4 h4 => g8_ext fun i3 h3 => g8_ext fun i2 h2 => g8_ext fun i1 h1 => g8_ext fun i0 h0 => ?_
    have := hg (i0 + 8 * i1 + 64 * i2 + 512 * i3 + 4096 * i4) (by omega)
    rw [getB_eq, getB_eq] at this
    rw [show (i0 + 8 * i1 + 64 * i2 + 512 * i3 + 4096 * i4) % 8 = i0 by omega, show (i0 + 8 * i1 + 64 * i2 + 512 * i3 + 4096 * i4) / 8 % 8 = i1 by omega, show (i0 + 8 * i1 + 64 * i2 + 512 * i3 + 4096 * i4) / 64 % 8 = i2 by omega, show (i0 + 8 * i1 + 64 * i2 + 512 * i3 + 4096 * i4) / 512 % 8 = i3 by omega, show (i0 + 8 * i1 + 64 * i2 + 512 * i3 + 4096 * i4) / 4096 % 8 = i4 by omega] at this
    exact this
  obtain ⟨m, t⟩ := M
  obtain ⟨n, u⟩ := N
  simp only at hn ht
  subst hn ht
  rfl
theorem Can.set {M : Me} (h : Can M) {b : Nat} (hb : b < M.n) (x : Option Blk) : Can (sM M b x) ∧ toMem (sM M b x) = (toMem M).set b x := by
  have hle := h.le
  refine ⟨⟨h.le, fun c h1 h2 => ?_⟩, ?_⟩
  · rw [getB_sM (by omega) h2, if_neg (by have : M.n ≤ c := h1; omega)]; exact h.none c h1 h2
  · refine List.ext_getElem? fun c => ?_
    rw [toMem_get, List.getElem?_set, toMem_len, toMem_get]
    show (if c < M.n then _ else _) = _
    by_cases hc : c < M.n
    · rw [if_pos hc, getB_sM (by omega) (by omega)]
      by_cases e : b = c
      · rw [if_pos e, if_pos e, if_pos hb]
      · rw [if_neg e, if_neg e, if_pos hc]
    · rw [if_neg hc, if_neg (by omega), if_neg hc]
/-- memory with a block more -/
def pM (M : Me) (x : Blk) : Me := ⟨M.n + 1, (sM M M.n (some x)).t⟩
theorem Can.push {M : Me} (h : Can M) (hlt : M.n < 32768) (x : Blk) : Can (pM M x) ∧ toMem (pM M x) = toMem M ++ [some x] := by
  have hle := h.le
  have hg : ∀ c, c < 32768 → getB (pM M x) c = if M.n = c then some x else getB M c := fun c hc => by
    have := getB_sM (b := M.n) (c := c) hlt hc M (some x)
    exact this
  refine ⟨⟨by show M.n + 1 ≤ 32768; omega, fun c h1 h2 => ?_⟩, ?_⟩
  · have : M.n + 1 ≤ c := h1
    rw [hg c h2, if_neg (by omega)]; exact h.none c (by omega) h2
  · refine List.ext_getElem? fun c => ?_
    rw [toMem_get]
    show (if c < M.n + 1 then _ else _) = _
    rcases Nat.lt_trichotomy c M.n with hc | hc | hc
    · rw [if_pos (by omega), hg c (by omega), if_neg (by omega), List.getElem?_append_left (by rw [toMem_len]; exact hc), toMem_get, if_pos hc]
    · rw [if_pos (by omega), hg c (by omega), if_pos hc.symm, List.getElem?_append_right (by rw [toMem_len]; omega), toMem_len, hc]; simp
    · rw [if_neg (by omega), List.getElem?_append_right (by rw [toMem_len]; omega), toMem_len, List.getElem?_eq_none (by simp; omega)]
theorem pushM_some {α : Type} {M : Me} {x : Blk} {k : Me → Option α} {r : α} (h : pushM M x k = some r) : M.n < 32768 ∧ ∀ k' : Me → Option α, pushM M x k' = k' (pM M x) := by
  unfold pushM at h ⊢
  have e : Nat.blt M.n 32768 = decide (M.n < 32768) := blt_iff _ _
  rw [e] at h ⊢
  by_cases c : M.n < 32768
  · rw [decide_eq_true c] at h ⊢
    refine ⟨c, fun k' => ?_⟩
    show setM M M.n (some x) _ = _
    rw [setM_eq, frcN_eq]
    rfl
  · rw [decide_eq_false c] at h; cases h
end Go.Proofs.YtgaigfmboomnkaaGreat
