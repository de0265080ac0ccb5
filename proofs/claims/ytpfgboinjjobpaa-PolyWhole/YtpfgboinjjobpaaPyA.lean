/-
  OWN TEXT: whole complex numbers, their lengths, and polynomials of them as lists, the lowest coefficient first.
-/
set_option linter.unusedVariables false
namespace Go.Proofs.Ytpfgboinjjobpaa.Py

abbrev G := Int × Int
def ga (a b : G) : G := (a.1 + b.1, a.2 + b.2)
def gs (a b : G) : G := (a.1 - b.1, a.2 - b.2)
def gm (a b : G) : G := (a.1 * b.1 - a.2 * b.2, a.1 * b.2 + a.2 * b.1)
def gn (a : G) : G := (-a.1, -a.2)
theorem gext {a b : G} (h1 : a.1 = b.1) (h2 : a.2 = b.2) : a = b := by cases a; cases b; simp_all
/-- the length is at most M -/
def Le (g : G) (M : Nat) : Prop := g.1 * g.1 + g.2 * g.2 ≤ (M : Int) * M
theorem sq_nonneg (x : Int) : 0 ≤ x * x := by
  rcases Int.le_total 0 x with h | h
  · exact Int.mul_nonneg h h
  · exact Int.mul_nonneg_of_nonpos_of_nonpos h h
theorem sq_le {x y : Int} (hy : 0 ≤ y) (h : x * x ≤ y * y) : x ≤ y := by
  rcases Int.lt_or_le y x with c | c
  · have h1 : y * y ≤ y * x := Int.mul_le_mul_of_nonneg_left (Int.le_of_lt c) hy
    have h2 : y * x < x * x := Int.mul_lt_mul_of_pos_right c (by omega)
    omega
  · exact c
theorem Le.one {g : G} {M : Nat} (h : Le g M) : g.1.natAbs ≤ M ∧ g.2.natAbs ≤ M := by
  unfold Le at h
  have h1 := sq_nonneg g.1
  have h2 := sq_nonneg g.2
  have a1 : ∀ x : Int, x * x ≤ (M : Int) * M → x.natAbs ≤ M := by
    intro x hx
    have p := sq_le (x := x) (y := M) (by omega) hx
    have q := sq_le (x := -x) (y := M) (by omega) (by rw [Int.neg_mul_neg]; exact hx)
    omega
  exact ⟨a1 _ (by omega), a1 _ (by omega)⟩
theorem Le.mono {g : G} {M K : Nat} (h : Le g M) (k : M ≤ K) : Le g K := by
  unfold Le at *
  have : (M : Int) * M ≤ (K : Int) * K := Int.mul_le_mul (by omega) (by omega) (by omega) (by omega)
  omega
theorem Le.mul {g h : G} {M K : Nat} (a : Le g M) (b : Le h K) : Le (gm g h) (M * K) := by
  unfold Le gm at *
  have e : (g.1 * h.1 - g.2 * h.2) * (g.1 * h.1 - g.2 * h.2) + (g.1 * h.2 + g.2 * h.1) * (g.1 * h.2 + g.2 * h.1) = (g.1 * g.1 + g.2 * g.2) * (h.1 * h.1 + h.2 * h.2) := by grind
  have n1 := sq_nonneg g.1
  have n2 := sq_nonneg g.2
  have n3 := sq_nonneg h.1
  have n4 := sq_nonneg h.2
  have m := Int.mul_le_mul a b (by omega) (by have := sq_nonneg (M : Int); omega)
  show (g.1 * h.1 - g.2 * h.2) * (g.1 * h.1 - g.2 * h.2) + (g.1 * h.2 + g.2 * h.1) * (g.1 * h.2 + g.2 * h.1) ≤ _
  rw [e]
  refine Int.le_trans m (Int.le_of_eq ?_)
  rw [Int.natCast_mul]
  grind
theorem Le.add {g h : G} {M K : Nat} (a : Le g M) (b : Le h K) : Le (ga g h) (M + K) := by
  have dot : g.1 * h.1 + g.2 * h.2 ≤ (M : Int) * K := by
    refine sq_le (by exact Int.mul_nonneg (by omega) (by omega)) ?_
    unfold Le at *
    have e : (g.1 * h.1 + g.2 * h.2) * (g.1 * h.1 + g.2 * h.2) + (g.1 * h.2 - g.2 * h.1) * (g.1 * h.2 - g.2 * h.1) = (g.1 * g.1 + g.2 * g.2) * (h.1 * h.1 + h.2 * h.2) := by grind
    have n1 := sq_nonneg g.1
    have n2 := sq_nonneg g.2
    have n3 := sq_nonneg h.1
    have n4 := sq_nonneg h.2
    have n5 := sq_nonneg (g.1 * h.2 - g.2 * h.1)
    have m := Int.mul_le_mul a b (by omega) (by have := sq_nonneg (M : Int); omega)
    have f : (M : Int) * M * (K * K) = M * K * (M * K) := by grind
    omega
  unfold Le ga at *
  show (g.1 + h.1) * (g.1 + h.1) + (g.2 + h.2) * (g.2 + h.2) ≤ _
  rw [Int.natCast_add]
  grind
theorem Le.neg {g : G} {M : Nat} (a : Le g M) : Le (gn g) M := by
  unfold Le gn at *
  simp only [Int.neg_mul_neg]; exact a
theorem gs_eq (a b : G) : gs a b = ga a (gn b) := by unfold gs ga gn; exact gext (by simp only; omega) (by simp only; omega)
theorem Le.sub {g h : G} {M K : Nat} (a : Le g M) (b : Le h K) : Le (gs g h) (M + K) := by rw [gs_eq]; exact a.add b.neg
theorem Le.nought (M : Nat) : Le (0, 0) M := by unfold Le; simp only [Int.mul_zero, Int.add_zero]; exact sq_nonneg _
/-- the products of parts are at most M * K -/
theorem Le.prods {g h : G} {M K : Nat} (a : Le g M) (b : Le h K) : (g.1 * h.1).natAbs ≤ M * K ∧ (g.2 * h.2).natAbs ≤ M * K ∧ (g.1 * h.2).natAbs ≤ M * K ∧ (g.2 * h.1).natAbs ≤ M * K := by
  obtain ⟨p, q⟩ := a.one
  obtain ⟨r, s⟩ := b.one
  simp only [Int.natAbs_mul]
  exact ⟨Nat.mul_le_mul p r, Nat.mul_le_mul q s, Nat.mul_le_mul p s, Nat.mul_le_mul q r⟩

/-! ring -/
theorem ga_comm (a b : G) : ga a b = ga b a := gext (Int.add_comm _ _) (Int.add_comm _ _)
theorem ga_assoc (a b c : G) : ga (ga a b) c = ga a (ga b c) := gext (Int.add_assoc _ _ _) (Int.add_assoc _ _ _)
theorem ga_nought (a : G) : ga a (0, 0) = a := gext (Int.add_zero _) (Int.add_zero _)
theorem nought_ga (a : G) : ga (0, 0) a = a := gext (Int.zero_add _) (Int.zero_add _)
theorem gm_comm (a b : G) : gm a b = gm b a := gext (by unfold gm; grind) (by unfold gm; grind)
theorem gm_assoc (a b c : G) : gm (gm a b) c = gm a (gm b c) := gext (by unfold gm; grind) (by unfold gm; grind)
theorem gm_nought (a : G) : gm a (0, 0) = (0, 0) := gext (by unfold gm; grind) (by unfold gm; grind)
theorem nought_gm (a : G) : gm (0, 0) a = (0, 0) := gext (by unfold gm; grind) (by unfold gm; grind)
theorem gm_one (a : G) : gm a (1, 0) = a := gext (by unfold gm; grind) (by unfold gm; grind)
theorem gm_ga (a b c : G) : gm a (ga b c) = ga (gm a b) (gm a c) := gext (by unfold gm ga; grind) (by unfold gm ga; grind)
theorem ga_gm (a b c : G) : gm (ga a b) c = ga (gm a c) (gm b c) := gext (by unfold gm ga; grind) (by unfold gm ga; grind)

/-- the coefficient i -/
def co (l : List G) (i : Nat) : G := l.getD i (0, 0)
theorem co_nil (i : Nat) : co [] i = (0, 0) := rfl
theorem co_zero (x : G) (r : List G) : co (x :: r) 0 = x := rfl
theorem co_succ (x : G) (r : List G) (i : Nat) : co (x :: r) (i + 1) = co r i := rfl
theorem co_out {l : List G} {i : Nat} (h : l.length ≤ i) : co l i = (0, 0) := by simp [co, List.getD, List.getElem?_eq_none h]
theorem co_set (l : List G) (i j : Nat) (x : G) (h : i < l.length) : co (l.set i x) j = if j = i then x else co l j := by
  simp only [co, List.getD, List.getElem?_set]
  by_cases c : i = j
  · subst c; simp [h]
  · rw [if_neg c, if_neg (fun e => c e.symm)]
theorem co_take (l : List G) (n i : Nat) : co (l.take n) i = if i < n then co l i else (0, 0) := by
  simp only [co, List.getD, List.getElem?_take]
  split <;> simp
theorem co_drop (l : List G) (n i : Nat) : co (l.drop n) i = co l (n + i) := by
  simp only [co, List.getD, List.getElem?_drop]
theorem co_append (l m : List G) (i : Nat) : co (l ++ m) i = if i < l.length then co l i else co m (i - l.length) := by
  simp only [co, List.getD, List.getElem?_append]
  split <;> rfl
theorem co_map (f : Nat → G) (n i : Nat) : co ((List.range n).map f) i = if i < n then f i else (0, 0) := by
  unfold co
  by_cases h : i < n
  · simp [h]
  · simp [List.getD, h]
theorem list_ext {l m : List G} (hl : l.length = m.length) (h : ∀ i, i < l.length → co l i = co m i) : l = m := by
  refine List.ext_getElem hl fun i h1 h2 => ?_
  have := h i h1
  simpa [co, List.getD, h1, h2] using this
theorem drop_cons {l : List G} {i : Nat} (h : i < l.length) : l.drop i = co l i :: l.drop (i + 1) := by
  rw [List.drop_eq_getElem_cons h]
  simp [co, List.getD, h]

/-- the value at z -/
def ev : List G → G → G
  | [], _ => (0, 0)
  | c :: r, z => ga (gm (ev r z) z) c
theorem ev_drop (l : List G) (z : G) {i : Nat} (h : i < l.length) : ev (l.drop i) z = ga (gm (ev (l.drop (i + 1)) z) z) (co l i) := by
  rw [drop_cons h, ev]
theorem ev_noughts (l : List G) (z : G) (h : ∀ i, co l i = (0, 0)) : ev l z = (0, 0) := by
  induction l with
  | nil => rfl
  | cons x r ih =>
    have h0 : x = (0, 0) := h 0
    rw [ev, ih (fun i => h (i + 1)), h0, nought_gm, ga_nought]
/-- the value hangs on the coefficients alone -/
theorem ev_same : ∀ (l m : List G) (z : G), (∀ i, co l i = co m i) → ev l z = ev m z
  | [], m, z, h => by rw [ev_noughts m z (fun i => (h i).symm)]; rfl
  | x :: r, [], z, h => by rw [ev_noughts (x :: r) z (fun i => h i)]; rfl
  | x :: r, y :: s, z, h => by
    have h0 : x = y := h 0
    rw [ev, ev, ev_same r s z (fun i => h (i + 1)), h0]
/-- sums -/
theorem ev_add : ∀ (l a b : List G) (z : G), (∀ i, co l i = ga (co a i) (co b i)) → ev l z = ga (ev a z) (ev b z)
  | l, [], b, z, h => by rw [ev_same l b z (fun i => by rw [h, co_nil, nought_ga]), ev, nought_ga]
  | l, a, [], z, h => by rw [ev_same l a z (fun i => by rw [h, co_nil, ga_nought]), ev, ga_nought]
  | l, x :: r, y :: s, z, h => by
    cases l with
    | nil =>
      have e : ev (ga x y :: []) z = ev [] z := ev_same _ _ _ fun i => by
        cases i with
        | zero => exact (h 0).symm
        | succ i => rfl
      have ih := ev_add [] r s z (fun i => h (i + 1))
      rw [ev, ev, ev]
      have h0 : (0, 0) = ga x y := h 0
      rw [ev] at ih
      rw [show ga (ga (gm (ev r z) z) x) (ga (gm (ev s z) z) y) = ga (gm (ga (ev r z) (ev s z)) z) (ga x y) by rw [ga_gm]; exact gext (by unfold ga; simp only; omega) (by unfold ga; simp only; omega), ← ih, ← h0, nought_gm, ga_nought]
    | cons u t =>
      have ih := ev_add t r s z (fun i => h (i + 1))
      have h0 : u = ga x y := h 0
      rw [ev, ev, ev, ih, h0, ga_gm]
      exact gext (by unfold ga; simp only; omega) (by unfold ga; simp only; omega)
theorem ev_scale (l a : List G) (k z : G) (h : ∀ i, co l i = gm k (co a i)) : ev l z = gm k (ev a z) := by
  have e : ev l z = ev (a.map (gm k)) z := ev_same _ _ _ fun i => by
    rw [h]
    unfold co
    simp only [List.getD, List.getElem?_map]
    cases a[i]? with
    | none => exact gm_nought k
    | some x => rfl
  rw [e]
  clear e h
  induction a with
  | nil => exact (gm_nought k).symm
  | cons x r ih => rw [List.map_cons, ev, ev, ih, gm_ga, gm_assoc]
theorem ev_up (l : List G) (z : G) : ev ((0, 0) :: l) z = gm (ev l z) z := by rw [ev, ga_nought]

/-- the sum of a's i times b's j - i, over the i below k (and at most j) -/
def ts (a b : List G) (j : Nat) : Nat → G
  | 0 => (0, 0)
  | k + 1 => ga (ts a b j k) (if k ≤ j then gm (co a k) (co b (j - k)) else (0, 0))
theorem ts_far (a b : List G) (j k n : Nat) (h : ∀ i, k ≤ i → i < k + n → i ≤ j → gm (co a i) (co b (j - i)) = (0, 0)) : ts a b j (k + n) = ts a b j k := by
  induction n with
  | zero => rfl
  | succ n ih =>
    rw [← Nat.add_assoc, ts, ih (fun i h1 h2 h3 => h i h1 (by omega) h3)]
    by_cases c : k + n ≤ j
    · rw [if_pos c, h (k + n) (by omega) (by omega) c, ga_nought]
    · rw [if_neg c, ga_nought]
theorem ts_cons (x : G) (r b : List G) (j k : Nat) : ts (x :: r) b j (k + 1) = ga (gm x (co b j)) (match j with | 0 => (0, 0) | j + 1 => ts r b j k) := by
  induction k with
  | zero => rw [ts, ts, if_pos (Nat.zero_le _), nought_ga, co_zero, Nat.sub_zero]; cases j <;> exact (ga_nought _).symm
  | succ k ih =>
    rw [ts, ih]
    cases j with
    | zero => rw [if_neg (by omega), ga_nought]
    | succ j =>
      simp only
      rw [ts, co_succ, ga_assoc]
      congr 2
      by_cases c : k ≤ j
      · rw [if_pos (by omega), if_pos c, show j + 1 - (k + 1) = j - k by omega]
      · rw [if_neg (by omega), if_neg c]
theorem ev_mul : ∀ (a b l : List G) (z : G), (∀ j, co l j = ts a b j a.length) → ev l z = gm (ev a z) (ev b z)
  | [], b, l, z, h => by rw [ev_noughts l z (fun i => h i), ev, nought_gm]
  | x :: r, b, l, z, h => by
    have n := r.length + b.length + 1
    have ih := ev_mul r b ((List.range (r.length + b.length)).map (fun j => ts r b j r.length)) z (fun j => by
      rw [co_map]
      by_cases c : j < r.length + b.length
      · rw [if_pos c]
      · rw [if_neg c]
        have := ts_far r b j 0 r.length (fun i _ h2 h3 => by rw [co_out (l := b) (by omega), gm_nought])
        rw [Nat.zero_add] at this
        rw [this]; rfl)
    have e := ev_add l (b.map (gm x)) ((0, 0) :: (List.range (r.length + b.length)).map (fun j => ts r b j r.length)) z (fun j => by
      rw [h, List.length_cons, ts_cons]
      congr 1
      · unfold co
        simp only [List.getD, List.getElem?_map]
        cases b[j]? with
        | none => exact gm_nought x
        | some y => rfl
      · cases j with
        | zero => rfl
        | succ j =>
          rw [co_succ, co_map]
          by_cases c : j < r.length + b.length
          · rw [if_pos c]
          · rw [if_neg c]
            have := ts_far r b j 0 r.length (fun i _ h2 h3 => by rw [co_out (l := b) (by omega), gm_nought])
            rw [Nat.zero_add] at this
            show ts r b j r.length = _
            rw [this]; rfl)
    rw [e, ev_up, ih, ev_scale (b.map (gm x)) b x z (fun i => by
      unfold co
      simp only [List.getD, List.getElem?_map]
      cases b[i]? with
      | none => exact (gm_nought x).symm
      | some y => rfl), ev]
    exact gext (by unfold ga gm; grind) (by unfold ga gm; grind)
end Go.Proofs.Ytpfgboinjjobpaa.Py
