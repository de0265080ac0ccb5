/-
 OWN TEXT: whole complex numbers, their lengths, and polynomials of them as lists, the lowest coefficient first.
-/
import Derived.Test.YtjpllggchjgjpaaGreatJWhA
import Derived.Test.YtjpllggchjgjpaaGreatJEoEToFnSame
set_option linter.unusedVariables false
namespace Go.Proofs.YtjpllggchjgjpaaGreat.Py

abbrev G := Int × Int
def ga (a b : G) : G := (a.1 + b.1, a.2 + b.2)
def gs (a b : G) : G := (a.1 - b.1, a.2 - b.2)
def gm (a b : G) : G := (a.1 * b.1 - a.2 * b.2, a.1 * b.2 + a.2 * b.1)
def gn (a : G) : G := (-a.1, -a.2)
theorem gext {a b : G} (h1 : a.1 = b.1) (h2 : a.2 = b.2) : a = b := by cases a; cases b; simp_all
/-- the length is at most M -/
def Le (g : G) (M : Nat) : Prop := g.1 * g.1 + g.2 * g.2 ≤ (M : Int) * M
theorem sq_nonneg (x : Int) : 0 ≤ x * x := by
 rcases Int.le_total 0 x with h | h
 · exact Int.mul_nonneg h h
 · exact Int.mul_nonneg_of_nonpos_of_nonpos h h
theorem sq_le {x y : Int} (hy : 0 ≤ y) (h : x * x ≤ y * y) : x ≤ y := by
 rcases Int.lt_or_le y x with c | c
 ·
  have h1 : y * y ≤ y * x := Int.mul_le_mul_of_nonneg_left (Int.le_of_lt c) hy
  have h2 : y * x < x * x := Int.mul_lt_mul_of_pos_right c (by omega)
  omega
 · exact c
theorem Le.one {g : G} {M : Nat} (h : Le g M) : g.1.natAbs ≤ M ∧ g.2.natAbs ≤ M := by
 unfold Le at h
 have h1 := sq_nonneg g.1
 have h2 := sq_nonneg g.2
 have a1 : ∀ x : Int, x * x ≤ (M : Int) * M → x.natAbs ≤ M := by
  intro x hx
  have p := sq_le (x := x) (y := M) (by omega) hx
  have q := sq_le (x := -x) (y := M) (by omega) (by rw [Int.neg_mul_neg]; exact hx)
  omega
 exact ⟨a1 _ (by omega), a1 _ (by omega)⟩
theorem Le.mono {g : G} {M K : Nat} (h : Le g M) (k : M ≤ K) : Le g K := by
 unfold Le at *
 have : (M : Int) * M ≤ (K : Int) * K := Int.mul_le_mul (by omega) (by omega) (by omega) (by omega)
 omega
theorem Le.mul {g h : G} {M K : Nat} (a : Le g M) (b : Le h K) : Le (gm g h) (M * K) := by
 unfold Le gm at *
 have e : (g.1 * h.1 - g.2 * h.2) * (g.1 * h.1 - g.2 * h.2) + (g.1 * h.2 + g.2 * h.1) * (g.1 * h.2 + g.2 * h.1) = (g.1 * g.1 + g.2 * g.2) * (h.1 * h.1 + h.2 * h.2) := by grind
 have n1 := sq_nonneg g.1
 have n2 := sq_nonneg g.2
 have n3 := sq_nonneg h.1
 have n4 := sq_nonneg h.2
 have m := Int.mul_le_mul a b (by omega) (by have := sq_nonneg (M : Int); omega)
 show (g.1 * h.1 - g.2 * h.2) * (g.1 * h.1 - g.2 * h.2) + (g.1 * h.2 + g.2 * h.1) * (g.1 * h.2 + g.2 * h.1) ≤ _
 rw [e]
 refine Int.le_trans m (Int.le_of_eq ?_)
 rw [Int.natCast_mul]
 grind
theorem Le.add {g h : G} {M K : Nat} (a : Le g M) (b : Le h K) : Le (ga g h) (M + K) := by
 have dot : g.1 * h.1 + g.2 * h.2 ≤ (M : Int) * K := by
  refine sq_le (by exact Int.mul_nonneg (by omega) (by omega)) ?_
  unfold Le at *
  have e : (g.1 * h.1 + g.2 * h.2) * (g.1 * h.1 + g.2 * h.2) + (g.1 * h.2 - g.2 * h.1) * (g.1 * h.2 - g.2 * h.1) = (g.1 * g.1 + g.2 * g.2) * (h.1 * h.1 + h.2 * h.2) := by grind
  have n1 := sq_nonneg g.1
  have n2 := sq_nonneg g.2
  have n3 := sq_nonneg h.1
  have n4 := sq_nonneg h.2
  have n5 := sq_nonneg (g.1 * h.2 - g.2 * h.1)
  have m := Int.mul_le_mul a b (by omega) (by have := sq_nonneg (M : Int); omega)
  have f : (M : Int) * M * (K * K) = M * K * (M * K) := by grind
  omega
 unfold Le ga at *
 show (g.1 + h.1) * (g.1 + h.1) + (g.2 + h.2) * (g.2 + h.2) ≤ _
 rw [Int.natCast_add]
 grind
theorem Le.neg {g : G} {M : Nat} (a : Le g M) : Le (gn g) M := by
 unfold Le gn at *
 simp only [Int.neg_mul_neg]; exact a
theorem gs_eq (a b : G) : gs a b = ga a (gn b) := by unfold gs ga gn; exact gext (by simp only; omega) (by simp only; omega)
theorem Le.sub {g h : G} {M K : Nat} (a : Le g M) (b : Le h K) : Le (gs g h) (M + K) := by rw [gs_eq]; exact a.add b.neg
theorem Le.nought (M : Nat) : Le (0, 0) M := by unfold Le; simp only [Int.mul_zero, Int.add_zero]; exact sq_nonneg _
/-- the products of parts are at most M * K -/
theorem Le.prods {g h : G} {M K : Nat} (a : Le g M) (b : Le h K) : (g.1 * h.1).natAbs ≤ M * K ∧ (g.2 * h.2).natAbs ≤ M * K ∧ (g.1 * h.2).natAbs ≤ M * K ∧ (g.2 * h.1).natAbs ≤ M * K := by
 obtain ⟨p, q⟩ := a.one
 obtain ⟨r, s⟩ := b.one
 simp only [Int.natAbs_mul]
 exact ⟨Nat.mul_le_mul p r, Nat.mul_le_mul q s, Nat.mul_le_mul p s, Nat.mul_le_mul q r⟩
/-! ring -/
theorem ga_comm (a b : G) : ga a b = ga b a := gext (Int.add_comm _ _) (Int.add_comm _ _)
theorem ga_assoc (a b c : G) : ga (ga a b) c = ga a (ga b c) := gext (Int.add_assoc _ _ _) (Int.add_assoc _ _ _)
theorem ga_nought (a : G) : ga a (0, 0) = a := gext (Int.add_zero _) (Int.add_zero _)
theorem nought_ga (a : G) : ga (0, 0) a = a := gext (Int.zero_add _) (Int.zero_add _)
theorem gm_comm (a b : G) : gm a b = gm b a := gext (by unfold gm; grind) (by unfold gm; grind)
theorem gm_assoc (a b c : G) : gm (gm a b) c = gm a (gm b c) := gext (by unfold gm; grind) (by unfold gm; grind)
theorem gm_nought (a : G) : gm a (0, 0) = (0, 0) := gext (by unfold gm; grind) (by unfold gm; grind)
theorem nought_gm (a : G) : gm (0, 0) a = (0, 0) := gext (by unfold gm; grind) (by unfold gm; grind)
theorem gm_one (a : G) : gm a (1, 0) = a := gext (by unfold gm; grind) (by unfold gm; grind)
theorem gm_ga (a b c : G) : gm a (ga b c) = ga (gm a b) (gm a c) := gext (by unfold gm ga; grind) (by unfold gm ga; grind)
theorem ga_gm (a b c : G) : gm (ga a b) c = ga (gm a c) (gm b c) := gext (by unfold gm ga; grind) (by unfold gm ga; grind)
/-- the coefficient i -/
def co (l : List G) (i : Nat) : G := l.getD i (0, 0)
theorem co_nil (i : Nat) : co [] i = (0, 0) := rfl
theorem co_zero (x : G) (r : List G) : co (x :: r) 0 = x := rfl
theorem co_succ (x : G) (r : List G) (i : Nat) : co (x :: r) (i + 1) = co r i := rfl
theorem co_out {l : List G} {i : Nat} (h : l.length ≤ i) : co l i = (0, 0) := by simp [co, List.getD, List.getElem?_eq_none h]
theorem co_set (l : List G) (i j : Nat) (x : G) (h : i < l.length) : co (l.set i x) j = if j = i then x else co l j := by
 simp only [co, List.getD, List.getElem?_set]
 by_cases c : i = j
 · subst c; simp [h]
 · rw [if_neg c, if_neg (fun e => c e.symm)]
theorem co_take (l : List G) (n i : Nat) : co (l.take n) i = if i < n then co l i else (0, 0) := by
 simp only [co, List.getD, List.getElem?_take]
 split <;> simp
theorem co_append (l m : List G) (i : Nat) : co (l ++ m) i = if i < l.length then co l i else co m (i - l.length) := by
 simp only [co, List.getD, List.getElem?_append]
 split <;> rfl
theorem co_map (f : Nat → G) (n i : Nat) : co ((List.range n).map f) i = if i < n then f i else (0, 0) := by
 unfold co
 by_cases h : i < n
 · simp [h]
 · simp [List.getD, h]
theorem list_ext {l m : List G} (hl : l.length = m.length) (h : ∀ i, i < l.length → co l i = co m i) : l = m := by
 refine List.ext_getElem hl fun i h1 h2 => ?_
 have := h i h1
 simpa [co, List.getD, h1, h2] using this
theorem drop_cons {l : List G} {i : Nat} (h : i < l.length) : l.drop i = co l i :: l.drop (i + 1) := by
 rw [List.drop_eq_getElem_cons h]
 simp [co, List.getD, h]
/-- the value at z -/
def ev : List G → G → G
 | [], _ => (0, 0)
 | c :: r, z => ga (gm (ev r z) z) c
theorem ev_drop (l : List G) (z : G) {i : Nat} (h : i < l.length) : ev (l.drop i) z = ga (gm (ev (l.drop (i + 1)) z) z) (co l i) := by
 rw [drop_cons h, ev]
theorem ev_noughts (l : List G) (z : G) (h : ∀ i, co l i = (0, 0)) : ev l z = (0, 0) := by
 induction l with
 | nil => rfl
 | cons x r ih =>
  have h0 : x = (0, 0) := h 0
  rw [ev, ih (fun i => h (i + 1)), h0, nought_gm, ga_nought]
/-- the value hangs on the coefficients alone -/
theorem ev_same : ∀ (l m : List G) (z : G), (∀ i, co l i = co m i) → ev l z = ev m z
 | [], m, z, h => by rw [ev_noughts m z (fun i => (h i).symm)]; rfl
 | x :: r, [], z, h => by rw [ev_noughts (x :: r) z (fun i => h i)]; rfl
 | x :: r, y :: s, z, h => by
  have h0 : x = y := h 0
  rw [ev, ev, ev_same r s z (fun i => h (i + 1)), h0]
/-- sums -/
theorem ev_add : ∀ (l a b : List G) (z : G), (∀ i, co l i = ga (co a i) (co b i)) → ev l z = ga (ev a z) (ev b z)
 | l, [], b, z, h => by rw [ev_same l b z (fun i => by rw [h, co_nil, nought_ga]), ev, nought_ga]
 | l, a, [], z, h => by rw [ev_same l a z (fun i => by rw [h, co_nil, ga_nought]), ev, ga_nought]
 | l, x :: r, y :: s, z, h => by
  cases l with
  | nil =>
   have e : ev (ga x y :: []) z = ev [] z := ev_same _ _ _ fun i => by
    cases i with
    | zero => exact (h 0).symm
    | succ i => rfl
   have ih := ev_add [] r s z (fun i => h (i + 1))
   rw [ev, ev, ev]
   have h0 : (0, 0) = ga x y := h 0
   rw [ev] at ih
   rw [show ga (ga (gm (ev r z) z) x) (ga (gm (ev s z) z) y) = ga (gm (ga (ev r z) (ev s z)) z) (ga x y) by rw [ga_gm]; exact gext (by unfold ga; simp only; omega) (by unfold ga; simp only; omega), ← ih, ← h0, nought_gm, ga_nought]
  | cons u t =>
   have ih := ev_add t r s z (fun i => h (i + 1))
   have h0 : u = ga x y := h 0
   rw [ev, ev, ev, ih, h0, ga_gm]
   exact gext (by unfold ga; simp only; omega) (by unfold ga; simp only; omega)
theorem ev_scale (l a : List G) (k z : G) (h : ∀ i, co l i = gm k (co a i)) : ev l z = gm k (ev a z) := by
 have e : ev l z = ev (a.map (gm k)) z := ev_same _ _ _ fun i => by
  rw [h]
  unfold co
  simp only [List.getD, List.getElem?_map]
  cases a[i]? with
  | none => exact gm_nought k
  | some x => rfl
 rw [e]
 clear e h
 induction a with
 | nil => exact (gm_nought k).symm
 | cons x r ih => rw [List.map_cons, ev, ev, ih, gm_ga, gm_assoc]
theorem ev_up (l : List G) (z : G) : ev ((0, 0) :: l) z = gm (ev l z) z := by rw [ev, ga_nought]
/-- the sum of a's i times b's j - i, over the i below k (and at most j) -/
def ts (a b : List G) (j : Nat) : Nat → G
 | 0 => (0, 0)
 | k + 1 => ga (ts a b j k) (if k ≤ j then gm (co a k) (co b (j - k)) else (0, 0))
theorem ts_far (a b : List G) (j k n : Nat) (h : ∀ i, k ≤ i → i < k + n → i ≤ j → gm (co a i) (co b (j - i)) = (0, 0)) : ts a b j (k + n) = ts a b j k := by
 induction n with
 | zero => rfl
 | succ n ih =>
  rw [← Nat.add_assoc, ts, ih (fun i h1 h2 h3 => h i h1 (by omega) h3)]
  by_cases c : k + n ≤ j
  · rw [if_pos c, h (k + n) (by omega) (by omega) c, ga_nought]
  · rw [if_neg c, ga_nought]
theorem ts_cons (x : G) (r b : List G) (j k : Nat) : ts (x :: r) b j (k + 1) = ga (gm x (co b j)) (match j with | 0 => (0, 0) | j + 1 => ts r b j k) := by
 induction k with
 | zero => rw [ts, ts, if_pos (Nat.zero_le _), nought_ga, co_zero, Nat.sub_zero]; cases j <;> exact (ga_nought _).symm
 | succ k ih =>
  rw [ts, ih]
  cases j with
  | zero => rw [if_neg (by omega), ga_nought]
  | succ j =>
   simp only
   rw [ts, co_succ, ga_assoc]
   congr 2
   by_cases c : k ≤ j
   · rw [if_pos (by omega), if_pos c, show j + 1 - (k + 1) = j - k by omega]
   · rw [if_neg (by omega), if_neg c]
theorem ev_mul : ∀ (a b l : List G) (z : G), (∀ j, co l j = ts a b j a.length) → ev l z = gm (ev a z) (ev b z)
 | [], b, l, z, h => by rw [ev_noughts l z (fun i => h i), ev, nought_gm]
 | x :: r, b, l, z, h => by
  have n := r.length + b.length + 1
  have ih := ev_mul r b ((List.range (r.length + b.length)).map (fun j => ts r b j r.length)) z (fun j => by
   rw [co_map]
   by_cases c : j < r.length + b.length
   · rw [if_pos c]
   ·
    rw [if_neg c]
    have := ts_far r b j 0 r.length (fun i _ h2 h3 => by rw [co_out (l := b) (by omega), gm_nought])
    rw [Nat.zero_add] at this
    rw [this]; rfl)
  have e := ev_add l (b.map (gm x)) ((0, 0) :: (List.range (r.length + b.length)).map (fun j => ts r b j r.length)) z (fun j => by
   rw [h, List.length_cons, ts_cons]
   congr 1
   ·
    unfold co
    simp only [List.getD, List.getElem?_map]
    cases b[j]? with
    | none => exact gm_nought x
    | some y => rfl
   ·
    cases j with
    | zero => rfl
    | succ j =>
     rw [co_succ, co_map]
     by_cases c : j < r.length + b.length
     · rw [if_pos c]
     ·
      rw [if_neg c]
      have := ts_far r b j 0 r.length (fun i _ h2 h3 => by rw [co_out (l := b) (by omega), gm_nought])
      rw [Nat.zero_add] at this
      show ts r b j r.length = _
      rw [this]; rfl)
  rw [e, ev_up, ih, ev_scale (b.map (gm x)) b x z (fun i => by
   unfold co
   simp only [List.getD, List.getElem?_map]
   cases b[i]? with
   | none => exact (gm_nought x).symm
   | some y => rfl), ev]
  exact gext (by unfold ga gm; grind) (by unfold ga gm; grind)
end Go.Proofs.YtjpllggchjgjpaaGreat.Py

/-
 OWN TEXT: polynomials of whole complex numbers: shifted, of given zeros, without their last noughts, divided.
-/
set_option linter.unusedVariables false
namespace Go.Proofs.YtjpllggchjgjpaaGreat.Py

/-! a pass of the shift -/
def sp (by_ : G) : List G → List G
 | [] => []
 | c :: r => ga c (gm (co (sp by_ r) 0) by_) :: sp by_ r
def pass (by_ : G) (l : List G) (j : Nat) : List G := l.take j ++ sp by_ (l.drop j)
/-- the first j at z, the rest at x -/
def mx (z x : G) : Nat → List G → G
 | 0, l => ev l x
 | _ + 1, [] => (0, 0)
 | j + 1, c :: r => ga (gm (mx z x j r) z) c
/-! one zero more -/
def wz (p : List G) (z : G) : List G := (List.range (p.length + 1)).map (fun i => gs (co ((0, 0) :: p) i) (gm z (co p i)))
theorem wz_len (p : List G) (z : G) : (wz p z).length = p.length + 1 := by simp [wz]
theorem co_wz (p : List G) (z : G) (i : Nat) : co (wz p z) i = gs (co ((0, 0) :: p) i) (gm z (co p i)) := by
 unfold wz
 rw [co_map]
 by_cases c : i < p.length + 1
 · rw [if_pos c]
 · rw [if_neg c, co_out (l := (0, 0) :: p) (by simp; omega), co_out (l := p) (by omega), gm_nought]; rfl
theorem ev_wz (p : List G) (z x : G) : ev (wz p z) x = gm (ev p x) (gs x z) := by
 have e := ev_add (wz p z) ((0, 0) :: p) (p.map (gm (gn z))) x (fun i => by
  rw [co_wz, gs_eq]
  congr 1
  unfold co
  simp only [List.getD, List.getElem?_map]
  cases p[i]? with
  | none => show gn (gm z (0, 0)) = (0, 0); rw [gm_nought]; rfl
  | some y => exact gext (by unfold gn gm; simp only [Option.getD, Option.map]; grind) (by unfold gn gm; simp only [Option.getD, Option.map]; grind))
 rw [e, ev_up, ev_scale (p.map (gm (gn z))) p (gn z) x (fun i => by
  unfold co
  simp only [List.getD, List.getElem?_map]
  cases p[i]? with
  | none => exact (gm_nought _).symm
  | some y => rfl)]
 exact gext (by unfold ga gm gs gn; grind) (by unfold ga gm gs gn; grind)
def ofl (p zs : List G) : List G := zs.foldl wz p
theorem ofl_snoc (p zs : List G) (z : G) : ofl p (zs ++ [z]) = wz (ofl p zs) z := by unfold ofl; rw [List.foldl_append]; rfl
theorem ofl_len (p zs : List G) : (ofl p zs).length = p.length + zs.length := by
 unfold ofl
 induction zs generalizing p with
 | nil => rfl
 | cons z r ih => rw [List.foldl_cons, ih, wz_len, List.length_cons]; omega
theorem wz_le {p : List G} {z : G} {A Z : Nat} (hp : ∀ i, Le (co p i) A) (hz : Le z Z) : ∀ i, Le (co (wz p z) i) (A * (Z + 1)) := by
 intro i
 rw [co_wz]
 have h1 : Le (co ((0, 0) :: p) i) A := by
  cases i with
  | zero => exact Le.nought _
  | succ i => exact hp i
 refine (h1.sub (hz.mul (hp i))).mono ?_
 rw [Nat.mul_add, Nat.mul_one, Nat.mul_comm Z A]; omega
theorem ofl_le {p zs : List G} {A Z : Nat} (hp : ∀ i, Le (co p i) A) (hz : ∀ z, z ∈ zs → Le z Z) : ∀ i, Le (co (ofl p zs) i) (A * (Z + 1) ^ zs.length) := by
 induction zs generalizing p A with
 | nil => intro i; rw [List.length_nil, Nat.pow_zero, Nat.mul_one]; exact hp i
 | cons z r ih =>
  intro i
  have := ih (wz_le hp (hz z (by simp))) (fun y hy => hz y (by simp [hy])) i
  rw [List.length_cons, Nat.pow_succ, Nat.mul_comm ((Z + 1) ^ r.length), ← Nat.mul_assoc]
  exact this
/-! without the last noughts -/
def tl (l : List G) : Nat → Nat
 | 0 => 0
 | 1 => 1
 | n + 2 => if co l (n + 1) = (0, 0) then tl l (n + 1) else n + 2
def tr (l : List G) : List G := l.take (tl l l.length)
theorem tl_le (l : List G) (n : Nat) : tl l n ≤ n := by
 match n with
 | 0 => exact Nat.le_refl _
 | 1 => exact Nat.le_refl _
 | n + 2 =>
  rw [tl]
  split
  · have := tl_le l (n + 1); omega
  · omega
theorem tl_pos (l : List G) (n : Nat) (h : 0 < n) : 0 < tl l n := by
 match n, h with
 | 1, _ => exact Nat.one_pos
 | n + 2, _ =>
  rw [tl]
  split
  · exact tl_pos l (n + 1) (by omega)
  · omega
theorem tl_nought (l : List G) (n i : Nat) (h : tl l n ≤ i) (hi : i < n) : co l i = (0, 0) := by
 match n, hi with
 | 1, hi => rw [tl] at h; omega
 | n + 2, hi =>
  rw [tl] at h
  by_cases c : co l (n + 1) = (0, 0)
  ·
   rw [if_pos c] at h
   by_cases d : i = n + 1
   · rw [d]; exact c
   · exact tl_nought l (n + 1) i h (by omega)
  · rw [if_neg c] at h; omega
theorem tl_last (l : List G) (n : Nat) : tl l n = 0 ∨ tl l n = 1 ∨ co l (tl l n - 1) ≠ (0, 0) := by
 match n with
 | 0 => exact Or.inl rfl
 | 1 => exact Or.inr (Or.inl rfl)
 | n + 2 =>
  rw [tl]
  by_cases c : co l (n + 1) = (0, 0)
  · rw [if_pos c]; exact tl_last l (n + 1)
  · rw [if_neg c]; exact Or.inr (Or.inr c)
theorem tr_len (l : List G) : (tr l).length = tl l l.length := by
 unfold tr; rw [List.length_take]; have := tl_le l l.length; omega
theorem co_tr (l : List G) (i : Nat) : co (tr l) i = co l i := by
 unfold tr
 rw [co_take]
 by_cases c : i < tl l l.length
 · rw [if_pos c]
 ·
  rw [if_neg c]
  by_cases d : i < l.length
  · rw [tl_nought l l.length i (by omega) d]
  · rw [co_out (by omega)]
/-! a product, divided -/
theorem ts_le {a b : List G} {A B : Nat} (ha : ∀ i, Le (co a i) A) (hb : ∀ i, Le (co b i) B) (j k : Nat) : Le (ts a b j k) (k * (A * B)) := by
 induction k with
 | zero => exact Le.nought _
 | succ k ih =>
  rw [ts, Nat.add_mul, Nat.one_mul]
  refine ih.add ?_
  by_cases c : k ≤ j
  · rw [if_pos c]; exact (ha _).mul (hb _)
  · rw [if_neg c]; exact Le.nought _
theorem gm_zero {a b : G} (h : gm a b = (0, 0)) : a = (0, 0) ∨ b = (0, 0) := by
 have e : (a.1 * b.1 - a.2 * b.2) * (a.1 * b.1 - a.2 * b.2) + (a.1 * b.2 + a.2 * b.1) * (a.1 * b.2 + a.2 * b.1) = (a.1 * a.1 + a.2 * a.2) * (b.1 * b.1 + b.2 * b.2) := by grind
 have h1 : a.1 * b.1 - a.2 * b.2 = 0 := congrArg Prod.fst h
 have h2 : a.1 * b.2 + a.2 * b.1 = 0 := congrArg Prod.snd h
 rw [h1, h2] at e
 have n : ∀ x y : Int, x * x + y * y = 0 → x = 0 ∧ y = 0 := by
  intro x y k
  have p := sq_nonneg x
  have q := sq_nonneg y
  have kx : x * x = 0 := by omega
  have ky : y * y = 0 := by omega
  exact ⟨(Int.mul_eq_zero.1 kx).elim id id, (Int.mul_eq_zero.1 ky).elim id id⟩
 rcases Int.mul_eq_zero.1 (show (a.1 * a.1 + a.2 * a.2) * (b.1 * b.1 + b.2 * b.2) = 0 by omega) with k | k
 · left; exact gext (n _ _ k).1 (n _ _ k).2
 · right; exact gext (n _ _ k).1 (n _ _ k).2
end Go.Proofs.YtjpllggchjgjpaaGreat.Py

/-
 OWN TEXT: whole complex numbers as the program has them: sums, products, quotients by 1, tests.
-/
namespace Go.Proofs.YtjpllggchjgjpaaGreat
open Go.ChangeShapes Go.WideShapes Go.ChangeAt Go.RowKit
set_option linter.unusedVariables false
attribute [local go_sem] frombits_call tobits_call run_neg
namespace Fl
end Fl
theorem run_some {op : BinOp} {a b x : Nat} (e : floatBits op .f64 a b = some x) : opR op a b x ∧ ∀ (t : TypeId) (w : World), (binOp op t (.float .f64 a) (.float .f64 b)).run Tryz.prog w = .ok (.float .f64 x) w :=
 ⟨⟨floatBits_lt0 e, Or.inl e⟩, fun t w => run_float_arith (P := Tryz.prog) w op t .f64 _ _ _ e⟩
/-- sums, differences, products of whole numbers -/
theorem w_add {c a b : Nat} {m n : Int} (hc : c = 1074) (ha : wI c a m) (hb : wI c b n) (hs : (m + n).natAbs ≤ 9007199254740992) : ∃ r, wI c r (m + n) ∧ ∀ (t : TypeId) (w : World), (binOp .add t (.float .f64 a) (.float .f64 b)).run Tryz.prog w = .ok (.float .f64 r) w := by
 obtain ⟨h1, h2⟩ := run_some (op := .add) (Fl.add_fin ha.2.1 hb.2.1)
 exact ⟨_, ha.add hc hb hs h1, h2⟩
theorem w_sub {c a b : Nat} {m n : Int} (hc : c = 1074) (ha : wI c a m) (hb : wI c b n) (hs : (m - n).natAbs ≤ 9007199254740992) : ∃ r, wI c r (m - n) ∧ ∀ (t : TypeId) (w : World), (binOp .sub t (.float .f64 a) (.float .f64 b)).run Tryz.prog w = .ok (.float .f64 r) w := by
 obtain ⟨h1, h2⟩ := run_some (op := .sub) (Fl.sub_fin hb.1 ha.2.1 hb.2.1)
 exact ⟨_, ha.sub hc hb hs h1, h2⟩
theorem w_mul {c a b : Nat} {m n : Int} (hc : c = 1074) (ha : wI c a m) (hb : wI c b n) (hs : (m * n).natAbs ≤ 9007199254740992) : ∃ r, wI c r (m * n) ∧ ∀ (t : TypeId) (w : World), (binOp .mul t (.float .f64 a) (.float .f64 b)).run Tryz.prog w = .ok (.float .f64 r) w := by
 obtain ⟨h1, h2⟩ := run_some (op := .mul) (Fl.mul_fin ha.2.1 hb.2.1)
 exact ⟨_, ha.mul hc hb hs h1, h2⟩
theorem one_vl : ∀ c, c = 1074 → Fl.vl 4607182418800017408 = 2 ^ c := by rintro _ rfl; decide +kernel
theorem wI.nan {c x : Nat} {m : Int} (h : wI c x m) : Fl.nan x = false := by unfold Fl.nan; exact decide_eq_false (by have := h.2.1; omega)
theorem wI.fin {c x : Nat} {m : Int} (h : wI c x m) : Fl.finB x = true := by unfold Fl.finB; exact decide_eq_true h.2.1
theorem wI.ng {c x : Nat} {m : Int} (h : wI c x m) : wI c (Fl.ng x) (-m) := by
 refine ⟨Fl.ng_lt h.1, ?_, ?_⟩
 · rw [Fl.rg_ng x]; exact h.2.1
 · rw [Fl.val_ng h.1, h.2.2, Int.neg_mul]
theorem w_nought (c : Nat) : wI c 0 0 := by
 refine ⟨by decide, by decide, ?_⟩
 rw [Int.zero_mul]; decide
theorem w_unit {c : Nat} (hc : c = 1074) : wI c 4607182418800017408 1 := by
 refine ⟨by decide, by decide, ?_⟩
 have h := one_vl c hc
 have e : Fl.val 4607182418800017408 = (Fl.vl 4607182418800017408 : Nat) := by
  unfold Fl.val
  rw [show Fl.sg 4607182418800017408 = false by decide, if_neg (by decide), show Fl.rg 4607182418800017408 = 4607182418800017408 by decide]
 rw [e, h, Int.one_mul]
/-- whole numbers up to 2^40 are within it -/
theorem real_vl : ∀ c, c = 1074 → Fl.vl 4787326403894837248 = 1099511627776 * 2 ^ c := by rintro _ rfl; decide +kernel
theorem wI.within {c x : Nat} {m : Int} (hc : c = 1074) (h : wI c x m) (hm : m.natAbs ≤ 1099511627776) : Fl.withinB x 4787326403894837248 = true := by
 unfold Fl.withinB
 rw [h.nan, show Fl.nan 4787326403894837248 = false by decide, show Fl.key 4787326403894837248 = 4787326403894837248 by decide]
 simp only [Bool.not_false, Bool.true_and]
 refine decide_eq_true ?_
 have : Fl.rg x ≤ 4787326403894837248 := by
  rcases Nat.lt_or_ge 4787326403894837248 (Fl.rg x) with k | k
  ·
   have := Fl.vl_mono k
   rw [h.vl, real_vl c hc] at this
   have := Nat.lt_of_mul_lt_mul_right this
   omega
  · exact k
 omega
/-- a complex number is the whole number g -/
def wC (c x y : Nat) (g : Py.G) : Prop := wI c x g.1 ∧ wI c y g.2
theorem wC.nought (c : Nat) : wC c 0 0 (0, 0) := ⟨w_nought c, w_nought c⟩
theorem wC.one {c : Nat} (hc : c = 1074) : wC c 4607182418800017408 0 (1, 0) := ⟨w_unit hc, w_nought c⟩
theorem csum_run8 {op : BinOp} (hop : op = .add ∨ op = .sub) {a b c d x y : Nat} {P : Program} {w w1 w2 : World} (e1 : ∀ t, (binOp op t (.float .f64 a) (.float .f64 c)).run P w = .ok (.float .f64 x) w1) (e2 : ∀ t, (binOp op t (.float .f64 b) (.float .f64 d)).run P w1 = .ok (.float .f64 y) w2) (t : TypeId) : (binOp op t (.complex .f64 a b) (.complex .f64 c d)).run P w = .ok (.complex .f64 x y) w2 := by
 rcases hop with rfl | rfl
 ·
  have k1 : (Op.floatArith .add .f64 a c).run P w = .ok (.float .f64 x) w1 := e1 0
  have k2 : (Op.floatArith .add .f64 b d).run P w1 = .ok (.float .f64 y) w2 := e2 0
  simp [binOp, Op.complexOp, Op.Complex.arith, k1, k2]
 ·
  have k1 : (Op.floatArith .sub .f64 a c).run P w = .ok (.float .f64 x) w1 := e1 0
  have k2 : (Op.floatArith .sub .f64 b d).run P w1 = .ok (.float .f64 y) w2 := e2 0
  simp [binOp, Op.complexOp, Op.Complex.arith, k1, k2]
theorem c_add {c x y u v M K : Nat} {g h : Py.G} (hc : c = 1074) (hg : wC c x y g) (hh : wC c u v h) (lg : Py.Le g M) (lh : Py.Le h K) (hs : M + K ≤ 9007199254740992) : ∃ r s, wC c r s (Py.ga g h) ∧ ∀ (t : TypeId) (w : World), (binOp .add t (.complex .f64 x y) (.complex .f64 u v)).run Tryz.prog w = .ok (.complex .f64 r s) w := by
 obtain ⟨b1, b2⟩ := (lg.add lh).one
 obtain ⟨r, hr, e1⟩ := w_add hc hg.1 hh.1 (Nat.le_trans b1 hs)
 obtain ⟨s, hs', e2⟩ := w_add hc hg.2 hh.2 (Nat.le_trans b2 hs)
 exact ⟨r, s, ⟨hr, hs'⟩, fun t w => csum_run8 (Or.inl rfl) (fun t => e1 t w) (fun t => e2 t w) t⟩
theorem c_sub {c x y u v M K : Nat} {g h : Py.G} (hc : c = 1074) (hg : wC c x y g) (hh : wC c u v h) (lg : Py.Le g M) (lh : Py.Le h K) (hs : M + K ≤ 9007199254740992) : ∃ r s, wC c r s (Py.gs g h) ∧ ∀ (t : TypeId) (w : World), (binOp .sub t (.complex .f64 x y) (.complex .f64 u v)).run Tryz.prog w = .ok (.complex .f64 r s) w := by
 obtain ⟨b1, b2⟩ := (lg.sub lh).one
 obtain ⟨r, hr, e1⟩ := w_sub hc hg.1 hh.1 (Nat.le_trans b1 hs)
 obtain ⟨s, hs', e2⟩ := w_sub hc hg.2 hh.2 (Nat.le_trans b2 hs)
 exact ⟨r, s, ⟨hr, hs'⟩, fun t w => csum_run8 (Or.inr rfl) (fun t => e1 t w) (fun t => e2 t w) t⟩
theorem pmul8 {c x y u v M K : Nat} {g h : Py.G} (hc : c = 1074) (hg : wC c x y g) (hh : wC c u v h) (lg : Py.Le g M) (lh : Py.Le h K) (hs : M * K ≤ 9007199254740992) : ∃ r s, wC c r s (Py.gm g h) ∧ ∀ w, Calls Tryz.prog 98 #[.complex .f64 x y, .complex .f64 u v] w fun e w' => e = .returned (.complex .f64 r s) ∧ w' = w := by
 obtain ⟨b1, b2, b3, b4⟩ := lg.prods lh
 obtain ⟨k1, k2⟩ := (lg.mul lh).one
 obtain ⟨p1, h1, e1⟩ := w_mul hc hg.1 hh.1 (Nat.le_trans b1 hs)
 obtain ⟨p2, h2, e2⟩ := w_mul hc hg.2 hh.2 (Nat.le_trans b2 hs)
 obtain ⟨p3, h3, e3⟩ := w_mul hc hg.1 hh.2 (Nat.le_trans b3 hs)
 obtain ⟨p4, h4, e4⟩ := w_mul hc hg.2 hh.1 (Nat.le_trans b4 hs)
 obtain ⟨r, h5, e5⟩ := w_sub hc h1 h2 (Nat.le_trans k1 hs)
 obtain ⟨s, h6, e6⟩ := w_add hc h3 h4 (Nat.le_trans k2 hs)
 refine ⟨r, s, ⟨h5, h6⟩, fun w => ?_⟩
 clear h1 h2 h3 h4 h5 h6 hg hh lg lh hs b1 b2 b3 b4 k1 k2
 go_enter Tryz.func98, Tryz.ntmps98
 go_wp2
 go_ret
 exact ⟨rfl, rfl⟩
end Go.Proofs.YtjpllggchjgjpaaGreat

