/-
  OWN TEXT: what NewInt, Set, Lsh of package eddybig's whole numbers and SetInt of its fractions do.
-/
import Derived.Test.YtjfkdmddfeeheaaJLsAToLsB
import Derived.Deep.RegionHeld
namespace Go.Proofs.Ytjfkdmddfeeheaa
open Go.ChangeShapes Go.WideShapes Go.ChangeAt Go.RowKit
open Bg
set_option linter.unusedVariables false
theorem si_other (w : World) (B C i : Nat) (h : C ≠ B) (s : Bool) (x : Value) : (siW w B s x).cell? ⟨C, i, none⟩ = w.cell? ⟨C, i, none⟩ :=
  (World.cell?_of_block (a := ⟨C, i, none⟩) (Below.heap_setCell _ _ _ _ h)).trans (World.cell?_of_block (a := ⟨C, i, none⟩) (Below.heap_setCell _ _ _ _ h))
/-- what a call leaves that has set the whole number at B to N with the sign s -/
def Sw (w : World) (B : Nat) (s : Bool) (N : Nat) (e : Ending) (w' : World) : Prop :=
  ∃ w1 xv, e = .returned (.pointer (some ⟨B, 0, none⟩)) ∧ Fr w w1 ∧ Nm w1 xv N ∧ w' = siW w1 B (s && decide (N ≠ 0)) xv
set_option maxHeartbeats 4000000 in
theorem newint_one (w : World) :
    Calls Try.prog 55 #[.int .i64 1] w fun e w' => ∃ B, e = .returned (.pointer (some ⟨B, 0, none⟩)) ∧ Iv w' B false 1 ∧ w.heap.size ≤ B ∧ Fr w w' := by
  obtain ⟨B, hB⟩ : ∃ B, B = w.heap.size := ⟨_, rfl⟩
  have hm := iv_made w B hB _ rfl
  have hF : Fr w (w.alloc (.cells #[.bool false, .slice none 0 0] 54)) := (Fr.refl w).alloc _ _
  have HB : Hid (B = w.heap.size) := hB
  clear hB
  have SI : Hid (∀ wz, Iv wz B false 0 → Calls Try.prog 85 #[.pointer (some ⟨B, 0, none⟩), .int .i64 1] wz fun e w' => Sw wz B false 1 e w') := by
    intro wz hi
    go_enter Try.func85, Try.ntmps85
    go_wp2_with fail
    refine (fromUint_any 1 _ (by omega)).mono ?_
    rintro e w1 ⟨xv, rfl, hxv, f1⟩
    have g := hi.mono f1
    obtain ⟨v, h1, h2⟩ := g.c1
    go_wp2_with fail
    refine (iset_any B false xv 1 _ g.nw hxv _ _ g.c0 h1).mono ?_
    rintro e w2 ⟨rfl, rfl⟩
    go_wp2
    go_ret
    exact ⟨w1, xv, rfl, f1, hxv, rfl⟩
  go_enter Try.func55, Try.ntmps55
  go_wp2_with fail
  rw [← HB.out]
  generalize w.alloc (.cells #[.bool false, .slice none 0 0] 54) = w1 at *
  refine (SI.out _ hm).mono ?_
  rintro e w2 ⟨w3, xv, rfl, f3, hxv, rfl⟩
  have hi := (hm.mono f3).si hxv (false && decide ((1 : Nat) ≠ 0))
  have hf := (hF.trans f3).si (B := B) (by have := HB.out; omega) (false && decide ((1 : Nat) ≠ 0)) xv
  generalize siW w3 B (false && decide ((1 : Nat) ≠ 0)) xv = w4 at *
  go_wp2
  go_ret
  exact ⟨B, rfl, hi, by have := HB.out; omega, hf⟩
set_option maxHeartbeats 4000000 in
theorem lsh_any (B C N n : Nat) (s s0 : Bool) (A0 : Nat) (w : World) (hz : Iv w B s0 A0) (hx : Iv w C s N) (hne : C ≠ B) (hN : N.log2 < 32000000) (hn : n < 32000000) :
    Calls Try.prog 56 #[.pointer (some ⟨B, 0, none⟩), .pointer (some ⟨C, 0, none⟩), .int .u64 (n : Int)] w fun e w' => Sw w B s (N * 2 ^ n) e w' := by
  obtain ⟨v, h1, h2⟩ := hx.c1
  have h0 := hx.c0
  obtain ⟨va, vn, vc, rfl, _⟩ := nm_slice h2
  have CE : ∀ w', Fr w w' → w'.cell? ⟨C, 0, none⟩ = some (.bool s) ∧ w'.cell? ⟨C, 1, none⟩ = some (.slice va vn vc) := fun w' f =>
    ⟨(f.1.cell (p := ⟨C, 0, none⟩) hx.nw.1).trans h0, (f.1.cell (p := ⟨C, 1, none⟩) hx.nw.1).trans h1⟩
  have UP : Hid (∀ wz, Fr w wz → Calls Try.prog 82 #[.slice va vn vc, .int .i64 (n : Int)] wz fun e w' => ∃ x, e = .returned x ∧ Nm w' x (N * 2 ^ n) ∧ Fr w w' ∧ w'.cell? ⟨C, 0, none⟩ = some (.bool s) ∧ w'.cell? ⟨C, 1, none⟩ = some (.slice va vn vc)) := by
    intro wz hz'
    refine (up_words _ N n wz (h2.mono hz') hN hn).mono ?_
    rintro e w' ⟨x, rfl, hx', hf⟩
    exact ⟨x, rfl, hx', hz'.trans hf, CE _ (hz'.trans hf)⟩
  have ST : Hid (∀ wz xv, Fr w wz → Nm wz xv (N * 2 ^ n) → Calls Try.prog 86 #[.pointer (some ⟨B, 0, none⟩), .bool s, xv] wz fun e w' => e = .returned (.pointer (some ⟨B, 0, none⟩)) ∧ Sw w B s (N * 2 ^ n) e w' ∧ w'.cell? ⟨C, 0, none⟩ = some (.bool s) ∧ w'.cell? ⟨C, 1, none⟩ = some (.slice va vn vc)) := by
    intro wz xv hz' hxv
    have g := hz.mono hz'
    obtain ⟨y1, hy1, hy2⟩ := g.c1
    refine (iset_any B s xv _ wz g.nw hxv _ _ g.c0 hy1).mono ?_
    rintro e w' ⟨rfl, rfl⟩
    refine ⟨rfl, ⟨wz, xv, rfl, hz', hxv, rfl⟩, ?_, ?_⟩
    · exact (si_other wz B C 0 hne _ xv).trans (CE _ hz').1
    · exact (si_other wz B C 1 hne _ xv).trans (CE _ hz').2
  generalize N * 2 ^ n = X at *
  have HW : Hid (IntKind.i64.wrap (n : Int) = (n : Int)) := (IntKind.wrap_i64 _).trans (by first | exact wrap64_in _ (by omega) | omega)
  clear hz hx CE h2
  go_enter Try.func56, Try.ntmps56
  go_wp2_with fail
  go_region_held (fun w' => w'.cell? ⟨C, 0, none⟩ = some (.bool s) ∧ w'.cell? ⟨C, 1, none⟩ = some (.slice va vn vc)) (go_keep) (first
    | (go_at_call 82; rw [HW.out]; refine (UP.out _ ?_).mono ?_; exact (Fr.refl _).drew; rintro e w1 ⟨xv, rfl, hxv, f1, g1, g2⟩)
    | (go_at_call 86; refine (ST.out _ _ f1 hxv).mono ?_; rintro e w2 ⟨rfl, hsw, g3, g4⟩))
  all_goals (try go_wp2)
  all_goals go_ret
  all_goals exact hsw
set_option maxHeartbeats 4000000 in
theorem intset_any (B C N : Nat) (s : Bool) (w : World) (hnw : Nw w B) (u0 u1 : Value) (z0 : w.cell? ⟨B, 0, none⟩ = some u0) (z1 : w.cell? ⟨B, 1, none⟩ = some u1) (hx : Iv w C s N) (hne : C ≠ B) (hN : N.log2 < 32000000) :
    Calls Try.prog 91 #[.pointer (some ⟨B, 0, none⟩), .pointer (some ⟨C, 0, none⟩)] w fun e w' => Sw w B s N e w' := by
  obtain ⟨v, h1, h2⟩ := hx.c1
  have h0 := hx.c0
  obtain ⟨va, vn, vc, rfl, _⟩ := nm_slice h2
  have CE : ∀ w', Fr w w' → w'.cell? ⟨C, 0, none⟩ = some (.bool s) ∧ w'.cell? ⟨C, 1, none⟩ = some (.slice va vn vc) := fun w' f =>
    ⟨(f.1.cell (p := ⟨C, 0, none⟩) hx.nw.1).trans h0, (f.1.cell (p := ⟨C, 1, none⟩) hx.nw.1).trans h1⟩
  have UP : Hid (∀ wz, Fr w wz → Calls Try.prog 84 #[.slice va vn vc] wz fun e w' => ∃ x, e = .returned x ∧ Nm w' x N ∧ Fr w w' ∧ w'.cell? ⟨C, 0, none⟩ = some (.bool s) ∧ w'.cell? ⟨C, 1, none⟩ = some (.slice va vn vc)) := by
    intro wz hz'
    refine (copied_any _ N wz (h2.mono hz') hN).mono ?_
    rintro e w' ⟨x, rfl, hx', hf⟩
    exact ⟨x, rfl, hx', hz'.trans hf, CE _ (hz'.trans hf)⟩
  have ST : Hid (∀ wz xv, Fr w wz → Nm wz xv N → Calls Try.prog 86 #[.pointer (some ⟨B, 0, none⟩), .bool s, xv] wz fun e w' => e = .returned (.pointer (some ⟨B, 0, none⟩)) ∧ Sw w B s N e w' ∧ w'.cell? ⟨C, 0, none⟩ = some (.bool s) ∧ w'.cell? ⟨C, 1, none⟩ = some (.slice va vn vc)) := by
    intro wz xv hz' hxv
    refine (iset_any B s xv _ wz (hnw.mono hz') hxv u0 u1 ((hz'.1.cell (p := ⟨B, 0, none⟩) hnw.1).trans z0) ((hz'.1.cell (p := ⟨B, 1, none⟩) hnw.1).trans z1)).mono ?_
    rintro e w' ⟨rfl, rfl⟩
    refine ⟨rfl, ⟨wz, xv, rfl, hz', hxv, rfl⟩, ?_, ?_⟩
    · exact (si_other wz B C 0 hne _ xv).trans (CE _ hz').1
    · exact (si_other wz B C 1 hne _ xv).trans (CE _ hz').2
  clear hx CE h2 z0 z1 hnw
  go_enter Try.func91, Try.ntmps91
  go_wp2_with fail
  go_region_held (fun w' => w'.cell? ⟨C, 0, none⟩ = some (.bool s) ∧ w'.cell? ⟨C, 1, none⟩ = some (.slice va vn vc)) (go_keep) (first
    | (go_at_call 84; refine (UP.out _ ?_).mono ?_; exact (Fr.refl _).drew; rintro e w1 ⟨xv, rfl, hxv, f1, g1, g2⟩)
    | (go_at_call 86; refine (ST.out _ _ f1 hxv).mono ?_; rintro e w2 ⟨rfl, hsw, g3, g4⟩))
  all_goals (try go_wp2)
  all_goals go_ret
  all_goals exact hsw
end Go.Proofs.Ytjfkdmddfeeheaa
/-
  OWN TEXT: a region whose last call writes what its loads read: a load may be taken first as long as that call waits for it.
-/
namespace Go.Proofs.Ytjfkdmddfeeheaa
section
variable {P : Program} {ops : Array Oper} {Q : Exit → Act → World → Prop} {md : Region.Mode} {S : World → Prop} {k : Nat}

/-- whatever order is picked from here on, and 'S' holds behind every operation ahead of number 'k' -/
def wpAnyK (P : Program) (md : Region.Mode) (ops : Array Oper) (Q : Exit → Act → World → Prop) (S : World → Prop) (k : Nat) : Nat → Array Bool → Act → World → Prop
  | 0, listed, a, w => Region.ready md ops listed = [] ∧ Q .normal a w
  | fuel + 1, listed, a, w =>
    (Region.ready md ops listed = [] → Q .normal a w) ∧
    ∀ i ∈ Region.ready md ops listed, wpOp P ops Q i (fun a' w' => (i ≠ k → listed.getD k true = false → S w') ∧ wpAnyK P md ops Q S k fuel (listed.setIfInBounds i true) a' w') a w

theorem wpAny_of_K : ∀ (fuel : Nat) (listed : Array Bool) (a : Act) (w : World), wpAnyK P md ops Q S k fuel listed a w → wpAny P md ops Q fuel listed a w
  | 0, _, _, _, h => h
  | fuel + 1, _, _, _, h => ⟨h.1, fun i hi => wpOp_mono (fun a' w' h' => wpAny_of_K fuel _ a' w' h'.2) (h.2 i hi)⟩

/-- those of 'blk' have not come up, and each waits for 'i' or for another one of 'blk' -/
def waits (md : Region.Mode) (ops : Array Oper) (listed : Array Bool) (i : Nat) (blk : List Nat) : Bool :=
  blk.all fun m => !(listed.getD m true) && (match ops[m]? with | some o => o.after.toList.any (fun e => Region.binds md e && (e.on == i || blk.contains e.on)) | none => true)

theorem waits_not {listed : Array Bool} {i : Nat} {blk : List Nat} (hw : waits md ops listed i blk = true) (hi : i ∈ Region.ready md ops listed) {j : Nat} (hj : j ∈ Region.ready md ops listed) : j ∉ blk := by
  intro hb
  have h0 := List.all_eq_true.1 hw
  have h1 := h0 j hb
  obtain ⟨hjun, oj, hoj, hall⟩ := mem_ready.1 hj
  rw [hoj] at h1
  simp only [Bool.and_eq_true, List.any_eq_true, Bool.or_eq_true] at h1
  obtain ⟨_, e, he, hbe, h2⟩ := h1
  have h3 := hall e (by simpa using he) hbe
  have h4 : listed.getD e.on true = false := by
    rcases h2 with h2 | h2
    · rw [eq_of_beq h2]; exact (mem_ready.1 hi).1
    · have h5 := h0 e.on (by simpa using h2)
      simp only [Bool.and_eq_true, Bool.not_eq_true'] at h5
      exact h5.1
  rcases Nat.lt_or_ge e.on listed.size with h' | h'
  · simp [h'] at h3 h4; rw [h4] at h3; cases h3
  · simp [Array.getElem?_eq_none h'] at h3

theorem waits_un {listed : Array Bool} {i m : Nat} {blk : List Nat} (hw : waits md ops listed i blk = true) (hm : m ∈ blk) : listed.getD m true = false := by
  have h1 := List.all_eq_true.1 hw m hm
  rw [Bool.and_eq_true, Bool.not_eq_true'] at h1
  exact h1.1

theorem waits_set {listed : Array Bool} {i j : Nat} {blk : List Nat} (hw : waits md ops listed i blk = true) (hj : j ∉ blk) : waits md ops (listed.setIfInBounds j true) i blk = true := by
  refine List.all_eq_true.2 fun m hm => ?_
  have h1 := List.all_eq_true.1 hw m hm
  have hne : j ≠ m := fun e => by subst e; exact hj hm
  rw [getD_set_ne true hne]
  exact h1

theorem wpAnyK_first {i : Nat} {oi : Oper} {v : Value} {blk : List Nat} (hi : ops[i]? = some oi) (hsel : ∀ (j : Nat) (o : Oper) cs b, ops[j]? = some o → o.op ≠ .select cs b)
    (hQ : ∀ c a w, Q (.panic c) (a.put oi.dst v) w → Q (.panic c) a w) (hk : k ∈ blk) :
    ∀ (fuel : Nat) (listed : Array Bool) (a : Act) (w : World),
      (∀ j oj, ops[j]? = some oj → j ≠ i → listed.getD j true = false → (∀ e ∈ oj.after, Region.binds md e = true → e.on ≠ i) → oi.apart ops oj = true) →
      i ∈ Region.ready md ops listed → waits md ops listed i blk = true → YieldsIf P ops S oi v a → S w →
      wpAnyK P md ops Q S k fuel (listed.setIfInBounds i true) (a.put oi.dst v) w → wpAnyK P md ops Q S k (fuel + 1) listed a w := by
  intro fuel
  induction fuel with
  | zero =>
    intro listed a w _ hr hw hy hS H
    refine ⟨fun h => (by rw [h] at hr; cases hr), fun j hj => ?_⟩
    by_cases hji : j = i
    · subst hji; exact hy.wpOp hi hS ⟨fun _ _ => hS, H⟩
    · have := ready_mono hj hji
      rw [H.1] at this
      cases this
  | succ fuel ih =>
    intro listed a w hfree hr hw hy hS H
    refine ⟨fun h => (by rw [h] at hr; cases hr), fun j hj => ?_⟩
    by_cases hji : j = i
    · subst hji; exact hy.wpOp hi hS ⟨fun _ _ => hS, H⟩
    · have h1 := H.2 j (ready_mono hj hji)
      have hjb := waits_not hw hr hj
      have hjk : j ≠ k := fun e => hjb (e ▸ hk)
      have hkun := waits_un hw hk
      have hik : i ≠ k := fun e => waits_not hw hr hr (e ▸ hk)
      have hkun' : (listed.setIfInBounds i true).getD k true = false := by rw [getD_set_ne true hik]; exact hkun
      obtain ⟨hjun, oj, hoj, hall⟩ := mem_ready.1 hj
      have hnot : ∀ e ∈ oj.after, Region.binds md e = true → e.on ≠ i := fun e he hb heq => by
        have h1 := hall e he hb
        have h0 := (mem_ready.1 hr).1
        rw [heq] at h1
        rcases Nat.lt_or_ge i listed.size with h' | h'
        · simp [h'] at h0 h1; rw [h0] at h1; cases h1
        · simp [Array.getElem?_eq_none h'] at h1
      have h2 := wpOp_putIf hoj (hfree j oj hoj hji hjun hnot) (fun cs b => hsel i oi cs b hi) (fun cs b => hsel j oj cs b hoj) hQ hy h1
      have hfree' : ∀ k ok, ops[k]? = some ok → k ≠ i → (listed.setIfInBounds j true).getD k true = false →
          (∀ e ∈ ok.after, Region.binds md e = true → e.on ≠ i) → oi.apart ops ok = true := fun k ok hk hki hun hno => by
        refine hfree k ok hk hki ?_ hno
        by_cases hjk : j = k
        · subst hjk; exact hjun
        · rw [getD_set_ne true hjk] at hun; exact hun
      refine wpOp_mono (fun a' w' h3 => ⟨fun _ _ => h3.2.1 hjk hkun', ih (listed.setIfInBounds j true) a' w' hfree' (ready_mono hr (Ne.symm hji)) (waits_set hw hjb) h3.1 (h3.2.1 hjk hkun') ?_⟩) h2
      rw [Array.setIfInBounds_comm _ _ hji]
      exact h3.2.2

/-- what waits for 'i', up to 'k' -/
def behind (md : Region.Mode) (ops : Array Oper) (i k : Nat) : List Nat :=
  (List.range (k + 1)).foldl (fun acc m => match ops[m]? with | some o => if o.after.toList.any (fun e => Region.binds md e && (e.on == i || acc.contains e.on)) then m :: acc else acc | none => acc) []

theorem wpAnyK_take (i d : Nat) {oi : Oper} {v : Value} {fuel : Nat} {listed : Array Bool} {a : Act} {w : World} (hi : ops[i]? = some oi)
    (hs : Region.noSelect ops = true) (hf : Region.free md ops listed i = true) (hr : (Region.ready md ops listed).contains i = true)
    (hk : (behind md ops i k).contains k = true) (hb : waits md ops listed i (behind md ops i k) = true)
    (hQ : ∀ c a w, Q (.panic c) (a.put oi.dst v) w → Q (.panic c) a w) (hd : oi.dst = some d) (hy : YieldsIf P ops S oi v a) (hS : S w)
    (h : wpAnyK P md ops Q S k fuel (listed.setIfInBounds i true) (a.put (some d) v) w) : wpAnyK P md ops Q S k (fuel + 1) listed a w := by
  rw [← hd] at h
  exact wpAnyK_first hi (Region.noSelect_spec hs) hQ (by simpa using hk) fuel listed a w (Region.free_spec hi hf) (by simpa using hr) hb hy hS h

/-- one alone may come up -/
theorem wpAnyK_one (i : Nat) {o : Oper} {fuel : Nat} {listed : Array Bool} {a : Act} {w : World} (hr : Region.ready md ops listed = [i]) (ho : ops[i]? = some o)
    (h : ∀ K' : Act → World → Prop, Shut (∀ a w, (i ≠ k → listed.getD k true = false → S w) → wpAnyK P md ops Q S k fuel (listed.setIfInBounds i true) a w → K' a w) → if Region.wanted o (yielded ops a.tmps) = true then Oper.wp P o a w K' Q else K' (a.put o.dst undef) w) : wpAnyK P md ops Q S k (fuel + 1) listed a w := by
  refine ⟨fun h0 => absurd (hr ▸ h0) (by simp), ?_⟩
  rw [hr]
  intro j hj
  rw [List.mem_singleton] at hj
  subst hj
  exact wpOp_step ho (fun K' hK => h K' (fun a w hS hW => hK a w ⟨hS, hW⟩))

/-- one of two may come up -/
theorem wpAnyK_two (i j : Nat) {o p : Oper} {fuel : Nat} {listed : Array Bool} {a : Act} {w : World} (hr : Region.ready md ops listed = [i, j]) (ho : ops[i]? = some o) (hp : ops[j]? = some p)
    (h : ∀ K' : Act → World → Prop, Shut (∀ a w, (i ≠ k → listed.getD k true = false → S w) → wpAnyK P md ops Q S k fuel (listed.setIfInBounds i true) a w → K' a w) → if Region.wanted o (yielded ops a.tmps) = true then Oper.wp P o a w K' Q else K' (a.put o.dst undef) w)
    (h' : ∀ K' : Act → World → Prop, Shut (∀ a w, (j ≠ k → listed.getD k true = false → S w) → wpAnyK P md ops Q S k fuel (listed.setIfInBounds j true) a w → K' a w) → if Region.wanted p (yielded ops a.tmps) = true then Oper.wp P p a w K' Q else K' (a.put p.dst undef) w) : wpAnyK P md ops Q S k (fuel + 1) listed a w := by
  refine ⟨fun h0 => absurd (hr ▸ h0) (by simp), ?_⟩
  rw [hr]
  intro m hm
  rcases List.mem_cons.mp hm with e | hm
  · subst e
    exact wpOp_step ho (fun K' hK => h K' (fun a w hS hW => hK a w ⟨hS, hW⟩))
  · rw [List.mem_singleton] at hm
    subst hm
    exact wpOp_step hp (fun K' hK => h' K' (fun a w hS hW => hK a w ⟨hS, hW⟩))

theorem wpAnyK_done {listed : Array Bool} {a : Act} {w : World} (hr : Region.ready md ops listed = []) (h : Q .normal a w) :
    ∀ fuel, wpAnyK P md ops Q S k fuel listed a w
  | 0 => ⟨hr, h⟩
  | _ + 1 => ⟨fun _ => h, by rw [hr]; simp⟩

theorem wp_region_K (S : World → Prop) (k n : Nat) (l : Array Bool) {id : Nat} {a : Act} {w : World} (hm : P.follows .mixedOrders = true) (hn : ops.size = n) (hl : Array.replicate n false = l)
    (h : wpAnyK P .any ops Q S k n l a w.drew) : (Code.region id ops true).wp P Q a w := by
  subst hn; subst hl
  exact wp_region_any hm (wpAny_of_K _ _ _ _ h)
end
end Go.Proofs.Ytjfkdmddfeeheaa
/-
  OWN TEXT: what the methods Mul and Quo of package eddybig's fractions do.
-/
namespace Go.Proofs.Ytjfkdmddfeeheaa
open Go.ChangeShapes Go.WideShapes Go.ChangeAt Go.RowKit
open Bg
set_option linter.unusedVariables false
set_option maxHeartbeats 8000000 in
theorem rmul_rt (B C E : Nat) (s t s0 : Bool) (A D X F A0 D0 : Nat) (k k' : Nat) (w : World) (hz : Rt w B s0 A0 D0) (hx : Rt w C s A D) (hy : Rt w E t X F) (hne : E ≠ B) (hA : A.log2 < k) (hD : (den D).log2 < k) (hX : X.log2 < k') (hF : (den F).log2 < k') (hk : k + k' + 2 < 16000000) :
    Calls Try.prog 32 #[.pointer (some ⟨B, 0, none⟩), .pointer (some ⟨C, 0, none⟩), .pointer (some ⟨E, 0, none⟩)] w fun e w' => Sv w B (sv s A * sv t X) (den D * den F) (k + k' + 2) e w' := by
  have hpos : 0 < den D * den F := Nat.mul_pos (den_pos _) (den_pos _)
  have l1 := log2_mul A X
  have l2 := log2_mul (den D) (den F)
  obtain ⟨v, h1, h2⟩ := hx.c1
  obtain ⟨u, k1, k2⟩ := hy.c1
  have h0 := hx.c0
  have k0 := hy.c0
  obtain ⟨va, vn, vc, rfl, _⟩ := nm_slice h2
  obtain ⟨ua, un, uc, rfl, _⟩ := nm_slice k2
  have CE : ∀ w', Fr w w' → w'.cell? ⟨C, 0, none⟩ = some (.bool s) ∧ w'.cell? ⟨C, 1, none⟩ = some (.slice va vn vc) ∧ w'.cell? ⟨E, 0, none⟩ = some (.bool t) ∧ w'.cell? ⟨E, 1, none⟩ = some (.slice ua un uc) := fun w' f =>
    ⟨(f.1.cell (p := ⟨C, 0, none⟩) hx.nw.1).trans h0, (f.1.cell (p := ⟨C, 1, none⟩) hx.nw.1).trans h1, (f.1.cell (p := ⟨E, 0, none⟩) hy.nw.1).trans k0, (f.1.cell (p := ⟨E, 1, none⟩) hy.nw.1).trans k1⟩
  have BLx : Hid (∀ wz, Fr w wz → Calls Try.prog 61 #[.pointer (some ⟨C, 0, none⟩)] wz fun e w' => ∃ x, e = .returned x ∧ Nm w' x (den D) ∧ Fr wz w' ∧ Fr w w' ∧ w'.cell? ⟨C, 0, none⟩ = some (.bool s) ∧ w'.cell? ⟨C, 1, none⟩ = some (.slice va vn vc) ∧ w'.cell? ⟨E, 0, none⟩ = some (.bool t) ∧ w'.cell? ⟨E, 1, none⟩ = some (.slice ua un uc)) := by
    intro wz hz'
    refine (below_any C s A D wz (hx.mono hz')).mono ?_
    rintro e w' ⟨x, rfl, hx', hf⟩
    exact ⟨x, rfl, hx', hf, hz'.trans hf, CE _ (hz'.trans hf)⟩
  have BLy : Hid (∀ wz, Fr w wz → Calls Try.prog 61 #[.pointer (some ⟨E, 0, none⟩)] wz fun e w' => ∃ x, e = .returned x ∧ Nm w' x (den F) ∧ Fr wz w' ∧ Fr w w' ∧ w'.cell? ⟨C, 0, none⟩ = some (.bool s) ∧ w'.cell? ⟨C, 1, none⟩ = some (.slice va vn vc) ∧ w'.cell? ⟨E, 0, none⟩ = some (.bool t) ∧ w'.cell? ⟨E, 1, none⟩ = some (.slice ua un uc)) := by
    intro wz hz'
    refine (below_any E t X F wz (hy.mono hz')).mono ?_
    rintro e w' ⟨x, rfl, hx', hf⟩
    exact ⟨x, rfl, hx', hf, hz'.trans hf, CE _ (hz'.trans hf)⟩
  have MW : Hid (∀ wz v1 v2 n1 n2, Fr w wz → Nm wz v1 n1 → Nm wz v2 n2 → n1.log2 < 16000000 → n2.log2 < 16000000 → Calls Try.prog 60 #[v1, v2] wz fun e w' => ∃ x, e = .returned x ∧ Nm w' x (n1 * n2) ∧ Fr wz w' ∧ Fr w w' ∧ w'.cell? ⟨C, 0, none⟩ = some (.bool s) ∧ w'.cell? ⟨C, 1, none⟩ = some (.slice va vn vc) ∧ w'.cell? ⟨E, 0, none⟩ = some (.bool t) ∧ w'.cell? ⟨E, 1, none⟩ = some (.slice ua un uc)) := by
    intro wz v1 v2 n1 n2 hz' hm1 hm2 l1 l2
    refine (mulWords_any v1 v2 n1 n2 wz hm1 hm2 (by omega) (by omega)).mono ?_
    rintro e w' ⟨x, rfl, hx', hf⟩
    exact ⟨x, rfl, hx', hf, hz'.trans hf, CE _ (hz'.trans hf)⟩
  have RS : Hid (∀ wz m av dv, Fr w wz → Nm wz av (A * X) → Nm wz dv (den D * den F) → Calls Try.prog 59 #[.pointer (some ⟨B, 0, none⟩), .bool m, av, dv] wz fun e w' => e = .returned (.pointer (some ⟨B, 0, none⟩)) ∧ Sv w B (sv m (A * X)) (den D * den F) (k + k' + 2) e w') := by
    intro wz m av dv hz' ha hd
    have hzz := hz.mono hz'
    refine (rset_any B m av dv _ _ s0 A0 D0 wz hzz ha hd hpos (by omega) (by omega)).mono ?_
    intro e w' hsd
    have hv := sd_sv hzz hsd (sv m (A * X)) (den D * den F) (k + k' + 2) hpos rfl (by omega) (by omega)
    obtain ⟨w1, x1, y1, A1, D1, e1, e2, e3, e4, e5, _⟩ := hsd
    exact ⟨e1, hv.pre hz'⟩
  have HSG : Hid (∀ m : Bool, m = (!(s == t)) → sv m (A * X) = sv s A * sv t X) := by
    intro m hm
    subst hm
    cases s <;> cases t <;> simp [sv, Int.neg_mul, Int.mul_neg]
  generalize sv s A * sv t X = P at *
  have S0 := CE w.drew (Fr.refl _).drew
  clear CE hz l1 l2
  go_enter Try.func32, Try.ntmps32
  go_wp2_with fail
  refine wp_region_K (fun w' => w'.cell? ⟨C, 0, none⟩ = some (.bool s) ∧ w'.cell? ⟨C, 1, none⟩ = some (.slice va vn vc) ∧ w'.cell? ⟨E, 0, none⟩ = some (.bool t) ∧ w'.cell? ⟨E, 1, none⟩ = some (.slice ua un uc)) 28 30 #[false, false, false, false, false, false, false, false, false, false, false, false, false, false, false, false, false, false, false, false, false, false, false, false, false, false, false, false, false, false] (by kernel_rfl) (by kernel_rfl) (by kernel_rfl) ?_
  refine wpAnyK_take 0 7 (v := ?v0) rfl (by kernel_rfl) (by kernel_rfl) (by kernel_rfl) (by kernel_rfl) (by kernel_rfl) (fun _ _ _ h => h) rfl (Or.inl ⟨by rfl, ?h0⟩) (by assumption) ?r0
  case h0 => (intro w hSw; go_simp; with_reducible rfl)
  simp only [Act.put, List.setIfInBounds_toArray, List.set_cons_zero, List.set_cons_succ]
  refine wpAnyK_take 1 8 (v := ?v1) rfl (by kernel_rfl) (by kernel_rfl) (by kernel_rfl) (by kernel_rfl) (by kernel_rfl) (fun _ _ _ h => h) rfl (Or.inl ⟨by rfl, ?h1⟩) (by assumption) ?r1
  case h1 => (intro w hSw; go_simp; with_reducible rfl)
  simp only [Act.put, List.setIfInBounds_toArray, List.set_cons_zero, List.set_cons_succ]
  refine wpAnyK_take 2 9 (v := ?v2) rfl (by kernel_rfl) (by kernel_rfl) (by kernel_rfl) (by kernel_rfl) (by kernel_rfl) (fun _ _ _ h => h) rfl (Or.inl ⟨by rfl, ?h2⟩) (by assumption) ?r2
  case h2 => (intro w hSw; go_simp; with_reducible rfl)
  simp only [Act.put, List.setIfInBounds_toArray, List.set_cons_zero, List.set_cons_succ]
  refine wpAnyK_take 3 10 (v := ?v3) rfl (by kernel_rfl) (by kernel_rfl) (by kernel_rfl) (by kernel_rfl) (by kernel_rfl) (fun _ _ _ h => h) rfl (Or.inl ⟨by rfl, ?h3⟩) (by assumption) ?r3
  case h3 => (intro w hSw; go_simp; with_reducible rfl)
  simp only [Act.put, List.setIfInBounds_toArray, List.set_cons_zero, List.set_cons_succ]
  refine wpAnyK_take 4 11 (v := ?v4) rfl (by kernel_rfl) (by kernel_rfl) (by kernel_rfl) (by kernel_rfl) (by kernel_rfl) (fun _ _ _ h => h) rfl (Or.inl ⟨by rfl, ?h4⟩) (by assumption) ?r4
  case h4 => (intro w hSw; go_simp; with_reducible rfl)
  simp only [Act.put, List.setIfInBounds_toArray, List.set_cons_zero, List.set_cons_succ]
  refine wpAnyK_take 5 12 (v := ?v5) rfl (by kernel_rfl) (by kernel_rfl) (by kernel_rfl) (by kernel_rfl) (by kernel_rfl) (fun _ _ _ h => h) rfl (Or.inl ⟨by rfl, ?h5⟩) (by assumption) ?r5
  case h5 => (intro w hSw; go_simp; with_reducible rfl)
  simp only [Act.put, List.setIfInBounds_toArray, List.set_cons_zero, List.set_cons_succ]
  refine wpAnyK_take 6 13 (v := ?v6) rfl (by kernel_rfl) (by kernel_rfl) (by kernel_rfl) (by kernel_rfl) (by kernel_rfl) (fun _ _ _ h => h) rfl (Or.inl ⟨by rfl, ?h6⟩) (by assumption) ?r6
  case h6 => (intro w hSw; go_simp; with_reducible rfl)
  simp only [Act.put, List.setIfInBounds_toArray, List.set_cons_zero, List.set_cons_succ]
  refine wpAnyK_take 7 14 (v := ?v7) rfl (by kernel_rfl) (by kernel_rfl) (by kernel_rfl) (by kernel_rfl) (by kernel_rfl) (fun _ _ _ h => h) rfl (Or.inl ⟨by rfl, ?h7⟩) (by assumption) ?r7
  case h7 => (intro w hSw; go_simp; with_reducible rfl)
  simp only [Act.put, List.setIfInBounds_toArray, List.set_cons_zero, List.set_cons_succ]
  refine wpAnyK_take 8 15 (v := ?v8) rfl (by kernel_rfl) (by kernel_rfl) (by kernel_rfl) (by kernel_rfl) (by kernel_rfl) (fun _ _ _ h => h) rfl (Or.inl ⟨by rfl, ?h8⟩) (by assumption) ?r8
  case h8 => (intro w hSw; go_simp; with_reducible rfl)
  simp only [Act.put, List.setIfInBounds_toArray, List.set_cons_zero, List.set_cons_succ]
  refine wpAnyK_take 9 16 (v := ?v9) rfl (by kernel_rfl) (by kernel_rfl) (by kernel_rfl) (by kernel_rfl) (by kernel_rfl) (fun _ _ _ h => h) rfl (Or.inl ⟨by rfl, ?h9⟩) (by assumption) ?r9
  case h9 => (intro w hSw; go_simp; with_reducible rfl)
  simp only [Act.put, List.setIfInBounds_toArray, List.set_cons_zero, List.set_cons_succ]
  refine wpAnyK_take 10 17 (v := ?v10) rfl (by kernel_rfl) (by kernel_rfl) (by kernel_rfl) (by kernel_rfl) (by kernel_rfl) (fun _ _ _ h => h) rfl (Or.inl ⟨by rfl, ?h10⟩) (by assumption) ?r10
  case h10 => (intro w hSw; go_simp; with_reducible rfl)
  simp only [Act.put, List.setIfInBounds_toArray, List.set_cons_zero, List.set_cons_succ]
  refine wpAnyK_take 11 18 (v := ?v11) rfl (by kernel_rfl) (by kernel_rfl) (by kernel_rfl) (by kernel_rfl) (by kernel_rfl) (fun _ _ _ h => h) rfl (Or.inl ⟨by rfl, ?h11⟩) (by assumption) ?r11
  case h11 => (intro w hSw; go_simp; with_reducible rfl)
  simp only [Act.put, List.setIfInBounds_toArray, List.set_cons_zero, List.set_cons_succ]
  refine wpAnyK_take 12 19 (v := ?v12) rfl (by kernel_rfl) (by kernel_rfl) (by kernel_rfl) (by kernel_rfl) (by kernel_rfl) (fun _ _ _ h => h) rfl (Or.inl ⟨by rfl, ?h12⟩) (by assumption) ?r12
  case h12 => (intro w hSw; go_simp; with_reducible rfl)
  simp only [Act.put, List.setIfInBounds_toArray, List.set_cons_zero, List.set_cons_succ]
  refine wpAnyK_take 13 20 (v := ?v13) rfl (by kernel_rfl) (by kernel_rfl) (by kernel_rfl) (by kernel_rfl) (by kernel_rfl) (fun _ _ _ h => h) rfl (Or.inl ⟨by rfl, ?h13⟩) (by assumption) ?r13
  case h13 => (intro w hSw; go_simp; with_reducible rfl)
  simp only [Act.put, List.setIfInBounds_toArray, List.set_cons_zero, List.set_cons_succ]
  refine wpAnyK_take 14 21 (v := ?v14) rfl (by kernel_rfl) (by kernel_rfl) (by kernel_rfl) (by kernel_rfl) (by kernel_rfl) (fun _ _ _ h => h) rfl (Or.inl ⟨by rfl, ?h14⟩) (by assumption) ?r14
  case h14 => (intro w hSw; go_simp; with_reducible rfl)
  simp only [Act.put, List.setIfInBounds_toArray, List.set_cons_zero, List.set_cons_succ]
  refine wpAnyK_take 15 22 (v := ?v15) rfl (by kernel_rfl) (by kernel_rfl) (by kernel_rfl) (by kernel_rfl) (by kernel_rfl) (fun _ _ _ h => h) rfl (Or.inl ⟨by rfl, ?h15⟩) (by assumption) ?r15
  case h15 => (intro w hSw; go_simp; with_reducible rfl)
  simp only [Act.put, List.setIfInBounds_toArray, List.set_cons_zero, List.set_cons_succ]
  refine wpAnyK_take 16 23 (v := ?v16) rfl (by kernel_rfl) (by kernel_rfl) (by kernel_rfl) (by kernel_rfl) (by kernel_rfl) (fun _ _ _ h => h) rfl (Or.inl ⟨by rfl, ?h16⟩) (by assumption) ?r16
  case h16 => (intro w hSw; go_simp; with_reducible rfl)
  simp only [Act.put, List.setIfInBounds_toArray, List.set_cons_zero, List.set_cons_succ]
  refine wpAnyK_take 17 24 (v := ?v17) rfl (by kernel_rfl) (by kernel_rfl) (by kernel_rfl) (by kernel_rfl) (by kernel_rfl) (fun _ _ _ h => h) rfl (Or.inl ⟨by rfl, ?h17⟩) (by assumption) ?r17
  case h17 => (intro w hSw; go_simp; with_reducible rfl)
  simp only [Act.put, List.setIfInBounds_toArray, List.set_cons_zero, List.set_cons_succ]
  refine wpAnyK_take 18 25 (v := ?v18) rfl (by kernel_rfl) (by kernel_rfl) (by kernel_rfl) (by kernel_rfl) (by kernel_rfl) (fun _ _ _ h => h) rfl (Or.inl ⟨by rfl, ?h18⟩) (by assumption) ?r18
  case h18 => (intro w hSw; go_simp; with_reducible rfl)
  simp only [Act.put, List.setIfInBounds_toArray, List.set_cons_zero, List.set_cons_succ]
  refine wpAnyK_take 19 26 (v := ?v19) rfl (by kernel_rfl) (by kernel_rfl) (by kernel_rfl) (by kernel_rfl) (by kernel_rfl) (fun _ _ _ h => h) rfl (Or.inl ⟨by rfl, ?h19⟩) (by assumption) ?r19
  case h19 => (intro w hSw; go_simp; with_reducible rfl)
  simp only [Act.put, List.setIfInBounds_toArray, List.set_cons_zero, List.set_cons_succ]
  refine wpAnyK_take 20 27 (v := ?v20) rfl (by kernel_rfl) (by kernel_rfl) (by kernel_rfl) (by kernel_rfl) (by kernel_rfl) (fun _ _ _ h => h) rfl (Or.inl ⟨by rfl, ?h20⟩) (by assumption) ?r20
  case h20 => (intro w hSw; go_simp; with_reducible rfl)
  simp only [Act.put, List.setIfInBounds_toArray, List.set_cons_zero, List.set_cons_succ]
  refine wpAnyK_take 21 28 (v := ?v21) rfl (by kernel_rfl) (by kernel_rfl) (by kernel_rfl) (by kernel_rfl) (by kernel_rfl) (fun _ _ _ h => h) rfl (Or.inl ⟨by rfl, ?h21⟩) (by assumption) ?r21
  case h21 => (intro w hSw; go_simp; with_reducible rfl)
  simp only [Act.put, List.setIfInBounds_toArray, List.set_cons_zero, List.set_cons_succ]
  refine wpAnyK_take 23 30 (v := ?v23) rfl (by kernel_rfl) (by kernel_rfl) (by kernel_rfl) (by kernel_rfl) (by kernel_rfl) (fun _ _ _ h => h) rfl (Or.inl ⟨by rfl, ?h23⟩) (by assumption) ?r23
  case h23 => (intro w hSw; go_simp; with_reducible rfl)
  simp only [Act.put, List.setIfInBounds_toArray, List.set_cons_zero, List.set_cons_succ]
  refine wpAnyK_take 25 32 (v := ?v25) rfl (by kernel_rfl) (by kernel_rfl) (by kernel_rfl) (by kernel_rfl) (by kernel_rfl) (fun _ _ _ h => h) rfl (Or.inl ⟨by rfl, ?h25⟩) (by assumption) ?r25
  case h25 => (intro w hSw; go_simp; with_reducible rfl)
  simp only [Act.put, List.setIfInBounds_toArray, List.set_cons_zero, List.set_cons_succ]
  refine wpAnyK_one 22 (by kernel_rfl) rfl (fun K hK => ?_)
  go_simp
  go_wp2_with (go_at_call_of 60 ua; refine (MW.out _ _ _ A X ?_ ?_ ?_ (by omega) (by omega)).mono ?_; exact (Fr.refl _).drew; exact h2.mono (Fr.refl _).drew; exact k2.mono (Fr.refl _).drew; rintro e w1 ⟨m1, rfl, hm1, f1, f1', g11, g12, g13, g14⟩)
  refine hK.out _ _ (fun _ _ => ⟨g11, g12, g13, g14⟩) ?_
  clear hK K
  simp only [List.setIfInBounds_toArray, List.set_cons_zero, List.set_cons_succ]
  refine wpAnyK_one 24 (by kernel_rfl) rfl (fun K hK => ?_)
  go_simp
  go_wp2_with (go_at_call_of 61 C; refine (BLx.out _ f1').mono ?_; rintro e w2 ⟨b1, rfl, hb1, f2, f2', g21, g22, g23, g24⟩)
  refine hK.out _ _ (fun _ _ => ⟨g21, g22, g23, g24⟩) ?_
  clear hK K
  simp only [List.setIfInBounds_toArray, List.set_cons_zero, List.set_cons_succ]
  refine wpAnyK_one 26 (by kernel_rfl) rfl (fun K hK => ?_)
  go_simp
  go_wp2_with (go_at_call_of 61 E; refine (BLy.out _ f2').mono ?_; rintro e w3 ⟨b2, rfl, hb2, f3, f3', g31, g32, g33, g34⟩)
  refine hK.out _ _ (fun _ _ => ⟨g31, g32, g33, g34⟩) ?_
  clear hK K
  simp only [List.setIfInBounds_toArray, List.set_cons_zero, List.set_cons_succ]
  refine wpAnyK_one 27 (by kernel_rfl) rfl (fun K hK => ?_)
  go_simp
  go_wp2_with (go_at_call_of 60 b2; refine (MW.out _ _ _ (den D) (den F) f3' (hb1.mono f3) hb2 (by omega) (by omega)).mono ?_; rintro e w4 ⟨m2, rfl, hm2, f4, f4', g41, g42, g43, g44⟩)
  refine hK.out _ _ (fun _ _ => ⟨g41, g42, g43, g44⟩) ?_
  clear hK K
  simp only [List.setIfInBounds_toArray, List.set_cons_zero, List.set_cons_succ]
  refine wpAnyK_one 28 (by kernel_rfl) rfl (fun K hK => ?_)
  go_simp
  go_wp2_with (go_at_call 59; refine (RS.out _ _ _ _ f4' (((hm1.mono f2).mono f3).mono f4) hm2).mono ?_; rintro e w5 ⟨rfl, hsv⟩)
  refine hK.out _ _ (fun h => absurd rfl h) ?_
  clear hK K
  simp only [List.setIfInBounds_toArray, List.set_cons_zero, List.set_cons_succ]
  refine wpAnyK_one 29 (by kernel_rfl) rfl (fun K hK => ?_)
  go_simp
  refine hK.out _ _ (fun _ h => absurd h (by decide)) ?_
  clear hK K
  simp only [List.setIfInBounds_toArray, List.set_cons_zero, List.set_cons_succ]
  refine wpAnyK_done (by kernel_rfl) ?_ _
  go_wp2
  go_ret
  rw [HSG.out _ (by first | rfl | (cases s <;> cases t <;> rfl))] at hsv
  exact hsv
theorem rmul_any (B C E : Nat) (p p' : Int) (q q' k k' : Nat) (s0 : Bool) (A0 D0 : Nat) (w : World) (hz : Rt w B s0 A0 D0) (hx : Rv w C p q k) (hy : Rv w E p' q' k') (hne : E ≠ B) (hk : k + k' + 2 < 16000000) :
    Calls Try.prog 32 #[.pointer (some ⟨B, 0, none⟩), .pointer (some ⟨C, 0, none⟩), .pointer (some ⟨E, 0, none⟩)] w fun e w' => Sv w B (p * p') (q * q') (k + k' + 2) e w' := by
  obtain ⟨s, A, D, h1, h2, h3, h4⟩ := hx
  obtain ⟨t, X, F, k1, k2, k3, k4⟩ := hy
  refine (rmul_rt B C E s t s0 A D X F A0 D0 k k' w hz h1 k1 hne h3 h4 k3 k4 hk).mono ?_
  intro e w' hs
  refine hs.conv (Nat.mul_pos (den_pos _) (den_pos _)) ?_
  rw [Int.natCast_mul, Int.natCast_mul]
  have e1 : sv s A * sv t X * ((q : Int) * q') = (sv s A * q) * (sv t X * q') := by grind
  rw [e1, h2, k2]; grind
end Go.Proofs.Ytjfkdmddfeeheaa
