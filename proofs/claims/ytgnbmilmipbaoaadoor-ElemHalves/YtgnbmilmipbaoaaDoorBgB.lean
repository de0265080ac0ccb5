/-
  OWN TEXT: words in memory: what a slice of words holds, and that it still holds it behind a call that writes nothing that was there.
-/
import Derived.Test.YtgnbmilmipbaoaaDoorRows
import Derived.Test.YtgnbmilmipbaoaaDoorBgA
import Derived.WalkKit
import Derived.ProofKit
import Derived.OpenShut
import Derived.WalkLawsBesides
namespace Go.Proofs.YtgnbmilmipbaoaaDoor
open Go.ChangeShapes Go.WideShapes Go.ChangeAt Go.RowKit
open Bg

/-- nothing that was there has turned, and no new mark lies on anything -/
def Fr (w w' : World) : Prop := Below w.heap.size w w' ∧ ∀ a, w'.frozen? a = w.frozen? a
theorem Fr.refl (w : World) : Fr w w := ⟨Below.refl _ _, fun _ => rfl⟩
theorem Fr.trans {a b c : World} (h : Fr a b) (k : Fr b c) : Fr a c := ⟨h.1.trans (k.1.mono h.1.size), fun x => (k.2 x).trans (h.2 x)⟩
theorem Fr.drew {a b : World} (h : Fr a b) : Fr a b.drew := ⟨h.1.drew, h.2⟩
theorem Fr.alloc {a b : World} (h : Fr a b) (c : Array Value) (t : TypeId) : Fr a (b.alloc (.cells c t)) := ⟨h.1.alloc h.1.size _, fun x => (frozen?_alloc_cells _ _ _ x).trans (h.2 x)⟩
theorem Fr.setCell {a b : World} (h : Fr a b) {p : Addr} (hp : a.heap.size ≤ p.block) (v : Value) : Fr a (b.setCell p v) := ⟨h.1.setCell hp v, fun x => (World.frozen?_setCell _ _ _ _).trans (h.2 x)⟩
theorem Fr.grown {a b : World} (h : Fr a b) : Grown a b := ⟨h.1.frame _, h.2, h.1.size⟩

/-- the cells at a hold these words -/
def Hs (w : World) (a : Option Addr) (l : List Nat) : Prop := l = [] ∨ ∃ b o, a = some ⟨b, o, none⟩ ∧ b < w.heap.size ∧ ∀ i, i < l.length → w.cell? ⟨b, o + i, none⟩ = some (.int .u32 (l.getD i 0 : Nat))
theorem Hs.mono {w w' : World} {a : Option Addr} {l : List Nat} (h : Hs w a l) (f : Fr w w') : Hs w' a l := by
  rcases h with h | ⟨b, o, h1, h2, h3⟩
  · exact Or.inl h
  · exact Or.inr ⟨b, o, h1, Nat.lt_of_lt_of_le h2 f.1.size, fun i hi => (f.1.cell (p := ⟨b, o + i, none⟩) h2).trans (h3 i hi)⟩
theorem Hs.take {w : World} {a : Option Addr} {l : List Nat} (h : Hs w a l) (n : Nat) : Hs w a (l.take n) := by
  rcases h with h | ⟨b, o, h1, h2, h3⟩
  · left; rw [h]; simp
  · right
    refine ⟨b, o, h1, h2, fun i hi => ?_⟩
    rw [List.length_take] at hi
    rw [h3 i (by omega), getD_take, if_pos (by omega)]
/-- the value is a slice that holds the words of N, without noughts at the end -/
def Nm (w : World) (v : Value) (N : Nat) : Prop := ∃ a l cap, v = .slice a l.length cap ∧ l.length ≤ cap ∧ cap ≤ 1099511627776 ∧ Hs w a l ∧ Dg l ∧ vL l = N ∧ tn l = l.length
theorem Nm.mono {w w' : World} {v : Value} {N : Nat} (h : Nm w v N) (f : Fr w w') : Nm w' v N := by
  obtain ⟨a, l, cap, h1, h2, h3, h4, h5⟩ := h
  exact ⟨a, l, cap, h1, h2, h3, h4.mono f, h5⟩
theorem nm_trim {w : World} {a : Option Addr} {l : List Nat} {cap : Nat} (hh : Hs w a l) (hd : Dg l) (hc : l.length ≤ cap) (hm : cap ≤ 1099511627776) : Nm w (.slice a (tn l) cap) (vL l) := by
  have ht := tn_le l
  refine ⟨a, l.take (tn l), cap, by rw [length_trim], by rw [length_trim]; omega, hm, hh.take _, Dg_take hd _, vL_trim l, by rw [tn_trim, length_trim]⟩

theorem rv {a b : Value} (h : a = b) : Ending.returned a = .returned b := by rw [h]
set_option maxHeartbeats 1000000 in
theorem trim_any (a : Option Addr) (l : List Nat) (cap : Nat) (w : World) (hh : Hs w a l) (hc : l.length ≤ cap) (hm : cap ≤ 1099511627776) :
    Calls Tryd.prog 55 #[.slice a l.length cap] w fun e w' => e = .returned (.slice a (tn l) cap) ∧ w' = w := by
  rcases hh with rfl | ⟨b, o, rfl, hb, hcell⟩
  · cases a
    all_goals
      go_enter Tryd.func55, Tryd.ntmps55
      go_wp2
      refine wp_loop_rounds 1 ?_
      rw [rounds_succ]
      go_wp2
      go_ret
      exact ⟨rfl, rfl⟩
  · generalize hn : l.length = n at *
    go_enter Tryd.func55, Tryd.ntmps55
    go_wp2
    go_loop [3] (fun t => ∃ k : Nat, k ≤ n ∧ t = .int .i64 k ∧ ∀ i, k ≤ i → l.getD i 0 = 0) (fun t => (intOf t).toNat)
    case atStart => exact ⟨n, Nat.le_refl _, rfl, fun i hi => getD_out (by omega)⟩
    case round =>
      obtain ⟨k, hk, rfl, hz⟩ := hrel
      have HZ : Hid (∀ i, k ≤ i → l.getD i 0 = 0) := hz
      clear hz
      cases k with
      | zero =>
        have ht : Hid (tn l = 0) := (tn_unique l 0 HZ.out (Or.inl rfl)).symm
        go_wp2
        go_ret
        exact ⟨rv (by rw [ht.out]; rfl), rfl⟩
      | succ j =>
        have hj := hcell j (by omega)
        by_cases c : l.getD j 0 = 0
        · rw [c] at hj
          have HZ' : Hid (∀ i, j ≤ i → l.getD i 0 = 0) := by
            intro i hi
            by_cases e : i = j
            · rw [e]; exact c
            · exact HZ.out i (by omega)
          clear c hcell HZ
          go_wp2
          go_round
          case rel => exact ⟨j, by omega, by go_num, HZ'.out⟩
          case measure => simp [intOf]
        · have ht : Hid (tn l = j + 1) := (tn_unique l (j + 1) HZ.out (Or.inr c)).symm
          have c0 : ((l.getD j 0 : Int) == 0) = false := beq_eq_false_iff_ne.2 (by omega)
          generalize l.getD j 0 = x at *
          clear c hcell HZ
          go_wp2
          go_ret
          exact ⟨rv (by rw [ht.out]; rfl), rfl⟩
theorem trim_nm (a : Option Addr) (l : List Nat) (n cap : Nat) (w : World) (hh : Hs w a l) (hd : Dg l) (hn : l.length = n) (hc : n ≤ cap) (hm : cap ≤ 1099511627776) :
    Calls Tryd.prog 55 #[.slice a n cap] w fun e w' => ∃ v, e = .returned v ∧ Nm w v (vL l) ∧ w' = w := by
  subst hn
  refine (trim_any a l cap w hh hc hm).mono ?_
  rintro e w' ⟨rfl, rfl⟩
  exact ⟨_, rfl, nm_trim hh hd hc hm, rfl⟩
end Go.Proofs.YtgnbmilmipbaoaaDoor
