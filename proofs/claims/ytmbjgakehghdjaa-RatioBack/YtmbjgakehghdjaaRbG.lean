/-
  OWN TEXT: the law RatioBack, for whatever ints.
-/
import Derived.Test.YtmbjgakehghdjaaJbh
import Derived.Test.YtmbjgakehghdjaaXxC
namespace Go.Proofs.Ytmbjgakehghdjaa
open Go.ChangeShapes Go.WideShapes Go.ChangeAt Go.RowKit
set_option linter.unusedVariables false
attribute [local go_sem] frombits_call tobits_call run_neg run_store_cx
set_option maxHeartbeats 16000000 in
set_option maxRecDepth 100000 in
theorem ratioback_any {c : Nat} (hc : c = 1074) (a1 : Option Addr) (len1 cap1 : Nat) (w : World) (i1 : Ix w a1 len1) (h1 : len1 ≤ 140737488355328) (hw : RoOk w) :
    Calls Try.prog 5 #[.slice a1 len1 cap1] w fun e w' => e = .returned (.bool true) ∧ Below w.heap.size w w' := by
  have HC := hide hc
  have HI := hide i1
  have AL := hide (alive10_ev w hw)
  clear hc i1 hw
  obtain ⟨j0, hj, hy0, hy1, hy2⟩ := info_parts8 info_c128
  obtain ⟨i0, hi, hz0, hz1, hz2⟩ := info_parts8 info_pole
  have hu1 : Try.prog.underlying 22 = some (.slice 27) := by kernel_rfl
  have hu2 : Try.prog.underlying 37 = some (.slice 42) := by kernel_rfl
  obtain ⟨B, hB⟩ : ∃ B, w.heap.size = B := ⟨_, rfl⟩
  have HB := hide hB
  clear hB
  go_enter Try.func5, Try.ntmps5
  go_wp2_with fail
  refine AL.out.mono ?_
  rintro e w1 ⟨rfl, b1⟩
  have G := hide (show Bw w w1 from b1)
  clear b1 AL
  go_wp2_with fail
  go_loopw [4, 5, 6] (fun pv zv q wr => ∃ (m : Nat) (vp vz : List Value) (zs rs : List Py.G), m ≤ 3 ∧ q = .int .i64 (4 * (m : Int)) ∧ zs.length = m ∧ Vl c vz zs ∧ Vp c vp zs rs ∧ wr.ownsRow B 27 1 zv m vz ∧ wr.ownsRow B 42 2 pv m vp ∧ (zv.ownBlock = none ∨ zv.ownBlock ≠ pv.ownBlock) ∧ (∀ i, E8 (Py.co zs i)) ∧ (∀ i, E8 (Py.co rs i)) ∧ (∀ m, m < zs.length → ∀ j, j < zs.length → j ≠ m → Py.co zs j ≠ Py.co zs m) ∧ Bw w wr) (fun _ _ q _ => 16 - (intOf q).toNat)
  case atStart => exact ⟨0, [], [], [], [], by omega, rfl, rfl, ⟨rfl, fun j hj => by simp at hj⟩, ⟨rfl, rfl, fun j hj => by simp at hj⟩, World.ownsRow_nil _ _ _ _, World.ownsRow_nil _ _ _ _, Or.inl rfl, fun i => E8.nought, fun i => E8.nought, fun m hm => by simp at hm, G.out⟩
  case round =>
    obtain ⟨m, vp, vz, zs, rs, hm, rfl, hl, hVz, hVp, hoz, hop, hnb, hez, her, hdd, hbw⟩ := hrel
    clear G
    by_cases hgo : 4 * m + 3 < len1 ∧ m < 3
    · obtain ⟨i, hi0⟩ : ∃ i, i = 4 * m := ⟨_, rfl⟩
      obtain ⟨i1, hi1⟩ : ∃ i1, i1 = i + 1 := ⟨_, rfl⟩
      obtain ⟨i2, hi2⟩ : ∃ i2, i2 = i + 2 := ⟨_, rfl⟩
      obtain ⟨i3, hi3⟩ : ∃ i3, i3 = i + 3 := ⟨_, rfl⟩
      have hs0 : 4 * (m : Int) = (i : Int) := by omega
      have hs1 : (i : Int) + 1 = (i1 : Int) := by omega
      have hs2 : (i : Int) + 2 = (i2 : Int) := by omega
      have hs3 : (i : Int) + 3 = (i3 : Int) := by omega
      have t0 : (i : Int) < len1 := by omega
      have t1 : (i1 : Int) < len1 := by omega
      have t2 : (i2 : Int) < len1 := by omega
      have t3 : (i3 : Int) < len1 := by omega
      have h7 : (m : Int) < 3 := by omega
      obtain ⟨b, off, rfl, hbs, hcells⟩ := (HI.out).resolve_left (by omega)
      obtain ⟨z1, ez1⟩ := hcells i (by omega)
      obtain ⟨z2, ez2⟩ := hcells i1 (by omega)
      obtain ⟨z3, ez3⟩ := hcells i2 (by omega)
      obtain ⟨z4, ez4⟩ := hcells i3 (by omega)
      have c1 : wr.cell? ⟨b, off + i, none⟩ = some (.int .i64 z1) := (Below.cell hbw (p := ⟨b, off + i, none⟩) hbs).trans ez1
      have c2 : wr.cell? ⟨b, off + i1, none⟩ = some (.int .i64 z2) := (Below.cell hbw (p := ⟨b, off + i1, none⟩) hbs).trans ez2
      have c3 : wr.cell? ⟨b, off + i2, none⟩ = some (.int .i64 z3) := (Below.cell hbw (p := ⟨b, off + i2, none⟩) hbs).trans ez3
      have c4 : wr.cell? ⟨b, off + i3, none⟩ = some (.int .i64 z4) := (Below.cell hbw (p := ⟨b, off + i3, none⟩) hbs).trans ez4
      obtain ⟨x, m1, qx, lx, W1⟩ := small10 HC.out z1
      obtain ⟨y, m2, qy, ly, W2⟩ := small10 HC.out z2
      obtain ⟨u, m3, qu, lu, W3⟩ := small10 HC.out z3
      obtain ⟨v, m4, qv, lv, W4⟩ := small10 HC.out z4
      have HW1 := hide W1
      have HW2 := hide W2
      have HW3 := hide W3
      have HW4 := hide W4
      obtain ⟨gz, hgz⟩ : ∃ g : Py.G, g = (m1, m2) := ⟨_, rfl⟩
      obtain ⟨gr, hgr⟩ : ∃ g : Py.G, g = (m3, m4) := ⟨_, rfl⟩
      have QZ : Hid (wC c x y gz ∧ E8 gz) := by show _ ∧ _; rw [hgz]; exact ⟨⟨qx, qy⟩, lx, ly⟩
      have QR : Hid (wC c u v gr ∧ E8 gr) := by show _ ∧ _; rw [hgr]; exact ⟨⟨qu, qv⟩, lu, lv⟩
      obtain ⟨az, cz, hzv, hZg⟩ := hVz.gl hl hoz
      obtain ⟨ap, cp, hpv, hPg⟩ := hVp.pl hl hop
      have HI0 := hide hi0
      have wg1 : IntKind.i64.wrap (i1 : Int) = i1 := by rw [IntKind.wrap_i64]; omega
      have wg2 : IntKind.i64.wrap (i2 : Int) = i2 := by rw [IntKind.wrap_i64]; omega
      have wg3 : IntKind.i64.wrap (i3 : Int) = i3 := by rw [IntKind.wrap_i64]; omega
      have HBS := hide hbs
      have HR : Hid (Vl c vz zs ∧ Vp c vp zs rs ∧ wr.ownsRow B 27 1 u5 m vz ∧ wr.ownsRow B 42 2 u4 m vp ∧ (u5.ownBlock = none ∨ u5.ownBlock ≠ u4.ownBlock) ∧ (∀ i, E8 (Py.co zs i)) ∧ (∀ i, E8 (Py.co rs i)) ∧ (∀ m, m < zs.length → ∀ j, j < zs.length → j ≠ m → Py.co zs j ≠ Py.co zs m) ∧ Bw w wr) := ⟨hVz, hVp, hoz, hop, hnb, hez, her, hdd, hbw⟩
      have HLN := hide hl
      subst hzv hpv
      clear hZg hPg hVz hVp hoz hop hnb hez her hdd hbw qx qy qu qv lx ly lu lv W1 W2 W3 W4 hgz hgr hl hi0 hi1 hi2 hi3 ez1 ez2 ez3 ez4 hcells hbs hgo HI
      rw [hs0]
      clear hs0
      go_wp2_with fail
      have S0 : wr.drew.cell? ⟨b, off + i, none⟩ = some (.int .i64 z1) ∧ wr.drew.cell? ⟨b, off + i1, none⟩ = some (.int .i64 z2) := ⟨c1, c2⟩
      refine wp_region_K (fun w' => w'.cell? ⟨b, off + i, none⟩ = some (.int .i64 z1) ∧ w'.cell? ⟨b, off + i1, none⟩ = some (.int .i64 z2)) 12 13 #[false, false, false, false, false, false, false, false, false, false, false, false, false] (by kernel_rfl) (by kernel_rfl) (by kernel_rfl) ?_
      refine wpAnyK_take 0 28 (v := ?v0) rfl (by kernel_rfl) (by kernel_rfl) (by kernel_rfl) (by kernel_rfl) (by kernel_rfl) (fun _ _ _ h => h) rfl (Or.inl ⟨by rfl, ?h0⟩) (by assumption) ?r0
      case h0 => (intro w hSw; go_simp; with_reducible rfl)
      simp only [Act.put, List.setIfInBounds_toArray, List.set_cons_zero, List.set_cons_succ]
      refine wpAnyK_take 1 29 (v := ?v1) rfl (by kernel_rfl) (by kernel_rfl) (by kernel_rfl) (by kernel_rfl) (by kernel_rfl) (fun _ _ _ h => h) rfl (Or.inl ⟨by rfl, ?h1⟩) (by assumption) ?r1
      case h1 => (intro w hSw; go_simp; with_reducible rfl)
      simp only [Act.put, List.setIfInBounds_toArray, List.set_cons_zero, List.set_cons_succ]
      refine wpAnyK_take 2 30 (v := ?v2) rfl (by kernel_rfl) (by kernel_rfl) (by kernel_rfl) (by kernel_rfl) (by kernel_rfl) (fun _ _ _ h => h) rfl (Or.inl ⟨by rfl, ?h2⟩) (by assumption) ?r2
      case h2 => (intro w hSw; go_simp; with_reducible rfl)
      simp only [Act.put, List.setIfInBounds_toArray, List.set_cons_zero, List.set_cons_succ]
      refine wpAnyK_take 3 31 (v := ?v3) rfl (by kernel_rfl) (by kernel_rfl) (by kernel_rfl) (by kernel_rfl) (by kernel_rfl) (fun _ _ _ h => h) rfl (Or.inl ⟨by rfl, ?h3⟩) (by assumption) ?r3
      case h3 => (intro w hSw; go_simp; with_reducible rfl)
      simp only [Act.put, List.setIfInBounds_toArray, List.set_cons_zero, List.set_cons_succ]
      refine wpAnyK_take 5 33 (v := ?v5) rfl (by kernel_rfl) (by kernel_rfl) (by kernel_rfl) (by kernel_rfl) (by kernel_rfl) (fun _ _ _ h => h) rfl (Or.inl ⟨by rfl, ?h5⟩) (by assumption) ?r5
      case h5 => (intro w hSw; go_simp; with_reducible rfl)
      simp only [Act.put, List.setIfInBounds_toArray, List.set_cons_zero, List.set_cons_succ]
      refine wpAnyK_take 6 34 (v := ?v6) rfl (by kernel_rfl) (by kernel_rfl) (by kernel_rfl) (by kernel_rfl) (by kernel_rfl) (fun _ _ _ h => h) rfl (Or.inl ⟨by rfl, ?h6⟩) (by assumption) ?r6
      case h6 => (intro w hSw; go_simp; with_reducible rfl)
      simp only [Act.put, List.setIfInBounds_toArray, List.set_cons_zero, List.set_cons_succ]
      refine wpAnyK_take 7 35 (v := ?v7) rfl (by kernel_rfl) (by kernel_rfl) (by kernel_rfl) (by kernel_rfl) (by kernel_rfl) (fun _ _ _ h => h) rfl (Or.inl ⟨by rfl, ?h7⟩) (by assumption) ?r7
      case h7 => (intro w hSw; go_simp; with_reducible rfl)
      simp only [Act.put, List.setIfInBounds_toArray, List.set_cons_zero, List.set_cons_succ]
      refine wpAnyK_take 8 36 (v := ?v8) rfl (by kernel_rfl) (by kernel_rfl) (by kernel_rfl) (by kernel_rfl) (by kernel_rfl) (fun _ _ _ h => h) rfl (Or.inl ⟨by rfl, ?h8⟩) (by assumption) ?r8
      case h8 => (intro w hSw; go_simp; with_reducible rfl)
      simp only [Act.put, List.setIfInBounds_toArray, List.set_cons_zero, List.set_cons_succ]
      refine wpAnyK_take 9 37 (v := ?v9) rfl (by kernel_rfl) (by kernel_rfl) (by kernel_rfl) (by kernel_rfl) (by kernel_rfl) (fun _ _ _ h => h) rfl (Or.inl ⟨by rfl, ?h9⟩) (by assumption) ?r9
      case h9 => (intro w hSw; go_simp; with_reducible rfl)
      simp only [Act.put, List.setIfInBounds_toArray, List.set_cons_zero, List.set_cons_succ]
      refine wpAnyK_one 4 (by kernel_rfl) rfl (fun K hK => ?_)
      go_simp
      go_wp2_with (go_at_call 19; refine (HW1.out _).mono ?_; rintro e' w7 ⟨rfl, hw7⟩; subst hw7)
      refine hK.out _ _ (fun _ _ => S0) ?_
      clear hK K
      simp only [List.setIfInBounds_toArray, List.set_cons_zero, List.set_cons_succ]
      refine wpAnyK_one 10 (by kernel_rfl) rfl (fun K hK => ?_)
      go_simp
      go_wp2_with (go_at_call 19; refine (HW2.out _).mono ?_; rintro e' w7 ⟨rfl, hw7⟩; subst hw7)
      refine hK.out _ _ (fun _ _ => S0) ?_
      clear hK K
      simp only [List.setIfInBounds_toArray, List.set_cons_zero, List.set_cons_succ]
      refine wpAnyK_take 11 39 (v := ?v11) rfl (by kernel_rfl) (by kernel_rfl) (by kernel_rfl) (by kernel_rfl) (by kernel_rfl) (fun _ _ _ h => h) rfl (Or.inl ⟨by rfl, ?h11⟩) (by assumption) ?r11
      case h11 => (intro w hSw; go_simp; with_reducible rfl)
      simp only [Act.put, List.setIfInBounds_toArray, List.set_cons_zero, List.set_cons_succ]
      refine wpAnyK_one 12 (by kernel_rfl) rfl (fun K hK => ?_)
      go_simp
      refine hK.out _ _ (fun h => absurd rfl h) ?_
      clear hK K
      simp only [List.setIfInBounds_toArray, List.set_cons_zero, List.set_cons_succ]
      refine wpAnyK_done (by kernel_rfl) ?_ _
      have HR2 : Hid (Vl c vz zs ∧ Vp c vp zs rs ∧ wr.drew.ownsRow B 27 1 (.slice az m cz) m vz ∧ wr.drew.ownsRow B 42 2 (.slice ap m cp) m vp ∧ ((Value.slice az m cz).ownBlock = none ∨ (Value.slice az m cz).ownBlock ≠ (Value.slice ap m cp).ownBlock) ∧ (∀ i, E8 (Py.co zs i)) ∧ (∀ i, E8 (Py.co rs i)) ∧ (∀ m, m < zs.length → ∀ j, j < zs.length → j ≠ m → Py.co zs j ≠ Py.co zs m) ∧ Bw w wr.drew) := ⟨HR.out.1, HR.out.2.1, HR.out.2.2.1, HR.out.2.2.2.1, HR.out.2.2.2.2.1, HR.out.2.2.2.2.2.1, HR.out.2.2.2.2.2.2.1, HR.out.2.2.2.2.2.2.2.1, HR.out.2.2.2.2.2.2.2.2.drew⟩
      have c3' : wr.drew.cell? ⟨b, off + i2, none⟩ = some (.int .i64 z3) := c3
      have c4' : wr.drew.cell? ⟨b, off + i3, none⟩ = some (.int .i64 z4) := c4
      clear S0 c1 c2 c3 c4 HR HW1 HW2
      generalize wr.drew = W at *
      go_wp2_with fail
      go_loopw [8] (fun q wr' => ∃ k : Nat, k ≤ m ∧ q = .int .i64 (k : Int) ∧ wr' = W ∧ ∀ j, j < k → Py.co zs j ≠ gz) (fun q _ => m - (intOf q).toNat)
      case atStart => exact ⟨0, Nat.zero_le _, rfl, rfl, fun j hj => absurd hj (Nat.not_lt_zero _)⟩
      case round =>
        obtain ⟨k, hk, rfl, hwr, hne⟩ := hrel
        subst hwr
        by_cases hkm : k < m
        · have hkm' : (k : Int) < m := by omega
          have hk0 : 0 < m := by omega
          obtain ⟨g, cp', hsl, hgB, hgl⟩ := HR2.out.2.2.1.form hk0
          obtain ⟨x', y', ek, qk⟩ := HR2.out.1.2 k (by have := HLN.out; omega)
          cases hsl
          have ck := (HR2.out.2.2.1.cellAt k (by omega)).trans ek
          have CE := fun t w => ceq10 qk QZ.out.1 t w
          have HN := hide hne
          clear ek qk hne hgB hgl
          by_cases z : Py.co zs k = gz
          · have CT : ∀ t w, (binOp .eql t (.complex .f64 x' y') (.complex .f64 x y)).run Try.prog w = .ok (.bool true) w := fun t w => by rw [CE, decide_eq_true z]
            clear CE z
            go_wp2
            go_ret
            exact ⟨rfl, HR2.out.2.2.2.2.2.2.2.2⟩
          · have CT : ∀ t w, (binOp .eql t (.complex .f64 x' y') (.complex .f64 x y)).run Try.prog w = .ok (.bool false) w := fun t w => by rw [CE, decide_eq_false z]
            have HZ := hide z
            clear CE z
            have wk : IntKind.i64.wrap ((k : Int) + 1) = k + 1 := by rw [IntKind.wrap_i64]; omega
            go_wp2
            go_roundw
            case rel => exact ⟨k + 1, by omega, by congr 1, by first | rfl | trivial, fun j hj => by rcases Nat.lt_succ_iff_lt_or_eq.mp hj with h | h; exact HN.out j h; subst h; exact HZ.out⟩
            case measure => simp [intOf]; omega
        · have hkm' : ¬ (k : Int) < m := by omega
          have hkk : k = m := by omega
          subst hkk
          have HN := hide hne
          clear hne hkm
          have HBS2 : Hid (B ≤ wr.heap.size) := by have := HB.out; have := Below.size HR2.out.2.2.2.2.2.2.2.2; show B ≤ _; omega
          have hbs2 : b < wr.heap.size := Nat.lt_of_lt_of_le HBS.out (Below.size HR2.out.2.2.2.2.2.2.2.2)
          have HRW : Hid (∀ z, (Value.slice az k cz).ownBlock = some z → w.heap.size ≤ z) := fun z e => by have := (HR2.out.2.2.1.lt z e).1; have := HB.out; omega
          have c3 : (wr.alloc (.cells #[.complex .f64 x y] 27)).cell? ⟨b, off + i2, none⟩ = some (.int .i64 z3) := (World.cell?_alloc_past _ _ _ hbs2).trans c3'
          have c4 : (wr.alloc (.cells #[.complex .f64 x y] 27)).cell? ⟨b, off + i3, none⟩ = some (.int .i64 z4) := (World.cell?_alloc_past _ _ _ hbs2).trans c4'
          have HOZ : Hid ((wr.alloc (.cells #[.complex .f64 x y] 27)).ownsRow B 27 1 (.slice az k cz) k vz) := World.ownsRow.alloc HR2.out.2.2.1 _
          have HOP : Hid ((wr.alloc (.cells #[.complex .f64 x y] 27)).ownsRow B 42 2 (.slice ap k cp) k vp) := World.ownsRow.alloc HR2.out.2.2.2.1 _
          have HBA : Hid (Bw w (wr.alloc (.cells #[.complex .f64 x y] 27))) := bw_trans HR2.out.2.2.2.2.2.2.2.2 (bw_alloc _ _)
          have HPB : Hid (∀ z, (Value.slice ap k cp).ownBlock = some z → z < wr.heap.size) := fun z e => (HR2.out.2.2.2.1.lt z e).2
          have HCE : Hid ((wr.alloc (.cells #[.complex .f64 x y] 27)).cell? ((⟨wr.heap.size, 0, none⟩ : Addr).add 0) = some (.complex .f64 x y)) := by
            show World.cell? _ (⟨wr.heap.size, 0, none⟩ : Addr) = _
            rw [World.cell?_alloc_at _ _ _ _ rfl]
            rfl
          have HSZ : Hid ((wr.alloc (.cells #[.complex .f64 x y] 27)).heap.size = wr.heap.size + 1) := by show _ = _; simp
          have HV : Hid (Vl c vz zs ∧ Vp c vp zs rs ∧ ((Value.slice az k cz).ownBlock = none ∨ (Value.slice az k cz).ownBlock ≠ (Value.slice ap k cp).ownBlock) ∧ (∀ i, E8 (Py.co zs i)) ∧ (∀ i, E8 (Py.co rs i)) ∧ (∀ m, m < zs.length → ∀ j, j < zs.length → j ≠ m → Py.co zs j ≠ Py.co zs m)) := ⟨HR2.out.1, HR2.out.2.1, HR2.out.2.2.2.2.1, HR2.out.2.2.2.2.2.1, HR2.out.2.2.2.2.2.2.1, HR2.out.2.2.2.2.2.2.2.1⟩
          clear HR2 c3' c4'
          go_wp2_with (first
            | (at_builtin; refine wpList_append_lies _ (by rfl) _ _ 22 (by rfl) B 27 j0 (.complex .f64 0 0) 1 16 hu1 hj hy0 hy1 hy2 rfl (by decide) _ k vz (by rfl) HOZ.out ⟨_, 0, none⟩ 1 1 [.complex .f64 x y] (by rfl) rfl (fun j u hj => by match j, hj with | 0, hj => simp only [List.getElem?_cons_zero, Option.some.injEq] at hj; subst hj; exact HCE.out) (fun u hu => by simp only [List.mem_singleton] at hu; subst hu; rfl) (by decide) ?e3 ?e4 ?e5 _ HSZ.out ?_)
            | fail)
          case e3 => unfold maxLen; omega
          case e4 => omega
          case e5 => have := HBS2.out; have := HSZ.out; omega
          intro g3 cp3 w3 hown3 hgrow3 hat3 hlt3
          have HOP3 : Hid (w3.ownsRow B 42 2 (.slice ap k cp) k vp) := HOP.out.kept hgrow3 (by
            rcases HV.out.2.2.1 with h | h
            · rw [h]; cases hv : (Value.slice ap k cp).ownBlock <;> simp
            · exact Or.inr fun e => h e.symm)
          have hb3 : Hid (Bw w w3) := Below.grown HBA.out hgrow3 (by have := Below.size HBA.out; omega) (fun j hj => HRW.out j hj)
          have HNE : Hid (g3 ≠ b ∧ ∀ z, (Value.slice ap k cp).ownBlock = some z → g3 ≠ z) := by
            have := HBS.out
            rcases hat3 with h | h
            · refine ⟨fun e => ?_, fun z hz e => ?_⟩
              · have := HRW.out g3 h; omega
              · rcases HV.out.2.2.1 with k1 | k1
                · rw [k1] at h; cases h
                · exact k1 (by rw [h, hz, e])
            · have := hbs2
              refine ⟨fun e => by omega, fun z hz e => ?_⟩
              have := HPB.out z hz
              omega
          have hnb : (Value.slice az k cz).ownBlock ≠ some b := fun e => by have := HRW.out b e; have := HBS.out; omega
          have c3'' : w3.cell? ⟨b, off + i2, none⟩ = some (.int .i64 z3) := hgrow3.cell c3 (fun e => hnb e.symm)
          have c4'' : w3.cell? ⟨b, off + i3, none⟩ = some (.int .i64 z4) := hgrow3.cell c4 (fun e => hnb e.symm)
          have HO3 := hide hown3
          clear c3 c4 HOZ HOP HBA HCE HSZ hgrow3 hat3 hlt3 hown3 HRW HPB hnb hbs2
          go_wp2_with fail
          have S0 : w3.drew.cell? ⟨b, off + i2, none⟩ = some (.int .i64 z3) ∧ w3.drew.cell? ⟨b, off + i3, none⟩ = some (.int .i64 z4) := ⟨c3'', c4''⟩
          obtain ⟨wN, hwN⟩ : ∃ wN, wN = (w3.alloc (.cells #[.complex .f64 x y, .complex .f64 u v] 42)).drew := ⟨_, rfl⟩
          have HOZ : Hid (wN.ownsRow B 27 1 (.slice (some ⟨g3, 0, none⟩) (k + 1) cp3) (k + 1) (vz ++ [.complex .f64 x y])) := by rw [hwN]; exact World.ownsRow.alloc (w := w3) HO3.out _
          have HOP : Hid (wN.ownsRow B 42 2 (.slice ap k cp) k vp) := by rw [hwN]; exact World.ownsRow.alloc (w := w3) HOP3.out _
          have HBA : Hid (Bw w wN) := by rw [hwN]; exact (bw_trans hb3.out (bw_alloc _ _)).drew
          have hbs3 : b < w3.heap.size := Nat.lt_of_lt_of_le HBS.out (Below.size hb3.out)
          have S1 : wN.cell? ⟨b, off + i2, none⟩ = some (.int .i64 z3) ∧ wN.cell? ⟨b, off + i3, none⟩ = some (.int .i64 z4) := by
            rw [hwN]
            exact ⟨(World.cell?_alloc_past (w := w3) _ _ _ hbs3).trans c3'', (World.cell?_alloc_past (w := w3) _ _ _ hbs3).trans c4''⟩
          have HSZ : Hid (wN.heap.size = w3.heap.size + 1) := by show _ = _; rw [hwN]; simp
          have HG3 : Hid (g3 < w3.heap.size) := (HO3.out.lt g3 rfl).2
          have HB3 : Hid (B ≤ w3.heap.size) := by have := HB.out; have := Below.size hb3.out; show B ≤ _; omega
          have HCE : Hid (∀ j t, [Value.complex .f64 x y, .complex .f64 u v][j]? = some t → wN.cell? ((⟨w3.heap.size, 0, none⟩ : Addr).add j) = some t) := by
            intro j t hj
            rw [hwN]
            match j, hj with
            | 0, hj =>
              simp only [List.getElem?_cons_zero, Option.some.injEq] at hj; subst hj
              show World.cell? (w3.alloc (.cells #[.complex .f64 x y, .complex .f64 u v] 42)) (⟨w3.heap.size, 0, none⟩ : Addr) = _
              rw [World.cell?_alloc_at _ _ _ _ rfl]
              rfl
            | 1, hj =>
              simp only [List.getElem?_cons_zero, List.getElem?_cons_succ, Option.some.injEq] at hj; subst hj
              show World.cell? (w3.alloc (.cells #[.complex .f64 x y, .complex .f64 u v] 42)) (⟨w3.heap.size, 1, none⟩ : Addr) = _
              rw [World.cell?_alloc_at _ _ _ _ rfl]
              rfl
          have HRW : Hid (∀ z, (Value.slice ap k cp).ownBlock = some z → w.heap.size ≤ z) := fun z e => by have := (HOP3.out.lt z e).1; have := HB.out; omega
          have HNB : Hid ((Value.slice ap k cp).ownBlock ≠ some b) := fun e => by have := HRW.out b e; have := HBS.out; omega
          clear HO3 HOP3 hb3 hbs3 c3'' c4'' HBS2
          obtain ⟨WS, hWS⟩ : ∃ n, n = w3.heap.size := ⟨_, rfl⟩
          rw [← hWS] at HSZ HG3 HB3 HCE
          refine wp_region_K (fun w' => w'.cell? ⟨b, off + i2, none⟩ = some (.int .i64 z3) ∧ w'.cell? ⟨b, off + i3, none⟩ = some (.int .i64 z4)) 18 19 #[false, false, false, false, false, false, false, false, false, false, false, false, false, false, false, false, false, false, false] (by kernel_rfl) (by kernel_rfl) (by kernel_rfl) ?_
          refine wpAnyK_take 0 57 (v := ?vb0) rfl (by kernel_rfl) (by kernel_rfl) (by kernel_rfl) (by kernel_rfl) (by kernel_rfl) (fun _ _ _ h => h) rfl (Or.inl ⟨by rfl, ?hb0⟩) (by assumption) ?rb0
          case hb0 => (intro w hSw; go_simp; with_reducible rfl)
          simp only [Act.put, List.setIfInBounds_toArray, List.set_cons_zero, List.set_cons_succ]
          refine wpAnyK_take 1 58 (v := ?vb1) rfl (by kernel_rfl) (by kernel_rfl) (by kernel_rfl) (by kernel_rfl) (by kernel_rfl) (fun _ _ _ h => h) rfl (Or.inl ⟨by rfl, ?hb1⟩) (by assumption) ?rb1
          case hb1 => (intro w hSw; go_simp; with_reducible rfl)
          simp only [Act.put, List.setIfInBounds_toArray, List.set_cons_zero, List.set_cons_succ]
          refine wpAnyK_take 2 59 (v := ?vb2) rfl (by kernel_rfl) (by kernel_rfl) (by kernel_rfl) (by kernel_rfl) (by kernel_rfl) (fun _ _ _ h => h) rfl (Or.inl ⟨by rfl, ?hb2⟩) (by assumption) ?rb2
          case hb2 => (intro w hSw; go_simp; with_reducible rfl)
          simp only [Act.put, List.setIfInBounds_toArray, List.set_cons_zero, List.set_cons_succ]
          refine wpAnyK_take 3 60 (v := ?vb3) rfl (by kernel_rfl) (by kernel_rfl) (by kernel_rfl) (by kernel_rfl) (by kernel_rfl) (fun _ _ _ h => h) rfl (Or.inl ⟨by rfl, ?hb3⟩) (by assumption) ?rb3
          case hb3 => (intro w hSw; go_simp; with_reducible rfl)
          simp only [Act.put, List.setIfInBounds_toArray, List.set_cons_zero, List.set_cons_succ]
          refine wpAnyK_take 4 61 (v := ?vb4) rfl (by kernel_rfl) (by kernel_rfl) (by kernel_rfl) (by kernel_rfl) (by kernel_rfl) (fun _ _ _ h => h) rfl (Or.inl ⟨by rfl, ?hb4⟩) (by assumption) ?rb4
          case hb4 => (intro w hSw; go_simp; with_reducible rfl)
          simp only [Act.put, List.setIfInBounds_toArray, List.set_cons_zero, List.set_cons_succ]
          refine wpAnyK_take 5 62 (v := ?vb5) rfl (by kernel_rfl) (by kernel_rfl) (by kernel_rfl) (by kernel_rfl) (by kernel_rfl) (fun _ _ _ h => h) rfl (Or.inl ⟨by rfl, ?hb5⟩) (by assumption) ?rb5
          case hb5 => (intro w hSw; go_simp; with_reducible rfl)
          simp only [Act.put, List.setIfInBounds_toArray, List.set_cons_zero, List.set_cons_succ]
          refine wpAnyK_take 6 63 (v := ?vb6) rfl (by kernel_rfl) (by kernel_rfl) (by kernel_rfl) (by kernel_rfl) (by kernel_rfl) (fun _ _ _ h => h) rfl (Or.inl ⟨by rfl, ?hb6⟩) (by assumption) ?rb6
          case hb6 => (intro w hSw; go_simp; with_reducible rfl)
          simp only [Act.put, List.setIfInBounds_toArray, List.set_cons_zero, List.set_cons_succ]
          refine wpAnyK_take 8 65 (v := ?vb8) rfl (by kernel_rfl) (by kernel_rfl) (by kernel_rfl) (by kernel_rfl) (by kernel_rfl) (fun _ _ _ h => h) rfl (Or.inl ⟨by rfl, ?hb8⟩) (by assumption) ?rb8
          case hb8 => (intro w hSw; go_simp; with_reducible rfl)
          simp only [Act.put, List.setIfInBounds_toArray, List.set_cons_zero, List.set_cons_succ]
          refine wpAnyK_take 9 66 (v := ?vb9) rfl (by kernel_rfl) (by kernel_rfl) (by kernel_rfl) (by kernel_rfl) (by kernel_rfl) (fun _ _ _ h => h) rfl (Or.inl ⟨by rfl, ?hb9⟩) (by assumption) ?rb9
          case hb9 => (intro w hSw; go_simp; with_reducible rfl)
          simp only [Act.put, List.setIfInBounds_toArray, List.set_cons_zero, List.set_cons_succ]
          refine wpAnyK_take 10 67 (v := ?vb10) rfl (by kernel_rfl) (by kernel_rfl) (by kernel_rfl) (by kernel_rfl) (by kernel_rfl) (fun _ _ _ h => h) rfl (Or.inl ⟨by rfl, ?hb10⟩) (by assumption) ?rb10
          case hb10 => (intro w hSw; go_simp; with_reducible rfl)
          simp only [Act.put, List.setIfInBounds_toArray, List.set_cons_zero, List.set_cons_succ]
          refine wpAnyK_take 11 68 (v := ?vb11) rfl (by kernel_rfl) (by kernel_rfl) (by kernel_rfl) (by kernel_rfl) (by kernel_rfl) (fun _ _ _ h => h) rfl (Or.inl ⟨by rfl, ?hb11⟩) (by assumption) ?rb11
          case hb11 => (intro w hSw; go_simp; with_reducible rfl)
          simp only [Act.put, List.setIfInBounds_toArray, List.set_cons_zero, List.set_cons_succ]
          refine wpAnyK_take 12 69 (v := ?vb12) rfl (by kernel_rfl) (by kernel_rfl) (by kernel_rfl) (by kernel_rfl) (by kernel_rfl) (fun _ _ _ h => h) rfl (Or.inl ⟨by rfl, ?hb12⟩) (by assumption) ?rb12
          case hb12 => (intro w hSw; go_simp; with_reducible rfl)
          simp only [Act.put, List.setIfInBounds_toArray, List.set_cons_zero, List.set_cons_succ]
          refine wpAnyK_one 7 (by kernel_rfl) rfl (fun K hK => ?_)
          go_simp
          go_wp2_with (go_at_call 19; refine (HW3.out _).mono ?_; rintro e' w7 ⟨rfl, hw7⟩; subst hw7)
          refine hK.out _ _ (fun _ _ => S0) ?_
          clear hK K
          simp only [List.setIfInBounds_toArray, List.set_cons_zero, List.set_cons_succ]
          refine wpAnyK_one 13 (by kernel_rfl) rfl (fun K hK => ?_)
          go_simp
          go_wp2_with (go_at_call 19; refine (HW4.out _).mono ?_; rintro e' w7 ⟨rfl, hw7⟩; subst hw7)
          refine hK.out _ _ (fun _ _ => S0) ?_
          clear hK K
          simp only [List.setIfInBounds_toArray, List.set_cons_zero, List.set_cons_succ]
          refine wpAnyK_take 14 71 (v := ?vb14) rfl (by kernel_rfl) (by kernel_rfl) (by kernel_rfl) (by kernel_rfl) (by kernel_rfl) (fun _ _ _ h => h) rfl (Or.inl ⟨by rfl, ?hb14⟩) (by assumption) ?rb14
          case hb14 => (intro w hSw; go_simp; with_reducible rfl)
          simp only [Act.put, List.setIfInBounds_toArray, List.set_cons_zero, List.set_cons_succ]
          refine wpAnyK_take 15 72 (v := ?vb15) rfl (by kernel_rfl) (by kernel_rfl) (by kernel_rfl) (by kernel_rfl) (by kernel_rfl) (fun _ _ _ h => h) rfl (Or.inl ⟨by rfl, ?hb15⟩) (by assumption) ?rb15
          case hb15 => (intro w hSw; go_simp; with_reducible rfl)
          simp only [Act.put, List.setIfInBounds_toArray, List.set_cons_zero, List.set_cons_succ]
          refine wpAnyK_one 16 (by kernel_rfl) rfl (fun K hK => ?_)
          go_simp
          rw [← hwN, ← hWS]
          refine hK.out _ _ (fun _ _ => S1) ?_
          clear hK K
          simp only [List.setIfInBounds_toArray, List.set_cons_zero, List.set_cons_succ]
          refine wpAnyK_one 17 (by kernel_rfl) rfl (fun K hK => ?_)
          rw [if_pos (by rfl)]
          refine wp_append_lies _ _ _ 37 (by rfl) B 42 i0 (.agg #[.complex .f64 0 0, .complex .f64 0 0]) 2 32 hu2 hi hz0 hz1 hz2 rfl (by decide) _ k vp (by rfl) HOP.out ⟨WS, 0, none⟩ 1 1 [.complex .f64 x y, .complex .f64 u v] (by rfl) rfl HCE.out ?c2 (by decide) ?c3 ?c4 ?c5 (WS + 1) ?c6 ?_
          case c2 => intro u hu; simp only [List.mem_cons, List.not_mem_nil, or_false] at hu; rcases hu with rfl | rfl <;> rfl
          case c3 => unfold maxLen; omega
          case c4 => omega
          case c5 => exact Nat.le_trans HB3.out (Nat.le_trans (Nat.le_succ _) (Nat.le_of_eq HSZ.out.symm))
          case c6 => exact HSZ.out
          intro g cp9 w9 hown' hgrow hat hlt
          refine hK.out _ _ (fun _ _ => ⟨hgrow.cell S1.1 ?d1, hgrow.cell S1.2 ?d1⟩) ?_
          case d1 => exact fun e => HNB.out e.symm
          clear hK K
          simp only [List.setIfInBounds_toArray, List.set_cons_zero, List.set_cons_succ]
          refine wpAnyK_one 18 (by kernel_rfl) rfl (fun K hK => ?_)
          go_simp
          refine hK.out _ _ (fun h => absurd rfl h) ?_
          clear hK K
          simp only [List.setIfInBounds_toArray, List.set_cons_zero, List.set_cons_succ]
          refine wpAnyK_done (by kernel_rfl) ?_ _
          have R : Hid (w9.ownsRow B 42 2 (.slice (some ⟨g, 0, none⟩) (k + 1) cp9) (k + 1) (vp ++ [.complex .f64 x y, .complex .f64 u v]) ∧ w9.ownsRow B 27 1 (.slice (some ⟨g3, 0, none⟩) (k + 1) cp3) (k + 1) (vz ++ [.complex .f64 x y]) ∧ Bw w w9 ∧ g3 ≠ g) := by
            refine ⟨hown', HOZ.out.kept hgrow (Or.inr fun e => HNE.out.2 g3 e.symm rfl), Below.grown HBA.out hgrow (Below.size HBA.out) HRW.out, fun e => ?_⟩
            rcases hat with h | h
            · exact HNE.out.2 g h e
            · have := HG3.out; omega
          have wg4 : IntKind.i64.wrap ((i : Int) + 4) = i + 4 := by rw [IntKind.wrap_i64]; omega
          clear hown' hgrow hat hlt S0 S1 HCE HSZ HOZ HOP HBA hWS hwN
          go_wp2
          go_roundw
          case rel =>
            refine ⟨k + 1, _, _, zs ++ [gz], rs ++ [gr], by omega, ?_, by have := HLN.out; simp; omega, HV.out.1.snoc QZ.out.1, HV.out.2.1.snoc QZ.out.1 QR.out.1, R.out.2.1, R.out.1, Or.inr fun e => R.out.2.2.2 (by simpa [Value.ownBlock] using e), e8_snoc HV.out.2.2.2.1 QZ.out.2, e8_snoc HV.out.2.2.2.2.1 QR.out.2, ne_snoc HV.out.2.2.2.2.2 (fun j hj => HN.out j (by have := HLN.out; omega)), R.out.2.2.1⟩
            have := HI0.out
            congr 1
            omega
          case measure => have := HI0.out; simp [intOf]; omega
    · by_cases hA : 4 * m + 3 < len1
      · have t1 : 4 * (m : Int) + 3 < len1 := by omega
        have t2 : ¬ (m : Int) < 3 := by omega
        clear hgo hA
        obtain ⟨az, cz, hzv, hZg⟩ := hVz.gl hl hoz
        obtain ⟨ap, cp, hpv, hPg⟩ := hVp.pl hl hop
        subst hzv hpv
        have HH := hide (And.intro hZg hPg)
        have HE := hide (And.intro hez (And.intro her hdd))
        have HLN := hide hl
        have HBW := hide hbw
        clear hVz hVp hoz hop hnb hez her hdd hbw hl hZg hPg HI hj hi hy0 hy1 hy2 hz0 hz1 hz2 hu1 hu2
        go_wp2_with fail
        refine (rof10 HC.out hm HH.out.2 (fun i => (HE.out.1 i).le) (fun i => (HE.out.2.1 i).le)).mono ?_
        rintro e w4 ⟨S, T, m', L, l2, rfl, ⟨b1, o1, c1, rfl, x1⟩, ⟨b2, o2, c2, rfl, x2⟩, mL, m2, n2, km, tL, t2, bb⟩
        obtain ⟨W5, eW⟩ : ∃ W, W = w4.alloc (.cells #[.slice (some ⟨b1, o1, none⟩) (m' + 1) c1, .slice (some ⟨b2, o2, none⟩) (m + 1) c2] 24) := ⟨_, rfl⟩
        have b5 : Bw w4 W5 := by rw [eW]; exact bw_alloc _ _
        have CP := hide (rpoles10 (c1 := c1) (c2 := c2) (cap := cz) HC.out hm mL m2 (x1.bw b5) (x2.bw b5) n2 km (HH.out.1.bw (bw_trans bb b5)) (fun i => (HE.out.1 i).le) HE.out.2.1 tL t2 (by have := HE.out.2.2; rw [HLN.out] at this; exact this))
        have HP := hide (HH.out.2.bw (bw_trans bb b5))
        replace HBW := hide (bw_trans HBW.out (bw_trans bb b5))
        clear mL m2 x1 x2 n2 km tL t2 bb b5 HH
        go_wp2_with fail
        rw [← eW]
        refine CP.out.mono ?_
        clear CP eW
        rintro e w6 ⟨Bq, rfl, hq, b6⟩
        have HQ := hide hq
        replace HP := hide (HP.out.bw b6)
        replace HBW := hide (bw_trans HBW.out b6)
        clear hq b6
        go_wp2_with fail
        go_loopw [13] (fun q wr' => ∃ k : Nat, k ≤ m ∧ q = .int .i64 (k : Int) ∧ Bw w6 wr') (fun q _ => m - (intOf q).toNat)
        case atStart => exact ⟨0, Nat.zero_le _, rfl, Bw.refl _⟩
        case round =>
          obtain ⟨k, hk, rfl, hb7⟩ := hrel
          by_cases hk1 : k < m
          · have hk2 : (k : Int) < m := by omega
            obtain ⟨g4, hap, hg4, hcell⟩ := HP.out.2.2.resolve_left (by omega)
            obtain ⟨x, y, u, v, e1, e2, q1, q2⟩ := hcell k hk1
            obtain ⟨x', y', u', v', e1', e2', q1', q2', q3'⟩ := HQ.out.2 k hk1
            subst hap
            have d1 := (Below.cell hb7 (p := ⟨g4, 2 * k, none⟩) hg4).trans e1
            have d2 := (Below.cell hb7 (p := ⟨g4, 2 * k + 1, none⟩) hg4).trans e2
            have d3 := (Below.cell hb7 (p := ⟨Bq, 2 * k, none⟩) HQ.out.1).trans e1'
            have d4 := (Below.cell hb7 (p := ⟨Bq, 2 * k + 1, none⟩) HQ.out.1).trans e2'
            obtain ⟨dr, di, l1, l2', SUB⟩ := cnear8 HC.out q2' q3' q2
            obtain ⟨ra, hra⟩ : ∃ n, n = Fl.rg dr := ⟨_, rfl⟩
            obtain ⟨rb, hrb⟩ : ∃ n, n = Fl.rg di := ⟨_, rfl⟩
            have AR : Hid (∀ wz, Calls Try.prog 27 #[.float .f64 dr] wz fun e w' => e = .returned (.float .f64 ra) ∧ w' = wz) := fun wz => by rw [hra]; exact abs_any dr wz l1.1
            have AS : Hid (∀ wz, Calls Try.prog 27 #[.float .f64 di] wz fun e w' => e = .returned (.float .f64 rb) ∧ w' = wz) := fun wz => by rw [hrb]; exact abs_any di wz l2'.1
            have oa := (Fl.o_le (Fl.rg dr) 4427038433705197568).trans l1.2
            have ob := (Fl.o_le (Fl.rg di) 4427038433705197568).trans l2'.2
            rw [← hra] at oa
            rw [← hrb] at ob
            clear hra hrb l1 l2'
            have NEQ : ∀ t w, (binOp .neq t (.complex .f64 x' y') (.complex .f64 x y)).run Try.prog w = .ok (.bool false) w := fun t w => by rw [cne10 q1' q1, decide_eq_true rfl]; rfl
            clear e1 e2 e1' e2' q1 q2 q1' q2' q3' hcell
            go_wp2_with fail
            rw [Nat.mul_comm 2 k] at d1 d2 d3 d4
            have S0 : wr.drew.cell? ⟨g4, k * 2, none⟩ = some (.complex .f64 x y) ∧ wr.drew.cell? ⟨g4, k * 2 + 1, none⟩ = some (.complex .f64 u v) ∧ wr.drew.cell? ⟨Bq, k * 2, none⟩ = some (.complex .f64 x' y') ∧ wr.drew.cell? ⟨Bq, k * 2 + 1, none⟩ = some (.complex .f64 u' v') := ⟨d1, d2, d3, d4⟩
            refine wp_region_K (fun w' => w'.cell? ⟨g4, k * 2, none⟩ = some (.complex .f64 x y) ∧ w'.cell? ⟨g4, k * 2 + 1, none⟩ = some (.complex .f64 u v) ∧ w'.cell? ⟨Bq, k * 2, none⟩ = some (.complex .f64 x' y') ∧ w'.cell? ⟨Bq, k * 2 + 1, none⟩ = some (.complex .f64 u' v')) 11 12 #[false, false, false, false, false, false, false, false, false, false, false, false] (by kernel_rfl) (by kernel_rfl) (by kernel_rfl) ?_
            refine wpAnyK_take 0 103 (v := ?ve0) rfl (by kernel_rfl) (by kernel_rfl) (by kernel_rfl) (by kernel_rfl) (by kernel_rfl) (fun _ _ _ h => h) rfl (Or.inl ⟨by rfl, ?he0⟩) (by assumption) ?re0
            case he0 => (intro w hSw; go_simp; with_reducible rfl)
            simp only [Act.put, List.setIfInBounds_toArray, List.set_cons_zero, List.set_cons_succ]
            refine wpAnyK_take 1 104 (v := ?ve1) rfl (by kernel_rfl) (by kernel_rfl) (by kernel_rfl) (by kernel_rfl) (by kernel_rfl) (fun _ _ _ h => h) rfl (Or.inl ⟨by rfl, ?he1⟩) (by assumption) ?re1
            case he1 => (intro w hSw; go_simp; with_reducible rfl)
            simp only [Act.put, List.setIfInBounds_toArray, List.set_cons_zero, List.set_cons_succ]
            refine wpAnyK_take 2 105 (v := ?ve2) rfl (by kernel_rfl) (by kernel_rfl) (by kernel_rfl) (by kernel_rfl) (by kernel_rfl) (fun _ _ _ h => h) rfl (Or.inl ⟨by rfl, ?he2⟩) (by assumption) ?re2
            case he2 => (intro w hSw; go_simp; with_reducible rfl)
            simp only [Act.put, List.setIfInBounds_toArray, List.set_cons_zero, List.set_cons_succ]
            refine wpAnyK_take 3 106 (v := ?ve3) rfl (by kernel_rfl) (by kernel_rfl) (by kernel_rfl) (by kernel_rfl) (by kernel_rfl) (fun _ _ _ h => h) rfl (Or.inl ⟨by rfl, ?he3⟩) (by assumption) ?re3
            case he3 => (intro w hSw; go_simp; with_reducible rfl)
            simp only [Act.put, List.setIfInBounds_toArray, List.set_cons_zero, List.set_cons_succ]
            refine wpAnyK_take 4 107 (v := ?ve4) rfl (by kernel_rfl) (by kernel_rfl) (by kernel_rfl) (by kernel_rfl) (by kernel_rfl) (fun _ _ _ h => h) rfl (Or.inl ⟨by rfl, ?he4⟩) (by assumption) ?re4
            case he4 => (intro w hSw; go_simp; with_reducible rfl)
            simp only [Act.put, List.setIfInBounds_toArray, List.set_cons_zero, List.set_cons_succ]
            refine wpAnyK_take 5 108 (v := ?ve5) rfl (by kernel_rfl) (by kernel_rfl) (by kernel_rfl) (by kernel_rfl) (by kernel_rfl) (fun _ _ _ h => h) rfl (Or.inl ⟨by rfl, ?he5⟩) (by assumption) ?re5
            case he5 => (intro w hSw; go_simp; with_reducible rfl)
            simp only [Act.put, List.setIfInBounds_toArray, List.set_cons_zero, List.set_cons_succ]
            refine wpAnyK_take 6 109 (v := ?ve6) rfl (by kernel_rfl) (by kernel_rfl) (by kernel_rfl) (by kernel_rfl) (by kernel_rfl) (fun _ _ _ h => h) rfl (Or.inl ⟨by rfl, ?he6⟩) (by assumption) ?re6
            case he6 => (intro w hSw; go_simp; with_reducible rfl)
            simp only [Act.put, List.setIfInBounds_toArray, List.set_cons_zero, List.set_cons_succ]
            refine wpAnyK_take 7 110 (v := ?ve7) rfl (by kernel_rfl) (by kernel_rfl) (by kernel_rfl) (by kernel_rfl) (by kernel_rfl) (fun _ _ _ h => h) rfl (Or.inl ⟨by rfl, ?he7⟩) (by assumption) ?re7
            case he7 => (intro w hSw; go_simp; with_reducible rfl)
            simp only [Act.put, List.setIfInBounds_toArray, List.set_cons_zero, List.set_cons_succ]
            refine wpAnyK_take 8 111 (v := ?ve8) rfl (by kernel_rfl) (by kernel_rfl) (by kernel_rfl) (by kernel_rfl) (by kernel_rfl) (fun _ _ _ h => h) rfl (Or.inl ⟨by rfl, ?he8⟩) (by assumption) ?re8
            case he8 => (intro w hSw; go_simp; with_reducible rfl)
            simp only [Act.put, List.setIfInBounds_toArray, List.set_cons_zero, List.set_cons_succ]
            refine wpAnyK_take 9 112 (v := ?ve9) rfl (by kernel_rfl) (by kernel_rfl) (by kernel_rfl) (by kernel_rfl) (by kernel_rfl) (fun _ _ _ h => h) rfl (Or.inl ⟨by rfl, ?he9⟩) (by assumption) ?re9
            case he9 => (intro w hSw; go_simp; with_reducible rfl)
            simp only [Act.put, List.setIfInBounds_toArray, List.set_cons_zero, List.set_cons_succ]
            refine wpAnyK_take 10 113 (v := ?ve10) rfl (by kernel_rfl) (by kernel_rfl) (by kernel_rfl) (by kernel_rfl) (by kernel_rfl) (fun _ _ _ h => h) rfl (Or.inl ⟨by rfl, ?he10⟩) (by assumption) ?re10
            case he10 => (intro w hSw; go_simp; with_reducible rfl)
            simp only [Act.put, List.setIfInBounds_toArray, List.set_cons_zero, List.set_cons_succ]
            refine wpAnyK_one 11 (by kernel_rfl) rfl (fun K hK => ?_)
            go_simp
            refine hK.out _ _ (fun h => absurd rfl h) ?_
            clear hK K
            simp only [List.setIfInBounds_toArray, List.set_cons_zero, List.set_cons_succ]
            refine wpAnyK_done (by kernel_rfl) ?_ _
            replace hb7 := hb7.drew
            obtain ⟨d1, d2, d3, d4⟩ := S0
            generalize wr.drew = wr at *
            go_wp2_with fail
            have S0 : wr.drew.cell? ⟨g4, k * 2, none⟩ = some (.complex .f64 x y) ∧ wr.drew.cell? ⟨g4, k * 2 + 1, none⟩ = some (.complex .f64 u v) ∧ wr.drew.cell? ⟨Bq, k * 2, none⟩ = some (.complex .f64 x' y') ∧ wr.drew.cell? ⟨Bq, k * 2 + 1, none⟩ = some (.complex .f64 u' v') := ⟨d1, d2, d3, d4⟩
            refine wp_region_K (fun w' => w'.cell? ⟨g4, k * 2, none⟩ = some (.complex .f64 x y) ∧ w'.cell? ⟨g4, k * 2 + 1, none⟩ = some (.complex .f64 u v) ∧ w'.cell? ⟨Bq, k * 2, none⟩ = some (.complex .f64 x' y') ∧ w'.cell? ⟨Bq, k * 2 + 1, none⟩ = some (.complex .f64 u' v')) 24 25 #[false, false, false, false, false, false, false, false, false, false, false, false, false, false, false, false, false, false, false, false, false, false, false, false, false] (by kernel_rfl) (by kernel_rfl) (by kernel_rfl) ?_
            refine wpAnyK_take 0 114 (v := ?vez0) rfl (by kernel_rfl) (by kernel_rfl) (by kernel_rfl) (by kernel_rfl) (by kernel_rfl) (fun _ _ _ h => h) rfl (Or.inl ⟨by rfl, ?hez0⟩) (by assumption) ?rez0
            case hez0 => (intro w hSw; go_simp; with_reducible rfl)
            simp only [Act.put, List.setIfInBounds_toArray, List.set_cons_zero, List.set_cons_succ]
            refine wpAnyK_take 1 115 (v := ?vez1) rfl (by kernel_rfl) (by kernel_rfl) (by kernel_rfl) (by kernel_rfl) (by kernel_rfl) (fun _ _ _ h => h) rfl (Or.inl ⟨by rfl, ?hez1⟩) (by assumption) ?rez1
            case hez1 => (intro w hSw; go_simp; with_reducible rfl)
            simp only [Act.put, List.setIfInBounds_toArray, List.set_cons_zero, List.set_cons_succ]
            refine wpAnyK_take 2 116 (v := ?vez2) rfl (by kernel_rfl) (by kernel_rfl) (by kernel_rfl) (by kernel_rfl) (by kernel_rfl) (fun _ _ _ h => h) rfl (Or.inl ⟨by rfl, ?hez2⟩) (by assumption) ?rez2
            case hez2 => (intro w hSw; go_simp; with_reducible rfl)
            simp only [Act.put, List.setIfInBounds_toArray, List.set_cons_zero, List.set_cons_succ]
            refine wpAnyK_take 3 117 (v := ?vez3) rfl (by kernel_rfl) (by kernel_rfl) (by kernel_rfl) (by kernel_rfl) (by kernel_rfl) (fun _ _ _ h => h) rfl (Or.inl ⟨by rfl, ?hez3⟩) (by assumption) ?rez3
            case hez3 => (intro w hSw; go_simp; with_reducible rfl)
            simp only [Act.put, List.setIfInBounds_toArray, List.set_cons_zero, List.set_cons_succ]
            refine wpAnyK_take 4 118 (v := ?vez4) rfl (by kernel_rfl) (by kernel_rfl) (by kernel_rfl) (by kernel_rfl) (by kernel_rfl) (fun _ _ _ h => h) rfl (Or.inl ⟨by rfl, ?hez4⟩) (by assumption) ?rez4
            case hez4 => (intro w hSw; go_simp; with_reducible rfl)
            simp only [Act.put, List.setIfInBounds_toArray, List.set_cons_zero, List.set_cons_succ]
            refine wpAnyK_take 5 119 (v := ?vez5) rfl (by kernel_rfl) (by kernel_rfl) (by kernel_rfl) (by kernel_rfl) (by kernel_rfl) (fun _ _ _ h => h) rfl (Or.inl ⟨by rfl, ?hez5⟩) (by assumption) ?rez5
            case hez5 => (intro w hSw; go_simp; with_reducible rfl)
            simp only [Act.put, List.setIfInBounds_toArray, List.set_cons_zero, List.set_cons_succ]
            refine wpAnyK_take 6 120 (v := ?vez6) rfl (by kernel_rfl) (by kernel_rfl) (by kernel_rfl) (by kernel_rfl) (by kernel_rfl) (fun _ _ _ h => h) rfl (Or.inl ⟨by rfl, ?hez6⟩) (by assumption) ?rez6
            case hez6 => (intro w hSw; go_simp; with_reducible rfl)
            simp only [Act.put, List.setIfInBounds_toArray, List.set_cons_zero, List.set_cons_succ]
            refine wpAnyK_take 7 121 (v := ?vez7) rfl (by kernel_rfl) (by kernel_rfl) (by kernel_rfl) (by kernel_rfl) (by kernel_rfl) (fun _ _ _ h => h) rfl (Or.inl ⟨by rfl, ?hez7⟩) (by assumption) ?rez7
            case hez7 => (intro w hSw; go_simp; with_reducible rfl)
            simp only [Act.put, List.setIfInBounds_toArray, List.set_cons_zero, List.set_cons_succ]
            refine wpAnyK_take 8 122 (v := ?vez8) rfl (by kernel_rfl) (by kernel_rfl) (by kernel_rfl) (by kernel_rfl) (by kernel_rfl) (fun _ _ _ h => h) rfl (Or.inl ⟨by rfl, ?hez8⟩) (by assumption) ?rez8
            case hez8 => (intro w hSw; go_simp; with_reducible rfl)
            simp only [Act.put, List.setIfInBounds_toArray, List.set_cons_zero, List.set_cons_succ]
            refine wpAnyK_take 9 123 (v := ?vez9) rfl (by kernel_rfl) (by kernel_rfl) (by kernel_rfl) (by kernel_rfl) (by kernel_rfl) (fun _ _ _ h => h) rfl (Or.inl ⟨by rfl, ?hez9⟩) (by assumption) ?rez9
            case hez9 => (intro w hSw; go_simp; with_reducible rfl)
            simp only [Act.put, List.setIfInBounds_toArray, List.set_cons_zero, List.set_cons_succ]
            refine wpAnyK_take 10 124 (v := ?vez10) rfl (by kernel_rfl) (by kernel_rfl) (by kernel_rfl) (by kernel_rfl) (by kernel_rfl) (fun _ _ _ h => h) rfl (Or.inl ⟨by rfl, ?hez10⟩) (by assumption) ?rez10
            case hez10 => (intro w hSw; go_simp; with_reducible rfl)
            simp only [Act.put, List.setIfInBounds_toArray, List.set_cons_zero, List.set_cons_succ]
            refine wpAnyK_take 11 125 (v := ?vez11) rfl (by kernel_rfl) (by kernel_rfl) (by kernel_rfl) (by kernel_rfl) (by kernel_rfl) (fun _ _ _ h => h) rfl (Or.inl ⟨by rfl, ?hez11⟩) (by assumption) ?rez11
            case hez11 => (intro w hSw; go_simp; with_reducible rfl)
            simp only [Act.put, List.setIfInBounds_toArray, List.set_cons_zero, List.set_cons_succ]
            refine wpAnyK_take 12 126 (v := ?vez12) rfl (by kernel_rfl) (by kernel_rfl) (by kernel_rfl) (by kernel_rfl) (by kernel_rfl) (fun _ _ _ h => h) rfl (Or.inl ⟨by rfl, ?hez12⟩) (by assumption) ?rez12
            case hez12 => (intro w hSw; go_simp; with_reducible rfl)
            simp only [Act.put, List.setIfInBounds_toArray, List.set_cons_zero, List.set_cons_succ]
            refine wpAnyK_take 13 127 (v := ?vez13) rfl (by kernel_rfl) (by kernel_rfl) (by kernel_rfl) (by kernel_rfl) (by kernel_rfl) (fun _ _ _ h => h) rfl (Or.inl ⟨by rfl, ?hez13⟩) (by assumption) ?rez13
            case hez13 => (intro w hSw; go_simp; with_reducible rfl)
            simp only [Act.put, List.setIfInBounds_toArray, List.set_cons_zero, List.set_cons_succ]
            refine wpAnyK_one 14 (by kernel_rfl) rfl (fun K hK => ?_)
            go_simp
            go_wp2_with (go_at_call 27; refine (AR.out _).mono ?_; rintro e' w8 ⟨rfl, hw8⟩; subst hw8)
            refine hK.out _ _ (fun _ _ => S0) ?_
            clear hK K
            simp only [List.setIfInBounds_toArray, List.set_cons_zero, List.set_cons_succ]
            refine wpAnyK_take 15 129 (v := ?vez15) rfl (by kernel_rfl) (by kernel_rfl) (by kernel_rfl) (by kernel_rfl) (by kernel_rfl) (fun _ _ _ h => h) rfl (Or.inl ⟨by rfl, ?hez15⟩) (by assumption) ?rez15
            case hez15 => (intro w hSw; go_simp; with_reducible rfl)
            simp only [Act.put, List.setIfInBounds_toArray, List.set_cons_zero, List.set_cons_succ]
            refine wpAnyK_take 16 130 (v := ?vez16) rfl (by kernel_rfl) (by kernel_rfl) (by kernel_rfl) (by kernel_rfl) (by kernel_rfl) (fun _ _ _ h => h) rfl (Or.inl ⟨by rfl, ?hez16⟩) (by assumption) ?rez16
            case hez16 => (intro w hSw; go_simp; with_reducible rfl)
            simp only [Act.put, List.setIfInBounds_toArray, List.set_cons_zero, List.set_cons_succ]
            refine wpAnyK_take 17 131 (v := ?vez17) rfl (by kernel_rfl) (by kernel_rfl) (by kernel_rfl) (by kernel_rfl) (by kernel_rfl) (fun _ _ _ h => h) rfl (Or.inl ⟨by rfl, ?hez17⟩) (by assumption) ?rez17
            case hez17 => (intro w hSw; go_simp; with_reducible rfl)
            simp only [Act.put, List.setIfInBounds_toArray, List.set_cons_zero, List.set_cons_succ]
            refine wpAnyK_take 18 132 (v := ?vez18) rfl (by kernel_rfl) (by kernel_rfl) (by kernel_rfl) (by kernel_rfl) (by kernel_rfl) (fun _ _ _ h => h) rfl (Or.inl ⟨by rfl, ?hez18⟩) (by assumption) ?rez18
            case hez18 => (intro w hSw; go_simp; with_reducible rfl)
            simp only [Act.put, List.setIfInBounds_toArray, List.set_cons_zero, List.set_cons_succ]
            refine wpAnyK_take 19 133 (v := ?vez19) rfl (by kernel_rfl) (by kernel_rfl) (by kernel_rfl) (by kernel_rfl) (by kernel_rfl) (fun _ _ _ h => h) rfl (Or.inl ⟨by rfl, ?hez19⟩) (by assumption) ?rez19
            case hez19 => (intro w hSw; go_simp; with_reducible rfl)
            simp only [Act.put, List.setIfInBounds_toArray, List.set_cons_zero, List.set_cons_succ]
            refine wpAnyK_take 20 134 (v := ?vez20) rfl (by kernel_rfl) (by kernel_rfl) (by kernel_rfl) (by kernel_rfl) (by kernel_rfl) (fun _ _ _ h => h) rfl (Or.inl ⟨by rfl, ?hez20⟩) (by assumption) ?rez20
            case hez20 => (intro w hSw; go_simp; with_reducible rfl)
            simp only [Act.put, List.setIfInBounds_toArray, List.set_cons_zero, List.set_cons_succ]
            refine wpAnyK_one 21 (by kernel_rfl) rfl (fun K hK => ?_)
            go_simp
            go_wp2_with (go_at_call 27; refine (AS.out _).mono ?_; rintro e' w8 ⟨rfl, hw8⟩; subst hw8)
            refine hK.out _ _ (fun _ _ => S0) ?_
            clear hK K
            simp only [List.setIfInBounds_toArray, List.set_cons_zero, List.set_cons_succ]
            refine wpAnyK_take 22 136 (v := ?vez22) rfl (by kernel_rfl) (by kernel_rfl) (by kernel_rfl) (by kernel_rfl) (by kernel_rfl) (fun _ _ _ h => h) rfl (Or.inl ⟨by rfl, ?hez22⟩) (by assumption) ?rez22
            case hez22 => (intro w hSw; go_simp; with_reducible rfl)
            simp only [Act.put, List.setIfInBounds_toArray, List.set_cons_zero, List.set_cons_succ]
            refine wpAnyK_take 23 137 (v := ?vez23) rfl (by kernel_rfl) (by kernel_rfl) (by kernel_rfl) (by kernel_rfl) (by kernel_rfl) (fun _ _ _ h => h) rfl (Or.inl ⟨by rfl, ?hez23⟩) (by assumption) ?rez23
            case hez23 => (intro w hSw; go_simp; with_reducible rfl)
            simp only [Act.put, List.setIfInBounds_toArray, List.set_cons_zero, List.set_cons_succ]
            refine wpAnyK_one 24 (by kernel_rfl) rfl (fun K hK => ?_)
            go_simp
            refine hK.out _ _ (fun h => absurd rfl h) ?_
            clear hK K
            simp only [List.setIfInBounds_toArray, List.set_cons_zero, List.set_cons_succ]
            refine wpAnyK_done (by kernel_rfl) ?_ _
            replace hb7 := hb7.drew
            clear S0 d1 d2 d3 d4 SUB NEQ AR AS oa ob
            have wk : IntKind.i64.wrap ((k : Int) + 1) = k + 1 := by rw [IntKind.wrap_i64]; omega
            generalize wr.drew = wr at *
            go_wp2
            go_roundw
            case rel => exact ⟨k + 1, by omega, by first | rfl | (congr 1), hb7⟩
            case measure => simp [intOf]; omega
          · have hk3 : k = m := by omega
            subst hk3
            go_wp2
            go_ret
            exact ⟨rfl, bw_trans HBW.out hb7⟩
      · have t1 : ¬ 4 * (m : Int) + 3 < len1 := by omega
        clear hgo hA
        obtain ⟨az, cz, hzv, hZg⟩ := hVz.gl hl hoz
        obtain ⟨ap, cp, hpv, hPg⟩ := hVp.pl hl hop
        subst hzv hpv
        have HH := hide (And.intro hZg hPg)
        have HE := hide (And.intro hez (And.intro her hdd))
        have HLN := hide hl
        have HBW := hide hbw
        clear hVz hVp hoz hop hnb hez her hdd hbw hl hZg hPg HI hj hi hy0 hy1 hy2 hz0 hz1 hz2 hu1 hu2
        go_wp2_with fail
        refine (rof10 HC.out hm HH.out.2 (fun i => (HE.out.1 i).le) (fun i => (HE.out.2.1 i).le)).mono ?_
        rintro e w4 ⟨S, T, m', L, l2, rfl, ⟨b1, o1, c1, rfl, x1⟩, ⟨b2, o2, c2, rfl, x2⟩, mL, m2, n2, km, tL, t2, bb⟩
        obtain ⟨W5, eW⟩ : ∃ W, W = w4.alloc (.cells #[.slice (some ⟨b1, o1, none⟩) (m' + 1) c1, .slice (some ⟨b2, o2, none⟩) (m + 1) c2] 24) := ⟨_, rfl⟩
        have b5 : Bw w4 W5 := by rw [eW]; exact bw_alloc _ _
        have CP := hide (rpoles10 (c1 := c1) (c2 := c2) (cap := cz) HC.out hm mL m2 (x1.bw b5) (x2.bw b5) n2 km (HH.out.1.bw (bw_trans bb b5)) (fun i => (HE.out.1 i).le) HE.out.2.1 tL t2 (by have := HE.out.2.2; rw [HLN.out] at this; exact this))
        have HP := hide (HH.out.2.bw (bw_trans bb b5))
        replace HBW := hide (bw_trans HBW.out (bw_trans bb b5))
        clear mL m2 x1 x2 n2 km tL t2 bb b5 HH
        go_wp2_with fail
        rw [← eW]
        refine CP.out.mono ?_
        clear CP eW
        rintro e w6 ⟨Bq, rfl, hq, b6⟩
        have HQ := hide hq
        replace HP := hide (HP.out.bw b6)
        replace HBW := hide (bw_trans HBW.out b6)
        clear hq b6
        go_wp2_with fail
        go_loopw [13] (fun q wr' => ∃ k : Nat, k ≤ m ∧ q = .int .i64 (k : Int) ∧ Bw w6 wr') (fun q _ => m - (intOf q).toNat)
        case atStart => exact ⟨0, Nat.zero_le _, rfl, Bw.refl _⟩
        case round =>
          obtain ⟨k, hk, rfl, hb7⟩ := hrel
          by_cases hk1 : k < m
          · have hk2 : (k : Int) < m := by omega
            obtain ⟨g4, hap, hg4, hcell⟩ := HP.out.2.2.resolve_left (by omega)
            obtain ⟨x, y, u, v, e1, e2, q1, q2⟩ := hcell k hk1
            obtain ⟨x', y', u', v', e1', e2', q1', q2', q3'⟩ := HQ.out.2 k hk1
            subst hap
            have d1 := (Below.cell hb7 (p := ⟨g4, 2 * k, none⟩) hg4).trans e1
            have d2 := (Below.cell hb7 (p := ⟨g4, 2 * k + 1, none⟩) hg4).trans e2
            have d3 := (Below.cell hb7 (p := ⟨Bq, 2 * k, none⟩) HQ.out.1).trans e1'
            have d4 := (Below.cell hb7 (p := ⟨Bq, 2 * k + 1, none⟩) HQ.out.1).trans e2'
            obtain ⟨dr, di, l1, l2', SUB⟩ := cnear8 HC.out q2' q3' q2
            obtain ⟨ra, hra⟩ : ∃ n, n = Fl.rg dr := ⟨_, rfl⟩
            obtain ⟨rb, hrb⟩ : ∃ n, n = Fl.rg di := ⟨_, rfl⟩
            have AR : Hid (∀ wz, Calls Try.prog 27 #[.float .f64 dr] wz fun e w' => e = .returned (.float .f64 ra) ∧ w' = wz) := fun wz => by rw [hra]; exact abs_any dr wz l1.1
            have AS : Hid (∀ wz, Calls Try.prog 27 #[.float .f64 di] wz fun e w' => e = .returned (.float .f64 rb) ∧ w' = wz) := fun wz => by rw [hrb]; exact abs_any di wz l2'.1
            have oa := (Fl.o_le (Fl.rg dr) 4427038433705197568).trans l1.2
            have ob := (Fl.o_le (Fl.rg di) 4427038433705197568).trans l2'.2
            rw [← hra] at oa
            rw [← hrb] at ob
            clear hra hrb l1 l2'
            have NEQ : ∀ t w, (binOp .neq t (.complex .f64 x' y') (.complex .f64 x y)).run Try.prog w = .ok (.bool false) w := fun t w => by rw [cne10 q1' q1, decide_eq_true rfl]; rfl
            clear e1 e2 e1' e2' q1 q2 q1' q2' q3' hcell
            go_wp2_with fail
            rw [Nat.mul_comm 2 k] at d1 d2 d3 d4
            have S0 : wr.drew.cell? ⟨g4, k * 2, none⟩ = some (.complex .f64 x y) ∧ wr.drew.cell? ⟨g4, k * 2 + 1, none⟩ = some (.complex .f64 u v) ∧ wr.drew.cell? ⟨Bq, k * 2, none⟩ = some (.complex .f64 x' y') ∧ wr.drew.cell? ⟨Bq, k * 2 + 1, none⟩ = some (.complex .f64 u' v') := ⟨d1, d2, d3, d4⟩
            refine wp_region_K (fun w' => w'.cell? ⟨g4, k * 2, none⟩ = some (.complex .f64 x y) ∧ w'.cell? ⟨g4, k * 2 + 1, none⟩ = some (.complex .f64 u v) ∧ w'.cell? ⟨Bq, k * 2, none⟩ = some (.complex .f64 x' y') ∧ w'.cell? ⟨Bq, k * 2 + 1, none⟩ = some (.complex .f64 u' v')) 11 12 #[false, false, false, false, false, false, false, false, false, false, false, false] (by kernel_rfl) (by kernel_rfl) (by kernel_rfl) ?_
            refine wpAnyK_take 0 103 (v := ?vc0) rfl (by kernel_rfl) (by kernel_rfl) (by kernel_rfl) (by kernel_rfl) (by kernel_rfl) (fun _ _ _ h => h) rfl (Or.inl ⟨by rfl, ?hc0⟩) (by assumption) ?rc0
            case hc0 => (intro w hSw; go_simp; with_reducible rfl)
            simp only [Act.put, List.setIfInBounds_toArray, List.set_cons_zero, List.set_cons_succ]
            refine wpAnyK_take 1 104 (v := ?vc1) rfl (by kernel_rfl) (by kernel_rfl) (by kernel_rfl) (by kernel_rfl) (by kernel_rfl) (fun _ _ _ h => h) rfl (Or.inl ⟨by rfl, ?hc1⟩) (by assumption) ?rc1
            case hc1 => (intro w hSw; go_simp; with_reducible rfl)
            simp only [Act.put, List.setIfInBounds_toArray, List.set_cons_zero, List.set_cons_succ]
            refine wpAnyK_take 2 105 (v := ?vc2) rfl (by kernel_rfl) (by kernel_rfl) (by kernel_rfl) (by kernel_rfl) (by kernel_rfl) (fun _ _ _ h => h) rfl (Or.inl ⟨by rfl, ?hc2⟩) (by assumption) ?rc2
            case hc2 => (intro w hSw; go_simp; with_reducible rfl)
            simp only [Act.put, List.setIfInBounds_toArray, List.set_cons_zero, List.set_cons_succ]
            refine wpAnyK_take 3 106 (v := ?vc3) rfl (by kernel_rfl) (by kernel_rfl) (by kernel_rfl) (by kernel_rfl) (by kernel_rfl) (fun _ _ _ h => h) rfl (Or.inl ⟨by rfl, ?hc3⟩) (by assumption) ?rc3
            case hc3 => (intro w hSw; go_simp; with_reducible rfl)
            simp only [Act.put, List.setIfInBounds_toArray, List.set_cons_zero, List.set_cons_succ]
            refine wpAnyK_take 4 107 (v := ?vc4) rfl (by kernel_rfl) (by kernel_rfl) (by kernel_rfl) (by kernel_rfl) (by kernel_rfl) (fun _ _ _ h => h) rfl (Or.inl ⟨by rfl, ?hc4⟩) (by assumption) ?rc4
            case hc4 => (intro w hSw; go_simp; with_reducible rfl)
            simp only [Act.put, List.setIfInBounds_toArray, List.set_cons_zero, List.set_cons_succ]
            refine wpAnyK_take 5 108 (v := ?vc5) rfl (by kernel_rfl) (by kernel_rfl) (by kernel_rfl) (by kernel_rfl) (by kernel_rfl) (fun _ _ _ h => h) rfl (Or.inl ⟨by rfl, ?hc5⟩) (by assumption) ?rc5
            case hc5 => (intro w hSw; go_simp; with_reducible rfl)
            simp only [Act.put, List.setIfInBounds_toArray, List.set_cons_zero, List.set_cons_succ]
            refine wpAnyK_take 6 109 (v := ?vc6) rfl (by kernel_rfl) (by kernel_rfl) (by kernel_rfl) (by kernel_rfl) (by kernel_rfl) (fun _ _ _ h => h) rfl (Or.inl ⟨by rfl, ?hc6⟩) (by assumption) ?rc6
            case hc6 => (intro w hSw; go_simp; with_reducible rfl)
            simp only [Act.put, List.setIfInBounds_toArray, List.set_cons_zero, List.set_cons_succ]
            refine wpAnyK_take 7 110 (v := ?vc7) rfl (by kernel_rfl) (by kernel_rfl) (by kernel_rfl) (by kernel_rfl) (by kernel_rfl) (fun _ _ _ h => h) rfl (Or.inl ⟨by rfl, ?hc7⟩) (by assumption) ?rc7
            case hc7 => (intro w hSw; go_simp; with_reducible rfl)
            simp only [Act.put, List.setIfInBounds_toArray, List.set_cons_zero, List.set_cons_succ]
            refine wpAnyK_take 8 111 (v := ?vc8) rfl (by kernel_rfl) (by kernel_rfl) (by kernel_rfl) (by kernel_rfl) (by kernel_rfl) (fun _ _ _ h => h) rfl (Or.inl ⟨by rfl, ?hc8⟩) (by assumption) ?rc8
            case hc8 => (intro w hSw; go_simp; with_reducible rfl)
            simp only [Act.put, List.setIfInBounds_toArray, List.set_cons_zero, List.set_cons_succ]
            refine wpAnyK_take 9 112 (v := ?vc9) rfl (by kernel_rfl) (by kernel_rfl) (by kernel_rfl) (by kernel_rfl) (by kernel_rfl) (fun _ _ _ h => h) rfl (Or.inl ⟨by rfl, ?hc9⟩) (by assumption) ?rc9
            case hc9 => (intro w hSw; go_simp; with_reducible rfl)
            simp only [Act.put, List.setIfInBounds_toArray, List.set_cons_zero, List.set_cons_succ]
            refine wpAnyK_take 10 113 (v := ?vc10) rfl (by kernel_rfl) (by kernel_rfl) (by kernel_rfl) (by kernel_rfl) (by kernel_rfl) (fun _ _ _ h => h) rfl (Or.inl ⟨by rfl, ?hc10⟩) (by assumption) ?rc10
            case hc10 => (intro w hSw; go_simp; with_reducible rfl)
            simp only [Act.put, List.setIfInBounds_toArray, List.set_cons_zero, List.set_cons_succ]
            refine wpAnyK_one 11 (by kernel_rfl) rfl (fun K hK => ?_)
            go_simp
            refine hK.out _ _ (fun h => absurd rfl h) ?_
            clear hK K
            simp only [List.setIfInBounds_toArray, List.set_cons_zero, List.set_cons_succ]
            refine wpAnyK_done (by kernel_rfl) ?_ _
            replace hb7 := hb7.drew
            obtain ⟨d1, d2, d3, d4⟩ := S0
            generalize wr.drew = wr at *
            go_wp2_with fail
            have S0 : wr.drew.cell? ⟨g4, k * 2, none⟩ = some (.complex .f64 x y) ∧ wr.drew.cell? ⟨g4, k * 2 + 1, none⟩ = some (.complex .f64 u v) ∧ wr.drew.cell? ⟨Bq, k * 2, none⟩ = some (.complex .f64 x' y') ∧ wr.drew.cell? ⟨Bq, k * 2 + 1, none⟩ = some (.complex .f64 u' v') := ⟨d1, d2, d3, d4⟩
            refine wp_region_K (fun w' => w'.cell? ⟨g4, k * 2, none⟩ = some (.complex .f64 x y) ∧ w'.cell? ⟨g4, k * 2 + 1, none⟩ = some (.complex .f64 u v) ∧ w'.cell? ⟨Bq, k * 2, none⟩ = some (.complex .f64 x' y') ∧ w'.cell? ⟨Bq, k * 2 + 1, none⟩ = some (.complex .f64 u' v')) 24 25 #[false, false, false, false, false, false, false, false, false, false, false, false, false, false, false, false, false, false, false, false, false, false, false, false, false] (by kernel_rfl) (by kernel_rfl) (by kernel_rfl) ?_
            refine wpAnyK_take 0 114 (v := ?vcz0) rfl (by kernel_rfl) (by kernel_rfl) (by kernel_rfl) (by kernel_rfl) (by kernel_rfl) (fun _ _ _ h => h) rfl (Or.inl ⟨by rfl, ?hcz0⟩) (by assumption) ?rcz0
            case hcz0 => (intro w hSw; go_simp; with_reducible rfl)
            simp only [Act.put, List.setIfInBounds_toArray, List.set_cons_zero, List.set_cons_succ]
            refine wpAnyK_take 1 115 (v := ?vcz1) rfl (by kernel_rfl) (by kernel_rfl) (by kernel_rfl) (by kernel_rfl) (by kernel_rfl) (fun _ _ _ h => h) rfl (Or.inl ⟨by rfl, ?hcz1⟩) (by assumption) ?rcz1
            case hcz1 => (intro w hSw; go_simp; with_reducible rfl)
            simp only [Act.put, List.setIfInBounds_toArray, List.set_cons_zero, List.set_cons_succ]
            refine wpAnyK_take 2 116 (v := ?vcz2) rfl (by kernel_rfl) (by kernel_rfl) (by kernel_rfl) (by kernel_rfl) (by kernel_rfl) (fun _ _ _ h => h) rfl (Or.inl ⟨by rfl, ?hcz2⟩) (by assumption) ?rcz2
            case hcz2 => (intro w hSw; go_simp; with_reducible rfl)
            simp only [Act.put, List.setIfInBounds_toArray, List.set_cons_zero, List.set_cons_succ]
            refine wpAnyK_take 3 117 (v := ?vcz3) rfl (by kernel_rfl) (by kernel_rfl) (by kernel_rfl) (by kernel_rfl) (by kernel_rfl) (fun _ _ _ h => h) rfl (Or.inl ⟨by rfl, ?hcz3⟩) (by assumption) ?rcz3
            case hcz3 => (intro w hSw; go_simp; with_reducible rfl)
            simp only [Act.put, List.setIfInBounds_toArray, List.set_cons_zero, List.set_cons_succ]
            refine wpAnyK_take 4 118 (v := ?vcz4) rfl (by kernel_rfl) (by kernel_rfl) (by kernel_rfl) (by kernel_rfl) (by kernel_rfl) (fun _ _ _ h => h) rfl (Or.inl ⟨by rfl, ?hcz4⟩) (by assumption) ?rcz4
            case hcz4 => (intro w hSw; go_simp; with_reducible rfl)
            simp only [Act.put, List.setIfInBounds_toArray, List.set_cons_zero, List.set_cons_succ]
            refine wpAnyK_take 5 119 (v := ?vcz5) rfl (by kernel_rfl) (by kernel_rfl) (by kernel_rfl) (by kernel_rfl) (by kernel_rfl) (fun _ _ _ h => h) rfl (Or.inl ⟨by rfl, ?hcz5⟩) (by assumption) ?rcz5
            case hcz5 => (intro w hSw; go_simp; with_reducible rfl)
            simp only [Act.put, List.setIfInBounds_toArray, List.set_cons_zero, List.set_cons_succ]
            refine wpAnyK_take 6 120 (v := ?vcz6) rfl (by kernel_rfl) (by kernel_rfl) (by kernel_rfl) (by kernel_rfl) (by kernel_rfl) (fun _ _ _ h => h) rfl (Or.inl ⟨by rfl, ?hcz6⟩) (by assumption) ?rcz6
            case hcz6 => (intro w hSw; go_simp; with_reducible rfl)
            simp only [Act.put, List.setIfInBounds_toArray, List.set_cons_zero, List.set_cons_succ]
            refine wpAnyK_take 7 121 (v := ?vcz7) rfl (by kernel_rfl) (by kernel_rfl) (by kernel_rfl) (by kernel_rfl) (by kernel_rfl) (fun _ _ _ h => h) rfl (Or.inl ⟨by rfl, ?hcz7⟩) (by assumption) ?rcz7
            case hcz7 => (intro w hSw; go_simp; with_reducible rfl)
            simp only [Act.put, List.setIfInBounds_toArray, List.set_cons_zero, List.set_cons_succ]
            refine wpAnyK_take 8 122 (v := ?vcz8) rfl (by kernel_rfl) (by kernel_rfl) (by kernel_rfl) (by kernel_rfl) (by kernel_rfl) (fun _ _ _ h => h) rfl (Or.inl ⟨by rfl, ?hcz8⟩) (by assumption) ?rcz8
            case hcz8 => (intro w hSw; go_simp; with_reducible rfl)
            simp only [Act.put, List.setIfInBounds_toArray, List.set_cons_zero, List.set_cons_succ]
            refine wpAnyK_take 9 123 (v := ?vcz9) rfl (by kernel_rfl) (by kernel_rfl) (by kernel_rfl) (by kernel_rfl) (by kernel_rfl) (fun _ _ _ h => h) rfl (Or.inl ⟨by rfl, ?hcz9⟩) (by assumption) ?rcz9
            case hcz9 => (intro w hSw; go_simp; with_reducible rfl)
            simp only [Act.put, List.setIfInBounds_toArray, List.set_cons_zero, List.set_cons_succ]
            refine wpAnyK_take 10 124 (v := ?vcz10) rfl (by kernel_rfl) (by kernel_rfl) (by kernel_rfl) (by kernel_rfl) (by kernel_rfl) (fun _ _ _ h => h) rfl (Or.inl ⟨by rfl, ?hcz10⟩) (by assumption) ?rcz10
            case hcz10 => (intro w hSw; go_simp; with_reducible rfl)
            simp only [Act.put, List.setIfInBounds_toArray, List.set_cons_zero, List.set_cons_succ]
            refine wpAnyK_take 11 125 (v := ?vcz11) rfl (by kernel_rfl) (by kernel_rfl) (by kernel_rfl) (by kernel_rfl) (by kernel_rfl) (fun _ _ _ h => h) rfl (Or.inl ⟨by rfl, ?hcz11⟩) (by assumption) ?rcz11
            case hcz11 => (intro w hSw; go_simp; with_reducible rfl)
            simp only [Act.put, List.setIfInBounds_toArray, List.set_cons_zero, List.set_cons_succ]
            refine wpAnyK_take 12 126 (v := ?vcz12) rfl (by kernel_rfl) (by kernel_rfl) (by kernel_rfl) (by kernel_rfl) (by kernel_rfl) (fun _ _ _ h => h) rfl (Or.inl ⟨by rfl, ?hcz12⟩) (by assumption) ?rcz12
            case hcz12 => (intro w hSw; go_simp; with_reducible rfl)
            simp only [Act.put, List.setIfInBounds_toArray, List.set_cons_zero, List.set_cons_succ]
            refine wpAnyK_take 13 127 (v := ?vcz13) rfl (by kernel_rfl) (by kernel_rfl) (by kernel_rfl) (by kernel_rfl) (by kernel_rfl) (fun _ _ _ h => h) rfl (Or.inl ⟨by rfl, ?hcz13⟩) (by assumption) ?rcz13
            case hcz13 => (intro w hSw; go_simp; with_reducible rfl)
            simp only [Act.put, List.setIfInBounds_toArray, List.set_cons_zero, List.set_cons_succ]
            refine wpAnyK_one 14 (by kernel_rfl) rfl (fun K hK => ?_)
            go_simp
            go_wp2_with (go_at_call 27; refine (AR.out _).mono ?_; rintro e' w8 ⟨rfl, hw8⟩; subst hw8)
            refine hK.out _ _ (fun _ _ => S0) ?_
            clear hK K
            simp only [List.setIfInBounds_toArray, List.set_cons_zero, List.set_cons_succ]
            refine wpAnyK_take 15 129 (v := ?vcz15) rfl (by kernel_rfl) (by kernel_rfl) (by kernel_rfl) (by kernel_rfl) (by kernel_rfl) (fun _ _ _ h => h) rfl (Or.inl ⟨by rfl, ?hcz15⟩) (by assumption) ?rcz15
            case hcz15 => (intro w hSw; go_simp; with_reducible rfl)
            simp only [Act.put, List.setIfInBounds_toArray, List.set_cons_zero, List.set_cons_succ]
            refine wpAnyK_take 16 130 (v := ?vcz16) rfl (by kernel_rfl) (by kernel_rfl) (by kernel_rfl) (by kernel_rfl) (by kernel_rfl) (fun _ _ _ h => h) rfl (Or.inl ⟨by rfl, ?hcz16⟩) (by assumption) ?rcz16
            case hcz16 => (intro w hSw; go_simp; with_reducible rfl)
            simp only [Act.put, List.setIfInBounds_toArray, List.set_cons_zero, List.set_cons_succ]
            refine wpAnyK_take 17 131 (v := ?vcz17) rfl (by kernel_rfl) (by kernel_rfl) (by kernel_rfl) (by kernel_rfl) (by kernel_rfl) (fun _ _ _ h => h) rfl (Or.inl ⟨by rfl, ?hcz17⟩) (by assumption) ?rcz17
            case hcz17 => (intro w hSw; go_simp; with_reducible rfl)
            simp only [Act.put, List.setIfInBounds_toArray, List.set_cons_zero, List.set_cons_succ]
            refine wpAnyK_take 18 132 (v := ?vcz18) rfl (by kernel_rfl) (by kernel_rfl) (by kernel_rfl) (by kernel_rfl) (by kernel_rfl) (fun _ _ _ h => h) rfl (Or.inl ⟨by rfl, ?hcz18⟩) (by assumption) ?rcz18
            case hcz18 => (intro w hSw; go_simp; with_reducible rfl)
            simp only [Act.put, List.setIfInBounds_toArray, List.set_cons_zero, List.set_cons_succ]
            refine wpAnyK_take 19 133 (v := ?vcz19) rfl (by kernel_rfl) (by kernel_rfl) (by kernel_rfl) (by kernel_rfl) (by kernel_rfl) (fun _ _ _ h => h) rfl (Or.inl ⟨by rfl, ?hcz19⟩) (by assumption) ?rcz19
            case hcz19 => (intro w hSw; go_simp; with_reducible rfl)
            simp only [Act.put, List.setIfInBounds_toArray, List.set_cons_zero, List.set_cons_succ]
            refine wpAnyK_take 20 134 (v := ?vcz20) rfl (by kernel_rfl) (by kernel_rfl) (by kernel_rfl) (by kernel_rfl) (by kernel_rfl) (fun _ _ _ h => h) rfl (Or.inl ⟨by rfl, ?hcz20⟩) (by assumption) ?rcz20
            case hcz20 => (intro w hSw; go_simp; with_reducible rfl)
            simp only [Act.put, List.setIfInBounds_toArray, List.set_cons_zero, List.set_cons_succ]
            refine wpAnyK_one 21 (by kernel_rfl) rfl (fun K hK => ?_)
            go_simp
            go_wp2_with (go_at_call 27; refine (AS.out _).mono ?_; rintro e' w8 ⟨rfl, hw8⟩; subst hw8)
            refine hK.out _ _ (fun _ _ => S0) ?_
            clear hK K
            simp only [List.setIfInBounds_toArray, List.set_cons_zero, List.set_cons_succ]
            refine wpAnyK_take 22 136 (v := ?vcz22) rfl (by kernel_rfl) (by kernel_rfl) (by kernel_rfl) (by kernel_rfl) (by kernel_rfl) (fun _ _ _ h => h) rfl (Or.inl ⟨by rfl, ?hcz22⟩) (by assumption) ?rcz22
            case hcz22 => (intro w hSw; go_simp; with_reducible rfl)
            simp only [Act.put, List.setIfInBounds_toArray, List.set_cons_zero, List.set_cons_succ]
            refine wpAnyK_take 23 137 (v := ?vcz23) rfl (by kernel_rfl) (by kernel_rfl) (by kernel_rfl) (by kernel_rfl) (by kernel_rfl) (fun _ _ _ h => h) rfl (Or.inl ⟨by rfl, ?hcz23⟩) (by assumption) ?rcz23
            case hcz23 => (intro w hSw; go_simp; with_reducible rfl)
            simp only [Act.put, List.setIfInBounds_toArray, List.set_cons_zero, List.set_cons_succ]
            refine wpAnyK_one 24 (by kernel_rfl) rfl (fun K hK => ?_)
            go_simp
            refine hK.out _ _ (fun h => absurd rfl h) ?_
            clear hK K
            simp only [List.setIfInBounds_toArray, List.set_cons_zero, List.set_cons_succ]
            refine wpAnyK_done (by kernel_rfl) ?_ _
            replace hb7 := hb7.drew
            clear S0 d1 d2 d3 d4 SUB NEQ AR AS oa ob
            have wk : IntKind.i64.wrap ((k : Int) + 1) = k + 1 := by rw [IntKind.wrap_i64]; omega
            generalize wr.drew = wr at *
            go_wp2
            go_roundw
            case rel => exact ⟨k + 1, by omega, by first | rfl | (congr 1), hb7⟩
            case measure => simp [intOf]; omega
          · have hk3 : k = m := by omega
            subst hk3
            go_wp2
            go_ret
            exact ⟨rfl, bw_trans HBW.out hb7⟩
end Go.Proofs.Ytmbjgakehghdjaa
