/- customer.refuseStart: what is wrong with starting a call (joined by program) -/
import Derived.Deep.RegionHeld3
import Derived.Test.YtcjoekjjebcomakCS07
import Derived.Test.YtcjoekjjebcomakCS14
namespace Go.Proofs.Ytcjoekjjebcomak

open Go.RowKit

set_option maxRecDepth 100000 in
set_option maxHeartbeats 3200000 in
theorem refuseStart_any (v : Value) (c : CustD) (k n : Int) (a b : ByteArray) (w : World) (B : Nat) (hv : CustR w B v c) (hB : B ≤ w.heap.size) (ha : a.size ≤ 140737488351232) (hb : b.size ≤ 140737488351232) :
    Calls Try.prog 28 #[v, .agg #[.int .i64 k, .string a, .string b, .int .i64 n]] w fun e w' => e = .returned (.int .i64 (startE c k a b n)) ∧ Below w.heap.size w w' := by
  have C1 := ghid (fun u (hu : Below w.heap.size w u) => custCheck_any v c u B (hv.below hu hB) (by have := hu.size; omega))
  have C2 := ghid (fun u => checkOp_any k a b n u ha hb)
  have CK : Hid (checkC c = 0 → ∀ u, Below w.heap.size w u → Calls Try.prog 32 #[v] u fun e w' => e = .returned (.int .i64 (knownC c)) ∧ Below u.heap.size u w') := fun hc u hu => known_any v c u B (hv.below hu hB) (by have := hu.size; omega) (GoodC.of hc).next (GoodC.of hc).seqs
  have HKN : Hid (checkC c = 0 → (0 ≤ knownC c ∧ knownC c ≤ c.next - 1) ∧ 1 ≤ c.next ∧ c.next ≤ 1048577) := fun hc => ⟨(GoodC.of hc).known, (GoodC.of hc).next⟩
  have HST : Hid (startE c k a b n = if checkC c ≠ 0 then checkC c else if c.session = 0 then 11 else if opE k a b n ≠ 0 then opE k a b n else if 1048576 < c.next ∨ 4 < c.next - knownC c then 8 else 0) := rfl
  obtain ⟨ao, cap, rfl, -⟩ := hv.shape
  obtain ⟨cc, hcc⟩ : ∃ z, z = checkC c := ⟨_, rfl⟩
  obtain ⟨oe, hoe⟩ : ∃ z, z = opE k a b n := ⟨_, rfl⟩
  obtain ⟨kn, hkn⟩ : ∃ z, z = knownC c := ⟨_, rfl⟩
  obtain ⟨st, hst⟩ : ∃ z, z = startE c k a b n := ⟨_, rfl⟩
  obtain ⟨id, hid⟩ : ∃ z, z = c.id := ⟨_, rfl⟩
  obtain ⟨se, hse⟩ : ∃ z, z = c.session := ⟨_, rfl⟩
  obtain ⟨nx, hnx⟩ : ∃ z, z = c.next := ⟨_, rfl⟩
  obtain ⟨m, hm⟩ : ∃ z, z = c.waits.length := ⟨_, rfl⟩
  rw [← hid, ← hse, ← hnx, ← hm] at C1 CK
  rw [← hcc] at C1
  rw [← hoe] at C2
  rw [← hcc, ← hkn] at CK
  rw [← hcc, ← hkn, ← hnx] at HKN
  rw [← hst, ← hcc, ← hoe, ← hkn, ← hse, ← hnx] at HST
  rw [← hst, ← hid, ← hse, ← hnx, ← hm]
  have HZ : Hid (Below w.heap.size w ((w.alloc (.cells #[.int .i64 id, .int .i64 se, .int .i64 nx, .slice ao m cap] 24)).alloc (.cells #[.int .i64 k, .string a, .string b, .int .i64 n] 34))) := ((Below.refl _ _).alloc (Nat.le_refl _) _).alloc (by simp) _
  have HX0 : Hid (((w.alloc (.cells #[.int .i64 id, .int .i64 se, .int .i64 nx, .slice ao m cap] 24)).alloc (.cells #[.int .i64 k, .string a, .string b, .int .i64 n] 34)).heap[w.heap.size]? = some (.cells #[.int .i64 id, .int .i64 se, .int .i64 nx, .slice ao m cap] 24 (0, 0))) := (two_newB (Below.refl _ _)).2
  have HO0 : Hid (((w.alloc (.cells #[.int .i64 id, .int .i64 se, .int .i64 nx, .slice ao m cap] 24)).alloc (.cells #[.int .i64 k, .string a, .string b, .int .i64 n] 34)).heap[w.heap.size + 1]? = some (.cells #[.int .i64 k, .string a, .string b, .int .i64 n] 34 (0, 0))) := (two_newB (Below.refl _ _)).1
  clear hv hcc hoe hkn hst hid hse hnx hm
  by_cases h1 : cc = 0
  · have CK2 := ghid (CK.out h1)
    obtain ⟨hk, hn⟩ := HKN.out h1
    subst h1
    by_cases h2 : se = 0
    · subst h2
      have HE : Hid (st = 11) := by unfold Hid; rw [HST.out, if_neg (by simp), if_pos rfl]
      clear hk hn
      go_enter Try.func28, Try.ntmps28
      go_wp2_with fail
      refine (C1.out _ HZ.out).mono ?_
      rintro e w1 ⟨rfl, hb1⟩
      have HB1 := ghid (HZ.out.trans (hb1.mono HZ.out.size))
      have HX1 := ghid (behind HX0.out (Below.refl _ _) hb1)
      have HO1 := ghid (behind HO0.out (Below.refl _ _) hb1)
      obtain ⟨c0, c1, c2, c3, cf, cl⟩ := state_cells HX1.out
      obtain ⟨o0, o1, o2, o3, of, ol⟩ := state_cells HO1.out
      clear hb1

      go_wp2
      go_ret
      exact ⟨by rw [HE.out]; rfl, HB1.out⟩
    · have hseb : (se == 0) = false := beq_eq_false_iff_ne.2 h2
      by_cases h3 : oe = 0
      · subst h3
        by_cases h4 : 1048576 < nx
        · have HE : Hid (st = 8) := by unfold Hid; rw [HST.out, if_neg (by simp), if_neg h2, if_neg (by simp), if_pos (.inl h4)]
          clear hk hn h2
          go_enter Try.func28, Try.ntmps28
          go_wp2_with fail
          refine (C1.out _ HZ.out).mono ?_
          rintro e w1 ⟨rfl, hb1⟩
          have HB1 := ghid (HZ.out.trans (hb1.mono HZ.out.size))
          have HX1 := ghid (behind HX0.out (Below.refl _ _) hb1)
          have HO1 := ghid (behind HO0.out (Below.refl _ _) hb1)
          obtain ⟨c0, c1, c2, c3, cf, cl⟩ := state_cells HX1.out
          obtain ⟨o0, o1, o2, o3, of, ol⟩ := state_cells HO1.out
          clear hb1

          go_wp2_with fail
          refine (C2.out _).mono ?_
          rintro e w2 ⟨rfl, hb2⟩
          have HB2 := ghid (HB1.out.trans (hb2.mono HB1.out.size))
          have HX2 := ghid (behind HX1.out (Below.refl _ _) hb2)
          clear c0 c1 c2 c3 cf cl o0 o1 o2 o3 of ol
          obtain ⟨c0, c1, c2, c3, cf, cl⟩ := state_cells HX2.out
          clear hb2

          go_wp2_with fail
          go_quiet (fail)
          go_wp2
          go_ret
          exact ⟨by rw [HE.out]; rfl, HB2.out.trans (g_drewN_below _ _ _)⟩
        · by_cases h5 : 4 < nx - kn
          · have HE : Hid (st = 8) := by unfold Hid; rw [HST.out, if_neg (by simp), if_neg h2, if_neg (by simp), if_pos (.inr h5)]
            have h4' : nx ≤ 1048576 := by omega
            have h4d : decide (1048576 < nx) = false := decide_eq_false h4
            have hkw : IntKind.i64.wrap (kn + 4) = kn + 4 := by rw [IntKind.wrap_i64]; omega
            have h5' : kn + 4 < nx := by omega
            clear h2
            go_enter Try.func28, Try.ntmps28
            go_wp2_with fail
            refine (C1.out _ HZ.out).mono ?_
            rintro e w1 ⟨rfl, hb1⟩
            have HB1 := ghid (HZ.out.trans (hb1.mono HZ.out.size))
            have HX1 := ghid (behind HX0.out (Below.refl _ _) hb1)
            have HO1 := ghid (behind HO0.out (Below.refl _ _) hb1)
            obtain ⟨c0, c1, c2, c3, cf, cl⟩ := state_cells HX1.out
            obtain ⟨o0, o1, o2, o3, of, ol⟩ := state_cells HO1.out
            clear hb1

            go_wp2_with fail
            refine (C2.out _).mono ?_
            rintro e w2 ⟨rfl, hb2⟩
            have HB2 := ghid (HB1.out.trans (hb2.mono HB1.out.size))
            have HX2 := ghid (behind HX1.out (Below.refl _ _) hb2)
            clear c0 c1 c2 c3 cf cl o0 o1 o2 o3 of ol
            obtain ⟨c0, c1, c2, c3, cf, cl⟩ := state_cells HX2.out
            clear hb2

            go_wp2_with fail
            go_region_held3 (fun w' => w'.cell? ⟨w.heap.size, 0, none⟩ = some (.int .i64 id) ∧ w'.cell? ⟨w.heap.size, 1, none⟩ = some (.int .i64 se) ∧ w'.cell? ⟨w.heap.size, 2, none⟩ = some (.int .i64 nx) ∧ w'.cell? ⟨w.heap.size, 3, none⟩ = some (.slice ao m cap)) (go_keep)
              ((go_at_call 32; refine (CK2.out _ HB2.out.drew).mono ?_; rintro e w3 ⟨rfl, hb3⟩; have HB3 := ghid (HB2.out.drew.trans (hb3.mono HB2.out.drew.size)); clear c0 c1 c2 c3 cf cl; obtain ⟨c0, c1, c2, c3, cf, cl⟩ := state_cells (behind HX2.out ((Below.refl _ _).drew) hb3); clear hb3))
            all_goals
              go_wp2
              go_ret
              exact ⟨by rw [HE.out]; rfl, HB3.out⟩
          · have HE : Hid (st = 0) := by unfold Hid; rw [HST.out, if_neg (by simp), if_neg h2, if_neg (by simp), if_neg (by omega)]
            have h4' : nx ≤ 1048576 := by omega
            have h4d : decide (1048576 < nx) = false := decide_eq_false h4
            have hkw : IntKind.i64.wrap (kn + 4) = kn + 4 := by rw [IntKind.wrap_i64]; omega
            have h5' : nx ≤ kn + 4 := by omega
            clear h2
            go_enter Try.func28, Try.ntmps28
            go_wp2_with fail
            refine (C1.out _ HZ.out).mono ?_
            rintro e w1 ⟨rfl, hb1⟩
            have HB1 := ghid (HZ.out.trans (hb1.mono HZ.out.size))
            have HX1 := ghid (behind HX0.out (Below.refl _ _) hb1)
            have HO1 := ghid (behind HO0.out (Below.refl _ _) hb1)
            obtain ⟨c0, c1, c2, c3, cf, cl⟩ := state_cells HX1.out
            obtain ⟨o0, o1, o2, o3, of, ol⟩ := state_cells HO1.out
            clear hb1

            go_wp2_with fail
            refine (C2.out _).mono ?_
            rintro e w2 ⟨rfl, hb2⟩
            have HB2 := ghid (HB1.out.trans (hb2.mono HB1.out.size))
            have HX2 := ghid (behind HX1.out (Below.refl _ _) hb2)
            clear c0 c1 c2 c3 cf cl o0 o1 o2 o3 of ol
            obtain ⟨c0, c1, c2, c3, cf, cl⟩ := state_cells HX2.out
            clear hb2

            go_wp2_with fail
            go_region_held3 (fun w' => w'.cell? ⟨w.heap.size, 0, none⟩ = some (.int .i64 id) ∧ w'.cell? ⟨w.heap.size, 1, none⟩ = some (.int .i64 se) ∧ w'.cell? ⟨w.heap.size, 2, none⟩ = some (.int .i64 nx) ∧ w'.cell? ⟨w.heap.size, 3, none⟩ = some (.slice ao m cap)) (go_keep)
              ((go_at_call 32; refine (CK2.out _ HB2.out.drew).mono ?_; rintro e w3 ⟨rfl, hb3⟩; have HB3 := ghid (HB2.out.drew.trans (hb3.mono HB2.out.drew.size)); clear c0 c1 c2 c3 cf cl; obtain ⟨c0, c1, c2, c3, cf, cl⟩ := state_cells (behind HX2.out ((Below.refl _ _).drew) hb3); clear hb3))
            all_goals
              go_wp2
              go_ret
              exact ⟨by rw [HE.out]; rfl, HB3.out⟩
      · have hob : (oe != 0) = true := by simpa using h3
        have HE : Hid (st = oe) := by unfold Hid; rw [HST.out, if_neg (by simp), if_neg h2, if_pos h3]
        clear hk hn h2 h3
        go_enter Try.func28, Try.ntmps28
        go_wp2_with fail
        refine (C1.out _ HZ.out).mono ?_
        rintro e w1 ⟨rfl, hb1⟩
        have HB1 := ghid (HZ.out.trans (hb1.mono HZ.out.size))
        have HX1 := ghid (behind HX0.out (Below.refl _ _) hb1)
        have HO1 := ghid (behind HO0.out (Below.refl _ _) hb1)
        obtain ⟨c0, c1, c2, c3, cf, cl⟩ := state_cells HX1.out
        obtain ⟨o0, o1, o2, o3, of, ol⟩ := state_cells HO1.out
        clear hb1

        go_wp2_with fail
        refine (C2.out _).mono ?_
        rintro e w2 ⟨rfl, hb2⟩
        have HB2 := ghid (HB1.out.trans (hb2.mono HB1.out.size))
        have HX2 := ghid (behind HX1.out (Below.refl _ _) hb2)
        clear c0 c1 c2 c3 cf cl o0 o1 o2 o3 of ol
        obtain ⟨c0, c1, c2, c3, cf, cl⟩ := state_cells HX2.out
        clear hb2

        go_wp2
        go_ret
        exact ⟨by rw [HE.out]; rfl, HB2.out⟩
  · have hcb : (cc != 0) = true := by simpa using h1
    have HE : Hid (st = cc) := by unfold Hid; rw [HST.out, if_pos h1]
    clear h1
    go_enter Try.func28, Try.ntmps28
    go_wp2_with fail
    refine (C1.out _ HZ.out).mono ?_
    rintro e w1 ⟨rfl, hb1⟩
    have HB1 := ghid (HZ.out.trans (hb1.mono HZ.out.size))
    have HX1 := ghid (behind HX0.out (Below.refl _ _) hb1)
    have HO1 := ghid (behind HO0.out (Below.refl _ _) hb1)
    obtain ⟨c0, c1, c2, c3, cf, cl⟩ := state_cells HX1.out
    obtain ⟨o0, o1, o2, o3, of, ol⟩ := state_cells HO1.out
    clear hb1

    go_wp2
    go_ret
    exact ⟨by rw [HE.out]; rfl, HB1.out⟩

end Go.Proofs.Ytcjoekjjebcomak
