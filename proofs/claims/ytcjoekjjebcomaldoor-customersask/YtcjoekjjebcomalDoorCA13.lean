/- customer.refuseStart: what is wrong with starting a call; customer.Start (joined by program) -/
import Derived.Deep.RegionHeld3
import Derived.Deep.AppendLies
import Derived.Deep.RegionLaw
import Derived.Test.YtcjoekjjebcomalDoorCA12
import Derived.Test.YtcjoekjjebcomalDoorCA07
import Derived.Test.YtcjoekjjebcomalDoorCA08
import Derived.Test.YtcjoekjjebcomalDoorCA10
namespace Go.Proofs.YtcjoekjjebcomalDoor

open Go.RowKit

set_option maxRecDepth 100000 in
set_option maxHeartbeats 3200000 in
theorem refuseStart_any (v : Value) (c : CustD) (k n : Int) (a b : ByteArray) (w : World) (B : Nat) (hv : CustR w B v c) (hB : B ≤ w.heap.size) (ha : a.size ≤ 140737488351232) (hb : b.size ≤ 140737488351232) :
    Calls Tryd.prog 14 #[v, .agg #[.int .i64 k, .string a, .string b, .int .i64 n]] w fun e w' => e = .returned (.int .i64 (startE c k a b n)) ∧ Below w.heap.size w w' := by
  have C1 := ghid (fun u (hu : Below w.heap.size w u) => custCheck_any v c u B (hv.below hu hB) (by have := hu.size; omega))
  have C2 := ghid (fun u => checkOp_any k a b n u ha hb)
  have CK : Hid (checkC c = 0 → ∀ u, Below w.heap.size w u → Calls Tryd.prog 23 #[v] u fun e w' => e = .returned (.int .i64 (knownC c)) ∧ Below u.heap.size u w') := fun hc u hu => known_any v c u B (hv.below hu hB) (by have := hu.size; omega) (GoodC.of hc).next (GoodC.of hc).seqs
  have HKN : Hid (checkC c = 0 → (0 ≤ knownC c ∧ knownC c ≤ c.next - 1) ∧ 1 ≤ c.next ∧ c.next ≤ 1048577) := fun hc => ⟨(GoodC.of hc).known, (GoodC.of hc).next⟩
  have HST : Hid (startE c k a b n = if checkC c ≠ 0 then checkC c else if c.session = 0 then 11 else if opE k a b n ≠ 0 then opE k a b n else if 1048576 < c.next ∨ 4 < c.next - knownC c then 8 else 0) := rfl
  obtain ⟨ao, cap, rfl, -⟩ := hv.shape
  obtain ⟨cc, hcc⟩ : ∃ z, z = checkC c := ⟨_, rfl⟩
  obtain ⟨oe, hoe⟩ : ∃ z, z = opE k a b n := ⟨_, rfl⟩
  obtain ⟨kn, hkn⟩ : ∃ z, z = knownC c := ⟨_, rfl⟩
  obtain ⟨st, hst⟩ : ∃ z, z = startE c k a b n := ⟨_, rfl⟩
  obtain ⟨id, hid⟩ : ∃ z, z = c.id := ⟨_, rfl⟩
  obtain ⟨se, hse⟩ : ∃ z, z = c.session := ⟨_, rfl⟩
  obtain ⟨nx, hnx⟩ : ∃ z, z = c.next := ⟨_, rfl⟩
  obtain ⟨m, hm⟩ : ∃ z, z = c.waits.length := ⟨_, rfl⟩
  rw [← hid, ← hse, ← hnx, ← hm] at C1 CK
  rw [← hcc] at C1
  rw [← hoe] at C2
  rw [← hcc, ← hkn] at CK
  rw [← hcc, ← hkn, ← hnx] at HKN
  rw [← hst, ← hcc, ← hoe, ← hkn, ← hse, ← hnx] at HST
  rw [← hst, ← hid, ← hse, ← hnx, ← hm]
  have HZ : Hid (Below w.heap.size w ((w.alloc (.cells #[.int .i64 id, .int .i64 se, .int .i64 nx, .slice ao m cap] 25)).alloc (.cells #[.int .i64 k, .string a, .string b, .int .i64 n] 32))) := ((Below.refl _ _).alloc (Nat.le_refl _) _).alloc (by simp) _
  have HX0 : Hid (((w.alloc (.cells #[.int .i64 id, .int .i64 se, .int .i64 nx, .slice ao m cap] 25)).alloc (.cells #[.int .i64 k, .string a, .string b, .int .i64 n] 32)).heap[w.heap.size]? = some (.cells #[.int .i64 id, .int .i64 se, .int .i64 nx, .slice ao m cap] 25 (0, 0))) := (two_newB (Below.refl _ _)).2
  have HO0 : Hid (((w.alloc (.cells #[.int .i64 id, .int .i64 se, .int .i64 nx, .slice ao m cap] 25)).alloc (.cells #[.int .i64 k, .string a, .string b, .int .i64 n] 32)).heap[w.heap.size + 1]? = some (.cells #[.int .i64 k, .string a, .string b, .int .i64 n] 32 (0, 0))) := (two_newB (Below.refl _ _)).1
  clear hv hcc hoe hkn hst hid hse hnx hm
  by_cases h1 : cc = 0
  · have CK2 := ghid (CK.out h1)
    obtain ⟨hk, hn⟩ := HKN.out h1
    subst h1
    by_cases h2 : se = 0
    · subst h2
      have HE : Hid (st = 11) := by unfold Hid; rw [HST.out, if_neg (by simp), if_pos rfl]
      clear hk hn
      go_enter Tryd.func14, Tryd.ntmps14
      go_wp2_with fail
      refine (C1.out _ HZ.out).mono ?_
      rintro e w1 ⟨rfl, hb1⟩
      have HB1 := ghid (HZ.out.trans (hb1.mono HZ.out.size))
      have HX1 := ghid (behind HX0.out (Below.refl _ _) hb1)
      have HO1 := ghid (behind HO0.out (Below.refl _ _) hb1)
      obtain ⟨c0, c1, c2, c3, cf, cl⟩ := state_cells HX1.out
      obtain ⟨o0, o1, o2, o3, of, ol⟩ := state_cells HO1.out
      clear hb1

      go_wp2
      go_ret
      exact ⟨by rw [HE.out]; rfl, HB1.out⟩
    · have hseb : (se == 0) = false := beq_eq_false_iff_ne.2 h2
      by_cases h3 : oe = 0
      · subst h3
        by_cases h4 : 1048576 < nx
        · have HE : Hid (st = 8) := by unfold Hid; rw [HST.out, if_neg (by simp), if_neg h2, if_neg (by simp), if_pos (.inl h4)]
          clear hk hn h2
          go_enter Tryd.func14, Tryd.ntmps14
          go_wp2_with fail
          refine (C1.out _ HZ.out).mono ?_
          rintro e w1 ⟨rfl, hb1⟩
          have HB1 := ghid (HZ.out.trans (hb1.mono HZ.out.size))
          have HX1 := ghid (behind HX0.out (Below.refl _ _) hb1)
          have HO1 := ghid (behind HO0.out (Below.refl _ _) hb1)
          obtain ⟨c0, c1, c2, c3, cf, cl⟩ := state_cells HX1.out
          obtain ⟨o0, o1, o2, o3, of, ol⟩ := state_cells HO1.out
          clear hb1

          go_wp2_with fail
          refine (C2.out _).mono ?_
          rintro e w2 ⟨rfl, hb2⟩
          have HB2 := ghid (HB1.out.trans (hb2.mono HB1.out.size))
          have HX2 := ghid (behind HX1.out (Below.refl _ _) hb2)
          clear c0 c1 c2 c3 cf cl o0 o1 o2 o3 of ol
          obtain ⟨c0, c1, c2, c3, cf, cl⟩ := state_cells HX2.out
          clear hb2

          go_wp2_with fail
          go_quiet (fail)
          go_wp2
          go_ret
          exact ⟨by rw [HE.out]; rfl, HB2.out.trans (g_drewN_below _ _ _)⟩
        · by_cases h5 : 4 < nx - kn
          · have HE : Hid (st = 8) := by unfold Hid; rw [HST.out, if_neg (by simp), if_neg h2, if_neg (by simp), if_pos (.inr h5)]
            have h4' : nx ≤ 1048576 := by omega
            have h4d : decide (1048576 < nx) = false := decide_eq_false h4
            have hkw : IntKind.i64.wrap (kn + 4) = kn + 4 := by rw [IntKind.wrap_i64]; omega
            have h5' : kn + 4 < nx := by omega
            clear h2
            go_enter Tryd.func14, Tryd.ntmps14
            go_wp2_with fail
            refine (C1.out _ HZ.out).mono ?_
            rintro e w1 ⟨rfl, hb1⟩
            have HB1 := ghid (HZ.out.trans (hb1.mono HZ.out.size))
            have HX1 := ghid (behind HX0.out (Below.refl _ _) hb1)
            have HO1 := ghid (behind HO0.out (Below.refl _ _) hb1)
            obtain ⟨c0, c1, c2, c3, cf, cl⟩ := state_cells HX1.out
            obtain ⟨o0, o1, o2, o3, of, ol⟩ := state_cells HO1.out
            clear hb1

            go_wp2_with fail
            refine (C2.out _).mono ?_
            rintro e w2 ⟨rfl, hb2⟩
            have HB2 := ghid (HB1.out.trans (hb2.mono HB1.out.size))
            have HX2 := ghid (behind HX1.out (Below.refl _ _) hb2)
            clear c0 c1 c2 c3 cf cl o0 o1 o2 o3 of ol
            obtain ⟨c0, c1, c2, c3, cf, cl⟩ := state_cells HX2.out
            clear hb2

            go_wp2_with fail
            go_region_held3 (fun w' => w'.cell? ⟨w.heap.size, 0, none⟩ = some (.int .i64 id) ∧ w'.cell? ⟨w.heap.size, 1, none⟩ = some (.int .i64 se) ∧ w'.cell? ⟨w.heap.size, 2, none⟩ = some (.int .i64 nx) ∧ w'.cell? ⟨w.heap.size, 3, none⟩ = some (.slice ao m cap)) (go_keep)
              ((go_at_call 23; refine (CK2.out _ HB2.out.drew).mono ?_; rintro e w3 ⟨rfl, hb3⟩; have HB3 := ghid (HB2.out.drew.trans (hb3.mono HB2.out.drew.size)); clear c0 c1 c2 c3 cf cl; obtain ⟨c0, c1, c2, c3, cf, cl⟩ := state_cells (behind HX2.out ((Below.refl _ _).drew) hb3); clear hb3))
            all_goals
              go_wp2
              go_ret
              exact ⟨by rw [HE.out]; rfl, HB3.out⟩
          · have HE : Hid (st = 0) := by unfold Hid; rw [HST.out, if_neg (by simp), if_neg h2, if_neg (by simp), if_neg (by omega)]
            have h4' : nx ≤ 1048576 := by omega
            have h4d : decide (1048576 < nx) = false := decide_eq_false h4
            have hkw : IntKind.i64.wrap (kn + 4) = kn + 4 := by rw [IntKind.wrap_i64]; omega
            have h5' : nx ≤ kn + 4 := by omega
            clear h2
            go_enter Tryd.func14, Tryd.ntmps14
            go_wp2_with fail
            refine (C1.out _ HZ.out).mono ?_
            rintro e w1 ⟨rfl, hb1⟩
            have HB1 := ghid (HZ.out.trans (hb1.mono HZ.out.size))
            have HX1 := ghid (behind HX0.out (Below.refl _ _) hb1)
            have HO1 := ghid (behind HO0.out (Below.refl _ _) hb1)
            obtain ⟨c0, c1, c2, c3, cf, cl⟩ := state_cells HX1.out
            obtain ⟨o0, o1, o2, o3, of, ol⟩ := state_cells HO1.out
            clear hb1

            go_wp2_with fail
            refine (C2.out _).mono ?_
            rintro e w2 ⟨rfl, hb2⟩
            have HB2 := ghid (HB1.out.trans (hb2.mono HB1.out.size))
            have HX2 := ghid (behind HX1.out (Below.refl _ _) hb2)
            clear c0 c1 c2 c3 cf cl o0 o1 o2 o3 of ol
            obtain ⟨c0, c1, c2, c3, cf, cl⟩ := state_cells HX2.out
            clear hb2

            go_wp2_with fail
            go_region_held3 (fun w' => w'.cell? ⟨w.heap.size, 0, none⟩ = some (.int .i64 id) ∧ w'.cell? ⟨w.heap.size, 1, none⟩ = some (.int .i64 se) ∧ w'.cell? ⟨w.heap.size, 2, none⟩ = some (.int .i64 nx) ∧ w'.cell? ⟨w.heap.size, 3, none⟩ = some (.slice ao m cap)) (go_keep)
              ((go_at_call 23; refine (CK2.out _ HB2.out.drew).mono ?_; rintro e w3 ⟨rfl, hb3⟩; have HB3 := ghid (HB2.out.drew.trans (hb3.mono HB2.out.drew.size)); clear c0 c1 c2 c3 cf cl; obtain ⟨c0, c1, c2, c3, cf, cl⟩ := state_cells (behind HX2.out ((Below.refl _ _).drew) hb3); clear hb3))
            all_goals
              go_wp2
              go_ret
              exact ⟨by rw [HE.out]; rfl, HB3.out⟩
      · have hob : (oe != 0) = true := by simpa using h3
        have HE : Hid (st = oe) := by unfold Hid; rw [HST.out, if_neg (by simp), if_neg h2, if_pos h3]
        clear hk hn h2 h3
        go_enter Tryd.func14, Tryd.ntmps14
        go_wp2_with fail
        refine (C1.out _ HZ.out).mono ?_
        rintro e w1 ⟨rfl, hb1⟩
        have HB1 := ghid (HZ.out.trans (hb1.mono HZ.out.size))
        have HX1 := ghid (behind HX0.out (Below.refl _ _) hb1)
        have HO1 := ghid (behind HO0.out (Below.refl _ _) hb1)
        obtain ⟨c0, c1, c2, c3, cf, cl⟩ := state_cells HX1.out
        obtain ⟨o0, o1, o2, o3, of, ol⟩ := state_cells HO1.out
        clear hb1

        go_wp2_with fail
        refine (C2.out _).mono ?_
        rintro e w2 ⟨rfl, hb2⟩
        have HB2 := ghid (HB1.out.trans (hb2.mono HB1.out.size))
        have HX2 := ghid (behind HX1.out (Below.refl _ _) hb2)
        clear c0 c1 c2 c3 cf cl o0 o1 o2 o3 of ol
        obtain ⟨c0, c1, c2, c3, cf, cl⟩ := state_cells HX2.out
        clear hb2

        go_wp2
        go_ret
        exact ⟨by rw [HE.out]; rfl, HB2.out⟩
  · have hcb : (cc != 0) = true := by simpa using h1
    have HE : Hid (st = cc) := by unfold Hid; rw [HST.out, if_pos h1]
    clear h1
    go_enter Tryd.func14, Tryd.ntmps14
    go_wp2_with fail
    refine (C1.out _ HZ.out).mono ?_
    rintro e w1 ⟨rfl, hb1⟩
    have HB1 := ghid (HZ.out.trans (hb1.mono HZ.out.size))
    have HX1 := ghid (behind HX0.out (Below.refl _ _) hb1)
    have HO1 := ghid (behind HO0.out (Below.refl _ _) hb1)
    obtain ⟨c0, c1, c2, c3, cf, cl⟩ := state_cells HX1.out
    obtain ⟨o0, o1, o2, o3, of, ol⟩ := state_cells HO1.out
    clear hb1

    go_wp2
    go_ret
    exact ⟨by rw [HE.out]; rfl, HB1.out⟩

end Go.Proofs.YtcjoekjjebcomalDoor

namespace Go.Proofs.YtcjoekjjebcomalDoor

open Go.RowKit

set_option maxRecDepth 100000 in
set_option maxHeartbeats 3200000 in
theorem Start_bad (v : Value) (c : CustD) (k n : Int) (a b : ByteArray) (w : World) (B : Nat) (hv : CustR w B v c) (hB : B ≤ w.heap.size) (ha : a.size ≤ 140737488351232) (hb : b.size ≤ 140737488351232) (hs : startE c k a b n ≠ 0) :
    Calls Tryd.prog 6 #[v, .agg #[.int .i64 k, .string a, .string b, .int .i64 n]] w fun e w' => e = .returned (.tuple #[.agg #[.int .i64 0, .int .i64 0, .int .i64 0, .slice none 0 0], .int .i64 (startE c k a b n)]) ∧ Below w.heap.size w w' := by
  have C1 := ghid (fun u (hu : Below w.heap.size w u) => refuseStart_any v c k n a b u B (hv.below hu hB) (by have := hu.size; omega) ha hb)
  obtain ⟨id, se, nx, ao, m, cap, rfl⟩ := hv.raw
  obtain ⟨st, hst⟩ : ∃ z, z = startE c k a b n := ⟨_, rfl⟩
  rw [← hst] at C1 hs ⊢
  have HZ : Hid (Below w.heap.size w (((w.alloc (.cells #[.int .i64 id, .int .i64 se, .int .i64 nx, .slice ao m cap] 25)).alloc (.cells #[.int .i64 k, .string a, .string b, .int .i64 n] 32)).alloc (.cells #[.int .i64 0, .int .i64 0, .int .i64 0, .slice none 0 0] 25))) := (((Below.refl _ _).alloc (Nat.le_refl _) _).alloc (by simp) _).alloc (by simp; omega) _
  have HR0 : Hid ((((w.alloc (.cells #[.int .i64 id, .int .i64 se, .int .i64 nx, .slice ao m cap] 25)).alloc (.cells #[.int .i64 k, .string a, .string b, .int .i64 n] 32)).alloc (.cells #[.int .i64 0, .int .i64 0, .int .i64 0, .slice none 0 0] 25)).heap[w.heap.size + 1 + 1]? = some (.cells #[.int .i64 0, .int .i64 0, .int .i64 0, .slice none 0 0] 25 (0, 0))) := (three_newB (Below.refl _ _)).2.2
  have hsb : (st != 0) = true := by simpa using hs
  clear hv hst hs
  go_enter Tryd.func6, Tryd.ntmps6
  go_wp2_with fail
  refine (C1.out _ HZ.out).mono ?_
  rintro e w1 ⟨rfl, hb1⟩
  have HB1 := ghid (HZ.out.trans (hb1.mono HZ.out.size))
  obtain ⟨r0, r1, r2, r3, rf, rl⟩ := state_cells (behind HR0.out (Below.refl _ _) hb1)
  clear hb1
  go_wp2
  refine bodyPost_ret (v := .tuple #[.agg #[.int .i64 0, .int .i64 0, .int .i64 0, .slice none 0 0], .int .i64 st]) (by simp [results, Tryd.results6, go_sem, r0, r1, r2, r3]) rfl ?_
  exact ⟨rfl, zset4 HB1.out (by omega) _ _ _ _⟩

set_option maxRecDepth 100000 in
set_option maxHeartbeats 3200000 in
theorem Start_ok (v : Value) (c : CustD) (k n : Int) (a b : ByteArray) (w : World) (B : Nat) (hv : CustR w B v c) (hB : B ≤ w.heap.size) (ha : a.size ≤ 140737488351232) (hb : b.size ≤ 140737488351232) (hs : startE c k a b n = 0) :
    Calls Tryd.prog 6 #[v, .agg #[.int .i64 k, .string a, .string b, .int .i64 n]] w fun e w' => ∃ vo vc, e = .returned (.tuple #[.agg #[.int .i64 c.id, .int .i64 c.session, .int .i64 (c.next + 1), .slice vo (c.waits.length + 1) vc], .int .i64 0]) ∧ w'.ownsRow w.heap.size 55 5 (.slice vo (c.waits.length + 1) vc) (c.waits.length + 1) (flatG waitCells (c.waits ++ [⟨c.next, k, a, b, n⟩])) ∧ Below w.heap.size w w' := by
  obtain ⟨i0, hi, hz0, hz1, hz2⟩ := info_parts Tryd.infoWait
  have C1 := ghid (fun u (hu : Below w.heap.size w u) => refuseStart_any v c k n a b u B (hv.below hu hB) (by have := hu.size; omega) ha hb)
  rw [hs] at C1
  have C2 := ghid (fun u (hu : Below w.heap.size w u) => custCopy_own v c u B (hv.below hu hB) (by have := hu.size; omega))
  have CO := ghid (fun u => copyOp_any k n a b u ha hb)
  have hc : checkC c = 0 := by
    unfold startE at hs
    by_cases e : checkC c = 0
    · exact e
    · rw [if_pos e] at hs; exact absurd hs e
  have hlen := (GoodC.of hc).len
  have hnx := (GoodC.of hc).next
  have HFS : Hid (flatG waitCells (c.waits ++ [⟨c.next, k, a, b, n⟩]) = flatG waitCells c.waits ++ waitCells ⟨c.next, k, a, b, n⟩) := flatG_snoc _ _
  obtain ⟨ao, cap, rfl, -⟩ := hv.shape
  obtain ⟨id, se, nx, ws⟩ := c
  simp only at C1 C2 hlen hnx HFS ⊢
  obtain ⟨m, hm⟩ : ∃ z, z = ws.length := ⟨_, rfl⟩
  obtain ⟨fl, hfl⟩ : ∃ z, z = flatG waitCells ws := ⟨_, rfl⟩
  rw [← hm] at C1 C2 hlen
  rw [← hfl] at C2 HFS
  rw [← hm]
  have HZ : Hid (Below w.heap.size w (((w.alloc (.cells #[.int .i64 id, .int .i64 se, .int .i64 nx, .slice ao m cap] 25)).alloc (.cells #[.int .i64 k, .string a, .string b, .int .i64 n] 32)).alloc (.cells #[.int .i64 0, .int .i64 0, .int .i64 0, .slice none 0 0] 25))) := (((Below.refl _ _).alloc (Nat.le_refl _) _).alloc (by simp) _).alloc (by simp; omega) _
  obtain ⟨hx0, ho0, hr0⟩ := three_newB (w := w) (A := (.cells #[.int .i64 id, .int .i64 se, .int .i64 nx, .slice ao m cap] 25)) (R := (.cells #[.int .i64 k, .string a, .string b, .int .i64 n] 32)) (S := (.cells #[.int .i64 0, .int .i64 0, .int .i64 0, .slice none 0 0] 25)) (Below.refl _ _)
  have HX0 := ghid hx0
  have HO0 := ghid ho0
  have HR0 := ghid hr0
  have hnw : IntKind.i64.wrap (nx + 1) = nx + 1 := by rw [IntKind.wrap_i64]; omega
  clear hv hs hc hm hfl hx0 ho0 hr0 ha hb
  go_enter Tryd.func6, Tryd.ntmps6
  go_wp2_with fail
  refine (C1.out _ HZ.out).mono ?_
  rintro e w1 ⟨rfl, hb1⟩
  have HB1 := ghid (HZ.out.trans (hb1.mono HZ.out.size))
  have HX1 := ghid (behind HX0.out (Below.refl _ _) hb1)
  have HO1 := ghid (behind HO0.out (Below.refl _ _) hb1)
  have HR1 := ghid (behind HR0.out (Below.refl _ _) hb1)
  obtain ⟨c0, c1, c2, c3, cf, cl⟩ := state_cells HX1.out
  have hzz1 : w.heap.size + 3 ≤ w1.heap.size := by have := hb1.size; simpa using this
  clear hb1 C1
  go_wp2_with fail
  refine (C2.out _ HB1.out).mono ?_
  rintro e w2 ⟨rfl, hrow, hb2⟩
  obtain ⟨rb, hrb⟩ : ∃ x, x = w1.heap.size + 2 := ⟨_, rfl⟩
  rw [← hrb] at hrow ⊢
  have hrl : rb < w2.heap.size := (hrow.lt rb rfl).2
  have hx2 := behind HX1.out (Below.refl _ _) hb2
  have ho2 := behind HO1.out (Below.refl _ _) hb2
  have hr2 := behind HR1.out (Below.refl _ _) hb2
  have hz2' : w.heap.size + 3 ≤ w2.heap.size := by have := hb2.size; omega
  have hq : Below w2.heap.size w2 (w2.alloc (.cells #[.int .i64 id, .int .i64 se, .int .i64 nx, .slice (some ⟨rb, 0, none⟩) m m] 25)).drew := ((Below.refl _ _).alloc (Nat.le_refl _) _).drew
  have HB2 := ghid ((HB1.out.trans (hb2.mono HB1.out.size)).trans (hq.mono (by omega)))
  have HROW2 := ghid (grow_below (grow_mono hrow (by omega : w.heap.size + 3 ≤ rb)) hq (Nat.le_refl _))
  have HX2 : Hid ((w2.alloc (.cells #[.int .i64 id, .int .i64 se, .int .i64 nx, .slice (some ⟨rb, 0, none⟩) m m] 25)).drew.heap[w.heap.size]? = some (.cells #[.int .i64 id, .int .i64 se, .int .i64 nx, .slice ao m cap] 25 (0, 0))) := (hq.block _ (by omega)).trans hx2
  have HO2 : Hid ((w2.alloc (.cells #[.int .i64 id, .int .i64 se, .int .i64 nx, .slice (some ⟨rb, 0, none⟩) m m] 25)).drew.heap[w.heap.size + 1]? = some (.cells #[.int .i64 k, .string a, .string b, .int .i64 n] 32 (0, 0))) := (hq.block _ (by omega)).trans ho2
  have HR2 : Hid ((w2.alloc (.cells #[.int .i64 id, .int .i64 se, .int .i64 nx, .slice (some ⟨rb, 0, none⟩) m m] 25)).drew.heap[w.heap.size + 1 + 1]? = some (.cells #[.int .i64 0, .int .i64 0, .int .i64 0, .slice none 0 0] 25 (0, 0))) := (hq.block _ (by omega)).trans hr2
  have HQ2 : Hid ((w2.alloc (.cells #[.int .i64 id, .int .i64 se, .int .i64 nx, .slice (some ⟨rb, 0, none⟩) m m] 25)).drew.heap[w2.heap.size]? = some (.cells #[.int .i64 id, .int .i64 se, .int .i64 nx, .slice (some ⟨rb, 0, none⟩) m m] 25 (0, 0))) := heap_alloc_new w2 _
  have HS2 : Hid ((w2.alloc (.cells #[.int .i64 id, .int .i64 se, .int .i64 nx, .slice (some ⟨rb, 0, none⟩) m m] 25)).drew.heap.size = w2.heap.size + 1) := by unfold Hid; simp
  clear c0 c1 c2 c3 cf cl
  obtain ⟨c0, c1, c2, c3, cf, cl⟩ := state_cells hx2
  obtain ⟨o0, o1, o2, o3, of, ol⟩ := state_cells ho2
  have hrw : w.heap.size + 3 ≤ rb := by omega
  clear hrow hb2 hq hx2 ho2 hr2 C2 hrb
  go_wp2_with fail
  go_region_law (first
    | (go_simp; go_at_call 16; refine (CO.out _).mono ?_; rintro e w3 ⟨rfl, hb3⟩; have HB3 := ghid (HB2.out.trans (hb3.mono HB2.out.size)); have HROW3 := ghid (grow_below HROW2.out hb3 (Nat.le_refl _)); have HX3 := ghid (behind HX2.out (Below.refl _ _) hb3); have HR3 := ghid (behind HR2.out (Below.refl _ _) hb3); have HQ3 := ghid (behind HQ2.out (Below.refl _ _) hb3); have hz3 : w2.heap.size < w3.heap.size := (by have := hb3.size; have := HS2.out; omega); clear hb3 c0 c1 c2 c3 cf cl o0 o1 o2 o3 of ol; obtain ⟨c0, c1, c2, c3, cf, cl⟩ := state_cells HX3.out; obtain ⟨q0, q1, q2, q3, qf, ql⟩ := state_cells HQ3.out)
    | (refine step_append_lies _ (by rfl) (.tmp 18) (.tmp 24) 23 (by rfl) (w.heap.size + 3) 55 i0 _ 5 56 Tryd.underlying23 hi hz0 hz1 hz2 rfl (by decide) (.slice (some ⟨rb, 0, none⟩) m m) m fl (by rfl) (HROW3.out.alloc _) ⟨w3.heap.size, 0, none⟩ 1 1 (waitCells ⟨nx, k, a, b, n⟩) (by rfl) (by rfl) (World.news_of_block (heap_alloc_new w3 _)) (waitCells_one _) (by omega) (by unfold maxLen; omega) (by omega) (by simp; omega) (w3.heap.size + 1) (by simp) ?_; intro g gc w4 hown4 hg4 hat4 hlt4; have hgr : g ≠ w2.heap.size := (hat4.elim (fun e => by simp [Value.ownBlock] at e; omega) (fun e => by omega)); have hgb := (hown4.lt g rfl).1; have HB4 := ghid (((HB3.out.alloc HB3.out.size (.cells #[.int .i64 nx, .int .i64 k, .string a, .string b, .int .i64 n] 55)).grown hg4 (by simp; omega) (fun j hj => by simp [Value.ownBlock] at hj; omega))); have hq4 : w4.heap[w2.heap.size]? = some (.cells #[.int .i64 id, .int .i64 se, .int .i64 nx, .slice (some ⟨rb, 0, none⟩) m m] 25 (0, 0)) := ((hg4.block _ (by simp; omega) (by simp [Value.ownBlock]; omega)).trans (Below.heap_alloc w3 _ _ hz3)).trans HQ3.out; have hr4 : w4.heap[w.heap.size + 1 + 1]? = some (.cells #[.int .i64 0, .int .i64 0, .int .i64 0, .slice none 0 0] 25 (0, 0)) := ((hg4.block _ (by simp; omega) (by simp [Value.ownBlock]; omega)).trans (Below.heap_alloc w3 _ _ (by omega))).trans HR3.out; have HQ4 := ghid hq4; have HR4 := ghid hr4; have HOWN4 := ghid hown4; clear c0 c1 c2 c3 cf cl q0 q1 q2 q3 qf ql; obtain ⟨q0, q1, q2, q3, qf, ql⟩ := state_cells hq4; obtain ⟨r0, r1, r2, r3, rf, rl⟩ := state_cells hr4; have hz4 : w3.heap.size < w4.heap.size := (by have := hg4.size; simp at this; omega); clear hown4 hg4 hq4 hr4))
  all_goals
    have HROW : Hid (∀ u0 u1 u2 u3 u4 u5, ((((((w4.setCell ⟨w2.heap.size, 3, none⟩ u4).setCell ⟨w2.heap.size, 2, none⟩ u5).setCell ⟨w.heap.size + 1 + 1, 0, none⟩ u0).setCell ⟨w.heap.size + 1 + 1, 1, none⟩ u1).setCell ⟨w.heap.size + 1 + 1, 2, none⟩ u2).setCell ⟨w.heap.size + 1 + 1, 3, none⟩ u3).ownsRow w.heap.size 55 5 (.slice (some ⟨g, 0, none⟩) (m + 1) gc) (m + 1) (fl ++ waitCells ⟨nx, k, a, b, n⟩)) := fun u0 u1 u2 u3 u4 u5 => grow_keep (grow_mono HOWN4.out (by omega)) fun j hj => by
      have e : g = j := by simpa [Value.ownBlock] using hj
      subst e
      rw [heap_setCell_other _ _ _ _ (by simp; omega), heap_setCell_other _ _ _ _ (by simp; omega), heap_setCell_other _ _ _ _ (by simp; omega), heap_setCell_other _ _ _ _ (by simp; omega), heap_setCell_other _ _ _ _ (by simp; omega), heap_setCell_other _ _ _ _ (by simp; omega)]
    have HBF := ghid (fun u0 u1 u2 u3 u4 u5 => zset4 ((HB4.out.setCell (by simp; omega) u4 : Below w.heap.size w (w4.setCell ⟨w2.heap.size, 3, none⟩ u4)).setCell (by simp; omega) u5 : Below w.heap.size w ((w4.setCell ⟨w2.heap.size, 3, none⟩ u4).setCell ⟨w2.heap.size, 2, none⟩ u5)) (b := w.heap.size + 1 + 1) (by omega) u0 u1 u2 u3)
    clear HOWN4 HB4 HQ4 HR4 HROW3 HX3 HR3 HQ3 hgb
    go_wp2
    refine bodyPost_ret (v := .tuple #[.agg #[.int .i64 id, .int .i64 se, .int .i64 (nx + 1), .slice (some ⟨g, 0, none⟩) (m + 1) gc], .int .i64 0]) (by simp [results, Tryd.results6, go_sem, r0, r1, r2, r3]) rfl ?_
    exact ⟨_, _, rfl, by rw [HFS.out]; exact HROW.out _ _ _ _ _ _, HBF.out _ _ _ _ _ _⟩

end Go.Proofs.YtcjoekjjebcomalDoor
