/- The document's StartedOf. (Written by gen_rstart.py.) (joined by program) -/
import Derived.Test.YtcjoekjjebcomakCS19
import Derived.Test.YtcjoekjjebcomakCS22
namespace Go.Proofs.Ytcjoekjjebcomak

open Go.RowKit

set_option maxRecDepth 100000 in
set_option maxHeartbeats 6400000 in
theorem startedOf_bad (v : Value) (c : CustD) (k n : Int) (a b : ByteArray) (w : World) (B : Nat) (hv : CustR w B v c) (hB : B ≤ w.heap.size) (ha : a.size ≤ 140737488351232) (hb : b.size ≤ 140737488351232) (hs : startE c k a b n ≠ 0) :
    Calls Try.prog 17 #[v, .agg #[.int .i64 k, .string a, .string b, .int .i64 n]] w fun e w' => e = .returned (.tuple #[.agg #[.int .i64 0, .int .i64 0, .int .i64 0, .slice none 0 0], .int .i64 (startE c k a b n)]) ∧ Below w.heap.size w w' := by
  have C1 := ghid (fun u (hu : Below w.heap.size w u) => customerFault_any v c u B (hv.below hu hB) (by have := hu.size; omega))
  have C2 := ghid (fun u => opFault_any k a b n u ha hb)
  have CK : Hid (checkC c = 0 → ∀ u, Below w.heap.size w u → Calls Try.prog 29 #[v] u fun e w' => e = .returned (.int .i64 (knownC c)) ∧ Below u.heap.size u w') := fun hc u hu => knownOf_any v c u B (hv.below hu hB) (by have := hu.size; omega) (GoodC.of hc).next (GoodC.of hc).seqs
  have HKN : Hid (checkC c = 0 → (0 ≤ knownC c ∧ knownC c ≤ c.next - 1) ∧ 1 ≤ c.next ∧ c.next ≤ 1048577) := fun hc => ⟨(GoodC.of hc).known, (GoodC.of hc).next⟩
  have HST : Hid (startE c k a b n = if checkC c ≠ 0 then checkC c else if c.session = 0 then 11 else if opE k a b n ≠ 0 then opE k a b n else if 1048576 < c.next ∨ 4 < c.next - knownC c then 8 else 0) := rfl
  obtain ⟨ao, cap, rfl, -⟩ := hv.shape
  obtain ⟨cc, hcc⟩ : ∃ z, z = checkC c := ⟨_, rfl⟩
  obtain ⟨oe, hoe⟩ : ∃ z, z = opE k a b n := ⟨_, rfl⟩
  obtain ⟨kn, hkn⟩ : ∃ z, z = knownC c := ⟨_, rfl⟩
  obtain ⟨st, hst⟩ : ∃ z, z = startE c k a b n := ⟨_, rfl⟩
  obtain ⟨id, hid⟩ : ∃ z, z = c.id := ⟨_, rfl⟩
  obtain ⟨se, hse⟩ : ∃ z, z = c.session := ⟨_, rfl⟩
  obtain ⟨nx, hnx⟩ : ∃ z, z = c.next := ⟨_, rfl⟩
  obtain ⟨m, hm⟩ : ∃ z, z = c.waits.length := ⟨_, rfl⟩
  rw [← hid, ← hse, ← hnx, ← hm] at C1 CK
  rw [← hcc] at C1
  rw [← hoe] at C2
  rw [← hcc, ← hkn] at CK
  rw [← hcc, ← hkn, ← hnx] at HKN
  rw [← hst, ← hcc, ← hoe, ← hkn, ← hse, ← hnx] at HST
  rw [← hst] at hs
  rw [← hst, ← hid, ← hse, ← hnx, ← hm]
  have HZ : Hid (Below w.heap.size w (((w.alloc (.cells #[.int .i64 id, .int .i64 se, .int .i64 nx, .slice ao m cap] 24)).alloc (.cells #[.int .i64 k, .string a, .string b, .int .i64 n] 34)).alloc (.cells #[.int .i64 0, .int .i64 0, .int .i64 0, .slice none 0 0] 24))) := (((Below.refl _ _).alloc (Nat.le_refl _) _).alloc (by simp) _).alloc (by simp; omega) _
  obtain ⟨hx0, ho0, hr0⟩ := three_newB (w := w) (A := (.cells #[.int .i64 id, .int .i64 se, .int .i64 nx, .slice ao m cap] 24)) (R := (.cells #[.int .i64 k, .string a, .string b, .int .i64 n] 34)) (S := (.cells #[.int .i64 0, .int .i64 0, .int .i64 0, .slice none 0 0] 24)) (Below.refl _ _)
  have HX0 := ghid hx0
  have HO0 := ghid ho0
  have HR0 := ghid hr0
  clear hx0 ho0 hr0
  clear hv hcc hoe hkn hst hid hse hnx hm
  by_cases h1 : cc = 0
  · have CK2 := ghid (CK.out h1)
    obtain ⟨hk, hn⟩ := HKN.out h1
    subst h1
    by_cases h2 : se = 0
    · subst h2
      have HE : Hid (st = 11) := by unfold Hid; rw [HST.out, if_neg (by simp), if_pos rfl]
      clear hk hn hs
      go_enter Try.func17, Try.ntmps17
      go_wp2_with fail
      refine (C1.out _ HZ.out).mono ?_
      rintro e w1 ⟨rfl, hb1⟩
      have HB1 := ghid (HZ.out.trans (hb1.mono HZ.out.size))
      have HX1 := ghid (behind HX0.out (Below.refl _ _) hb1)
      have HO1 := ghid (behind HO0.out (Below.refl _ _) hb1)
      have HR1 := ghid (behind HR0.out (Below.refl _ _) hb1)
      have hzz1 : w.heap.size + 3 ≤ w1.heap.size := by have := hb1.size; simpa using this
      obtain ⟨c0, c1, c2, c3, cf, cl⟩ := state_cells HX1.out
      obtain ⟨o0, o1, o2, o3, of, ol⟩ := state_cells HO1.out
      clear hb1
      go_wp2_with fail
      go_quiet (fail)
      obtain ⟨r0, r1, r2, r3, rf, rl⟩ := state_cells HR1.out
      go_wp2
      refine bodyPost_ret (v := .tuple #[.agg #[.int .i64 0, .int .i64 0, .int .i64 0, .slice none 0 0], .int .i64 st]) (by simp [results, Try.results17, go_sem, r0, r1, r2, r3, HE.out]) rfl ?_
      exact ⟨rfl, zset4 (HB1.out.trans (g_drewN_below _ _ _)) (by omega) _ _ _ _⟩
    · have hseb : (se == 0) = false := beq_eq_false_iff_ne.2 h2
      by_cases h3 : oe = 0
      · subst h3
        by_cases h4 : 1048576 < nx
        · have HE : Hid (st = 8) := by unfold Hid; rw [HST.out, if_neg (by simp), if_neg h2, if_neg (by simp), if_pos (.inl h4)]
          have h4d : decide (1048576 < nx) = true := decide_eq_true h4
          clear hk hn h2 hs
          go_enter Try.func17, Try.ntmps17
          go_wp2_with fail
          refine (C1.out _ HZ.out).mono ?_
          rintro e w1 ⟨rfl, hb1⟩
          have HB1 := ghid (HZ.out.trans (hb1.mono HZ.out.size))
          have HX1 := ghid (behind HX0.out (Below.refl _ _) hb1)
          have HO1 := ghid (behind HO0.out (Below.refl _ _) hb1)
          have HR1 := ghid (behind HR0.out (Below.refl _ _) hb1)
          have hzz1 : w.heap.size + 3 ≤ w1.heap.size := by have := hb1.size; simpa using this
          obtain ⟨c0, c1, c2, c3, cf, cl⟩ := state_cells HX1.out
          obtain ⟨o0, o1, o2, o3, of, ol⟩ := state_cells HO1.out
          clear hb1
          go_wp2_with fail
          refine (C2.out _).mono ?_
          rintro e w2 ⟨rfl, hb2⟩
          have HB2 := ghid (HB1.out.trans (hb2.mono HB1.out.size))
          have HX2 := ghid (behind HX1.out (Below.refl _ _) hb2)
          have HO2 := ghid (behind HO1.out (Below.refl _ _) hb2)
          have HR2 := ghid (behind HR1.out (Below.refl _ _) hb2)
          have hzz2 : w.heap.size + 3 ≤ w2.heap.size := by have := hb2.size; omega
          clear c0 c1 c2 c3 cf cl o0 o1 o2 o3 of ol
          obtain ⟨c0, c1, c2, c3, cf, cl⟩ := state_cells HX2.out
          clear hb2
          go_wp2_with fail
          go_quiet (fail)
          obtain ⟨r0, r1, r2, r3, rf, rl⟩ := state_cells HR2.out
          go_wp2
          refine bodyPost_ret (v := .tuple #[.agg #[.int .i64 0, .int .i64 0, .int .i64 0, .slice none 0 0], .int .i64 st]) (by simp [results, Try.results17, go_sem, r0, r1, r2, r3, HE.out]) rfl ?_
          exact ⟨rfl, zset4 (HB2.out.trans (g_drewN_below _ _ _)) (by omega) _ _ _ _⟩
        · have h5 : 4 < nx - kn := by
            refine Classical.byContradiction fun h5 => hs ?_
            rw [HST.out, if_neg (by simp), if_neg h2, if_neg (by simp), if_neg (by omega)]
          have HE : Hid (st = 8) := by unfold Hid; rw [HST.out, if_neg (by simp), if_neg h2, if_neg (by simp), if_pos (.inr h5)]
          have h4' : nx ≤ 1048576 := by omega
          have h4d : decide (1048576 < nx) = false := decide_eq_false h4
          have hkw : IntKind.i64.wrap (nx - kn) = nx - kn := by rw [IntKind.wrap_i64]; omega
          clear h2 hs
          go_enter Try.func17, Try.ntmps17
          go_wp2_with fail
          refine (C1.out _ HZ.out).mono ?_
          rintro e w1 ⟨rfl, hb1⟩
          have HB1 := ghid (HZ.out.trans (hb1.mono HZ.out.size))
          have HX1 := ghid (behind HX0.out (Below.refl _ _) hb1)
          have HO1 := ghid (behind HO0.out (Below.refl _ _) hb1)
          have HR1 := ghid (behind HR0.out (Below.refl _ _) hb1)
          have hzz1 : w.heap.size + 3 ≤ w1.heap.size := by have := hb1.size; simpa using this
          obtain ⟨c0, c1, c2, c3, cf, cl⟩ := state_cells HX1.out
          obtain ⟨o0, o1, o2, o3, of, ol⟩ := state_cells HO1.out
          clear hb1
          go_wp2_with fail
          refine (C2.out _).mono ?_
          rintro e w2 ⟨rfl, hb2⟩
          have HB2 := ghid (HB1.out.trans (hb2.mono HB1.out.size))
          have HX2 := ghid (behind HX1.out (Below.refl _ _) hb2)
          have HO2 := ghid (behind HO1.out (Below.refl _ _) hb2)
          have HR2 := ghid (behind HR1.out (Below.refl _ _) hb2)
          have hzz2 : w.heap.size + 3 ≤ w2.heap.size := by have := hb2.size; omega
          clear c0 c1 c2 c3 cf cl o0 o1 o2 o3 of ol
          obtain ⟨c0, c1, c2, c3, cf, cl⟩ := state_cells HX2.out
          clear hb2
          go_wp2_with fail
          go_region_held3 (fun w' => w'.cell? ⟨w.heap.size, 0, none⟩ = some (.int .i64 id) ∧ w'.cell? ⟨w.heap.size, 1, none⟩ = some (.int .i64 se) ∧ w'.cell? ⟨w.heap.size, 2, none⟩ = some (.int .i64 nx) ∧ w'.cell? ⟨w.heap.size, 3, none⟩ = some (.slice ao m cap)) (go_keep)
            ((go_at_call 29; refine (CK2.out _ HB2.out.drew).mono ?_; rintro e w3 ⟨rfl, hb3⟩; have HB3 := ghid (HB2.out.drew.trans (hb3.mono HB2.out.drew.size)); have HX3 := ghid (behind HX2.out ((Below.refl _ _).drew) hb3); have HO3 := ghid (behind HO2.out ((Below.refl _ _).drew) hb3); have HR3 := ghid (behind HR2.out ((Below.refl _ _).drew) hb3); have hzz3 : w.heap.size + 3 ≤ w3.heap.size := (by have := hb3.size; have e : w2.drew.heap.size = w2.heap.size := rfl; omega); clear hb3 c0 c1 c2 c3 cf cl; obtain ⟨c0, c1, c2, c3, cf, cl⟩ := state_cells HX3.out))
          all_goals
            obtain ⟨r0, r1, r2, r3, rf, rl⟩ := state_cells HR3.out
            go_wp2
            refine bodyPost_ret (v := .tuple #[.agg #[.int .i64 0, .int .i64 0, .int .i64 0, .slice none 0 0], .int .i64 st]) (by simp [results, Try.results17, go_sem, r0, r1, r2, r3, HE.out]) rfl ?_
            exact ⟨rfl, zset4 HB3.out (by omega) _ _ _ _⟩
      · have hob : (oe != 0) = true := by simpa using h3
        have hoc : (oe == 0) = false := by simpa using h3
        have HE : Hid (st = oe) := by unfold Hid; rw [HST.out, if_neg (by simp), if_neg h2, if_pos h3]
        clear hk hn h2 h3 hs
        go_enter Try.func17, Try.ntmps17
        go_wp2_with fail
        refine (C1.out _ HZ.out).mono ?_
        rintro e w1 ⟨rfl, hb1⟩
        have HB1 := ghid (HZ.out.trans (hb1.mono HZ.out.size))
        have HX1 := ghid (behind HX0.out (Below.refl _ _) hb1)
        have HO1 := ghid (behind HO0.out (Below.refl _ _) hb1)
        have HR1 := ghid (behind HR0.out (Below.refl _ _) hb1)
        have hzz1 : w.heap.size + 3 ≤ w1.heap.size := by have := hb1.size; simpa using this
        obtain ⟨c0, c1, c2, c3, cf, cl⟩ := state_cells HX1.out
        obtain ⟨o0, o1, o2, o3, of, ol⟩ := state_cells HO1.out
        clear hb1
        go_wp2_with fail
        refine (C2.out _).mono ?_
        rintro e w2 ⟨rfl, hb2⟩
        have HB2 := ghid (HB1.out.trans (hb2.mono HB1.out.size))
        have HX2 := ghid (behind HX1.out (Below.refl _ _) hb2)
        have HO2 := ghid (behind HO1.out (Below.refl _ _) hb2)
        have HR2 := ghid (behind HR1.out (Below.refl _ _) hb2)
        have hzz2 : w.heap.size + 3 ≤ w2.heap.size := by have := hb2.size; omega
        clear c0 c1 c2 c3 cf cl o0 o1 o2 o3 of ol
        obtain ⟨c0, c1, c2, c3, cf, cl⟩ := state_cells HX2.out
        clear hb2
        go_wp2_with fail
        go_quiet (fail)
        obtain ⟨r0, r1, r2, r3, rf, rl⟩ := state_cells HR2.out
        go_wp2
        refine bodyPost_ret (v := .tuple #[.agg #[.int .i64 0, .int .i64 0, .int .i64 0, .slice none 0 0], .int .i64 st]) (by simp [results, Try.results17, go_sem, r0, r1, r2, r3, HE.out]) rfl ?_
        exact ⟨rfl, zset4 (HB2.out.trans (g_drewN_below _ _ _)) (by omega) _ _ _ _⟩
  · have hcb : (cc != 0) = true := by simpa using h1
    have hcd : (cc == 0) = false := by simpa using h1
    have HE : Hid (st = cc) := by unfold Hid; rw [HST.out, if_pos h1]
    clear h1 hs
    go_enter Try.func17, Try.ntmps17
    go_wp2_with fail
    refine (C1.out _ HZ.out).mono ?_
    rintro e w1 ⟨rfl, hb1⟩
    have HB1 := ghid (HZ.out.trans (hb1.mono HZ.out.size))
    have HX1 := ghid (behind HX0.out (Below.refl _ _) hb1)
    have HO1 := ghid (behind HO0.out (Below.refl _ _) hb1)
    have HR1 := ghid (behind HR0.out (Below.refl _ _) hb1)
    have hzz1 : w.heap.size + 3 ≤ w1.heap.size := by have := hb1.size; simpa using this
    obtain ⟨c0, c1, c2, c3, cf, cl⟩ := state_cells HX1.out
    obtain ⟨o0, o1, o2, o3, of, ol⟩ := state_cells HO1.out
    clear hb1
    go_wp2_with fail
    go_quiet (fail)
    obtain ⟨r0, r1, r2, r3, rf, rl⟩ := state_cells HR1.out
    go_wp2
    refine bodyPost_ret (v := .tuple #[.agg #[.int .i64 0, .int .i64 0, .int .i64 0, .slice none 0 0], .int .i64 st]) (by simp [results, Try.results17, go_sem, r0, r1, r2, r3, HE.out]) rfl ?_
    exact ⟨rfl, zset4 (HB1.out.trans (g_drewN_below _ _ _)) (by omega) _ _ _ _⟩

set_option maxRecDepth 100000 in
set_option maxHeartbeats 6400000 in
theorem startedOf_ok (v : Value) (c : CustD) (k n : Int) (a b : ByteArray) (w : World) (B : Nat) (hv : CustR w B v c) (hB : B ≤ w.heap.size) (ha : a.size ≤ 140737488351232) (hb : b.size ≤ 140737488351232) (hs : startE c k a b n = 0) :
    Calls Try.prog 17 #[v, .agg #[.int .i64 k, .string a, .string b, .int .i64 n]] w fun e w' => ∃ vo vc, e = .returned (.tuple #[.agg #[.int .i64 c.id, .int .i64 c.session, .int .i64 (c.next + 1), .slice vo (c.waits.length + 1) vc], .int .i64 0]) ∧ w'.ownsRow w.heap.size 43 5 (.slice vo (c.waits.length + 1) vc) (c.waits.length + 1) (flatG waitCells (c.waits ++ [⟨c.next, k, a, b, n⟩])) ∧ Below w.heap.size w w' := by
  obtain ⟨i0, hi, hz0, hz1, hz2⟩ := info_parts Try.infoWait
  have C1 := ghid (fun u (hu : Below w.heap.size w u) => customerFault_any v c u B (hv.below hu hB) (by have := hu.size; omega))
  have C2 := ghid (fun u => opFault_any k a b n u ha hb)
  have CK : Hid (checkC c = 0 → ∀ u, Below w.heap.size w u → Calls Try.prog 29 #[v] u fun e w' => e = .returned (.int .i64 (knownC c)) ∧ Below u.heap.size u w') := fun hc u hu => knownOf_any v c u B (hv.below hu hB) (by have := hu.size; omega) (GoodC.of hc).next (GoodC.of hc).seqs
  have HKN : Hid (checkC c = 0 → (0 ≤ knownC c ∧ knownC c ≤ c.next - 1) ∧ 1 ≤ c.next ∧ c.next ≤ 1048577) := fun hc => ⟨(GoodC.of hc).known, (GoodC.of hc).next⟩
  have HST : Hid (startE c k a b n = if checkC c ≠ 0 then checkC c else if c.session = 0 then 11 else if opE k a b n ≠ 0 then opE k a b n else if 1048576 < c.next ∨ 4 < c.next - knownC c then 8 else 0) := rfl
  have C3 := ghid (fun u (hu : Below w.heap.size w u) => customerCopy_any v c u B (hv.below hu hB) (by have := hu.size; omega))
  have hc : checkC c = 0 := by
    unfold startE at hs
    by_cases e : checkC c = 0
    · exact e
    · rw [if_pos e] at hs; exact absurd hs e
  have hlen := (GoodC.of hc).len
  have HFS : Hid (flatG waitCells (c.waits ++ [⟨c.next, k, a, b, n⟩]) = flatG waitCells c.waits ++ waitCells ⟨c.next, k, a, b, n⟩) := flatG_snoc _ _
  obtain ⟨ao, cap, rfl, -⟩ := hv.shape
  obtain ⟨cc, hcc⟩ : ∃ z, z = checkC c := ⟨_, rfl⟩
  obtain ⟨oe, hoe⟩ : ∃ z, z = opE k a b n := ⟨_, rfl⟩
  obtain ⟨kn, hkn⟩ : ∃ z, z = knownC c := ⟨_, rfl⟩
  obtain ⟨st, hst⟩ : ∃ z, z = startE c k a b n := ⟨_, rfl⟩
  obtain ⟨id, hid⟩ : ∃ z, z = c.id := ⟨_, rfl⟩
  obtain ⟨se, hse⟩ : ∃ z, z = c.session := ⟨_, rfl⟩
  obtain ⟨nx, hnx⟩ : ∃ z, z = c.next := ⟨_, rfl⟩
  obtain ⟨m, hm⟩ : ∃ z, z = c.waits.length := ⟨_, rfl⟩
  rw [← hid, ← hse, ← hnx, ← hm] at C1 CK
  rw [← hcc] at C1
  rw [← hoe] at C2
  rw [← hcc, ← hkn] at CK
  rw [← hcc, ← hkn, ← hnx] at HKN
  rw [← hst, ← hcc, ← hoe, ← hkn, ← hse, ← hnx] at HST
  rw [← hst] at hs
  rw [← hid, ← hse, ← hnx, ← hm] at C3
  rw [← hnx] at HFS
  rw [← hm] at hlen
  rw [← hid, ← hse, ← hnx, ← hm]
  obtain ⟨fl, hfl⟩ : ∃ z, z = flatG waitCells c.waits := ⟨_, rfl⟩
  rw [← hfl] at C3 HFS
  obtain ⟨wl, hwl⟩ : ∃ z, z = c.waits := ⟨_, rfl⟩
  rw [← hwl] at HFS ⊢
  rw [← hcc] at hc
  have HZ : Hid (Below w.heap.size w (((w.alloc (.cells #[.int .i64 id, .int .i64 se, .int .i64 nx, .slice ao m cap] 24)).alloc (.cells #[.int .i64 k, .string a, .string b, .int .i64 n] 34)).alloc (.cells #[.int .i64 0, .int .i64 0, .int .i64 0, .slice none 0 0] 24))) := (((Below.refl _ _).alloc (Nat.le_refl _) _).alloc (by simp) _).alloc (by simp; omega) _
  obtain ⟨hx0, ho0, hr0⟩ := three_newB (w := w) (A := (.cells #[.int .i64 id, .int .i64 se, .int .i64 nx, .slice ao m cap] 24)) (R := (.cells #[.int .i64 k, .string a, .string b, .int .i64 n] 34)) (S := (.cells #[.int .i64 0, .int .i64 0, .int .i64 0, .slice none 0 0] 24)) (Below.refl _ _)
  have HX0 := ghid hx0
  have HO0 := ghid ho0
  have HR0 := ghid hr0
  clear hx0 ho0 hr0
  have CK2 := ghid (CK.out hc)
  obtain ⟨hk, hn⟩ := HKN.out hc
  have hnw : IntKind.i64.wrap (nx + 1) = nx + 1 := by rw [IntKind.wrap_i64]; omega
  have h2 : ¬ se = 0 := by
    intro e
    rw [HST.out, if_neg (by simpa using hc), if_pos e] at hs
    omega
  have h3 : oe = 0 := by
    refine Classical.byContradiction fun e => ?_
    rw [HST.out, if_neg (by simpa using hc), if_neg h2, if_pos e] at hs
    exact e hs
  have h45 : ¬ (1048576 < nx ∨ 4 < nx - kn) := by
    intro e
    rw [HST.out, if_neg (by simpa using hc), if_neg h2, if_neg (by simpa using h3), if_pos e] at hs
    omega
  have h4 : ¬ 1048576 < nx := fun e => h45 (.inl e)
  have h5 : ¬ 4 < nx - kn := fun e => h45 (.inr e)
  subst h3
  subst hc
  have hseb : (se == 0) = false := beq_eq_false_iff_ne.2 h2
  have h4d : decide (1048576 < nx) = false := decide_eq_false h4
  have hkw : IntKind.i64.wrap (nx - kn) = nx - kn := by rw [IntKind.wrap_i64]; omega
  have h4' : nx ≤ 1048576 := by omega
  have h5' : nx - kn ≤ 4 := by omega
  clear hv hcc hoe hkn hst hid hse hnx hm hfl hwl hs h2 h45 CK HST HKN
  go_enter Try.func17, Try.ntmps17
  go_wp2_with fail
  refine (C1.out _ HZ.out).mono ?_
  rintro e w1 ⟨rfl, hb1⟩
  have HB1 := ghid (HZ.out.trans (hb1.mono HZ.out.size))
  have HX1 := ghid (behind HX0.out (Below.refl _ _) hb1)
  have HO1 := ghid (behind HO0.out (Below.refl _ _) hb1)
  have HR1 := ghid (behind HR0.out (Below.refl _ _) hb1)
  have hzz1 : w.heap.size + 3 ≤ w1.heap.size := by have := hb1.size; simpa using this
  obtain ⟨c0, c1, c2, c3, cf, cl⟩ := state_cells HX1.out
  obtain ⟨o0, o1, o2, o3, of, ol⟩ := state_cells HO1.out
  clear hb1
  go_wp2_with fail
  refine (C2.out _).mono ?_
  rintro e w2 ⟨rfl, hb2⟩
  have HB2 := ghid (HB1.out.trans (hb2.mono HB1.out.size))
  have HX2 := ghid (behind HX1.out (Below.refl _ _) hb2)
  have HO2 := ghid (behind HO1.out (Below.refl _ _) hb2)
  have HR2 := ghid (behind HR1.out (Below.refl _ _) hb2)
  have hzz2 : w.heap.size + 3 ≤ w2.heap.size := by have := hb2.size; omega
  clear c0 c1 c2 c3 cf cl o0 o1 o2 o3 of ol
  obtain ⟨c0, c1, c2, c3, cf, cl⟩ := state_cells HX2.out
  clear hb2
  go_wp2_with fail
  go_region_held3 (fun w' => w'.cell? ⟨w.heap.size, 0, none⟩ = some (.int .i64 id) ∧ w'.cell? ⟨w.heap.size, 1, none⟩ = some (.int .i64 se) ∧ w'.cell? ⟨w.heap.size, 2, none⟩ = some (.int .i64 nx) ∧ w'.cell? ⟨w.heap.size, 3, none⟩ = some (.slice ao m cap)) (go_keep)
    ((go_at_call 29; refine (CK2.out _ HB2.out.drew).mono ?_; rintro e w3 ⟨rfl, hb3⟩; have HB3 := ghid (HB2.out.drew.trans (hb3.mono HB2.out.drew.size)); have HX3 := ghid (behind HX2.out ((Below.refl _ _).drew) hb3); have HO3 := ghid (behind HO2.out ((Below.refl _ _).drew) hb3); have HR3 := ghid (behind HR2.out ((Below.refl _ _).drew) hb3); have hzz3 : w.heap.size + 3 ≤ w3.heap.size := (by have := hb3.size; have e : w2.drew.heap.size = w2.heap.size := rfl; omega); clear hb3 c0 c1 c2 c3 cf cl; obtain ⟨c0, c1, c2, c3, cf, cl⟩ := state_cells HX3.out))
  all_goals
    clear h4 h5 h4d hkw
    go_wp2_with fail
    refine (C3.out _ HB3.out).mono ?_
    rintro e w4 ⟨wv, rfl, hrow, hb4⟩
    obtain ⟨vo, vc, rfl⟩ := grow_shape hrow
    have hx4 := behind HX3.out (Below.refl _ _) hb4
    have ho4 := behind HO3.out (Below.refl _ _) hb4
    have hr4 := behind HR3.out (Below.refl _ _) hb4
    have hzz4 : w.heap.size + 3 ≤ w4.heap.size := by have := hb4.size; omega
    have hq : Below w4.heap.size w4 (w4.alloc (.cells #[.int .i64 id, .int .i64 se, .int .i64 nx, .slice vo m vc] 24)) := (Below.refl _ _).alloc (Nat.le_refl _) _
    have HB4 := ghid ((HB3.out.trans (hb4.mono HB3.out.size)).trans (hq.mono (by omega)))
    have HROW4 := ghid (grow_below (grow_mono hrow (by omega : w.heap.size + 3 ≤ _)) hq (Nat.le_refl _))
    have HLT4 : Hid (∀ j, (Value.slice vo m vc).ownBlock = some j → w.heap.size + 3 ≤ j ∧ j < w4.heap.size) := fun j hj => by
      have := hrow.lt j hj
      omega
    have HR4 : Hid ((w4.alloc (.cells #[.int .i64 id, .int .i64 se, .int .i64 nx, .slice vo m vc] 24)).heap[w.heap.size + 1 + 1]? = some (.cells #[.int .i64 0, .int .i64 0, .int .i64 0, .slice none 0 0] 24 (0, 0))) := (hq.block _ (by omega)).trans hr4
    have HQ4 : Hid ((w4.alloc (.cells #[.int .i64 id, .int .i64 se, .int .i64 nx, .slice vo m vc] 24)).heap[w4.heap.size]? = some (.cells #[.int .i64 id, .int .i64 se, .int .i64 nx, .slice vo m vc] 24 (0, 0))) := heap_alloc_new w4 _
    clear c0 c1 c2 c3 cf cl
    obtain ⟨c0, c1, c2, c3, cf, cl⟩ := state_cells hx4
    obtain ⟨o0, o1, o2, o3, of, ol⟩ := state_cells ho4
    clear hrow hb4 hq hx4 ho4 hr4 C3
    go_wp2_with (at_builtin; refine wpList_append_lies _ rfl (.tmp 43) (.tmp 48) 22 rfl (w.heap.size + 3) 43 i0 _ 5 56 Try.underlying22 hi hz0 hz1 hz2 rfl (by decide) (.slice vo m vc) m fl rfl (HROW4.out.alloc _) ⟨w4.heap.size + 1, 0, none⟩ 1 1 (waitCells ⟨nx, k, a, b, n⟩) rfl rfl (by have := World.news_of_block (heap_alloc_new (w4.alloc (.cells #[.int .i64 id, .int .i64 se, .int .i64 nx, .slice vo m vc] 24)) (.cells #[.int .i64 nx, .int .i64 k, .string a, .string b, .int .i64 n] 43)); rwa [World.size_alloc] at this) (waitCells_one _) (by omega) (by unfold maxLen; omega) (by omega) (by simp; omega) (w4.heap.size + 1 + 1) (by simp) ?_)
    intro g gc w5 hown5 hg5 hat5 hlt5
    have hgr : g ≠ w4.heap.size := hat5.elim (fun e => by have := (HLT4.out g e).2; omega) (fun e => by omega)
    have hgb := (hown5.lt g rfl).1
    have HB5 := ghid ((HB4.out.alloc HB4.out.size (.cells #[.int .i64 nx, .int .i64 k, .string a, .string b, .int .i64 n] 43)).grown hg5 (by simp; omega) (fun j hj => by have := (HLT4.out j hj).1; omega))
    have hq5 : w5.heap[w4.heap.size]? = some (.cells #[.int .i64 id, .int .i64 se, .int .i64 nx, .slice vo m vc] 24 (0, 0)) := ((hg5.block _ (by simp; omega) (fun e => by have := (HLT4.out _ e.symm).2; omega)).trans (Below.heap_alloc _ _ _ (by simp))).trans HQ4.out
    have hr5 : w5.heap[w.heap.size + 1 + 1]? = some (.cells #[.int .i64 0, .int .i64 0, .int .i64 0, .slice none 0 0] 24 (0, 0)) := ((hg5.block _ (by simp; omega) (fun e => by have := (HLT4.out _ e.symm).1; omega)).trans (Below.heap_alloc _ _ _ (by simp; omega))).trans HR4.out
    clear c0 c1 c2 c3 cf cl o0 o1 o2 o3 of ol
    obtain ⟨q0, q1, q2, q3, qf, ql⟩ := state_cells hq5
    obtain ⟨r0, r1, r2, r3, rf, rl⟩ := state_cells hr5
    have HROW : Hid (∀ u0 u1 u2 u3 u4 u5, ((((((w5.setCell ⟨w4.heap.size, 3, none⟩ u4).setCell ⟨w4.heap.size, 2, none⟩ u5).setCell ⟨w.heap.size + 1 + 1, 0, none⟩ u0).setCell ⟨w.heap.size + 1 + 1, 1, none⟩ u1).setCell ⟨w.heap.size + 1 + 1, 2, none⟩ u2).setCell ⟨w.heap.size + 1 + 1, 3, none⟩ u3).ownsRow w.heap.size 43 5 (.slice (some ⟨g, 0, none⟩) (m + 1) gc) (m + 1) (fl ++ waitCells ⟨nx, k, a, b, n⟩)) := fun u0 u1 u2 u3 u4 u5 => grow_keep (grow_mono hown5 (by omega)) fun j hj => by
      have e : g = j := by simpa [Value.ownBlock] using hj
      subst e
      rw [heap_setCell_other _ _ _ _ (by simp; omega), heap_setCell_other _ _ _ _ (by simp; omega), heap_setCell_other _ _ _ _ (by simp; omega), heap_setCell_other _ _ _ _ (by simp; omega), heap_setCell_other _ _ _ _ (by simp; omega), heap_setCell_other _ _ _ _ (by simp; omega)]
    have HBF := ghid (fun u0 u1 u2 u3 u4 u5 => zset4 ((HB5.out.setCell (by simp; omega) u4 : Below w.heap.size w (w5.setCell ⟨w4.heap.size, 3, none⟩ u4)).setCell (by simp; omega) u5 : Below w.heap.size w ((w5.setCell ⟨w4.heap.size, 3, none⟩ u4).setCell ⟨w4.heap.size, 2, none⟩ u5)) (b := w.heap.size + 1 + 1) (by omega) u0 u1 u2 u3)
    clear hown5 hg5 hat5 hq5 hr5 HB5 HQ4 HR4 HROW4 HB4 HLT4 hgb HX3 HO3 HR3
    go_wp2
    refine bodyPost_ret (v := .tuple #[.agg #[.int .i64 id, .int .i64 se, .int .i64 (nx + 1), .slice (some ⟨g, 0, none⟩) (m + 1) gc], .int .i64 0]) (by simp [results, Try.results17, go_sem, r0, r1, r2, r3]) rfl ?_
    exact ⟨_, _, rfl, by rw [HFS.out]; exact HROW.out _ _ _ _ _ _, HBF.out _ _ _ _ _ _⟩

end Go.Proofs.Ytcjoekjjebcomak
