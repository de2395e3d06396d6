/- The document's ToldOf. (Written by gen_told.py.) (joined by program) -/
import Derived.Deep.AppendLies
import Derived.Deep.RegionLaw
import Derived.Test.YtcjoekjjebcomalCH20
import Derived.Test.YtcjoekjjebcomalCH21
import Derived.Test.YtcjoekjjebcomalCH24
import Derived.Test.YtcjoekjjebcomalCH28
namespace Go.Proofs.Ytcjoekjjebcomal

open Go.RowKit

set_option maxRecDepth 100000 in
set_option maxHeartbeats 1600000 in
theorem told_refused (v : Value) (c : CustD) (cl q rc rn : Int) (rt : ByteArray) (w : World) (B : Nat) (hv : CustR w B v c) (hB : B ≤ w.heap.size) (hs : checkC c ≠ 0 ∨ cl ≠ c.id) :
    Calls Try.prog 6 #[v, .agg #[.int .i64 cl, .int .i64 q, .int .i64 rc, .int .i64 rn, .string rt]] w fun e w' => ∃ v', e = .returned (.tuple #[v', .int .i64 (hearE c cl q rc rn)]) ∧ CustO w' w.heap.size v' (hearC c cl q rc rn) ∧ Below w.heap.size w w' := by
  have C1 := ghid (fun u (hu : Below w.heap.size w u) => customerFault_any v c u B (hv.below hu hB) (by have := hu.size; omega))
  have H1 : Hid (checkC c ≠ 0 → hearE c cl q rc rn = checkC c) := fun h => by unfold hearE; rw [if_pos h]
  have H2 : Hid (checkC c = 0 → cl ≠ c.id → hearE c cl q rc rn = 6) := fun h h' => by unfold hearE; rw [if_neg (by simpa using h), if_pos h']
  have HCC : Hid (hearE c cl q rc rn ≠ 0 → hearC c cl q rc rn = .zero) := fun h => if_neg h
  obtain ⟨ao, cap, rfl, -⟩ := hv.shape
  obtain ⟨cc, hcc⟩ : ∃ z, z = checkC c := ⟨_, rfl⟩
  obtain ⟨r, hre⟩ : ∃ z, z = hearE c cl q rc rn := ⟨_, rfl⟩
  obtain ⟨d, hd⟩ : ∃ z, z = hearC c cl q rc rn := ⟨_, rfl⟩
  obtain ⟨id, hid⟩ : ∃ z, z = c.id := ⟨_, rfl⟩
  obtain ⟨se, hse⟩ : ∃ z, z = c.session := ⟨_, rfl⟩
  obtain ⟨nx, hnx⟩ : ∃ z, z = c.next := ⟨_, rfl⟩
  obtain ⟨m, hm⟩ : ∃ z, z = c.waits.length := ⟨_, rfl⟩
  rw [← hcc, ← hid, ← hse, ← hnx, ← hm] at C1
  rw [← hcc, ← hre] at H1
  rw [← hcc, ← hre, ← hid] at H2
  rw [← hre, ← hd] at HCC
  rw [← hcc, ← hid] at hs
  rw [← hre, ← hd, ← hid, ← hse, ← hnx, ← hm]
  have HZ : Hid (Below w.heap.size w (((w.alloc (.cells #[.int .i64 id, .int .i64 se, .int .i64 nx, .slice ao m cap] 24)).alloc (.cells #[.int .i64 cl, .int .i64 q, .int .i64 rc, .int .i64 rn, .string rt] 29)).alloc (.cells #[.int .i64 0, .int .i64 0, .int .i64 0, .slice none 0 0] 24))) := (((Below.refl _ _).alloc (Nat.le_refl _) _).alloc (by simp) _).alloc (by simp; omega) _
  obtain ⟨hx0, ho0, hr0⟩ := three_newB (w := w) (A := (.cells #[.int .i64 id, .int .i64 se, .int .i64 nx, .slice ao m cap] 24)) (R := (.cells #[.int .i64 cl, .int .i64 q, .int .i64 rc, .int .i64 rn, .string rt] 29)) (S := (.cells #[.int .i64 0, .int .i64 0, .int .i64 0, .slice none 0 0] 24)) (Below.refl _ _)
  have HX0 := ghid hx0
  have HO0 := ghid ho0
  have HR0 := ghid hr0
  clear hx0 ho0 hr0
  clear hv hcc hre hd hid hse hnx hm
  by_cases h1 : cc = 0
  · have h2 : cl ≠ id := hs.elim (fun e => absurd h1 e) (fun e => e)
    have HE : Hid (r = 6) := H2.out h1 h2
    have HCZ : Hid (d = .zero) := HCC.out (by rw [HE.out]; decide)
    have hclb : (cl != id) = true := by simpa using h2
    subst h1
    clear H1 H2 HCC h2 hs
    go_enter Try.func6, Try.ntmps6
    go_wp2_with fail
    refine (C1.out _ HZ.out).mono ?_
    rintro e w1 ⟨rfl, hb1⟩
    have HB1 := ghid (HZ.out.trans (hb1.mono HZ.out.size))
    have HX1 := ghid (behind HX0.out (Below.refl _ _) hb1)
    have HO1 := ghid (behind HO0.out (Below.refl _ _) hb1)
    have HR1 := ghid (behind HR0.out (Below.refl _ _) hb1)
    obtain ⟨c0, c1, c2, c3, cf, cl'⟩ := state_cells HX1.out
    obtain ⟨o0, o1, o2, o3, o4, of, ol⟩ := five_cells HO1.out
    have hzz1 : w.heap.size + 3 ≤ w1.heap.size := by have := hb1.size; simpa using this
    obtain ⟨r0, r1, r2, r3, rf, rl⟩ := state_cells HR1.out
    clear hb1
    go_wp2
    refine bodyPost_ret (v := .tuple #[.agg #[.int .i64 0, .int .i64 0, .int .i64 0, .slice none 0 0], .int .i64 6]) (by simp [results, Try.results6, go_sem, r0, r1, r2, r3]) rfl ?_
    exact ⟨_, by rw [HE.out], by rw [HCZ.out]; exact CustO.zero _ _, zset4 HB1.out (by omega) _ _ _ _⟩
  · have HE : Hid (r = cc) := H1.out h1
    have HCZ : Hid (d = .zero) := HCC.out (by rw [HE.out]; exact h1)
    have hcb : (cc != 0) = true := by simpa using h1
    have hcd : (cc == 0) = false := by simpa using h1
    clear H1 H2 HCC h1 hs
    go_enter Try.func6, Try.ntmps6
    go_wp2_with fail
    refine (C1.out _ HZ.out).mono ?_
    rintro e w1 ⟨rfl, hb1⟩
    have HB1 := ghid (HZ.out.trans (hb1.mono HZ.out.size))
    have HX1 := ghid (behind HX0.out (Below.refl _ _) hb1)
    have HO1 := ghid (behind HO0.out (Below.refl _ _) hb1)
    have HR1 := ghid (behind HR0.out (Below.refl _ _) hb1)
    obtain ⟨c0, c1, c2, c3, cf, cl'⟩ := state_cells HX1.out
    obtain ⟨o0, o1, o2, o3, o4, of, ol⟩ := five_cells HO1.out
    have hzz1 : w.heap.size + 3 ≤ w1.heap.size := by have := hb1.size; simpa using this
    obtain ⟨r0, r1, r2, r3, rf, rl⟩ := state_cells HR1.out
    clear hb1
    go_wp2
    refine bodyPost_ret (v := .tuple #[.agg #[.int .i64 0, .int .i64 0, .int .i64 0, .slice none 0 0], .int .i64 cc]) (by simp [results, Try.results6, go_sem, r0, r1, r2, r3]) rfl ?_
    exact ⟨_, by rw [HE.out], by rw [HCZ.out]; exact CustO.zero _ _, zset4 HB1.out (by omega) _ _ _ _⟩

set_option maxRecDepth 100000 in
set_option maxHeartbeats 1600000 in
theorem told_join (v : Value) (c : CustD) (rc rn : Int) (rt : ByteArray) (w : World) (B : Nat) (hv : CustR w B v c) (hB : B ≤ w.heap.size) (hc : checkC c = 0) :
    Calls Try.prog 6 #[v, .agg #[.int .i64 c.id, .int .i64 0, .int .i64 rc, .int .i64 rn, .string rt]] w fun e w' => ∃ v', e = .returned (.tuple #[v', .int .i64 (hearE c c.id 0 rc rn)]) ∧ CustO w' w.heap.size v' (hearC c c.id 0 rc rn) ∧ Below w.heap.size w w' := by
  have C1 := ghid (fun u (hu : Below w.heap.size w u) => customerFault_any v c u B (hv.below hu hB) (by have := hu.size; omega))
  have C2 := ghid (fun u (hu : Below w.heap.size w u) => customerCopy_any v c u B (hv.below hu hB) (by have := hu.size; omega))
  have HJ : Hid (hearE c c.id 0 rc rn = hjE c.session rc rn) := hear_join hc rfl
  have HCZ : Hid (hjE c.session rc rn ≠ 0 → hearC c c.id 0 rc rn = .zero) := fun h => by unfold hearC; rw [hear_join hc rfl, if_neg h]
  have HCK : Hid (hjE c.session rc rn = 0 → hearC c c.id 0 rc rn = ⟨c.id, hjS c.session rc rn, c.next, c.waits⟩) := fun h => by unfold hearC; rw [hear_join hc rfl, if_pos h, hearL_join]
  have HL : Hid (c.waits.length * 56 ≤ 140737488351232 ∧ ModestW c.waits) := by
    obtain ⟨wv, -, h⟩ := hv
    exact ⟨h.len, h.modest⟩
  have hse0 := (GoodC.of hc).session.1
  rw [hc] at C1
  obtain ⟨ao, cap, rfl, -⟩ := hv.shape
  rw [HJ.out]
  obtain ⟨d, hd⟩ : ∃ z, z = hearC c c.id 0 rc rn := ⟨_, rfl⟩
  rw [← hd] at HCZ HCK
  rw [← hd]
  obtain ⟨ws, hws⟩ : ∃ z, z = c.waits := ⟨_, rfl⟩
  obtain ⟨id, hid⟩ : ∃ z, z = c.id := ⟨_, rfl⟩
  obtain ⟨se, hse⟩ : ∃ z, z = c.session := ⟨_, rfl⟩
  obtain ⟨nx, hnx⟩ : ∃ z, z = c.next := ⟨_, rfl⟩
  obtain ⟨m, hm⟩ : ∃ z, z = c.waits.length := ⟨_, rfl⟩
  obtain ⟨fl, hfl⟩ : ∃ z, z = flatG waitCells ws := ⟨_, rfl⟩
  rw [← hid, ← hse, ← hnx, ← hm] at C1
  rw [← hid, ← hse, ← hnx, ← hm, ← hws, ← hfl] at C2
  rw [← hse] at HCZ hse0
  rw [← hse, ← hid, ← hnx, ← hws] at HCK
  rw [← hws] at HL
  rw [← hse, ← hid, ← hnx, ← hm]
  have HM : Hid (m = ws.length ∧ fl = flatG waitCells ws) := ⟨by rw [hm, hws], hfl⟩
  have HZ : Hid (Below w.heap.size w (((w.alloc (.cells #[.int .i64 id, .int .i64 se, .int .i64 nx, .slice ao m cap] 24)).alloc (.cells #[.int .i64 id, .int .i64 0, .int .i64 rc, .int .i64 rn, .string rt] 29)).alloc (.cells #[.int .i64 0, .int .i64 0, .int .i64 0, .slice none 0 0] 24))) := (((Below.refl _ _).alloc (Nat.le_refl _) _).alloc (by simp) _).alloc (by simp; omega) _
  obtain ⟨hx0, ho0, hr0⟩ := three_newB (w := w) (A := (.cells #[.int .i64 id, .int .i64 se, .int .i64 nx, .slice ao m cap] 24)) (R := (.cells #[.int .i64 id, .int .i64 0, .int .i64 rc, .int .i64 rn, .string rt] 29)) (S := (.cells #[.int .i64 0, .int .i64 0, .int .i64 0, .slice none 0 0] 24)) (Below.refl _ _)
  have HX0 := ghid hx0
  have HO0 := ghid ho0
  have HR0 := ghid hr0
  clear hx0 ho0 hr0
  clear hv hc hd hid hse hnx hm hws hfl HJ
  by_cases h1 : 0 < se
  · have HE : Hid (hjE se rc rn = 12) := by unfold Hid hjE; rw [if_pos (by omega)]
    have HZ' := ghid (HCZ.out (by rw [HE.out]; decide))
    rw [HE.out, HZ'.out]
    clear HCZ HCK
    go_enter Try.func6, Try.ntmps6
    go_wp2_with fail
    refine (C1.out _ HZ.out).mono ?_
    rintro e w1 ⟨rfl, hb1⟩
    have HB1 := ghid (HZ.out.trans (hb1.mono HZ.out.size))
    have HX1 := ghid (behind HX0.out (Below.refl _ _) hb1)
    have HO1 := ghid (behind HO0.out (Below.refl _ _) hb1)
    have HR1 := ghid (behind HR0.out (Below.refl _ _) hb1)
    obtain ⟨c0, c1, c2, c3, cf, cl'⟩ := state_cells HX1.out
    obtain ⟨o0, o1, o2, o3, o4, of, ol⟩ := five_cells HO1.out
    have hzz1 : w.heap.size + 3 ≤ w1.heap.size := by have := hb1.size; simpa using this
    obtain ⟨r0, r1, r2, r3, rf, rl⟩ := state_cells HR1.out
    clear hb1
    go_wp2_with fail
    clear c0 c1 c2 c3 cf cl' o0 o1 o2 o3 o4 of ol r0 r1 r2 r3 rf rl
    refine (C2.out _ HB1.out).mono ?_
    rintro e w2 ⟨wv, rfl, hrow, hb2⟩
    obtain ⟨vo, vc, rfl⟩ := grow_shape hrow
    have hx2 := behind HX1.out (Below.refl _ _) hb2
    have ho2 := behind HO1.out (Below.refl _ _) hb2
    have hr2 := behind HR1.out (Below.refl _ _) hb2
    have hz2' : w.heap.size + 3 ≤ w2.heap.size := by have := hb2.size; omega
    have HB2 := ghid (HB1.out.trans (hb2.mono HB1.out.size))
    have HROW2 := ghid (grow_mono hrow (by omega : w.heap.size + 3 ≤ _))
    obtain ⟨c0, c1, c2, c3, cf, cl'⟩ := state_cells hx2
    obtain ⟨o0, o1, o2, o3, o4, of, ol⟩ := five_cells ho2
    obtain ⟨r0, r1, r2, r3, rf, rl⟩ := state_cells hr2
    have HX2 := ghid hx2
    have HO2 := ghid ho2
    have HR2 := ghid hr2
    clear hrow hb2 hx2 ho2 hr2 C2
    go_wp2
    refine bodyPost_ret (v := .tuple #[.agg #[.int .i64 0, .int .i64 0, .int .i64 0, .slice none 0 0], .int .i64 12]) (by simp [results, Try.results6, go_sem, r0, r1, r2, r3, rl]) rfl ?_
    exact ⟨_, rfl, CustO.zero _ _, (zset4 HB2.out (by omega) _ _ _ _).alloc (by simp; omega) _⟩
  · have h0 : se = 0 := by omega
    subst h0
    by_cases hrc : rc = 0 ∨ rc = 7
    · by_cases hn : 1 ≤ rn ∧ rn ≤ 1073741824
      · have HE : Hid (hjE 0 rc rn = 0) := by unfold Hid hjE; rw [if_neg (by decide), if_neg (fun e => e.2 hn)]
        have HS : Hid (hjS 0 rc rn = rn) := if_pos hrc
        have HD := ghid (HCK.out HE.out)
        rw [HS.out] at HD
        rw [HE.out, HD.out]
        have CN := ghid (fun u => in_yes rn 1 1073741824 u hn.1 hn.2)
        clear HCZ HCK h1 hn
        rcases hrc with hrc | hrc
        all_goals
          subst hrc
          go_enter Try.func6, Try.ntmps6
          go_wp2_with fail
          refine (C1.out _ HZ.out).mono ?_
          rintro e w1 ⟨rfl, hb1⟩
          have HB1 := ghid (HZ.out.trans (hb1.mono HZ.out.size))
          have HX1 := ghid (behind HX0.out (Below.refl _ _) hb1)
          have HO1 := ghid (behind HO0.out (Below.refl _ _) hb1)
          have HR1 := ghid (behind HR0.out (Below.refl _ _) hb1)
          obtain ⟨c0, c1, c2, c3, cf, cl'⟩ := state_cells HX1.out
          obtain ⟨o0, o1, o2, o3, o4, of, ol⟩ := five_cells HO1.out
          have hzz1 : w.heap.size + 3 ≤ w1.heap.size := by have := hb1.size; simpa using this
          obtain ⟨r0, r1, r2, r3, rf, rl⟩ := state_cells HR1.out
          clear hb1
          go_wp2_with fail
          clear c0 c1 c2 c3 cf cl' o0 o1 o2 o3 o4 of ol r0 r1 r2 r3 rf rl
          refine (C2.out _ HB1.out).mono ?_
          rintro e w2 ⟨wv, rfl, hrow, hb2⟩
          obtain ⟨vo, vc, rfl⟩ := grow_shape hrow
          have hx2 := behind HX1.out (Below.refl _ _) hb2
          have ho2 := behind HO1.out (Below.refl _ _) hb2
          have hr2 := behind HR1.out (Below.refl _ _) hb2
          have hz2' : w.heap.size + 3 ≤ w2.heap.size := by have := hb2.size; omega
          have HB2 := ghid (HB1.out.trans (hb2.mono HB1.out.size))
          have HROW2 := ghid (grow_mono hrow (by omega : w.heap.size + 3 ≤ _))
          obtain ⟨c0, c1, c2, c3, cf, cl'⟩ := state_cells hx2
          obtain ⟨o0, o1, o2, o3, o4, of, ol⟩ := five_cells ho2
          obtain ⟨r0, r1, r2, r3, rf, rl⟩ := state_cells hr2
          have HX2 := ghid hx2
          have HO2 := ghid ho2
          have HR2 := ghid hr2
          clear hrow hb2 hx2 ho2 hr2 C2
          have HOF := ghid (fun u0 u1 u2 u3 o => (CustO.put4 (p := w.heap.size + 1 + 1) (m := w.heap.size) (c := ⟨id, rn, nx, ws⟩) ⟨vo, vc, rfl, by rw [← HM.out.1, ← HM.out.2]; exact HROW2.out, HL.out.1, HL.out.2⟩ (by omega) (by omega) u0 u1 u2 u3).keep (Nat.le_refl _) fun j _ hj => Below.heap_alloc _ o _ hj)
          rw [← HM.out.1] at HOF
          go_wp2_with fail
          refine (CN.out _).mono ?_
          rintro e w3 ⟨rfl, rfl⟩
          go_wp2
          refine bodyPost_ret (v := .tuple #[.agg #[.int .i64 id, .int .i64 rn, .int .i64 nx, .slice vo m vc], .int .i64 0]) (by simp [results, Try.results6, go_sem, r0, r1, r2, r3, rl]) rfl ?_
          exact ⟨_, rfl, HOF.out _ _ _ _ _, (zset4 HB2.out (by omega) _ _ _ _).alloc (by simp; omega) _⟩
      · have HE : Hid (hjE 0 rc rn = 2) := by unfold Hid hjE; rw [if_neg (by decide), if_pos ⟨hrc, hn⟩]
        have HZ' := ghid (HCZ.out (by rw [HE.out]; decide))
        rw [HE.out, HZ'.out]
        have CN := ghid (fun u => cin_no rn 1 1073741824 u hn)
        clear HCZ HCK h1 hn
        rcases hrc with hrc | hrc
        all_goals
          subst hrc
          go_enter Try.func6, Try.ntmps6
          go_wp2_with fail
          refine (C1.out _ HZ.out).mono ?_
          rintro e w1 ⟨rfl, hb1⟩
          have HB1 := ghid (HZ.out.trans (hb1.mono HZ.out.size))
          have HX1 := ghid (behind HX0.out (Below.refl _ _) hb1)
          have HO1 := ghid (behind HO0.out (Below.refl _ _) hb1)
          have HR1 := ghid (behind HR0.out (Below.refl _ _) hb1)
          obtain ⟨c0, c1, c2, c3, cf, cl'⟩ := state_cells HX1.out
          obtain ⟨o0, o1, o2, o3, o4, of, ol⟩ := five_cells HO1.out
          have hzz1 : w.heap.size + 3 ≤ w1.heap.size := by have := hb1.size; simpa using this
          obtain ⟨r0, r1, r2, r3, rf, rl⟩ := state_cells HR1.out
          clear hb1
          go_wp2_with fail
          clear c0 c1 c2 c3 cf cl' o0 o1 o2 o3 o4 of ol r0 r1 r2 r3 rf rl
          refine (C2.out _ HB1.out).mono ?_
          rintro e w2 ⟨wv, rfl, hrow, hb2⟩
          obtain ⟨vo, vc, rfl⟩ := grow_shape hrow
          have hx2 := behind HX1.out (Below.refl _ _) hb2
          have ho2 := behind HO1.out (Below.refl _ _) hb2
          have hr2 := behind HR1.out (Below.refl _ _) hb2
          have hz2' : w.heap.size + 3 ≤ w2.heap.size := by have := hb2.size; omega
          have HB2 := ghid (HB1.out.trans (hb2.mono HB1.out.size))
          have HROW2 := ghid (grow_mono hrow (by omega : w.heap.size + 3 ≤ _))
          obtain ⟨c0, c1, c2, c3, cf, cl'⟩ := state_cells hx2
          obtain ⟨o0, o1, o2, o3, o4, of, ol⟩ := five_cells ho2
          obtain ⟨r0, r1, r2, r3, rf, rl⟩ := state_cells hr2
          have HX2 := ghid hx2
          have HO2 := ghid ho2
          have HR2 := ghid hr2
          clear hrow hb2 hx2 ho2 hr2 C2
          go_wp2_with fail
          refine (CN.out _).mono ?_
          rintro e w3 ⟨rfl, rfl⟩
          go_wp2
          refine bodyPost_ret (v := .tuple #[.agg #[.int .i64 0, .int .i64 0, .int .i64 0, .slice none 0 0], .int .i64 2]) (by simp [results, Try.results6, go_sem, r0, r1, r2, r3, rl]) rfl ?_
          exact ⟨_, rfl, CustO.zero _ _, (zset4 HB2.out (by omega) _ _ _ _).alloc (by simp; omega) _⟩
    · have HE : Hid (hjE 0 rc rn = 0) := by unfold Hid hjE; rw [if_neg (by decide), if_neg (fun e => hrc e.1)]
      have HS : Hid (hjS 0 rc rn = 0) := if_neg hrc
      have HD := ghid (HCK.out HE.out)
      rw [HS.out] at HD
      rw [HE.out, HD.out]
      have hr0' : (rc == 0) = false := by simp; exact fun e => hrc (.inl e)
      have hr7 : (rc == 7) = false := by simp; exact fun e => hrc (.inr e)
      clear HCZ HCK h1 hrc
      go_enter Try.func6, Try.ntmps6
      go_wp2_with fail
      refine (C1.out _ HZ.out).mono ?_
      rintro e w1 ⟨rfl, hb1⟩
      have HB1 := ghid (HZ.out.trans (hb1.mono HZ.out.size))
      have HX1 := ghid (behind HX0.out (Below.refl _ _) hb1)
      have HO1 := ghid (behind HO0.out (Below.refl _ _) hb1)
      have HR1 := ghid (behind HR0.out (Below.refl _ _) hb1)
      obtain ⟨c0, c1, c2, c3, cf, cl'⟩ := state_cells HX1.out
      obtain ⟨o0, o1, o2, o3, o4, of, ol⟩ := five_cells HO1.out
      have hzz1 : w.heap.size + 3 ≤ w1.heap.size := by have := hb1.size; simpa using this
      obtain ⟨r0, r1, r2, r3, rf, rl⟩ := state_cells HR1.out
      clear hb1
      go_wp2_with fail
      clear c0 c1 c2 c3 cf cl' o0 o1 o2 o3 o4 of ol r0 r1 r2 r3 rf rl
      refine (C2.out _ HB1.out).mono ?_
      rintro e w2 ⟨wv, rfl, hrow, hb2⟩
      obtain ⟨vo, vc, rfl⟩ := grow_shape hrow
      have hx2 := behind HX1.out (Below.refl _ _) hb2
      have ho2 := behind HO1.out (Below.refl _ _) hb2
      have hr2 := behind HR1.out (Below.refl _ _) hb2
      have hz2' : w.heap.size + 3 ≤ w2.heap.size := by have := hb2.size; omega
      have HB2 := ghid (HB1.out.trans (hb2.mono HB1.out.size))
      have HROW2 := ghid (grow_mono hrow (by omega : w.heap.size + 3 ≤ _))
      obtain ⟨c0, c1, c2, c3, cf, cl'⟩ := state_cells hx2
      obtain ⟨o0, o1, o2, o3, o4, of, ol⟩ := five_cells ho2
      obtain ⟨r0, r1, r2, r3, rf, rl⟩ := state_cells hr2
      have HX2 := ghid hx2
      have HO2 := ghid ho2
      have HR2 := ghid hr2
      clear hrow hb2 hx2 ho2 hr2 C2
      have HOF := ghid (fun u0 u1 u2 u3 o => (CustO.put4 (p := w.heap.size + 1 + 1) (m := w.heap.size) (c := ⟨id, 0, nx, ws⟩) ⟨vo, vc, rfl, by rw [← HM.out.1, ← HM.out.2]; exact HROW2.out, HL.out.1, HL.out.2⟩ (by omega) (by omega) u0 u1 u2 u3).keep (Nat.le_refl _) fun j _ hj => Below.heap_alloc _ o _ hj)
      rw [← HM.out.1] at HOF
      go_wp2
      refine bodyPost_ret (v := .tuple #[.agg #[.int .i64 id, .int .i64 0, .int .i64 nx, .slice vo m vc], .int .i64 0]) (by simp [results, Try.results6, go_sem, r0, r1, r2, r3, rl]) rfl ?_
      exact ⟨_, rfl, HOF.out _ _ _ _ _, (zset4 HB2.out (by omega) _ _ _ _).alloc (by simp; omega) _⟩

end Go.Proofs.Ytcjoekjjebcomal
