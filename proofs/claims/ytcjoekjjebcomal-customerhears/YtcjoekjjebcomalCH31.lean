/- The walk of tackroomlaw.CustomerHears (joined by program) -/
import Derived.Test.YtcjoekjjebcomalCH25
import Derived.Test.YtcjoekjjebcomalCH30
namespace Go.Proofs.Ytcjoekjjebcomal

open Go.RowKit

set_option maxRecDepth 100000 in
set_option maxHeartbeats 3200000 in
theorem customerHears_walk (v : Value) (c : CustD) (cl q rc rn : Int) (rt : ByteArray) (w : World) (hv : CustR w w.heap.size v c) :
    Calls Try.prog 3 #[v, .agg #[.int .i64 cl, .int .i64 q, .int .i64 rc, .int .i64 rn, .string rt]] w fun e w' => e = .returned (.bool true) ∧ Below w.heap.size w w' := by
  have HV := ghid hv
  have HL : Hid (c.waits.length * 56 ≤ 140737488351232 ∧ ModestW c.waits) := by
    obtain ⟨wv, -, h⟩ := hv
    exact ⟨h.len, h.modest⟩
  obtain ⟨d, st, C1, C2⟩ : ∃ (d : CustD) (st : Int), Hid (∀ u v', CustR u u.heap.size v' c → Calls Try.prog 5 #[v', .agg #[.int .i64 cl, .int .i64 q, .int .i64 rc, .int .i64 rn, .string rt]] u fun e w' => ∃ x0 x1 x2 x3 x4 x5, e = .returned (.tuple #[.agg #[.int .i64 x0, .int .i64 x1, .int .i64 x2, .slice x3 x4 x5], .int .i64 st]) ∧ CustR w' w'.heap.size (.agg #[.int .i64 x0, .int .i64 x1, .int .i64 x2, .slice x3 x4 x5]) d ∧ Below u.heap.size u w') ∧
      Hid (∀ u v', CustR u u.heap.size v' c → Calls Try.prog 6 #[v', .agg #[.int .i64 cl, .int .i64 q, .int .i64 rc, .int .i64 rn, .string rt]] u fun e w' => ∃ x0 x1 x2 x3 x4 x5, e = .returned (.tuple #[.agg #[.int .i64 x0, .int .i64 x1, .int .i64 x2, .slice x3 x4 x5], .int .i64 st]) ∧ CustR w' w'.heap.size (.agg #[.int .i64 x0, .int .i64 x1, .int .i64 x2, .slice x3 x4 x5]) d ∧ Below u.heap.size u w') := by
    refine ⟨hearC c cl q rc rn, hearE c cl q rc rn, fun u v' hu => ?_, fun u v' hu => ?_⟩
    · refine (Hear_any v' c cl q rc rn rt u _ hu (Nat.le_refl _)).mono fun e w' ⟨v2, he, ho, hb'⟩ => ?_
      have hr := ho.reads
      obtain ⟨vo, vc, rfl, -⟩ := ho
      exact ⟨_, _, _, _, _, _, he, hr, hb'⟩
    · refine (told_any v' c cl q rc rn rt u _ hu (Nat.le_refl _)).mono fun e w' ⟨v2, he, ho, hb'⟩ => ?_
      have hr := ho.reads
      obtain ⟨vo, vc, rfl, -⟩ := ho
      exact ⟨_, _, _, _, _, _, he, hr, hb'⟩
  have C0 := ghid (fun u (hu : Below w.heap.size w u) => customerCopy_any v c u w.heap.size (hv.below hu (Nat.le_refl _)) hu.size)
  obtain ⟨id, se, nx, ao, m, cap, rfl⟩ := hv.raw
  have HZ : Hid (Below w.heap.size w ((w.alloc (.cells #[.int .i64 id, .int .i64 se, .int .i64 nx, .slice ao m cap] 24)).alloc (.cells #[.int .i64 cl, .int .i64 q, .int .i64 rc, .int .i64 rn, .string rt] 29))) := ((Below.refl _ _).alloc (Nat.le_refl _) _).alloc (by simp) _
  obtain ⟨ho0, hx0⟩ := two_newB (w := w) (A := .cells #[.int .i64 id, .int .i64 se, .int .i64 nx, .slice ao m cap] 24) (R := .cells #[.int .i64 cl, .int .i64 q, .int .i64 rc, .int .i64 rn, .string rt] 29) (Below.refl _ _)
  have HX0 := ghid hx0
  have HO0 := ghid ho0
  clear hv hx0 ho0
  go_enter Try.func3, Try.ntmps3
  go_wp2_with fail
  refine (C0.out _ HZ.out).mono ?_
  rintro e w1 ⟨wv, rfl, hrow, hb1⟩
  obtain ⟨k3, k5, rfl⟩ := grow_shape hrow
  have hr1 : CustR w1 w1.heap.size (.agg #[.int .i64 c.id, .int .i64 c.session, .int .i64 c.next, .slice k3 c.waits.length k5]) c := ⟨_, rfl, waits_row_reads hrow HL.out.1 HL.out.2 (Nat.le_refl _)⟩
  have hx1 := behind HX0.out (Below.refl _ _) hb1
  have ho1 := behind HO0.out (Below.refl _ _) hb1
  obtain ⟨k0, hk0⟩ : ∃ z, z = c.id := ⟨_, rfl⟩
  obtain ⟨k1, hk1⟩ : ∃ z, z = c.session := ⟨_, rfl⟩
  obtain ⟨k2, hk2⟩ : ∃ z, z = c.next := ⟨_, rfl⟩
  obtain ⟨k4, hk4⟩ : ∃ z, z = c.waits.length := ⟨_, rfl⟩
  rw [← hk0, ← hk1, ← hk2, ← hk4] at hr1 ⊢
  have hba := (Below.refl w1.heap.size w1).alloc (Nat.le_refl _) (.cells #[.int .i64 k0, .int .i64 k1, .int .i64 k2, .slice k3 k4 k5] 24)
  have HB1 := ghid ((HZ.out.trans (hb1.mono HZ.out.size)).trans (hba.mono (HZ.out.trans (hb1.mono HZ.out.size)).size))
  have HK1 := ghid (hr1.below hba (Nat.le_refl _))
  have HK1b : Hid (CustR (w1.alloc (.cells #[.int .i64 k0, .int .i64 k1, .int .i64 k2, .slice k3 k4 k5] 24)) (w1.alloc (.cells #[.int .i64 k0, .int .i64 k1, .int .i64 k2, .slice k3 k4 k5] 24)).heap.size (.agg #[.int .i64 k0, .int .i64 k1, .int .i64 k2, .slice k3 k4 k5]) c) := HK1.out.mono (by simp)
  have HX1 : Hid ((w1.alloc (.cells #[.int .i64 k0, .int .i64 k1, .int .i64 k2, .slice k3 k4 k5] 24)).heap[w.heap.size]? = _) := behind hx1 (Below.refl _ _) hba
  have HO1 : Hid ((w1.alloc (.cells #[.int .i64 k0, .int .i64 k1, .int .i64 k2, .slice k3 k4 k5] 24)).heap[w.heap.size + 1]? = _) := behind ho1 (Below.refl _ _) hba
  have HQ1 := ghid (heap_alloc_new w1 (.cells #[.int .i64 k0, .int .i64 k1, .int .i64 k2, .slice k3 k4 k5] 24))
  have hz1 : w.heap.size + 2 ≤ w1.heap.size := by have := hb1.size; simpa using this
  obtain ⟨c0, c1, c2, c3, cf, cl⟩ := state_cells hx1
  obtain ⟨o0, o1, o2, o3, o4, of, ol⟩ := five_cells ho1
  clear hrow hb1 hk0 hk1 hk2 hk4 hr1 hba hx1 ho1 C0
  go_wp2_with fail
  refine (C1.out _ _ HK1b.out).mono ?_
  rintro e w2 ⟨x0, x1, x2, x3, x4, x5, rfl, hr2, hb2⟩
  have hx2 := behind HX1.out (Below.refl _ _) hb2
  have ho2 := behind HO1.out (Below.refl _ _) hb2
  have hq2 := behind HQ1.out (Below.refl _ _) hb2
  have hba := (Below.refl w2.heap.size w2).alloc (Nat.le_refl _) (.cells #[.int .i64 x0, .int .i64 x1, .int .i64 x2, .slice x3 x4 x5] 24)
  have HB2 := ghid ((HB1.out.trans (hb2.mono HB1.out.size)).trans (hba.mono (HB1.out.trans (hb2.mono HB1.out.size)).size))
  have HK2 := ghid ((HK1.out.below hb2 (by simp)).below hba (by have := hb2.size; simp at this; omega))
  have HR2 := ghid (hr2.below hba (Nat.le_refl _))
  have HV2 : Hid (CustR (w2.alloc (.cells #[.int .i64 x0, .int .i64 x1, .int .i64 x2, .slice x3 x4 x5] 24)) (w2.alloc (.cells #[.int .i64 x0, .int .i64 x1, .int .i64 x2, .slice x3 x4 x5] 24)).heap.size (.agg #[.int .i64 id, .int .i64 se, .int .i64 nx, .slice ao m cap]) c) := (HV.out.below HB2.out (Nat.le_refl _)).mono HB2.out.size
  have HX2 : Hid ((w2.alloc (.cells #[.int .i64 x0, .int .i64 x1, .int .i64 x2, .slice x3 x4 x5] 24)).heap[w.heap.size]? = _) := behind hx2 (Below.refl _ _) hba
  have HQ2 : Hid ((w2.alloc (.cells #[.int .i64 x0, .int .i64 x1, .int .i64 x2, .slice x3 x4 x5] 24)).heap[w1.heap.size]? = _) := behind hq2 (Below.refl _ _) hba
  have HY2 := ghid (heap_alloc_new w2 (.cells #[.int .i64 x0, .int .i64 x1, .int .i64 x2, .slice x3 x4 x5] 24))
  have hz2 : w1.heap.size + 1 ≤ w2.heap.size := by have := hb2.size; simpa using this
  clear c0 c1 c2 c3 cf cl o0 o1 o2 o3 o4 of ol
  obtain ⟨c0, c1, c2, c3, cf, cl⟩ := state_cells hx2
  obtain ⟨o0, o1, o2, o3, o4, of, ol⟩ := five_cells ho2
  clear hb2 hr2 hx2 ho2 hq2 hba C1
  go_wp2_with fail
  refine (C2.out _ _ HV2.out).mono ?_
  rintro e w3 ⟨y0, y1, y2, y3, y4, y5, rfl, hr3, hb3⟩
  have hx3 := behind HX2.out (Below.refl _ _) hb3
  have hq3 := behind HQ2.out (Below.refl _ _) hb3
  have hy3 := behind HY2.out (Below.refl _ _) hb3
  have hba := (Below.refl w3.heap.size w3).alloc (Nat.le_refl _) (.cells #[.int .i64 y0, .int .i64 y1, .int .i64 y2, .slice y3 y4 y5] 24)
  have HB3 := ghid ((HB2.out.trans (hb3.mono HB2.out.size)).trans (hba.mono (HB2.out.trans (hb3.mono HB2.out.size)).size))
  have hz3 : w2.heap.size + 1 ≤ w3.heap.size := by have := hb3.size; simpa using this
  have hr3' := hr3.below hba (Nat.le_refl _)
  have hr2' := (HR2.out.below hb3 (by simp)).below hba (by omega)
  have CS := ghid (sameCustomer_eq _ _ d _ w2.heap.size w3.heap.size hr2' hr3' (by simp; omega) (by simp))
  have HK3 := ghid ((HK2.out.below hb3 (by simp; omega)).below hba (by omega))
  have CS2 := ghid (fun u (hu : Below w3.heap.size w3 u) (hu' : Below w.heap.size w u) => sameCustomer_eq _ _ c u w1.heap.size w.heap.size ((HK2.out.below hb3 (by simp; omega)).below hu (by omega)) (HV.out.below hu' (Nat.le_refl _)) (by have := hu.size; omega) hu'.size)
  have HBA := ghid hba
  have HX3 : Hid ((w3.alloc (.cells #[.int .i64 y0, .int .i64 y1, .int .i64 y2, .slice y3 y4 y5] 24)).heap[w.heap.size]? = _) := behind hx3 (Below.refl _ _) hba
  have HQ3 : Hid ((w3.alloc (.cells #[.int .i64 y0, .int .i64 y1, .int .i64 y2, .slice y3 y4 y5] 24)).heap[w1.heap.size]? = _) := behind hq3 (Below.refl _ _) hba
  clear c0 c1 c2 c3 cf cl o0 o1 o2 o3 o4 of ol
  obtain ⟨p0, p1, p2, p3, pf, pl⟩ := state_cells hy3
  clear hb3 hr3 hx3 hq3 hy3 hba hr3' hr2' C2
  go_wp2_with fail
  refine CS.out.mono ?_
  rintro e w4 ⟨rfl, hb4⟩
  have HB4 := ghid (HBA.out.trans (hb4.mono HBA.out.size))
  obtain ⟨c0, c1, c2, c3, cf, cl⟩ := state_cells (behind HX3.out (Below.refl _ _) hb4)
  obtain ⟨q0, q1, q2, q3, qf, ql⟩ := state_cells (behind HQ3.out (Below.refl _ _) hb4)
  have HBW := ghid (HB3.out.trans (hb4.mono HB3.out.size))
  clear hb4
  go_wp2_with fail
  refine (CS2.out _ HB4.out HBW.out).mono ?_
  rintro e w5 ⟨rfl, hb5⟩
  have HB5 := ghid (HBW.out.trans (hb5.mono HBW.out.size))
  clear hb5
  go_wp2
  go_ret
  exact ⟨rfl, HB5.out⟩

end Go.Proofs.Ytcjoekjjebcomal
