/- log.Last; log.At (joined by program) -/
import Derived.WalkKit
import Derived.ProofKit
import Derived.Test.YtkmeiilnjkmkiaiDoorLC04
import Derived.Test.YtkmeiilnjkmkiaiDoorLC14
import Derived.Test.YtkmeiilnjkmkiaiDoorLC05
namespace Go.Proofs.YtkmeiilnjkmkiaiDoor

open Go.RowKit

set_option maxHeartbeats 800000 in
theorem last_raw (base : Int) (eo : Option Addr) (n ec : Nat) (w : World) (h0 : 0 ≤ base ∧ base ≤ 1073741424 ∧ n ≤ 400) :
    Calls Tryd.prog 11 #[.agg #[.int .i64 base, .slice eo n ec]] w fun e w' => e = .returned (.int .i64 (base + n)) ∧ Below w.heap.size w w' := by
  have HB0 : Hid (Below w.heap.size w (w.alloc (.cells #[.int .i64 base, .slice eo n ec] 28))) := (Below.refl _ _).alloc (Nat.le_refl _) _
  go_enter Tryd.func11, Tryd.ntmps11
  go_wp2
  go_ret
  exact ⟨rfl, HB0.out⟩

theorem last_any (v : Value) (l : LogD) (w : World) (B : Nat) (hv : LogR w B v l) (h0 : 0 ≤ l.base ∧ l.base ≤ 1073741424 ∧ l.ents.length ≤ 400) :
    Calls Tryd.prog 11 #[v] w fun e w' => e = .returned (.int .i64 (l.base + l.ents.length)) ∧ Below w.heap.size w w' := by
  obtain ⟨eo, ec, rfl, -⟩ := hv.shape
  exact last_raw _ _ _ _ w h0

/-- What a log that may be keeps to. -/
theorem logE_zero {l : LogD} (h : logE l = 0) : (0 ≤ l.base ∧ l.base ≤ 1073741424 ∧ l.ents.length ≤ 400) ∧ firstE l.ents = 0 := by
  unfold logE at h
  by_cases h1 : ¬ (0 ≤ l.base ∧ l.base ≤ 1073741424)
  · rw [if_pos h1] at h
    exact absurd h (by decide)
  · rw [if_neg h1] at h
    by_cases h2 : 400 < l.ents.length
    · rw [if_pos h2] at h
      exact absurd h (by decide)
    · rw [if_neg h2] at h
      exact ⟨by omega, h⟩

end Go.Proofs.YtkmeiilnjkmkiaiDoor

namespace Go.Proofs.YtkmeiilnjkmkiaiDoor

open Go.RowKit

/-- The log's block, behind a callee. -/
theorem box_after {w w1 : World} {o : Obj} (hb1 : Below (w.heap.size + 1) (w.alloc o) w1) : w1.heap[w.heap.size]? = some o ∧ Below w.heap.size w w1 :=
  ⟨(hb1.block _ (by omega)).trans (heap_alloc_new w o), ((Below.refl w.heap.size w).alloc (Nat.le_refl _) o).trans (hb1.mono (by omega))⟩

/-- A row of two blocks ahead of a callee: the log, the result. -/
theorem boxes_after {w w1 : World} {o r : Obj} (hb1 : Below (w.heap.size + 1 + 1) ((w.alloc o).alloc r) w1) : w1.heap[w.heap.size]? = some o ∧ w1.heap[w.heap.size + 1]? = some r ∧ Below w.heap.size w w1 := by
  obtain ⟨h1, h2⟩ := two_newB hb1
  exact ⟨h2, h1, (((Below.refl w.heap.size w).alloc (Nat.le_refl _) o).alloc (by simp) r).trans (hb1.mono (by omega))⟩

set_option maxRecDepth 100000 in
set_option maxHeartbeats 1600000 in
theorem at_any (v : Value) (l : LogD) (i : Int) (w : World) (B : Nat) (hv : LogR w B v l) (hB : B ≤ w.heap.size) (hi : -9223372036854775808 ≤ i ∧ i ≤ 9223372036854775807) :
    Calls Tryd.prog 13 #[v, .int .i64 i] w fun e w' => e = .returned (.tuple #[.string (entL l i), .int .i64 (entE l i)]) ∧ Below w.heap.size w w' := by
  have HV := ghid hv
  obtain ⟨eo, ec, rfl, ht⟩ := hv.shape
  have hbx : Below w.heap.size w (w.alloc (.cells #[.int .i64 l.base, .slice eo l.ents.length ec] 28)) := (Below.refl _ _).alloc (Nat.le_refl _) _
  have CC := ghid (logCheck_any _ l (w.alloc (.cells #[.int .i64 l.base, .slice eo l.ents.length ec] 28)) B (hv.below hbx hB) (by have := hbx.size; omega))
  clear hv ht hbx
  by_cases h0 : logE l = 0
  · obtain ⟨⟨hb0, hb1, hln⟩, -⟩ := logE_zero h0
    rw [h0] at CC
    have CL := ghid (fun u => last_raw l.base eo l.ents.length ec u ⟨hb0, hb1, hln⟩)
    obtain ⟨base, ts⟩ := l
    simp only at CC CL HV hb0 hb1 hln ⊢
    have HE0 := ghid h0
    clear h0
    by_cases h1 : i ≤ base
    · have HE : Hid (entE ⟨base, ts⟩ i = 6) := by
        unfold Hid entE
        rw [HE0.out, if_neg (by simp), if_pos (by simp only; omega)]
      have HL : Hid (entL ⟨base, ts⟩ i = ⟨#[]⟩) := by
        unfold Hid entL
        rw [if_neg (by rw [HE.out]; decide)]
      rw [HE.out, HL.out]
      go_enter Tryd.func13, Tryd.ntmps13
      go_wp2_with fail
      refine CC.out.mono ?_
      rintro e w1 ⟨rfl, hb⟩
      obtain ⟨hx, hbw⟩ := box_after (by simpa using hb)
      obtain ⟨c0, c1, hcl⟩ := two_cells hx
      have HB := ghid hbw
      clear hb hx hbw CC
      go_wp2
      go_ret2
      exact ⟨rfl, HB.out⟩
    · by_cases h2 : base + ts.length < i
      · have HE : Hid (entE ⟨base, ts⟩ i = 6) := by
          unfold Hid entE lastL
          rw [HE0.out, if_neg (by simp), if_pos (by simp only; omega)]
        have HL : Hid (entL ⟨base, ts⟩ i = ⟨#[]⟩) := by
          unfold Hid entL
          rw [if_neg (by rw [HE.out]; decide)]
        rw [HE.out, HL.out]
        go_enter Tryd.func13, Tryd.ntmps13
        go_wp2_with fail
        refine CC.out.mono ?_
        rintro e w1 ⟨rfl, hb⟩
        obtain ⟨hx, hbw⟩ := box_after (by simpa using hb)
        obtain ⟨c0, c1, hcl⟩ := two_cells hx
        have HB := ghid hbw
        clear hb hx hbw CC
        go_wp2_with fail
        refine (CL.out _).mono ?_
        rintro e w2 ⟨rfl, hb2⟩
        have HB2 := ghid (HB.out.trans (hb2.mono HB.out.size))
        clear hb2
        go_wp2
        go_ret2
        exact ⟨rfl, HB2.out⟩
      · obtain ⟨k, hk⟩ : ∃ k : Nat, i = base + k + 1 := ⟨(i - base - 1).toNat, by omega⟩
        have hkl : k < ts.length := by omega
        obtain ⟨t, hte⟩ : ∃ t, ts[k]? = some t := ⟨_, List.getElem?_eq_getElem hkl⟩
        have HE : Hid (entE ⟨base, ts⟩ i = 0) := by
          unfold Hid entE lastL
          rw [HE0.out, if_neg (by simp), if_neg (by simp only; omega)]
        have HL : Hid (entL ⟨base, ts⟩ i = t) := by
          unfold Hid entL
          rw [if_pos HE.out, List.getD_eq_getElem?_getD]
          simp only
          rw [show (i - base - 1).toNat = k by omega, hte]
          rfl
        rw [HE.out, HL.out]
        have HTE := ghid hte
        have HKE : Hid ((i - base).toNat - 1 = k) := (by omega : (i - base).toNat - 1 = k)
        have HKN := ghid hkl
        have hi1 : 1 ≤ i - base := by omega
        have hi2 : i - base ≤ (ts.length : Int) := by omega
        have hi3 : base < i := by omega
        clear hte hk hkl
        go_enter Tryd.func13, Tryd.ntmps13
        go_wp2_with fail
        refine CC.out.mono ?_
        rintro e w1 ⟨rfl, hb⟩
        obtain ⟨hx, hbw⟩ := box_after (by simpa using hb)
        obtain ⟨c0, c1, hcl⟩ := two_cells hx
        have HB := ghid hbw
        have HX := ghid hx
        clear hb hx hbw CC
        go_wp2_with fail
        refine (CL.out _).mono ?_
        rintro e w2 ⟨rfl, hb2⟩
        have hx2 := (hb2.block w.heap.size hcl).trans HX.out
        obtain ⟨d0, d1, hdl⟩ := two_cells hx2
        have hb02 := HB.out.trans (hb2.mono HB.out.size)
        have HB2 := ghid hb02
        obtain ⟨ev, ee, htx⟩ := HV.out
        have htx2 := htx.below hb02 hB
        simp only [Value.agg.injEq, Array.mk.injEq, List.cons.injEq, true_and, and_true] at ee
        subst ee
        obtain ⟨ao, cap, e2, h1', h2', h3', h4'⟩ := htx2
        simp only [Value.slice.injEq, true_and] at e2
        obtain ⟨rfl, rfl⟩ := e2
        obtain ⟨b, off, rfl, hbB, hc⟩ := h4' (by simp only; omega)
        obtain ⟨f0, hts⟩ := hc k t HTE.out
        rw [← HKE.out] at f0
        have CN := ghid (fun u => clone_any t u (by omega))
        clear hb2 hx2 hb02 htx h1' h2' h3' h4' hc c0 c1 hcl
        go_wp2_with fail
        refine (CN.out _).mono ?_
        rintro e w3 ⟨rfl, hb3⟩
        have HB3 := ghid (HB2.out.trans (hb3.mono HB2.out.size))
        clear hb3
        go_wp2
        go_ret2
        exact ⟨rfl, HB3.out⟩
  · have HE : Hid (entE l i = logE l) := if_pos h0
    have HL : Hid (entL l i = ⟨#[]⟩) := by
      unfold Hid entL
      rw [if_neg (by rw [HE.out]; exact h0)]
    rw [HE.out, HL.out]
    obtain ⟨c, hc⟩ : ∃ c, c = logE l := ⟨_, rfl⟩
    rw [← hc] at CC h0 ⊢
    have hcb : (c != 0) = true := by simpa using h0
    clear h0 hc
    go_enter Tryd.func13, Tryd.ntmps13
    go_wp2_with fail
    refine CC.out.mono ?_
    rintro e w1 ⟨rfl, hb⟩
    obtain ⟨-, hbw⟩ := box_after (by simpa using hb)
    have HB := ghid hbw
    clear hb hbw CC
    go_wp2
    go_ret2
    exact ⟨rfl, HB.out⟩

end Go.Proofs.YtkmeiilnjkmkiaiDoor
