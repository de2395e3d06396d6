/- LogLasts, walked, over a contract of log.Last. -/
import Derived.Test.YtkmeiilnjkmkiahRefLog
import Derived.Test.YtkmeiilnjkmkiahLogLast
namespace Go.Proofs.Ytkmeiilnjkmkiah
open Go.RowKit

/-- What is asked of log.Last: of a log whose base and length are such as may be, its last index. -/
def LogLastC : Prop := ∀ (v : Value) (l : LogD) (w : World) (B : Nat), LogR w B v l → B ≤ w.heap.size → (0 ≤ l.base ∧ l.base ≤ 1073741424 ∧ l.ents.length ≤ 400) →
  Calls Try.prog 12 #[v] w fun e w' => e = .returned (.int .i64 (l.base + l.ents.length)) ∧ Below w.heap.size w w'

set_option maxHeartbeats 1600000 in
theorem logLasts_walk (hC : LogLastC) (v : Value) (l : LogD) (w : World) (hv : LogR w w.heap.size v l) :
    Calls Try.prog 5 #[v] w fun e w' => e = .returned (.bool true) ∧ Below w.heap.size w w' := by
  have HC := ghid hC
  have HV := ghid hv
  obtain ⟨eo, ec, rfl, -⟩ := hv.shape
  have hb0 : Below w.heap.size w (w.alloc (.cells #[.int .i64 l.base, .slice eo l.ents.length ec] 24)) := (Below.refl _ _).alloc (Nat.le_refl _) _
  have HX0 : Hid ((w.alloc (.cells #[.int .i64 l.base, .slice eo l.ents.length ec] 24)).heap[w.heap.size]? = some (.cells #[.int .i64 l.base, .slice eo l.ents.length ec] 24 (0, 0))) := heap_alloc_new w _
  have HB0 := ghid hb0
  have CF := ghid (logFault_some _ l _ w.heap.size (HV.out.below hb0 (Nat.le_refl _)) (by simp))
  clear hC hv hb0
  go_enter Try.func5, Try.ntmps5
  go_wp2_with fail
  refine CF.out.mono ?_
  rintro e w1 ⟨c, rfl, hok, hb1⟩
  have HB1 := ghid (HB0.out.trans (hb1.mono HB0.out.size))
  have hx1 : w1.heap[w.heap.size]? = _ := (hb1.block _ (by simp)).trans HX0.out
  have HX1 := ghid hx1
  have c0 : w1.cell? ⟨w.heap.size, 0, none⟩ = some (.int .i64 l.base) := cell_of_row w1 w.heap.size 0 _ _ _ hx1
  have c1 : w1.cell? ⟨w.heap.size, 1, none⟩ = some (.slice eo l.ents.length ec) := cell_of_row w1 w.heap.size 1 _ _ _ hx1
  have hl1 : w.heap.size < w1.heap.size := (Array.getElem?_eq_some_iff.1 hx1).1
  clear hb1 CF hx1
  by_cases hc0 : c = 0
  · have h0 := hok hc0
    subst hc0
    have CL := ghid (HC.out _ l w1 w.heap.size (HV.out.below HB1.out (Nat.le_refl _)) (by omega) h0)
    have HOK := ghid h0
    clear hok
    go_wp2_with fail
    refine CL.out.mono ?_
    rintro e w2 ⟨rfl, hb2⟩
    have HB2 := ghid (HB1.out.trans (hb2.mono HB1.out.size))
    have hx2 : w2.heap[w.heap.size]? = _ := (hb2.block _ hl1).trans HX1.out
    have d0 : w2.cell? ⟨w.heap.size, 0, none⟩ = some (.int .i64 l.base) := cell_of_row w2 w.heap.size 0 _ _ _ hx2
    have d1 : w2.cell? ⟨w.heap.size, 1, none⟩ = some (.slice eo l.ents.length ec) := cell_of_row w2 w.heap.size 1 _ _ _ hx2
    have CM := ghid (lastOf_any _ l w2 w.heap.size (HV.out.below HB2.out (Nat.le_refl _)) HOK.out)
    clear hb2 CL hx2
    go_wp2_with fail
    refine CM.out.mono ?_
    rintro e w3 ⟨rfl, hb3⟩
    have HB3 := ghid (HB2.out.trans (hb3.mono HB2.out.size))
    clear hb3 CM
    go_wp2
    go_ret
    exact ⟨by simp, HB3.out⟩
  · have hcb : (c != 0) = true := by simpa using hc0
    clear hc0 hok
    go_wp2
    go_ret
    exact ⟨rfl, HB1.out⟩

theorem logLast_any : LogLastC := fun v l w B hv _ h0 => last_any v l w B hv h0
end Go.Proofs.Ytkmeiilnjkmkiah
