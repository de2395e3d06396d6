/- LogCopies, walked, over a contract of log.Copy. -/
import Derived.Test.YtkmeiilnjkmkiahLogMem
import Derived.Test.YtkmeiilnjkmkiahSameTexts
namespace Go.Proofs.Ytkmeiilnjkmkiah
open Go.RowKit

theorem equalOf_below {w W : World} {B B' : Nat} {v u : Value} {ts : List ByteArray} (_hb : Below w.heap.size w W) (hv : TextsR W B v ts) (hu : TextsR W B' u ts) : Calls Try.prog 23 #[v, u] W fun e w' => e = .returned (.bool true) ∧ Below W.heap.size W w' :=
  (sameTexts_eq v u ts W B B' hv hu).mono fun e w' h => ⟨h.1, by obtain ⟨n, rfl⟩ := h.2; exact g_drewN_below _ _ _⟩

set_option maxRecDepth 100000 in
/-- The law's sameLog: what reads as one log is the same. -/
theorem sameLog_eq (v u : Value) (l : LogD) (w : World) (B B' : Nat) (hv : LogR w B v l) (hu : LogR w B' u l) (hB : B ≤ w.heap.size) (hB' : B' ≤ w.heap.size) :
    Calls Try.prog 11 #[v, u] w fun e w' => e = .returned (.bool true) ∧ Below w.heap.size w w' := by
  obtain ⟨eo, ec, rfl, h1⟩ := hv.shape
  obtain ⟨uo, uc, rfl, h2⟩ := hu.shape
  have hb : Below w.heap.size w ((w.alloc (.cells #[.int .i64 l.base, .slice eo l.ents.length ec] 24)).alloc (.cells #[.int .i64 l.base, .slice uo l.ents.length uc] 24)) := ((Below.refl w.heap.size w).alloc (Nat.le_refl _) _).alloc (by simp) _
  have CQ := ghid (equalOf_below hb (h1.below hb hB) (h2.below hb hB'))
  have HB := ghid hb
  clear hv hu h1 h2 hb
  go_enter Try.func11, Try.ntmps11
  go_wp2_with fail
  refine CQ.out.mono ?_
  rintro e w1 ⟨rfl, hb1⟩
  have HF := ghid (HB.out.trans (hb1.mono HB.out.size))
  clear hb1 CQ
  go_wp2
  go_ret
  exact ⟨rfl, HF.out⟩

/-- What is asked of log.Copy. -/
structure LogCopyC : Prop where
  copy : ∀ (v : Value) (l : LogD) (w : World) (B : Nat), LogR w B v l → B ≤ w.heap.size →
    Calls Try.prog 10 #[v] w fun e w' => ∃ v', e = .returned v' ∧ LogR w' w'.heap.size v' l ∧ Below w.heap.size w w'

set_option maxRecDepth 100000 in
theorem logCopies_walk (hC : LogCopyC) (v : Value) (l : LogD) (w : World) (hv : LogR w w.heap.size v l) :
    Calls Try.prog 4 #[v] w fun e w' => e = .returned (.bool true) ∧ Below w.heap.size w w' := by
  obtain ⟨eo, ec, rfl, h1⟩ := hv.shape
  have hb : Below w.heap.size w (w.alloc (.cells #[.int .i64 l.base, .slice eo l.ents.length ec] 24)) := (Below.refl w.heap.size w).alloc (Nat.le_refl _) _
  have hx := heap_alloc_new w (.cells #[.int .i64 l.base, .slice eo l.ents.length ec] 24)
  have CC := ghid (hC.copy _ l _ w.heap.size (hv.below hb (Nat.le_refl _)) hb.size)
  have HV := ghid hv
  have HB := ghid hb
  have HX := ghid hx
  clear hv h1 hb hx hC
  go_enter Try.func4, Try.ntmps4
  go_wp2_with fail
  refine CC.out.mono ?_
  rintro e w1 ⟨v1, rfl, hr1, hb1⟩
  obtain ⟨ao, ac, rfl, -⟩ := hr1.shape
  have hba : Below w1.heap.size w1 (w1.alloc (.cells #[.int .i64 l.base, .slice ao l.ents.length ac] 24)) := (Below.refl _ _).alloc (Nat.le_refl _) _
  have hb12 := HB.out.trans ((hb1.trans (hba.mono hb1.size)).mono HB.out.size)
  obtain ⟨c0, c1, hcl⟩ := two_cells (behind HX.out (Below.refl _ _) hb1)
  have CS := ghid (sameLog_eq _ _ l _ w1.heap.size w.heap.size (hr1.below hba (Nat.le_refl _)) (HV.out.below hb12 (Nat.le_refl _)) hba.size hb12.size)
  have HB12 := ghid hb12
  clear hr1 hb1 hba hb12 CC
  go_wp2_with fail
  refine CS.out.mono ?_
  rintro e w2 ⟨rfl, hb2⟩
  have HF := ghid (HB12.out.trans (hb2.mono HB12.out.size))
  clear hb2 CS
  go_wp2
  go_ret
  exact ⟨rfl, HF.out⟩
end Go.Proofs.Ytkmeiilnjkmkiah
