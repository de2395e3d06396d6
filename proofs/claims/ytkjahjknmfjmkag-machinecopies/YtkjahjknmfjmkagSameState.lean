/- The law's sameState, at two values that read as one state. -/
import Derived.Test.YtkjahjknmfjmkagMachMem
import Derived.Test.YtkjahjknmfjmkagSameLocks
import Derived.Test.YtkjahjknmfjmkagPairRef
import Derived.Test.YtkjahjknmfjmkagSameSess
namespace Go.Proofs.Ytkjahjknmfjmkag
open Go.RowKit

set_option maxHeartbeats 1600000 in
theorem sameState_eq (v u : Value) (s : StateD) (w : World) (B B' : Nat) (hv : StateR w B v s) (hu : StateR w B' u s) (hB : B ≤ w.heap.size) (hB' : B' ≤ w.heap.size) :
    Calls Try.prog 5 #[v, u] w fun e w' => e = .returned (.bool true) ∧ Below w.heap.size w w' := by
  obtain ⟨lv, pv, sv, rfl, h1, h2, h3⟩ := hv
  obtain ⟨lu, pu, su, rfl, g1, g2, g3⟩ := hu
  have CL := ghid (fun (w' : World) (hb : Below w.heap.size w w') => sameLocks_eq lv lu s.locks w' B B' (h1.below hb hB) (g1.below hb hB'))
  have CP := ghid (fun (w' : World) (hb : Below w.heap.size w w') => samePairs_eq pv pu s.pairs w' B B' (h2.below hb hB) (g2.below hb hB'))
  have CS := ghid (fun (w' : World) (hb : Below w.heap.size w w') => sameSess_eq sv su s.sess w' B B' (h3.below hb hB) (g3.below hb hB') (by have := hb.size; omega) (by have := hb.size; omega))
  obtain ⟨lo, lc, rfl⟩ := h1.slice
  obtain ⟨po, pc, rfl⟩ := h2.slice
  obtain ⟨so, sc, rfl⟩ := h3.slice
  obtain ⟨lo', lc', rfl⟩ := g1.slice
  obtain ⟨po', pc', rfl⟩ := g2.slice
  obtain ⟨so', sc', rfl⟩ := g3.slice
  have HB0 : Hid (Below w.heap.size w ((w.alloc (.cells #[.int .i64 s.index, .slice lo s.locks.length lc, .slice po s.pairs.length pc, .slice so s.sess.length sc] 26)).alloc (.cells #[.int .i64 s.index, .slice lo' s.locks.length lc', .slice po' s.pairs.length pc', .slice so' s.sess.length sc'] 26))) := ((Below.refl w.heap.size w).alloc (Nat.le_refl _) _).alloc (by simp) _
  clear h1 h2 h3 g1 g2 g3
  go_enter Try.func5, Try.ntmps5
  go_wp2_with fail
  refine (CL.out _ HB0.out).mono ?_
  rintro e w1 ⟨rfl, n1, rfl⟩
  have HB1 := ghid (HB0.out.trans (g_drewN_below w.heap.size _ n1))
  go_wp2_with fail
  refine (CP.out _ HB1.out).mono ?_
  rintro e w2 ⟨rfl, n2, rfl⟩
  go_wp2_with fail
  refine (CS.out _ (HB0.out.trans (g_drewN_below _ _ _))).mono ?_
  rintro e w3 ⟨rfl, hb3⟩
  have HB3 := ghid ((HB0.out.trans (g_drewN_below _ _ _)).trans (hb3.mono (by simp; omega)))
  clear hb3
  go_wp2
  go_ret
  exact ⟨rfl, HB3.out⟩
end Go.Proofs.Ytkjahjknmfjmkag
