/- LogCopies, walked, over a contract of log.Copy; log.Copy: the same log, in memory of its own (joined by program) -/
import Derived.Deep.RegionWith
import Derived.Deep.RegionHeld3
import Derived.Test.YtbmfahgekcnkaaiRC03
import Derived.Test.YtbmfahgekcnkaaiRC13
namespace Go.Proofs.Ytbmfahgekcnkaai

open Go.RowKit

theorem equalOf_below {w W : World} {B B' : Nat} {v u : Value} {ts : List ByteArray} (_hb : Below w.heap.size w W) (hv : TextsR W B v ts) (hu : TextsR W B' u ts) : Calls Try.prog 9 #[v, u] W fun e w' => e = .returned (.bool true) ∧ Below W.heap.size W w' :=
  (sameTexts_eq v u ts W B B' hv hu).mono fun e w' h => ⟨h.1, by obtain ⟨n, rfl⟩ := h.2; exact g_drewN_below _ _ _⟩

set_option maxRecDepth 100000 in
/-- The law's sameLog: what reads as one log is the same. -/
theorem sameLog_eq (v u : Value) (l : LogD) (w : World) (B B' : Nat) (hv : LogR w B v l) (hu : LogR w B' u l) (hB : B ≤ w.heap.size) (hB' : B' ≤ w.heap.size) :
    Calls Try.prog 12 #[v, u] w fun e w' => e = .returned (.bool true) ∧ Below w.heap.size w w' := by
  obtain ⟨eo, ec, rfl, h1⟩ := hv.shape
  obtain ⟨uo, uc, rfl, h2⟩ := hu.shape
  have hb : Below w.heap.size w ((w.alloc (.cells #[.int .i64 l.base, .slice eo l.ents.length ec] 24)).alloc (.cells #[.int .i64 l.base, .slice uo l.ents.length uc] 24)) := ((Below.refl w.heap.size w).alloc (Nat.le_refl _) _).alloc (by simp) _
  have CQ := ghid (equalOf_below hb (h1.below hb hB) (h2.below hb hB'))
  have HB := ghid hb
  clear hv hu h1 h2 hb
  go_enter Try.func12, Try.ntmps12
  go_wp2_with fail
  refine CQ.out.mono ?_
  rintro e w1 ⟨rfl, hb1⟩
  have HF := ghid (HB.out.trans (hb1.mono HB.out.size))
  clear hb1 CQ
  go_wp2
  go_ret
  exact ⟨rfl, HF.out⟩

end Go.Proofs.Ytbmfahgekcnkaai

namespace Go.Proofs.Ytbmfahgekcnkaai

open Go.RowKit

set_option maxRecDepth 100000 in
set_option maxHeartbeats 1600000 in
theorem logCopy_own (v : Value) (l : LogD) (w : World) (B : Nat) (hv : LogR w B v l) (hB : B ≤ w.heap.size) :
    Calls Try.prog 27 #[v] w fun e w' => ∃ vo vc, e = .returned (.agg #[.int .i64 l.base, .slice vo l.ents.length vc]) ∧ w'.ownsRow (w.heap.size + 1) 9 1 (.slice vo l.ents.length vc) l.ents.length (textCells l.ents) ∧ Below w.heap.size w w' := by
  obtain ⟨eo, ec, rfl, ht⟩ := hv.shape
  obtain ⟨base, ts⟩ := l
  simp only at ht ⊢
  have hm := ht.sizes
  have hln := ht.len
  have hb0 : Below w.heap.size w ((w.alloc (.cells #[.int .i64 base, .slice eo ts.length ec] 24)).alloc (.cells #[.int .i64 0, .slice none 0 0] 24)) := (((Below.refl _ _).alloc (Nat.le_refl _) _).alloc (by simp) _)
  have hL := (ListsR.one (ht.below hb0 hB) (by have := hb0.size; omega)).below (g_drewN_below _ _ 1) (Nat.le_refl _)
  have CJ := join_own _ [ts] _ _ hL (by simp) (by simpa using hln) (by simpa using hm)
  have hb1 : Below w.heap.size w (((w.alloc (.cells #[.int .i64 base, .slice eo ts.length ec] 24)).alloc (.cells #[.int .i64 0, .slice none 0 0] 24)).alloc (.cells #[.slice eo ts.length ec] 22)).drew := (hb0.alloc (by simp; omega) _).drew
  have hX : (((w.alloc (.cells #[.int .i64 base, .slice eo ts.length ec] 24)).alloc (.cells #[.int .i64 0, .slice none 0 0] 24)).alloc (.cells #[.slice eo ts.length ec] 22)).drew.heap[w.heap.size]? = some (.cells #[.int .i64 base, .slice eo ts.length ec] 24 (0, 0)) := by
    show (World.alloc _ _).heap[_]? = _
    rw [Below.heap_alloc _ _ _ (by simp; omega), Below.heap_alloc _ _ _ (by simp)]
    exact heap_alloc_new w _
  have hR : (((w.alloc (.cells #[.int .i64 base, .slice eo ts.length ec] 24)).alloc (.cells #[.int .i64 0, .slice none 0 0] 24)).alloc (.cells #[.slice eo ts.length ec] 22)).drew.heap[w.heap.size + 1]? = some (.cells #[.int .i64 0, .slice none 0 0] 24 (0, 0)) := by
    show (World.alloc _ _).heap[_]? = _
    rw [Below.heap_alloc _ _ _ (by simp)]
    have := heap_alloc_new (w.alloc (.cells #[.int .i64 base, .slice eo ts.length ec] 24)) (.cells #[.int .i64 0, .slice none 0 0] 24)
    rw [show (w.alloc (.cells #[.int .i64 base, .slice eo ts.length ec] 24)).heap.size = w.heap.size + 1 by simp] at this
    exact this
  obtain ⟨X, hXe⟩ : ∃ X, X = (((w.alloc (.cells #[.int .i64 base, .slice eo ts.length ec] 24)).alloc (.cells #[.int .i64 0, .slice none 0 0] 24)).alloc (.cells #[.slice eo ts.length ec] 22)).drew := ⟨_, rfl⟩
  have hXs : X.heap.size = w.heap.size + 3 := by rw [hXe]; simp
  have ea : ((w.alloc (.cells #[.int .i64 base, .slice eo ts.length ec] 24)).alloc (.cells #[.int .i64 0, .slice none 0 0] 24)).heap.size = w.heap.size + 1 + 1 := by simp
  have CJ2 : Hid (Calls Try.prog 18 #[.slice (some ⟨w.heap.size + 1 + 1, 0, none⟩) 1 1] (((w.alloc (.cells #[.int .i64 base, .slice eo ts.length ec] 24)).alloc (.cells #[.int .i64 0, .slice none 0 0] 24)).alloc (.cells #[.slice eo ts.length ec] 22)).drew fun e w' => ∃ vo vc, e = .returned (.slice vo ts.length vc) ∧ w'.ownsRow (w.heap.size + 3) 9 1 (.slice vo ts.length vc) ts.length (textCells ts) ∧ Below w.heap.size w w' ∧ w'.heap[w.heap.size]? = some (.cells #[.int .i64 base, .slice eo ts.length ec] 24 (0, 0)) ∧ w'.heap[w.heap.size + 1]? = some (.cells #[.int .i64 0, .slice none 0 0] 24 (0, 0))) := by
    rw [ea] at CJ
    have e1 : World.drewN ((w.alloc (.cells #[.int .i64 base, .slice eo ts.length ec] 24)).alloc (.cells #[.int .i64 0, .slice none 0 0] 24) |>.alloc (.cells #[.slice eo ts.length ec] 22)) 1 = X := hXe.symm
    rw [e1] at CJ
    rw [← hXe] at hb1 hX hR ⊢
    refine CJ.mono ?_
    rintro e w' ⟨vo, rfl, hown, hb⟩
    simp only [List.flatten_cons, List.flatten_nil, List.append_nil] at hown
    obtain ⟨vo, vc, rfl⟩ := grow_shape hown
    exact ⟨vo, vc, rfl, grow_mono hown (by omega), hb1.trans (hb.mono (by omega)), (hb.block _ (by omega)).trans hX, (hb.block _ (by omega)).trans hR⟩
  clear hv ht hb0 hX hR hm hln hL hb1 ea CJ hXe hXs
  go_enter Try.func27, Try.ntmps27
  go_wp2_with fail
  go_region_held3 (fun w' => w'.cell? ⟨w.heap.size, 0, none⟩ = some (.int .i64 base) ∧ w'.cell? ⟨w.heap.size, 1, none⟩ = some (.slice eo ts.length ec)) (go_keep)
    (first
      | (go_at_call 18; refine CJ2.out.mono ?_; rintro e w1 ⟨vo, vc, rfl, hown1, hb1, hbx, hrx⟩; obtain ⟨b0, b1, bf, bl⟩ := two_free hbx; obtain ⟨z0, z1, zf, zl⟩ := two_free hrx))
  have HR1 := ghid (grow_mono (zset2_row (b := w.heap.size + 1) hown1 (by omega) (.int .i64 base) (.slice vo ts.length vc)) (by omega : w.heap.size + 1 ≤ w.heap.size + 3))
  have HB1 := ghid (zset2 (b := w.heap.size + 1) hb1 (by omega) (.int .i64 base) (.slice vo ts.length vc))
  clear hown1 hb1 hbx hrx
  go_wp2
  refine bodyPost_ret (v := .agg #[.int .i64 base, .slice vo ts.length vc]) (by simp [results, Try.results27, go_sem, z0, z1]) rfl ?_
  exact ⟨_, _, rfl, HR1.out, HB1.out⟩

end Go.Proofs.Ytbmfahgekcnkaai
