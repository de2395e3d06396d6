/- The document's LogFault: it answers something; OK: the base is in its range, and there are not too many entries. -/
import Derived.Test.YtkmeiilnjkmkiahRefCmdOf
import Derived.Test.YtkmeiilnjkmkiahLogMem
import Derived.Test.YtkmeiilnjkmkiahRefIn
namespace Go.Proofs.Ytkmeiilnjkmkiah
open Go.RowKit

def FaultSome (l : LogD) (w : World) (e : Ending) (w' : World) : Prop :=
  ∃ c : Int, e = .returned (.int .i64 c) ∧ (c = 0 → 0 ≤ l.base ∧ l.base ≤ 1073741424 ∧ l.ents.length ≤ 400) ∧ Below w.heap.size w w'

set_option maxRecDepth 100000 in
set_option maxHeartbeats 3200000 in
theorem logFault_some (v : Value) (l : LogD) (w : World) (B : Nat) (hv : LogR w B v l) (hB : B ≤ w.heap.size) : Calls Try.prog 9 #[v] w (FaultSome l w) := by
  obtain ⟨eo, ec, rfl, ht⟩ := hv.shape
  obtain ⟨base, ents⟩ := l
  simp only at ht ⊢
  have hb0 : Below w.heap.size w (w.alloc (.cells #[.int .i64 base, .slice eo ents.length ec] 24)) := (Below.refl _ _).alloc (Nat.le_refl _) _
  have HX0 : Hid ((w.alloc (.cells #[.int .i64 base, .slice eo ents.length ec] 24)).heap[w.heap.size]? = some (.cells #[.int .i64 base, .slice eo ents.length ec] 24 (0, 0))) := heap_alloc_new w _
  have HB0 := ghid hb0
  have HTX := ghid ht
  clear hv hb0 ht
  by_cases h1 : 0 ≤ base ∧ base ≤ 1073741424
  · have CI := ghid (fun u => in_yes base 0 1073741424 u h1.1 h1.2)
    by_cases h2 : (400 : Int) < (ents.length : Int)
    · go_enter Try.func9, Try.ntmps9
      go_wp2_with fail
      refine (CI.out _).mono ?_
      rintro e w1 ⟨rfl, rfl⟩
      go_wp2
      go_ret
      exact ⟨1, rfl, fun h => absurd h (by decide), HB0.out⟩
    · have HOK : Hid (0 ≤ base ∧ base ≤ 1073741424 ∧ ents.length ≤ 400) := ⟨h1.1, h1.2, by omega⟩
      go_enter Try.func9, Try.ntmps9
      go_wp2_with fail
      refine (CI.out _).mono ?_
      rintro e w1 ⟨rfl, rfl⟩
      go_wp2_with fail
      go_loopw [3] (fun i wr => ∃ k : Nat, k ≤ ents.length ∧ i = .int .i64 k ∧ wr.heap[w.heap.size]? = some (.cells #[.int .i64 base, .slice eo ents.length ec] 24 (0, 0)) ∧ Below w.heap.size w wr) (fun i _ => ents.length - (intOf i).toNat)
      case atStart => exact ⟨0, Nat.zero_le _, rfl, HX0.out, HB0.out⟩
      case round =>
        obtain ⟨k, hk, rfl, hx, hb⟩ := hrel
        have HX := ghid hx
        have HB := ghid hb
        have hc0 : wr.cell? ⟨w.heap.size, 0, none⟩ = some (.int .i64 base) := cell_of_row wr w.heap.size 0 _ _ _ hx
        have hc1 : wr.cell? ⟨w.heap.size, 1, none⟩ = some (.slice eo ents.length ec) := cell_of_row wr w.heap.size 1 _ _ _ hx
        have hlr : w.heap.size < wr.heap.size := (Array.getElem?_eq_some_iff.1 hx).1
        by_cases hlt : k < ents.length
        · obtain ⟨x, hxe⟩ : ∃ x, ents[k]? = some x := ⟨_, List.getElem?_eq_getElem hlt⟩
          obtain ⟨ao, cap, he, -, -, -, h4⟩ := HTX.out.below (B' := w.heap.size) hb hB
          simp only [Value.slice.injEq, true_and] at he
          obtain ⟨rfl, rfl⟩ := he
          obtain ⟨b, off, rfl, hbB, hc⟩ := h4 (by omega)
          obtain ⟨hcx, hxs⟩ := hc k x hxe
          have CC := ghid (commandOf_some x wr hxs)
          clear hx hb hc h4 hxe
          go_wp2_with fail
          refine CC.out.mono ?_
          rintro e w2 ⟨k2, c2, s2, q2, u2, o2, a2, b2, n2, r, rfl, hb2⟩
          have HX2 : Hid (w2.heap[w.heap.size]? = _) := (hb2.block _ hlr).trans HX.out
          have HB2 := ghid (HB.out.trans (hb2.mono HB.out.size))
          have hba : Below w2.heap.size w2 (w2.alloc (.cells #[.int .i64 k2, .int .i64 c2, .int .i64 s2, .int .i64 q2, .int .i64 u2, .int .i64 o2, .string a2, .string b2, .int .i64 n2] 42)) := (Below.refl _ _).alloc (Nat.le_refl _) _
          have HB3 := ghid (HB2.out.trans (hba.mono HB2.out.size))
          have HX3 : Hid ((w2.alloc (.cells #[.int .i64 k2, .int .i64 c2, .int .i64 s2, .int .i64 q2, .int .i64 u2, .int .i64 o2, .string a2, .string b2, .int .i64 n2] 42)).heap[w.heap.size]? = _) := (hba.block _ (Array.getElem?_eq_some_iff.1 HX2.out).1).trans HX2.out
          clear hb2 CC hba hc0 hc1 hcx
          by_cases hr : r = 0
          · subst hr
            go_wp2
            go_roundw
            case rel => exact ⟨k + 1, by omega, by go_num, HX3.out, HB3.out⟩
            case measure => simp [intOf]; omega
          · have hrb : (r != 0) = true := by simpa using hr
            have HNE := ghid hr
            clear hr
            go_wp2
            go_ret
            exact ⟨r, rfl, fun h => absurd h HNE.out, HB3.out⟩
        · clear hx hb
          go_wp2
          go_ret
          exact ⟨0, rfl, fun _ => HOK.out, HB.out⟩
  · have CI : Hid (∀ u : World, Calls Try.prog 20 #[.int .i64 base, .int .i64 0, .int .i64 1073741424] u fun e w' => e = .returned (.bool false) ∧ w' = u) := fun u => by
      by_cases hl : base < 0
      · exact in_low base 0 1073741424 u hl
      · exact in_high base 0 1073741424 u (by omega)
    go_enter Try.func9, Try.ntmps9
    go_wp2_with fail
    refine (CI.out _).mono ?_
    rintro e w1 ⟨rfl, rfl⟩
    go_wp2
    go_ret
    exact ⟨2, rfl, fun h => absurd h (by decide), HB0.out⟩

set_option maxHeartbeats 800000 in
theorem lastOf_any (v : Value) (l : LogD) (w : World) (B : Nat) (hv : LogR w B v l) (h0 : 0 ≤ l.base ∧ l.base ≤ 1073741424 ∧ l.ents.length ≤ 400) :
    Calls Try.prog 13 #[v] w fun e w' => e = .returned (.int .i64 (l.base + l.ents.length)) ∧ Below w.heap.size w w' := by
  obtain ⟨eo, ec, rfl, ht⟩ := hv.shape
  obtain ⟨base, ents⟩ := l
  simp only at h0 ⊢
  have HB0 : Hid (Below w.heap.size w (w.alloc (.cells #[.int .i64 base, .slice eo ents.length ec] 24))) := (Below.refl _ _).alloc (Nat.le_refl _) _
  clear hv ht
  go_enter Try.func13, Try.ntmps13
  go_wp2
  go_ret
  exact ⟨rfl, HB0.out⟩
end Go.Proofs.Ytkmeiilnjkmkiah
