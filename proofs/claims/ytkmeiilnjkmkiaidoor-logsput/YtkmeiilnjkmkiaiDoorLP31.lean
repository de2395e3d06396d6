/- slices.Equal of texts: what reads as one list is equal; Entries that were made may be (joined by program) -/
import Derived.Laws.StructEq
import Derived.BigQuiet
import Derived.Test.YtkmeiilnjkmkiaiDoorLP03
import Derived.Test.YtkmeiilnjkmkiaiDoorLP02
import Derived.Test.YtkmeiilnjkmkiaiDoorLP04
import Derived.Test.YtkmeiilnjkmkiaiDoorLP25
namespace Go.Proofs.YtkmeiilnjkmkiaiDoor

open Go.RowKit

set_option maxRecDepth 100000 in
set_option maxHeartbeats 1600000 in
theorem equalTexts (v u : Value) (ps : List ByteArray) (w : World) (B B' : Nat) (hv : TextsR w B v ps) (hu : TextsR w B' u ps) :
    Calls Tryd.prog 10 #[v, u] w fun e w' => e = .returned (.bool true) ∧ ∃ n, w' = w.drewN n := by
  obtain ⟨ao, cap, rfl, h1, h2, h3, h4⟩ := hv
  obtain ⟨au, cau, rfl, g1, g2, g3, g4⟩ := hu
  go_enter Tryd.func10, Tryd.ntmps10
  go_wp2
  go_loopw [13] (fun i wr => ∃ k n : Nat, k ≤ ps.length ∧ i = .int .i64 k ∧ wr = w.drewN n) (fun i _ => ps.length - (intOf i).toNat)
  case atStart => exact ⟨0, 0, Nat.zero_le _, rfl, rfl⟩
  case round =>
    obtain ⟨k, n, hk, rfl, rfl⟩ := hrel
    by_cases hlt : k < ps.length
    · obtain ⟨b, off, rfl, hb, hc⟩ := h4 (by omega)
      obtain ⟨b', off', rfl, hb', hc'⟩ := g4 (by omega)
      obtain ⟨x, hx⟩ : ∃ x, ps[k]? = some x := ⟨_, List.getElem?_eq_getElem hlt⟩
      obtain ⟨c0, -⟩ := hc k x hx
      obtain ⟨d0, -⟩ := hc' k x hx
      clear hx hc h4 hc' g4
      go_wp2
      go_quiet (fail)
      go_wp2
      go_roundw
      case rel => exact ⟨k + 1, _, by omega, by go_num, rfl⟩
      case measure => simp [intOf]; omega
    · go_wp2
      go_ret
      exact ⟨rfl, n, rfl⟩

end Go.Proofs.YtkmeiilnjkmkiaiDoor

namespace Go.Proofs.YtkmeiilnjkmkiaiDoor

open Go.RowKit

theorem made_first {out : List CmdD} (h : ∀ x ∈ out, x.err = 0) : firstE (out.map cmdOut) = 0 := firstE_zero.2 fun t ht => by
  obtain ⟨x, hx, rfl⟩ := List.mem_map.1 ht
  exact (dec_all x (h x hx)).1

end Go.Proofs.YtkmeiilnjkmkiaiDoor
