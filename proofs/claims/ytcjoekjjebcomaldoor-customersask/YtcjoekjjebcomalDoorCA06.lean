/- From the form's reading of an argument to an operation, or a command, as plain data; lock.Name and the document's NameMay: both tell whether a text is a name, at every text (joined by program) -/
import Derived.Test.YtcjoekjjebcomalDoorRows
import Derived.WalkKit
import Derived.ProofKit
import Derived.WalkLawsBesides
import Derived.Deep.Slices
import Derived.SizedLaws
import Derived.Carry
import Derived.ChangeArms
import Derived.OpenShut
import Derived.Below
import Derived.Test.YtcjoekjjebcomalDoorCA00
namespace Go.Proofs.YtcjoekjjebcomalDoor

open Go.ChangeShapes Go.WideShapes Go.ChangeAt Go.RowKit Go.Deep

set_option maxRecDepth 100000

/-- A number that fits. -/
def FitsC (n : Int) : Prop := -9223372036854775808 ≤ n ∧ n ≤ 9223372036854775807

/-- A text that can be read. -/
def ShortC (s : ByteArray) : Prop := s.size ≤ 140737488351232

section

variable {H : Type} {enc : TypeId × Value → H} {W : World}

end

end Go.Proofs.YtcjoekjjebcomalDoor

namespace Go.Proofs.YtcjoekjjebcomalDoor

open Go.RowKit

set_option maxHeartbeats 400000 in
theorem name_yes (s : ByteArray) (w : World) (h : nameB s = true) :
    Calls Tryd.prog 39 #[.string s] w fun e w' => e = .returned (.bool true) ∧ w' = w := by
  obtain ⟨h1, h2, h3⟩ := nameB_yes h
  clear h
  go_enter Tryd.func39, Tryd.ntmps39
  go_wp2
  go_loop [14] (fun i => ∃ k : Nat, k ≤ s.size ∧ i = .int .i64 k) (fun i => s.size - (intOf i).toNat)
  case atStart => exact ⟨0, Nat.zero_le _, rfl⟩
  case round =>
    obtain ⟨k, hk, rfl⟩ := hrel
    by_cases hlt : k < s.size
    · obtain ⟨h4, h5⟩ := h3 k hlt
      go_wp2
      go_round
      case rel => exact ⟨k + 1, by omega, by go_num⟩
      case measure => simp [intOf]; omega
    · go_wp2
      go_ret
      exact ⟨rfl, rfl⟩

set_option maxHeartbeats 400000 in
theorem name_no (s : ByteArray) (w : World) (hs : s.size ≤ 9223372036854775807) (h : nameB s = false) :
    Calls Tryd.prog 39 #[.string s] w fun e w' => e = .returned (.bool false) ∧ w' = w := by
  by_cases h1 : s.size < 1
  · go_enter Tryd.func39, Tryd.ntmps39
    go_wp2
    go_ret
    exact ⟨rfl, rfl⟩
  · by_cases h2 : 6 < s.size
    · go_enter Tryd.func39, Tryd.ntmps39
      go_wp2
      go_ret
      exact ⟨rfl, rfl⟩
    · obtain ⟨j, hj, hbad⟩ := nameB_no h (by omega) (by omega)
      clear h
      go_enter Tryd.func39, Tryd.ntmps39
      go_wp2
      go_loop [14] (fun i => ∃ k : Nat, k ≤ j ∧ i = .int .i64 k) (fun i => s.size - (intOf i).toNat)
      case atStart => exact ⟨0, Nat.zero_le _, rfl⟩
      case round =>
        obtain ⟨k, hk, rfl⟩ := hrel
        have hlt : k < s.size := by omega
        by_cases h4 : (s[k].toNat : Int) < 97
        · clear hbad
          go_wp2
          go_ret
          exact ⟨rfl, rfl⟩
        · by_cases h5 : 122 < (s[k].toNat : Int)
          · clear hbad
            go_wp2
            go_ret
            exact ⟨rfl, rfl⟩
          · have hne : k ≠ j := by rintro rfl; omega
            clear hbad
            have hkj : k < j := by omega
            clear hne
            go_wp2
            go_round
            case rel => exact ⟨k + 1, by omega, by go_num⟩
            case measure => simp [intOf]; omega

end Go.Proofs.YtcjoekjjebcomalDoor
