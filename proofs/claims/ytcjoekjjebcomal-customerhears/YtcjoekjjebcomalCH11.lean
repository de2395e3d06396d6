/- lock.Name and the document's NameMay: both tell whether a text is a name, at every text (joined by program) -/
import Derived.Test.YtcjoekjjebcomalRows
import Derived.WalkLawsBesides
import Derived.Test.YtcjoekjjebcomalCH00
import Derived.Test.YtcjoekjjebcomalCH10
namespace Go.Proofs.Ytcjoekjjebcomal

open Go.RowKit

set_option maxHeartbeats 400000 in
theorem name_yes (s : ByteArray) (w : World) (h : nameB s = true) :
    Calls Try.prog 25 #[.string s] w fun e w' => e = .returned (.bool true) ∧ w' = w := by
  obtain ⟨h1, h2, h3⟩ := nameB_yes h
  clear h
  go_enter Try.func25, Try.ntmps25
  go_wp2
  go_loop [14] (fun i => ∃ k : Nat, k ≤ s.size ∧ i = .int .i64 k) (fun i => s.size - (intOf i).toNat)
  case atStart => exact ⟨0, Nat.zero_le _, rfl⟩
  case round =>
    obtain ⟨k, hk, rfl⟩ := hrel
    by_cases hlt : k < s.size
    · obtain ⟨h4, h5⟩ := h3 k hlt
      go_wp2
      go_round
      case rel => exact ⟨k + 1, by omega, by go_num⟩
      case measure => simp [intOf]; omega
    · go_wp2
      go_ret
      exact ⟨rfl, rfl⟩

set_option maxHeartbeats 400000 in
theorem name_no (s : ByteArray) (w : World) (hs : s.size ≤ 9223372036854775807) (h : nameB s = false) :
    Calls Try.prog 25 #[.string s] w fun e w' => e = .returned (.bool false) ∧ w' = w := by
  by_cases h1 : s.size < 1
  · go_enter Try.func25, Try.ntmps25
    go_wp2
    go_ret
    exact ⟨rfl, rfl⟩
  · by_cases h2 : 6 < s.size
    · go_enter Try.func25, Try.ntmps25
      go_wp2
      go_ret
      exact ⟨rfl, rfl⟩
    · obtain ⟨j, hj, hbad⟩ := nameB_no h (by omega) (by omega)
      clear h
      go_enter Try.func25, Try.ntmps25
      go_wp2
      go_loop [14] (fun i => ∃ k : Nat, k ≤ j ∧ i = .int .i64 k) (fun i => s.size - (intOf i).toNat)
      case atStart => exact ⟨0, Nat.zero_le _, rfl⟩
      case round =>
        obtain ⟨k, hk, rfl⟩ := hrel
        have hlt : k < s.size := by omega
        by_cases h4 : (s[k].toNat : Int) < 97
        · clear hbad
          go_wp2
          go_ret
          exact ⟨rfl, rfl⟩
        · by_cases h5 : 122 < (s[k].toNat : Int)
          · clear hbad
            go_wp2
            go_ret
            exact ⟨rfl, rfl⟩
          · have hne : k ≠ j := by rintro rfl; omega
            clear hbad
            have hkj : k < j := by omega
            clear hne
            go_wp2
            go_round
            case rel => exact ⟨k + 1, by omega, by go_num⟩
            case measure => simp [intOf]; omega

set_option maxHeartbeats 400000 in
theorem nameMay_yes (s : ByteArray) (w : World) (h : nameB s = true) :
    Calls Try.prog 23 #[.string s] w fun e w' => e = .returned (.bool true) ∧ w' = w := by
  obtain ⟨h1, h2, h3⟩ := nameB_yes h
  clear h
  go_enter Try.func23, Try.ntmps23
  go_wp2
  go_loop [3] (fun i => ∃ k : Nat, k ≤ s.size ∧ i = .int .i64 k) (fun i => s.size - (intOf i).toNat)
  case atStart => exact ⟨0, Nat.zero_le _, rfl⟩
  case round =>
    obtain ⟨k, hk, rfl⟩ := hrel
    by_cases hlt : k < s.size
    · obtain ⟨h4, h5⟩ := h3 k hlt
      go_wp2_with fail
      refine (in_yes _ 97 122 _ h4 h5).mono ?_
      rintro e w1 ⟨rfl, rfl⟩
      go_wp2
      go_round
      case rel => exact ⟨k + 1, by omega, by go_num⟩
      case measure => simp [intOf]; omega
    · go_wp2_with fail
      refine (in_yes _ 1 6 _ (by omega) (by omega)).mono ?_
      rintro e w1 ⟨rfl, rfl⟩
      go_wp2
      go_ret
      exact ⟨rfl, rfl⟩

set_option maxHeartbeats 1600000 in
theorem nameMay_no (s : ByteArray) (w : World) (hs : s.size ≤ 9223372036854775807) (h : nameB s = false) :
    Calls Try.prog 23 #[.string s] w fun e w' => e = .returned (.bool false) ∧ w' = w := by
  have hz : 1 ≤ s.size → s.size ≤ 6 → ∃ j, ∃ h : j < s.size, (s[j].toNat : Int) < 97 ∨ 122 < (s[j].toNat : Int) := fun a b => nameB_no h a b
  have HZ : Hid (1 ≤ s.size → s.size ≤ 6 → ∃ j, ∃ h : j < s.size, (s[j].toNat : Int) < 97 ∨ 122 < (s[j].toNat : Int)) := hz
  clear h hz
  go_enter Try.func23, Try.ntmps23
  go_wp2
  go_loop [3] (fun i => ∃ k : Nat, k ≤ s.size ∧ i = .int .i64 k ∧ ∀ j, (h : j < s.size) → j < k → 97 ≤ (s[j].toNat : Int) ∧ (s[j].toNat : Int) ≤ 122) (fun i => s.size - (intOf i).toNat)
  case atStart => exact ⟨0, Nat.zero_le _, rfl, fun j _ h => by omega⟩
  case round =>
    obtain ⟨k, hk, rfl, hall⟩ := hrel
    have HA : Hid (∀ j, (h : j < s.size) → j < k → 97 ≤ (s[j].toNat : Int) ∧ (s[j].toNat : Int) ≤ 122) := hall
    clear hall
    by_cases hlt : k < s.size
    · have h255 : (s[k].toNat : Int) ≤ 255 := by have := s[k].toNat_lt; omega
      by_cases h4 : (s[k].toNat : Int) < 97
      · go_wp2_with fail
        refine (in_low _ 97 122 _ h4).mono ?_
        rintro e w1 ⟨rfl, rfl⟩
        go_wp2
        go_ret
        exact ⟨rfl, rfl⟩
      · by_cases h5 : 122 < (s[k].toNat : Int)
        · go_wp2_with fail
          refine (in_high _ 97 122 _ h5).mono ?_
          rintro e w1 ⟨rfl, rfl⟩
          go_wp2
          go_ret
          exact ⟨rfl, rfl⟩
        · go_wp2_with fail
          refine (in_yes _ 97 122 _ (by omega) (by omega)).mono ?_
          rintro e w1 ⟨rfl, rfl⟩
          go_wp2
          go_round
          case rel =>
            refine ⟨k + 1, by omega, by go_num, fun j hj hjk => ?_⟩
            by_cases hjk' : j < k
            · exact HA.out j hj hjk'
            · have : j = k := by omega
              subst this
              omega
          case measure => simp [intOf]; omega
    · by_cases h1 : s.size < 1
      · go_wp2_with fail
        refine (in_low _ 1 6 _ (by omega)).mono ?_
        rintro e w1 ⟨rfl, rfl⟩
        go_wp2
        go_ret
        exact ⟨rfl, rfl⟩
      · by_cases h2 : 6 < s.size
        · go_wp2_with fail
          refine (in_high _ 1 6 _ (by omega)).mono ?_
          rintro e w1 ⟨rfl, rfl⟩
          go_wp2
          go_ret
          exact ⟨rfl, rfl⟩
        · obtain ⟨j, hj, hbad⟩ := HZ.out (by omega) (by omega)
          have := HA.out j hj (by omega)
          omega

end Go.Proofs.Ytcjoekjjebcomal
