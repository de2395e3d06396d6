/- lock.Name and the document's NameMay: both tell whether a text is a name, at every text; lock.isClient, lock.lineInForm, lock.inForm: may the name, the holder and the line be those of a lock? (joined by program) -/
import Derived.Test.YtpcacaohknkdlagRows
import Derived.WalkLawsBesides
import Derived.Test.YtpcacaohknkdlagSE05
import Derived.Test.YtpcacaohknkdlagSE06
namespace Go.Proofs.Ytpcacaohknkdlag

open Go.RowKit

set_option maxHeartbeats 400000 in
theorem name_yes (s : ByteArray) (w : World) (h : nameB s = true) :
    Calls Try.prog 66 #[.string s] w fun e w' => e = .returned (.bool true) ∧ w' = w := by
  obtain ⟨h1, h2, h3⟩ := nameB_yes h
  clear h
  go_enter Try.func66, Try.ntmps66
  go_wp2
  go_loop [14] (fun i => ∃ k : Nat, k ≤ s.size ∧ i = .int .i64 k) (fun i => s.size - (intOf i).toNat)
  case atStart => exact ⟨0, Nat.zero_le _, rfl⟩
  case round =>
    obtain ⟨k, hk, rfl⟩ := hrel
    by_cases hlt : k < s.size
    · obtain ⟨h4, h5⟩ := h3 k hlt
      go_wp2
      go_round
      case rel => exact ⟨k + 1, by omega, by go_num⟩
      case measure => simp [intOf]; omega
    · go_wp2
      go_ret
      exact ⟨rfl, rfl⟩

set_option maxHeartbeats 400000 in
theorem name_no (s : ByteArray) (w : World) (hs : s.size ≤ 9223372036854775807) (h : nameB s = false) :
    Calls Try.prog 66 #[.string s] w fun e w' => e = .returned (.bool false) ∧ w' = w := by
  by_cases h1 : s.size < 1
  · go_enter Try.func66, Try.ntmps66
    go_wp2
    go_ret
    exact ⟨rfl, rfl⟩
  · by_cases h2 : 6 < s.size
    · go_enter Try.func66, Try.ntmps66
      go_wp2
      go_ret
      exact ⟨rfl, rfl⟩
    · obtain ⟨j, hj, hbad⟩ := nameB_no h (by omega) (by omega)
      clear h
      go_enter Try.func66, Try.ntmps66
      go_wp2
      go_loop [14] (fun i => ∃ k : Nat, k ≤ j ∧ i = .int .i64 k) (fun i => s.size - (intOf i).toNat)
      case atStart => exact ⟨0, Nat.zero_le _, rfl⟩
      case round =>
        obtain ⟨k, hk, rfl⟩ := hrel
        have hlt : k < s.size := by omega
        by_cases h4 : (s[k].toNat : Int) < 97
        · clear hbad
          go_wp2
          go_ret
          exact ⟨rfl, rfl⟩
        · by_cases h5 : 122 < (s[k].toNat : Int)
          · clear hbad
            go_wp2
            go_ret
            exact ⟨rfl, rfl⟩
          · have hne : k ≠ j := by rintro rfl; omega
            clear hbad
            have hkj : k < j := by omega
            clear hne
            go_wp2
            go_round
            case rel => exact ⟨k + 1, by omega, by go_num⟩
            case measure => simp [intOf]; omega

theorem name_any (s : ByteArray) (w : World) (hs : s.size ≤ 9223372036854775807) :
    Calls Try.prog 66 #[.string s] w fun e w' => e = .returned (.bool (nameB s)) ∧ w' = w := by
  cases h : nameB s with
  | true => exact name_yes s w h
  | false => exact name_no s w hs h

set_option maxHeartbeats 400000 in
theorem nameMay_yes (s : ByteArray) (w : World) (h : nameB s = true) :
    Calls Try.prog 75 #[.string s] w fun e w' => e = .returned (.bool true) ∧ w' = w := by
  obtain ⟨h1, h2, h3⟩ := nameB_yes h
  clear h
  go_enter Try.func75, Try.ntmps75
  go_wp2
  go_loop [3] (fun i => ∃ k : Nat, k ≤ s.size ∧ i = .int .i64 k) (fun i => s.size - (intOf i).toNat)
  case atStart => exact ⟨0, Nat.zero_le _, rfl⟩
  case round =>
    obtain ⟨k, hk, rfl⟩ := hrel
    by_cases hlt : k < s.size
    · obtain ⟨h4, h5⟩ := h3 k hlt
      go_wp2_with fail
      refine (in_yes _ 97 122 _ h4 h5).mono ?_
      rintro e w1 ⟨rfl, rfl⟩
      go_wp2
      go_round
      case rel => exact ⟨k + 1, by omega, by go_num⟩
      case measure => simp [intOf]; omega
    · go_wp2_with fail
      refine (in_yes _ 1 6 _ (by omega) (by omega)).mono ?_
      rintro e w1 ⟨rfl, rfl⟩
      go_wp2
      go_ret
      exact ⟨rfl, rfl⟩

set_option maxHeartbeats 1600000 in
theorem nameMay_no (s : ByteArray) (w : World) (hs : s.size ≤ 9223372036854775807) (h : nameB s = false) :
    Calls Try.prog 75 #[.string s] w fun e w' => e = .returned (.bool false) ∧ w' = w := by
  have hz : 1 ≤ s.size → s.size ≤ 6 → ∃ j, ∃ h : j < s.size, (s[j].toNat : Int) < 97 ∨ 122 < (s[j].toNat : Int) := fun a b => nameB_no h a b
  have HZ : Hid (1 ≤ s.size → s.size ≤ 6 → ∃ j, ∃ h : j < s.size, (s[j].toNat : Int) < 97 ∨ 122 < (s[j].toNat : Int)) := hz
  clear h hz
  go_enter Try.func75, Try.ntmps75
  go_wp2
  go_loop [3] (fun i => ∃ k : Nat, k ≤ s.size ∧ i = .int .i64 k ∧ ∀ j, (h : j < s.size) → j < k → 97 ≤ (s[j].toNat : Int) ∧ (s[j].toNat : Int) ≤ 122) (fun i => s.size - (intOf i).toNat)
  case atStart => exact ⟨0, Nat.zero_le _, rfl, fun j _ h => by omega⟩
  case round =>
    obtain ⟨k, hk, rfl, hall⟩ := hrel
    have HA : Hid (∀ j, (h : j < s.size) → j < k → 97 ≤ (s[j].toNat : Int) ∧ (s[j].toNat : Int) ≤ 122) := hall
    clear hall
    by_cases hlt : k < s.size
    · have h255 : (s[k].toNat : Int) ≤ 255 := by have := s[k].toNat_lt; omega
      by_cases h4 : (s[k].toNat : Int) < 97
      · go_wp2_with fail
        refine (in_low _ 97 122 _ h4).mono ?_
        rintro e w1 ⟨rfl, rfl⟩
        go_wp2
        go_ret
        exact ⟨rfl, rfl⟩
      · by_cases h5 : 122 < (s[k].toNat : Int)
        · go_wp2_with fail
          refine (in_high _ 97 122 _ h5).mono ?_
          rintro e w1 ⟨rfl, rfl⟩
          go_wp2
          go_ret
          exact ⟨rfl, rfl⟩
        · go_wp2_with fail
          refine (in_yes _ 97 122 _ (by omega) (by omega)).mono ?_
          rintro e w1 ⟨rfl, rfl⟩
          go_wp2
          go_round
          case rel =>
            refine ⟨k + 1, by omega, by go_num, fun j hj hjk => ?_⟩
            by_cases hjk' : j < k
            · exact HA.out j hj hjk'
            · have : j = k := by omega
              subst this
              omega
          case measure => simp [intOf]; omega
    · by_cases h1 : s.size < 1
      · go_wp2_with fail
        refine (in_low _ 1 6 _ (by omega)).mono ?_
        rintro e w1 ⟨rfl, rfl⟩
        go_wp2
        go_ret
        exact ⟨rfl, rfl⟩
      · by_cases h2 : 6 < s.size
        · go_wp2_with fail
          refine (in_high _ 1 6 _ (by omega)).mono ?_
          rintro e w1 ⟨rfl, rfl⟩
          go_wp2
          go_ret
          exact ⟨rfl, rfl⟩
        · obtain ⟨j, hj, hbad⟩ := HZ.out (by omega) (by omega)
          have := HA.out j hj (by omega)
          omega

theorem nameMay_any (s : ByteArray) (w : World) (hs : s.size ≤ 9223372036854775807) :
    Calls Try.prog 75 #[.string s] w fun e w' => e = .returned (.bool (nameB s)) ∧ w' = w := by
  cases h : nameB s with
  | true => exact nameMay_yes s w h
  | false => exact nameMay_no s w hs h

end Go.Proofs.Ytpcacaohknkdlag

namespace Go.Proofs.Ytpcacaohknkdlag

open Go.RowKit

theorem isClient_yes (n : Int) (w : World) (h1 : 1 ≤ n) (h2 : n ≤ 9) :
    Calls Try.prog 84 #[.int .i64 n] w fun e w' => e = .returned (.bool true) ∧ w' = w := by
  go_enter Try.func84, Try.ntmps84
  go_wp2
  go_ret
  exact ⟨rfl, rfl⟩

theorem isClient_no (n : Int) (w : World) (h : n < 1 ∨ 9 < n) :
    Calls Try.prog 84 #[.int .i64 n] w fun e w' => e = .returned (.bool false) ∧ w' = w := by
  rcases h with h | h
  · have h1 : ¬ 1 ≤ n := by omega
    go_enter Try.func84, Try.ntmps84
    go_wp2
    go_ret
    exact ⟨rfl, rfl⟩
  · have h1 : 1 ≤ n := by omega
    have h2 : ¬ n ≤ 9 := by omega
    go_enter Try.func84, Try.ntmps84
    go_wp2
    go_ret
    exact ⟨rfl, rfl⟩

set_option maxHeartbeats 800000 in
theorem line_yes (v : Value) (xs : List Int) (h : Int) (w : World) (B : Nat) (hv : IntsR w B v xs) (hl : lineB xs h = true) :
    Calls Try.prog 85 #[v, .int .i64 h] w fun e w' => e = .returned (.bool true) ∧ w' = w := by
  obtain ⟨l1, l2, l3⟩ := lineB_yes hl
  have H3 : Hid (∀ i x, xs[i]? = some x → 1 ≤ x ∧ x ≤ 9 ∧ x ≠ h ∧ hasB x (xs.take i) = false) := l3
  clear hl l3
  obtain ⟨ao, cap, rfl, h1, h2, h3, h4⟩ := hv
  by_cases hyp : h = 0
  · have hx : xs = [] := List.eq_nil_of_length_eq_zero (by
      by_cases hp : 0 < xs.length
      · exact absurd ⟨hyp, hp⟩ l2
      · exact Nat.eq_zero_of_not_pos hp)
    subst hx
    subst hyp
    clear l2 h4 H3
    simp only [List.length_nil]
    go_enter Try.func85, Try.ntmps85
    go_wp2
    go_loop [21] (fun i => i = .int .i64 0) (fun i => 0)
    case atStart => rfl
    case round =>
      subst hrel
      go_wp2
      go_ret
      exact ⟨rfl, rfl⟩
  · clear l2
    go_enter Try.func85, Try.ntmps85
    go_wp2
    go_loop [21] (fun i => ∃ k : Nat, k ≤ xs.length ∧ i = .int .i64 k) (fun i => xs.length - (intOf i).toNat)
    case atStart => exact ⟨0, Nat.zero_le _, rfl⟩
    case round =>
      obtain ⟨k, hk, rfl⟩ := hrel
      by_cases hlt : k < xs.length
      · obtain ⟨b, off, rfl, hb, hc⟩ := h4 (by omega)
        obtain ⟨y, hy⟩ : ∃ y, xs[k]? = some y := ⟨_, List.getElem?_eq_getElem hlt⟩
        have hcell := hc k y hy
        obtain ⟨y1, y2, y3, y4⟩ := H3.out k y hy
        have hkc : k ≤ cap := by omega
        have HT : Hid (IntsR w B (.slice (some ⟨b, off, none⟩) k cap) (xs.take k)) := ints_take hk h1 h2 hb hc
        have HH : Hid (hasB y (xs.take k) = false) := y4
        clear hy hc h4 y4
        go_wp2_with fail
        refine (isClient_yes y _ y1 y2).mono ?_
        rintro e w1 ⟨rfl, rfl⟩
        go_wp2_with fail
        refine (contains_any _ _ y _ B HT.out).mono ?_
        rintro e w1 ⟨rfl, rfl⟩
        rw [HH.out]
        go_wp2
        go_round
        case rel => exact ⟨k + 1, by omega, by go_num⟩
        case measure => simp [intOf]; omega
      · go_wp2
        go_ret
        exact ⟨rfl, rfl⟩

set_option maxHeartbeats 800000 in
theorem line_no (v : Value) (xs : List Int) (h : Int) (w : World) (B : Nat) (hv : IntsR w B v xs) (hl : lineB xs h = false) :
    Calls Try.prog 85 #[v, .int .i64 h] w fun e w' => e = .returned (.bool false) ∧ w' = w := by
  obtain ⟨ao, cap, rfl, h1, h2, h3, h4⟩ := hv
  by_cases c1 : 3 < xs.length
  · go_enter Try.func85, Try.ntmps85
    go_wp2
    go_ret
    exact ⟨rfl, rfl⟩
  · by_cases c2 : h = 0 ∧ 0 < xs.length
    · obtain ⟨c2, c3⟩ := c2
      subst c2
      go_enter Try.func85, Try.ntmps85
      go_wp2
      go_ret
      exact ⟨rfl, rfl⟩
    · obtain ⟨j, z, hz, hbad⟩ := lineB_no hl (by omega) c2
      have hjl : j < xs.length := (List.getElem?_eq_some_iff.1 hz).1
      have hh0 : ¬ h = 0 := fun e => c2 ⟨e, by omega⟩
      have HB : Hid (z < 1 ∨ 9 < z ∨ z = h ∨ hasB z (xs.take j) = true) := hbad
      have HZ : Hid (xs[j]? = some z) := hz
      clear hl c2 hbad hz
      go_enter Try.func85, Try.ntmps85
      go_wp2
      go_loop [21] (fun i => ∃ k : Nat, k ≤ j ∧ i = .int .i64 k) (fun i => xs.length - (intOf i).toNat)
      case atStart => exact ⟨0, Nat.zero_le _, rfl⟩
      case round =>
        obtain ⟨k, hk, rfl⟩ := hrel
        have hlt : k < xs.length := by omega
        obtain ⟨b, off, rfl, hb, hc⟩ := h4 (by omega)
        obtain ⟨y, hy⟩ : ∃ y, xs[k]? = some y := ⟨_, List.getElem?_eq_getElem hlt⟩
        have hcell := hc k y hy
        have hkc : k ≤ cap := by omega
        have HT : Hid (IntsR w B (.slice (some ⟨b, off, none⟩) k cap) (xs.take k)) := ints_take (by omega) h1 h2 hb hc
        have HY : Hid (xs[k]? = some y) := hy
        clear hy hc h4
        by_cases y1 : y < 1 ∨ 9 < y
        · have HC := isClient_no y w y1
          clear y1
          go_wp2_with fail
          refine HC.mono ?_
          rintro e w1 ⟨rfl, rfl⟩
          go_wp2
          go_ret
          exact ⟨rfl, rfl⟩
        · have y2 : 1 ≤ y := by omega
          have y3 : y ≤ 9 := by omega
          clear y1
          by_cases y4 : y = h
          · subst y4
            go_wp2_with fail
            refine (isClient_yes y _ y2 y3).mono ?_
            rintro e w1 ⟨rfl, rfl⟩
            go_wp2
            go_ret
            exact ⟨rfl, rfl⟩
          · cases y5 : hasB y (xs.take k) with
            | true =>
              have H5 : Hid (hasB y (xs.take k) = true) := y5
              clear y5
              go_wp2_with fail
              refine (isClient_yes y _ y2 y3).mono ?_
              rintro e w1 ⟨rfl, rfl⟩
              go_wp2_with fail
              refine (contains_any _ _ y _ B HT.out).mono ?_
              rintro e w1 ⟨rfl, rfl⟩
              rw [H5.out]
              go_wp2
              go_ret
              exact ⟨rfl, rfl⟩
            | false =>
              have hkj : k < j := by
                by_cases e : k = j
                · subst e
                  have e2 : y = z := by have := HY.out; rw [HZ.out] at this; simpa using this.symm
                  subst e2
                  rcases HB.out with q | q | q | q
                  · omega
                  · omega
                  · exact absurd q y4
                  · rw [y5] at q; cases q
                · omega
              have H5 : Hid (hasB y (xs.take k) = false) := y5
              clear y5
              go_wp2_with fail
              refine (isClient_yes y _ y2 y3).mono ?_
              rintro e w1 ⟨rfl, rfl⟩
              go_wp2_with fail
              refine (contains_any _ _ y _ B HT.out).mono ?_
              rintro e w1 ⟨rfl, rfl⟩
              rw [H5.out]
              go_wp2
              go_round
              case rel => exact ⟨k + 1, by omega, by go_num⟩
              case measure => simp [intOf]; omega

theorem line_any (v : Value) (xs : List Int) (h : Int) (w : World) (B : Nat) (hv : IntsR w B v xs) :
    Calls Try.prog 85 #[v, .int .i64 h] w fun e w' => e = .returned (.bool (lineB xs h)) ∧ w' = w := by
  cases hl : lineB xs h with
  | true => exact line_yes v xs h w B hv hl
  | false => exact line_no v xs h w B hv hl

end Go.Proofs.Ytpcacaohknkdlag
