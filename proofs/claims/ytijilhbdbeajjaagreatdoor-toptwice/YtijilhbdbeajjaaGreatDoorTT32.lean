/- codec.countDigits and codec.number: the number at the front of bytes, and how many bytes it has; codec.ReadNumber: the number at the front of bytes and all behind it, or why there is none (joined by program) -/
import Derived.Test.YtijilhbdbeajjaaGreatDoorRows
import Derived.WalkKit
import Derived.ProofKit
import Derived.WalkLawsBesides
import Derived.WalkSpells
import Derived.Outline
import Derived.Lib.Strings
import Derived.Lib.IndexBytes
import Derived.Test.YtijilhbdbeajjaaGreatDoorTT00
import Derived.Test.YtijilhbdbeajjaaGreatDoorTT02
namespace Go.Proofs.YtijilhbdbeajjaaGreatDoor

open Go.RowKit

theorem byte_eq (s : ByteArray) (k : Nat) (h : k < s.size) : s.data.toList.getD k 0 = s[k] := by
  rw [List.getD_eq_getElem?_getD, List.getElem?_eq_getElem (by simpa using h)]; rfl

set_option maxHeartbeats 400000 in
theorem countDigits_any (s : ByteArray) (w : World) (hs : s.size ≤ maxLen) :
    Calls Tryz.prog 215 #[.string s] w fun e w' => e = .returned (.int .i64 (cd s.data.toList)) ∧ w' = w := by
  unfold maxLen at hs
  go_enter Tryz.func215, Tryz.ntmps215
  go_wp2
  go_loop [6] (fun i => ∃ k : Nat, k ≤ s.size ∧ i = .int .i64 k ∧ Hid (∀ j, j < k → 128 ≤ (s.data.toList.getD j 0).toNat)) (fun i => s.size - (intOf i).toNat)
  case atStart => exact ⟨0, Nat.zero_le _, rfl, fun j hj => by omega⟩
  case round =>
    obtain ⟨k, hk, rfl, hall⟩ := hrel
    by_cases hlt : k < s.size
    · by_cases hb : ((s[k].toNat : Nat) : Int) < 128
      · have Hc : Hid (cd s.data.toList = k + 1) := cd_hit _ k (by simpa using hlt) hall.out (by rw [byte_eq s k hlt]; omega)
        go_wp2
        go_ret
        exact ⟨by rw [Hc.out]; rfl, rfl⟩
      · have Hn : Hid (∀ j, j < k + 1 → 128 ≤ (s.data.toList.getD j 0).toNat) := fun j hj => by
          by_cases e : j = k
          · subst e; rw [byte_eq s j hlt]; omega
          · exact hall.out j (by omega)
        go_wp2
        go_round
        case rel => exact ⟨k + 1, by omega, by go_num, Hn⟩
        case measure => simp [intOf]; omega
    · have Hc : Hid (cd s.data.toList = 0) := cd_miss _ (fun j hj => hall.out j (by simp at hj; omega))
      go_wp2
      go_ret
      exact ⟨by rw [Hc.out]; rfl, rfl⟩

set_option maxHeartbeats 400000 in
theorem number_short (s : ByteArray) (w : World) (hs : s.size ≤ maxLen) (hc : cd s.data.toList = 0) :
    Calls Tryz.prog 175 #[.string s] w fun e w' => e = .returned (.tuple #[.int .i64 0, .int .i64 0, .int .i64 5]) ∧ w' = w := by
  have H : Hid (cd s.data.toList = 0) := hc
  clear hc
  go_enter Tryz.func175, Tryz.ntmps175
  go_wp2_with fail
  refine (countDigits_any s _ hs).mono ?_
  rintro e w1 ⟨rfl, rfl⟩
  rw [H.out]
  go_wp2
  go_ret3
  exact ⟨rfl, rfl⟩

set_option maxHeartbeats 400000 in
theorem number_long (s : ByteArray) (w : World) (hs : s.size ≤ maxLen) (hc : 6 < cd s.data.toList) :
    Calls Tryz.prog 175 #[.string s] w fun e w' => e = .returned (.tuple #[.int .i64 0, .int .i64 0, .int .i64 4]) ∧ w' = w := by
  go_enter Tryz.func175, Tryz.ntmps175
  go_wp2_with fail
  refine (countDigits_any s _ hs).mono ?_
  rintro e w1 ⟨rfl, rfl⟩
  generalize cd s.data.toList = z at *
  have h0 : (((z : Nat) : Int) == 0) = false := beq_eq_false_iff_ne.2 (by omega)
  have h6 : (6 : Int) < (z : Int) := by omega
  go_wp2
  go_ret3
  exact ⟨rfl, rfl⟩

set_option maxHeartbeats 400000 in
theorem number_zero (s : ByteArray) (w : World) (hs : s.size ≤ maxLen) (h1 : 1 < cd s.data.toList) (h6 : cd s.data.toList ≤ 6) (hz : (s.data.toList.getD (cd s.data.toList - 1) 0).toNat = 0) :
    Calls Tryz.prog 175 #[.string s] w fun e w' => e = .returned (.tuple #[.int .i64 0, .int .i64 0, .int .i64 4]) ∧ w' = w := by
  have hle := cd_le s.data.toList
  have hle' : cd s.data.toList ≤ s.size := by simpa using hle
  have Hz : Hid ((s.data.toList.getD (cd s.data.toList - 1) 0).toNat = 0) := hz
  clear hz hle
  go_enter Tryz.func175, Tryz.ntmps175
  go_wp2_with fail
  refine (countDigits_any s _ hs).mono ?_
  rintro e w1 ⟨rfl, rfl⟩
  generalize cd s.data.toList = z at *
  obtain ⟨k, rfl⟩ : ∃ k, z = k + 1 := ⟨z - 1, by omega⟩
  have hk : k < s.size := by omega
  have hb : (((s[k].toNat : Nat) : Int) == 0) = true := beq_iff_eq.2 (by have := Hz.out; simp only [Nat.add_sub_cancel] at this; rw [byte_eq s k hk] at this; omega)
  have h0 : ((((k + 1 : Nat) : Int)) == 0) = false := beq_eq_false_iff_ne.2 (by omega)
  go_wp2
  go_ret3
  exact ⟨rfl, rfl⟩

/-- The digits at the front. -/
def front (s : ByteArray) : List UInt8 := s.data.toList.take (cd s.data.toList)

theorem dec_round (L : List UInt8) (z q : Nat) (hz : z ≤ L.length) (hq : q < z) :
    dec ((L.take z).drop q) = ((L.getD q 0).toNat : Int) % 128 + 128 * dec ((L.take z).drop (q + 1)) := by
  rw [dec_drop _ q (by simp; omega)]
  congr 3
  simp [List.getD_eq_getElem?_getD, hq]

theorem dec_part_bd (L : List UInt8) (z q : Nat) (h6 : z ≤ 6) (hq : 1 ≤ q) : 0 ≤ dec ((L.take z).drop q) ∧ dec ((L.take z).drop q) < 34359738368 := by
  refine ⟨dec_nonneg _, ?_⟩
  have := dec_lt ((L.take z).drop q) 4 (by simp; omega)
  simpa [reach] using this

set_option maxHeartbeats 1600000 in
theorem number_big (s : ByteArray) (w : World) (hs : s.size ≤ maxLen) (h1 : 1 ≤ cd s.data.toList) (h6 : cd s.data.toList ≤ 6)
    (hz : cd s.data.toList = 1 ∨ (1 < cd s.data.toList ∧ (s.data.toList.getD (cd s.data.toList - 1) 0).toNat ≠ 0)) (hmx : 1099511627776 < dec (front s)) :
    Calls Tryz.prog 175 #[.string s] w fun e w' => e = .returned (.tuple #[.int .i64 0, .int .i64 0, .int .i64 4]) ∧ w' = w := by
  have hle : cd s.data.toList ≤ s.size := by simpa using cd_le s.data.toList
  have HZ : Hid (cd s.data.toList = 1 ∨ (1 < cd s.data.toList ∧ (s.data.toList.getD (cd s.data.toList - 1) 0).toNat ≠ 0)) := hz
  clear hz
  obtain ⟨k, hk1⟩ : ∃ k, cd s.data.toList = k + 1 := ⟨cd s.data.toList - 1, by omega⟩
  have HC : Hid (cd s.data.toList = k + 1) := hk1
  have hF : front s = s.data.toList.take (k + 1) := by unfold front; rw [hk1]
  have hmax : 1099511627776 < dec (s.data.toList.take (k + 1)) := by rw [← hF]; exact hmx
  have HF : Hid (front s = s.data.toList.take (k + 1)) := hF
  rw [hk1] at HZ h1 h6 hle
  clear hk1 hmx hF
  go_enter Tryz.func175, Tryz.ntmps175
  go_wp2_with fail
  refine (countDigits_any s _ hs).mono ?_
  rintro e w1 ⟨rfl, rfl⟩
  unfold maxLen at hs
  rw [HC.out]
  have hk : k < s.size := by omega
  have h0 : ((((k + 1 : Nat) : Int)) == 0) = false := beq_eq_false_iff_ne.2 (by omega)
  have h6' : decide ((6 : Int) < (k : Int) + 1) = false := by simp; omega
  have HE : Hid (dec ((s.data.toList.take (k + 1)).drop (k + 1)) = 0) := by
    have := dec_end (s.data.toList.take (k + 1))
    rw [List.length_take, Nat.min_eq_left (by simpa using hle)] at this
    exact this
  have hways : (decide ((1 : Int) < (k : Int) + 1) = false) ∨ (decide ((1 : Int) < (k : Int) + 1) = true ∧ (((s[k].toNat : Nat) : Int) == 0) = false) := by
    rcases HZ.out with h | ⟨h, h'⟩
    · left; simp; omega
    · right; refine ⟨by simp; omega, beq_eq_false_iff_ne.2 ?_⟩
      simp only [Nat.add_sub_cancel] at h'
      rw [byte_eq s k hk] at h'
      omega
  clear HZ
  rcases hways with hd | ⟨hd, hb⟩
  all_goals
    go_wp2
    go_loop [6, 7] (fun x i => ∃ j : Nat, j ≤ k + 1 ∧ i = .int .i64 ((j : Int) - 1) ∧ x = .int .i64 (dec ((s.data.toList.take (k + 1)).drop j))) (fun _ i => (intOf i + 1).toNat)
    case atStart => exact ⟨k + 1, by omega, by go_num, by rw [HE.out]⟩
    case round =>
      obtain ⟨j, hj, rfl, rfl⟩ := hrel
      by_cases hj0 : j = 0
      · subst hj0
        have hbd : 0 ≤ dec (s.data.toList.take (k + 1)) := dec_nonneg _
        go_wp2
        go_ret3
        exact ⟨rfl, rfl⟩
      · obtain ⟨q, rfl⟩ : ∃ q, j = q + 1 := ⟨j - 1, by omega⟩
        have hq : q < s.size := by omega
        obtain ⟨hp, hp'⟩ := dec_part_bd s.data.toList (k + 1) (q + 1) (by omega) (by omega)
        have HR : Hid (dec ((s.data.toList.take (k + 1)).drop q) = ((s[q].toNat : Nat) : Int) % 128 + 128 * dec ((s.data.toList.take (k + 1)).drop (q + 1))) := by
          have := dec_round s.data.toList (k + 1) q (by simpa using hle) (by omega)
          rw [byte_eq s q hq] at this
          exact this
        have hby : ((s[q].toNat : Nat) : Int) ≤ 255 := by have := s[q].toNat_lt; omega
        go_wp2
        go_round
        case rel => exact ⟨q, by omega, by go_num, by rw [HR.out]; go_num⟩
        case measure => simp [intOf]

set_option maxHeartbeats 1600000 in
theorem number_read (s : ByteArray) (w : World) (hs : s.size ≤ maxLen) (h1 : 1 ≤ cd s.data.toList) (h6 : cd s.data.toList ≤ 6)
    (hz : cd s.data.toList = 1 ∨ (1 < cd s.data.toList ∧ (s.data.toList.getD (cd s.data.toList - 1) 0).toNat ≠ 0)) (hmx : ¬ 1099511627776 < dec (front s)) :
    Calls Tryz.prog 175 #[.string s] w fun e w' => e = .returned (.tuple #[.int .i64 (dec (front s)), .int .i64 (cd s.data.toList), .int .i64 0]) ∧ w' = w := by
  have hle : cd s.data.toList ≤ s.size := by simpa using cd_le s.data.toList
  have HZ : Hid (cd s.data.toList = 1 ∨ (1 < cd s.data.toList ∧ (s.data.toList.getD (cd s.data.toList - 1) 0).toNat ≠ 0)) := hz
  clear hz
  obtain ⟨k, hk1⟩ : ∃ k, cd s.data.toList = k + 1 := ⟨cd s.data.toList - 1, by omega⟩
  have HC : Hid (cd s.data.toList = k + 1) := hk1
  have hF : front s = s.data.toList.take (k + 1) := by unfold front; rw [hk1]
  have hmax : ¬ 1099511627776 < dec (s.data.toList.take (k + 1)) := by rw [← hF]; exact hmx
  have HF : Hid (front s = s.data.toList.take (k + 1)) := hF
  rw [hk1] at HZ h1 h6 hle
  clear hk1 hmx hF
  go_enter Tryz.func175, Tryz.ntmps175
  go_wp2_with fail
  refine (countDigits_any s _ hs).mono ?_
  rintro e w1 ⟨rfl, rfl⟩
  unfold maxLen at hs
  rw [HC.out]
  have hk : k < s.size := by omega
  have h0 : ((((k + 1 : Nat) : Int)) == 0) = false := beq_eq_false_iff_ne.2 (by omega)
  have h6' : decide ((6 : Int) < (k : Int) + 1) = false := by simp; omega
  have HE : Hid (dec ((s.data.toList.take (k + 1)).drop (k + 1)) = 0) := by
    have := dec_end (s.data.toList.take (k + 1))
    rw [List.length_take, Nat.min_eq_left (by simpa using hle)] at this
    exact this
  have hways : (decide ((1 : Int) < (k : Int) + 1) = false) ∨ (decide ((1 : Int) < (k : Int) + 1) = true ∧ (((s[k].toNat : Nat) : Int) == 0) = false) := by
    rcases HZ.out with h | ⟨h, h'⟩
    · left; simp; omega
    · right; refine ⟨by simp; omega, beq_eq_false_iff_ne.2 ?_⟩
      simp only [Nat.add_sub_cancel] at h'
      rw [byte_eq s k hk] at h'
      omega
  clear HZ
  rcases hways with hd | ⟨hd, hb⟩
  all_goals
    go_wp2
    go_loop [6, 7] (fun x i => ∃ j : Nat, j ≤ k + 1 ∧ i = .int .i64 ((j : Int) - 1) ∧ x = .int .i64 (dec ((s.data.toList.take (k + 1)).drop j))) (fun _ i => (intOf i + 1).toNat)
    case atStart => exact ⟨k + 1, by omega, by go_num, by rw [HE.out]⟩
    case round =>
      obtain ⟨j, hj, rfl, rfl⟩ := hrel
      by_cases hj0 : j = 0
      · subst hj0
        have hbd : 0 ≤ dec (s.data.toList.take (k + 1)) := dec_nonneg _
        go_wp2
        go_ret3
        exact ⟨by rw [HF.out, HC.out]; rfl, rfl⟩
      · obtain ⟨q, rfl⟩ : ∃ q, j = q + 1 := ⟨j - 1, by omega⟩
        have hq : q < s.size := by omega
        obtain ⟨hp, hp'⟩ := dec_part_bd s.data.toList (k + 1) (q + 1) (by omega) (by omega)
        have HR : Hid (dec ((s.data.toList.take (k + 1)).drop q) = ((s[q].toNat : Nat) : Int) % 128 + 128 * dec ((s.data.toList.take (k + 1)).drop (q + 1))) := by
          have := dec_round s.data.toList (k + 1) q (by simpa using hle) (by omega)
          rw [byte_eq s q hq] at this
          exact this
        have hby : ((s[q].toNat : Nat) : Int) ≤ 255 := by have := s[q].toNat_lt; omega
        go_wp2
        go_round
        case rel => exact ⟨q, by omega, by go_num, by rw [HR.out]; go_num⟩
        case measure => simp [intOf]

end Go.Proofs.YtijilhbdbeajjaaGreatDoor

namespace Go.Proofs.YtijilhbdbeajjaaGreatDoor

open Go.RowKit

/-- codec.number refuses these bytes with c. -/
def NumErr (s : ByteArray) (c : Int) : Prop :=
  ∀ w : World, Calls Tryz.prog 175 #[.string s] w fun e w' => e = .returned (.tuple #[.int .i64 0, .int .i64 0, .int .i64 c]) ∧ w' = w

/-- codec.number reads n in z bytes. -/
def NumOk (s : ByteArray) (n : Int) (z : Nat) : Prop :=
  ∀ w : World, Calls Tryz.prog 175 #[.string s] w fun e w' => e = .returned (.tuple #[.int .i64 n, .int .i64 z, .int .i64 0]) ∧ w' = w

set_option maxHeartbeats 400000 in
theorem readNumber_err (s : ByteArray) (c : Int) (w : World) (hn : NumErr s c) (hc : c = 4 ∨ c = 5) :
    Calls Tryz.prog 128 #[.string s] w fun e w' => e = .returned (.tuple #[.int .i64 0, .string ⟨#[]⟩, .int .i64 c]) ∧ Below w.heap.size w w' := by
  have hcb : (c != 0) = true := by rcases hc with rfl | rfl <;> rfl
  clear hc
  go_enter Tryz.func128, Tryz.ntmps128
  go_wp2_with fail
  refine (hn _).mono ?_
  rintro e w1 ⟨rfl, rfl⟩
  go_wp2
  go_ret3
  exact ⟨rfl, Below.refl _ _⟩

set_option maxHeartbeats 400000 in
theorem readNumber_ok (s : ByteArray) (n : Int) (z : Nat) (w : World) (hs : s.size ≤ 281474976710656) (hn : NumOk s n z) (hz : z ≤ s.size) :
    Calls Tryz.prog 128 #[.string s] w fun e w' => e = .returned (.tuple #[.int .i64 n, .string (s.extract z s.size), .int .i64 0]) ∧ Below w.heap.size w w' := by
  have hx : (s.extract z s.size).size ≤ 281474976710656 := by rw [ByteArray.size_extract]; omega
  go_enter Tryz.func128, Tryz.ntmps128
  go_wp2_with fail
  refine (hn _).mono ?_
  rintro e w1 ⟨rfl, rfl⟩
  go_wp2_with fail
  refine (clone_any (s.extract z s.size) _ hx).mono ?_
  rintro e w2 ⟨rfl, g2⟩
  go_wp2
  go_ret3
  exact ⟨rfl, g2⟩

end Go.Proofs.YtijilhbdbeajjaaGreatDoor
