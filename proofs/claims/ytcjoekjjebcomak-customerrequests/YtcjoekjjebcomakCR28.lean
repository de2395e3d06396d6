/- The document's NumberBytes: the digits of a number from 0 to 2^40; all others are refused (joined by program) -/
import Derived.Test.YtcjoekjjebcomakCR14
import Derived.Test.YtcjoekjjebcomakCR09
namespace Go.Proofs.Ytcjoekjjebcomak

open Go.RowKit

set_option maxHeartbeats 800000 in
theorem numberBytes_ok (n : Int) (w : World) (h0 : 0 ≤ n) (h1 : n ≤ 1099511627776) :
    Calls Try.prog 39 #[.int .i64 n] w fun e w' => e = .returned (.tuple #[.string (strOfNums (encN n)), .int .i64 0]) ∧ Below w.heap.size w w' := by
  have hcv := conv1
  go_enter Try.func39, Try.ntmps39
  go_wp2_with fail
  refine (in_yes n 0 1099511627776 _ h0 h1).mono ?_
  rintro e w1 ⟨rfl, rfl⟩
  go_wp2
  go_loopw [0, 4] (fun x v wr => ∃ (f : Nat) (m : Int) (l : List Int), f ≤ 5 ∧ x = .int .i64 m ∧ 0 ≤ m ∧ m < reach f ∧ m ≤ 1099511627776 ∧ l.length ≤ 5 - f ∧ l ++ enc f m = encN n ∧
      v = .string (strOfNums l) ∧ Below w1.heap.size w1 wr)
    (fun x _ _ => (intOf x).toNat)
  case atStart => exact ⟨5, n, [], by omega, rfl, h0, by simp [reach]; omega, h1, by simp, rfl, rfl, Below.refl _ _⟩
  case round =>
    obtain ⟨f, m, l, hf, rfl, hm0, hm1, hm2, hl, heq, rfl, hb⟩ := hrel
    have Heq : Hid (l ++ enc f m = encN n) := heq
    have hsz := strOfNums_size l
    have hsz2 : (strOfNums l).size ≤ 5 := by omega
    have hs1 : ∀ x : Int, (strOfNums l).size + (strOfNums [x]).size ≤ 6 := fun x => by have := strOfNums_size [x]; simp at this; omega
    clear heq hsz hsz2
    by_cases hlt : m < 128
    · have hs2 := hs1 m
      have hst := enc_small f m hlt
      have Hst : Hid (enc f m = [m]) := hst
      clear hst hs1
      go_wp2
      go_ret2
      exact ⟨by rw [← Heq.out, Hst.out, ← strOfNums_append]; rfl, hb.alloc hb.size _⟩
    · obtain ⟨g, rfl⟩ : ∃ g, f = g + 1 := by
        cases f with
        | zero => simp [reach] at hm1; omega
        | succ g => exact ⟨g, rfl⟩
      have hs2 := hs1 (128 + m % 128)
      have hst := enc_step g m hlt
      have Hst : Hid (enc (g + 1) m = (m % 128 + 128) :: enc g (m / 128)) := hst
      have hrd := reach_div g m hm0 hm1
      have Hrd : Hid (0 ≤ m / 128 ∧ m / 128 < reach g) := hrd
      clear hst hrd hm1 hs1
      go_wp2
      go_roundw
      case rel => exact ⟨g, m / 128, l ++ [128 + m % 128], by omega, rfl, Hrd.out.1, Hrd.out.2, by omega, by simp; omega, by rw [← Heq.out, Hst.out, Int.add_comm]; simp, by rw [strOfNums_append], hb.alloc hb.size _⟩
      case measure => simp [intOf]; omega

end Go.Proofs.Ytcjoekjjebcomak
