/- codec.Seal and the document's SealOf: both return the four bytes of the two sums; nothing that was there has turned. -/
import Derived.Test.YtaicknbnikdnmaaRows
import Derived.Test.YtaicknbnikdnmaaCodecMath
import Derived.WalkKit
import Derived.ProofKit
import Derived.OpenShut
import Derived.ShutString
import Derived.WalkLawsBesides
import Derived.Laws.BytesArg
namespace Go.Proofs.Ytaicknbnikdnmaa
open Go.RowKit

/-- 'string([]byte{a, b, c, d})' -/
theorem conv4 (W : World) (a b c d : Int) :
    (convert 35 9 (.slice (some ⟨W.heap.size, 0, none⟩) 4 4)).run Try.prog (W.alloc (.cells #[.int .u8 a, .int .u8 b, .int .u8 c, .int .u8 d] 5))
      = .ok (.string (strOfNums [a, b, c, d])) (W.alloc (.cells #[.int .u8 a, .int .u8 b, .int .u8 c, .int .u8 d] 5)) := by
  refine run_convert_bytes_arg _ 35 5 Try.underlying35 Try.underlying5 W.heap.size 0 4 4 [a, b, c, d] rfl ?_ 9 Try.underlying9
  intro i hi
  match i, hi with
  | 0, _ => simp
  | 1, _ => simp
  | 2, _ => simp
  | 3, _ => simp

def sealOut (s : ByteArray) : ByteArray :=
  strOfNums [(sealGo s.data.toList).2 / 256, (sealGo s.data.toList).2 % 256, (sealGo s.data.toList).1 / 256, (sealGo s.data.toList).1 % 256]

set_option maxHeartbeats 400000 in
theorem seal_any (s : ByteArray) (w : World) (hs : s.size ≤ maxLen) :
    Calls Try.prog 17 #[.string s] w fun e w' => e = .returned (.string (sealOut s)) ∧ Below w.heap.size w w' := by
  unfold maxLen at hs
  have hcv := conv4
  go_enter Try.func17, Try.ntmps17
  go_wp2
  go_loop [3, 4, 8] (fun x y i => ∃ k : Nat, k ≤ s.size ∧ i = .int .i64 k ∧ x = .int .i64 (sealGo (s.data.toList.take k)).1 ∧ y = .int .i64 (sealGo (s.data.toList.take k)).2) (fun _ _ i => s.size - (intOf i).toNat)
  case atStart => exact ⟨0, Nat.zero_le _, rfl, rfl, rfl⟩
  case round =>
    obtain ⟨k, hk, rfl, rfl, rfl⟩ := hrel
    obtain ⟨b1, b2, b3, b4⟩ := sealGo_bd (s.data.toList.take k)
    by_cases hlt : k < s.size
    · have HS : Hid (sealGo (s.data.toList.take (k + 1)) = (((sealGo (s.data.toList.take k)).1 + s[k].toNat) % 65521, ((sealGo (s.data.toList.take k)).2 + ((sealGo (s.data.toList.take k)).1 + s[k].toNat) % 65521) % 65521)) := by
        rw [take_snoc s k hlt]; exact sealGo_snoc _ _
      have hby : ((s[k].toNat : Nat) : Int) ≤ 255 := by have := s[k].toNat_lt; omega
      go_wp2
      go_round
      case rel => exact ⟨k + 1, by omega, by go_num, by rw [HS.out], by rw [HS.out]⟩
      case measure => simp [intOf]; omega
    · have HA : Hid (sealGo (s.data.toList.take k) = sealGo s.data.toList) := by rw [take_all s k (by omega)]; exact rfl
      go_wp2
      go_ret
      refine ⟨?_, (Below.refl _ _).alloc (Nat.le_refl _) _⟩
      rw [HA.out]; rfl

set_option maxHeartbeats 400000 in
theorem sealOf_any (s : ByteArray) (w : World) (hs : s.size ≤ maxLen) :
    Calls Try.prog 18 #[.string s] w fun e w' => e = .returned (.string (sealOut s)) ∧ Below w.heap.size w w' := by
  unfold maxLen at hs
  have hcv := conv4
  go_enter Try.func18, Try.ntmps18
  go_wp2
  go_loop [3, 4, 5] (fun x y i => ∃ k : Nat, k ≤ s.size ∧ i = .int .i64 k ∧ x = .int .i64 (sealGo (s.data.toList.take k)).1 ∧ y = .int .i64 (sealGo (s.data.toList.take k)).2) (fun _ _ i => s.size - (intOf i).toNat)
  case atStart => exact ⟨0, Nat.zero_le _, rfl, rfl, rfl⟩
  case round =>
    obtain ⟨k, hk, rfl, rfl, rfl⟩ := hrel
    obtain ⟨b1, b2, b3, b4⟩ := sealGo_bd (s.data.toList.take k)
    by_cases hlt : k < s.size
    · have HS : Hid (sealGo (s.data.toList.take (k + 1)) = (((sealGo (s.data.toList.take k)).1 + s[k].toNat) % 65521, ((sealGo (s.data.toList.take k)).2 + ((sealGo (s.data.toList.take k)).1 + s[k].toNat) % 65521) % 65521)) := by
        rw [take_snoc s k hlt]; exact sealGo_snoc _ _
      have hby : ((s[k].toNat : Nat) : Int) ≤ 255 := by have := s[k].toNat_lt; omega
      go_wp2
      go_round
      case rel => exact ⟨k + 1, by omega, by go_num, by rw [HS.out], by rw [HS.out]⟩
      case measure => simp [intOf]; omega
    · have HA : Hid (sealGo (s.data.toList.take k) = sealGo s.data.toList) := by rw [take_all s k (by omega)]; exact rfl
      go_wp2
      go_ret
      refine ⟨?_, (Below.refl _ _).alloc (Nat.le_refl _) _⟩
      rw [HA.out]; rfl

end Go.Proofs.Ytaicknbnikdnmaa
