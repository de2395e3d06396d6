/- codec.ReadNumber: the number at the front of bytes and all behind it, or why there is none (joined by program) -/
import Derived.Lib.Strings
import Derived.Lib.IndexBytes
import Derived.Test.YtcjoekjjebcomalDoorCA24
import Derived.Test.YtcjoekjjebcomalDoorCA05
namespace Go.Proofs.YtcjoekjjebcomalDoor

open Go.RowKit

/-- codec.number refuses these bytes with c. -/
def NumErr (s : ByteArray) (c : Int) : Prop :=
  ∀ w : World, Calls Tryd.prog 54 #[.string s] w fun e w' => e = .returned (.tuple #[.int .i64 0, .int .i64 0, .int .i64 c]) ∧ w' = w

/-- codec.number reads n in z bytes. -/
def NumOk (s : ByteArray) (n : Int) (z : Nat) : Prop :=
  ∀ w : World, Calls Tryd.prog 54 #[.string s] w fun e w' => e = .returned (.tuple #[.int .i64 n, .int .i64 z, .int .i64 0]) ∧ w' = w

set_option maxHeartbeats 400000 in
theorem readNumber_err (s : ByteArray) (c : Int) (w : World) (hn : NumErr s c) (hc : c = 4 ∨ c = 5) :
    Calls Tryd.prog 47 #[.string s] w fun e w' => e = .returned (.tuple #[.int .i64 0, .string ⟨#[]⟩, .int .i64 c]) ∧ Below w.heap.size w w' := by
  have hcb : (c != 0) = true := by rcases hc with rfl | rfl <;> rfl
  clear hc
  go_enter Tryd.func47, Tryd.ntmps47
  go_wp2_with fail
  refine (hn _).mono ?_
  rintro e w1 ⟨rfl, rfl⟩
  go_wp2
  go_ret3
  exact ⟨rfl, Below.refl _ _⟩

set_option maxHeartbeats 400000 in
theorem readNumber_ok (s : ByteArray) (n : Int) (z : Nat) (w : World) (hs : s.size ≤ 281474976710656) (hn : NumOk s n z) (hz : z ≤ s.size) :
    Calls Tryd.prog 47 #[.string s] w fun e w' => e = .returned (.tuple #[.int .i64 n, .string (s.extract z s.size), .int .i64 0]) ∧ Below w.heap.size w w' := by
  have hx : (s.extract z s.size).size ≤ 281474976710656 := by rw [ByteArray.size_extract]; omega
  go_enter Tryd.func47, Tryd.ntmps47
  go_wp2_with fail
  refine (hn _).mono ?_
  rintro e w1 ⟨rfl, rfl⟩
  go_wp2_with fail
  refine (clone_any (s.extract z s.size) _ hx).mono ?_
  rintro e w2 ⟨rfl, g2⟩
  go_wp2
  go_ret3
  exact ⟨rfl, g2⟩

end Go.Proofs.YtcjoekjjebcomalDoor
