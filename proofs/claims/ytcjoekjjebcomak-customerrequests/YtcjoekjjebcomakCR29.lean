/- The document's TextBytes: as codec.Text (joined by program) -/
import Derived.Test.YtcjoekjjebcomakCR15
import Derived.Test.YtcjoekjjebcomakCR28
namespace Go.Proofs.Ytcjoekjjebcomak

open Go.RowKit

set_option maxHeartbeats 400000 in
theorem textBytes_ok (s : ByteArray) (w : World) (h : s.size ≤ 5000) :
    Calls Try.prog 40 #[.string s] w fun e w' => e = .returned (.tuple #[.string (textOut s), .int .i64 0]) ∧ Below w.heap.size w w' := by
  have hz : (strOfNums (encN (s.size : Int))).size + s.size ≤ 5006 := by
    have h := strOfNums_size (encN (s.size : Int))
    have := encN_length (s.size : Int)
    omega
  go_enter Try.func40, Try.ntmps40
  go_wp2_with fail
  refine (numberBytes_ok (s.size : Int) _ (by omega) (by omega)).mono ?_
  rintro e w1 ⟨rfl, g1⟩
  go_wp2
  go_ret2
  exact ⟨rfl, g1⟩

end Go.Proofs.Ytcjoekjjebcomak
