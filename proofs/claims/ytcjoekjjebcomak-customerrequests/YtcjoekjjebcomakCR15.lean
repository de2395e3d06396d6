/- codec.Text and the document's TextBytes: the length as a number and the text itself, up to 5000 bytes; longer ones are refused (joined by program) -/
import Derived.Test.YtcjoekjjebcomakCR14
namespace Go.Proofs.Ytcjoekjjebcomak

open Go.RowKit

/-- A text's bytes: its length, and it. -/
def textOut (s : ByteArray) : ByteArray := strOfNums (encN (s.size : Int)) ++ s

theorem textOut_size (s : ByteArray) : (textOut s).size ≤ s.size + 6 := by
  have h := strOfNums_size (encN (s.size : Int))
  have := encN_length (s.size : Int)
  unfold textOut
  rw [ByteArray.size_append]
  omega

set_option maxHeartbeats 400000 in
theorem text_ok (s : ByteArray) (w : World) (h : s.size ≤ 5000) :
    Calls Try.prog 48 #[.string s] w fun e w' => e = .returned (.tuple #[.string (textOut s), .int .i64 0]) ∧ Below w.heap.size w w' := by
  have hz : (strOfNums (encN (s.size : Int))).size + s.size ≤ 5006 := by
    have h := strOfNums_size (encN (s.size : Int))
    have := encN_length (s.size : Int)
    omega
  go_enter Try.func48, Try.ntmps48
  go_wp2_with fail
  refine (number_ok (s.size : Int) _ (by omega) (by omega)).mono ?_
  rintro e w1 ⟨rfl, g1⟩
  go_wp2
  go_ret2
  exact ⟨rfl, g1⟩

end Go.Proofs.Ytcjoekjjebcomak
