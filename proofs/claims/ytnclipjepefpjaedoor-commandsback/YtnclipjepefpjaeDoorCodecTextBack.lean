/- A text that was written is read, whatever stands behind it. -/
import Derived.Test.YtnclipjepefpjaeDoorCodecForm
import Derived.Test.YtnclipjepefpjaeDoorCodecText
import Derived.Test.YtnclipjepefpjaeDoorCodecReadText
namespace Go.Proofs.YtnclipjepefpjaeDoor
open Go.RowKit

theorem bytes_assoc (a b c : ByteArray) : a ++ b ++ c = a ++ (b ++ c) := by
  apply ByteArray.ext
  simp [ByteArray.data_append, Array.append_assoc]

theorem mid_of (a b c : ByteArray) (n : Nat) (h : n = a.size) : (a ++ (b ++ c)).extract n (n + b.size) = b := by
  subst h
  apply ByteArray.ext
  apply Array.toList_inj.1
  rw [Lib.extract_data, ByteArray.data_append, Array.toList_append, ByteArray.data_append, Array.toList_append]
  have h1 : a.data.toList.length = a.size := by simp
  have h2 : b.data.toList.length = b.size := by simp
  rw [List.drop_left' h1, Nat.add_sub_cancel_left]
  exact List.take_left' h2

theorem readText_text (u x : ByteArray) (w : World) (hu : u.size ≤ 5000) (hx : x.size ≤ 200000000000000) :
    Calls Tryd.prog 27 #[.string (textOut u ++ x)] w fun e w' => e = .returned (.tuple #[.string u, .string x, .int .i64 0]) ∧ Below w.heap.size w w' := by
  have hl := encN_length (u.size : Int)
  have hz := strOfNums_size (encN (u.size : Int))
  have hsz : (strOfNums (encN (u.size : Int)) ++ (u ++ x)).size = (encN (u.size : Int)).length + (u.size + x.size) := by
    rw [ByteArray.size_append, ByteArray.size_append, hz]
  have hn := numOk_enc (u.size : Int) (u ++ x) (by omega) (by omega) (by unfold maxLen; omega)
  have e1 := mid_of (strOfNums (encN (u.size : Int))) u x (encN (u.size : Int)).length hz.symm
  have e2 : (strOfNums (encN (u.size : Int)) ++ (u ++ x)).extract ((encN (u.size : Int)).length + u.size) (strOfNums (encN (u.size : Int)) ++ (u ++ x)).size = x := by
    have := tail_of (strOfNums (encN (u.size : Int)) ++ u) x ((encN (u.size : Int)).length + u.size) (by rw [ByteArray.size_append, hz])
    rw [bytes_assoc] at this
    exact this
  have := readText_ok (strOfNums (encN (u.size : Int)) ++ (u ++ x)) u.size (encN (u.size : Int)).length w (by omega) hn hu (by omega)
  rw [e1, e2] at this
  unfold textOut
  rw [bytes_assoc]
  exact this

end Go.Proofs.YtnclipjepefpjaeDoor
