/- What was read, written anew, and what stands behind it, are the bytes that were read. -/
import Derived.Test.YtaicknbnikdnmabCodecReadNumber
import Derived.Test.YtaicknbnikdnmabCodecNumber
namespace Go.Proofs.Ytaicknbnikdnmab
open Go.RowKit

theorem strOfNums_bytes (l : List UInt8) : strOfNums (l.map fun c => (c.toNat : Int)) = ⟨l.toArray⟩ := by
  apply ByteArray.ext
  have h : (l.map fun c => (c.toNat : Int)).map (fun n => UInt8.ofNat n.toNat) = l := by
    rw [List.map_map]
    have : ((fun n : Int => UInt8.ofNat n.toNat) ∘ fun c : UInt8 => (c.toNat : Int)) = id := by funext c; simp
    rw [this, List.map_id]
  simp only [strOfNums, h]

theorem front_back (s : ByteArray) (hf : Form (front s)) (hl : (front s).length ≤ 6) :
    strOfNums (encN (dec (front s))) ++ s.extract (cd s.data.toList) s.size = s := by
  unfold encN
  rw [enc_dec 5 (front s) hf (by omega), strOfNums_bytes]
  apply ByteArray.ext
  apply Array.toList_inj.1
  rw [ByteArray.data_append, Array.toList_append, Lib.extract_data]
  have h1 : s.data.toList.length = s.size := by simp
  have h2 : (s.data.toList.drop (cd s.data.toList)).take (s.size - cd s.data.toList) = s.data.toList.drop (cd s.data.toList) :=
    List.take_of_length_le (by rw [List.length_drop]; omega)
  rw [h2]
  show (front s).toArray.toList ++ _ = _
  unfold front
  simp

end Go.Proofs.Ytaicknbnikdnmab
