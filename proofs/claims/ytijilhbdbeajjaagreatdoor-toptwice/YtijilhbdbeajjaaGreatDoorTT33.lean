/- codec.ReadText: the text at the front of bytes and all behind it, where its length can be read, is at most 5000, and there are so many (joined by program) -/
import Derived.Deep.RegionWith
import Derived.Test.YtijilhbdbeajjaaGreatDoorTT32
namespace Go.Proofs.YtijilhbdbeajjaaGreatDoor

open Go.RowKit

set_option maxHeartbeats 1600000 in
theorem readText_ok (s : ByteArray) (n z : Nat) (w : World) (hs : s.size ≤ 281474976710656) (hn : NumOk s n z) (h5 : n ≤ 5000) (hz : z + n ≤ s.size) :
    Calls Tryz.prog 129 #[.string s] w fun e w' => e = .returned (.tuple #[.string (s.extract z (z + n)), .string (s.extract (z + n) s.size), .int .i64 0]) ∧ Below w.heap.size w w' := by
  have hx1 : (s.extract z (z + n)).size ≤ 281474976710656 := by rw [ByteArray.size_extract]; omega
  have hx2 : (s.extract ((z : Int) + (n : Int)).toNat s.size).size ≤ 281474976710656 := by rw [ByteArray.size_extract]; omega
  have HT : Hid (((z : Int) + (n : Int)).toNat = z + n) := (by omega : ((z : Int) + (n : Int)).toNat = z + n)
  have hx3 : (s.extract (z + n) s.size).size ≤ 281474976710656 := by rw [ByteArray.size_extract]; omega
  go_enter Tryz.func129, Tryz.ntmps129
  go_wp2_with fail
  refine (hn _).mono ?_
  rintro e w1 ⟨rfl, rfl⟩
  go_wp2_with fail
  go_region_with (first | (go_at_call_of 134 (s.extract z (z + n)); refine (clone_any (s.extract z (z + n)) _ hx1).mono ?_; rintro e w2 ⟨rfl, g2⟩) | (go_at_call_of 134 (s.extract ((z : Int) + (n : Int)).toNat s.size); refine (clone_any (s.extract ((z : Int) + (n : Int)).toNat s.size) _ hx2).mono ?_; rintro e w3 ⟨rfl, g3⟩) | (go_at_call_of 134 (s.extract (z + n) s.size); refine (clone_any (s.extract (z + n) s.size) _ hx3).mono ?_; rintro e w3 ⟨rfl, g3⟩))
  all_goals go_wp2
  all_goals go_ret3
  · exact ⟨by rw [HT.out]; rfl, ((Below.refl _ _).drew.trans g2).trans (g3.mono g2.size)⟩
  · exact ⟨rfl, ((Below.refl _ _).drew.trans g2).trans (g3.mono g2.size)⟩

end Go.Proofs.YtijilhbdbeajjaaGreatDoor
