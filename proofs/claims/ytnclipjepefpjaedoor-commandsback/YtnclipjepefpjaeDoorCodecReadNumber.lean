/- codec.ReadNumber: the number at the front of bytes and all behind it, or why there is none. -/
import Derived.Test.YtnclipjepefpjaeDoorCodecRead
import Derived.Test.YtnclipjepefpjaeDoorStrClone
import Derived.Lib.Strings
import Derived.Lib.IndexBytes
namespace Go.Proofs.YtnclipjepefpjaeDoor
open Go.RowKit

/-- codec.number refuses these bytes with c. -/
def NumErr (s : ByteArray) (c : Int) : Prop :=
  ∀ w : World, Calls Tryd.prog 32 #[.string s] w fun e w' => e = .returned (.tuple #[.int .i64 0, .int .i64 0, .int .i64 c]) ∧ w' = w

/-- codec.number reads n in z bytes. -/
def NumOk (s : ByteArray) (n : Int) (z : Nat) : Prop :=
  ∀ w : World, Calls Tryd.prog 32 #[.string s] w fun e w' => e = .returned (.tuple #[.int .i64 n, .int .i64 z, .int .i64 0]) ∧ w' = w

theorem number_all (s : ByteArray) (hs : s.size ≤ maxLen) :
    NumErr s 5 ∨ NumErr s 4 ∨ (NumOk s (dec (front s)) (cd s.data.toList) ∧ Form (front s) ∧ (front s).length ≤ 6 ∧ dec (front s) ≤ 1099511627776) := by
  by_cases h0 : cd s.data.toList = 0
  · exact .inl fun w => number_short s w hs h0
  · by_cases h6 : 6 < cd s.data.toList
    · exact .inr (.inl fun w => number_long s w hs h6)
    · by_cases hz : 1 < cd s.data.toList ∧ (s.data.toList.getD (cd s.data.toList - 1) 0).toNat = 0
      · exact .inr (.inl fun w => number_zero s w hs hz.1 (by omega) hz.2)
      · have hz' : cd s.data.toList = 1 ∨ (1 < cd s.data.toList ∧ (s.data.toList.getD (cd s.data.toList - 1) 0).toNat ≠ 0) := by
          by_cases h1 : cd s.data.toList = 1
          · exact .inl h1
          · exact .inr ⟨by omega, fun e => hz ⟨by omega, e⟩⟩
        by_cases hm : 1099511627776 < dec (front s)
        · exact .inr (.inl fun w => number_big s w hs (by omega) (by omega) hz' hm)
        · refine .inr (.inr ⟨fun w => number_read s w hs (by omega) (by omega) hz' hm, ?_, ?_, by omega⟩)
          · refine form_of _ h0 fun h1 => ?_
            rcases hz' with h | h
            · omega
            · exact h.2
          · unfold front; rw [List.length_take]; omega

set_option maxHeartbeats 400000 in
theorem readNumber_err (s : ByteArray) (c : Int) (w : World) (hn : NumErr s c) (hc : c = 4 ∨ c = 5) :
    Calls Tryd.prog 26 #[.string s] w fun e w' => e = .returned (.tuple #[.int .i64 0, .string ⟨#[]⟩, .int .i64 c]) ∧ Below w.heap.size w w' := by
  have hcb : (c != 0) = true := by rcases hc with rfl | rfl <;> rfl
  clear hc
  go_enter Tryd.func26, Tryd.ntmps26
  go_wp2_with fail
  refine (hn _).mono ?_
  rintro e w1 ⟨rfl, rfl⟩
  go_wp2
  go_ret3
  exact ⟨rfl, Below.refl _ _⟩

set_option maxHeartbeats 400000 in
theorem readNumber_ok (s : ByteArray) (n : Int) (z : Nat) (w : World) (hs : s.size ≤ 281474976710656) (hn : NumOk s n z) (hz : z ≤ s.size) :
    Calls Tryd.prog 26 #[.string s] w fun e w' => e = .returned (.tuple #[.int .i64 n, .string (s.extract z s.size), .int .i64 0]) ∧ Below w.heap.size w w' := by
  have hx : (s.extract z s.size).size ≤ 281474976710656 := by rw [ByteArray.size_extract]; omega
  go_enter Tryd.func26, Tryd.ntmps26
  go_wp2_with fail
  refine (hn _).mono ?_
  rintro e w1 ⟨rfl, rfl⟩
  go_wp2_with fail
  refine (clone_any (s.extract z s.size) _ hx).mono ?_
  rintro e w2 ⟨rfl, g2⟩
  go_wp2
  go_ret3
  exact ⟨rfl, g2⟩

end Go.Proofs.YtnclipjepefpjaeDoor
