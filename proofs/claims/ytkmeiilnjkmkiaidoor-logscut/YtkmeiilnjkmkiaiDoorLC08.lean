/- codec.ReadNumber and codec.ReadText, at every text; From the form's reading of an argument to an operation, or a command, as plain data (joined by program) -/
import Derived.Test.YtkmeiilnjkmkiaiDoorRows
import Derived.WalkKit
import Derived.ProofKit
import Derived.WalkLawsBesides
import Derived.Deep.Slices
import Derived.SizedLaws
import Derived.Carry
import Derived.ChangeArms
import Derived.OpenShut
import Derived.Below
import Derived.Test.YtkmeiilnjkmkiaiDoorLC07
import Derived.Test.YtkmeiilnjkmkiaiDoorLC02
namespace Go.Proofs.YtkmeiilnjkmkiaiDoor

open Go.RowKit

theorem number_any (s : ByteArray) (hs : s.size ≤ maxLen) : ∀ w : World, Calls Tryd.prog 60 #[.string s] w fun e w' => e = .returned (.tuple #[.int .i64 (numR s).1, .int .i64 (numR s).2.1, .int .i64 (numR s).2.2]) ∧ w' = w := by
  unfold numR
  by_cases h0 : cd s.data.toList = 0
  · rw [if_pos h0]
    exact fun w => number_short s w hs h0
  · rw [if_neg h0]
    by_cases h6 : 6 < cd s.data.toList
    · rw [if_pos (.inl h6)]
      exact fun w => number_long s w hs h6
    · by_cases hz : 1 < cd s.data.toList ∧ (s.data.toList.getD (cd s.data.toList - 1) 0).toNat = 0
      · rw [if_pos (.inr hz)]
        exact fun w => number_zero s w hs hz.1 (by omega) hz.2
      · have hz' : cd s.data.toList = 1 ∨ (1 < cd s.data.toList ∧ (s.data.toList.getD (cd s.data.toList - 1) 0).toNat ≠ 0) := by
          by_cases h1 : cd s.data.toList = 1
          · exact .inl h1
          · exact .inr ⟨by omega, fun e => hz ⟨by omega, e⟩⟩
        rw [if_neg (fun h => h.elim h6 hz)]
        by_cases hm : 1099511627776 < dec (s.data.toList.take (cd s.data.toList))
        · rw [if_pos hm]
          exact fun w => number_big s w hs (by omega) (by omega) hz' hm
        · rw [if_neg hm]
          exact fun w => number_read s w hs (by omega) (by omega) hz' hm

theorem readNumber_any (s : ByteArray) (hs : s.size ≤ 140737488351232) (w : World) :
    Calls Tryd.prog 53 #[.string s] w fun e w' => e = .returned (.tuple #[.int .i64 (readN s).1, .string (readN s).2.1, .int .i64 (readN s).2.2]) ∧ Below w.heap.size w w' := by
  have hn := number_any s (by unfold maxLen; omega)
  unfold readN
  by_cases h : (numR s).2.2 = 0
  · rw [if_pos h]
    rw [h] at hn
    exact readNumber_ok s _ _ w (by omega) hn (numR_ok s h).2.2.2.2
  · rw [if_neg h]
    have hc : (numR s).2.2 = 4 ∨ (numR s).2.2 = 5 := (numR_err s).resolve_left h
    have h00 : (numR s).1 = 0 ∧ (numR s).2.1 = 0 := by
      revert h
      unfold numR
      split
      · intro _; exact ⟨rfl, rfl⟩
      · split
        · intro _; exact ⟨rfl, rfl⟩
        · split
          · intro _; exact ⟨rfl, rfl⟩
          · intro h; exact absurd rfl h
    rw [h00.1, h00.2] at hn
    exact readNumber_err s _ w hn hc

set_option maxHeartbeats 800000 in
theorem readText_err (s : ByteArray) (c : Int) (w : World) (hn : NumErr s c) (hc : c = 4 ∨ c = 5) :
    Calls Tryd.prog 54 #[.string s] w fun e w' => e = .returned (.tuple #[.string ⟨#[]⟩, .string ⟨#[]⟩, .int .i64 c]) ∧ Below w.heap.size w w' := by
  have hcb : (c != 0) = true := by rcases hc with rfl | rfl <;> rfl
  clear hc
  go_enter Tryd.func54, Tryd.ntmps54
  go_wp2_with fail
  refine (hn _).mono ?_
  rintro e w1 ⟨rfl, rfl⟩
  go_wp2
  go_ret3
  exact ⟨rfl, Below.refl _ _⟩

set_option maxHeartbeats 800000 in
theorem readText_big (s : ByteArray) (n : Int) (z : Nat) (w : World) (hn : NumOk s n z) (h : 5000 < n) :
    Calls Tryd.prog 54 #[.string s] w fun e w' => e = .returned (.tuple #[.string ⟨#[]⟩, .string ⟨#[]⟩, .int .i64 1]) ∧ Below w.heap.size w w' := by
  go_enter Tryd.func54, Tryd.ntmps54
  go_wp2_with fail
  refine (hn _).mono ?_
  rintro e w1 ⟨rfl, rfl⟩
  go_wp2
  go_ret3
  exact ⟨rfl, Below.refl _ _⟩

set_option maxHeartbeats 800000 in
theorem readText_short (s : ByteArray) (n : Int) (z : Nat) (w : World) (hs : s.size ≤ 140737488351232) (hn : NumOk s n z) (h : ¬ 5000 < n) (hz : z ≤ 6) (hlt : (s.size : Int) - z < n) :
    Calls Tryd.prog 54 #[.string s] w fun e w' => e = .returned (.tuple #[.string ⟨#[]⟩, .string ⟨#[]⟩, .int .i64 5]) ∧ Below w.heap.size w w' := by
  go_enter Tryd.func54, Tryd.ntmps54
  go_wp2_with fail
  refine (hn _).mono ?_
  rintro e w1 ⟨rfl, rfl⟩
  go_wp2
  go_ret3
  exact ⟨rfl, Below.refl _ _⟩

theorem readText_any (s : ByteArray) (hs : s.size ≤ 140737488351232) (w : World) :
    Calls Tryd.prog 54 #[.string s] w fun e w' => e = .returned (.tuple #[.string (readT s).1, .string (readT s).2.1, .int .i64 (readT s).2.2]) ∧ Below w.heap.size w w' := by
  have hn := number_any s (by unfold maxLen; omega)
  unfold readT
  by_cases h : (numR s).2.2 = 0
  · rw [if_neg (fun hh => hh h)]
    rw [h] at hn
    obtain ⟨h0, h1, h2, h3, h4⟩ := numR_ok s h
    by_cases h5 : 5000 < (numR s).1
    · rw [if_pos h5]
      exact readText_big s _ _ w hn h5
    · rw [if_neg h5]
      by_cases h6 : (s.size : Int) - (numR s).2.1 < (numR s).1
      · rw [if_pos h6]
        exact readText_short s _ _ w hs hn h5 h3 h6
      · rw [if_neg h6]
        obtain ⟨m, hm⟩ : ∃ m : Nat, (numR s).1 = m := ⟨(numR s).1.toNat, by omega⟩
        rw [hm] at hn h6 h5 ⊢
        exact readText_ok s m _ w (by omega) hn (by omega) (by omega)
  · rw [if_pos h]
    have hc : (numR s).2.2 = 4 ∨ (numR s).2.2 = 5 := (numR_err s).resolve_left h
    have h00 : (numR s).1 = 0 ∧ (numR s).2.1 = 0 := by
      revert h
      unfold numR
      split
      · intro _; exact ⟨rfl, rfl⟩
      · split
        · intro _; exact ⟨rfl, rfl⟩
        · split
          · intro _; exact ⟨rfl, rfl⟩
          · intro h; exact absurd rfl h
    rw [h00.1, h00.2] at hn
    exact readText_err s _ w hn hc

end Go.Proofs.YtkmeiilnjkmkiaiDoor

namespace Go.Proofs.YtkmeiilnjkmkiaiDoor

open Go.ChangeShapes Go.WideShapes Go.ChangeAt Go.RowKit Go.Deep

set_option maxRecDepth 100000

/-- A number that fits. -/
def FitsC (n : Int) : Prop := -9223372036854775808 ≤ n ∧ n ≤ 9223372036854775807

/-- A text that can be read. -/
def ShortC (s : ByteArray) : Prop := s.size ≤ 140737488351232

section

variable {H : Type} {enc : TypeId × Value → H} {W : World}

end

end Go.Proofs.YtkmeiilnjkmkiaiDoor
