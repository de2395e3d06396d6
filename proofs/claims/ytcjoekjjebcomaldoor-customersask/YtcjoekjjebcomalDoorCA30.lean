/- command.Decode, at every text; What codec.Number writes is in form: it is counted, read and refused as it must be, whatever stands behind it (joined by program) -/
import Derived.Test.YtcjoekjjebcomalDoorCA29
import Derived.Test.YtcjoekjjebcomalDoorCA25
import Derived.Test.YtcjoekjjebcomalDoorCA15
namespace Go.Proofs.YtcjoekjjebcomalDoor

open Go.RowKit

set_option maxRecDepth 100000 in
set_option maxHeartbeats 1600000 in
theorem decode_long (s : ByteArray) (w : World) (hs : s.size ≤ 140737488351232) (h : 5000 < s.size) :
    Calls Tryd.prog 11 #[.string s] w fun e w' => e = .returned (.tuple #[cmdV CmdD.zero, .int .i64 1]) ∧ Below w.heap.size w w' := by
  have hb0 : Below w.heap.size w (w.alloc (.cells #[.int .i64 0, .int .i64 0, .int .i64 0, .int .i64 0, .int .i64 0, .int .i64 0, .string ⟨#[]⟩, .string ⟨#[]⟩, .int .i64 0] 45)) := (Below.refl _ _).alloc (Nat.le_refl _) _
  have HB := chid hb0
  clear hb0
  go_enter Tryd.func11, Tryd.ntmps11
  go_wp2
  refine bodyPost_ret (v := .tuple #[.agg #[.int .i64 0, .int .i64 0, .int .i64 0, .int .i64 0, .int .i64 0, .int .i64 0, .string ⟨#[]⟩, .string ⟨#[]⟩, .int .i64 0], .int .i64 1]) (by simp [results, Tryd.results11, go_sem]) rfl ⟨rfl, ?_⟩
  first
    | exact HB.out
    | exact below_set9 HB.out (Nat.le_refl _) _ _ _ _ _ _ _ _ _

set_option maxRecDepth 100000 in
set_option maxHeartbeats 1600000 in
theorem decode_short (s : ByteArray) (w : World) (h : s.size < 2) :
    Calls Tryd.prog 11 #[.string s] w fun e w' => e = .returned (.tuple #[cmdV CmdD.zero, .int .i64 5]) ∧ Below w.heap.size w w' := by
  have hb0 : Below w.heap.size w (w.alloc (.cells #[.int .i64 0, .int .i64 0, .int .i64 0, .int .i64 0, .int .i64 0, .int .i64 0, .string ⟨#[]⟩, .string ⟨#[]⟩, .int .i64 0] 45)) := (Below.refl _ _).alloc (Nat.le_refl _) _
  have HB := chid hb0
  clear hb0
  go_enter Tryd.func11, Tryd.ntmps11
  go_wp2
  refine bodyPost_ret (v := .tuple #[.agg #[.int .i64 0, .int .i64 0, .int .i64 0, .int .i64 0, .int .i64 0, .int .i64 0, .string ⟨#[]⟩, .string ⟨#[]⟩, .int .i64 0], .int .i64 5]) (by simp [results, Tryd.results11, go_sem]) rfl ⟨rfl, ?_⟩
  first
    | exact HB.out
    | exact below_set9 HB.out (Nat.le_refl _) _ _ _ _ _ _ _ _ _

/-- DECODE, AT EVERY TEXT. -/
theorem decode_any (s : ByteArray) (w : World) (hs : s.size ≤ 140737488351232) :
    Calls Tryd.prog 11 #[.string s] w fun e w' => e = .returned (.tuple #[cmdV (decL s), .int .i64 (decE s)]) ∧ Below w.heap.size w w' := by
  by_cases h1 : 5000 < s.size
  · have e : decE s = 1 := if_pos h1
    have l : decL s = CmdD.zero := by unfold decL; rw [if_neg (by omega)]
    rw [e, l]
    exact decode_long s w hs h1
  · by_cases h2 : s.size < 2
    · have e : decE s = 5 := by unfold decE; rw [if_neg h1, if_pos h2]
      have l : decL s = CmdD.zero := by unfold decL; rw [if_neg (by omega)]
      rw [e, l]
      exact decode_short s w h2
    · exact decode_rest s w (by omega) (by omega)

end Go.Proofs.YtcjoekjjebcomalDoor

namespace Go.Proofs.YtcjoekjjebcomalDoor

open Go.RowKit

/-- Numbers as bytes. -/
def u8 (l : List Int) : List UInt8 := l.map fun n => UInt8.ofNat n.toNat

theorem u8_length (l : List Int) : (u8 l).length = l.length := by simp [u8]

theorem bytes_append (l : List Int) (s : ByteArray) : (strOfNums l ++ s).data.toList = u8 l ++ s.data.toList := by
  rw [ByteArray.data_append, Array.toList_append, strOfNums_data]; rfl

theorem ofNat_toNat (n : Int) (h0 : 0 ≤ n) (h1 : n < 256) : (((UInt8.ofNat n.toNat).toNat : Nat) : Int) = n := by
  rw [UInt8.toNat_ofNat']; omega

/-- Counting digits of a written number. -/
theorem cd_enc (f : Nat) : ∀ (m : Int) (R : List UInt8), 0 ≤ m → m < reach f → cd (u8 (enc f m) ++ R) = (enc f m).length := by
  induction f with
  | zero =>
    intro m R h0 h1
    have := ofNat_toNat m h0 (by simp [reach] at h1; omega)
    simp [reach] at h1
    simp only [enc, u8, List.map_cons, List.map_nil, List.cons_append, List.nil_append, cd, List.length_cons, List.length_nil]
    rw [if_pos (by omega)]
  | succ f ih =>
    intro m R h0 h1
    by_cases h : m < 128
    · have := ofNat_toNat m h0 (by omega)
      rw [enc_small _ _ h]
      simp only [u8, List.map_cons, List.map_nil, List.cons_append, List.nil_append, cd, List.length_cons, List.length_nil]
      rw [if_pos (by omega)]
    · have hd := reach_div f m h0 h1
      have hi := ih (m / 128) R hd.1 hd.2
      have hl := (enc_length f (m / 128)).1
      have := ofNat_toNat (m % 128 + 128) (by omega) (by omega)
      rw [enc_step _ _ h]
      have e : u8 ((m % 128 + 128) :: enc f (m / 128)) ++ R = UInt8.ofNat (m % 128 + 128).toNat :: (u8 (enc f (m / 128)) ++ R) := rfl
      rw [e]
      simp only [cd, List.length_cons]
      rw [hi, if_neg (by omega), if_neg (by omega)]

theorem dec_enc (f : Nat) : ∀ (m : Int), 0 ≤ m → m < reach f → dec (u8 (enc f m)) = m := by
  induction f with
  | zero =>
    intro m h0 h1
    simp [reach] at h1
    have := ofNat_toNat m h0 (by omega)
    simp only [enc, u8, List.map_cons, List.map_nil, dec]
    omega
  | succ f ih =>
    intro m h0 h1
    by_cases h : m < 128
    · have := ofNat_toNat m h0 (by omega)
      rw [enc_small _ _ h]
      simp only [u8, List.map_cons, List.map_nil, dec]
      omega
    · have hd := reach_div f m h0 h1
      have hi := ih (m / 128) hd.1 hd.2
      have := ofNat_toNat (m % 128 + 128) (by omega) (by omega)
      rw [enc_step _ _ h]
      have e : u8 ((m % 128 + 128) :: enc f (m / 128)) = UInt8.ofNat (m % 128 + 128).toNat :: u8 (enc f (m / 128)) := rfl
      rw [e]
      simp only [dec]
      rw [hi]
      omega

/-- The last digit of a number from 1 on is not 0. -/
theorem last_enc (f : Nat) : ∀ (m : Int) (R : List UInt8), 1 ≤ m → m < reach f → ((u8 (enc f m) ++ R).getD ((enc f m).length - 1) 0).toNat ≠ 0 := by
  induction f with
  | zero =>
    intro m R h0 h1
    simp [reach] at h1
    have := ofNat_toNat m (by omega) (by omega)
    simp only [enc, u8, List.map_cons, List.map_nil, List.cons_append, List.nil_append, List.length_cons, List.length_nil]
    simp
    omega
  | succ f ih =>
    intro m R h0 h1
    by_cases h : m < 128
    · have := ofNat_toNat m (by omega) (by omega)
      rw [enc_small _ _ h]
      simp only [u8, List.map_cons, List.map_nil, List.cons_append, List.nil_append, List.length_cons, List.length_nil]
      simp
      omega
    · have hd := reach_div f m (by omega) h1
      have hi := ih (m / 128) R (by omega) hd.2
      have hl := (enc_length f (m / 128)).1
      rw [enc_step _ _ h]
      have e : u8 ((m % 128 + 128) :: enc f (m / 128)) ++ R = UInt8.ofNat (m % 128 + 128).toNat :: (u8 (enc f (m / 128)) ++ R) := rfl
      rw [e, List.length_cons, Nat.add_sub_cancel]
      obtain ⟨q, hq⟩ : ∃ q, (enc f (m / 128)).length = q + 1 := ⟨(enc f (m / 128)).length - 1, by omega⟩
      rw [hq] at hi ⊢
      simpa using hi

/-- All digits but the last have 128 and more. -/
theorem init_enc (f : Nat) : ∀ (m : Int) (j : Nat), 0 ≤ m → m < reach f → j + 1 < (enc f m).length → 128 ≤ ((u8 (enc f m)).getD j 0).toNat := by
  induction f with
  | zero => intro m j _ _ hj; simp [enc] at hj
  | succ f ih =>
    intro m j h0 h1 hj
    by_cases h : m < 128
    · rw [enc_small _ _ h] at hj; simp at hj
    · have hd := reach_div f m h0 h1
      have := ofNat_toNat (m % 128 + 128) (by omega) (by omega)
      rw [enc_step _ _ h] at hj ⊢
      have e : u8 ((m % 128 + 128) :: enc f (m / 128)) = UInt8.ofNat (m % 128 + 128).toNat :: u8 (enc f (m / 128)) := rfl
      rw [e]
      cases j with
      | zero => simp only [List.getD_cons_zero]; omega
      | succ j => simp only [List.getD_cons_succ]; exact ih (m / 128) j hd.1 hd.2 (by simpa using hj)

theorem lt_reach5 (n : Int) (h : n ≤ 1099511627776) : n < reach 5 := by rw [reach5]; omega

theorem tail_of (a b : ByteArray) (n : Nat) (h : n = a.size) : (a ++ b).extract n (a ++ b).size = b := by
  subst h
  apply ByteArray.ext
  apply Array.toList_inj.1
  rw [Lib.extract_data, ByteArray.data_append, Array.toList_append, ByteArray.size_append]
  have h1 : a.data.toList.length = a.size := by simp
  have h2 : b.data.toList.length = b.size := by simp
  rw [List.drop_left' h1]
  exact List.take_of_length_le (by omega)

end Go.Proofs.YtcjoekjjebcomalDoor
