/- What codec.Number writes is in form: it is counted, read and refused as it must be, whatever stands behind it. -/
import Derived.Test.YtnclipjepefpjaeDoorCodecReadNumber
import Derived.Test.YtnclipjepefpjaeDoorCodecNumber
namespace Go.Proofs.YtnclipjepefpjaeDoor
open Go.RowKit

/-- Numbers as bytes. -/
def u8 (l : List Int) : List UInt8 := l.map fun n => UInt8.ofNat n.toNat

theorem u8_length (l : List Int) : (u8 l).length = l.length := by simp [u8]

theorem bytes_append (l : List Int) (s : ByteArray) : (strOfNums l ++ s).data.toList = u8 l ++ s.data.toList := by
  rw [ByteArray.data_append, Array.toList_append, strOfNums_data]; rfl

theorem ofNat_toNat (n : Int) (h0 : 0 ≤ n) (h1 : n < 256) : (((UInt8.ofNat n.toNat).toNat : Nat) : Int) = n := by
  rw [UInt8.toNat_ofNat']; omega

/-- Counting digits of a written number. -/
theorem cd_enc (f : Nat) : ∀ (m : Int) (R : List UInt8), 0 ≤ m → m < reach f → cd (u8 (enc f m) ++ R) = (enc f m).length := by
  induction f with
  | zero =>
    intro m R h0 h1
    have := ofNat_toNat m h0 (by simp [reach] at h1; omega)
    simp [reach] at h1
    simp only [enc, u8, List.map_cons, List.map_nil, List.cons_append, List.nil_append, cd, List.length_cons, List.length_nil]
    rw [if_pos (by omega)]
  | succ f ih =>
    intro m R h0 h1
    by_cases h : m < 128
    · have := ofNat_toNat m h0 (by omega)
      rw [enc_small _ _ h]
      simp only [u8, List.map_cons, List.map_nil, List.cons_append, List.nil_append, cd, List.length_cons, List.length_nil]
      rw [if_pos (by omega)]
    · have hd := reach_div f m h0 h1
      have hi := ih (m / 128) R hd.1 hd.2
      have hl := (enc_length f (m / 128)).1
      have := ofNat_toNat (m % 128 + 128) (by omega) (by omega)
      rw [enc_step _ _ h]
      have e : u8 ((m % 128 + 128) :: enc f (m / 128)) ++ R = UInt8.ofNat (m % 128 + 128).toNat :: (u8 (enc f (m / 128)) ++ R) := rfl
      rw [e]
      simp only [cd, List.length_cons]
      rw [hi, if_neg (by omega), if_neg (by omega)]

theorem dec_enc (f : Nat) : ∀ (m : Int), 0 ≤ m → m < reach f → dec (u8 (enc f m)) = m := by
  induction f with
  | zero =>
    intro m h0 h1
    simp [reach] at h1
    have := ofNat_toNat m h0 (by omega)
    simp only [enc, u8, List.map_cons, List.map_nil, dec]
    omega
  | succ f ih =>
    intro m h0 h1
    by_cases h : m < 128
    · have := ofNat_toNat m h0 (by omega)
      rw [enc_small _ _ h]
      simp only [u8, List.map_cons, List.map_nil, dec]
      omega
    · have hd := reach_div f m h0 h1
      have hi := ih (m / 128) hd.1 hd.2
      have := ofNat_toNat (m % 128 + 128) (by omega) (by omega)
      rw [enc_step _ _ h]
      have e : u8 ((m % 128 + 128) :: enc f (m / 128)) = UInt8.ofNat (m % 128 + 128).toNat :: u8 (enc f (m / 128)) := rfl
      rw [e]
      simp only [dec]
      rw [hi]
      omega

/-- The last digit of a number from 1 on is not 0. -/
theorem last_enc (f : Nat) : ∀ (m : Int) (R : List UInt8), 1 ≤ m → m < reach f → ((u8 (enc f m) ++ R).getD ((enc f m).length - 1) 0).toNat ≠ 0 := by
  induction f with
  | zero =>
    intro m R h0 h1
    simp [reach] at h1
    have := ofNat_toNat m (by omega) (by omega)
    simp only [enc, u8, List.map_cons, List.map_nil, List.cons_append, List.nil_append, List.length_cons, List.length_nil]
    simp
    omega
  | succ f ih =>
    intro m R h0 h1
    by_cases h : m < 128
    · have := ofNat_toNat m (by omega) (by omega)
      rw [enc_small _ _ h]
      simp only [u8, List.map_cons, List.map_nil, List.cons_append, List.nil_append, List.length_cons, List.length_nil]
      simp
      omega
    · have hd := reach_div f m (by omega) h1
      have hi := ih (m / 128) R (by omega) hd.2
      have hl := (enc_length f (m / 128)).1
      rw [enc_step _ _ h]
      have e : u8 ((m % 128 + 128) :: enc f (m / 128)) ++ R = UInt8.ofNat (m % 128 + 128).toNat :: (u8 (enc f (m / 128)) ++ R) := rfl
      rw [e, List.length_cons, Nat.add_sub_cancel]
      obtain ⟨q, hq⟩ : ∃ q, (enc f (m / 128)).length = q + 1 := ⟨(enc f (m / 128)).length - 1, by omega⟩
      rw [hq] at hi ⊢
      simpa using hi

/-- All digits but the last have 128 and more. -/
theorem init_enc (f : Nat) : ∀ (m : Int) (j : Nat), 0 ≤ m → m < reach f → j + 1 < (enc f m).length → 128 ≤ ((u8 (enc f m)).getD j 0).toNat := by
  induction f with
  | zero => intro m j _ _ hj; simp [enc] at hj
  | succ f ih =>
    intro m j h0 h1 hj
    by_cases h : m < 128
    · rw [enc_small _ _ h] at hj; simp at hj
    · have hd := reach_div f m h0 h1
      have := ofNat_toNat (m % 128 + 128) (by omega) (by omega)
      rw [enc_step _ _ h] at hj ⊢
      have e : u8 ((m % 128 + 128) :: enc f (m / 128)) = UInt8.ofNat (m % 128 + 128).toNat :: u8 (enc f (m / 128)) := rfl
      rw [e]
      cases j with
      | zero => simp only [List.getD_cons_zero]; omega
      | succ j => simp only [List.getD_cons_succ]; exact ih (m / 128) j hd.1 hd.2 (by simpa using hj)

theorem lt_reach5 (n : Int) (h : n ≤ 1099511627776) : n < reach 5 := by rw [reach5]; omega

/-- What was written is read, whatever stands behind it. -/
theorem numOk_enc (n : Int) (s : ByteArray) (h0 : 0 ≤ n) (h1 : n ≤ 1099511627776) (hs : (strOfNums (encN n) ++ s).size ≤ maxLen) :
    NumOk (strOfNums (encN n) ++ s) n (encN n).length := by
  have hr := lt_reach5 n h1
  have hc : cd (strOfNums (encN n) ++ s).data.toList = (encN n).length := by rw [bytes_append]; exact cd_enc 5 n _ h0 hr
  have hl := encN_length n
  have hf : front (strOfNums (encN n) ++ s) = u8 (encN n) := by
    unfold front
    rw [hc, bytes_append]
    exact List.take_left' (u8_length _)
  have hd : dec (front (strOfNums (encN n) ++ s)) = n := by rw [hf]; exact dec_enc 5 n h0 hr
  have hz : cd (strOfNums (encN n) ++ s).data.toList = 1 ∨ (1 < cd (strOfNums (encN n) ++ s).data.toList ∧ ((strOfNums (encN n) ++ s).data.toList.getD (cd (strOfNums (encN n) ++ s).data.toList - 1) 0).toNat ≠ 0) := by
    rw [hc]
    by_cases hn : n = 0
    · left; subst hn; rfl
    · by_cases he : (encN n).length = 1
      · exact .inl he
      · refine .inr ⟨by omega, ?_⟩
        rw [bytes_append]
        exact last_enc 5 n _ (by omega) hr
  intro w
  have := number_read (strOfNums (encN n) ++ s) w hs (by omega) (by omega) hz (by omega)
  rw [hd, hc] at this
  exact this

/-- Cut short it is refused. -/
theorem numErr_cut (n : Int) (k : Nat) (h0 : 0 ≤ n) (h1 : n ≤ 1099511627776) (hk : k < (encN n).length) (s : ByteArray) (hs : s.data.toList = (u8 (encN n)).take k) : NumErr s 5 := by
  have hl := encN_length n
  have hz : s.size ≤ 6 := by
    have : s.data.toList.length = s.size := by simp
    rw [← this, hs, List.length_take]; omega
  have hc : cd s.data.toList = 0 := by
    refine cd_miss _ fun j hj => ?_
    rw [hs] at hj ⊢
    have hjk : j < k := by rw [List.length_take] at hj; omega
    have hi := init_enc 5 n j h0 (lt_reach5 n h1) (by show j + 1 < (encN n).length; omega)
    have e : ((u8 (encN n)).take k).getD j 0 = (u8 (enc 5 n)).getD j 0 := by
      simp [List.getD_eq_getElem?_getD, hjk, encN]
    rw [e]; exact hi
  intro w
  exact number_short s w (by unfold maxLen; omega) hc

theorem tail_of (a b : ByteArray) (n : Nat) (h : n = a.size) : (a ++ b).extract n (a ++ b).size = b := by
  subst h
  apply ByteArray.ext
  apply Array.toList_inj.1
  rw [Lib.extract_data, ByteArray.data_append, Array.toList_append, ByteArray.size_append]
  have h1 : a.data.toList.length = a.size := by simp
  have h2 : b.data.toList.length = b.size := by simp
  rw [List.drop_left' h1]
  exact List.take_of_length_le (by omega)

end Go.Proofs.YtnclipjepefpjaeDoor
