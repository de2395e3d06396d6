/- command.Encode: a command's bytes, or what is wrong with it; What codec.Number writes is in form: it is counted, read and refused as it must be, whatever stands behind it (joined by program) -/
import Derived.Test.YtkmeiilnjkmkiaiDoorLC23
import Derived.Test.YtkmeiilnjkmkiaiDoorLC06
import Derived.Test.YtkmeiilnjkmkiaiDoorLC21
namespace Go.Proofs.YtkmeiilnjkmkiaiDoor

open Go.RowKit

theorem conv2 (W : World) (a b : Int) :
    (convert 59 9 (.slice (some ⟨W.heap.size, 0, none⟩) 2 2)).run Tryd.prog (W.alloc (.cells #[.int .u8 a, .int .u8 b] 5))
      = .ok (.string (strOfNums [a, b])) (W.alloc (.cells #[.int .u8 a, .int .u8 b] 5)) := by
  refine run_convert_bytes_arg _ 59 5 Tryd.underlying59 Tryd.underlying5 W.heap.size 0 2 2 [a, b] rfl ?_ 9 Tryd.underlying9
  intro i hi
  match i, hi with
  | 0, _ => simp
  | 1, _ => simp

/-- The bytes of a Call behind its head. -/
def tailOut (s q u ok : Int) (a b : ByteArray) (n : Int) : ByteArray := ⟨(numsB [s, q, u, ok, n] ++ ((textOut a).data.toList ++ (textOut b).data.toList)).toArray⟩

theorem tailOut_eq (c : CmdD) : tailOut c.session c.seq c.acked c.ok c.a c.b c.n = callOut c := by
  apply ByteArray.ext
  apply Array.toList_inj.1
  simp [tailOut, callOut, numsB, numOut]

theorem tailOut_size (s q u ok : Int) (a b : ByteArray) (n : Int) (ha : a.size ≤ 12) (hb : b.size ≤ 12) : (tailOut s q u ok a b n).size ≤ 100 := by
  have h1 : (tailOut s q u ok a b n).size = (numsB [s, q, u, ok, n] ++ ((textOut a).data.toList ++ (textOut b).data.toList)).length := by
    show (_ : Array UInt8).size = _
    simp
  have h2 := numsB_len [s, q, u, ok, n]
  have h3 := textOut_size a
  have h4 := textOut_size b
  have h5 : (textOut a).data.toList.length = (textOut a).size := by simp
  have h6 : (textOut b).data.toList.length = (textOut b).size := by simp
  rw [h1, List.length_append, List.length_append]
  simp only [List.length_cons, List.length_nil] at h2
  omega

/-- What a Call that may be is like. -/
theorem opE_ok' {k : Int} {a b : ByteArray} {n : Int} (h : opE k a b n = 0) : (1 ≤ k ∧ k ≤ 6) ∧ a.size ≤ 6 ∧ b.size ≤ 12 ∧ 0 ≤ n ∧ n ≤ 1073741824 := by
  unfold opE at h
  split at h
  · omega
  · split at h
    · omega
    · rename_i h1 h2
      have hn : nameB a = true := by
        cases hc : nameB a with
        | true => rfl
        | false => exact absurd (Or.inl hc) h2
      have hn6 := (nameB_yes hn).2.1
      split at h
      · omega
      · split at h
        · split at h
          · exact ⟨by omega, hn6, by omega, by omega, by omega⟩
          · omega
        · split at h
          · exact ⟨by omega, hn6, by omega, by omega, by omega⟩
          · omega

theorem cmdE_call' {c s q u ok : Int} {a b : ByteArray} {n : Int} (h : cmdE 2 c s q u ok a b n = 0) : (1 ≤ c ∧ c ≤ 9) ∧ (∀ x ∈ [s, q, u, ok, n], 0 ≤ x ∧ x ≤ 1099511627776) ∧ a.size ≤ 12 ∧ b.size ≤ 12 := by
  by_cases h2 : 1 ≤ c ∧ c ≤ 9
  · by_cases hc : callR s q u
    · rw [cmdE_callYes h2 hc] at h
      obtain ⟨hk, ha, hb, hn⟩ := opE_ok' h
      obtain ⟨e1, e2, e3⟩ := hc
      refine ⟨h2, fun x hx => ?_, by omega, by omega⟩
      simp at hx
      rcases hx with rfl | rfl | rfl | rfl | rfl <;> omega
    · rw [cmdE_callNo h2 hc] at h
      omega
  · rw [cmdE_client (by omega) h2] at h
    omega

theorem cmdE_head' {k c s q u ok : Int} {a b : ByteArray} {n : Int} (h : cmdE k c s q u ok a b n = 0) : (1 ≤ k ∧ k ≤ 3) ∧ (1 ≤ c ∧ c ≤ 9) := by
  by_cases h1 : 1 ≤ k ∧ k ≤ 3
  · by_cases h2 : 1 ≤ c ∧ c ≤ 9
    · exact ⟨h1, h2⟩
    · rw [cmdE_client h1 h2] at h; omega
  · rw [cmdE_kind h1] at h; omega

set_option maxHeartbeats 1600000 in
theorem encode_rest (k c s q u ok : Int) (a b : ByteArray) (n : Int) (w : World) (hq : FitsC q) (ha : ShortC a) (hb : ShortC b) (hr : cmdE k c s q u ok a b n = 0) (hk : k ≠ 2) :
    Calls Tryd.prog 14 #[.agg #[.int .i64 k, .int .i64 c, .int .i64 s, .int .i64 q, .int .i64 u, .int .i64 ok, .string a, .string b, .int .i64 n]] w fun e w' => e = .returned (.tuple #[.string (strOfNums [k, c]), .int .i64 0]) ∧ Below w.heap.size w w' := by
  have HB := chid (cbox w k c s q u ok a b n)
  have CC := chid (fun w => cmdCheck_any k c s q u ok a b n w hq ha hb)
  obtain ⟨⟨hk1, hk3⟩, hc1, hc9⟩ := cmdE_head' hr
  rw [hr] at CC
  have hk2 : (k == 2) = false := by simpa using hk
  have hcv := conv2
  clear hr ha hb hq hk
  go_enter Tryd.func14, Tryd.ntmps14
  go_wp2_with fail
  refine (CC.out _).mono ?_
  rintro e w1 ⟨rfl, hb1⟩
  have HB1 := chid (HB.out.trans (hb1.mono (by simp)))
  have g1 : w1.heap[w.heap.size]? = some (.cells #[.int .i64 k, .int .i64 c, .int .i64 s, .int .i64 q, .int .i64 u, .int .i64 ok, .string a, .string b, .int .i64 n] 45 (0, 0)) := (hb1.block _ (by simp)).trans (heap_alloc_new w _)
  have s0 : w1.cell? ⟨w.heap.size, 0, none⟩ = some (.int .i64 k) := cell_of_row w1 w.heap.size 0 _ _ _ g1
  have s1 : w1.cell? ⟨w.heap.size, 1, none⟩ = some (.int .i64 c) := cell_of_row w1 w.heap.size 1 _ _ _ g1
  have hz : w.heap.size < w1.heap.size := (Array.getElem?_eq_some_iff.1 g1).1
  have hzn : w.heap.size ≠ w1.heap.size := by omega
  clear hb1 g1
  go_wp2
  go_ret2
  exact ⟨rfl, HB1.out.alloc HB1.out.size _⟩

set_option maxHeartbeats 1600000 in
theorem encode_call (c s q u ok : Int) (a b : ByteArray) (n : Int) (w : World) (hq : FitsC q) (ha : ShortC a) (hb : ShortC b) (hr : cmdE 2 c s q u ok a b n = 0) :
    Calls Tryd.prog 14 #[.agg #[.int .i64 2, .int .i64 c, .int .i64 s, .int .i64 q, .int .i64 u, .int .i64 ok, .string a, .string b, .int .i64 n]] w fun e w' => e = .returned (.tuple #[.string (strOfNums [2, c] ++ tailOut s q u ok a b n), .int .i64 0]) ∧ Below w.heap.size w w' := by
  have HB := chid (cbox w 2 c s q u ok a b n)
  have CC := chid (fun w => cmdCheck_any 2 c s q u ok a b n w hq ha hb)
  obtain ⟨⟨hc1, hc9⟩, hN, ha12, hb12⟩ := cmdE_call' hr
  have CB := chid (fun w => callBytes_any 2 c s q u ok a b n w hN (by omega) (by omega))
  have hsz := tailOut_size s q u ok a b n ha12 hb12
  obtain ⟨t, ht⟩ : ∃ t, t = tailOut s q u ok a b n := ⟨_, rfl⟩
  have ht' : (⟨(numsB [s, q, u, ok, n] ++ ((textOut a).data.toList ++ (textOut b).data.toList)).toArray⟩ : ByteArray) = t := by rw [ht]; rfl
  rw [ht'] at CB
  rw [← ht] at hsz ⊢
  rw [hr] at CC
  have hcv := conv2
  have h2s : (strOfNums [2, c]).size = 2 := strOfNums_size _
  have hsum : (strOfNums [2, c]).size + t.size ≤ 102 := by omega
  clear hr ha hb hq hN ha12 hb12 ht ht' h2s
  go_enter Tryd.func14, Tryd.ntmps14
  go_wp2_with fail
  refine (CC.out _).mono ?_
  rintro e w1 ⟨rfl, hb1⟩
  have HB1 := chid (HB.out.trans (hb1.mono (by simp)))
  have g1 : w1.heap[w.heap.size]? = some (.cells #[.int .i64 2, .int .i64 c, .int .i64 s, .int .i64 q, .int .i64 u, .int .i64 ok, .string a, .string b, .int .i64 n] 45 (0, 0)) := (hb1.block _ (by simp)).trans (heap_alloc_new w _)
  have s0 : w1.cell? ⟨w.heap.size, 0, none⟩ = some (.int .i64 2) := cell_of_row w1 w.heap.size 0 _ _ _ g1
  have s1 : w1.cell? ⟨w.heap.size, 1, none⟩ = some (.int .i64 c) := cell_of_row w1 w.heap.size 1 _ _ _ g1
  have s2 : w1.cell? ⟨w.heap.size, 2, none⟩ = some (.int .i64 s) := cell_of_row w1 w.heap.size 2 _ _ _ g1
  have s3 : w1.cell? ⟨w.heap.size, 3, none⟩ = some (.int .i64 q) := cell_of_row w1 w.heap.size 3 _ _ _ g1
  have s4 : w1.cell? ⟨w.heap.size, 4, none⟩ = some (.int .i64 u) := cell_of_row w1 w.heap.size 4 _ _ _ g1
  have s5 : w1.cell? ⟨w.heap.size, 5, none⟩ = some (.int .i64 ok) := cell_of_row w1 w.heap.size 5 _ _ _ g1
  have s6 : w1.cell? ⟨w.heap.size, 6, none⟩ = some (.string a) := cell_of_row w1 w.heap.size 6 _ _ _ g1
  have s7 : w1.cell? ⟨w.heap.size, 7, none⟩ = some (.string b) := cell_of_row w1 w.heap.size 7 _ _ _ g1
  have s8 : w1.cell? ⟨w.heap.size, 8, none⟩ = some (.int .i64 n) := cell_of_row w1 w.heap.size 8 _ _ _ g1
  have hz : w.heap.size < w1.heap.size := (Array.getElem?_eq_some_iff.1 g1).1
  have hzn : w.heap.size ≠ w1.heap.size := by omega
  have HB1' := chid (HB1.out.alloc HB1.out.size (.cells #[.int .u8 2, .int .u8 c] 5))
  clear hb1 g1
  go_wp2_with fail
  refine (CB.out _).mono ?_
  rintro e w2 ⟨rfl, hb2⟩
  have HB2 := chid (HB1'.out.trans (hb2.mono HB1'.out.size))
  clear hb2
  go_wp2
  go_ret2
  exact ⟨rfl, HB2.out⟩

end Go.Proofs.YtkmeiilnjkmkiaiDoor

namespace Go.Proofs.YtkmeiilnjkmkiaiDoor

open Go.RowKit

/-- Numbers as bytes. -/
def u8 (l : List Int) : List UInt8 := l.map fun n => UInt8.ofNat n.toNat

theorem u8_length (l : List Int) : (u8 l).length = l.length := by simp [u8]

theorem bytes_append (l : List Int) (s : ByteArray) : (strOfNums l ++ s).data.toList = u8 l ++ s.data.toList := by
  rw [ByteArray.data_append, Array.toList_append, strOfNums_data]; rfl

theorem ofNat_toNat (n : Int) (h0 : 0 ≤ n) (h1 : n < 256) : (((UInt8.ofNat n.toNat).toNat : Nat) : Int) = n := by
  rw [UInt8.toNat_ofNat']; omega

/-- Counting digits of a written number. -/
theorem cd_enc (f : Nat) : ∀ (m : Int) (R : List UInt8), 0 ≤ m → m < reach f → cd (u8 (enc f m) ++ R) = (enc f m).length := by
  induction f with
  | zero =>
    intro m R h0 h1
    have := ofNat_toNat m h0 (by simp [reach] at h1; omega)
    simp [reach] at h1
    simp only [enc, u8, List.map_cons, List.map_nil, List.cons_append, List.nil_append, cd, List.length_cons, List.length_nil]
    rw [if_pos (by omega)]
  | succ f ih =>
    intro m R h0 h1
    by_cases h : m < 128
    · have := ofNat_toNat m h0 (by omega)
      rw [enc_small _ _ h]
      simp only [u8, List.map_cons, List.map_nil, List.cons_append, List.nil_append, cd, List.length_cons, List.length_nil]
      rw [if_pos (by omega)]
    · have hd := reach_div f m h0 h1
      have hi := ih (m / 128) R hd.1 hd.2
      have hl := (enc_length f (m / 128)).1
      have := ofNat_toNat (m % 128 + 128) (by omega) (by omega)
      rw [enc_step _ _ h]
      have e : u8 ((m % 128 + 128) :: enc f (m / 128)) ++ R = UInt8.ofNat (m % 128 + 128).toNat :: (u8 (enc f (m / 128)) ++ R) := rfl
      rw [e]
      simp only [cd, List.length_cons]
      rw [hi, if_neg (by omega), if_neg (by omega)]

theorem dec_enc (f : Nat) : ∀ (m : Int), 0 ≤ m → m < reach f → dec (u8 (enc f m)) = m := by
  induction f with
  | zero =>
    intro m h0 h1
    simp [reach] at h1
    have := ofNat_toNat m h0 (by omega)
    simp only [enc, u8, List.map_cons, List.map_nil, dec]
    omega
  | succ f ih =>
    intro m h0 h1
    by_cases h : m < 128
    · have := ofNat_toNat m h0 (by omega)
      rw [enc_small _ _ h]
      simp only [u8, List.map_cons, List.map_nil, dec]
      omega
    · have hd := reach_div f m h0 h1
      have hi := ih (m / 128) hd.1 hd.2
      have := ofNat_toNat (m % 128 + 128) (by omega) (by omega)
      rw [enc_step _ _ h]
      have e : u8 ((m % 128 + 128) :: enc f (m / 128)) = UInt8.ofNat (m % 128 + 128).toNat :: u8 (enc f (m / 128)) := rfl
      rw [e]
      simp only [dec]
      rw [hi]
      omega

/-- The last digit of a number from 1 on is not 0. -/
theorem last_enc (f : Nat) : ∀ (m : Int) (R : List UInt8), 1 ≤ m → m < reach f → ((u8 (enc f m) ++ R).getD ((enc f m).length - 1) 0).toNat ≠ 0 := by
  induction f with
  | zero =>
    intro m R h0 h1
    simp [reach] at h1
    have := ofNat_toNat m (by omega) (by omega)
    simp only [enc, u8, List.map_cons, List.map_nil, List.cons_append, List.nil_append, List.length_cons, List.length_nil]
    simp
    omega
  | succ f ih =>
    intro m R h0 h1
    by_cases h : m < 128
    · have := ofNat_toNat m (by omega) (by omega)
      rw [enc_small _ _ h]
      simp only [u8, List.map_cons, List.map_nil, List.cons_append, List.nil_append, List.length_cons, List.length_nil]
      simp
      omega
    · have hd := reach_div f m (by omega) h1
      have hi := ih (m / 128) R (by omega) hd.2
      have hl := (enc_length f (m / 128)).1
      rw [enc_step _ _ h]
      have e : u8 ((m % 128 + 128) :: enc f (m / 128)) ++ R = UInt8.ofNat (m % 128 + 128).toNat :: (u8 (enc f (m / 128)) ++ R) := rfl
      rw [e, List.length_cons, Nat.add_sub_cancel]
      obtain ⟨q, hq⟩ : ∃ q, (enc f (m / 128)).length = q + 1 := ⟨(enc f (m / 128)).length - 1, by omega⟩
      rw [hq] at hi ⊢
      simpa using hi

/-- All digits but the last have 128 and more. -/
theorem init_enc (f : Nat) : ∀ (m : Int) (j : Nat), 0 ≤ m → m < reach f → j + 1 < (enc f m).length → 128 ≤ ((u8 (enc f m)).getD j 0).toNat := by
  induction f with
  | zero => intro m j _ _ hj; simp [enc] at hj
  | succ f ih =>
    intro m j h0 h1 hj
    by_cases h : m < 128
    · rw [enc_small _ _ h] at hj; simp at hj
    · have hd := reach_div f m h0 h1
      have := ofNat_toNat (m % 128 + 128) (by omega) (by omega)
      rw [enc_step _ _ h] at hj ⊢
      have e : u8 ((m % 128 + 128) :: enc f (m / 128)) = UInt8.ofNat (m % 128 + 128).toNat :: u8 (enc f (m / 128)) := rfl
      rw [e]
      cases j with
      | zero => simp only [List.getD_cons_zero]; omega
      | succ j => simp only [List.getD_cons_succ]; exact ih (m / 128) j hd.1 hd.2 (by simpa using hj)

theorem lt_reach5 (n : Int) (h : n ≤ 1099511627776) : n < reach 5 := by rw [reach5]; omega

theorem tail_of (a b : ByteArray) (n : Nat) (h : n = a.size) : (a ++ b).extract n (a ++ b).size = b := by
  subst h
  apply ByteArray.ext
  apply Array.toList_inj.1
  rw [Lib.extract_data, ByteArray.data_append, Array.toList_append, ByteArray.size_append]
  have h1 : a.data.toList.length = a.size := by simp
  have h2 : b.data.toList.length = b.size := by simp
  rw [List.drop_left' h1]
  exact List.take_of_length_le (by omega)

end Go.Proofs.YtkmeiilnjkmkiaiDoor
