/- The document's CommandBytes: a command's bytes, or what is wrong with it (joined by program) -/
import Derived.Test.YtcjoekjjebcomakCR22
import Derived.Test.YtcjoekjjebcomakCR26
import Derived.Test.YtcjoekjjebcomakCR29
namespace Go.Proofs.Ytcjoekjjebcomak

open Go.RowKit

/-- What the document's loop has, behind so many numbers. -/
def partOut (h : ByteArray) (xs : List Int) : ByteArray := h ++ ⟨(numsB xs).toArray⟩

theorem partOut_nil (h : ByteArray) : partOut h [] = h := by
  apply ByteArray.ext
  simp [partOut, numsB]

theorem partOut_snoc (h : ByteArray) (xs : List Int) (n : Int) : partOut h xs ++ strOfNums (encN n) = partOut h (xs ++ [n]) := by
  apply ByteArray.ext
  apply Array.toList_inj.1
  simp [partOut, numsB]

theorem partOut_size (h : ByteArray) (xs : List Int) : (partOut h xs).size ≤ h.size + 6 * xs.length := by
  have h1 := numsB_len xs
  have h2 : (partOut h xs).size = h.size + (numsB xs).length := by
    unfold partOut
    rw [ByteArray.size_append]
    show h.size + (_ : Array UInt8).size = _
    simp
  omega

theorem partOut_all (h : ByteArray) (s q u ok : Int) (a b : ByteArray) (n : Int) : partOut h [s, q, u, ok, n] ++ textOut a ++ textOut b = h ++ tailOut s q u ok a b n := by
  apply ByteArray.ext
  apply Array.toList_inj.1
  simp [partOut, tailOut]

set_option maxRecDepth 100000 in
set_option maxHeartbeats 6400000 in
theorem cmdBytes_call (c s q u ok : Int) (a b : ByteArray) (n : Int) (w : World) (hq : FitsC q) (ha : ShortC a) (hb : ShortC b) (hr : cmdE 2 c s q u ok a b n = 0) :
    Calls Try.prog 31 #[.agg #[.int .i64 2, .int .i64 c, .int .i64 s, .int .i64 q, .int .i64 u, .int .i64 ok, .string a, .string b, .int .i64 n]] w fun e w' => e = .returned (.tuple #[.string (strOfNums [2, c] ++ tailOut s q u ok a b n), .int .i64 0]) ∧ Below w.heap.size w w' := by
  have HB := chid (cbox w 2 c s q u ok a b n)
  have CC := chid (fun w => cmdFault_any 2 c s q u ok a b n w hq ha hb)
  obtain ⟨⟨hc1, hc9⟩, hN, ha12, hb12⟩ := cmdE_call' hr
  have HN := chid hN
  have CTA := chid (fun w => textBytes_ok a w (by omega))
  have CTB := chid (fun w => textBytes_ok b w (by omega))
  have hta := textOut_size a
  have htb := textOut_size b
  have HALL := chid (partOut_all (strOfNums [2, c]) s q u ok a b n)
  rw [← HALL.out]
  rw [hr] at CC
  have hcv := conv2
  have h2s : (strOfNums [2, c]).size = 2 := strOfNums_size _
  obtain ⟨hd, hhd⟩ : ∃ h, h = strOfNums [2, c] := ⟨_, rfl⟩
  obtain ⟨ta, hae⟩ : ∃ t, t = textOut a := ⟨_, rfl⟩
  obtain ⟨tb, hbe⟩ : ∃ t, t = textOut b := ⟨_, rfl⟩
  rw [← hhd] at h2s ⊢
  rw [← hae] at CTA hta ⊢
  rw [← hbe] at CTB htb ⊢
  have HHD := chid hhd
  clear hr ha hb hq hN hae hbe HALL hhd
  go_enter Try.func31, Try.ntmps31
  go_wp2_with fail
  refine (CC.out _).mono ?_
  rintro e w1 ⟨rfl, hb1⟩
  have HB1 := chid (HB.out.trans (hb1.mono (by simp)))
  have g1 : w1.heap[w.heap.size]? = some (.cells #[.int .i64 2, .int .i64 c, .int .i64 s, .int .i64 q, .int .i64 u, .int .i64 ok, .string a, .string b, .int .i64 n] 50 (0, 0)) := (hb1.block _ (by simp)).trans (heap_alloc_new w _)
  have HG1 := chid g1
  have s0 : w1.cell? ⟨w.heap.size, 0, none⟩ = some (.int .i64 2) := cell_of_row w1 w.heap.size 0 _ _ _ g1
  have s1 : w1.cell? ⟨w.heap.size, 1, none⟩ = some (.int .i64 c) := cell_of_row w1 w.heap.size 1 _ _ _ g1
  have s2 : w1.cell? ⟨w.heap.size, 2, none⟩ = some (.int .i64 s) := cell_of_row w1 w.heap.size 2 _ _ _ g1
  have s3 : w1.cell? ⟨w.heap.size, 3, none⟩ = some (.int .i64 q) := cell_of_row w1 w.heap.size 3 _ _ _ g1
  have s4 : w1.cell? ⟨w.heap.size, 4, none⟩ = some (.int .i64 u) := cell_of_row w1 w.heap.size 4 _ _ _ g1
  have s5 : w1.cell? ⟨w.heap.size, 5, none⟩ = some (.int .i64 ok) := cell_of_row w1 w.heap.size 5 _ _ _ g1
  have s8 : w1.cell? ⟨w.heap.size, 8, none⟩ = some (.int .i64 n) := cell_of_row w1 w.heap.size 8 _ _ _ g1
  have hz : w.heap.size < w1.heap.size := (Array.getElem?_eq_some_iff.1 g1).1
  have hzn : w.heap.size ≠ w1.heap.size := by omega
  clear hb1 g1
  go_wp2
  go_loopw [5, 7] (fun x i wr => ∃ j : Nat, j ≤ 5 ∧ i = .int .i64 j ∧ x = .string (partOut hd ([s, q, u, ok, n].take j)) ∧ wr.heap[w1.heap.size + 1]? = some (.cells #[.int .i64 s, .int .i64 q, .int .i64 u, .int .i64 ok, .int .i64 n] 3 (0, 0)) ∧ Below w1.heap.size w1 wr) (fun _ i _ => 5 - (intOf i).toNat)
  case atStart =>
    refine ⟨0, by omega, rfl, ?_, ?_, ?_⟩
    · rw [List.take_zero, partOut_nil, HHD.out]
    · have := heap_alloc_new (w1.alloc (.cells #[.int .u8 2, .int .u8 c] 5)) (.cells #[.int .i64 s, .int .i64 q, .int .i64 u, .int .i64 ok, .int .i64 n] 3)
      simpa using this
    · exact ((Below.refl _ _).alloc (Nat.le_refl _) _).alloc (by simp) _
  case round =>
    obtain ⟨j, hj, rfl, rfl, hrow, hbw⟩ := hrel
    have HR := chid hrow
    have HBW := chid hbw
    have hzr : w1.heap.size + 1 < wr.heap.size := (Array.getElem?_eq_some_iff.1 hrow).1
    have hps := partOut_size hd ([s, q, u, ok, n].take j)
    have hlj : ([s, q, u, ok, n].take j).length ≤ 5 := by rw [List.length_take]; simp; omega
    have hp32 : (partOut hd ([s, q, u, ok, n].take j)).size ≤ 32 := by omega
    clear hrow hbw hps hlj
    by_cases hlt : j < 5
    · obtain ⟨x, hx⟩ : ∃ x, [s, q, u, ok, n][j]? = some x := ⟨_, List.getElem?_eq_getElem (by simpa using hlt)⟩
      have hxm := HN.out x (List.mem_of_getElem? hx)
      have HX := chid hx
      have hcx : wr.cell? ⟨w1.heap.size + 1, j, none⟩ = some (.int .i64 x) := by
        rw [Lib.cell_of_heap HR.out]
        have e : (#[Value.int .i64 s, .int .i64 q, .int .i64 u, .int .i64 ok, .int .i64 n])[j]? = ([s, q, u, ok, n].map (Value.int .i64))[j]? := by simp
        rw [e, List.getElem?_map, HX.out]
        rfl
      have hsx : (strOfNums (encN x)).size ≤ 6 := by rw [strOfNums_size]; exact (encN_length x).2
      have CN := chid (fun w => numberBytes_ok x w hxm.1 hxm.2)
      obtain ⟨t, ht⟩ : ∃ t, t = strOfNums (encN x) := ⟨_, rfl⟩
      rw [← ht] at CN hsx
      have HSN := chid (partOut_snoc hd ([s, q, u, ok, n].take j) x)
      rw [← ht, ← take_snocC HX.out] at HSN
      obtain ⟨po, hpo⟩ : ∃ p, p = partOut hd ([s, q, u, ok, n].take j) := ⟨_, rfl⟩
      rw [← hpo] at hp32 HSN ⊢
      have hsum : po.size + t.size ≤ 40 := by omega
      clear hx hxm ht hpo
      go_wp2_with fail
      refine (CN.out _).mono ?_
      rintro e w2 ⟨rfl, hb2⟩
      have HR2 : Hid (w2.heap[w1.heap.size + 1]? = _) := (hb2.block _ hzr).trans HR.out
      have HB2 := chid (HBW.out.trans (hb2.mono (by omega)))
      clear hb2 hcx
      go_wp2
      go_roundw
      case rel => exact ⟨j + 1, by omega, by go_num, by rw [HSN.out], HR2.out, HB2.out⟩
      case measure => simp [intOf]; omega
    · obtain rfl : j = 5 := by omega
      have e5 : [s, q, u, ok, n].take 5 = [s, q, u, ok, n] := rfl
      rw [e5] at hp32 ⊢
      obtain ⟨po, hpo⟩ : ∃ p, p = partOut hd [s, q, u, ok, n] := ⟨_, rfl⟩
      rw [← hpo] at hp32 ⊢
      have HPO := chid hpo
      have hsum : po.size + ta.size ≤ 60 := by omega
      have hsum2 : (po ++ ta).size + tb.size ≤ 100 := by rw [ByteArray.size_append]; omega
      have hG := (HBW.out.block _ hz).trans HG1.out
      have s6 : wr.cell? ⟨w.heap.size, 6, none⟩ = some (.string a) := cell_of_row wr w.heap.size 6 _ _ _ hG
      have s7 : wr.cell? ⟨w.heap.size, 7, none⟩ = some (.string b) := cell_of_row wr w.heap.size 7 _ _ _ hG
      have hzw : w.heap.size < wr.heap.size := by omega
      clear hG hlt hj hpo e5 s0 s1 s2 s3 s4 s5 s8
      go_wp2_with fail
      refine (CTA.out _).mono ?_
      rintro e w2 ⟨rfl, hb2⟩
      have s7' : w2.cell? ⟨w.heap.size, 7, none⟩ = some (.string b) := (hb2.cell (p := ⟨w.heap.size, 7, none⟩) hzw).trans s7
      have HB2 := chid (HBW.out.trans (hb2.mono (by omega)))
      clear hb2 s6 s7
      go_wp2_with fail
      refine (CTB.out _).mono ?_
      rintro e w3 ⟨rfl, hb3⟩
      have HB3 := chid (HB1.out.trans ((HB2.out.trans (hb3.mono HB2.out.size)).mono HB1.out.size))
      clear hb3 s7'
      go_wp2
      go_ret2
      exact ⟨by rw [← HPO.out]; rfl, HB3.out⟩

end Go.Proofs.Ytcjoekjjebcomak
