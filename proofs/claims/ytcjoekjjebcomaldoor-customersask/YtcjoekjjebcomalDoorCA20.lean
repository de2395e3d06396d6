/- command.Encode: a command's bytes, or what is wrong with it; customer.known, customer.Hello (joined by program) -/
import Derived.Test.YtcjoekjjebcomalDoorCA19
import Derived.Test.YtcjoekjjebcomalDoorCA07
namespace Go.Proofs.YtcjoekjjebcomalDoor

open Go.RowKit

theorem conv2 (W : World) (a b : Int) :
    (convert 71 9 (.slice (some ⟨W.heap.size, 0, none⟩) 2 2)).run Tryd.prog (W.alloc (.cells #[.int .u8 a, .int .u8 b] 5))
      = .ok (.string (strOfNums [a, b])) (W.alloc (.cells #[.int .u8 a, .int .u8 b] 5)) := by
  refine run_convert_bytes_arg _ 71 5 Tryd.underlying71 Tryd.underlying5 W.heap.size 0 2 2 [a, b] rfl ?_ 9 Tryd.underlying9
  intro i hi
  match i, hi with
  | 0, _ => simp
  | 1, _ => simp

/-- The bytes of a Call behind its head. -/
def tailOut (s q u ok : Int) (a b : ByteArray) (n : Int) : ByteArray := ⟨(numsB [s, q, u, ok, n] ++ ((textOut a).data.toList ++ (textOut b).data.toList)).toArray⟩

theorem tailOut_eq (c : CmdD) : tailOut c.session c.seq c.acked c.ok c.a c.b c.n = callOut c := by
  apply ByteArray.ext
  apply Array.toList_inj.1
  simp [tailOut, callOut, numsB, numOut]

theorem tailOut_size (s q u ok : Int) (a b : ByteArray) (n : Int) (ha : a.size ≤ 12) (hb : b.size ≤ 12) : (tailOut s q u ok a b n).size ≤ 100 := by
  have h1 : (tailOut s q u ok a b n).size = (numsB [s, q, u, ok, n] ++ ((textOut a).data.toList ++ (textOut b).data.toList)).length := by
    show (_ : Array UInt8).size = _
    simp
  have h2 := numsB_len [s, q, u, ok, n]
  have h3 := textOut_size a
  have h4 := textOut_size b
  have h5 : (textOut a).data.toList.length = (textOut a).size := by simp
  have h6 : (textOut b).data.toList.length = (textOut b).size := by simp
  rw [h1, List.length_append, List.length_append]
  simp only [List.length_cons, List.length_nil] at h2
  omega

/-- What a Call that may be is like. -/
theorem opE_ok' {k : Int} {a b : ByteArray} {n : Int} (h : opE k a b n = 0) : (1 ≤ k ∧ k ≤ 6) ∧ a.size ≤ 6 ∧ b.size ≤ 12 ∧ 0 ≤ n ∧ n ≤ 1073741824 := by
  unfold opE at h
  split at h
  · omega
  · split at h
    · omega
    · rename_i h1 h2
      have hn : nameB a = true := by
        cases hc : nameB a with
        | true => rfl
        | false => exact absurd (Or.inl hc) h2
      have hn6 := (nameB_yes hn).2.1
      split at h
      · omega
      · split at h
        · split at h
          · exact ⟨by omega, hn6, by omega, by omega, by omega⟩
          · omega
        · split at h
          · exact ⟨by omega, hn6, by omega, by omega, by omega⟩
          · omega

theorem cmdE_call' {c s q u ok : Int} {a b : ByteArray} {n : Int} (h : cmdE 2 c s q u ok a b n = 0) : (1 ≤ c ∧ c ≤ 9) ∧ (∀ x ∈ [s, q, u, ok, n], 0 ≤ x ∧ x ≤ 1099511627776) ∧ a.size ≤ 12 ∧ b.size ≤ 12 := by
  by_cases h2 : 1 ≤ c ∧ c ≤ 9
  · by_cases hc : callR s q u
    · rw [cmdE_callYes h2 hc] at h
      obtain ⟨hk, ha, hb, hn⟩ := opE_ok' h
      obtain ⟨e1, e2, e3⟩ := hc
      refine ⟨h2, fun x hx => ?_, by omega, by omega⟩
      simp at hx
      rcases hx with rfl | rfl | rfl | rfl | rfl <;> omega
    · rw [cmdE_callNo h2 hc] at h
      omega
  · rw [cmdE_client (by omega) h2] at h
    omega

theorem cmdE_head' {k c s q u ok : Int} {a b : ByteArray} {n : Int} (h : cmdE k c s q u ok a b n = 0) : (1 ≤ k ∧ k ≤ 3) ∧ (1 ≤ c ∧ c ≤ 9) := by
  by_cases h1 : 1 ≤ k ∧ k ≤ 3
  · by_cases h2 : 1 ≤ c ∧ c ≤ 9
    · exact ⟨h1, h2⟩
    · rw [cmdE_client h1 h2] at h; omega
  · rw [cmdE_kind h1] at h; omega

set_option maxHeartbeats 1600000 in
theorem encode_rest (k c s q u ok : Int) (a b : ByteArray) (n : Int) (w : World) (hq : FitsC q) (ha : ShortC a) (hb : ShortC b) (hr : cmdE k c s q u ok a b n = 0) (hk : k ≠ 2) :
    Calls Tryd.prog 17 #[.agg #[.int .i64 k, .int .i64 c, .int .i64 s, .int .i64 q, .int .i64 u, .int .i64 ok, .string a, .string b, .int .i64 n]] w fun e w' => e = .returned (.tuple #[.string (strOfNums [k, c]), .int .i64 0]) ∧ Below w.heap.size w w' := by
  have HB := chid (cbox w k c s q u ok a b n)
  have CC := chid (fun w => cmdCheck_any k c s q u ok a b n w hq ha hb)
  obtain ⟨⟨hk1, hk3⟩, hc1, hc9⟩ := cmdE_head' hr
  rw [hr] at CC
  have hk2 : (k == 2) = false := by simpa using hk
  have hcv := conv2
  clear hr ha hb hq hk
  go_enter Tryd.func17, Tryd.ntmps17
  go_wp2_with fail
  refine (CC.out _).mono ?_
  rintro e w1 ⟨rfl, hb1⟩
  have HB1 := chid (HB.out.trans (hb1.mono (by simp)))
  have g1 : w1.heap[w.heap.size]? = some (.cells #[.int .i64 k, .int .i64 c, .int .i64 s, .int .i64 q, .int .i64 u, .int .i64 ok, .string a, .string b, .int .i64 n] 45 (0, 0)) := (hb1.block _ (by simp)).trans (heap_alloc_new w _)
  have s0 : w1.cell? ⟨w.heap.size, 0, none⟩ = some (.int .i64 k) := cell_of_row w1 w.heap.size 0 _ _ _ g1
  have s1 : w1.cell? ⟨w.heap.size, 1, none⟩ = some (.int .i64 c) := cell_of_row w1 w.heap.size 1 _ _ _ g1
  have hz : w.heap.size < w1.heap.size := (Array.getElem?_eq_some_iff.1 g1).1
  have hzn : w.heap.size ≠ w1.heap.size := by omega
  clear hb1 g1
  go_wp2
  go_ret2
  exact ⟨rfl, HB1.out.alloc HB1.out.size _⟩

set_option maxHeartbeats 1600000 in
theorem encode_call (c s q u ok : Int) (a b : ByteArray) (n : Int) (w : World) (hq : FitsC q) (ha : ShortC a) (hb : ShortC b) (hr : cmdE 2 c s q u ok a b n = 0) :
    Calls Tryd.prog 17 #[.agg #[.int .i64 2, .int .i64 c, .int .i64 s, .int .i64 q, .int .i64 u, .int .i64 ok, .string a, .string b, .int .i64 n]] w fun e w' => e = .returned (.tuple #[.string (strOfNums [2, c] ++ tailOut s q u ok a b n), .int .i64 0]) ∧ Below w.heap.size w w' := by
  have HB := chid (cbox w 2 c s q u ok a b n)
  have CC := chid (fun w => cmdCheck_any 2 c s q u ok a b n w hq ha hb)
  obtain ⟨⟨hc1, hc9⟩, hN, ha12, hb12⟩ := cmdE_call' hr
  have CB := chid (fun w => callBytes_any 2 c s q u ok a b n w hN (by omega) (by omega))
  have hsz := tailOut_size s q u ok a b n ha12 hb12
  obtain ⟨t, ht⟩ : ∃ t, t = tailOut s q u ok a b n := ⟨_, rfl⟩
  have ht' : (⟨(numsB [s, q, u, ok, n] ++ ((textOut a).data.toList ++ (textOut b).data.toList)).toArray⟩ : ByteArray) = t := by rw [ht]; rfl
  rw [ht'] at CB
  rw [← ht] at hsz ⊢
  rw [hr] at CC
  have hcv := conv2
  have h2s : (strOfNums [2, c]).size = 2 := strOfNums_size _
  have hsum : (strOfNums [2, c]).size + t.size ≤ 102 := by omega
  clear hr ha hb hq hN ha12 hb12 ht ht' h2s
  go_enter Tryd.func17, Tryd.ntmps17
  go_wp2_with fail
  refine (CC.out _).mono ?_
  rintro e w1 ⟨rfl, hb1⟩
  have HB1 := chid (HB.out.trans (hb1.mono (by simp)))
  have g1 : w1.heap[w.heap.size]? = some (.cells #[.int .i64 2, .int .i64 c, .int .i64 s, .int .i64 q, .int .i64 u, .int .i64 ok, .string a, .string b, .int .i64 n] 45 (0, 0)) := (hb1.block _ (by simp)).trans (heap_alloc_new w _)
  have s0 : w1.cell? ⟨w.heap.size, 0, none⟩ = some (.int .i64 2) := cell_of_row w1 w.heap.size 0 _ _ _ g1
  have s1 : w1.cell? ⟨w.heap.size, 1, none⟩ = some (.int .i64 c) := cell_of_row w1 w.heap.size 1 _ _ _ g1
  have s2 : w1.cell? ⟨w.heap.size, 2, none⟩ = some (.int .i64 s) := cell_of_row w1 w.heap.size 2 _ _ _ g1
  have s3 : w1.cell? ⟨w.heap.size, 3, none⟩ = some (.int .i64 q) := cell_of_row w1 w.heap.size 3 _ _ _ g1
  have s4 : w1.cell? ⟨w.heap.size, 4, none⟩ = some (.int .i64 u) := cell_of_row w1 w.heap.size 4 _ _ _ g1
  have s5 : w1.cell? ⟨w.heap.size, 5, none⟩ = some (.int .i64 ok) := cell_of_row w1 w.heap.size 5 _ _ _ g1
  have s6 : w1.cell? ⟨w.heap.size, 6, none⟩ = some (.string a) := cell_of_row w1 w.heap.size 6 _ _ _ g1
  have s7 : w1.cell? ⟨w.heap.size, 7, none⟩ = some (.string b) := cell_of_row w1 w.heap.size 7 _ _ _ g1
  have s8 : w1.cell? ⟨w.heap.size, 8, none⟩ = some (.int .i64 n) := cell_of_row w1 w.heap.size 8 _ _ _ g1
  have hz : w.heap.size < w1.heap.size := (Array.getElem?_eq_some_iff.1 g1).1
  have hzn : w.heap.size ≠ w1.heap.size := by omega
  have HB1' := chid (HB1.out.alloc HB1.out.size (.cells #[.int .u8 2, .int .u8 c] 5))
  clear hb1 g1
  go_wp2_with fail
  refine (CB.out _).mono ?_
  rintro e w2 ⟨rfl, hb2⟩
  have HB2 := chid (HB1'.out.trans (hb2.mono HB1'.out.size))
  clear hb2
  go_wp2
  go_ret2
  exact ⟨rfl, HB2.out⟩

end Go.Proofs.YtcjoekjjebcomalDoor

namespace Go.Proofs.YtcjoekjjebcomalDoor

open Go.RowKit

theorem cmdE_join {id : Int} (h : 1 ≤ id ∧ id ≤ 9) : cmdE 1 id 0 0 0 0 ⟨#[]⟩ ⟨#[]⟩ 0 = 0 := by
  unfold cmdE
  rw [if_neg (by omega), if_neg (by omega), if_neg (by omega), if_pos ⟨rfl, rfl, rfl, rfl, rfl, rfl, rfl⟩]

set_option maxRecDepth 100000 in
set_option maxHeartbeats 1600000 in
theorem Hello_ok (v : Value) (c : CustD) (w : World) (B : Nat) (hv : CustR w B v c) (hB : B ≤ w.heap.size) (hc : checkC c = 0) :
    Calls Tryd.prog 7 #[v] w fun e w' => e = .returned (.tuple #[.string (strOfNums [1, c.id]), .int .i64 0]) ∧ Below w.heap.size w w' := by
  have C1 := ghid (fun u (hu : Below w.heap.size w u) => custCheck_any v c u B (hv.below hu hB) (by have := hu.size; omega))
  have hid := (GoodC.of hc).id
  rw [hc] at C1
  obtain ⟨ao, cap, rfl, -⟩ := hv.shape
  obtain ⟨id, se, nx, ws⟩ := c
  simp only at C1 hid ⊢
  obtain ⟨n, hn⟩ : ∃ n, n = ws.length := ⟨_, rfl⟩
  rw [← hn] at C1 ⊢
  have HX0 := ghid (heap_alloc_new w (.cells #[.int .i64 id, .int .i64 se, .int .i64 nx, .slice ao n cap] 25))
  have HB0 : Hid (Below w.heap.size w (w.alloc (.cells #[.int .i64 id, .int .i64 se, .int .i64 nx, .slice ao n cap] 25))) := (Below.refl _ _).alloc (Nat.le_refl _) _
  have C2 := ghid (fun u => encode_rest 1 id 0 0 0 0 ⟨#[]⟩ ⟨#[]⟩ 0 u (by unfold FitsC; omega) (by unfold ShortC; show (0 : Nat) ≤ _; omega) (by unfold ShortC; show (0 : Nat) ≤ _; omega) (cmdE_join hid) (by omega))
  clear hv hn hc hid
  go_enter Tryd.func7, Tryd.ntmps7
  go_wp2_with fail
  refine (C1.out _ HB0.out).mono ?_
  rintro e w1 ⟨rfl, hb1⟩
  have HB1 := ghid (HB0.out.trans (hb1.mono HB0.out.size))
  obtain ⟨c0, c1, c2, c3, cf, cl⟩ := state_cells (behind HX0.out (Below.refl _ _) hb1)
  clear hb1
  go_wp2_with fail
  refine (C2.out _).mono ?_
  rintro e w2 ⟨rfl, hb2⟩
  have HB2 := ghid (HB1.out.trans (hb2.mono HB1.out.size))
  clear hb2
  go_wp2
  refine bodyPost_ret (v := .tuple #[.string (strOfNums [1, id]), .int .i64 0]) (by simp [results, Tryd.results7, go_sem]) rfl ?_
  exact ⟨rfl, HB2.out⟩

end Go.Proofs.YtcjoekjjebcomalDoor
