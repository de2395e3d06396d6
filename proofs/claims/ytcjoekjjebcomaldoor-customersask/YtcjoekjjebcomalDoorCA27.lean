/- codec.ReadNumber and codec.ReadText, at every text; The reader's methods: number, text, end (joined by program) -/
import Derived.Test.YtcjoekjjebcomalDoorCA26
import Derived.Test.YtcjoekjjebcomalDoorCA16
import Derived.Test.YtcjoekjjebcomalDoorCA07
namespace Go.Proofs.YtcjoekjjebcomalDoor

open Go.RowKit

theorem number_any (s : ByteArray) (hs : s.size ≤ maxLen) : ∀ w : World, Calls Tryd.prog 54 #[.string s] w fun e w' => e = .returned (.tuple #[.int .i64 (numR s).1, .int .i64 (numR s).2.1, .int .i64 (numR s).2.2]) ∧ w' = w := by
  unfold numR
  by_cases h0 : cd s.data.toList = 0
  · rw [if_pos h0]
    exact fun w => number_short s w hs h0
  · rw [if_neg h0]
    by_cases h6 : 6 < cd s.data.toList
    · rw [if_pos (.inl h6)]
      exact fun w => number_long s w hs h6
    · by_cases hz : 1 < cd s.data.toList ∧ (s.data.toList.getD (cd s.data.toList - 1) 0).toNat = 0
      · rw [if_pos (.inr hz)]
        exact fun w => number_zero s w hs hz.1 (by omega) hz.2
      · have hz' : cd s.data.toList = 1 ∨ (1 < cd s.data.toList ∧ (s.data.toList.getD (cd s.data.toList - 1) 0).toNat ≠ 0) := by
          by_cases h1 : cd s.data.toList = 1
          · exact .inl h1
          · exact .inr ⟨by omega, fun e => hz ⟨by omega, e⟩⟩
        rw [if_neg (fun h => h.elim h6 hz)]
        by_cases hm : 1099511627776 < dec (s.data.toList.take (cd s.data.toList))
        · rw [if_pos hm]
          exact fun w => number_big s w hs (by omega) (by omega) hz' hm
        · rw [if_neg hm]
          exact fun w => number_read s w hs (by omega) (by omega) hz' hm

theorem readNumber_any (s : ByteArray) (hs : s.size ≤ 140737488351232) (w : World) :
    Calls Tryd.prog 47 #[.string s] w fun e w' => e = .returned (.tuple #[.int .i64 (readN s).1, .string (readN s).2.1, .int .i64 (readN s).2.2]) ∧ Below w.heap.size w w' := by
  have hn := number_any s (by unfold maxLen; omega)
  unfold readN
  by_cases h : (numR s).2.2 = 0
  · rw [if_pos h]
    rw [h] at hn
    exact readNumber_ok s _ _ w (by omega) hn (numR_ok s h).2.2.2.2
  · rw [if_neg h]
    have hc : (numR s).2.2 = 4 ∨ (numR s).2.2 = 5 := (numR_err s).resolve_left h
    have h00 : (numR s).1 = 0 ∧ (numR s).2.1 = 0 := by
      revert h
      unfold numR
      split
      · intro _; exact ⟨rfl, rfl⟩
      · split
        · intro _; exact ⟨rfl, rfl⟩
        · split
          · intro _; exact ⟨rfl, rfl⟩
          · intro h; exact absurd rfl h
    rw [h00.1, h00.2] at hn
    exact readNumber_err s _ w hn hc

set_option maxHeartbeats 800000 in
theorem readText_err (s : ByteArray) (c : Int) (w : World) (hn : NumErr s c) (hc : c = 4 ∨ c = 5) :
    Calls Tryd.prog 48 #[.string s] w fun e w' => e = .returned (.tuple #[.string ⟨#[]⟩, .string ⟨#[]⟩, .int .i64 c]) ∧ Below w.heap.size w w' := by
  have hcb : (c != 0) = true := by rcases hc with rfl | rfl <;> rfl
  clear hc
  go_enter Tryd.func48, Tryd.ntmps48
  go_wp2_with fail
  refine (hn _).mono ?_
  rintro e w1 ⟨rfl, rfl⟩
  go_wp2
  go_ret3
  exact ⟨rfl, Below.refl _ _⟩

set_option maxHeartbeats 800000 in
theorem readText_big (s : ByteArray) (n : Int) (z : Nat) (w : World) (hn : NumOk s n z) (h : 5000 < n) :
    Calls Tryd.prog 48 #[.string s] w fun e w' => e = .returned (.tuple #[.string ⟨#[]⟩, .string ⟨#[]⟩, .int .i64 1]) ∧ Below w.heap.size w w' := by
  go_enter Tryd.func48, Tryd.ntmps48
  go_wp2_with fail
  refine (hn _).mono ?_
  rintro e w1 ⟨rfl, rfl⟩
  go_wp2
  go_ret3
  exact ⟨rfl, Below.refl _ _⟩

set_option maxHeartbeats 800000 in
theorem readText_short (s : ByteArray) (n : Int) (z : Nat) (w : World) (hs : s.size ≤ 140737488351232) (hn : NumOk s n z) (h : ¬ 5000 < n) (hz : z ≤ 6) (hlt : (s.size : Int) - z < n) :
    Calls Tryd.prog 48 #[.string s] w fun e w' => e = .returned (.tuple #[.string ⟨#[]⟩, .string ⟨#[]⟩, .int .i64 5]) ∧ Below w.heap.size w w' := by
  go_enter Tryd.func48, Tryd.ntmps48
  go_wp2_with fail
  refine (hn _).mono ?_
  rintro e w1 ⟨rfl, rfl⟩
  go_wp2
  go_ret3
  exact ⟨rfl, Below.refl _ _⟩

theorem readText_any (s : ByteArray) (hs : s.size ≤ 140737488351232) (w : World) :
    Calls Tryd.prog 48 #[.string s] w fun e w' => e = .returned (.tuple #[.string (readT s).1, .string (readT s).2.1, .int .i64 (readT s).2.2]) ∧ Below w.heap.size w w' := by
  have hn := number_any s (by unfold maxLen; omega)
  unfold readT
  by_cases h : (numR s).2.2 = 0
  · rw [if_neg (fun hh => hh h)]
    rw [h] at hn
    obtain ⟨h0, h1, h2, h3, h4⟩ := numR_ok s h
    by_cases h5 : 5000 < (numR s).1
    · rw [if_pos h5]
      exact readText_big s _ _ w hn h5
    · rw [if_neg h5]
      by_cases h6 : (s.size : Int) - (numR s).2.1 < (numR s).1
      · rw [if_pos h6]
        exact readText_short s _ _ w hs hn h5 h3 h6
      · rw [if_neg h6]
        obtain ⟨m, hm⟩ : ∃ m : Nat, (numR s).1 = m := ⟨(numR s).1.toNat, by omega⟩
        rw [hm] at hn h6 h5 ⊢
        exact readText_ok s m _ w (by omega) hn (by omega) (by omega)
  · rw [if_pos h]
    have hc : (numR s).2.2 = 4 ∨ (numR s).2.2 = 5 := (numR_err s).resolve_left h
    have h00 : (numR s).1 = 0 ∧ (numR s).2.1 = 0 := by
      revert h
      unfold numR
      split
      · intro _; exact ⟨rfl, rfl⟩
      · split
        · intro _; exact ⟨rfl, rfl⟩
        · split
          · intro _; exact ⟨rfl, rfl⟩
          · intro h; exact absurd rfl h
    rw [h00.1, h00.2] at hn
    exact readText_err s _ w hn hc

end Go.Proofs.YtcjoekjjebcomalDoor

namespace Go.Proofs.YtcjoekjjebcomalDoor

open Go.RowKit

/-- The reader at block rb has what is left, and what was wrong. -/
def IsRd (rb : Nat) (s : ByteArray) (e : Int) (w : World) : Prop := w.heap[rb]? = some (.cells #[.string s, .int .i64 e] 64 (0, 0))

/-- The command at block cb. -/
def IsCm (cb : Nat) (x : CmdD) (w : World) : Prop := w.heap[cb]? = some (.cells #[.int .i64 x.kind, .int .i64 x.client, .int .i64 x.session, .int .i64 x.seq, .int .i64 x.acked, .int .i64 x.ok, .string x.a, .string x.b, .int .i64 x.n] 45 (0, 0))

theorem rd_stay {r : ByteArray × Int} (h : r.2 ≠ 0) : stepN r = (0, r.1, r.2) := if_neg h

theorem rt_stay {r : ByteArray × Int} (h : r.2 ≠ 0) : stepT r = (⟨#[]⟩, r.1, r.2) := if_neg h

set_option maxHeartbeats 800000 in
theorem rdNumber_wrong (rb cb off : Nat) (s : ByteArray) (e : Int) (w : World) (hr : IsRd rb s e w) (he : e ≠ 0) :
    Calls Tryd.prog 35 #[.pointer (some ⟨rb, 0, none⟩), .pointer (some ⟨cb, off, none⟩)] w fun x w' => x = .returned (.tuple #[]) ∧ w' = w := by
  have s1 : w.cell? ⟨rb, 1, none⟩ = some (.int .i64 e) := cell_of_row w rb 1 _ _ _ hr
  have heb : (e == 0) = false := by simpa using he
  clear hr he
  go_enter Tryd.func35, Tryd.ntmps35
  go_wp2
  go_end0
  exact ⟨rfl, rfl⟩

set_option maxHeartbeats 1600000 in
theorem rdNumber_ok (rb cb off : Nat) (s : ByteArray) (old : Value) (cs : Array Value) (w : World) (hs : s.size ≤ 140737488351232) (hr : IsRd rb s 0 w) (hne : cb ≠ rb) (hc : w.heap[cb]? = some (.cells cs 45 (0, 0))) (ho : cs[off]? = some old) :
    Calls Tryd.prog 35 #[.pointer (some ⟨rb, 0, none⟩), .pointer (some ⟨cb, off, none⟩)] w fun x w' => x = .returned (.tuple #[]) ∧ ∃ w1, Below w.heap.size w w1 ∧ w' = ((w1.setCell ⟨cb, off, none⟩ (.int .i64 (readN s).1)).setCell ⟨rb, 0, none⟩ (.string (readN s).2.1)).setCell ⟨rb, 1, none⟩ (.int .i64 (readN s).2.2) := by
  have s0 : w.cell? ⟨rb, 0, none⟩ = some (.string s) := cell_of_row w rb 0 _ _ _ hr
  have s1 : w.cell? ⟨rb, 1, none⟩ = some (.int .i64 0) := cell_of_row w rb 1 _ _ _ hr
  have CR := chid (fun w => readNumber_any s hs w)
  obtain ⟨n, hn⟩ : ∃ n, n = (readN s).1 := ⟨_, rfl⟩
  obtain ⟨t, ht⟩ : ∃ t, t = (readN s).2.1 := ⟨_, rfl⟩
  obtain ⟨e, hee⟩ : ∃ e, e = (readN s).2.2 := ⟨_, rfl⟩
  rw [← hn, ← ht, ← hee] at CR ⊢
  have HR := chid hr
  have HC := chid hc
  have hlr : rb < w.heap.size := (Array.getElem?_eq_some_iff.1 hr).1
  have hlc : cb < w.heap.size := (Array.getElem?_eq_some_iff.1 hc).1
  clear hr hc hn ht hee
  go_enter Tryd.func35, Tryd.ntmps35
  go_wp2_with fail
  refine (CR.out _).mono ?_
  rintro x w1 ⟨rfl, hb1⟩
  have hr1 : w1.heap[rb]? = _ := (hb1.block _ hlr).trans HR.out
  have hc1 := (hb1.block _ hlc).trans HC.out
  have t0 : w1.cell? ⟨rb, 0, none⟩ = some (.string s) := cell_of_row w1 rb 0 _ _ _ hr1
  have t1 : w1.cell? ⟨rb, 1, none⟩ = some (.int .i64 0) := cell_of_row w1 rb 1 _ _ _ hr1
  have t2 : w1.cell? ⟨cb, off, none⟩ = some old := by rw [← ho]; exact Lib.cell_of_heap hc1 off
  have f0 : ∀ j, w1.frozen? ⟨rb, j, none⟩ = false := fun j => frozen_of_row w1 rb j _ _ hr1
  have f1 : ∀ j, w1.frozen? ⟨cb, j, none⟩ = false := fun j => Lib.frozen_of_heap hc1 j
  have HB1 := chid hb1
  clear hb1 hr1 hc1 s0 s1
  go_wp2
  go_end0
  exact ⟨rfl, w1, HB1.out, rfl⟩

end Go.Proofs.YtcjoekjjebcomalDoor
