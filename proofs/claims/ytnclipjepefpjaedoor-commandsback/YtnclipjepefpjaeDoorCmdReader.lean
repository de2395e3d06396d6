/- The reader's methods: number, text, end. -/
import Derived.Test.YtnclipjepefpjaeDoorCmdReadAny
import Derived.Test.YtnclipjepefpjaeDoorCmdCheck
namespace Go.Proofs.YtnclipjepefpjaeDoor
open Go.RowKit

/-- The reader at block rb has what is left, and what was wrong. -/
def IsRd (rb : Nat) (s : ByteArray) (e : Int) (w : World) : Prop := w.heap[rb]? = some (.cells #[.string s, .int .i64 e] 44 (0, 0))

/-- The command at block cb. -/
def IsCm (cb : Nat) (x : CmdD) (w : World) : Prop := w.heap[cb]? = some (.cells #[.int .i64 x.kind, .int .i64 x.client, .int .i64 x.session, .int .i64 x.seq, .int .i64 x.acked, .int .i64 x.ok, .string x.a, .string x.b, .int .i64 x.n] 28 (0, 0))

theorem rd_stay {r : ByteArray × Int} (h : r.2 ≠ 0) : stepN r = (0, r.1, r.2) := if_neg h
theorem rt_stay {r : ByteArray × Int} (h : r.2 ≠ 0) : stepT r = (⟨#[]⟩, r.1, r.2) := if_neg h

set_option maxHeartbeats 800000 in
theorem rdNumber_wrong (rb cb off : Nat) (s : ByteArray) (e : Int) (w : World) (hr : IsRd rb s e w) (he : e ≠ 0) :
    Calls Tryd.prog 21 #[.pointer (some ⟨rb, 0, none⟩), .pointer (some ⟨cb, off, none⟩)] w fun x w' => x = .returned (.tuple #[]) ∧ w' = w := by
  have s1 : w.cell? ⟨rb, 1, none⟩ = some (.int .i64 e) := cell_of_row w rb 1 _ _ _ hr
  have heb : (e == 0) = false := by simpa using he
  clear hr he
  go_enter Tryd.func21, Tryd.ntmps21
  go_wp2
  go_end0
  exact ⟨rfl, rfl⟩

set_option maxHeartbeats 1600000 in
theorem rdNumber_ok (rb cb off : Nat) (s : ByteArray) (old : Value) (cs : Array Value) (w : World) (hs : s.size ≤ 140737488351232) (hr : IsRd rb s 0 w) (hne : cb ≠ rb) (hc : w.heap[cb]? = some (.cells cs 28 (0, 0))) (ho : cs[off]? = some old) :
    Calls Tryd.prog 21 #[.pointer (some ⟨rb, 0, none⟩), .pointer (some ⟨cb, off, none⟩)] w fun x w' => x = .returned (.tuple #[]) ∧ ∃ w1, Below w.heap.size w w1 ∧ w' = ((w1.setCell ⟨cb, off, none⟩ (.int .i64 (readN s).1)).setCell ⟨rb, 0, none⟩ (.string (readN s).2.1)).setCell ⟨rb, 1, none⟩ (.int .i64 (readN s).2.2) := by
  have s0 : w.cell? ⟨rb, 0, none⟩ = some (.string s) := cell_of_row w rb 0 _ _ _ hr
  have s1 : w.cell? ⟨rb, 1, none⟩ = some (.int .i64 0) := cell_of_row w rb 1 _ _ _ hr
  have CR := chid (fun w => readNumber_any s hs w)
  obtain ⟨n, hn⟩ : ∃ n, n = (readN s).1 := ⟨_, rfl⟩
  obtain ⟨t, ht⟩ : ∃ t, t = (readN s).2.1 := ⟨_, rfl⟩
  obtain ⟨e, hee⟩ : ∃ e, e = (readN s).2.2 := ⟨_, rfl⟩
  rw [← hn, ← ht, ← hee] at CR ⊢
  have HR := chid hr
  have HC := chid hc
  have hlr : rb < w.heap.size := (Array.getElem?_eq_some_iff.1 hr).1
  have hlc : cb < w.heap.size := (Array.getElem?_eq_some_iff.1 hc).1
  clear hr hc hn ht hee
  go_enter Tryd.func21, Tryd.ntmps21
  go_wp2_with fail
  refine (CR.out _).mono ?_
  rintro x w1 ⟨rfl, hb1⟩
  have hr1 : w1.heap[rb]? = _ := (hb1.block _ hlr).trans HR.out
  have hc1 := (hb1.block _ hlc).trans HC.out
  have t0 : w1.cell? ⟨rb, 0, none⟩ = some (.string s) := cell_of_row w1 rb 0 _ _ _ hr1
  have t1 : w1.cell? ⟨rb, 1, none⟩ = some (.int .i64 0) := cell_of_row w1 rb 1 _ _ _ hr1
  have t2 : w1.cell? ⟨cb, off, none⟩ = some old := by rw [← ho]; exact Lib.cell_of_heap hc1 off
  have f0 : ∀ j, w1.frozen? ⟨rb, j, none⟩ = false := fun j => frozen_of_row w1 rb j _ _ hr1
  have f1 : ∀ j, w1.frozen? ⟨cb, j, none⟩ = false := fun j => Lib.frozen_of_heap hc1 j
  have HB1 := chid hb1
  clear hb1 hr1 hc1 s0 s1
  go_wp2
  go_end0
  exact ⟨rfl, w1, HB1.out, rfl⟩
end Go.Proofs.YtnclipjepefpjaeDoor
