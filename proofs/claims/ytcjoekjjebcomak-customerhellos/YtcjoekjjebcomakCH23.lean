/- The document's CommandBytes: a command's bytes, or what is wrong with it (joined by program) -/
import Derived.Test.YtcjoekjjebcomakRows
import Derived.WalkKit
import Derived.ProofKit
import Derived.OpenShut
import Derived.ShutString
import Derived.WalkLawsBesides
import Derived.Outline
import Derived.Laws.BytesArg
import Derived.WalkSpells
import Derived.Test.YtcjoekjjebcomakCH18
import Derived.Test.YtcjoekjjebcomakCH21
import Derived.Test.YtcjoekjjebcomakCH13
import Derived.Test.YtcjoekjjebcomakCH09
namespace Go.Proofs.Ytcjoekjjebcomak

open Go.RowKit

set_option maxHeartbeats 1600000 in
theorem cmdBytes_rest (k c s q u ok : Int) (a b : ByteArray) (n : Int) (w : World) (hq : FitsC q) (ha : ShortC a) (hb : ShortC b) (hr : cmdE k c s q u ok a b n = 0) (hk : k ≠ 2) :
    Calls Try.prog 31 #[.agg #[.int .i64 k, .int .i64 c, .int .i64 s, .int .i64 q, .int .i64 u, .int .i64 ok, .string a, .string b, .int .i64 n]] w fun e w' => e = .returned (.tuple #[.string (strOfNums [k, c]), .int .i64 0]) ∧ Below w.heap.size w w' := by
  have HB := chid (cbox w k c s q u ok a b n)
  have CC := chid (fun w => cmdFault_any k c s q u ok a b n w hq ha hb)
  obtain ⟨⟨hk1, hk3⟩, hc1, hc9⟩ := cmdE_head' hr
  rw [hr] at CC
  have hk2 : (k == 2) = false := by simpa using hk
  have hcv := conv2
  clear hr ha hb hq hk
  go_enter Try.func31, Try.ntmps31
  go_wp2_with fail
  refine (CC.out _).mono ?_
  rintro e w1 ⟨rfl, hb1⟩
  have HB1 := chid (HB.out.trans (hb1.mono (by simp)))
  have g1 : w1.heap[w.heap.size]? = some (.cells #[.int .i64 k, .int .i64 c, .int .i64 s, .int .i64 q, .int .i64 u, .int .i64 ok, .string a, .string b, .int .i64 n] 50 (0, 0)) := (hb1.block _ (by simp)).trans (heap_alloc_new w _)
  have s0 : w1.cell? ⟨w.heap.size, 0, none⟩ = some (.int .i64 k) := cell_of_row w1 w.heap.size 0 _ _ _ g1
  have s1 : w1.cell? ⟨w.heap.size, 1, none⟩ = some (.int .i64 c) := cell_of_row w1 w.heap.size 1 _ _ _ g1
  have hz : w.heap.size < w1.heap.size := (Array.getElem?_eq_some_iff.1 g1).1
  have hzn : w.heap.size ≠ w1.heap.size := by omega
  clear hb1 g1
  go_wp2
  go_ret2
  exact ⟨rfl, HB1.out.alloc HB1.out.size _⟩

end Go.Proofs.Ytcjoekjjebcomak
