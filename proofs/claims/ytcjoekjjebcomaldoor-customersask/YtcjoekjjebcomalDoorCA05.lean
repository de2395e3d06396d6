/- strings.Clone: the same bytes, in new memory; by the shelf's contract on the library's inner function; Small functions of package customer: within, isClient, known, copyOp (joined by program) -/
import Derived.Shelf.LaysM
import Derived.Shelf.Strconv.Clone
import Derived.Test.YtcjoekjjebcomalDoorRows
import Derived.WalkKit
import Derived.ProofKit
import Derived.WalkLawsBesides
import Derived.Deep.RegionWith
import Derived.Test.YtcjoekjjebcomalDoorCA04
namespace Go.Proofs.YtcjoekjjebcomalDoor

open Go.RowKit Go.Shelf

def cloneRen : Go.Shelf.Ren := ⟨fun | 316 => 41 | n => n, fun | 9 => 9 | 3 => 3 | 4 => 4 | 37 => 71 | 0 => 0 | 127 => 100 | 5 => 5 | n => n, fun | n => n⟩

theorem cloneLays : Go.Proofs.LaysM.n316 Tryd.prog cloneRen := {
  mixed := by kernel_rfl
  f316 := Tryd.func41.trans (congrArg some (by kernel_rfl))
  t0 := Tryd.underlying0
  a0 := Tryd.isAgg0
  z0 := Tryd.sizeOf0
  v0 := Tryd.zeroValue0
  t3 := Tryd.underlying3
  a3 := Tryd.isAgg3
  z3 := Tryd.sizeOf3
  v3 := Tryd.zeroValue3
  t4 := Tryd.underlying4
  a4 := Tryd.isAgg4
  z4 := Tryd.sizeOf4
  v4 := Tryd.zeroValue4
  t9 := Tryd.underlying9
  a9 := Tryd.isAgg9
  z9 := Tryd.sizeOf9
  v9 := Tryd.zeroValue9
  t37 := Tryd.underlying71
  a37 := Tryd.isAgg71
  z37 := Tryd.sizeOf71
  v37 := Tryd.zeroValue71
  t127 := Tryd.underlying100
  a127 := Tryd.isAgg100
  z127 := Tryd.sizeOf100
  v127 := Tryd.zeroValue100
  t5 := Tryd.underlying5
  a5 := Tryd.isAgg5
  z5 := Tryd.sizeOf5
  v5 := Tryd.zeroValue5
  i0 := by kernel_rfl
  i3 := by kernel_rfl
  i4 := by kernel_rfl
  i5 := by kernel_rfl
  i9 := by kernel_rfl
  i37 := by kernel_rfl
  i127 := by kernel_rfl }

theorem liteClone (s : ByteArray) (w : World) (hlim : s.size ≤ 281474976710656) :
    Calls Tryd.prog 41 #[.string s] w fun e w' => e = .returned (.string s) ∧ Below w.heap.size w w' :=
  Any.stringslite_Clone cloneLays s w hlim

theorem clone_any (s : ByteArray) (w : World) (hlim : s.size ≤ 281474976710656) :
    Calls Tryd.prog 29 #[.string s] w fun e w' => e = .returned (.string s) ∧ Below w.heap.size w w' := by
  go_enter Tryd.func29, Tryd.ntmps29
  go_wp2_with fail
  refine (liteClone s _ hlim).mono ?_
  rintro e w1 ⟨rfl, g1⟩
  go_wp2
  go_ret
  exact ⟨rfl, g1⟩

end Go.Proofs.YtcjoekjjebcomalDoor

namespace Go.Proofs.YtcjoekjjebcomalDoor

open Go.RowKit

theorem cu_yes (n a b : Int) (w : World) (h : a ≤ n ∧ n ≤ b) :
    Calls Tryd.prog 22 #[.int .i64 n, .int .i64 a, .int .i64 b] w fun e w' => e = .returned (.bool true) ∧ w' = w := by
  obtain ⟨h1, h2⟩ := h
  go_enter Tryd.func22, Tryd.ntmps22
  go_wp2
  go_ret
  exact ⟨rfl, rfl⟩

theorem cu_no (n a b : Int) (w : World) (h : ¬ (a ≤ n ∧ n ≤ b)) :
    Calls Tryd.prog 22 #[.int .i64 n, .int .i64 a, .int .i64 b] w fun e w' => e = .returned (.bool false) ∧ w' = w := by
  by_cases h1 : a ≤ n
  · have h2 : ¬ n ≤ b := fun h2 => h ⟨h1, h2⟩
    clear h
    go_enter Tryd.func22, Tryd.ntmps22
    go_wp2
    go_ret
    exact ⟨rfl, rfl⟩
  · clear h
    go_enter Tryd.func22, Tryd.ntmps22
    go_wp2
    go_ret
    exact ⟨rfl, rfl⟩

theorem isClient_yes (n : Int) (w : World) (h : 1 ≤ n ∧ n ≤ 9) :
    Calls Tryd.prog 13 #[.int .i64 n] w fun e w' => e = .returned (.bool true) ∧ w' = w := by
  go_enter Tryd.func13, Tryd.ntmps13
  go_wp2_with fail
  refine (cu_yes n 1 9 _ h).mono ?_
  rintro e w1 ⟨rfl, rfl⟩
  go_wp2
  go_ret
  exact ⟨rfl, rfl⟩

theorem isClient_no (n : Int) (w : World) (h : ¬ (1 ≤ n ∧ n ≤ 9)) :
    Calls Tryd.prog 13 #[.int .i64 n] w fun e w' => e = .returned (.bool false) ∧ w' = w := by
  go_enter Tryd.func13, Tryd.ntmps13
  go_wp2_with fail
  refine (cu_no n 1 9 _ h).mono ?_
  rintro e w1 ⟨rfl, rfl⟩
  go_wp2
  go_ret
  exact ⟨rfl, rfl⟩

set_option maxHeartbeats 1600000 in
theorem copyOp_any (k n : Int) (a b : ByteArray) (w : World) (ha : a.size ≤ 140737488351232) (hb : b.size ≤ 140737488351232) :
    Calls Tryd.prog 16 #[.agg #[.int .i64 k, .string a, .string b, .int .i64 n]] w fun e w' => e = .returned (.agg #[.int .i64 k, .string a, .string b, .int .i64 n]) ∧ Below w.heap.size w w' := by
  have HZ : Hid (Below w.heap.size w ((w.alloc (.cells #[.int .i64 k, .string a, .string b, .int .i64 n] 32)).alloc (.cells #[.int .i64 0, .string ⟨#[]⟩, .string ⟨#[]⟩, .int .i64 0] 32)).drew) := (((Below.refl _ _).alloc (Nat.le_refl _) _).alloc (by simp) _).drew
  have HX0 : Hid (((w.alloc (.cells #[.int .i64 k, .string a, .string b, .int .i64 n] 32)).alloc (.cells #[.int .i64 0, .string ⟨#[]⟩, .string ⟨#[]⟩, .int .i64 0] 32)).drew.heap[w.heap.size]? = some (.cells #[.int .i64 k, .string a, .string b, .int .i64 n] 32 (0, 0))) := (two_newB (Below.refl _ _)).2
  have HR0 : Hid (((w.alloc (.cells #[.int .i64 k, .string a, .string b, .int .i64 n] 32)).alloc (.cells #[.int .i64 0, .string ⟨#[]⟩, .string ⟨#[]⟩, .int .i64 0] 32)).drew.heap[w.heap.size + 1]? = some (.cells #[.int .i64 0, .string ⟨#[]⟩, .string ⟨#[]⟩, .int .i64 0] 32 (0, 0))) := (two_newB (Below.refl _ _)).1
  have CA := ghid (fun u => clone_any a u (by omega))
  have CB := ghid (fun u => clone_any b u (by omega))
  go_enter Tryd.func16, Tryd.ntmps16
  go_wp2_with fail
  go_region_with (first
    | (go_at_call 29; with_reducible refine (CA.out _).mono ?_; rintro e w1 ⟨rfl, hb1⟩; have HB1 := ghid (HZ.out.trans (hb1.mono HZ.out.size)); have HX1 := ghid (behind HX0.out (Below.refl _ _) hb1); have HR1 := ghid (behind HR0.out (Below.refl _ _) hb1); have hz1 : w.heap.size + 2 ≤ w1.heap.size := (by have := hb1.size; simpa using this); clear hb1; obtain ⟨c0, c1, c2, c3, cf, cl⟩ := state_cells HX1.out; obtain ⟨r0, r1, r2, r3, rf, rl⟩ := state_cells HR1.out)
    | (go_at_call 29; with_reducible refine (CB.out _).mono ?_; rintro e w2 ⟨rfl, hb2⟩; have HB2 := ghid (HB1.out.trans (hb2.mono HB1.out.size)); have HX2 := ghid (behind HX1.out (Below.refl _ _) hb2); have HR2 := ghid (behind HR1.out (Below.refl _ _) hb2); have hz2 : w.heap.size + 2 ≤ w2.heap.size := (by have := hb2.size; omega); clear hb2 c0 c1 c2 c3 cf cl r0 r1 r2 r3 rf rl; obtain ⟨c0, c1, c2, c3, cf, cl⟩ := state_cells HX2.out; obtain ⟨r0, r1, r2, r3, rf, rl⟩ := state_cells HR2.out))
  all_goals
    go_wp2
    refine bodyPost_ret (v := .agg #[.int .i64 k, .string a, .string b, .int .i64 n]) (by simp [results, Tryd.results16, go_sem, r0, r1, r2, r3]) rfl ?_
    exact ⟨rfl, zset4 ((HB2.out.setCell (by simp) _).setCell (by simp) _) (by omega) _ _ _ _⟩

end Go.Proofs.YtcjoekjjebcomalDoor
