/- command.Check and checkCall: what is wrong with a command first; strings.Builder: a text is put behind what it has; all of it is told; by the shelf's contracts (joined by program) -/
import Derived.Shelf.Strings.BuilderK
import Derived.Test.YtcjoekjjebcomalDoorRows
import Derived.WalkKit
import Derived.ProofKit
import Derived.WalkLawsBesides
import Derived.Test.YtcjoekjjebcomalDoorCA07
import Derived.Test.YtcjoekjjebcomalDoorCA17
namespace Go.Proofs.YtcjoekjjebcomalDoor

open Go.RowKit

/-- The limits of a Call's numbers. -/
def callR (s q u : Int) : Prop := (1 ≤ s ∧ s ≤ 1073741824) ∧ (1 ≤ q ∧ q ≤ 1048576) ∧ (0 ≤ u ∧ u ≤ q - 1)

/-- The cells of a command, boxed. -/
theorem cbox (w : World) (k c s q u ok : Int) (a b : ByteArray) (n : Int) : Below w.heap.size w (w.alloc (.cells #[.int .i64 k, .int .i64 c, .int .i64 s, .int .i64 q, .int .i64 u, .int .i64 ok, .string a, .string b, .int .i64 n] 45)) :=
  (Below.refl _ _).alloc (Nat.le_refl _) _

set_option maxHeartbeats 1600000 in
theorem checkCall_no (k c s q u ok : Int) (a b : ByteArray) (n : Int) (w : World) (hq : FitsC q) (h : ¬ callR s q u) :
    Calls Tryd.prog 38 #[.agg #[.int .i64 k, .int .i64 c, .int .i64 s, .int .i64 q, .int .i64 u, .int .i64 ok, .string a, .string b, .int .i64 n]] w fun e w' => e = .returned (.int .i64 2) ∧ Below w.heap.size w w' := by
  have HB := chid (cbox w k c s q u ok a b n)
  obtain ⟨hq1, hq2⟩ := hq
  by_cases h1 : 1 ≤ s ∧ s ≤ 1073741824
  · by_cases h2 : 1 ≤ q ∧ q ≤ 1048576
    · have h3 : ¬ (0 ≤ u ∧ u ≤ q - 1) := fun h3 => h ⟨h1, h2, h3⟩
      have hw : IntKind.i64.wrap (q - 1) = q - 1 := by rw [IntKind.wrap_i64]; omega
      clear h
      go_enter Tryd.func38, Tryd.ntmps38
      go_wp2_with fail
      refine (within_yes s 1 1073741824 _ h1).mono ?_
      rintro e w1 ⟨rfl, rfl⟩
      go_wp2_with fail
      refine (within_yes q 1 1048576 _ h2).mono ?_
      rintro e w1 ⟨rfl, rfl⟩
      go_wp2_with fail
      refine (within_no u 0 (q - 1) _ h3).mono ?_
      rintro e w1 ⟨rfl, rfl⟩
      go_wp2
      go_ret
      exact ⟨rfl, HB.out⟩
    · clear h
      go_enter Tryd.func38, Tryd.ntmps38
      go_wp2_with fail
      refine (within_yes s 1 1073741824 _ h1).mono ?_
      rintro e w1 ⟨rfl, rfl⟩
      go_wp2_with fail
      refine (within_no q 1 1048576 _ h2).mono ?_
      rintro e w1 ⟨rfl, rfl⟩
      go_wp2
      go_ret
      exact ⟨rfl, HB.out⟩
  · clear h
    go_enter Tryd.func38, Tryd.ntmps38
    go_wp2_with fail
    refine (within_no s 1 1073741824 _ h1).mono ?_
    rintro e w1 ⟨rfl, rfl⟩
    go_wp2
    go_ret
    exact ⟨rfl, HB.out⟩

set_option maxHeartbeats 1600000 in
theorem checkCall_yes (k c s q u ok : Int) (a b : ByteArray) (n : Int) (w : World) (ha : ShortC a) (hb : ShortC b) (h : callR s q u) :
    Calls Tryd.prog 38 #[.agg #[.int .i64 k, .int .i64 c, .int .i64 s, .int .i64 q, .int .i64 u, .int .i64 ok, .string a, .string b, .int .i64 n]] w fun e w' => e = .returned (.int .i64 (opE ok a b n)) ∧ Below w.heap.size w w' := by
  have HB := chid (cbox w k c s q u ok a b n)
  obtain ⟨h1, h2, h3⟩ := h
  have hw : IntKind.i64.wrap (q - 1) = q - 1 := by rw [IntKind.wrap_i64]; omega
  have CO := chid (fun w => checkOp_any ok a b n w ha hb)
  obtain ⟨r, hr⟩ : ∃ r, r = opE ok a b n := ⟨_, rfl⟩
  rw [← hr] at CO ⊢
  clear hr ha hb
  go_enter Tryd.func38, Tryd.ntmps38
  go_wp2_with fail
  refine (within_yes s 1 1073741824 _ h1).mono ?_
  rintro e w1 ⟨rfl, rfl⟩
  go_wp2_with fail
  refine (within_yes q 1 1048576 _ h2).mono ?_
  rintro e w1 ⟨rfl, rfl⟩
  go_wp2_with fail
  refine (within_yes u 0 (q - 1) _ h3).mono ?_
  rintro e w1 ⟨rfl, rfl⟩
  go_wp2_with fail
  refine (CO.out _).mono ?_
  rintro e w2 ⟨rfl, hb2⟩
  have HB2 := chid (HB.out.trans (hb2.mono (by simp)))
  clear hb2
  go_wp2
  go_ret
  exact ⟨rfl, HB2.out⟩

theorem cmdE_kind {k c s q u ok : Int} {a b : ByteArray} {n : Int} (h : ¬ (1 ≤ k ∧ k ≤ 3)) : cmdE k c s q u ok a b n = 3 := if_pos h

theorem cmdE_client {k c s q u ok : Int} {a b : ByteArray} {n : Int} (h : 1 ≤ k ∧ k ≤ 3) (h2 : ¬ (1 ≤ c ∧ c ≤ 9)) : cmdE k c s q u ok a b n = 2 := by unfold cmdE; rw [if_neg (by omega), if_pos h2]

theorem cmdE_callNo {c s q u ok : Int} {a b : ByteArray} {n : Int} (h2 : 1 ≤ c ∧ c ≤ 9) (h : ¬ callR s q u) : cmdE 2 c s q u ok a b n = 2 := by unfold callR at h; unfold cmdE; rw [if_neg (by omega), if_neg (by omega), if_pos rfl, if_neg h]

theorem cmdE_callYes {c s q u ok : Int} {a b : ByteArray} {n : Int} (h2 : 1 ≤ c ∧ c ≤ 9) (h : callR s q u) : cmdE 2 c s q u ok a b n = opE ok a b n := by unfold callR at h; unfold cmdE; rw [if_neg (by omega), if_neg (by omega), if_pos rfl, if_pos h]

theorem cmdE_restYes {k c s q u ok : Int} {a b : ByteArray} {n : Int} (h : 1 ≤ k ∧ k ≤ 3) (h2 : 1 ≤ c ∧ c ≤ 9) (hk : k ≠ 2) (h3 : s = 0 ∧ q = 0 ∧ u = 0 ∧ ok = 0 ∧ a.size = 0 ∧ b.size = 0 ∧ n = 0) : cmdE k c s q u ok a b n = 0 := by unfold cmdE; rw [if_neg (by omega), if_neg (by omega), if_neg hk, if_pos h3]

theorem cmdE_restNo {k c s q u ok : Int} {a b : ByteArray} {n : Int} (h : 1 ≤ k ∧ k ≤ 3) (h2 : 1 ≤ c ∧ c ≤ 9) (hk : k ≠ 2) (h3 : ¬ (s = 0 ∧ q = 0 ∧ u = 0 ∧ ok = 0 ∧ a.size = 0 ∧ b.size = 0 ∧ n = 0)) : cmdE k c s q u ok a b n = 4 := by unfold cmdE; rw [if_neg (by omega), if_neg (by omega), if_neg hk, if_neg h3]

set_option maxHeartbeats 3200000 in
theorem cmdCheck_any (k c s q u ok : Int) (a b : ByteArray) (n : Int) (w : World) (hq : FitsC q) (ha : ShortC a) (hb : ShortC b) :
    Calls Tryd.prog 26 #[.agg #[.int .i64 k, .int .i64 c, .int .i64 s, .int .i64 q, .int .i64 u, .int .i64 ok, .string a, .string b, .int .i64 n]] w fun e w' => e = .returned (.int .i64 (cmdE k c s q u ok a b n)) ∧ Below w.heap.size w w' := by
  have HB := chid (cbox w k c s q u ok a b n)
  by_cases h1 : 1 ≤ k ∧ k ≤ 3
  · by_cases h2 : 1 ≤ c ∧ c ≤ 9
    · by_cases hk : k = 2
      · subst hk
        obtain ⟨r, hr, CC⟩ : ∃ r, cmdE 2 c s q u ok a b n = r ∧ Hid (∀ w : World, Calls Tryd.prog 38 #[.agg #[.int .i64 2, .int .i64 c, .int .i64 s, .int .i64 q, .int .i64 u, .int .i64 ok, .string a, .string b, .int .i64 n]] w fun e w' => e = .returned (.int .i64 r) ∧ Below w.heap.size w w') := by
          by_cases hc : callR s q u
          · exact ⟨_, cmdE_callYes h2 hc, fun w => checkCall_yes 2 c s q u ok a b n w ha hb hc⟩
          · exact ⟨_, cmdE_callNo h2 hc, fun w => checkCall_no 2 c s q u ok a b n w hq hc⟩
        rw [hr]
        clear hr ha hb hq
        go_enter Tryd.func26, Tryd.ntmps26
        go_wp2_with fail
        refine (within_yes 2 1 3 _ h1).mono ?_
        rintro e w1 ⟨rfl, rfl⟩
        go_wp2_with fail
        refine (within_yes c 1 9 _ h2).mono ?_
        rintro e w1 ⟨rfl, rfl⟩
        go_wp2_with fail
        refine (CC.out _).mono ?_
        rintro e w2 ⟨rfl, hb2⟩
        have HB2 := chid (HB.out.trans (hb2.mono (by simp)))
        clear hb2
        go_wp2
        go_ret
        exact ⟨rfl, HB2.out⟩
      · have hk2 : (k == 2) = false := by simpa using hk
        have hgd : Tryd.prog.eqGuardType Tryd.prog.depth 45 = false := by kernel_rfl
        by_cases h3 : s = 0 ∧ q = 0 ∧ u = 0 ∧ ok = 0 ∧ a.size = 0 ∧ b.size = 0 ∧ n = 0
        · rw [cmdE_restYes h1 h2 hk h3]
          have he := fun w => cmd_empty k c s q u ok n a b h3 w
          clear h3 ha hb hq
          go_enter Tryd.func26, Tryd.ntmps26
          go_wp2_with fail
          refine (within_yes k 1 3 _ h1).mono ?_
          rintro e w1 ⟨rfl, rfl⟩
          go_wp2_with fail
          refine (within_yes c 1 9 _ h2).mono ?_
          rintro e w1 ⟨rfl, rfl⟩
          go_wp2
          go_ret
          exact ⟨rfl, HB.out⟩
        · rw [cmdE_restNo h1 h2 hk h3]
          have he := fun w => cmd_filled k c s q u ok n a b h3 w
          clear h3 ha hb hq
          go_enter Tryd.func26, Tryd.ntmps26
          go_wp2_with fail
          refine (within_yes k 1 3 _ h1).mono ?_
          rintro e w1 ⟨rfl, rfl⟩
          go_wp2_with fail
          refine (within_yes c 1 9 _ h2).mono ?_
          rintro e w1 ⟨rfl, rfl⟩
          go_wp2
          go_ret
          exact ⟨rfl, HB.out⟩
    · rw [cmdE_client h1 h2]
      go_enter Tryd.func26, Tryd.ntmps26
      go_wp2_with fail
      refine (within_yes k 1 3 _ h1).mono ?_
      rintro e w1 ⟨rfl, rfl⟩
      go_wp2_with fail
      refine (within_no c 1 9 _ h2).mono ?_
      rintro e w1 ⟨rfl, rfl⟩
      go_wp2
      go_ret
      exact ⟨rfl, HB.out⟩
  · rw [cmdE_kind h1]
    go_enter Tryd.func26, Tryd.ntmps26
    go_wp2_with fail
    refine (within_no k 1 3 _ h1).mono ?_
    rintro e w1 ⟨rfl, rfl⟩
    go_wp2
    go_ret
    exact ⟨rfl, HB.out⟩

end Go.Proofs.YtcjoekjjebcomalDoor

namespace Go.Proofs.YtcjoekjjebcomalDoor

open Go.RowKit Go.Shelf

def buildRen : Go.Shelf.Ren := ⟨fun | 166 => 43 | 240 => 49 | 276 => 55 | 169 => 45 | n => n,
  fun | 0 => 0 | 3 => 3 | 4 => 4 | 5 => 5 | 9 => 9 | 20 => 20 | 37 => 71 | 70 => 85 | 72 => 87 | 75 => 90 | 80 => 94 | 127 => 100 | 164 => 109 | n => n, fun | n => n⟩

theorem buildLays166 : Go.Proofs.Lays.n166 Tryd.prog buildRen := {
  mixed := by kernel_rfl
  f166 := Tryd.func43.trans (congrArg some (by kernel_rfl))
  f240 := Tryd.func49.trans (congrArg some (by kernel_rfl))
  f276 := Tryd.func55.trans (congrArg some (by kernel_rfl))
  t0 := Tryd.underlying0
  a0 := Tryd.isAgg0
  z0 := Tryd.sizeOf0
  v0 := Tryd.zeroValue0
  t3 := Tryd.underlying3
  a3 := Tryd.isAgg3
  z3 := Tryd.sizeOf3
  v3 := Tryd.zeroValue3
  t4 := Tryd.underlying4
  a4 := Tryd.isAgg4
  z4 := Tryd.sizeOf4
  v4 := Tryd.zeroValue4
  t9 := Tryd.underlying9
  a9 := Tryd.isAgg9
  z9 := Tryd.sizeOf9
  v9 := Tryd.zeroValue9
  t20 := Tryd.underlying20
  a20 := Tryd.isAgg20
  z20 := Tryd.sizeOf20
  v20 := Tryd.zeroValue20
  t37 := Tryd.underlying71
  a37 := Tryd.isAgg71
  z37 := Tryd.sizeOf71
  v37 := Tryd.zeroValue71
  t70 := Tryd.underlying85
  a70 := Tryd.isAgg85
  z70 := Tryd.sizeOf85
  v70 := Tryd.zeroValue85
  t72 := Tryd.underlying87
  a72 := Tryd.isAgg87
  z72 := Tryd.sizeOf87
  v72 := Tryd.zeroValue87
  t75 := Tryd.underlying90
  a75 := Tryd.isAgg90
  z75 := Tryd.sizeOf90
  v75 := Tryd.zeroValue90
  t164 := Tryd.underlying109
  a164 := Tryd.isAgg109
  z164 := Tryd.sizeOf109
  v164 := Tryd.zeroValue109 }

theorem buildLays169 : Go.Proofs.Lays.n169 Tryd.prog buildRen := {
  mixed := by kernel_rfl
  f169 := Tryd.func45.trans (congrArg some (by kernel_rfl))
  t0 := Tryd.underlying0
  a0 := Tryd.isAgg0
  z0 := Tryd.sizeOf0
  v0 := Tryd.zeroValue0
  t3 := Tryd.underlying3
  a3 := Tryd.isAgg3
  z3 := Tryd.sizeOf3
  v3 := Tryd.zeroValue3
  t9 := Tryd.underlying9
  a9 := Tryd.isAgg9
  z9 := Tryd.sizeOf9
  v9 := Tryd.zeroValue9
  t37 := Tryd.underlying71
  a37 := Tryd.isAgg71
  z37 := Tryd.sizeOf71
  v37 := Tryd.zeroValue71
  t70 := Tryd.underlying85
  a70 := Tryd.isAgg85
  z70 := Tryd.sizeOf85
  v70 := Tryd.zeroValue85
  t72 := Tryd.underlying87
  a72 := Tryd.isAgg87
  z72 := Tryd.sizeOf87
  v72 := Tryd.zeroValue87
  t127 := Tryd.underlying100
  a127 := Tryd.isAgg100
  z127 := Tryd.sizeOf100
  v127 := Tryd.zeroValue100 }

theorem buildExtra : Go.Proofs.Builder.Extra Tryd.prog buildRen where
  sizeBuilder := by kernel_rfl
  liesBuilder := by kernel_rfl
  t5 := Tryd.underlying5
  a5 := Tryd.isAgg5
  z5 := Tryd.sizeOf5
  v5 := Tryd.zeroValue5
  infoByte := by kernel_rfl
  cellsByte := by kernel_rfl
  sizeByte := by kernel_rfl
  neB5 := by decide

/-- The builder at block b has these bytes. -/
def BuiltB (B b : Nat) (l : List UInt8) (w : World) : Prop := Lib.IsBuilderF 87 5 B b (Lib.byteCells l) w

theorem writeString_any (B b : Nat) (l : List UInt8) (s : ByteArray) (w : World) (h : BuiltB B b l w) (hlen : l.length + s.size ≤ 140737488355328) (hBw : B ≤ w.heap.size) :
    Calls Tryd.prog 43 #[.pointer (some ⟨b, 0, none⟩), .string s] w fun e w' => e = .returned (.tuple #[.int .i64 s.size, .nilIface]) ∧ BuiltB B b (l ++ s.data.toList) w' ∧ Below B w w' ∧ Lib.OthersKept 5 (some b) w w' := by
  refine (Any.Builder_WriteString_k buildLays166 buildExtra B b (Lib.byteCells l) s w h (by rw [Lib.byteCells_length]; exact hlen) hBw).mono ?_
  rintro e w' ⟨he, h1, h2, h3⟩
  refine ⟨he, ?_, h2, h3⟩
  unfold BuiltB
  rw [Lib.byteCells_append]
  exact Or.inr h1

theorem buildString_any (B b : Nat) (l : List UInt8) (w : World) (h : BuiltB B b l w) (hBw : B ≤ w.heap.size) :
    Calls Tryd.prog 45 #[.pointer (some ⟨b, 0, none⟩)] w fun e w' => e = .returned (.string ⟨l.toArray⟩) ∧ Below B w w' := by
  refine (Any.Builder_String_any_k buildLays169 buildExtra B b l w h hBw).mono ?_
  rintro e w' ⟨he, -, h2, -⟩
  exact ⟨he, h2⟩

end Go.Proofs.YtcjoekjjebcomalDoor
