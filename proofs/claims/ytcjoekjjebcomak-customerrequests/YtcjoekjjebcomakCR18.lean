/- command.Check and checkCall: what is wrong with a command first (joined by program) -/
import Derived.Test.YtcjoekjjebcomakCR11
import Derived.Test.YtcjoekjjebcomakCR17
namespace Go.Proofs.Ytcjoekjjebcomak

open Go.RowKit

/-- The limits of a Call's numbers. -/
def callR (s q u : Int) : Prop := (1 ≤ s ∧ s ≤ 1073741824) ∧ (1 ≤ q ∧ q ≤ 1048576) ∧ (0 ≤ u ∧ u ≤ q - 1)

/-- The cells of a command, boxed. -/
theorem cbox (w : World) (k c s q u ok : Int) (a b : ByteArray) (n : Int) : Below w.heap.size w (w.alloc (.cells #[.int .i64 k, .int .i64 c, .int .i64 s, .int .i64 q, .int .i64 u, .int .i64 ok, .string a, .string b, .int .i64 n] 50)) :=
  (Below.refl _ _).alloc (Nat.le_refl _) _

set_option maxHeartbeats 1600000 in
theorem checkCall_no (k c s q u ok : Int) (a b : ByteArray) (n : Int) (w : World) (hq : FitsC q) (h : ¬ callR s q u) :
    Calls Try.prog 45 #[.agg #[.int .i64 k, .int .i64 c, .int .i64 s, .int .i64 q, .int .i64 u, .int .i64 ok, .string a, .string b, .int .i64 n]] w fun e w' => e = .returned (.int .i64 2) ∧ Below w.heap.size w w' := by
  have HB := chid (cbox w k c s q u ok a b n)
  obtain ⟨hq1, hq2⟩ := hq
  by_cases h1 : 1 ≤ s ∧ s ≤ 1073741824
  · by_cases h2 : 1 ≤ q ∧ q ≤ 1048576
    · have h3 : ¬ (0 ≤ u ∧ u ≤ q - 1) := fun h3 => h ⟨h1, h2, h3⟩
      have hw : IntKind.i64.wrap (q - 1) = q - 1 := by rw [IntKind.wrap_i64]; omega
      clear h
      go_enter Try.func45, Try.ntmps45
      go_wp2_with fail
      refine (within_yes s 1 1073741824 _ h1).mono ?_
      rintro e w1 ⟨rfl, rfl⟩
      go_wp2_with fail
      refine (within_yes q 1 1048576 _ h2).mono ?_
      rintro e w1 ⟨rfl, rfl⟩
      go_wp2_with fail
      refine (within_no u 0 (q - 1) _ h3).mono ?_
      rintro e w1 ⟨rfl, rfl⟩
      go_wp2
      go_ret
      exact ⟨rfl, HB.out⟩
    · clear h
      go_enter Try.func45, Try.ntmps45
      go_wp2_with fail
      refine (within_yes s 1 1073741824 _ h1).mono ?_
      rintro e w1 ⟨rfl, rfl⟩
      go_wp2_with fail
      refine (within_no q 1 1048576 _ h2).mono ?_
      rintro e w1 ⟨rfl, rfl⟩
      go_wp2
      go_ret
      exact ⟨rfl, HB.out⟩
  · clear h
    go_enter Try.func45, Try.ntmps45
    go_wp2_with fail
    refine (within_no s 1 1073741824 _ h1).mono ?_
    rintro e w1 ⟨rfl, rfl⟩
    go_wp2
    go_ret
    exact ⟨rfl, HB.out⟩

set_option maxHeartbeats 1600000 in
theorem checkCall_yes (k c s q u ok : Int) (a b : ByteArray) (n : Int) (w : World) (ha : ShortC a) (hb : ShortC b) (h : callR s q u) :
    Calls Try.prog 45 #[.agg #[.int .i64 k, .int .i64 c, .int .i64 s, .int .i64 q, .int .i64 u, .int .i64 ok, .string a, .string b, .int .i64 n]] w fun e w' => e = .returned (.int .i64 (opE ok a b n)) ∧ Below w.heap.size w w' := by
  have HB := chid (cbox w k c s q u ok a b n)
  obtain ⟨h1, h2, h3⟩ := h
  have hw : IntKind.i64.wrap (q - 1) = q - 1 := by rw [IntKind.wrap_i64]; omega
  have CO := chid (fun w => checkOp_any ok a b n w ha hb)
  obtain ⟨r, hr⟩ : ∃ r, r = opE ok a b n := ⟨_, rfl⟩
  rw [← hr] at CO ⊢
  clear hr ha hb
  go_enter Try.func45, Try.ntmps45
  go_wp2_with fail
  refine (within_yes s 1 1073741824 _ h1).mono ?_
  rintro e w1 ⟨rfl, rfl⟩
  go_wp2_with fail
  refine (within_yes q 1 1048576 _ h2).mono ?_
  rintro e w1 ⟨rfl, rfl⟩
  go_wp2_with fail
  refine (within_yes u 0 (q - 1) _ h3).mono ?_
  rintro e w1 ⟨rfl, rfl⟩
  go_wp2_with fail
  refine (CO.out _).mono ?_
  rintro e w2 ⟨rfl, hb2⟩
  have HB2 := chid (HB.out.trans (hb2.mono (by simp)))
  clear hb2
  go_wp2
  go_ret
  exact ⟨rfl, HB2.out⟩

theorem cmdE_kind {k c s q u ok : Int} {a b : ByteArray} {n : Int} (h : ¬ (1 ≤ k ∧ k ≤ 3)) : cmdE k c s q u ok a b n = 3 := if_pos h

theorem cmdE_client {k c s q u ok : Int} {a b : ByteArray} {n : Int} (h : 1 ≤ k ∧ k ≤ 3) (h2 : ¬ (1 ≤ c ∧ c ≤ 9)) : cmdE k c s q u ok a b n = 2 := by unfold cmdE; rw [if_neg (by omega), if_pos h2]

theorem cmdE_callNo {c s q u ok : Int} {a b : ByteArray} {n : Int} (h2 : 1 ≤ c ∧ c ≤ 9) (h : ¬ callR s q u) : cmdE 2 c s q u ok a b n = 2 := by unfold callR at h; unfold cmdE; rw [if_neg (by omega), if_neg (by omega), if_pos rfl, if_neg h]

theorem cmdE_callYes {c s q u ok : Int} {a b : ByteArray} {n : Int} (h2 : 1 ≤ c ∧ c ≤ 9) (h : callR s q u) : cmdE 2 c s q u ok a b n = opE ok a b n := by unfold callR at h; unfold cmdE; rw [if_neg (by omega), if_neg (by omega), if_pos rfl, if_pos h]

theorem cmdE_restYes {k c s q u ok : Int} {a b : ByteArray} {n : Int} (h : 1 ≤ k ∧ k ≤ 3) (h2 : 1 ≤ c ∧ c ≤ 9) (hk : k ≠ 2) (h3 : s = 0 ∧ q = 0 ∧ u = 0 ∧ ok = 0 ∧ a.size = 0 ∧ b.size = 0 ∧ n = 0) : cmdE k c s q u ok a b n = 0 := by unfold cmdE; rw [if_neg (by omega), if_neg (by omega), if_neg hk, if_pos h3]

theorem cmdE_restNo {k c s q u ok : Int} {a b : ByteArray} {n : Int} (h : 1 ≤ k ∧ k ≤ 3) (h2 : 1 ≤ c ∧ c ≤ 9) (hk : k ≠ 2) (h3 : ¬ (s = 0 ∧ q = 0 ∧ u = 0 ∧ ok = 0 ∧ a.size = 0 ∧ b.size = 0 ∧ n = 0)) : cmdE k c s q u ok a b n = 4 := by unfold cmdE; rw [if_neg (by omega), if_neg (by omega), if_neg hk, if_neg h3]

set_option maxHeartbeats 3200000 in
theorem cmdCheck_any (k c s q u ok : Int) (a b : ByteArray) (n : Int) (w : World) (hq : FitsC q) (ha : ShortC a) (hb : ShortC b) :
    Calls Try.prog 36 #[.agg #[.int .i64 k, .int .i64 c, .int .i64 s, .int .i64 q, .int .i64 u, .int .i64 ok, .string a, .string b, .int .i64 n]] w fun e w' => e = .returned (.int .i64 (cmdE k c s q u ok a b n)) ∧ Below w.heap.size w w' := by
  have HB := chid (cbox w k c s q u ok a b n)
  by_cases h1 : 1 ≤ k ∧ k ≤ 3
  · by_cases h2 : 1 ≤ c ∧ c ≤ 9
    · by_cases hk : k = 2
      · subst hk
        obtain ⟨r, hr, CC⟩ : ∃ r, cmdE 2 c s q u ok a b n = r ∧ Hid (∀ w : World, Calls Try.prog 45 #[.agg #[.int .i64 2, .int .i64 c, .int .i64 s, .int .i64 q, .int .i64 u, .int .i64 ok, .string a, .string b, .int .i64 n]] w fun e w' => e = .returned (.int .i64 r) ∧ Below w.heap.size w w') := by
          by_cases hc : callR s q u
          · exact ⟨_, cmdE_callYes h2 hc, fun w => checkCall_yes 2 c s q u ok a b n w ha hb hc⟩
          · exact ⟨_, cmdE_callNo h2 hc, fun w => checkCall_no 2 c s q u ok a b n w hq hc⟩
        rw [hr]
        clear hr ha hb hq
        go_enter Try.func36, Try.ntmps36
        go_wp2_with fail
        refine (within_yes 2 1 3 _ h1).mono ?_
        rintro e w1 ⟨rfl, rfl⟩
        go_wp2_with fail
        refine (within_yes c 1 9 _ h2).mono ?_
        rintro e w1 ⟨rfl, rfl⟩
        go_wp2_with fail
        refine (CC.out _).mono ?_
        rintro e w2 ⟨rfl, hb2⟩
        have HB2 := chid (HB.out.trans (hb2.mono (by simp)))
        clear hb2
        go_wp2
        go_ret
        exact ⟨rfl, HB2.out⟩
      · have hk2 : (k == 2) = false := by simpa using hk
        have hgd : Try.prog.eqGuardType Try.prog.depth 50 = false := by kernel_rfl
        by_cases h3 : s = 0 ∧ q = 0 ∧ u = 0 ∧ ok = 0 ∧ a.size = 0 ∧ b.size = 0 ∧ n = 0
        · rw [cmdE_restYes h1 h2 hk h3]
          have he := fun w => cmd_empty k c s q u ok n a b h3 w
          clear h3 ha hb hq
          go_enter Try.func36, Try.ntmps36
          go_wp2_with fail
          refine (within_yes k 1 3 _ h1).mono ?_
          rintro e w1 ⟨rfl, rfl⟩
          go_wp2_with fail
          refine (within_yes c 1 9 _ h2).mono ?_
          rintro e w1 ⟨rfl, rfl⟩
          go_wp2
          go_ret
          exact ⟨rfl, HB.out⟩
        · rw [cmdE_restNo h1 h2 hk h3]
          have he := fun w => cmd_filled k c s q u ok n a b h3 w
          clear h3 ha hb hq
          go_enter Try.func36, Try.ntmps36
          go_wp2_with fail
          refine (within_yes k 1 3 _ h1).mono ?_
          rintro e w1 ⟨rfl, rfl⟩
          go_wp2_with fail
          refine (within_yes c 1 9 _ h2).mono ?_
          rintro e w1 ⟨rfl, rfl⟩
          go_wp2
          go_ret
          exact ⟨rfl, HB.out⟩
    · rw [cmdE_client h1 h2]
      go_enter Try.func36, Try.ntmps36
      go_wp2_with fail
      refine (within_yes k 1 3 _ h1).mono ?_
      rintro e w1 ⟨rfl, rfl⟩
      go_wp2_with fail
      refine (within_no c 1 9 _ h2).mono ?_
      rintro e w1 ⟨rfl, rfl⟩
      go_wp2
      go_ret
      exact ⟨rfl, HB.out⟩
  · rw [cmdE_kind h1]
    go_enter Try.func36, Try.ntmps36
    go_wp2_with fail
    refine (within_no k 1 3 _ h1).mono ?_
    rintro e w1 ⟨rfl, rfl⟩
    go_wp2
    go_ret
    exact ⟨rfl, HB.out⟩

end Go.Proofs.Ytcjoekjjebcomak
