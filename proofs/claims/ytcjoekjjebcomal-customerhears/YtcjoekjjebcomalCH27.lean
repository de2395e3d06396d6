/- The document's OpFault and CommandFault: what is wrong with an operation, or a command, first (joined by program) -/
import Derived.Laws.StructEq
import Derived.Test.YtcjoekjjebcomalCH12
import Derived.Test.YtcjoekjjebcomalCH09
import Derived.Test.YtcjoekjjebcomalCH01
namespace Go.Proofs.Ytcjoekjjebcomal

open Go.RowKit

set_option maxHeartbeats 1600000 in
theorem opFault_any (k : Int) (a b : ByteArray) (n : Int) (w : World) (ha : ShortC a) (hb : ShortC b) :
    Calls Try.prog 20 #[.agg #[.int .i64 k, .string a, .string b, .int .i64 n]] w fun e w' => e = .returned (.int .i64 (opE k a b n)) ∧ Below w.heap.size w w' := by
  have hbx := (Below.refl w.heap.size w).alloc (Nat.le_refl _) (.cells #[.int .i64 k, .string a, .string b, .int .i64 n] 40)
  have HB := chid hbx
  clear hbx
  unfold ShortC at ha hb
  by_cases h1 : 1 ≤ k ∧ k ≤ 6
  · have CI := chid (fun w => in_yes k 1 6 w h1.1 h1.2)
    cases hna : nameB a with
    | false =>
      rw [opE_name h1 hna]
      have CN := fun w => nameMay_no a w (by omega) hna
      go_enter Try.func20, Try.ntmps20
      go_wp2_with fail
      refine (CI.out _).mono ?_
      rintro e w1 ⟨rfl, rfl⟩
      go_wp2_with fail
      refine (CN _).mono ?_
      rintro e w1 ⟨rfl, rfl⟩
      go_wp2
      go_ret
      exact ⟨rfl, HB.out⟩
    | true =>
      have CN := fun w => nameMay_yes a w hna
      by_cases h5 : k = 5
      · rw [opE_past h1 hna (.inl h5)]
        subst h5
        by_cases h12 : 12 < b.size
        · rw [if_pos h12]
          have hbn := str_ne (b := b) (by omega)
          go_enter Try.func20, Try.ntmps20
          go_wp2_with fail
          refine (CI.out _).mono ?_
          rintro e w1 ⟨rfl, rfl⟩
          go_wp2_with fail
          refine (CN _).mono ?_
          rintro e w1 ⟨rfl, rfl⟩
          go_wp2
          go_ret
          exact ⟨rfl, HB.out⟩
        · rw [if_neg h12, if_pos rfl]
          obtain ⟨bb, hbn⟩ : ∃ bb, b.toList.isEmpty = bb := ⟨_, rfl⟩
          by_cases hn : 1 ≤ n ∧ n ≤ 1073741824
          · rw [if_pos hn]
            have CJ := chid (fun w => in_yes n 1 1073741824 w hn.1 hn.2)
            cases bb
            all_goals
              go_enter Try.func20, Try.ntmps20
              go_wp2_with fail
              refine (CI.out _).mono ?_
              rintro e w1 ⟨rfl, rfl⟩
              go_wp2_with fail
              refine (CN _).mono ?_
              rintro e w1 ⟨rfl, rfl⟩
              go_wp2_with fail
              refine (CJ.out _).mono ?_
              rintro e w1 ⟨rfl, rfl⟩
              go_wp2
              go_ret
              exact ⟨rfl, HB.out⟩
          · rw [if_neg hn]
            have CJ := chid (fun w => in_not n 1 1073741824 w hn)
            cases bb
            all_goals
              go_enter Try.func20, Try.ntmps20
              go_wp2_with fail
              refine (CI.out _).mono ?_
              rintro e w1 ⟨rfl, rfl⟩
              go_wp2_with fail
              refine (CN _).mono ?_
              rintro e w1 ⟨rfl, rfl⟩
              go_wp2_with fail
              refine (CJ.out _).mono ?_
              rintro e w1 ⟨rfl, rfl⟩
              go_wp2
              go_ret
              exact ⟨rfl, HB.out⟩
      · have h5b : (k == 5) = false := by simpa using h5
        by_cases hb0 : b.size = 0
        · rw [opE_past h1 hna (.inr hb0), if_neg (by omega), if_neg h5]
          obtain rfl := size_zero hb0
          by_cases hn : n = 0
          · subst hn
            rw [if_pos rfl]
            go_enter Try.func20, Try.ntmps20
            go_wp2_with fail
            refine (CI.out _).mono ?_
            rintro e w1 ⟨rfl, rfl⟩
            go_wp2_with fail
            refine (CN _).mono ?_
            rintro e w1 ⟨rfl, rfl⟩
            go_wp2
            go_ret
            exact ⟨rfl, HB.out⟩
          · rw [if_neg hn]
            have hn0 : (n == 0) = false := by simpa using hn
            go_enter Try.func20, Try.ntmps20
            go_wp2_with fail
            refine (CI.out _).mono ?_
            rintro e w1 ⟨rfl, rfl⟩
            go_wp2_with fail
            refine (CN _).mono ?_
            rintro e w1 ⟨rfl, rfl⟩
            go_wp2
            go_ret
            exact ⟨rfl, HB.out⟩
        · rw [opE_b h1 h5 hb0]
          have hbn := str_ne hb0
          go_enter Try.func20, Try.ntmps20
          go_wp2_with fail
          refine (CI.out _).mono ?_
          rintro e w1 ⟨rfl, rfl⟩
          go_wp2_with fail
          refine (CN _).mono ?_
          rintro e w1 ⟨rfl, rfl⟩
          go_wp2
          go_ret
          exact ⟨rfl, HB.out⟩
  · rw [opE_kind h1]
    go_enter Try.func20, Try.ntmps20
    go_wp2_with fail
    refine (in_not k 1 6 _ h1).mono ?_
    rintro e w1 ⟨rfl, rfl⟩
    go_wp2
    go_ret
    exact ⟨rfl, HB.out⟩

end Go.Proofs.Ytcjoekjjebcomal
