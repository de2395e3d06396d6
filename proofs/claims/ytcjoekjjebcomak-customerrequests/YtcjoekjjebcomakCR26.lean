/- The document's OpFault and CommandFault: what is wrong with an operation, or a command, first (joined by program) -/
import Derived.Test.YtcjoekjjebcomakCR18
namespace Go.Proofs.Ytcjoekjjebcomak

open Go.RowKit

set_option maxHeartbeats 1600000 in
theorem opFault_any (k : Int) (a b : ByteArray) (n : Int) (w : World) (ha : ShortC a) (hb : ShortC b) :
    Calls Try.prog 26 #[.agg #[.int .i64 k, .string a, .string b, .int .i64 n]] w fun e w' => e = .returned (.int .i64 (opE k a b n)) ∧ Below w.heap.size w w' := by
  have hbx := (Below.refl w.heap.size w).alloc (Nat.le_refl _) (.cells #[.int .i64 k, .string a, .string b, .int .i64 n] 34)
  have HB := chid hbx
  clear hbx
  unfold ShortC at ha hb
  by_cases h1 : 1 ≤ k ∧ k ≤ 6
  · have CI := chid (fun w => in_yes k 1 6 w h1.1 h1.2)
    cases hna : nameB a with
    | false =>
      rw [opE_name h1 hna]
      have CN := fun w => nameMay_no a w (by omega) hna
      go_enter Try.func26, Try.ntmps26
      go_wp2_with fail
      refine (CI.out _).mono ?_
      rintro e w1 ⟨rfl, rfl⟩
      go_wp2_with fail
      refine (CN _).mono ?_
      rintro e w1 ⟨rfl, rfl⟩
      go_wp2
      go_ret
      exact ⟨rfl, HB.out⟩
    | true =>
      have CN := fun w => nameMay_yes a w hna
      by_cases h5 : k = 5
      · rw [opE_past h1 hna (.inl h5)]
        subst h5
        by_cases h12 : 12 < b.size
        · rw [if_pos h12]
          have hbn := str_ne (b := b) (by omega)
          go_enter Try.func26, Try.ntmps26
          go_wp2_with fail
          refine (CI.out _).mono ?_
          rintro e w1 ⟨rfl, rfl⟩
          go_wp2_with fail
          refine (CN _).mono ?_
          rintro e w1 ⟨rfl, rfl⟩
          go_wp2
          go_ret
          exact ⟨rfl, HB.out⟩
        · rw [if_neg h12, if_pos rfl]
          obtain ⟨bb, hbn⟩ : ∃ bb, b.toList.isEmpty = bb := ⟨_, rfl⟩
          by_cases hn : 1 ≤ n ∧ n ≤ 1073741824
          · rw [if_pos hn]
            have CJ := chid (fun w => in_yes n 1 1073741824 w hn.1 hn.2)
            cases bb
            all_goals
              go_enter Try.func26, Try.ntmps26
              go_wp2_with fail
              refine (CI.out _).mono ?_
              rintro e w1 ⟨rfl, rfl⟩
              go_wp2_with fail
              refine (CN _).mono ?_
              rintro e w1 ⟨rfl, rfl⟩
              go_wp2_with fail
              refine (CJ.out _).mono ?_
              rintro e w1 ⟨rfl, rfl⟩
              go_wp2
              go_ret
              exact ⟨rfl, HB.out⟩
          · rw [if_neg hn]
            have CJ := chid (fun w => in_not n 1 1073741824 w hn)
            cases bb
            all_goals
              go_enter Try.func26, Try.ntmps26
              go_wp2_with fail
              refine (CI.out _).mono ?_
              rintro e w1 ⟨rfl, rfl⟩
              go_wp2_with fail
              refine (CN _).mono ?_
              rintro e w1 ⟨rfl, rfl⟩
              go_wp2_with fail
              refine (CJ.out _).mono ?_
              rintro e w1 ⟨rfl, rfl⟩
              go_wp2
              go_ret
              exact ⟨rfl, HB.out⟩
      · have h5b : (k == 5) = false := by simpa using h5
        by_cases hb0 : b.size = 0
        · rw [opE_past h1 hna (.inr hb0), if_neg (by omega), if_neg h5]
          obtain rfl := size_zero hb0
          by_cases hn : n = 0
          · subst hn
            rw [if_pos rfl]
            go_enter Try.func26, Try.ntmps26
            go_wp2_with fail
            refine (CI.out _).mono ?_
            rintro e w1 ⟨rfl, rfl⟩
            go_wp2_with fail
            refine (CN _).mono ?_
            rintro e w1 ⟨rfl, rfl⟩
            go_wp2
            go_ret
            exact ⟨rfl, HB.out⟩
          · rw [if_neg hn]
            have hn0 : (n == 0) = false := by simpa using hn
            go_enter Try.func26, Try.ntmps26
            go_wp2_with fail
            refine (CI.out _).mono ?_
            rintro e w1 ⟨rfl, rfl⟩
            go_wp2_with fail
            refine (CN _).mono ?_
            rintro e w1 ⟨rfl, rfl⟩
            go_wp2
            go_ret
            exact ⟨rfl, HB.out⟩
        · rw [opE_b h1 h5 hb0]
          have hbn := str_ne hb0
          go_enter Try.func26, Try.ntmps26
          go_wp2_with fail
          refine (CI.out _).mono ?_
          rintro e w1 ⟨rfl, rfl⟩
          go_wp2_with fail
          refine (CN _).mono ?_
          rintro e w1 ⟨rfl, rfl⟩
          go_wp2
          go_ret
          exact ⟨rfl, HB.out⟩
  · rw [opE_kind h1]
    go_enter Try.func26, Try.ntmps26
    go_wp2_with fail
    refine (in_not k 1 6 _ h1).mono ?_
    rintro e w1 ⟨rfl, rfl⟩
    go_wp2
    go_ret
    exact ⟨rfl, HB.out⟩

set_option maxHeartbeats 3200000 in
theorem cmdFault_call (c s q u ok : Int) (a b : ByteArray) (n : Int) (w : World) (hq : FitsC q) (ha : ShortC a) (hb : ShortC b) (h2 : 1 ≤ c ∧ c ≤ 9) :
    Calls Try.prog 38 #[.agg #[.int .i64 2, .int .i64 c, .int .i64 s, .int .i64 q, .int .i64 u, .int .i64 ok, .string a, .string b, .int .i64 n]] w fun e w' => e = .returned (.int .i64 (cmdE 2 c s q u ok a b n)) ∧ Below w.heap.size w w' := by
  have HB := chid (cbox w 2 c s q u ok a b n)
  have CI := chid (fun w => in_yes 2 1 3 w (by omega) (by omega))
  have CJ := chid (fun w => in_yes c 1 9 w h2.1 h2.2)
  obtain ⟨hq1, hq2⟩ := hq
  by_cases hc : callR s q u
  · rw [cmdE_callYes h2 hc]
    have CO := chid (fun w => opFault_any ok a b n w ha hb)
    obtain ⟨r, hr⟩ : ∃ r, r = opE ok a b n := ⟨_, rfl⟩
    rw [← hr] at CO ⊢
    clear hr ha hb
    obtain ⟨h1, h3, h4⟩ := hc
    have hw : IntKind.i64.wrap (q - 1) = q - 1 := by rw [IntKind.wrap_i64]; omega
    go_enter Try.func38, Try.ntmps38
    go_wp2_with fail
    refine (CI.out _).mono ?_
    rintro e w1 ⟨rfl, rfl⟩
    go_wp2_with fail
    refine (CJ.out _).mono ?_
    rintro e w1 ⟨rfl, rfl⟩
    go_wp2_with fail
    refine (in_yes s 1 1073741824 _ h1.1 h1.2).mono ?_
    rintro e w1 ⟨rfl, rfl⟩
    go_wp2_with fail
    refine (in_yes q 1 1048576 _ h3.1 h3.2).mono ?_
    rintro e w1 ⟨rfl, rfl⟩
    go_wp2_with fail
    refine (in_yes u 0 (q - 1) _ h4.1 h4.2).mono ?_
    rintro e w1 ⟨rfl, rfl⟩
    go_wp2_with fail
    refine (CO.out _).mono ?_
    rintro e w2 ⟨rfl, hb2⟩
    have HB2 := chid (HB.out.trans (hb2.mono (by simp)))
    clear hb2
    go_wp2
    go_ret
    exact ⟨rfl, HB2.out⟩
  · rw [cmdE_callNo h2 hc]
    clear ha hb
    by_cases h1 : 1 ≤ s ∧ s ≤ 1073741824
    · by_cases h3 : 1 ≤ q ∧ q ≤ 1048576
      · have h4 : ¬ (0 ≤ u ∧ u ≤ q - 1) := fun h4 => hc ⟨h1, h3, h4⟩
        have hw : IntKind.i64.wrap (q - 1) = q - 1 := by rw [IntKind.wrap_i64]; omega
        clear hc
        go_enter Try.func38, Try.ntmps38
        go_wp2_with fail
        refine (CI.out _).mono ?_
        rintro e w1 ⟨rfl, rfl⟩
        go_wp2_with fail
        refine (CJ.out _).mono ?_
        rintro e w1 ⟨rfl, rfl⟩
        go_wp2_with fail
        refine (in_yes s 1 1073741824 _ h1.1 h1.2).mono ?_
        rintro e w1 ⟨rfl, rfl⟩
        go_wp2_with fail
        refine (in_yes q 1 1048576 _ h3.1 h3.2).mono ?_
        rintro e w1 ⟨rfl, rfl⟩
        go_wp2_with fail
        refine (in_not u 0 (q - 1) _ h4).mono ?_
        rintro e w1 ⟨rfl, rfl⟩
        go_wp2
        go_ret
        exact ⟨rfl, HB.out⟩
      · clear hc
        go_enter Try.func38, Try.ntmps38
        go_wp2_with fail
        refine (CI.out _).mono ?_
        rintro e w1 ⟨rfl, rfl⟩
        go_wp2_with fail
        refine (CJ.out _).mono ?_
        rintro e w1 ⟨rfl, rfl⟩
        go_wp2_with fail
        refine (in_yes s 1 1073741824 _ h1.1 h1.2).mono ?_
        rintro e w1 ⟨rfl, rfl⟩
        go_wp2_with fail
        refine (in_not q 1 1048576 _ h3).mono ?_
        rintro e w1 ⟨rfl, rfl⟩
        go_wp2
        go_ret
        exact ⟨rfl, HB.out⟩
    · clear hc
      go_enter Try.func38, Try.ntmps38
      go_wp2_with fail
      refine (CI.out _).mono ?_
      rintro e w1 ⟨rfl, rfl⟩
      go_wp2_with fail
      refine (CJ.out _).mono ?_
      rintro e w1 ⟨rfl, rfl⟩
      go_wp2_with fail
      refine (in_not s 1 1073741824 _ h1).mono ?_
      rintro e w1 ⟨rfl, rfl⟩
      go_wp2
      go_ret
      exact ⟨rfl, HB.out⟩

/-- Something else is not 0, or empty: the first such. -/
theorem first_filled {s q u ok n : Int} {a b : ByteArray} (h : ¬ (s = 0 ∧ q = 0 ∧ u = 0 ∧ ok = 0 ∧ a.size = 0 ∧ b.size = 0 ∧ n = 0)) :
    (s == 0) = false ∨ (s = 0 ∧ (q == 0) = false) ∨ (s = 0 ∧ q = 0 ∧ (u == 0) = false) ∨ (s = 0 ∧ q = 0 ∧ u = 0 ∧ (ok == 0) = false) ∨ (s = 0 ∧ q = 0 ∧ u = 0 ∧ ok = 0 ∧ a.toList.isEmpty = false) ∨
    (s = 0 ∧ q = 0 ∧ u = 0 ∧ ok = 0 ∧ a = ⟨#[]⟩ ∧ b.toList.isEmpty = false) ∨ (s = 0 ∧ q = 0 ∧ u = 0 ∧ ok = 0 ∧ a = ⟨#[]⟩ ∧ b = ⟨#[]⟩ ∧ (n == 0) = false) := by
  by_cases h1 : s = 0
  · by_cases h2 : q = 0
    · by_cases h3 : u = 0
      · by_cases h4 : ok = 0
        · by_cases h5 : a.size = 0
          · by_cases h6 : b.size = 0
            · have h7 : n ≠ 0 := fun h7 => h ⟨h1, h2, h3, h4, h5, h6, h7⟩
              exact .inr (.inr (.inr (.inr (.inr (.inr ⟨h1, h2, h3, h4, size_zero h5, size_zero h6, by simpa using h7⟩)))))
            · exact .inr (.inr (.inr (.inr (.inr (.inl ⟨h1, h2, h3, h4, size_zero h5, str_ne h6⟩)))))
          · exact .inr (.inr (.inr (.inr (.inl ⟨h1, h2, h3, h4, str_ne h5⟩))))
        · exact .inr (.inr (.inr (.inl ⟨h1, h2, h3, by simpa using h4⟩)))
      · exact .inr (.inr (.inl ⟨h1, h2, by simpa using h3⟩))
    · exact .inr (.inl ⟨h1, by simpa using h2⟩)
  · exact .inl (by simpa using h1)

set_option maxHeartbeats 6400000 in
theorem cmdFault_any (k c s q u ok : Int) (a b : ByteArray) (n : Int) (w : World) (hq : FitsC q) (ha : ShortC a) (hb : ShortC b) :
    Calls Try.prog 38 #[.agg #[.int .i64 k, .int .i64 c, .int .i64 s, .int .i64 q, .int .i64 u, .int .i64 ok, .string a, .string b, .int .i64 n]] w fun e w' => e = .returned (.int .i64 (cmdE k c s q u ok a b n)) ∧ Below w.heap.size w w' := by
  have HB := chid (cbox w k c s q u ok a b n)
  by_cases h1 : 1 ≤ k ∧ k ≤ 3
  · have CI := chid (fun w => in_yes k 1 3 w h1.1 h1.2)
    by_cases h2 : 1 ≤ c ∧ c ≤ 9
    · have CJ := chid (fun w => in_yes c 1 9 w h2.1 h2.2)
      by_cases hk : k = 2
      · subst hk
        exact cmdFault_call c s q u ok a b n w hq ha hb h2
      · have hk2 : (k == 2) = false := by simpa using hk
        by_cases h3 : s = 0 ∧ q = 0 ∧ u = 0 ∧ ok = 0 ∧ a.size = 0 ∧ b.size = 0 ∧ n = 0
        · rw [cmdE_restYes h1 h2 hk h3]
          obtain ⟨rfl, rfl, rfl, rfl, h5, h6, rfl⟩ := h3
          obtain rfl := size_zero h5
          obtain rfl := size_zero h6
          clear ha hb hq h5 h6
          go_enter Try.func38, Try.ntmps38
          go_wp2_with fail
          refine (CI.out _).mono ?_
          rintro e w1 ⟨rfl, rfl⟩
          go_wp2_with fail
          refine (CJ.out _).mono ?_
          rintro e w1 ⟨rfl, rfl⟩
          go_wp2
          go_ret
          exact ⟨rfl, HB.out⟩
        · rw [cmdE_restNo h1 h2 hk h3]
          have h4 := first_filled h3
          clear h3 ha hb hq
          rcases h4 with h4 | ⟨rfl, h4⟩ | ⟨rfl, rfl, h4⟩ | ⟨rfl, rfl, rfl, h4⟩ | ⟨rfl, rfl, rfl, rfl, h4⟩ | ⟨rfl, rfl, rfl, rfl, rfl, h4⟩ | ⟨rfl, rfl, rfl, rfl, rfl, rfl, h4⟩
          all_goals
            go_enter Try.func38, Try.ntmps38
            go_wp2_with fail
            refine (CI.out _).mono ?_
            rintro e w1 ⟨rfl, rfl⟩
            go_wp2_with fail
            refine (CJ.out _).mono ?_
            rintro e w1 ⟨rfl, rfl⟩
            go_wp2
            all_goals
              go_ret
              exact ⟨rfl, cbox _ _ _ _ _ _ _ _ _ _⟩
    · rw [cmdE_client h1 h2]
      go_enter Try.func38, Try.ntmps38
      go_wp2_with fail
      refine (CI.out _).mono ?_
      rintro e w1 ⟨rfl, rfl⟩
      go_wp2_with fail
      refine (in_not c 1 9 _ h2).mono ?_
      rintro e w1 ⟨rfl, rfl⟩
      go_wp2
      go_ret
      exact ⟨rfl, HB.out⟩
  · rw [cmdE_kind h1]
    go_enter Try.func38, Try.ntmps38
    go_wp2_with fail
    refine (in_not k 1 3 _ h1).mono ?_
    rintro e w1 ⟨rfl, rfl⟩
    go_wp2
    go_ret
    exact ⟨rfl, HB.out⟩

end Go.Proofs.Ytcjoekjjebcomak
