/- command.CheckOp and Check, the document's OpFault and CommandFault: what is wrong with an operation, or a command, first (joined by program) -/
import Derived.Deep.DeepCutAuto
import Derived.Laws.StructEq
import Derived.Test.YtcjoekjjebcomalCH09
import Derived.Test.YtcjoekjjebcomalCH01
import Derived.Test.YtcjoekjjebcomalCH11
namespace Go.Proofs.Ytcjoekjjebcomal

open Go.RowKit

theorem chid {p : Prop} (h : p) : Hid p := h

theorem within_yes (n a b : Int) (w : World) (h : a ≤ n ∧ n ≤ b) :
    Calls Try.prog 24 #[.int .i64 n, .int .i64 a, .int .i64 b] w fun e w' => e = .returned (.bool true) ∧ w' = w := by
  obtain ⟨h1, h2⟩ := h
  go_enter Try.func24, Try.ntmps24
  go_wp2
  go_ret
  exact ⟨rfl, rfl⟩

theorem within_no (n a b : Int) (w : World) (h : ¬ (a ≤ n ∧ n ≤ b)) :
    Calls Try.prog 24 #[.int .i64 n, .int .i64 a, .int .i64 b] w fun e w' => e = .returned (.bool false) ∧ w' = w := by
  by_cases h1 : a ≤ n
  · have h2 : ¬ n ≤ b := fun h2 => h ⟨h1, h2⟩
    clear h
    go_enter Try.func24, Try.ntmps24
    go_wp2
    go_ret
    exact ⟨rfl, rfl⟩
  · clear h
    go_enter Try.func24, Try.ntmps24
    go_wp2
    go_ret
    exact ⟨rfl, rfl⟩

theorem in_not (n a b : Int) (w : World) (h : ¬ (a ≤ n ∧ n ≤ b)) :
    Calls Try.prog 12 #[.int .i64 n, .int .i64 a, .int .i64 b] w fun e w' => e = .returned (.bool false) ∧ w' = w := by
  by_cases h1 : a ≤ n
  · exact in_high n a b w (by omega)
  · exact in_low n a b w (by omega)

theorem fenceFits_set (a b : ByteArray) (n : Int) (w : World) (h : 1 ≤ n ∧ n ≤ 1073741824) :
    Calls Try.prog 26 #[.agg #[.int .i64 5, .string a, .string b, .int .i64 n]] w fun e w' => e = .returned (.bool true) ∧ Below w.heap.size w w' := by
  have HB := chid ((Below.refl w.heap.size w).alloc (Nat.le_refl _) (.cells #[.int .i64 5, .string a, .string b, .int .i64 n] 40))
  go_enter Try.func26, Try.ntmps26
  go_wp2_with fail
  refine (within_yes n 1 1073741824 _ h).mono ?_
  rintro e w1 ⟨rfl, rfl⟩
  go_wp2
  go_ret
  exact ⟨rfl, HB.out⟩

theorem fenceFits_setNot (a b : ByteArray) (n : Int) (w : World) (h : ¬ (1 ≤ n ∧ n ≤ 1073741824)) :
    Calls Try.prog 26 #[.agg #[.int .i64 5, .string a, .string b, .int .i64 n]] w fun e w' => e = .returned (.bool false) ∧ Below w.heap.size w w' := by
  have HB := chid ((Below.refl w.heap.size w).alloc (Nat.le_refl _) (.cells #[.int .i64 5, .string a, .string b, .int .i64 n] 40))
  go_enter Try.func26, Try.ntmps26
  go_wp2_with fail
  refine (within_no n 1 1073741824 _ h).mono ?_
  rintro e w1 ⟨rfl, rfl⟩
  go_wp2
  go_ret
  exact ⟨rfl, HB.out⟩

theorem fenceFits_other (k : Int) (a b : ByteArray) (w : World) (h : k ≠ 5) :
    Calls Try.prog 26 #[.agg #[.int .i64 k, .string a, .string b, .int .i64 0]] w fun e w' => e = .returned (.bool true) ∧ Below w.heap.size w w' := by
  have HB := chid ((Below.refl w.heap.size w).alloc (Nat.le_refl _) (.cells #[.int .i64 k, .string a, .string b, .int .i64 0] 40))
  have h5 : (k == 5) = false := by simpa using h
  clear h
  go_enter Try.func26, Try.ntmps26
  go_wp2
  go_ret
  exact ⟨rfl, HB.out⟩

theorem fenceFits_otherNot (k : Int) (a b : ByteArray) (n : Int) (w : World) (h : k ≠ 5) (hn : n ≠ 0) :
    Calls Try.prog 26 #[.agg #[.int .i64 k, .string a, .string b, .int .i64 n]] w fun e w' => e = .returned (.bool false) ∧ Below w.heap.size w w' := by
  have HB := chid ((Below.refl w.heap.size w).alloc (Nat.le_refl _) (.cells #[.int .i64 k, .string a, .string b, .int .i64 n] 40))
  have h5 : (k == 5) = false := by simpa using h
  have h6 : (n == 0) = false := by simpa using hn
  clear h hn
  go_enter Try.func26, Try.ntmps26
  go_wp2
  go_ret
  exact ⟨rfl, HB.out⟩

theorem str_ne {b : ByteArray} (h : b.size ≠ 0) : b.toList.isEmpty = false := by
  rw [ByteArray.toList_eq]
  cases hb : b.data.toList with
  | nil =>
    have : b.data.toList.length = b.size := by simp
    rw [hb] at this
    exact absurd this.symm h
  | cons x t => rfl

/-- The kinds of wrong, one by one. -/
theorem opE_kind {k : Int} {a b : ByteArray} {n : Int} (h : ¬ (1 ≤ k ∧ k ≤ 6)) : opE k a b n = 3 := if_pos h

theorem opE_name {k : Int} {a b : ByteArray} {n : Int} (h : 1 ≤ k ∧ k ≤ 6) (h2 : nameB a = false) : opE k a b n = 4 := by unfold opE; rw [if_neg (by omega), if_pos (.inl h2)]

theorem opE_b {k : Int} {a b : ByteArray} {n : Int} (h : 1 ≤ k ∧ k ≤ 6) (h2 : k ≠ 5) (h3 : b.size ≠ 0) : opE k a b n = 4 := by unfold opE; rw [if_neg (by omega), if_pos (.inr ⟨h2, h3⟩)]

theorem opE_past {k : Int} {a b : ByteArray} {n : Int} (h : 1 ≤ k ∧ k ≤ 6) (h2 : nameB a = true) (h3 : k = 5 ∨ b.size = 0) :
    opE k a b n = if 12 < b.size then 1 else if k = 5 then (if 1 ≤ n ∧ n ≤ 1073741824 then 0 else 2) else if n = 0 then 0 else 2 := by
  unfold opE
  rw [if_neg (by omega), if_neg]
  rintro (h4 | ⟨h4, h5⟩)
  · rw [h2] at h4; cases h4
  · rcases h3 with h3 | h3
    · exact h4 h3
    · exact h5 h3

set_option maxHeartbeats 1600000 in
theorem checkOp_any (k : Int) (a b : ByteArray) (n : Int) (w : World) (ha : ShortC a) (hb : ShortC b) :
    Calls Try.prog 21 #[.agg #[.int .i64 k, .string a, .string b, .int .i64 n]] w fun e w' => e = .returned (.int .i64 (opE k a b n)) ∧ Below w.heap.size w w' := by
  have hbx := (Below.refl w.heap.size w).alloc (Nat.le_refl _) (.cells #[.int .i64 k, .string a, .string b, .int .i64 n] 40)
  have HB := chid hbx
  clear hbx
  unfold ShortC at ha hb
  by_cases h1 : 1 ≤ k ∧ k ≤ 6
  · cases hna : nameB a with
    | false =>
      rw [opE_name h1 hna]
      have CN := fun w => name_no a w (by omega) hna
      go_enter Try.func21, Try.ntmps21
      go_wp2_with fail
      refine (within_yes k 1 6 _ h1).mono ?_
      rintro e w1 ⟨rfl, rfl⟩
      go_wp2_with fail
      refine (CN _).mono ?_
      rintro e w1 ⟨rfl, rfl⟩
      go_wp2
      go_ret
      exact ⟨rfl, HB.out⟩
    | true =>
      have CN := fun w => name_yes a w hna
      by_cases h5 : k = 5
      · rw [opE_past h1 hna (.inl h5)]
        subst h5
        by_cases h12 : 12 < b.size
        · rw [if_pos h12]
          go_enter Try.func21, Try.ntmps21
          go_wp2_with fail
          refine (within_yes 5 1 6 _ h1).mono ?_
          rintro e w1 ⟨rfl, rfl⟩
          go_wp2_with fail
          refine (CN _).mono ?_
          rintro e w1 ⟨rfl, rfl⟩
          go_wp2
          go_ret
          exact ⟨rfl, HB.out⟩
        · rw [if_neg h12, if_pos rfl]
          by_cases hn : 1 ≤ n ∧ n ≤ 1073741824
          · rw [if_pos hn]
            go_enter Try.func21, Try.ntmps21
            go_wp2_with fail
            refine (within_yes 5 1 6 _ h1).mono ?_
            rintro e w1 ⟨rfl, rfl⟩
            go_wp2_with fail
            refine (CN _).mono ?_
            rintro e w1 ⟨rfl, rfl⟩
            go_wp2_with fail
            refine (fenceFits_set a b n _ hn).mono ?_
            rintro e w2 ⟨rfl, hb2⟩
            have HB2 := chid (HB.out.trans (hb2.mono (by simp)))
            clear hb2
            go_wp2
            go_ret
            exact ⟨rfl, HB2.out⟩
          · rw [if_neg hn]
            go_enter Try.func21, Try.ntmps21
            go_wp2_with fail
            refine (within_yes 5 1 6 _ h1).mono ?_
            rintro e w1 ⟨rfl, rfl⟩
            go_wp2_with fail
            refine (CN _).mono ?_
            rintro e w1 ⟨rfl, rfl⟩
            go_wp2_with fail
            refine (fenceFits_setNot a b n _ hn).mono ?_
            rintro e w2 ⟨rfl, hb2⟩
            have HB2 := chid (HB.out.trans (hb2.mono (by simp)))
            clear hb2
            go_wp2
            go_ret
            exact ⟨rfl, HB2.out⟩
      · have h5b : (k == 5) = false := by simpa using h5
        by_cases hb0 : b.size = 0
        · rw [opE_past h1 hna (.inr hb0), if_neg (by omega), if_neg h5]
          obtain rfl := size_zero hb0
          by_cases hn : n = 0
          · subst hn
            rw [if_pos rfl]
            go_enter Try.func21, Try.ntmps21
            go_wp2_with fail
            refine (within_yes k 1 6 _ h1).mono ?_
            rintro e w1 ⟨rfl, rfl⟩
            go_wp2_with fail
            refine (CN _).mono ?_
            rintro e w1 ⟨rfl, rfl⟩
            go_wp2_with fail
            refine (fenceFits_other k a ⟨#[]⟩ _ h5).mono ?_
            rintro e w2 ⟨rfl, hb2⟩
            have HB2 := chid (HB.out.trans (hb2.mono (by simp)))
            clear hb2
            go_wp2
            go_ret
            exact ⟨rfl, HB2.out⟩
          · rw [if_neg hn]
            go_enter Try.func21, Try.ntmps21
            go_wp2_with fail
            refine (within_yes k 1 6 _ h1).mono ?_
            rintro e w1 ⟨rfl, rfl⟩
            go_wp2_with fail
            refine (CN _).mono ?_
            rintro e w1 ⟨rfl, rfl⟩
            go_wp2_with fail
            refine (fenceFits_otherNot k a ⟨#[]⟩ n _ h5 hn).mono ?_
            rintro e w2 ⟨rfl, hb2⟩
            have HB2 := chid (HB.out.trans (hb2.mono (by simp)))
            clear hb2
            go_wp2
            go_ret
            exact ⟨rfl, HB2.out⟩
        · rw [opE_b h1 h5 hb0]
          have hbn := str_ne hb0
          go_enter Try.func21, Try.ntmps21
          go_wp2_with fail
          refine (within_yes k 1 6 _ h1).mono ?_
          rintro e w1 ⟨rfl, rfl⟩
          go_wp2_with fail
          refine (CN _).mono ?_
          rintro e w1 ⟨rfl, rfl⟩
          go_wp2
          go_ret
          exact ⟨rfl, HB.out⟩
  · rw [opE_kind h1]
    go_enter Try.func21, Try.ntmps21
    go_wp2_with fail
    refine (within_no k 1 6 _ h1).mono ?_
    rintro e w1 ⟨rfl, rfl⟩
    go_wp2
    go_ret
    exact ⟨rfl, HB.out⟩

end Go.Proofs.Ytcjoekjjebcomal
