/- codec.ReadNumber and codec.ReadText, at every text; From the form's reading of an argument to an operation, or a command, as plain data; command.CheckOp and Check, the document's OpFault and CommandFault: what is wrong with an operation, or a command, first; The reader's methods: number, text, end; The reader's methods by one contract each, and call; The reader's call: what a Call has behind its head, read; Commands held against one another; command.Check and checkCall: what is wrong with a command first (joined by program) -/
import Derived.Test.YtijilhbdbeajjaaGreatDoorRows
import Derived.WalkKit
import Derived.ProofKit
import Derived.WalkLawsBesides
import Derived.Deep.Slices
import Derived.SizedLaws
import Derived.Carry
import Derived.ChangeArms
import Derived.OpenShut
import Derived.Below
import Derived.Deep.DeepCutAuto
import Derived.Laws.StructEq
import Derived.BigRegion
import Derived.Test.YtijilhbdbeajjaaGreatDoorTT33
import Derived.Test.YtijilhbdbeajjaaGreatDoorTT00
import Derived.Test.YtijilhbdbeajjaaGreatDoorTT02
namespace Go.Proofs.YtijilhbdbeajjaaGreatDoor

open Go.RowKit

theorem number_any (s : ByteArray) (hs : s.size ≤ maxLen) : ∀ w : World, Calls Tryz.prog 175 #[.string s] w fun e w' => e = .returned (.tuple #[.int .i64 (numR s).1, .int .i64 (numR s).2.1, .int .i64 (numR s).2.2]) ∧ w' = w := by
  unfold numR
  by_cases h0 : cd s.data.toList = 0
  · rw [if_pos h0]
    exact fun w => number_short s w hs h0
  · rw [if_neg h0]
    by_cases h6 : 6 < cd s.data.toList
    · rw [if_pos (.inl h6)]
      exact fun w => number_long s w hs h6
    · by_cases hz : 1 < cd s.data.toList ∧ (s.data.toList.getD (cd s.data.toList - 1) 0).toNat = 0
      · rw [if_pos (.inr hz)]
        exact fun w => number_zero s w hs hz.1 (by omega) hz.2
      · have hz' : cd s.data.toList = 1 ∨ (1 < cd s.data.toList ∧ (s.data.toList.getD (cd s.data.toList - 1) 0).toNat ≠ 0) := by
          by_cases h1 : cd s.data.toList = 1
          · exact .inl h1
          · exact .inr ⟨by omega, fun e => hz ⟨by omega, e⟩⟩
        rw [if_neg (fun h => h.elim h6 hz)]
        by_cases hm : 1099511627776 < dec (s.data.toList.take (cd s.data.toList))
        · rw [if_pos hm]
          exact fun w => number_big s w hs (by omega) (by omega) hz' hm
        · rw [if_neg hm]
          exact fun w => number_read s w hs (by omega) (by omega) hz' hm

theorem readNumber_any (s : ByteArray) (hs : s.size ≤ 140737488351232) (w : World) :
    Calls Tryz.prog 128 #[.string s] w fun e w' => e = .returned (.tuple #[.int .i64 (readN s).1, .string (readN s).2.1, .int .i64 (readN s).2.2]) ∧ Below w.heap.size w w' := by
  have hn := number_any s (by unfold maxLen; omega)
  unfold readN
  by_cases h : (numR s).2.2 = 0
  · rw [if_pos h]
    rw [h] at hn
    exact readNumber_ok s _ _ w (by omega) hn (numR_ok s h).2.2.2.2
  · rw [if_neg h]
    have hc : (numR s).2.2 = 4 ∨ (numR s).2.2 = 5 := (numR_err s).resolve_left h
    have h00 : (numR s).1 = 0 ∧ (numR s).2.1 = 0 := by
      revert h
      unfold numR
      split
      · intro _; exact ⟨rfl, rfl⟩
      · split
        · intro _; exact ⟨rfl, rfl⟩
        · split
          · intro _; exact ⟨rfl, rfl⟩
          · intro h; exact absurd rfl h
    rw [h00.1, h00.2] at hn
    exact readNumber_err s _ w hn hc

set_option maxHeartbeats 800000 in
theorem readText_err (s : ByteArray) (c : Int) (w : World) (hn : NumErr s c) (hc : c = 4 ∨ c = 5) :
    Calls Tryz.prog 129 #[.string s] w fun e w' => e = .returned (.tuple #[.string ⟨#[]⟩, .string ⟨#[]⟩, .int .i64 c]) ∧ Below w.heap.size w w' := by
  have hcb : (c != 0) = true := by rcases hc with rfl | rfl <;> rfl
  clear hc
  go_enter Tryz.func129, Tryz.ntmps129
  go_wp2_with fail
  refine (hn _).mono ?_
  rintro e w1 ⟨rfl, rfl⟩
  go_wp2
  go_ret3
  exact ⟨rfl, Below.refl _ _⟩

set_option maxHeartbeats 800000 in
theorem readText_big (s : ByteArray) (n : Int) (z : Nat) (w : World) (hn : NumOk s n z) (h : 5000 < n) :
    Calls Tryz.prog 129 #[.string s] w fun e w' => e = .returned (.tuple #[.string ⟨#[]⟩, .string ⟨#[]⟩, .int .i64 1]) ∧ Below w.heap.size w w' := by
  go_enter Tryz.func129, Tryz.ntmps129
  go_wp2_with fail
  refine (hn _).mono ?_
  rintro e w1 ⟨rfl, rfl⟩
  go_wp2
  go_ret3
  exact ⟨rfl, Below.refl _ _⟩

set_option maxHeartbeats 800000 in
theorem readText_short (s : ByteArray) (n : Int) (z : Nat) (w : World) (hs : s.size ≤ 140737488351232) (hn : NumOk s n z) (h : ¬ 5000 < n) (hz : z ≤ 6) (hlt : (s.size : Int) - z < n) :
    Calls Tryz.prog 129 #[.string s] w fun e w' => e = .returned (.tuple #[.string ⟨#[]⟩, .string ⟨#[]⟩, .int .i64 5]) ∧ Below w.heap.size w w' := by
  go_enter Tryz.func129, Tryz.ntmps129
  go_wp2_with fail
  refine (hn _).mono ?_
  rintro e w1 ⟨rfl, rfl⟩
  go_wp2
  go_ret3
  exact ⟨rfl, Below.refl _ _⟩

theorem readText_any (s : ByteArray) (hs : s.size ≤ 140737488351232) (w : World) :
    Calls Tryz.prog 129 #[.string s] w fun e w' => e = .returned (.tuple #[.string (readT s).1, .string (readT s).2.1, .int .i64 (readT s).2.2]) ∧ Below w.heap.size w w' := by
  have hn := number_any s (by unfold maxLen; omega)
  unfold readT
  by_cases h : (numR s).2.2 = 0
  · rw [if_neg (fun hh => hh h)]
    rw [h] at hn
    obtain ⟨h0, h1, h2, h3, h4⟩ := numR_ok s h
    by_cases h5 : 5000 < (numR s).1
    · rw [if_pos h5]
      exact readText_big s _ _ w hn h5
    · rw [if_neg h5]
      by_cases h6 : (s.size : Int) - (numR s).2.1 < (numR s).1
      · rw [if_pos h6]
        exact readText_short s _ _ w hs hn h5 h3 h6
      · rw [if_neg h6]
        obtain ⟨m, hm⟩ : ∃ m : Nat, (numR s).1 = m := ⟨(numR s).1.toNat, by omega⟩
        rw [hm] at hn h6 h5 ⊢
        exact readText_ok s m _ w (by omega) hn (by omega) (by omega)
  · rw [if_pos h]
    have hc : (numR s).2.2 = 4 ∨ (numR s).2.2 = 5 := (numR_err s).resolve_left h
    have h00 : (numR s).1 = 0 ∧ (numR s).2.1 = 0 := by
      revert h
      unfold numR
      split
      · intro _; exact ⟨rfl, rfl⟩
      · split
        · intro _; exact ⟨rfl, rfl⟩
        · split
          · intro _; exact ⟨rfl, rfl⟩
          · intro h; exact absurd rfl h
    rw [h00.1, h00.2] at hn
    exact readText_err s _ w hn hc

end Go.Proofs.YtijilhbdbeajjaaGreatDoor

namespace Go.Proofs.YtijilhbdbeajjaaGreatDoor

open Go.ChangeShapes Go.WideShapes Go.ChangeAt Go.RowKit Go.Deep

set_option maxRecDepth 100000

/-- A number that fits. -/
def FitsC (n : Int) : Prop := -9223372036854775808 ≤ n ∧ n ≤ 9223372036854775807

/-- A text that can be read. -/
def ShortC (s : ByteArray) : Prop := s.size ≤ 140737488351232

section

variable {H : Type} {enc : TypeId × Value → H} {W : World}

end

end Go.Proofs.YtijilhbdbeajjaaGreatDoor

namespace Go.Proofs.YtijilhbdbeajjaaGreatDoor

open Go.RowKit

theorem chid {p : Prop} (h : p) : Hid p := h

theorem within_yes (n a b : Int) (w : World) (h : a ≤ n ∧ n ≤ b) :
    Calls Tryz.prog 80 #[.int .i64 n, .int .i64 a, .int .i64 b] w fun e w' => e = .returned (.bool true) ∧ w' = w := by
  obtain ⟨h1, h2⟩ := h
  go_enter Tryz.func80, Tryz.ntmps80
  go_wp2
  go_ret
  exact ⟨rfl, rfl⟩

theorem within_no (n a b : Int) (w : World) (h : ¬ (a ≤ n ∧ n ≤ b)) :
    Calls Tryz.prog 80 #[.int .i64 n, .int .i64 a, .int .i64 b] w fun e w' => e = .returned (.bool false) ∧ w' = w := by
  by_cases h1 : a ≤ n
  · have h2 : ¬ n ≤ b := fun h2 => h ⟨h1, h2⟩
    clear h
    go_enter Tryz.func80, Tryz.ntmps80
    go_wp2
    go_ret
    exact ⟨rfl, rfl⟩
  · clear h
    go_enter Tryz.func80, Tryz.ntmps80
    go_wp2
    go_ret
    exact ⟨rfl, rfl⟩

theorem fenceFits_set (a b : ByteArray) (n : Int) (w : World) (h : 1 ≤ n ∧ n ≤ 1073741824) :
    Calls Tryz.prog 127 #[.agg #[.int .i64 5, .string a, .string b, .int .i64 n]] w fun e w' => e = .returned (.bool true) ∧ Below w.heap.size w w' := by
  have HB := chid ((Below.refl w.heap.size w).alloc (Nat.le_refl _) (.cells #[.int .i64 5, .string a, .string b, .int .i64 n] 38))
  go_enter Tryz.func127, Tryz.ntmps127
  go_wp2_with fail
  refine (within_yes n 1 1073741824 _ h).mono ?_
  rintro e w1 ⟨rfl, rfl⟩
  go_wp2
  go_ret
  exact ⟨rfl, HB.out⟩

theorem fenceFits_setNot (a b : ByteArray) (n : Int) (w : World) (h : ¬ (1 ≤ n ∧ n ≤ 1073741824)) :
    Calls Tryz.prog 127 #[.agg #[.int .i64 5, .string a, .string b, .int .i64 n]] w fun e w' => e = .returned (.bool false) ∧ Below w.heap.size w w' := by
  have HB := chid ((Below.refl w.heap.size w).alloc (Nat.le_refl _) (.cells #[.int .i64 5, .string a, .string b, .int .i64 n] 38))
  go_enter Tryz.func127, Tryz.ntmps127
  go_wp2_with fail
  refine (within_no n 1 1073741824 _ h).mono ?_
  rintro e w1 ⟨rfl, rfl⟩
  go_wp2
  go_ret
  exact ⟨rfl, HB.out⟩

theorem fenceFits_other (k : Int) (a b : ByteArray) (w : World) (h : k ≠ 5) :
    Calls Tryz.prog 127 #[.agg #[.int .i64 k, .string a, .string b, .int .i64 0]] w fun e w' => e = .returned (.bool true) ∧ Below w.heap.size w w' := by
  have HB := chid ((Below.refl w.heap.size w).alloc (Nat.le_refl _) (.cells #[.int .i64 k, .string a, .string b, .int .i64 0] 38))
  have h5 : (k == 5) = false := by simpa using h
  clear h
  go_enter Tryz.func127, Tryz.ntmps127
  go_wp2
  go_ret
  exact ⟨rfl, HB.out⟩

theorem fenceFits_otherNot (k : Int) (a b : ByteArray) (n : Int) (w : World) (h : k ≠ 5) (hn : n ≠ 0) :
    Calls Tryz.prog 127 #[.agg #[.int .i64 k, .string a, .string b, .int .i64 n]] w fun e w' => e = .returned (.bool false) ∧ Below w.heap.size w w' := by
  have HB := chid ((Below.refl w.heap.size w).alloc (Nat.le_refl _) (.cells #[.int .i64 k, .string a, .string b, .int .i64 n] 38))
  have h5 : (k == 5) = false := by simpa using h
  have h6 : (n == 0) = false := by simpa using hn
  clear h hn
  go_enter Tryz.func127, Tryz.ntmps127
  go_wp2
  go_ret
  exact ⟨rfl, HB.out⟩

theorem str_ne {b : ByteArray} (h : b.size ≠ 0) : b.toList.isEmpty = false := by
  rw [ByteArray.toList_eq]
  cases hb : b.data.toList with
  | nil =>
    have : b.data.toList.length = b.size := by simp
    rw [hb] at this
    exact absurd this.symm h
  | cons x t => rfl

/-- The kinds of wrong, one by one. -/
theorem opE_kind {k : Int} {a b : ByteArray} {n : Int} (h : ¬ (1 ≤ k ∧ k ≤ 6)) : opE k a b n = 3 := if_pos h

theorem opE_name {k : Int} {a b : ByteArray} {n : Int} (h : 1 ≤ k ∧ k ≤ 6) (h2 : nameB a = false) : opE k a b n = 4 := by unfold opE; rw [if_neg (by omega), if_pos (.inl h2)]

theorem opE_b {k : Int} {a b : ByteArray} {n : Int} (h : 1 ≤ k ∧ k ≤ 6) (h2 : k ≠ 5) (h3 : b.size ≠ 0) : opE k a b n = 4 := by unfold opE; rw [if_neg (by omega), if_pos (.inr ⟨h2, h3⟩)]

theorem opE_past {k : Int} {a b : ByteArray} {n : Int} (h : 1 ≤ k ∧ k ≤ 6) (h2 : nameB a = true) (h3 : k = 5 ∨ b.size = 0) :
    opE k a b n = if 12 < b.size then 1 else if k = 5 then (if 1 ≤ n ∧ n ≤ 1073741824 then 0 else 2) else if n = 0 then 0 else 2 := by
  unfold opE
  rw [if_neg (by omega), if_neg]
  rintro (h4 | ⟨h4, h5⟩)
  · rw [h2] at h4; cases h4
  · rcases h3 with h3 | h3
    · exact h4 h3
    · exact h5 h3

set_option maxHeartbeats 1600000 in
theorem checkOp_any (k : Int) (a b : ByteArray) (n : Int) (w : World) (ha : ShortC a) (hb : ShortC b) :
    Calls Tryz.prog 77 #[.agg #[.int .i64 k, .string a, .string b, .int .i64 n]] w fun e w' => e = .returned (.int .i64 (opE k a b n)) ∧ Below w.heap.size w w' := by
  have hbx := (Below.refl w.heap.size w).alloc (Nat.le_refl _) (.cells #[.int .i64 k, .string a, .string b, .int .i64 n] 38)
  have HB := chid hbx
  clear hbx
  unfold ShortC at ha hb
  by_cases h1 : 1 ≤ k ∧ k ≤ 6
  · cases hna : nameB a with
    | false =>
      rw [opE_name h1 hna]
      have CN := fun w => name_no a w (by omega) hna
      go_enter Tryz.func77, Tryz.ntmps77
      go_wp2_with fail
      refine (within_yes k 1 6 _ h1).mono ?_
      rintro e w1 ⟨rfl, rfl⟩
      go_wp2_with fail
      refine (CN _).mono ?_
      rintro e w1 ⟨rfl, rfl⟩
      go_wp2
      go_ret
      exact ⟨rfl, HB.out⟩
    | true =>
      have CN := fun w => name_yes a w hna
      by_cases h5 : k = 5
      · rw [opE_past h1 hna (.inl h5)]
        subst h5
        by_cases h12 : 12 < b.size
        · rw [if_pos h12]
          go_enter Tryz.func77, Tryz.ntmps77
          go_wp2_with fail
          refine (within_yes 5 1 6 _ h1).mono ?_
          rintro e w1 ⟨rfl, rfl⟩
          go_wp2_with fail
          refine (CN _).mono ?_
          rintro e w1 ⟨rfl, rfl⟩
          go_wp2
          go_ret
          exact ⟨rfl, HB.out⟩
        · rw [if_neg h12, if_pos rfl]
          by_cases hn : 1 ≤ n ∧ n ≤ 1073741824
          · rw [if_pos hn]
            go_enter Tryz.func77, Tryz.ntmps77
            go_wp2_with fail
            refine (within_yes 5 1 6 _ h1).mono ?_
            rintro e w1 ⟨rfl, rfl⟩
            go_wp2_with fail
            refine (CN _).mono ?_
            rintro e w1 ⟨rfl, rfl⟩
            go_wp2_with fail
            refine (fenceFits_set a b n _ hn).mono ?_
            rintro e w2 ⟨rfl, hb2⟩
            have HB2 := chid (HB.out.trans (hb2.mono (by simp)))
            clear hb2
            go_wp2
            go_ret
            exact ⟨rfl, HB2.out⟩
          · rw [if_neg hn]
            go_enter Tryz.func77, Tryz.ntmps77
            go_wp2_with fail
            refine (within_yes 5 1 6 _ h1).mono ?_
            rintro e w1 ⟨rfl, rfl⟩
            go_wp2_with fail
            refine (CN _).mono ?_
            rintro e w1 ⟨rfl, rfl⟩
            go_wp2_with fail
            refine (fenceFits_setNot a b n _ hn).mono ?_
            rintro e w2 ⟨rfl, hb2⟩
            have HB2 := chid (HB.out.trans (hb2.mono (by simp)))
            clear hb2
            go_wp2
            go_ret
            exact ⟨rfl, HB2.out⟩
      · have h5b : (k == 5) = false := by simpa using h5
        by_cases hb0 : b.size = 0
        · rw [opE_past h1 hna (.inr hb0), if_neg (by omega), if_neg h5]
          obtain rfl := size_zero hb0
          by_cases hn : n = 0
          · subst hn
            rw [if_pos rfl]
            go_enter Tryz.func77, Tryz.ntmps77
            go_wp2_with fail
            refine (within_yes k 1 6 _ h1).mono ?_
            rintro e w1 ⟨rfl, rfl⟩
            go_wp2_with fail
            refine (CN _).mono ?_
            rintro e w1 ⟨rfl, rfl⟩
            go_wp2_with fail
            refine (fenceFits_other k a ⟨#[]⟩ _ h5).mono ?_
            rintro e w2 ⟨rfl, hb2⟩
            have HB2 := chid (HB.out.trans (hb2.mono (by simp)))
            clear hb2
            go_wp2
            go_ret
            exact ⟨rfl, HB2.out⟩
          · rw [if_neg hn]
            go_enter Tryz.func77, Tryz.ntmps77
            go_wp2_with fail
            refine (within_yes k 1 6 _ h1).mono ?_
            rintro e w1 ⟨rfl, rfl⟩
            go_wp2_with fail
            refine (CN _).mono ?_
            rintro e w1 ⟨rfl, rfl⟩
            go_wp2_with fail
            refine (fenceFits_otherNot k a ⟨#[]⟩ n _ h5 hn).mono ?_
            rintro e w2 ⟨rfl, hb2⟩
            have HB2 := chid (HB.out.trans (hb2.mono (by simp)))
            clear hb2
            go_wp2
            go_ret
            exact ⟨rfl, HB2.out⟩
        · rw [opE_b h1 h5 hb0]
          have hbn := str_ne hb0
          go_enter Tryz.func77, Tryz.ntmps77
          go_wp2_with fail
          refine (within_yes k 1 6 _ h1).mono ?_
          rintro e w1 ⟨rfl, rfl⟩
          go_wp2_with fail
          refine (CN _).mono ?_
          rintro e w1 ⟨rfl, rfl⟩
          go_wp2
          go_ret
          exact ⟨rfl, HB.out⟩
  · rw [opE_kind h1]
    go_enter Tryz.func77, Tryz.ntmps77
    go_wp2_with fail
    refine (within_no k 1 6 _ h1).mono ?_
    rintro e w1 ⟨rfl, rfl⟩
    go_wp2
    go_ret
    exact ⟨rfl, HB.out⟩

end Go.Proofs.YtijilhbdbeajjaaGreatDoor

namespace Go.Proofs.YtijilhbdbeajjaaGreatDoor

open Go.RowKit

/-- The reader at block rb has what is left, and what was wrong. -/
def IsRd (rb : Nat) (s : ByteArray) (e : Int) (w : World) : Prop := w.heap[rb]? = some (.cells #[.string s, .int .i64 e] 113 (0, 0))

/-- The command at block cb. -/
def IsCm (cb : Nat) (x : CmdD) (w : World) : Prop := w.heap[cb]? = some (.cells #[.int .i64 x.kind, .int .i64 x.client, .int .i64 x.session, .int .i64 x.seq, .int .i64 x.acked, .int .i64 x.ok, .string x.a, .string x.b, .int .i64 x.n] 67 (0, 0))

theorem rd_stay {r : ByteArray × Int} (h : r.2 ≠ 0) : stepN r = (0, r.1, r.2) := if_neg h

theorem rt_stay {r : ByteArray × Int} (h : r.2 ≠ 0) : stepT r = (⟨#[]⟩, r.1, r.2) := if_neg h

set_option maxHeartbeats 800000 in
theorem rdNumber_wrong (rb cb off : Nat) (s : ByteArray) (e : Int) (w : World) (hr : IsRd rb s e w) (he : e ≠ 0) :
    Calls Tryz.prog 78 #[.pointer (some ⟨rb, 0, none⟩), .pointer (some ⟨cb, off, none⟩)] w fun x w' => x = .returned (.tuple #[]) ∧ w' = w := by
  have s1 : w.cell? ⟨rb, 1, none⟩ = some (.int .i64 e) := cell_of_row w rb 1 _ _ _ hr
  have heb : (e == 0) = false := by simpa using he
  clear hr he
  go_enter Tryz.func78, Tryz.ntmps78
  go_wp2
  go_end0
  exact ⟨rfl, rfl⟩

set_option maxHeartbeats 1600000 in
theorem rdNumber_ok (rb cb off : Nat) (s : ByteArray) (old : Value) (cs : Array Value) (w : World) (hs : s.size ≤ 140737488351232) (hr : IsRd rb s 0 w) (hne : cb ≠ rb) (hc : w.heap[cb]? = some (.cells cs 67 (0, 0))) (ho : cs[off]? = some old) :
    Calls Tryz.prog 78 #[.pointer (some ⟨rb, 0, none⟩), .pointer (some ⟨cb, off, none⟩)] w fun x w' => x = .returned (.tuple #[]) ∧ ∃ w1, Below w.heap.size w w1 ∧ w' = ((w1.setCell ⟨cb, off, none⟩ (.int .i64 (readN s).1)).setCell ⟨rb, 0, none⟩ (.string (readN s).2.1)).setCell ⟨rb, 1, none⟩ (.int .i64 (readN s).2.2) := by
  have s0 : w.cell? ⟨rb, 0, none⟩ = some (.string s) := cell_of_row w rb 0 _ _ _ hr
  have s1 : w.cell? ⟨rb, 1, none⟩ = some (.int .i64 0) := cell_of_row w rb 1 _ _ _ hr
  have CR := chid (fun w => readNumber_any s hs w)
  obtain ⟨n, hn⟩ : ∃ n, n = (readN s).1 := ⟨_, rfl⟩
  obtain ⟨t, ht⟩ : ∃ t, t = (readN s).2.1 := ⟨_, rfl⟩
  obtain ⟨e, hee⟩ : ∃ e, e = (readN s).2.2 := ⟨_, rfl⟩
  rw [← hn, ← ht, ← hee] at CR ⊢
  have HR := chid hr
  have HC := chid hc
  have hlr : rb < w.heap.size := (Array.getElem?_eq_some_iff.1 hr).1
  have hlc : cb < w.heap.size := (Array.getElem?_eq_some_iff.1 hc).1
  clear hr hc hn ht hee
  go_enter Tryz.func78, Tryz.ntmps78
  go_wp2_with fail
  refine (CR.out _).mono ?_
  rintro x w1 ⟨rfl, hb1⟩
  have hr1 : w1.heap[rb]? = _ := (hb1.block _ hlr).trans HR.out
  have hc1 := (hb1.block _ hlc).trans HC.out
  have t0 : w1.cell? ⟨rb, 0, none⟩ = some (.string s) := cell_of_row w1 rb 0 _ _ _ hr1
  have t1 : w1.cell? ⟨rb, 1, none⟩ = some (.int .i64 0) := cell_of_row w1 rb 1 _ _ _ hr1
  have t2 : w1.cell? ⟨cb, off, none⟩ = some old := by rw [← ho]; exact Lib.cell_of_heap hc1 off
  have f0 : ∀ j, w1.frozen? ⟨rb, j, none⟩ = false := fun j => frozen_of_row w1 rb j _ _ hr1
  have f1 : ∀ j, w1.frozen? ⟨cb, j, none⟩ = false := fun j => Lib.frozen_of_heap hc1 j
  have HB1 := chid hb1
  clear hb1 hr1 hc1 s0 s1
  go_wp2
  go_end0
  exact ⟨rfl, w1, HB1.out, rfl⟩

end Go.Proofs.YtijilhbdbeajjaaGreatDoor

namespace Go.Proofs.YtijilhbdbeajjaaGreatDoor

open Go.RowKit

/-- w' is w but for the blocks a and b, and new ones. -/
structure Two (a b : Nat) (w w' : World) : Prop where
  os : w'.os = w.os
  tape : w'.tape = w.tape
  output : w'.output = w.output
  size : w.heap.size ≤ w'.heap.size
  block : ∀ k, k < w.heap.size → k ≠ a → k ≠ b → w'.heap[k]? = w.heap[k]?

theorem Two.refl (a b : Nat) (w : World) : Two a b w w := ⟨rfl, rfl, rfl, Nat.le_refl _, fun _ _ _ _ => rfl⟩

theorem Two.of_below {a b : Nat} {w w' : World} (h : Below w.heap.size w w') : Two a b w w' := ⟨h.os, h.tape, h.output, h.size, fun k hk _ _ => h.block k hk⟩

theorem Two.setCell {a b : Nat} {w0 w : World} (h : Two a b w0 w) {p : Addr} (hp : p.block = a ∨ p.block = b) (v : Value) : Two a b w0 (w.setCell p v) :=
  ⟨h.os, h.tape, h.output, by have := h.size; simpa [World.setCell] using this, fun k hk h1 h2 => (Below.heap_setCell _ _ _ _ (by rintro rfl; rcases hp with hp | hp; exact h1 hp; exact h2 hp)).trans (h.block k hk h1 h2)⟩

theorem Two.trans {a b : Nat} {w0 w1 w2 : World} (h : Two a b w0 w1) (k : Two a b w1 w2) : Two a b w0 w2 :=
  ⟨k.os.trans h.os, k.tape.trans h.tape, k.output.trans h.output, Nat.le_trans h.size k.size, fun i hi h1 h2 => (k.block i (by have := h.size; omega) h1 h2).trans (h.block i hi h1 h2)⟩

theorem Two.below {a b B : Nat} {w0 w1 w2 : World} (h : Below B w0 w1) (k : Two a b w1 w2) (ha : B ≤ a) (hb : B ≤ b) (hB : B ≤ w1.heap.size) : Below B w0 w2 :=
  ⟨k.os.trans h.os, k.tape.trans h.tape, k.output.trans h.output, Nat.le_trans h.size k.size, fun i hi => (k.block i (by omega) (by omega) (by omega)).trans (h.block i hi)⟩

theorem set_old {cs : Array Value} {off : Nat} {v : Value} (h : cs[off]? = some v) : cs.setIfInBounds off v = cs := by
  apply Array.ext_getElem?
  intro i
  rw [Array.getElem?_setIfInBounds]
  split
  · rename_i e
    subst e
    have := (Array.getElem?_eq_some_iff.1 h).1
    rw [if_pos this, h]
  · rfl

theorem readN_size (s : ByteArray) : (readN s).2.1.size ≤ s.size := by
  unfold readN
  split
  · show (s.extract _ _).size ≤ _
    rw [ByteArray.size_extract]; omega
  · exact Nat.zero_le _

theorem readT_size (s : ByteArray) : (readT s).1.size ≤ s.size ∧ (readT s).2.1.size ≤ s.size := by
  unfold readT
  split
  · exact ⟨Nat.zero_le _, Nat.zero_le _⟩
  · split
    · exact ⟨Nat.zero_le _, Nat.zero_le _⟩
    · split
      · exact ⟨Nat.zero_le _, Nat.zero_le _⟩
      · constructor
        · show (s.extract _ _).size ≤ _
          rw [ByteArray.size_extract]; omega
        · show (s.extract _ _).size ≤ _
          rw [ByteArray.size_extract]; omega

theorem stepN_size (r : ByteArray × Int) : (stepN r).2.1.size ≤ r.1.size := by
  unfold stepN
  split
  · exact readN_size _
  · exact Nat.le_refl _

theorem stepT_size (r : ByteArray × Int) : (stepT r).1.size ≤ r.1.size ∧ (stepT r).2.1.size ≤ r.1.size := by
  unfold stepT
  split
  · exact readT_size _
  · exact ⟨Nat.zero_le _, Nat.le_refl _⟩

theorem rdNumber_any (rb cb off : Nat) (r : ByteArray × Int) (cs : Array Value) (w : World) (hs : r.1.size ≤ 140737488351232) (hr : IsRd rb r.1 r.2 w) (hne : cb ≠ rb) (hc : w.heap[cb]? = some (.cells cs 67 (0, 0))) (ho : cs[off]? = some (.int .i64 0)) :
    Calls Tryz.prog 78 #[.pointer (some ⟨rb, 0, none⟩), .pointer (some ⟨cb, off, none⟩)] w fun x w' => x = .returned (.tuple #[]) ∧ IsRd rb (stepN r).2.1 (stepN r).2.2 w' ∧ w'.heap[cb]? = some (.cells (cs.setIfInBounds off (.int .i64 (stepN r).1)) 67 (0, 0)) ∧ Two rb cb w w' := by
  by_cases he : r.2 = 0
  · have e1 : stepN r = readN r.1 := if_pos he
    rw [e1]
    rw [he] at hr
    have hlr : rb < w.heap.size := (Array.getElem?_eq_some_iff.1 hr).1
    have hlc : cb < w.heap.size := (Array.getElem?_eq_some_iff.1 hc).1
    refine (rdNumber_ok rb cb off r.1 _ cs w hs hr hne hc ho).mono ?_
    rintro x w' ⟨hx, w1, hb1, rfl⟩
    have hr1 : w1.heap[rb]? = _ := (hb1.block _ hlr).trans hr
    have hc1 := (hb1.block _ hlc).trans hc
    refine ⟨hx, ?_, ?_, ?_⟩
    · have g0 : (w1.setCell ⟨cb, off, none⟩ (.int .i64 (readN r.1).1)).heap[rb]? = _ := (heap_setCell_other _ _ _ _ (by simpa using hne.symm)).trans hr1
      have g1 := heap_setCell_same _ rb 0 _ 113 (.string (readN r.1).2.1) g0
      have g2 := heap_setCell_same _ rb 1 _ 113 (.int .i64 (readN r.1).2.2) g1
      unfold IsRd
      simpa using g2
    · rw [heap_setCell_other _ _ _ _ (by simpa using hne), heap_setCell_other _ _ _ _ (by simpa using hne)]
      exact heap_setCell_same _ cb off _ 67 _ hc1
    · exact Two.setCell (p := ⟨rb, 1, none⟩) (Two.setCell (p := ⟨rb, 0, none⟩) (Two.setCell (p := ⟨cb, off, none⟩) (Two.of_below hb1) (.inr rfl) _) (.inl rfl) _) (.inl rfl) _
  · rw [rd_stay he]
    refine (rdNumber_wrong rb cb off r.1 r.2 w hr he).mono ?_
    rintro x w' ⟨hx, rfl⟩
    refine ⟨hx, hr, ?_, Two.refl _ _ _⟩
    rw [set_old ho]
    exact hc

set_option maxHeartbeats 800000 in
theorem rdText_wrong (rb cb off : Nat) (s : ByteArray) (e : Int) (w : World) (hr : IsRd rb s e w) (he : e ≠ 0) :
    Calls Tryz.prog 79 #[.pointer (some ⟨rb, 0, none⟩), .pointer (some ⟨cb, off, none⟩)] w fun x w' => x = .returned (.tuple #[]) ∧ w' = w := by
  have s1 : w.cell? ⟨rb, 1, none⟩ = some (.int .i64 e) := cell_of_row w rb 1 _ _ _ hr
  have heb : (e == 0) = false := by simpa using he
  clear hr he
  go_enter Tryz.func79, Tryz.ntmps79
  go_wp2
  go_end0
  exact ⟨rfl, rfl⟩

set_option maxHeartbeats 1600000 in
theorem rdText_ok (rb cb off : Nat) (s : ByteArray) (old : Value) (cs : Array Value) (w : World) (hs : s.size ≤ 140737488351232) (hr : IsRd rb s 0 w) (hne : cb ≠ rb) (hc : w.heap[cb]? = some (.cells cs 67 (0, 0))) (ho : cs[off]? = some old) :
    Calls Tryz.prog 79 #[.pointer (some ⟨rb, 0, none⟩), .pointer (some ⟨cb, off, none⟩)] w fun x w' => x = .returned (.tuple #[]) ∧ ∃ w1, Below w.heap.size w w1 ∧ w' = ((w1.setCell ⟨cb, off, none⟩ (.string (readT s).1)).setCell ⟨rb, 0, none⟩ (.string (readT s).2.1)).setCell ⟨rb, 1, none⟩ (.int .i64 (readT s).2.2) := by
  have s0 : w.cell? ⟨rb, 0, none⟩ = some (.string s) := cell_of_row w rb 0 _ _ _ hr
  have s1 : w.cell? ⟨rb, 1, none⟩ = some (.int .i64 0) := cell_of_row w rb 1 _ _ _ hr
  have CR := chid (fun w => readText_any s hs w)
  obtain ⟨n, hn⟩ : ∃ n, n = (readT s).1 := ⟨_, rfl⟩
  obtain ⟨t, ht⟩ : ∃ t, t = (readT s).2.1 := ⟨_, rfl⟩
  obtain ⟨e, hee⟩ : ∃ e, e = (readT s).2.2 := ⟨_, rfl⟩
  rw [← hn, ← ht, ← hee] at CR ⊢
  have HR := chid hr
  have HC := chid hc
  have hlr : rb < w.heap.size := (Array.getElem?_eq_some_iff.1 hr).1
  have hlc : cb < w.heap.size := (Array.getElem?_eq_some_iff.1 hc).1
  clear hr hc hn ht hee
  go_enter Tryz.func79, Tryz.ntmps79
  go_wp2_with fail
  refine (CR.out _).mono ?_
  rintro x w1 ⟨rfl, hb1⟩
  have hr1 : w1.heap[rb]? = _ := (hb1.block _ hlr).trans HR.out
  have hc1 := (hb1.block _ hlc).trans HC.out
  have t0 : w1.cell? ⟨rb, 0, none⟩ = some (.string s) := cell_of_row w1 rb 0 _ _ _ hr1
  have t1 : w1.cell? ⟨rb, 1, none⟩ = some (.int .i64 0) := cell_of_row w1 rb 1 _ _ _ hr1
  have t2 : w1.cell? ⟨cb, off, none⟩ = some old := by rw [← ho]; exact Lib.cell_of_heap hc1 off
  have f0 : ∀ j, w1.frozen? ⟨rb, j, none⟩ = false := fun j => frozen_of_row w1 rb j _ _ hr1
  have f1 : ∀ j, w1.frozen? ⟨cb, j, none⟩ = false := fun j => Lib.frozen_of_heap hc1 j
  have HB1 := chid hb1
  clear hb1 hr1 hc1 s0 s1
  go_wp2
  go_end0
  exact ⟨rfl, w1, HB1.out, rfl⟩

theorem rdText_any (rb cb off : Nat) (r : ByteArray × Int) (cs : Array Value) (w : World) (hs : r.1.size ≤ 140737488351232) (hr : IsRd rb r.1 r.2 w) (hne : cb ≠ rb) (hc : w.heap[cb]? = some (.cells cs 67 (0, 0))) (ho : cs[off]? = some (.string ⟨#[]⟩)) :
    Calls Tryz.prog 79 #[.pointer (some ⟨rb, 0, none⟩), .pointer (some ⟨cb, off, none⟩)] w fun x w' => x = .returned (.tuple #[]) ∧ IsRd rb (stepT r).2.1 (stepT r).2.2 w' ∧ w'.heap[cb]? = some (.cells (cs.setIfInBounds off (.string (stepT r).1)) 67 (0, 0)) ∧ Two rb cb w w' := by
  by_cases he : r.2 = 0
  · have e1 : stepT r = readT r.1 := if_pos he
    rw [e1]
    rw [he] at hr
    have hlr : rb < w.heap.size := (Array.getElem?_eq_some_iff.1 hr).1
    have hlc : cb < w.heap.size := (Array.getElem?_eq_some_iff.1 hc).1
    refine (rdText_ok rb cb off r.1 _ cs w hs hr hne hc ho).mono ?_
    rintro x w' ⟨hx, w1, hb1, rfl⟩
    have hr1 : w1.heap[rb]? = _ := (hb1.block _ hlr).trans hr
    have hc1 := (hb1.block _ hlc).trans hc
    refine ⟨hx, ?_, ?_, ?_⟩
    · have g0 : (w1.setCell ⟨cb, off, none⟩ (.string (readT r.1).1)).heap[rb]? = _ := (heap_setCell_other _ _ _ _ (by simpa using hne.symm)).trans hr1
      have g1 := heap_setCell_same _ rb 0 _ 113 (.string (readT r.1).2.1) g0
      have g2 := heap_setCell_same _ rb 1 _ 113 (.int .i64 (readT r.1).2.2) g1
      unfold IsRd
      simpa using g2
    · rw [heap_setCell_other _ _ _ _ (by simpa using hne), heap_setCell_other _ _ _ _ (by simpa using hne)]
      exact heap_setCell_same _ cb off _ 67 _ hc1
    · exact Two.setCell (p := ⟨rb, 1, none⟩) (Two.setCell (p := ⟨rb, 0, none⟩) (Two.setCell (p := ⟨cb, off, none⟩) (Two.of_below hb1) (.inr rfl) _) (.inl rfl) _) (.inl rfl) _
  · rw [rt_stay he]
    refine (rdText_wrong rb cb off r.1 r.2 w hr he).mono ?_
    rintro x w' ⟨hx, rfl⟩
    refine ⟨hx, hr, ?_, Two.refl _ _ _⟩
    rw [set_old ho]
    exact hc

set_option maxHeartbeats 800000 in
theorem rdEnd_any (rb : Nat) (r : ByteArray × Int) (w : World) (hr : IsRd rb r.1 r.2 w) :
    Calls Tryz.prog 48 #[.pointer (some ⟨rb, 0, none⟩)] w fun x w' => x = .returned (.int .i64 (endE r)) ∧ w' = w := by
  have s0 : w.cell? ⟨rb, 0, none⟩ = some (.string r.1) := cell_of_row w rb 0 _ _ _ hr
  have s1 : w.cell? ⟨rb, 1, none⟩ = some (.int .i64 r.2) := cell_of_row w rb 1 _ _ _ hr
  clear hr
  unfold endE
  obtain ⟨s, e⟩ := r
  simp only at s0 s1 ⊢
  by_cases he : e = 0
  · subst he
    by_cases hz : s.size = 0
    · obtain rfl := size_zero hz
      rw [if_neg (fun h => h.2 hz)]
      clear hz
      go_enter Tryz.func48, Tryz.ntmps48
      go_wp2
      go_ret
      exact ⟨rfl, rfl⟩
    · rw [if_pos ⟨rfl, hz⟩]
      have hne := str_ne hz
      clear hz
      go_enter Tryz.func48, Tryz.ntmps48
      go_wp2
      go_ret
      exact ⟨rfl, rfl⟩
  · rw [if_neg (fun h => he h.1)]
    have heb : (e == 0) = false := by simpa using he
    clear he
    go_enter Tryz.func48, Tryz.ntmps48
    go_wp2
    go_ret
    exact ⟨rfl, rfl⟩

end Go.Proofs.YtijilhbdbeajjaaGreatDoor

namespace Go.Proofs.YtijilhbdbeajjaaGreatDoor

open Go.RowKit

/-- Where the numbers of a Call lie. -/
def offN (j : Nat) : Nat := [2, 3, 4, 5, 8].getD j 0

/-- The reader, behind so many numbers. -/
def rdAt (s : ByteArray) : Nat → ByteArray × Int
  | 0 => (s, 0)
  | j + 1 => (stepN (rdAt s j)).2

/-- The cells of the command, behind so many numbers. -/
def csAt (k c : Int) (s : ByteArray) : Nat → Array Value
  | 0 => #[.int .i64 k, .int .i64 c, .int .i64 0, .int .i64 0, .int .i64 0, .int .i64 0, .string ⟨#[]⟩, .string ⟨#[]⟩, .int .i64 0]
  | j + 1 => (csAt k c s j).setIfInBounds (offN j) (.int .i64 (stepN (rdAt s j)).1)

theorem rdAt_size (s : ByteArray) (j : Nat) : (rdAt s j).1.size ≤ s.size := by
  induction j with
  | zero => exact Nat.le_refl _
  | succ j ih => exact Nat.le_trans (stepN_size _) ih

theorem csAt_next (k c : Int) (s : ByteArray) (j : Nat) (h : j < 5) : (csAt k c s j)[offN j]? = some (.int .i64 0) := by
  rcases (by omega : j = 0 ∨ j = 1 ∨ j = 2 ∨ j = 3 ∨ j = 4) with rfl | rfl | rfl | rfl | rfl <;> simp [csAt, offN]

theorem csAt_five (k c : Int) (s : ByteArray) : csAt k c s 5 = #[.int .i64 k, .int .i64 c, .int .i64 (stepN (rdAt s 0)).1, .int .i64 (stepN (rdAt s 1)).1, .int .i64 (stepN (rdAt s 2)).1, .int .i64 (stepN (rdAt s 3)).1, .string ⟨#[]⟩, .string ⟨#[]⟩, .int .i64 (stepN (rdAt s 4)).1] := by
  simp [csAt, offN]

set_option maxRecDepth 100000 in
set_option maxHeartbeats 6400000 in
theorem rdCall_any (rb cb : Nat) (k c : Int) (s : ByteArray) (w : World) (hs : s.size ≤ 140737488351232) (hr : IsRd rb s 0 w) (hne : cb ≠ rb) (hc : IsCm cb ⟨k, c, 0, 0, 0, 0, ⟨#[]⟩, ⟨#[]⟩, 0⟩ w) :
    Calls Tryz.prog 47 #[.pointer (some ⟨rb, 0, none⟩), .pointer (some ⟨cb, 0, none⟩)] w fun x w' => x = .returned (.tuple #[]) ∧ IsRd rb (decCall k c s).2.1 (decCall k c s).2.2 w' ∧ IsCm cb (decCall k c s).1 w' ∧ Two rb cb w w' := by
  have hlr : rb < w.heap.size := (Array.getElem?_eq_some_iff.1 hr).1
  have hlc : cb < w.heap.size := (Array.getElem?_eq_some_iff.1 hc).1
  have HR := chid hr
  have HC := chid hc
  clear hr hc
  go_enter Tryz.func47, Tryz.ntmps47
  go_wp2_with fail
  go_region
  have hb0 : Below w.heap.size w (w.alloc (.cells #[.pointer (some ⟨cb, 2, none⟩), .pointer (some ⟨cb, 3, none⟩), .pointer (some ⟨cb, 4, none⟩), .pointer (some ⟨cb, 5, none⟩), .pointer (some ⟨cb, 8, none⟩)] 159)).drew := ((Below.refl _ _).alloc (Nat.le_refl _) _).drew
  have HB0 := chid hb0
  clear hb0
  go_wp2
  go_loopw [25] (fun i wr => ∃ j : Nat, j ≤ 5 ∧ i = .int .i64 j ∧ IsRd rb (rdAt s j).1 (rdAt s j).2 wr ∧ wr.heap[cb]? = some (.cells (csAt k c s j) 67 (0, 0)) ∧ wr.heap[w.heap.size]? = some (.cells #[.pointer (some ⟨cb, 2, none⟩), .pointer (some ⟨cb, 3, none⟩), .pointer (some ⟨cb, 4, none⟩), .pointer (some ⟨cb, 5, none⟩), .pointer (some ⟨cb, 8, none⟩)] 159 (0, 0)) ∧ Two rb cb w wr) (fun i _ => 5 - (intOf i).toNat)
  case atStart =>
    refine ⟨0, by omega, rfl, (HB0.out.block _ hlr).trans HR.out, (HB0.out.block _ hlc).trans HC.out, ?_, Two.of_below HB0.out⟩
    exact heap_alloc_new w _
  case round =>
    obtain ⟨j, hj, rfl, hrd, hcm, hrow, htw⟩ := hrel
    have HRD := chid hrd
    have HCM := chid hcm
    have HRW := chid hrow
    have HTW := chid htw
    have hzr : w.heap.size < wr.heap.size := (Array.getElem?_eq_some_iff.1 hrow).1
    clear hrd hcm hrow htw
    by_cases hlt : j < 5
    · have hcx : wr.cell? ⟨w.heap.size, j, none⟩ = some (.pointer (some ⟨cb, offN j, none⟩)) := by
        rw [Lib.cell_of_heap HRW.out]
        rcases (by omega : j = 0 ∨ j = 1 ∨ j = 2 ∨ j = 3 ∨ j = 4) with rfl | rfl | rfl | rfl | rfl <;> rfl
      have CN := chid (rdNumber_any rb cb (offN j) (rdAt s j) (csAt k c s j) wr (Nat.le_trans (rdAt_size s j) hs) HRD.out hne HCM.out (csAt_next k c s j hlt))
      obtain ⟨o, ho⟩ : ∃ o, o = offN j := ⟨_, rfl⟩
      rw [← ho] at hcx CN
      have HO := chid ho
      clear ho
      go_wp2_with fail
      refine CN.out.mono ?_
      rintro e w2 ⟨rfl, hr2, hc2, ht2⟩
      have HR2 := chid hr2
      have HC2 := chid hc2
      have HW2 : Hid (w2.heap[w.heap.size]? = _) := (ht2.block _ hzr (by omega) (by omega)).trans HRW.out
      have HT2 := chid (HTW.out.trans ht2)
      clear hr2 hc2 ht2 hcx CN
      go_wp2
      go_roundw
      case rel =>
        refine ⟨j + 1, by omega, by go_num, HR2.out, ?_, HW2.out, HT2.out⟩
        have h := HC2.out
        rw [HO.out] at h
        exact h
      case measure => simp [intOf]; omega
    · obtain rfl : j = 5 := by omega
      have h6 : (csAt k c s 5)[6]? = some (.string ⟨#[]⟩) := by rw [csAt_five]; rfl
      have CT := chid (rdText_any rb cb 6 (rdAt s 5) (csAt k c s 5) wr (Nat.le_trans (rdAt_size s 5) hs) HRD.out hne HCM.out h6)
      clear h6 hlt hj
      go_wp2_with fail
      refine CT.out.mono ?_
      rintro e w2 ⟨rfl, hr2, hc2, ht2⟩
      have h7 : ((csAt k c s 5).setIfInBounds 6 (.string (stepT (rdAt s 5)).1))[7]? = some (.string ⟨#[]⟩) := by rw [csAt_five]; rfl
      have CU := chid (rdText_any rb cb 7 (stepT (rdAt s 5)).2 _ w2 (Nat.le_trans (stepT_size _).2 (Nat.le_trans (rdAt_size s 5) hs)) hr2 hne hc2 h7)
      have HT2 := chid (HTW.out.trans ht2)
      clear hr2 hc2 ht2 CT h7
      go_wp2_with fail
      refine CU.out.mono ?_
      rintro e w3 ⟨rfl, hr3, hc3, ht3⟩
      have HR3 := chid hr3
      have HC3 := chid hc3
      have HT3 := chid (HT2.out.trans ht3)
      clear hr3 hc3 ht3 CU
      go_wp2
      go_end0
      refine ⟨rfl, HR3.out, ?_, HT3.out⟩
      have h := HC3.out
      rw [csAt_five] at h
      exact h

end Go.Proofs.YtijilhbdbeajjaaGreatDoor

namespace Go.Proofs.YtijilhbdbeajjaaGreatDoor

open Go.RowKit

set_option maxHeartbeats 1600000 in
theorem op_eqIn (d : Nat) (k n k' n' : Int) (a b a' b' : ByteArray) (w : World) : (Op.equalIn (d + 2) 38 (.agg #[.int .i64 k, .string a, .string b, .int .i64 n]) (.agg #[.int .i64 k', .string a', .string b', .int .i64 n'])).run Tryz.prog w = .ok (k == k' && (a.toList == a'.toList && (b.toList == b'.toList && n == n'))) w := by
  have u3 := Tryz.underlying3
  have a3 := Tryz.isAgg3
  have z3 := Tryz.sizeOf3
  have u9 := Tryz.underlying9
  have a9 := Tryz.isAgg9
  have z9 := Tryz.sizeOf9
  have hS : Tryz.prog.underlying 38 = some (.struct (Tryz.prog.fieldsOf 38)) := by kernel_rfl
  have hp : Tryz.prog.stoodInHeld 38 = false := by kernel_rfl
  rw [run_equalIn_agg w (d + 1) 38 _ _ hS hp]
  simp only [Program.fieldsOf, Tryz.underlying38]
  go_simp
  by_cases h1 : k = k'
  · by_cases h2 : a.toList = a'.toList
    · by_cases h3 : b.toList = b'.toList
      · by_cases h4 : n = n'
        · simp [h1, h2, h3, h4]
        · simp [h1, h2, h3, h4]
      · simp [h1, h2, h3]
    · simp [h1, h2]
  · simp [h1]

set_option maxHeartbeats 1600000 in
/-- Two commands are equal where all their parts are. -/
theorem cmd_eqIn (d : Nat) (k c s q u ok n k' c' s' q' u' ok' n' : Int) (a b a' b' : ByteArray) (w : World) :
    (Op.equalIn (d + 3) 67 (.agg #[.int .i64 k, .int .i64 c, .int .i64 s, .int .i64 q, .int .i64 u, .int .i64 ok, .string a, .string b, .int .i64 n]) (.agg #[.int .i64 k', .int .i64 c', .int .i64 s', .int .i64 q', .int .i64 u', .int .i64 ok', .string a', .string b', .int .i64 n'])).run Tryz.prog w
      = .ok (k == k' && (c == c' && (s == s' && (q == q' && (u == u' && (ok == ok' && (a.toList == a'.toList && (b.toList == b'.toList && n == n')))))))) w := by
  have u3 := Tryz.underlying3
  have a3 := Tryz.isAgg3
  have z3 := Tryz.sizeOf3
  have a34 := Tryz.isAgg38
  have z34 := Tryz.sizeOf38
  have ho := op_eqIn d ok n ok' n' a b a' b'
  have hS : Tryz.prog.underlying 67 = some (.struct (Tryz.prog.fieldsOf 67)) := by kernel_rfl
  have hp : Tryz.prog.stoodInHeld 67 = false := by kernel_rfl
  rw [run_equalIn_agg w (d + 2) 67 _ _ hS hp]
  simp only [Program.fieldsOf, Tryz.underlying67]
  go_simp
  by_cases h1 : k = k'
  · by_cases h2 : c = c'
    · by_cases h3 : s = s'
      · by_cases h4 : q = q'
        · by_cases h5 : u = u'
          · cases h6 : (ok == ok' && (a.toList == a'.toList && (b.toList == b'.toList && n == n')))
            · simp [h1, h2, h3, h4, h5]; simpa using h6
            · simp [h1, h2, h3, h4, h5]; simpa using h6
          · simp [h1, h2, h3, h4, h5]
        · simp [h1, h2, h3, h4]
      · simp [h1, h2, h3]
    · simp [h1, h2]
  · simp [h1]

/-- Is a command empty but for its kind and its client? -/
theorem cmd_empty (k c s q u ok n : Int) (a b : ByteArray) (h : s = 0 ∧ q = 0 ∧ u = 0 ∧ ok = 0 ∧ a.size = 0 ∧ b.size = 0 ∧ n = 0) (w : World) :
    (binOp .neq 67 (.agg #[.int .i64 k, .int .i64 c, .int .i64 s, .int .i64 q, .int .i64 u, .int .i64 ok, .string a, .string b, .int .i64 n]) (.agg #[.int .i64 k, .int .i64 c, .int .i64 0, .int .i64 0, .int .i64 0, .int .i64 0, .string ⟨#[]⟩, .string ⟨#[]⟩, .int .i64 0])).run Tryz.prog w = .ok (.bool false) w := by
  obtain ⟨rfl, rfl, rfl, rfl, ha, hb, rfl⟩ := h
  obtain rfl := size_zero ha
  obtain rfl := size_zero hb
  rw [run_neq_struct, show (10000 : Nat) = 9997 + 3 from rfl, cmd_eqIn]
  simp

theorem cmd_filled (k c s q u ok n : Int) (a b : ByteArray) (h : ¬ (s = 0 ∧ q = 0 ∧ u = 0 ∧ ok = 0 ∧ a.size = 0 ∧ b.size = 0 ∧ n = 0)) (w : World) :
    (binOp .neq 67 (.agg #[.int .i64 k, .int .i64 c, .int .i64 s, .int .i64 q, .int .i64 u, .int .i64 ok, .string a, .string b, .int .i64 n]) (.agg #[.int .i64 k, .int .i64 c, .int .i64 0, .int .i64 0, .int .i64 0, .int .i64 0, .string ⟨#[]⟩, .string ⟨#[]⟩, .int .i64 0])).run Tryz.prog w = .ok (.bool true) w := by
  rw [run_neq_struct, show (10000 : Nat) = 9997 + 3 from rfl, cmd_eqIn]
  have hx : (k == k && (c == c && (s == 0 && (q == 0 && (u == 0 && (ok == 0 && (a.toList == (⟨#[]⟩ : ByteArray).toList && (b.toList == (⟨#[]⟩ : ByteArray).toList && n == 0)))))))) = false := by
    cases hc : (k == k && (c == c && (s == 0 && (q == 0 && (u == 0 && (ok == 0 && (a.toList == (⟨#[]⟩ : ByteArray).toList && (b.toList == (⟨#[]⟩ : ByteArray).toList && n == 0)))))))) with
    | false => rfl
    | true =>
      simp only [Bool.and_eq_true, beq_iff_eq, ByteArray.toList_eq] at hc
      obtain ⟨-, -, e1, e2, e3, e4, e5, e6, e7⟩ := hc
      refine absurd ⟨e1, e2, e3, e4, ?_, ?_, e7⟩ h
      · have : a.data.toList.length = a.size := by simp
        rw [← this, e5]; rfl
      · have : b.data.toList.length = b.size := by simp
        rw [← this, e6]; rfl
  rw [hx]
  rfl

end Go.Proofs.YtijilhbdbeajjaaGreatDoor

namespace Go.Proofs.YtijilhbdbeajjaaGreatDoor

open Go.RowKit

/-- The limits of a Call's numbers. -/
def callR (s q u : Int) : Prop := (1 ≤ s ∧ s ≤ 1073741824) ∧ (1 ≤ q ∧ q ≤ 1048576) ∧ (0 ≤ u ∧ u ≤ q - 1)

/-- The cells of a command, boxed. -/
theorem cbox (w : World) (k c s q u ok : Int) (a b : ByteArray) (n : Int) : Below w.heap.size w (w.alloc (.cells #[.int .i64 k, .int .i64 c, .int .i64 s, .int .i64 q, .int .i64 u, .int .i64 ok, .string a, .string b, .int .i64 n] 67)) :=
  (Below.refl _ _).alloc (Nat.le_refl _) _

set_option maxHeartbeats 1600000 in
theorem checkCall_no (k c s q u ok : Int) (a b : ByteArray) (n : Int) (w : World) (hq : FitsC q) (h : ¬ callR s q u) :
    Calls Tryz.prog 81 #[.agg #[.int .i64 k, .int .i64 c, .int .i64 s, .int .i64 q, .int .i64 u, .int .i64 ok, .string a, .string b, .int .i64 n]] w fun e w' => e = .returned (.int .i64 2) ∧ Below w.heap.size w w' := by
  have HB := chid (cbox w k c s q u ok a b n)
  obtain ⟨hq1, hq2⟩ := hq
  by_cases h1 : 1 ≤ s ∧ s ≤ 1073741824
  · by_cases h2 : 1 ≤ q ∧ q ≤ 1048576
    · have h3 : ¬ (0 ≤ u ∧ u ≤ q - 1) := fun h3 => h ⟨h1, h2, h3⟩
      have hw : IntKind.i64.wrap (q - 1) = q - 1 := by rw [IntKind.wrap_i64]; omega
      clear h
      go_enter Tryz.func81, Tryz.ntmps81
      go_wp2_with fail
      refine (within_yes s 1 1073741824 _ h1).mono ?_
      rintro e w1 ⟨rfl, rfl⟩
      go_wp2_with fail
      refine (within_yes q 1 1048576 _ h2).mono ?_
      rintro e w1 ⟨rfl, rfl⟩
      go_wp2_with fail
      refine (within_no u 0 (q - 1) _ h3).mono ?_
      rintro e w1 ⟨rfl, rfl⟩
      go_wp2
      go_ret
      exact ⟨rfl, HB.out⟩
    · clear h
      go_enter Tryz.func81, Tryz.ntmps81
      go_wp2_with fail
      refine (within_yes s 1 1073741824 _ h1).mono ?_
      rintro e w1 ⟨rfl, rfl⟩
      go_wp2_with fail
      refine (within_no q 1 1048576 _ h2).mono ?_
      rintro e w1 ⟨rfl, rfl⟩
      go_wp2
      go_ret
      exact ⟨rfl, HB.out⟩
  · clear h
    go_enter Tryz.func81, Tryz.ntmps81
    go_wp2_with fail
    refine (within_no s 1 1073741824 _ h1).mono ?_
    rintro e w1 ⟨rfl, rfl⟩
    go_wp2
    go_ret
    exact ⟨rfl, HB.out⟩

set_option maxHeartbeats 1600000 in
theorem checkCall_yes (k c s q u ok : Int) (a b : ByteArray) (n : Int) (w : World) (ha : ShortC a) (hb : ShortC b) (h : callR s q u) :
    Calls Tryz.prog 81 #[.agg #[.int .i64 k, .int .i64 c, .int .i64 s, .int .i64 q, .int .i64 u, .int .i64 ok, .string a, .string b, .int .i64 n]] w fun e w' => e = .returned (.int .i64 (opE ok a b n)) ∧ Below w.heap.size w w' := by
  have HB := chid (cbox w k c s q u ok a b n)
  obtain ⟨h1, h2, h3⟩ := h
  have hw : IntKind.i64.wrap (q - 1) = q - 1 := by rw [IntKind.wrap_i64]; omega
  have CO := chid (fun w => checkOp_any ok a b n w ha hb)
  obtain ⟨r, hr⟩ : ∃ r, r = opE ok a b n := ⟨_, rfl⟩
  rw [← hr] at CO ⊢
  clear hr ha hb
  go_enter Tryz.func81, Tryz.ntmps81
  go_wp2_with fail
  refine (within_yes s 1 1073741824 _ h1).mono ?_
  rintro e w1 ⟨rfl, rfl⟩
  go_wp2_with fail
  refine (within_yes q 1 1048576 _ h2).mono ?_
  rintro e w1 ⟨rfl, rfl⟩
  go_wp2_with fail
  refine (within_yes u 0 (q - 1) _ h3).mono ?_
  rintro e w1 ⟨rfl, rfl⟩
  go_wp2_with fail
  refine (CO.out _).mono ?_
  rintro e w2 ⟨rfl, hb2⟩
  have HB2 := chid (HB.out.trans (hb2.mono (by simp)))
  clear hb2
  go_wp2
  go_ret
  exact ⟨rfl, HB2.out⟩

theorem cmdE_kind {k c s q u ok : Int} {a b : ByteArray} {n : Int} (h : ¬ (1 ≤ k ∧ k ≤ 3)) : cmdE k c s q u ok a b n = 3 := if_pos h

theorem cmdE_client {k c s q u ok : Int} {a b : ByteArray} {n : Int} (h : 1 ≤ k ∧ k ≤ 3) (h2 : ¬ (1 ≤ c ∧ c ≤ 9)) : cmdE k c s q u ok a b n = 2 := by unfold cmdE; rw [if_neg (by omega), if_pos h2]

theorem cmdE_callNo {c s q u ok : Int} {a b : ByteArray} {n : Int} (h2 : 1 ≤ c ∧ c ≤ 9) (h : ¬ callR s q u) : cmdE 2 c s q u ok a b n = 2 := by unfold callR at h; unfold cmdE; rw [if_neg (by omega), if_neg (by omega), if_pos rfl, if_neg h]

theorem cmdE_callYes {c s q u ok : Int} {a b : ByteArray} {n : Int} (h2 : 1 ≤ c ∧ c ≤ 9) (h : callR s q u) : cmdE 2 c s q u ok a b n = opE ok a b n := by unfold callR at h; unfold cmdE; rw [if_neg (by omega), if_neg (by omega), if_pos rfl, if_pos h]

theorem cmdE_restYes {k c s q u ok : Int} {a b : ByteArray} {n : Int} (h : 1 ≤ k ∧ k ≤ 3) (h2 : 1 ≤ c ∧ c ≤ 9) (hk : k ≠ 2) (h3 : s = 0 ∧ q = 0 ∧ u = 0 ∧ ok = 0 ∧ a.size = 0 ∧ b.size = 0 ∧ n = 0) : cmdE k c s q u ok a b n = 0 := by unfold cmdE; rw [if_neg (by omega), if_neg (by omega), if_neg hk, if_pos h3]

theorem cmdE_restNo {k c s q u ok : Int} {a b : ByteArray} {n : Int} (h : 1 ≤ k ∧ k ≤ 3) (h2 : 1 ≤ c ∧ c ≤ 9) (hk : k ≠ 2) (h3 : ¬ (s = 0 ∧ q = 0 ∧ u = 0 ∧ ok = 0 ∧ a.size = 0 ∧ b.size = 0 ∧ n = 0)) : cmdE k c s q u ok a b n = 4 := by unfold cmdE; rw [if_neg (by omega), if_neg (by omega), if_neg hk, if_neg h3]

set_option maxHeartbeats 3200000 in
theorem cmdCheck_any (k c s q u ok : Int) (a b : ByteArray) (n : Int) (w : World) (hq : FitsC q) (ha : ShortC a) (hb : ShortC b) :
    Calls Tryz.prog 49 #[.agg #[.int .i64 k, .int .i64 c, .int .i64 s, .int .i64 q, .int .i64 u, .int .i64 ok, .string a, .string b, .int .i64 n]] w fun e w' => e = .returned (.int .i64 (cmdE k c s q u ok a b n)) ∧ Below w.heap.size w w' := by
  have HB := chid (cbox w k c s q u ok a b n)
  by_cases h1 : 1 ≤ k ∧ k ≤ 3
  · by_cases h2 : 1 ≤ c ∧ c ≤ 9
    · by_cases hk : k = 2
      · subst hk
        obtain ⟨r, hr, CC⟩ : ∃ r, cmdE 2 c s q u ok a b n = r ∧ Hid (∀ w : World, Calls Tryz.prog 81 #[.agg #[.int .i64 2, .int .i64 c, .int .i64 s, .int .i64 q, .int .i64 u, .int .i64 ok, .string a, .string b, .int .i64 n]] w fun e w' => e = .returned (.int .i64 r) ∧ Below w.heap.size w w') := by
          by_cases hc : callR s q u
          · exact ⟨_, cmdE_callYes h2 hc, fun w => checkCall_yes 2 c s q u ok a b n w ha hb hc⟩
          · exact ⟨_, cmdE_callNo h2 hc, fun w => checkCall_no 2 c s q u ok a b n w hq hc⟩
        rw [hr]
        clear hr ha hb hq
        go_enter Tryz.func49, Tryz.ntmps49
        go_wp2_with fail
        refine (within_yes 2 1 3 _ h1).mono ?_
        rintro e w1 ⟨rfl, rfl⟩
        go_wp2_with fail
        refine (within_yes c 1 9 _ h2).mono ?_
        rintro e w1 ⟨rfl, rfl⟩
        go_wp2_with fail
        refine (CC.out _).mono ?_
        rintro e w2 ⟨rfl, hb2⟩
        have HB2 := chid (HB.out.trans (hb2.mono (by simp)))
        clear hb2
        go_wp2
        go_ret
        exact ⟨rfl, HB2.out⟩
      · have hk2 : (k == 2) = false := by simpa using hk
        have hgd : Tryz.prog.eqGuardType Tryz.prog.depth 67 = false := by kernel_rfl
        by_cases h3 : s = 0 ∧ q = 0 ∧ u = 0 ∧ ok = 0 ∧ a.size = 0 ∧ b.size = 0 ∧ n = 0
        · rw [cmdE_restYes h1 h2 hk h3]
          have he := fun w => cmd_empty k c s q u ok n a b h3 w
          clear h3 ha hb hq
          go_enter Tryz.func49, Tryz.ntmps49
          go_wp2_with fail
          refine (within_yes k 1 3 _ h1).mono ?_
          rintro e w1 ⟨rfl, rfl⟩
          go_wp2_with fail
          refine (within_yes c 1 9 _ h2).mono ?_
          rintro e w1 ⟨rfl, rfl⟩
          go_wp2
          go_ret
          exact ⟨rfl, HB.out⟩
        · rw [cmdE_restNo h1 h2 hk h3]
          have he := fun w => cmd_filled k c s q u ok n a b h3 w
          clear h3 ha hb hq
          go_enter Tryz.func49, Tryz.ntmps49
          go_wp2_with fail
          refine (within_yes k 1 3 _ h1).mono ?_
          rintro e w1 ⟨rfl, rfl⟩
          go_wp2_with fail
          refine (within_yes c 1 9 _ h2).mono ?_
          rintro e w1 ⟨rfl, rfl⟩
          go_wp2
          go_ret
          exact ⟨rfl, HB.out⟩
    · rw [cmdE_client h1 h2]
      go_enter Tryz.func49, Tryz.ntmps49
      go_wp2_with fail
      refine (within_yes k 1 3 _ h1).mono ?_
      rintro e w1 ⟨rfl, rfl⟩
      go_wp2_with fail
      refine (within_no c 1 9 _ h2).mono ?_
      rintro e w1 ⟨rfl, rfl⟩
      go_wp2
      go_ret
      exact ⟨rfl, HB.out⟩
  · rw [cmdE_kind h1]
    go_enter Tryz.func49, Tryz.ntmps49
    go_wp2_with fail
    refine (within_no k 1 3 _ h1).mono ?_
    rintro e w1 ⟨rfl, rfl⟩
    go_wp2
    go_ret
    exact ⟨rfl, HB.out⟩

end Go.Proofs.YtijilhbdbeajjaaGreatDoor
