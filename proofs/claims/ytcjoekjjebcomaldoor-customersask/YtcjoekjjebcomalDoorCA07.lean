/- command.CheckOp and Check, the document's OpFault and CommandFault: what is wrong with an operation, or a command, first; customer.checkWaits, customer.Check (joined by program) -/
import Derived.Deep.DeepCutAuto
import Derived.Laws.StructEq
import Derived.Deep.QuietTactic
import Derived.BigQuiet
import Derived.Test.YtcjoekjjebcomalDoorCA06
import Derived.Test.YtcjoekjjebcomalDoorCA00
import Derived.Test.YtcjoekjjebcomalDoorCA05
namespace Go.Proofs.YtcjoekjjebcomalDoor

open Go.RowKit

theorem chid {p : Prop} (h : p) : Hid p := h

theorem within_yes (n a b : Int) (w : World) (h : a ≤ n ∧ n ≤ b) :
    Calls Tryd.prog 37 #[.int .i64 n, .int .i64 a, .int .i64 b] w fun e w' => e = .returned (.bool true) ∧ w' = w := by
  obtain ⟨h1, h2⟩ := h
  go_enter Tryd.func37, Tryd.ntmps37
  go_wp2
  go_ret
  exact ⟨rfl, rfl⟩

theorem within_no (n a b : Int) (w : World) (h : ¬ (a ≤ n ∧ n ≤ b)) :
    Calls Tryd.prog 37 #[.int .i64 n, .int .i64 a, .int .i64 b] w fun e w' => e = .returned (.bool false) ∧ w' = w := by
  by_cases h1 : a ≤ n
  · have h2 : ¬ n ≤ b := fun h2 => h ⟨h1, h2⟩
    clear h
    go_enter Tryd.func37, Tryd.ntmps37
    go_wp2
    go_ret
    exact ⟨rfl, rfl⟩
  · clear h
    go_enter Tryd.func37, Tryd.ntmps37
    go_wp2
    go_ret
    exact ⟨rfl, rfl⟩

theorem fenceFits_set (a b : ByteArray) (n : Int) (w : World) (h : 1 ≤ n ∧ n ≤ 1073741824) :
    Calls Tryd.prog 40 #[.agg #[.int .i64 5, .string a, .string b, .int .i64 n]] w fun e w' => e = .returned (.bool true) ∧ Below w.heap.size w w' := by
  have HB := chid ((Below.refl w.heap.size w).alloc (Nat.le_refl _) (.cells #[.int .i64 5, .string a, .string b, .int .i64 n] 32))
  go_enter Tryd.func40, Tryd.ntmps40
  go_wp2_with fail
  refine (within_yes n 1 1073741824 _ h).mono ?_
  rintro e w1 ⟨rfl, rfl⟩
  go_wp2
  go_ret
  exact ⟨rfl, HB.out⟩

theorem fenceFits_setNot (a b : ByteArray) (n : Int) (w : World) (h : ¬ (1 ≤ n ∧ n ≤ 1073741824)) :
    Calls Tryd.prog 40 #[.agg #[.int .i64 5, .string a, .string b, .int .i64 n]] w fun e w' => e = .returned (.bool false) ∧ Below w.heap.size w w' := by
  have HB := chid ((Below.refl w.heap.size w).alloc (Nat.le_refl _) (.cells #[.int .i64 5, .string a, .string b, .int .i64 n] 32))
  go_enter Tryd.func40, Tryd.ntmps40
  go_wp2_with fail
  refine (within_no n 1 1073741824 _ h).mono ?_
  rintro e w1 ⟨rfl, rfl⟩
  go_wp2
  go_ret
  exact ⟨rfl, HB.out⟩

theorem fenceFits_other (k : Int) (a b : ByteArray) (w : World) (h : k ≠ 5) :
    Calls Tryd.prog 40 #[.agg #[.int .i64 k, .string a, .string b, .int .i64 0]] w fun e w' => e = .returned (.bool true) ∧ Below w.heap.size w w' := by
  have HB := chid ((Below.refl w.heap.size w).alloc (Nat.le_refl _) (.cells #[.int .i64 k, .string a, .string b, .int .i64 0] 32))
  have h5 : (k == 5) = false := by simpa using h
  clear h
  go_enter Tryd.func40, Tryd.ntmps40
  go_wp2
  go_ret
  exact ⟨rfl, HB.out⟩

theorem fenceFits_otherNot (k : Int) (a b : ByteArray) (n : Int) (w : World) (h : k ≠ 5) (hn : n ≠ 0) :
    Calls Tryd.prog 40 #[.agg #[.int .i64 k, .string a, .string b, .int .i64 n]] w fun e w' => e = .returned (.bool false) ∧ Below w.heap.size w w' := by
  have HB := chid ((Below.refl w.heap.size w).alloc (Nat.le_refl _) (.cells #[.int .i64 k, .string a, .string b, .int .i64 n] 32))
  have h5 : (k == 5) = false := by simpa using h
  have h6 : (n == 0) = false := by simpa using hn
  clear h hn
  go_enter Tryd.func40, Tryd.ntmps40
  go_wp2
  go_ret
  exact ⟨rfl, HB.out⟩

theorem str_ne {b : ByteArray} (h : b.size ≠ 0) : b.toList.isEmpty = false := by
  rw [ByteArray.toList_eq]
  cases hb : b.data.toList with
  | nil =>
    have : b.data.toList.length = b.size := by simp
    rw [hb] at this
    exact absurd this.symm h
  | cons x t => rfl

/-- The kinds of wrong, one by one. -/
theorem opE_kind {k : Int} {a b : ByteArray} {n : Int} (h : ¬ (1 ≤ k ∧ k ≤ 6)) : opE k a b n = 3 := if_pos h

theorem opE_name {k : Int} {a b : ByteArray} {n : Int} (h : 1 ≤ k ∧ k ≤ 6) (h2 : nameB a = false) : opE k a b n = 4 := by unfold opE; rw [if_neg (by omega), if_pos (.inl h2)]

theorem opE_b {k : Int} {a b : ByteArray} {n : Int} (h : 1 ≤ k ∧ k ≤ 6) (h2 : k ≠ 5) (h3 : b.size ≠ 0) : opE k a b n = 4 := by unfold opE; rw [if_neg (by omega), if_pos (.inr ⟨h2, h3⟩)]

theorem opE_past {k : Int} {a b : ByteArray} {n : Int} (h : 1 ≤ k ∧ k ≤ 6) (h2 : nameB a = true) (h3 : k = 5 ∨ b.size = 0) :
    opE k a b n = if 12 < b.size then 1 else if k = 5 then (if 1 ≤ n ∧ n ≤ 1073741824 then 0 else 2) else if n = 0 then 0 else 2 := by
  unfold opE
  rw [if_neg (by omega), if_neg]
  rintro (h4 | ⟨h4, h5⟩)
  · rw [h2] at h4; cases h4
  · rcases h3 with h3 | h3
    · exact h4 h3
    · exact h5 h3

set_option maxHeartbeats 1600000 in
theorem checkOp_any (k : Int) (a b : ByteArray) (n : Int) (w : World) (ha : ShortC a) (hb : ShortC b) :
    Calls Tryd.prog 28 #[.agg #[.int .i64 k, .string a, .string b, .int .i64 n]] w fun e w' => e = .returned (.int .i64 (opE k a b n)) ∧ Below w.heap.size w w' := by
  have hbx := (Below.refl w.heap.size w).alloc (Nat.le_refl _) (.cells #[.int .i64 k, .string a, .string b, .int .i64 n] 32)
  have HB := chid hbx
  clear hbx
  unfold ShortC at ha hb
  by_cases h1 : 1 ≤ k ∧ k ≤ 6
  · cases hna : nameB a with
    | false =>
      rw [opE_name h1 hna]
      have CN := fun w => name_no a w (by omega) hna
      go_enter Tryd.func28, Tryd.ntmps28
      go_wp2_with fail
      refine (within_yes k 1 6 _ h1).mono ?_
      rintro e w1 ⟨rfl, rfl⟩
      go_wp2_with fail
      refine (CN _).mono ?_
      rintro e w1 ⟨rfl, rfl⟩
      go_wp2
      go_ret
      exact ⟨rfl, HB.out⟩
    | true =>
      have CN := fun w => name_yes a w hna
      by_cases h5 : k = 5
      · rw [opE_past h1 hna (.inl h5)]
        subst h5
        by_cases h12 : 12 < b.size
        · rw [if_pos h12]
          go_enter Tryd.func28, Tryd.ntmps28
          go_wp2_with fail
          refine (within_yes 5 1 6 _ h1).mono ?_
          rintro e w1 ⟨rfl, rfl⟩
          go_wp2_with fail
          refine (CN _).mono ?_
          rintro e w1 ⟨rfl, rfl⟩
          go_wp2
          go_ret
          exact ⟨rfl, HB.out⟩
        · rw [if_neg h12, if_pos rfl]
          by_cases hn : 1 ≤ n ∧ n ≤ 1073741824
          · rw [if_pos hn]
            go_enter Tryd.func28, Tryd.ntmps28
            go_wp2_with fail
            refine (within_yes 5 1 6 _ h1).mono ?_
            rintro e w1 ⟨rfl, rfl⟩
            go_wp2_with fail
            refine (CN _).mono ?_
            rintro e w1 ⟨rfl, rfl⟩
            go_wp2_with fail
            refine (fenceFits_set a b n _ hn).mono ?_
            rintro e w2 ⟨rfl, hb2⟩
            have HB2 := chid (HB.out.trans (hb2.mono (by simp)))
            clear hb2
            go_wp2
            go_ret
            exact ⟨rfl, HB2.out⟩
          · rw [if_neg hn]
            go_enter Tryd.func28, Tryd.ntmps28
            go_wp2_with fail
            refine (within_yes 5 1 6 _ h1).mono ?_
            rintro e w1 ⟨rfl, rfl⟩
            go_wp2_with fail
            refine (CN _).mono ?_
            rintro e w1 ⟨rfl, rfl⟩
            go_wp2_with fail
            refine (fenceFits_setNot a b n _ hn).mono ?_
            rintro e w2 ⟨rfl, hb2⟩
            have HB2 := chid (HB.out.trans (hb2.mono (by simp)))
            clear hb2
            go_wp2
            go_ret
            exact ⟨rfl, HB2.out⟩
      · have h5b : (k == 5) = false := by simpa using h5
        by_cases hb0 : b.size = 0
        · rw [opE_past h1 hna (.inr hb0), if_neg (by omega), if_neg h5]
          obtain rfl := size_zero hb0
          by_cases hn : n = 0
          · subst hn
            rw [if_pos rfl]
            go_enter Tryd.func28, Tryd.ntmps28
            go_wp2_with fail
            refine (within_yes k 1 6 _ h1).mono ?_
            rintro e w1 ⟨rfl, rfl⟩
            go_wp2_with fail
            refine (CN _).mono ?_
            rintro e w1 ⟨rfl, rfl⟩
            go_wp2_with fail
            refine (fenceFits_other k a ⟨#[]⟩ _ h5).mono ?_
            rintro e w2 ⟨rfl, hb2⟩
            have HB2 := chid (HB.out.trans (hb2.mono (by simp)))
            clear hb2
            go_wp2
            go_ret
            exact ⟨rfl, HB2.out⟩
          · rw [if_neg hn]
            go_enter Tryd.func28, Tryd.ntmps28
            go_wp2_with fail
            refine (within_yes k 1 6 _ h1).mono ?_
            rintro e w1 ⟨rfl, rfl⟩
            go_wp2_with fail
            refine (CN _).mono ?_
            rintro e w1 ⟨rfl, rfl⟩
            go_wp2_with fail
            refine (fenceFits_otherNot k a ⟨#[]⟩ n _ h5 hn).mono ?_
            rintro e w2 ⟨rfl, hb2⟩
            have HB2 := chid (HB.out.trans (hb2.mono (by simp)))
            clear hb2
            go_wp2
            go_ret
            exact ⟨rfl, HB2.out⟩
        · rw [opE_b h1 h5 hb0]
          have hbn := str_ne hb0
          go_enter Tryd.func28, Tryd.ntmps28
          go_wp2_with fail
          refine (within_yes k 1 6 _ h1).mono ?_
          rintro e w1 ⟨rfl, rfl⟩
          go_wp2_with fail
          refine (CN _).mono ?_
          rintro e w1 ⟨rfl, rfl⟩
          go_wp2
          go_ret
          exact ⟨rfl, HB.out⟩
  · rw [opE_kind h1]
    go_enter Tryd.func28, Tryd.ntmps28
    go_wp2_with fail
    refine (within_no k 1 6 _ h1).mono ?_
    rintro e w1 ⟨rfl, rfl⟩
    go_wp2
    go_ret
    exact ⟨rfl, HB.out⟩

end Go.Proofs.YtcjoekjjebcomalDoor

namespace Go.Proofs.YtcjoekjjebcomalDoor

open Go.RowKit

theorem quiet_at {P : Program} {f : FuncId} {args : Array Value} {v : Value} {X : Nat → World} (n : Nat) (h : Calls P f args (X n) fun e w' => e = .returned v ∧ w' = X n) :
    Calls P f args (X n) fun e w'' => e = .returned v ∧ ∃ m, w'' = X m := h.mono fun _ _ ⟨he, hm⟩ => ⟨he, n, hm⟩

theorem drop_stepW {ws : List WaitD} {k : Nat} {x : WaitD} (h : ws[k]? = some x) : ws.drop k = x :: ws.drop (k + 1) := by
  obtain ⟨hk, he⟩ := List.getElem?_eq_some_iff.1 h
  rw [List.drop_eq_getElem_cons hk, he]

theorem firstW_of {ws : List WaitD} {x : WaitD} (h : ws[0]? = some x) : firstW ws = x.seq := by
  cases ws with
  | nil => simp at h
  | cons y r => simp at h; rw [h]; rfl

set_option maxRecDepth 100000 in
set_option maxHeartbeats 3200000 in
theorem checkWaits_any (v : Value) (c : CustD) (w : World) (B : Nat) (hv : CustR w B v c) (hB : B ≤ w.heap.size) (hn : 1 ≤ c.next ∧ c.next ≤ 1048577) :
    Calls Tryd.prog 27 #[v] w fun e w' => e = .returned (.int .i64 (waitsE c.next (firstW c.waits) 0 c.waits)) ∧ Below w.heap.size w w' := by
  obtain ⟨ao, cap, rfl, hw⟩ := hv.shape
  obtain ⟨id, se, nx, ws⟩ := c
  simp only at hw hn ⊢
  have hb0 : Below w.heap.size w (w.alloc (.cells #[.int .i64 id, .int .i64 se, .int .i64 nx, .slice ao ws.length cap] 25)) := (Below.refl _ _).alloc (Nat.le_refl _) _
  have HX0 := ghid (heap_alloc_new w (.cells #[.int .i64 id, .int .i64 se, .int .i64 nx, .slice ao ws.length cap] 25))
  have HB0 := ghid hb0
  have HWR := ghid hw
  have hlen := hw.len
  have hn0 := hn.1
  have hn1 := hn.2
  clear hv hw hb0 hn
  go_enter Tryd.func27, Tryd.ntmps27
  go_wp2_with fail
  go_loopw [3, 10] (fun a i wr => ∃ (k : Nat) (ah : Int), k ≤ ws.length ∧ i = .int .i64 k ∧ a = .int .i64 ah ∧ 0 ≤ ah ∧ ah ≤ 1048576 ∧ (k = 0 → ah = 0) ∧ (0 < k → 1 ≤ firstW ws ∧ firstW ws ≤ 1048576) ∧ wr.heap[w.heap.size]? = some (.cells #[.int .i64 id, .int .i64 se, .int .i64 nx, .slice ao ws.length cap] 25 (0, 0)) ∧ Below w.heap.size w wr ∧ Hid (waitsE nx (firstW ws) 0 ws = waitsE nx (firstW ws) ah (ws.drop k))) (fun _ i _ => ws.length - (intOf i).toNat)
  case atStart => exact ⟨0, 0, Nat.zero_le _, rfl, rfl, Int.le_refl _, by omega, fun _ => rfl, fun h => absurd h (by omega), HX0.out, HB0.out, rfl⟩
  case round =>
    obtain ⟨k, ah, hk, rfl, rfl, ha0, ha1, hah, hfst, hx, hb, HE⟩ := hrel
    have HB := ghid hb
    have HX := ghid hx
    have hlr : w.heap.size < wr.heap.size := (Array.getElem?_eq_some_iff.1 hx).1
    by_cases hlt : k < ws.length
    · obtain ⟨ao', cap', he, -, -, -, h4⟩ := HWR.out.below hb hB
      simp only [Value.slice.injEq] at he
      obtain ⟨rfl, -, rfl⟩ := he
      obtain ⟨b, off, rfl, hbB, hc⟩ := h4 (by omega)
      have hbr : b < wr.heap.size := by omega
      obtain ⟨x, hxe⟩ : ∃ x, ws[k]? = some x := ⟨_, List.getElem?_eq_getElem hlt⟩
      obtain ⟨y, hye⟩ : ∃ y, ws[0]? = some y := ⟨_, List.getElem?_eq_getElem (by omega)⟩
      obtain ⟨c0, c1, c2, c3, c4, hs1, hs2, -⟩ := hc k x hxe
      obtain ⟨f0, -⟩ := hc 0 y hye
      rw [Nat.zero_mul, Nat.add_zero, ← firstW_of hye] at f0
      rw [drop_stepW hxe] at HE
      have HF1 : Hid (k = 0 → firstW ws = x.seq) := fun e => by
        subst e
        exact firstW_of hxe
      obtain ⟨fs, hfs⟩ : ∃ fs, fs = firstW ws := ⟨_, rfl⟩
      rw [← hfs] at f0 hfst HE HF1
      rw [← hfs]
      obtain ⟨rest, hrest⟩ : ∃ rest, rest = ws.drop (k + 1) := ⟨_, rfl⟩
      rw [← hrest] at HE
      have HREST := ghid hrest
      have HFS := ghid hfs
      obtain ⟨xq, xk, xa, xb, xn⟩ := x
      simp only at c0 c1 c2 c3 c4 hs1 hs2 HF1 HE
      have hba : Below wr.heap.size wr (wr.alloc (.cells #[.int .i64 xq, .int .i64 xk, .string xa, .string xb, .int .i64 xn] 55)) := (Below.refl _ _).alloc (Nat.le_refl _) _
      have HBA : Hid (Below w.heap.size w (wr.alloc (.cells #[.int .i64 xq, .int .i64 xk, .string xa, .string xb, .int .i64 xn] 55))) := HB.out.trans (hba.mono HB.out.size)
      have hxa : (wr.alloc (.cells #[.int .i64 xq, .int .i64 xk, .string xa, .string xb, .int .i64 xn] 55)).heap[w.heap.size]? = _ := (Below.heap_alloc wr _ _ hlr).trans HX.out
      have HXA := ghid hxa
      have HC3A := ghid (fun u => checkOp_any xk xa xb xn u hs1 hs2)
      obtain ⟨p0, p1, p2, p3, -, -⟩ := state_cells hx
      have hsz := HB.out.size
      have hae : IntKind.i64.wrap (ah + 1) = ah + 1 := by rw [IntKind.wrap_i64]; omega
      clear hb hc h4 hxe hye hrest hfs hba hx hxa
      by_cases s1 : ah + 1 ≤ xq ∧ xq ≤ nx - 1
      · have hfb : 1 ≤ fs ∧ fs ≤ 1048576 := by
          by_cases e : k = 0
          · rw [HF1.out e]; omega
          · exact hfst (by omega)
        clear hfst
        have hq1 := s1.1
        have hq2 := s1.2
        by_cases s2 : 4 ≤ xq - fs
        · have H9 : Hid (waitsE nx fs ah (⟨xq, xk, xa, xb, xn⟩ :: rest) = 9) := by unfold Hid waitsE; rw [if_pos (by simp only; omega)]
          clear HC3A
          go_wp2_with fail
          go_quiet ((go_at_call 22; exact quiet_at _ (cu_yes xq (ah + 1) (nx - 1) _ s1)))
          go_wp2
          go_ret
          exact ⟨by rw [← HFS.out, HE.out, H9.out]; rfl, HBA.out.trans (g_drewN_below _ _ _)⟩
        · have HST : Hid (waitsE nx fs ah (⟨xq, xk, xa, xb, xn⟩ :: rest) = if opE xk xa xb xn ≠ 0 then opE xk xa xb xn else waitsE nx fs xq rest) := by unfold Hid; rw [waitsE.eq_2, if_neg (by simp only; omega)]
          go_wp2_with fail
          go_quiet ((go_at_call 22; exact quiet_at _ (cu_yes xq (ah + 1) (nx - 1) _ s1)))
          go_wp2_with fail
          refine (HC3A.out _).mono ?_
          rintro e w2 ⟨rfl, hb2⟩
          have HB2 := ghid ((HBA.out.trans (g_drewN_below _ _ _)).trans (hb2.mono (by simp; omega)))
          have HX2 : Hid (w2.heap[w.heap.size]? = _) := (hb2.block _ (by simp; omega)).trans HXA.out
          obtain ⟨oe, hoe⟩ : ∃ oe, oe = opE xk xa xb xn := ⟨_, rfl⟩
          rw [← hoe] at HST ⊢
          have g2 : w2.heap[wr.heap.size]? = some (.cells #[.int .i64 xq, .int .i64 xk, .string xa, .string xb, .int .i64 xn] 55 (0, 0)) := (hb2.block _ (by simp)).trans (heap_alloc_new wr _)
          obtain ⟨q0, -⟩ := five_cells g2
          clear hb2 hoe HC3A c0 c1 c2 c3 c4 f0 p0 p1 p2 p3 g2
          by_cases ho : oe = 0
          · have HN : Hid (waitsE nx fs 0 ws = waitsE nx fs xq (ws.drop (k + 1))) := by
              unfold Hid
              rw [← HREST.out, HE.out, HST.out, if_neg (fun h => h ho)]
            subst ho
            go_wp2
            go_roundw
            case rel => exact ⟨k + 1, xq, by omega, by go_num, rfl, by omega, by omega, fun e => absurd e (by omega), fun _ => hfb, HX2.out, HB2.out, HN⟩
            case measure => simp [intOf]; omega
          · have hob : (oe != 0) = true := by simpa using ho
            have HNE := ghid ho
            clear ho
            go_wp2
            go_ret
            exact ⟨by rw [← HFS.out, HE.out, HST.out, if_pos HNE.out]; rfl, HB2.out⟩
      · have H9 : Hid (waitsE nx fs ah (⟨xq, xk, xa, xb, xn⟩ :: rest) = 9) := by unfold Hid waitsE; rw [if_pos (by simp only; omega)]
        clear HC3A hfst
        go_wp2_with fail
        go_quiet ((go_at_call 22; exact quiet_at _ (cu_no xq (ah + 1) (nx - 1) _ s1)))
        go_wp2
        go_ret
        exact ⟨by rw [← HFS.out, HE.out, H9.out]; rfl, HBA.out.trans (g_drewN_below _ _ _)⟩
    · have hkl : k = ws.length := by omega
      subst hkl
      rw [List.drop_length] at HE
      go_wp2
      go_ret
      exact ⟨by rw [HE.out]; rfl, HB.out⟩

set_option maxRecDepth 100000 in
set_option maxHeartbeats 1600000 in
theorem custCheck_any (v : Value) (c : CustD) (w : World) (B : Nat) (hv : CustR w B v c) (hB : B ≤ w.heap.size) :
    Calls Tryd.prog 12 #[v] w fun e w' => e = .returned (.int .i64 (checkC c)) ∧ Below w.heap.size w w' := by
  have HV := ghid hv
  obtain ⟨ao, cap, rfl, hw⟩ := hv.shape
  have hlen := hw.len
  have HC : Hid (checkC c = if ¬ (1 ≤ c.id ∧ c.id ≤ 9) ∨ ¬ (0 ≤ c.session ∧ c.session ≤ 1073741824) ∨ ¬ (1 ≤ c.next ∧ c.next ≤ 1048577) then 2 else if 4 < c.waits.length ∨ (0 < c.waits.length ∧ c.session = 0) then 9 else waitsE c.next (firstW c.waits) 0 c.waits) := rfl
  have HCW : Hid (∀ u, Below w.heap.size w u → 1 ≤ c.next ∧ c.next ≤ 1048577 → Calls Tryd.prog 27 #[.agg #[.int .i64 c.id, .int .i64 c.session, .int .i64 c.next, .slice ao c.waits.length cap]] u fun e w' => e = .returned (.int .i64 (waitsE c.next (firstW c.waits) 0 c.waits)) ∧ Below u.heap.size u w') := fun u hu hn => checkWaits_any _ c u B (HV.out.below hu hB) (by have := hu.size; omega) hn
  obtain ⟨id, hid⟩ : ∃ z, z = c.id := ⟨_, rfl⟩
  obtain ⟨se, hse⟩ : ∃ z, z = c.session := ⟨_, rfl⟩
  obtain ⟨nx, hnx⟩ : ∃ z, z = c.next := ⟨_, rfl⟩
  obtain ⟨n, hn⟩ : ∃ z, z = c.waits.length := ⟨_, rfl⟩
  obtain ⟨we, hwe⟩ : ∃ z, z = waitsE c.next (firstW c.waits) 0 c.waits := ⟨_, rfl⟩
  rw [← hwe, ← hid, ← hse, ← hnx, ← hn] at HC
  rw [← hwe, ← hid, ← hse, ← hnx, ← hn] at HCW
  rw [← hid, ← hse, ← hnx, ← hn]
  rw [← hn] at hlen
  have hb0 : Below w.heap.size w (w.alloc (.cells #[.int .i64 id, .int .i64 se, .int .i64 nx, .slice ao n cap] 25)) := (Below.refl _ _).alloc (Nat.le_refl _) _
  have HB0 := ghid hb0
  clear hv hw hb0 HV hid hse hnx hn hwe
  by_cases r1 : 1 ≤ id ∧ id ≤ 9
  · by_cases r2 : 0 ≤ se ∧ se ≤ 1073741824
    · by_cases r3 : 1 ≤ nx ∧ nx ≤ 1048577
      · by_cases r4 : 4 < n ∨ (0 < n ∧ se = 0)
        · have HK : Hid (checkC c = 9) := by
            unfold Hid
            rw [HC.out, if_neg (by omega), if_pos r4]
          rw [HK.out]
          have C1 := ghid r1
          have C2 := ghid r2
          have C3 := ghid r3
          have hways : ((4 : Int) < (n : Int)) ∨ (¬ (4 : Int) < (n : Int) ∧ (0 : Int) < (n : Int) ∧ se = 0) := by omega
          clear r1 r2 r3 r4 HC
          go_enter Tryd.func12, Tryd.ntmps12
          go_wp2_with fail
          refine (isClient_yes _ _ C1.out).mono ?_
          rintro e u1 ⟨rfl, rfl⟩
          go_wp2_with fail
          refine (cu_yes _ _ _ _ C2.out).mono ?_
          rintro e u2 ⟨rfl, rfl⟩
          go_wp2_with fail
          refine (cu_yes _ _ _ _ C3.out).mono ?_
          rintro e u3 ⟨rfl, rfl⟩
          rcases hways with q1 | ⟨q1, q2, q3⟩
          · go_wp2
            go_ret
            exact ⟨rfl, HB0.out⟩
          · subst q3
            go_wp2
            go_ret
            exact ⟨rfl, HB0.out⟩
        · have HK : Hid (checkC c = we) := by
            unfold Hid
            rw [HC.out, if_neg (by omega), if_neg r4]
          rw [HK.out]
          have C1 := ghid r1
          have C2 := ghid r2
          have C3 := ghid r3
          have hways : (¬ (4 : Int) < (n : Int) ∧ (se == 0) = false) ∨ (¬ (4 : Int) < (n : Int) ∧ ¬ (0 : Int) < (n : Int)) := by
            by_cases e : se = 0
            · right; omega
            · left; exact ⟨by omega, beq_eq_false_iff_ne.2 e⟩
          clear r1 r2 r3 r4 HC
          go_enter Tryd.func12, Tryd.ntmps12
          go_wp2_with fail
          refine (isClient_yes _ _ C1.out).mono ?_
          rintro e u1 ⟨rfl, rfl⟩
          go_wp2_with fail
          refine (cu_yes _ _ _ _ C2.out).mono ?_
          rintro e u2 ⟨rfl, rfl⟩
          go_wp2_with fail
          refine (cu_yes _ _ _ _ C3.out).mono ?_
          rintro e u3 ⟨rfl, rfl⟩
          rcases hways with ⟨q1, q2⟩ | ⟨q1, q2⟩
          · go_wp2_with fail
            refine (HCW.out _ HB0.out C3.out).mono ?_
            rintro e w2 ⟨rfl, hb2⟩
            have HB2 := ghid (HB0.out.trans (hb2.mono HB0.out.size))
            clear hb2
            go_wp2
            go_ret
            exact ⟨rfl, HB2.out⟩
          · by_cases q3 : (se == 0) = true
            · go_wp2_with fail
              refine (HCW.out _ HB0.out C3.out).mono ?_
              rintro e w2 ⟨rfl, hb2⟩
              have HB2 := ghid (HB0.out.trans (hb2.mono HB0.out.size))
              clear hb2
              go_wp2
              go_ret
              exact ⟨rfl, HB2.out⟩
            · have q4 : (se == 0) = false := by simpa using q3
              clear q3
              go_wp2_with fail
              refine (HCW.out _ HB0.out C3.out).mono ?_
              rintro e w2 ⟨rfl, hb2⟩
              have HB2 := ghid (HB0.out.trans (hb2.mono HB0.out.size))
              clear hb2
              go_wp2
              go_ret
              exact ⟨rfl, HB2.out⟩
      · have HK : Hid (checkC c = 2) := by
          unfold Hid
          rw [HC.out, if_pos (by omega)]
        rw [HK.out]
        have C1 := ghid r1
        have C2 := ghid r2
        have C3 := ghid r3
        clear r1 r2 r3 HC HCW
        go_enter Tryd.func12, Tryd.ntmps12
        go_wp2_with fail
        refine (isClient_yes _ _ C1.out).mono ?_
        rintro e u1 ⟨rfl, rfl⟩
        go_wp2_with fail
        refine (cu_yes _ _ _ _ C2.out).mono ?_
        rintro e u2 ⟨rfl, rfl⟩
        go_wp2_with fail
        refine (cu_no _ _ _ _ C3.out).mono ?_
        rintro e u3 ⟨rfl, rfl⟩
        go_wp2
        go_ret
        exact ⟨rfl, HB0.out⟩
    · have HK : Hid (checkC c = 2) := by
        unfold Hid
        rw [HC.out, if_pos (by omega)]
      rw [HK.out]
      have C1 := ghid r1
      have C2 := ghid r2
      clear r1 r2 HC HCW
      go_enter Tryd.func12, Tryd.ntmps12
      go_wp2_with fail
      refine (isClient_yes _ _ C1.out).mono ?_
      rintro e u1 ⟨rfl, rfl⟩
      go_wp2_with fail
      refine (cu_no _ _ _ _ C2.out).mono ?_
      rintro e u2 ⟨rfl, rfl⟩
      go_wp2
      go_ret
      exact ⟨rfl, HB0.out⟩
  · have HK : Hid (checkC c = 2) := by
      unfold Hid
      rw [HC.out, if_pos (by omega)]
    rw [HK.out]
    have C1 := ghid r1
    clear r1 HC HCW
    go_enter Tryd.func12, Tryd.ntmps12
    go_wp2_with fail
    refine (isClient_no _ _ C1.out).mono ?_
    rintro e u1 ⟨rfl, rfl⟩
    go_wp2
    go_ret
    exact ⟨rfl, HB0.out⟩

end Go.Proofs.YtcjoekjjebcomalDoor
