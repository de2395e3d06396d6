/- log.refusePut, log.passedOver; slices.Equal of texts; log.beginsWith (joined by program) -/
import Derived.Laws.StructEq
import Derived.BigQuiet
import Derived.Test.YtkmeiilnjkmkiaiDoorLC15
import Derived.Test.YtkmeiilnjkmkiaiDoorLC04
namespace Go.Proofs.YtkmeiilnjkmkiaiDoor

open Go.RowKit

/-- What Put refuses, whatever the entries are. -/
def refE (l : LogD) (behind : Int) (n : Nat) : Int :=
  if logE l ≠ 0 then logE l else if ¬ (0 ≤ behind ∧ behind ≤ 1073741824) then 2 else if 400 < n then 1 else if lastL l < behind then 13 else 0

set_option maxRecDepth 100000 in
set_option maxHeartbeats 1600000 in
theorem refusePut_any (v : Value) (l : LogD) (i : Int) (mo : Option Addr) (mn mc : Nat) (w : World) (B : Nat) (hv : LogR w B v l) (hB : B ≤ w.heap.size) (hi : -9223372036854775808 ≤ i ∧ i ≤ 9223372036854775807) (hmn : mn * 16 ≤ 140737488351232) :
    Calls Tryd.prog 16 #[v, .int .i64 i, .slice mo mn mc] w fun e w' => e = .returned (.int .i64 (refE l i mn)) ∧ Below w.heap.size w w' := by
  obtain ⟨eo, ec, rfl, ht⟩ := hv.shape
  have hbx : Below w.heap.size w (w.alloc (.cells #[.int .i64 l.base, .slice eo l.ents.length ec] 28)) := (Below.refl _ _).alloc (Nat.le_refl _) _
  have CC := ghid (logCheck_any _ l (w.alloc (.cells #[.int .i64 l.base, .slice eo l.ents.length ec] 28)) B (hv.below hbx hB) (by have := hbx.size; omega))
  clear hv ht hbx
  by_cases h0 : logE l = 0
  · obtain ⟨⟨hb0, hb1, hln⟩, -⟩ := logE_zero h0
    rw [h0] at CC
    have CL := ghid (fun u => last_raw l.base eo l.ents.length ec u ⟨hb0, hb1, hln⟩)
    have HE0 := ghid h0
    clear h0
    by_cases h1 : 0 ≤ i ∧ i ≤ 1073741824
    · by_cases h2 : 400 < mn
      · have HE : Hid (refE l i mn = 1) := by
          unfold Hid refE
          rw [HE0.out, if_neg (by simp), if_neg (by simpa using h1), if_pos h2]
        rw [HE.out]
        go_enter Tryd.func16, Tryd.ntmps16
        go_wp2_with fail
        refine CC.out.mono ?_
        rintro e w1 ⟨rfl, hb⟩
        obtain ⟨hx, hbw⟩ := box_after (by simpa using hb)
        have HB := ghid hbw
        clear hb hx hbw CC
        go_wp2
        go_ret
        exact ⟨rfl, HB.out⟩
      · by_cases h3 : l.base + l.ents.length < i
        · have HE : Hid (refE l i mn = 13) := by
            unfold Hid refE lastL
            rw [HE0.out, if_neg (by simp), if_neg (by simpa using h1), if_neg h2, if_pos h3]
          rw [HE.out]
          go_enter Tryd.func16, Tryd.ntmps16
          go_wp2_with fail
          refine CC.out.mono ?_
          rintro e w1 ⟨rfl, hb⟩
          obtain ⟨hx, hbw⟩ := box_after (by simpa using hb)
          obtain ⟨c0, c1, hcl⟩ := two_cells hx
          have HB := ghid hbw
          clear hb hx hbw CC
          go_wp2_with fail
          refine (CL.out _).mono ?_
          rintro e w2 ⟨rfl, hb2⟩
          have HB2 := ghid (HB.out.trans (hb2.mono HB.out.size))
          clear hb2
          go_wp2
          go_ret
          exact ⟨rfl, HB2.out⟩
        · have HE : Hid (refE l i mn = 0) := by
            unfold Hid refE lastL
            rw [HE0.out, if_neg (by simp), if_neg (by simpa using h1), if_neg h2, if_neg h3]
          rw [HE.out]
          go_enter Tryd.func16, Tryd.ntmps16
          go_wp2_with fail
          refine CC.out.mono ?_
          rintro e w1 ⟨rfl, hb⟩
          obtain ⟨hx, hbw⟩ := box_after (by simpa using hb)
          obtain ⟨c0, c1, hcl⟩ := two_cells hx
          have HB := ghid hbw
          clear hb hx hbw CC
          go_wp2_with fail
          refine (CL.out _).mono ?_
          rintro e w2 ⟨rfl, hb2⟩
          have HB2 := ghid (HB.out.trans (hb2.mono HB.out.size))
          clear hb2
          go_wp2
          go_ret
          exact ⟨rfl, HB2.out⟩
    · have HE : Hid (refE l i mn = 2) := by
        unfold Hid refE
        rw [HE0.out, if_neg (by simp), if_pos h1]
      rw [HE.out]
      by_cases h2 : i < 0
      · clear h1
        go_enter Tryd.func16, Tryd.ntmps16
        go_wp2_with fail
        refine CC.out.mono ?_
        rintro e w1 ⟨rfl, hb⟩
        obtain ⟨hx, hbw⟩ := box_after (by simpa using hb)
        have HB := ghid hbw
        clear hb hx hbw CC
        go_wp2
        go_ret
        exact ⟨rfl, HB.out⟩
      · have h3 : 1073741824 < i := by omega
        clear h1
        go_enter Tryd.func16, Tryd.ntmps16
        go_wp2_with fail
        refine CC.out.mono ?_
        rintro e w1 ⟨rfl, hb⟩
        obtain ⟨hx, hbw⟩ := box_after (by simpa using hb)
        have HB := ghid hbw
        clear hb hx hbw CC
        go_wp2
        go_ret
        exact ⟨rfl, HB.out⟩
  · have HE : Hid (refE l i mn = logE l) := if_pos h0
    rw [HE.out]
    obtain ⟨c, hc⟩ : ∃ c, c = logE l := ⟨_, rfl⟩
    rw [← hc] at CC h0 ⊢
    have hcb : (c != 0) = true := by simpa using h0
    clear h0 hc
    go_enter Tryd.func16, Tryd.ntmps16
    go_wp2_with fail
    refine CC.out.mono ?_
    rintro e w1 ⟨rfl, hb⟩
    obtain ⟨-, hbw⟩ := box_after (by simpa using hb)
    have HB := ghid hbw
    clear hb hbw CC
    go_wp2
    go_ret
    exact ⟨rfl, HB.out⟩

set_option maxHeartbeats 800000 in
theorem passedOver_any (base i : Int) (eo mo : Option Addr) (n ec mn mc k : Nat) (w : World) (h0 : 0 ≤ base ∧ base ≤ 1073741424) (hi : 0 ≤ i ∧ i ≤ 1073741824) (hk : min (max (base - i) 0) (mn : Int) = (k : Int)) :
    Calls Tryd.prog 17 #[.agg #[.int .i64 base, .slice eo n ec], .int .i64 i, .slice mo mn mc] w fun e w' => e = .returned (.int .i64 k) ∧ Below w.heap.size w w' := by
  have HB0 : Hid (Below w.heap.size w (w.alloc (.cells #[.int .i64 base, .slice eo n ec] 28))) := (Below.refl _ _).alloc (Nat.le_refl _) _
  go_enter Tryd.func17, Tryd.ntmps17
  go_wp2
  go_ret
  exact ⟨rfl, HB0.out⟩

end Go.Proofs.YtkmeiilnjkmkiaiDoor

namespace Go.Proofs.YtkmeiilnjkmkiaiDoor

open Go.RowKit

set_option maxRecDepth 100000 in
set_option maxHeartbeats 1600000 in
theorem equalTexts_any (v u : Value) (ps qs : List ByteArray) (w : World) (B B' : Nat) (hv : TextsR w B v ps) (hu : TextsR w B' u qs) :
    Calls Tryd.prog 10 #[v, u] w fun e w' => e = .returned (.bool (decide (ps = qs))) ∧ ∃ n, w' = w.drewN n := by
  obtain ⟨ao, cap, rfl, h1, h2, h3, h4⟩ := hv
  obtain ⟨au, cau, rfl, g1, g2, g3, g4⟩ := hu
  by_cases hl : ps.length = qs.length
  · have HL := ghid hl
    obtain ⟨n, hn⟩ : ∃ n, n = ps.length := ⟨_, rfl⟩
    have HN := ghid hn
    rw [← hn] at hl
    rw [← hl] at g1 g2 g4 ⊢
    rw [← hn] at h1 h2 h4 ⊢
    have HQ : Hid (qs.length = n) := hl.symm
    clear hl hn
    go_enter Tryd.func10, Tryd.ntmps10
    go_wp2
    go_loopw [13] (fun i wr => ∃ k m : Nat, k ≤ n ∧ i = .int .i64 k ∧ ps.take k = qs.take k ∧ wr = w.drewN m) (fun i _ => n - (intOf i).toNat)
    case atStart => exact ⟨0, 0, Nat.zero_le _, rfl, by simp, rfl⟩
    case round =>
      obtain ⟨k, m, hk, rfl, htk, rfl⟩ := hrel
      have HT := ghid htk
      clear htk
      by_cases hlt : k < n
      · obtain ⟨b, off, rfl, hb, hc⟩ := h4 (by omega)
        obtain ⟨b', off', rfl, hb', hc'⟩ := g4 (by omega)
        obtain ⟨x, hx⟩ : ∃ x, ps[k]? = some x := ⟨_, List.getElem?_eq_getElem (by have := HN.out; omega)⟩
        obtain ⟨y, hy⟩ : ∃ y, qs[k]? = some y := ⟨_, List.getElem?_eq_getElem (by have := HQ.out; omega)⟩
        obtain ⟨c0, -⟩ := hc k x hx
        obtain ⟨d0, -⟩ := hc' k y hy
        have HX := ghid hx
        have HY := ghid hy
        clear hx hy hc h4 hc' g4
        by_cases hxy : x = y
        · subst hxy
          have HT2 : Hid (ps.take (k + 1) = qs.take (k + 1)) := by
            unfold Hid
            rw [List.take_add_one, List.take_add_one, HX.out, HY.out, HT.out]
          go_wp2
          go_quiet (fail)
          go_wp2
          go_roundw
          case rel => exact ⟨k + 1, _, by omega, by go_num, HT2.out, rfl⟩
          case measure => simp [intOf]; omega
        · have hne : (x.toList == y.toList) = false := by
            rw [beq_eq_false_iff_ne]
            intro e
            rw [ByteArray.toList_eq, ByteArray.toList_eq] at e
            exact hxy (ByteArray.ext (Array.toList_inj.1 e))
          have HD : Hid (decide (ps = qs) = false) := by
            unfold Hid
            rw [decide_eq_false_iff_not]
            intro e
            rw [e, HY.out] at HX
            have := HX.out
            simp only [Option.some.injEq] at this
            exact hxy this.symm
          clear hxy
          go_wp2
          go_quiet (fail)
          go_wp2
          go_ret
          exact ⟨by rw [HD.out]; rfl, m + nq, by rw [World.drewN_drewN]⟩
      · have HD : Hid (decide (ps = qs) = true) := by
          unfold Hid
          rw [decide_eq_true_iff]
          have h := HT.out
          rwa [List.take_of_length_le (by have := HN.out; omega), List.take_of_length_le (by have := HQ.out; omega)] at h
        go_wp2
        go_ret
        exact ⟨by rw [HD.out]; rfl, m, rfl⟩
  · have HD : Hid (decide (ps = qs) = false) := by
      unfold Hid
      rw [decide_eq_false_iff_not]
      intro e
      exact hl (congrArg List.length e)
    have hli : ¬ ((ps.length : Int) = (qs.length : Int)) := by omega
    have hlb : ((ps.length : Int) != (qs.length : Int)) = true := bne_iff_ne.2 hli
    clear hl
    go_enter Tryd.func10, Tryd.ntmps10
    go_wp2
    go_ret
    exact ⟨by rw [HD.out]; rfl, 0, rfl⟩

set_option maxRecDepth 100000 in
set_option maxHeartbeats 1600000 in
theorem beginsWith_any (v u : Value) (ts front : List ByteArray) (w : World) (B B' : Nat) (hv : TextsR w B v ts) (hu : TextsR w B' u front) :
    Calls Tryd.prog 19 #[v, u] w fun e w' => e = .returned (.bool (opens front ts)) ∧ ∃ n, w' = w.drewN n := by
  obtain ⟨ao, cap, rfl⟩ := hv.slice
  obtain ⟨au, cau, rfl⟩ := hu.slice
  have hlen := hv.len
  have hlen2 := hu.len
  have hcap := hv.cap
  have hcap2 := hu.cap
  by_cases hl : front.length ≤ ts.length
  · have HO : Hid (opens front ts = decide (ts.take front.length = front)) := by
      unfold Hid opens
      exact decide_eq_decide.2 ⟨Eq.symm, Eq.symm⟩
    have CE := ghid (fun w (h1 : TextsR w B (.slice ao front.length cap) (ts.take front.length)) (h2 : TextsR w B' (.slice au front.length cau) front) => equalTexts_any _ _ _ _ w B B' h1 h2)
    have HV := ghid (hv.front hl)
    have HU := ghid hu
    clear hv hu
    go_enter Tryd.func19, Tryd.ntmps19
    go_wp2_with fail
    refine (CE.out _ HV.out HU.out).mono ?_
    rintro e w1 ⟨rfl, n, rfl⟩
    go_wp2
    go_ret
    exact ⟨by rw [HO.out]; rfl, n, rfl⟩
  · have HO : Hid (opens front ts = false) := by
      unfold Hid opens
      rw [decide_eq_false_iff_not]
      intro e
      have := congrArg List.length e
      rw [List.length_take] at this
      omega
    clear hv hu
    go_enter Tryd.func19, Tryd.ntmps19
    go_wp2
    go_ret
    exact ⟨by rw [HO.out]; rfl, 0, rfl⟩

theorem beginsWith_below (v u : Value) (ts front : List ByteArray) (w : World) (B B' : Nat) (hv : TextsR w B v ts) (hu : TextsR w B' u front) :
    Calls Tryd.prog 19 #[v, u] w fun e w' => e = .returned (.bool (opens front ts)) ∧ Below w.heap.size w w' :=
  (beginsWith_any v u ts front w B B' hv hu).mono fun _ _ ⟨h, n, hw⟩ => ⟨h, by subst hw; exact g_drewN_below _ _ _⟩

end Go.Proofs.YtkmeiilnjkmkiaiDoor
