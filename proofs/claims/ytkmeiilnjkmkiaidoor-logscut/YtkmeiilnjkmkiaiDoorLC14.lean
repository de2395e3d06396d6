/- command.Decode, at every text; log.checkEntries, log.Check (joined by program) -/
import Derived.WalkKit
import Derived.ProofKit
import Derived.Test.YtkmeiilnjkmkiaiDoorLC13
import Derived.Test.YtkmeiilnjkmkiaiDoorLC04
namespace Go.Proofs.YtkmeiilnjkmkiaiDoor

open Go.RowKit

set_option maxRecDepth 100000 in
set_option maxHeartbeats 1600000 in
theorem decode_long (s : ByteArray) (w : World) (hs : s.size ≤ 140737488351232) (h : 5000 < s.size) :
    Calls Tryd.prog 28 #[.string s] w fun e w' => e = .returned (.tuple #[cmdV CmdD.zero, .int .i64 1]) ∧ Below w.heap.size w w' := by
  have hb0 : Below w.heap.size w (w.alloc (.cells #[.int .i64 0, .int .i64 0, .int .i64 0, .int .i64 0, .int .i64 0, .int .i64 0, .string ⟨#[]⟩, .string ⟨#[]⟩, .int .i64 0] 45)) := (Below.refl _ _).alloc (Nat.le_refl _) _
  have HB := chid hb0
  clear hb0
  go_enter Tryd.func28, Tryd.ntmps28
  go_wp2
  refine bodyPost_ret (v := .tuple #[.agg #[.int .i64 0, .int .i64 0, .int .i64 0, .int .i64 0, .int .i64 0, .int .i64 0, .string ⟨#[]⟩, .string ⟨#[]⟩, .int .i64 0], .int .i64 1]) (by simp [results, Tryd.results28, go_sem]) rfl ⟨rfl, ?_⟩
  first
    | exact HB.out
    | exact below_set9 HB.out (Nat.le_refl _) _ _ _ _ _ _ _ _ _

set_option maxRecDepth 100000 in
set_option maxHeartbeats 1600000 in
theorem decode_short (s : ByteArray) (w : World) (h : s.size < 2) :
    Calls Tryd.prog 28 #[.string s] w fun e w' => e = .returned (.tuple #[cmdV CmdD.zero, .int .i64 5]) ∧ Below w.heap.size w w' := by
  have hb0 : Below w.heap.size w (w.alloc (.cells #[.int .i64 0, .int .i64 0, .int .i64 0, .int .i64 0, .int .i64 0, .int .i64 0, .string ⟨#[]⟩, .string ⟨#[]⟩, .int .i64 0] 45)) := (Below.refl _ _).alloc (Nat.le_refl _) _
  have HB := chid hb0
  clear hb0
  go_enter Tryd.func28, Tryd.ntmps28
  go_wp2
  refine bodyPost_ret (v := .tuple #[.agg #[.int .i64 0, .int .i64 0, .int .i64 0, .int .i64 0, .int .i64 0, .int .i64 0, .string ⟨#[]⟩, .string ⟨#[]⟩, .int .i64 0], .int .i64 5]) (by simp [results, Tryd.results28, go_sem]) rfl ⟨rfl, ?_⟩
  first
    | exact HB.out
    | exact below_set9 HB.out (Nat.le_refl _) _ _ _ _ _ _ _ _ _

/-- DECODE, AT EVERY TEXT. -/
theorem decode_any (s : ByteArray) (w : World) (hs : s.size ≤ 140737488351232) :
    Calls Tryd.prog 28 #[.string s] w fun e w' => e = .returned (.tuple #[cmdV (decL s), .int .i64 (decE s)]) ∧ Below w.heap.size w w' := by
  by_cases h1 : 5000 < s.size
  · have e : decE s = 1 := if_pos h1
    have l : decL s = CmdD.zero := by unfold decL; rw [if_neg (by omega)]
    rw [e, l]
    exact decode_long s w hs h1
  · by_cases h2 : s.size < 2
    · have e : decE s = 5 := by unfold decE; rw [if_neg h1, if_pos h2]
      have l : decL s = CmdD.zero := by unfold decL; rw [if_neg (by omega)]
      rw [e, l]
      exact decode_short s w h2
    · exact decode_rest s w (by omega) (by omega)

end Go.Proofs.YtkmeiilnjkmkiaiDoor

namespace Go.Proofs.YtkmeiilnjkmkiaiDoor

open Go.RowKit

theorem firstE_drop {ts : List ByteArray} {k : Nat} {t : ByteArray} (h : ts[k]? = some t) : firstE (ts.drop k) = if decE t ≠ 0 then decE t else firstE (ts.drop (k + 1)) := by
  obtain ⟨hk, e⟩ := List.getElem?_eq_some_iff.1 h
  rw [List.drop_eq_getElem_cons hk, e]
  rfl

set_option maxRecDepth 100000 in
set_option maxHeartbeats 1600000 in
theorem checkEntries_any (v : Value) (ts : List ByteArray) (w : World) (B : Nat) (hv : TextsR w B v ts) (hB : B ≤ w.heap.size) :
    Calls Tryd.prog 18 #[v] w fun e w' => e = .returned (.int .i64 (firstE ts)) ∧ Below w.heap.size w w' := by
  have HV := ghid hv
  have HM := ghid hv.sizes
  have hlen := hv.len
  obtain ⟨ao, cap, rfl⟩ := hv.slice
  clear hv
  go_enter Tryd.func18, Tryd.ntmps18
  go_wp2
  go_loopw [9] (fun i wr => ∃ k : Nat, k ≤ ts.length ∧ i = .int .i64 k ∧ firstE (ts.drop k) = firstE ts ∧ Below w.heap.size w wr) (fun i _ => ts.length - (intOf i).toNat)
  case atStart => exact ⟨0, Nat.zero_le _, rfl, rfl, Below.refl _ _⟩
  case round =>
    obtain ⟨k, hk, rfl, hf, hb⟩ := hrel
    have HF := ghid hf
    have HB := ghid hb
    clear hf
    by_cases hlt : k < ts.length
    · obtain ⟨t, ht⟩ : ∃ t, ts[k]? = some t := ⟨_, List.getElem?_eq_getElem hlt⟩
      have hv2 := HV.out.below hb hB
      obtain ⟨ao', cap', e, h1, h2, h3, h4⟩ := hv2
      simp only [Value.slice.injEq] at e
      obtain ⟨rfl, -, rfl⟩ := e
      obtain ⟨b, off, rfl, hbB, hc⟩ := h4 (by omega)
      have c0 := (hc k t ht).1
      have HN := ghid (firstE_drop ht)
      have CD := ghid (fun u => decode_any t u (HM.out t (List.mem_of_getElem? ht)))
      obtain ⟨d, hd⟩ : ∃ d, d = decE t := ⟨_, rfl⟩
      obtain ⟨c, hcd⟩ : ∃ c, c = decL t := ⟨_, rfl⟩
      rw [← hd] at HN CD
      rw [← hcd] at CD
      obtain ⟨xk, xc, xs, xq, xu, xo, xa, xb, xn⟩ := c
      simp only [cmdV] at CD
      clear ht hc h4 h3 h1 h2 hd hcd hb
      go_wp2_with fail
      refine (CD.out _).mono ?_
      rintro e w2 ⟨rfl, hb2⟩
      have HB2 := ghid ((HB.out.trans (hb2.mono HB.out.size)).alloc (by have := HB.out.size; have := hb2.size; omega) (.cells #[.int .i64 xk, .int .i64 xc, .int .i64 xs, .int .i64 xq, .int .i64 xu, .int .i64 xo, .string xa, .string xb, .int .i64 xn] 45))
      clear hb2 CD
      by_cases hd0 : d = 0
      · subst hd0
        go_wp2
        go_roundw
        case rel => exact ⟨k + 1, by omega, by go_num, by rw [← HF.out, HN.out]; simp, HB2.out⟩
        case measure => simp [intOf]; omega
      · have hdb : (d != 0) = true := by simpa using hd0
        have HD := ghid hd0
        clear hd0
        go_wp2
        go_ret
        exact ⟨by rw [← HF.out, HN.out, if_pos HD.out]; rfl, HB2.out⟩
    · obtain rfl : k = ts.length := by omega
      rw [List.drop_length] at HF
      clear hb
      go_wp2
      go_ret
      exact ⟨by rw [← HF.out]; rfl, HB.out⟩

set_option maxRecDepth 100000 in
set_option maxHeartbeats 1600000 in
theorem logCheck_any (v : Value) (l : LogD) (w : World) (B : Nat) (hv : LogR w B v l) (hB : B ≤ w.heap.size) :
    Calls Tryd.prog 22 #[v] w fun e w' => e = .returned (.int .i64 (logE l)) ∧ Below w.heap.size w w' := by
  obtain ⟨eo, ec, rfl, ht⟩ := hv.shape
  obtain ⟨base, ts⟩ := l
  simp only at ht ⊢
  have hlen := ht.len
  have hb0 : Below w.heap.size w (w.alloc (.cells #[.int .i64 base, .slice eo ts.length ec] 28)) := (Below.refl _ _).alloc (Nat.le_refl _) _
  have CE := ghid (checkEntries_any _ ts (w.alloc (.cells #[.int .i64 base, .slice eo ts.length ec] 28)) B (ht.below hb0 hB) (by have := hb0.size; omega))
  have HB0 := ghid hb0
  clear hv ht hb0
  by_cases h0 : base < 0
  · have HE : Hid (logE ⟨base, ts⟩ = 2) := if_pos (by simp only; omega)
    rw [HE.out]
    go_enter Tryd.func22, Tryd.ntmps22
    go_wp2
    go_ret
    exact ⟨rfl, HB0.out⟩
  · by_cases h1 : 1073741424 < base
    · have HE : Hid (logE ⟨base, ts⟩ = 2) := if_pos (by simp only; omega)
      rw [HE.out]
      go_enter Tryd.func22, Tryd.ntmps22
      go_wp2
      go_ret
      exact ⟨rfl, HB0.out⟩
    · by_cases h2 : 400 < ts.length
      · have HE : Hid (logE ⟨base, ts⟩ = 1) := by unfold Hid logE; rw [if_neg (by simp only; omega), if_pos h2]
        rw [HE.out]
        go_enter Tryd.func22, Tryd.ntmps22
        go_wp2
        go_ret
        exact ⟨rfl, HB0.out⟩
      · have HE : Hid (logE ⟨base, ts⟩ = firstE ts) := by unfold Hid logE; rw [if_neg (by simp only; omega), if_neg h2]
        rw [HE.out]
        go_enter Tryd.func22, Tryd.ntmps22
        go_wp2_with fail
        refine CE.out.mono ?_
        rintro e w1 ⟨rfl, hb1⟩
        have HB1 := ghid (HB0.out.trans (hb1.mono HB0.out.size))
        clear hb1 CE
        go_wp2
        go_ret
        exact ⟨rfl, HB1.out⟩

end Go.Proofs.YtkmeiilnjkmkiaiDoor
