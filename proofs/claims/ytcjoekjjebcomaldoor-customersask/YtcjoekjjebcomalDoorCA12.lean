/- customer.Hear. (Written by gen_heard.py.); customer.known: what a client knows (joined by program) -/
import Derived.Test.YtcjoekjjebcomalDoorCA11
import Derived.Test.YtcjoekjjebcomalDoorCA04
namespace Go.Proofs.YtcjoekjjebcomalDoor

open Go.RowKit

/-- What an inner call answers, as a client of the call's own. -/
theorem heardJ_any (v : Value) (c : CustD) (cl rc rn : Int) (rt : ByteArray) (w : World) (B : Nat) (hv : CustR w B v c) (hB : B ≤ w.heap.size) (hc : checkC c = 0) (hcl : cl = c.id) :
    Calls Tryd.prog 18 #[v, .agg #[.int .i64 rc, .int .i64 rn, .string rt]] w fun e w' => ∃ v', e = .returned (.tuple #[v', .int .i64 (hearE c cl 0 rc rn)]) ∧ CustO w' w.heap.size v' (hearC c cl 0 rc rn) ∧ Below w.heap.size w w' := by
  have hl : c.waits.length * 56 ≤ 140737488351232 ∧ ModestW c.waits := by
    obtain ⟨wv, -, h⟩ := hv
    exact ⟨h.len, h.modest⟩
  rw [show hearE c cl 0 rc rn = hjE c.session rc rn from hear_join hc hcl]
  by_cases he : hjE c.session rc rn = 0
  · have hC : hearC c cl 0 rc rn = ⟨c.id, hjS c.session rc rn, c.next, c.waits⟩ := by unfold hearC; rw [hear_join hc hcl, if_pos he, hearL_join]
    rw [hC, he]
    exact (hearJoin_ok v c rc rn rt w B hv hB he).mono fun e w' ⟨vo, vc, h1, h2, h3⟩ => ⟨_, h1, ⟨vo, vc, rfl, h2, hl.1, hl.2⟩, h3⟩
  · have hC : hearC c cl 0 rc rn = .zero := by unfold hearC; rw [hear_join hc hcl, if_neg he]
    rw [hC]
    exact (hearJoin_bad v c rc rn rt w B hv hB he).mono fun e w' ⟨h1, h3⟩ => ⟨_, h1, CustO.zero _ _, h3⟩

theorem heardC_any (v : Value) (c : CustD) (cl q rc rn : Int) (w : World) (B : Nat) (hv : CustR w B v c) (hB : B ≤ w.heap.size) (hc : checkC c = 0) (hcl : cl = c.id) (hq : q ≠ 0) :
    Calls Tryd.prog 19 #[v, .int .i64 q, .int .i64 rc] w fun e w' => ∃ v', e = .returned (.tuple #[v', .int .i64 (hearE c cl q rc rn)]) ∧ CustO w' w.heap.size v' (hearC c cl q rc rn) ∧ Below w.heap.size w w' := by
  have G := GoodC.of hc
  have hl : c.waits.length * 56 ≤ 140737488351232 ∧ ModestW c.waits := by
    obtain ⟨wv, -, h⟩ := hv
    exact ⟨h.len, h.modest⟩
  have hlen := G.len
  have hE := hear_call (rc := rc) (rn := rn) hc hcl hq
  rcases idxI_cases (fun x : WaitD => x.seq == q) c.waits with ⟨h1, h2⟩ | ⟨i, x, h1, h2, h3, h4⟩
  · rw [h2, if_neg (by decide)] at hE
    have hC : hearC c cl q rc rn = .zero := by unfold hearC; rw [hE, if_neg (by decide)]
    rw [hC, hE]
    exact (hearCall_bad v c q rc w B hv hB h1).mono fun e w' ⟨h1, h3⟩ => ⟨_, h1, CustO.zero _ _, h3⟩
  · have hil := (List.getElem?_eq_some_iff.1 h2).1
    rw [h4, if_pos rfl] at hE
    rw [hE]
    by_cases hrc : rc = 11
    · subst hrc
      have hC : hearC c cl q 11 rn = ⟨c.id, 0, c.next, []⟩ := by unfold hearC; rw [hE, if_pos rfl, hearL_away c hq]
      rw [hC]
      exact (hearCall_away v c q i w B hv hB h1 hil (by omega)).mono fun e w' ⟨h1, h3⟩ => ⟨_, h1, ⟨none, 0, rfl, World.ownsRow_nil _ _ _ _, by show 0 * 56 ≤ _; omega, fun x hx => absurd hx (by simp)⟩, h3⟩
    · have hf := filter_erase G.order h2 (by simpa using h3)
      have hC : hearC c cl q rc rn = ⟨c.id, c.session, c.next, c.waits.eraseIdx i⟩ := by unfold hearC; rw [hE, if_pos rfl, hearL_call c hq hrc, hf]
      have hel : (c.waits.eraseIdx i).length = c.waits.length - 1 := by rw [List.length_eraseIdx, if_pos hil]
      rw [hC]
      refine (hearCall_ok v c q rc i w B hv hB h1 hil (by omega) hrc).mono fun e w' ⟨vo, vc, h1, h2, h3⟩ => ⟨_, h1, ⟨vo, vc, by rw [hel], by rw [hel]; exact h2, by rw [hel]; omega, modest_sub hl.2 fun y hy => (List.eraseIdx_sublist _ _).subset hy⟩, h3⟩

set_option maxRecDepth 100000 in
set_option maxHeartbeats 1600000 in
theorem Hear_any (v : Value) (c : CustD) (cl q rc rn : Int) (rt : ByteArray) (w : World) (B : Nat) (hv : CustR w B v c) (hB : B ≤ w.heap.size) :
    Calls Tryd.prog 8 #[v, .agg #[.int .i64 cl, .int .i64 q, .int .i64 rc, .int .i64 rn, .string rt]] w fun e w' => ∃ v', e = .returned (.tuple #[v', .int .i64 (hearE c cl q rc rn)]) ∧ CustO w' w.heap.size v' (hearC c cl q rc rn) ∧ Below w.heap.size w w' := by
  have C1 := ghid (fun u (hu : Below w.heap.size w u) => custCheck_any v c u B (hv.below hu hB) (by have := hu.size; omega))
  have CJ : Hid (checkC c = 0 → cl = c.id → q = 0 → ∀ u, Below w.heap.size w u → Calls Tryd.prog 18 #[v, .agg #[.int .i64 rc, .int .i64 rn, .string rt]] u fun e w' => ∃ v', e = .returned (.tuple #[v', .int .i64 (hearE c cl q rc rn)]) ∧ CustO w' u.heap.size v' (hearC c cl q rc rn) ∧ Below u.heap.size u w') := fun hc hcl hq u hu => by
    subst hq
    exact heardJ_any v c cl rc rn rt u B (hv.below hu hB) (by have := hu.size; omega) hc hcl
  have CC : Hid (checkC c = 0 → cl = c.id → q ≠ 0 → ∀ u, Below w.heap.size w u → Calls Tryd.prog 19 #[v, .int .i64 q, .int .i64 rc] u fun e w' => ∃ v', e = .returned (.tuple #[v', .int .i64 (hearE c cl q rc rn)]) ∧ CustO w' u.heap.size v' (hearC c cl q rc rn) ∧ Below u.heap.size u w') := fun hc hcl hq u hu => heardC_any v c cl q rc rn u B (hv.below hu hB) (by have := hu.size; omega) hc hcl hq
  have H1 : Hid (checkC c ≠ 0 → hearE c cl q rc rn = checkC c) := fun h => by unfold hearE; rw [if_pos h]
  have H2 : Hid (checkC c = 0 → cl ≠ c.id → hearE c cl q rc rn = 6) := fun h h' => by unfold hearE; rw [if_neg (by simpa using h), if_pos h']
  have HCC : Hid (hearE c cl q rc rn ≠ 0 → hearC c cl q rc rn = .zero) := fun h => if_neg h
  obtain ⟨ao, cap, rfl, -⟩ := hv.shape
  obtain ⟨cc, hcc⟩ : ∃ z, z = checkC c := ⟨_, rfl⟩
  obtain ⟨r, hre⟩ : ∃ z, z = hearE c cl q rc rn := ⟨_, rfl⟩
  obtain ⟨d, hd⟩ : ∃ z, z = hearC c cl q rc rn := ⟨_, rfl⟩
  obtain ⟨id, hid⟩ : ∃ z, z = c.id := ⟨_, rfl⟩
  obtain ⟨se, hse⟩ : ∃ z, z = c.session := ⟨_, rfl⟩
  obtain ⟨nx, hnx⟩ : ∃ z, z = c.next := ⟨_, rfl⟩
  obtain ⟨m, hm⟩ : ∃ z, z = c.waits.length := ⟨_, rfl⟩
  rw [← hcc, ← hid, ← hse, ← hnx, ← hm] at C1
  rw [← hcc, ← hre, ← hd, ← hid, ← hse, ← hnx, ← hm] at CJ CC
  rw [← hcc, ← hre] at H1
  rw [← hcc, ← hre, ← hid] at H2
  rw [← hre, ← hd] at HCC
  rw [← hre, ← hd, ← hid, ← hse, ← hnx, ← hm]
  have HZ : Hid (Below w.heap.size w (((w.alloc (.cells #[.int .i64 id, .int .i64 se, .int .i64 nx, .slice ao m cap] 25)).alloc (.cells #[.int .i64 cl, .int .i64 q, .int .i64 rc, .int .i64 rn, .string rt] 39)).alloc (.cells #[.int .i64 0, .int .i64 0, .int .i64 0, .slice none 0 0] 25))) := (((Below.refl _ _).alloc (Nat.le_refl _) _).alloc (by simp) _).alloc (by simp; omega) _
  obtain ⟨hx0, ho0, hr0⟩ := three_newB (w := w) (A := (.cells #[.int .i64 id, .int .i64 se, .int .i64 nx, .slice ao m cap] 25)) (R := (.cells #[.int .i64 cl, .int .i64 q, .int .i64 rc, .int .i64 rn, .string rt] 39)) (S := (.cells #[.int .i64 0, .int .i64 0, .int .i64 0, .slice none 0 0] 25)) (Below.refl _ _)
  have HX0 := ghid hx0
  have HO0 := ghid ho0
  have HR0 := ghid hr0
  clear hx0 ho0 hr0 hv hcc hre hd hid hse hnx hm
  by_cases h1 : cc = 0
  · by_cases h2 : cl = id
    · by_cases h3 : q = 0
      · have C2 := ghid (CJ.out h1 h2 h3)
        subst h1
        subst h3
        subst h2
        clear CC CJ H1 H2 HCC
        go_enter Tryd.func8, Tryd.ntmps8
        go_wp2_with fail
        refine (C1.out _ HZ.out).mono ?_
        rintro e w1 ⟨rfl, hb1⟩
        have HB1 := ghid (HZ.out.trans (hb1.mono HZ.out.size))
        have HR1 := ghid (behind HR0.out (Below.refl _ _) hb1)
        obtain ⟨c0, c1, c2, c3, cf, cl'⟩ := state_cells (behind HX0.out (Below.refl _ _) hb1)
        obtain ⟨o0, o1, o2, o3, o4, of, ol⟩ := five_cells (behind HO0.out (Below.refl _ _) hb1)
        have hzz1 : w.heap.size + 3 ≤ w1.heap.size := by have := hb1.size; simpa using this
        obtain ⟨r0, r1, r2, r3, rf, rl⟩ := state_cells HR1.out
        clear hb1
        clear r0 r1 r2 r3 rf rl
        go_wp2_with fail
        refine (C2.out _ HB1.out).mono ?_
        rintro e w2 ⟨v2, rfl, ho2, hb2⟩
        obtain ⟨vo, vc, rfl, -⟩ := id ho2
        have hr2 := behind HR1.out (Below.refl _ _) hb2
        have HB2 := ghid (HB1.out.trans (hb2.mono HB1.out.size))
        obtain ⟨r0, r1, r2, r3, rf, rl⟩ := state_cells hr2
        have HO2 := ghid (fun u0 u1 u2 u3 => ho2.put4 (p := w.heap.size + 1 + 1) (m := w.heap.size) (by omega) (by omega) u0 u1 u2 u3)
        obtain ⟨d0, hd0⟩ : ∃ z, z = d.id := ⟨_, rfl⟩
        obtain ⟨d1, hd1⟩ : ∃ z, z = d.session := ⟨_, rfl⟩
        obtain ⟨d2, hd2⟩ : ∃ z, z = d.next := ⟨_, rfl⟩
        obtain ⟨d3, hd3⟩ : ∃ z, z = d.waits.length := ⟨_, rfl⟩
        rw [← hd0, ← hd1, ← hd2, ← hd3] at HO2 ⊢
        clear hb2 hr2 ho2 C2 c0 c1 c2 c3 cf cl' o0 o1 o2 o3 o4 of ol hd0 hd1 hd2 hd3
        go_wp2
        refine bodyPost_ret (v := .tuple #[.agg #[.int .i64 d0, .int .i64 d1, .int .i64 d2, .slice vo d3 vc], .int .i64 r]) (by simp [results, Tryd.results8, go_sem, r0, r1, r2, r3]) rfl ?_
        exact ⟨_, rfl, HO2.out _ _ _ _, zset4 HB2.out (by omega) _ _ _ _⟩
      · have C2 := ghid (CC.out h1 h2 h3)
        have hqb : (q == 0) = false := by simpa using h3
        subst h1
        subst h2
        clear CC CJ H1 H2 HCC h3
        go_enter Tryd.func8, Tryd.ntmps8
        go_wp2_with fail
        refine (C1.out _ HZ.out).mono ?_
        rintro e w1 ⟨rfl, hb1⟩
        have HB1 := ghid (HZ.out.trans (hb1.mono HZ.out.size))
        have HR1 := ghid (behind HR0.out (Below.refl _ _) hb1)
        obtain ⟨c0, c1, c2, c3, cf, cl'⟩ := state_cells (behind HX0.out (Below.refl _ _) hb1)
        obtain ⟨o0, o1, o2, o3, o4, of, ol⟩ := five_cells (behind HO0.out (Below.refl _ _) hb1)
        have hzz1 : w.heap.size + 3 ≤ w1.heap.size := by have := hb1.size; simpa using this
        obtain ⟨r0, r1, r2, r3, rf, rl⟩ := state_cells HR1.out
        clear hb1
        clear r0 r1 r2 r3 rf rl
        go_wp2_with fail
        refine (C2.out _ HB1.out).mono ?_
        rintro e w2 ⟨v2, rfl, ho2, hb2⟩
        obtain ⟨vo, vc, rfl, -⟩ := id ho2
        have hr2 := behind HR1.out (Below.refl _ _) hb2
        have HB2 := ghid (HB1.out.trans (hb2.mono HB1.out.size))
        obtain ⟨r0, r1, r2, r3, rf, rl⟩ := state_cells hr2
        have HO2 := ghid (fun u0 u1 u2 u3 => ho2.put4 (p := w.heap.size + 1 + 1) (m := w.heap.size) (by omega) (by omega) u0 u1 u2 u3)
        obtain ⟨d0, hd0⟩ : ∃ z, z = d.id := ⟨_, rfl⟩
        obtain ⟨d1, hd1⟩ : ∃ z, z = d.session := ⟨_, rfl⟩
        obtain ⟨d2, hd2⟩ : ∃ z, z = d.next := ⟨_, rfl⟩
        obtain ⟨d3, hd3⟩ : ∃ z, z = d.waits.length := ⟨_, rfl⟩
        rw [← hd0, ← hd1, ← hd2, ← hd3] at HO2 ⊢
        clear hb2 hr2 ho2 C2 c0 c1 c2 c3 cf cl' o0 o1 o2 o3 o4 of ol hd0 hd1 hd2 hd3
        go_wp2
        refine bodyPost_ret (v := .tuple #[.agg #[.int .i64 d0, .int .i64 d1, .int .i64 d2, .slice vo d3 vc], .int .i64 r]) (by simp [results, Tryd.results8, go_sem, r0, r1, r2, r3]) rfl ?_
        exact ⟨_, rfl, HO2.out _ _ _ _, zset4 HB2.out (by omega) _ _ _ _⟩
    · have HE : Hid (r = 6) := H2.out h1 h2
      have HCZ : Hid (d = .zero) := HCC.out (by rw [HE.out]; decide)
      have hclb : (cl != id) = true := by simpa using h2
      subst h1
      clear CC CJ H1 H2 HCC h2
      go_enter Tryd.func8, Tryd.ntmps8
      go_wp2_with fail
      refine (C1.out _ HZ.out).mono ?_
      rintro e w1 ⟨rfl, hb1⟩
      have HB1 := ghid (HZ.out.trans (hb1.mono HZ.out.size))
      have HR1 := ghid (behind HR0.out (Below.refl _ _) hb1)
      obtain ⟨c0, c1, c2, c3, cf, cl'⟩ := state_cells (behind HX0.out (Below.refl _ _) hb1)
      obtain ⟨o0, o1, o2, o3, o4, of, ol⟩ := five_cells (behind HO0.out (Below.refl _ _) hb1)
      have hzz1 : w.heap.size + 3 ≤ w1.heap.size := by have := hb1.size; simpa using this
      obtain ⟨r0, r1, r2, r3, rf, rl⟩ := state_cells HR1.out
      clear hb1
      go_wp2
      refine bodyPost_ret (v := .tuple #[.agg #[.int .i64 0, .int .i64 0, .int .i64 0, .slice none 0 0], .int .i64 6]) (by simp [results, Tryd.results8, go_sem, r0, r1, r2, r3]) rfl ?_
      exact ⟨_, by rw [HE.out], by rw [HCZ.out]; exact CustO.zero _ _, zset4 HB1.out (by omega) _ _ _ _⟩
  · have HE : Hid (r = cc) := H1.out h1
    have HCZ : Hid (d = .zero) := HCC.out (by rw [HE.out]; exact h1)
    have hcb : (cc != 0) = true := by simpa using h1
    clear CC CJ H1 H2 HCC h1
    go_enter Tryd.func8, Tryd.ntmps8
    go_wp2_with fail
    refine (C1.out _ HZ.out).mono ?_
    rintro e w1 ⟨rfl, hb1⟩
    have HB1 := ghid (HZ.out.trans (hb1.mono HZ.out.size))
    have HR1 := ghid (behind HR0.out (Below.refl _ _) hb1)
    obtain ⟨c0, c1, c2, c3, cf, cl'⟩ := state_cells (behind HX0.out (Below.refl _ _) hb1)
    obtain ⟨o0, o1, o2, o3, o4, of, ol⟩ := five_cells (behind HO0.out (Below.refl _ _) hb1)
    have hzz1 : w.heap.size + 3 ≤ w1.heap.size := by have := hb1.size; simpa using this
    obtain ⟨r0, r1, r2, r3, rf, rl⟩ := state_cells HR1.out
    clear hb1
    go_wp2
    refine bodyPost_ret (v := .tuple #[.agg #[.int .i64 0, .int .i64 0, .int .i64 0, .slice none 0 0], .int .i64 cc]) (by simp [results, Tryd.results8, go_sem, r0, r1, r2, r3]) rfl ?_
    exact ⟨_, by rw [HE.out], by rw [HCZ.out]; exact CustO.zero _ _, zset4 HB1.out (by omega) _ _ _ _⟩

end Go.Proofs.YtcjoekjjebcomalDoor

namespace Go.Proofs.YtcjoekjjebcomalDoor

open Go.RowKit

set_option maxHeartbeats 800000 in
theorem known_any (v : Value) (c : CustD) (w : World) (B : Nat) (hv : CustR w B v c) (hB : B ≤ w.heap.size) (hn : 1 ≤ c.next ∧ c.next ≤ 1048577) (hf : ∀ x ∈ c.waits, 1 ≤ x.seq ∧ x.seq ≤ 1048577) :
    Calls Tryd.prog 23 #[v] w fun e w' => e = .returned (.int .i64 (knownC c)) ∧ Below w.heap.size w w' := by
  obtain ⟨ao, cap, rfl, hw⟩ := hv.shape
  obtain ⟨id, se, nx, ws⟩ := c
  simp only at hw hn hf ⊢
  have HB0 : Hid (Below w.heap.size w (w.alloc (.cells #[.int .i64 id, .int .i64 se, .int .i64 nx, .slice ao ws.length cap] 25))) := (Below.refl _ _).alloc (Nat.le_refl _) _
  cases ws with
  | nil =>
    clear hv hw
    go_enter Tryd.func23, Tryd.ntmps23
    go_wp2
    go_ret
    exact ⟨rfl, HB0.out⟩
  | cons x r =>
    obtain ⟨ao', cap', he, -, -, -, h4⟩ := hw
    simp only [Value.slice.injEq] at he
    obtain ⟨rfl, -, rfl⟩ := he
    obtain ⟨b, off, rfl, hlt, hc⟩ := h4 (by simp)
    obtain ⟨c0, -⟩ := hc 0 x rfl
    rw [Nat.zero_mul, Nat.add_zero] at c0
    have hbw : b < w.heap.size := by omega
    have hx := hf x (by simp)
    have hl : (((x :: r).length : Nat) : Int) = (r.length : Int) + 1 := by simp
    have hle : ((((x :: r).length : Nat) : Int) == 0) = false := by rw [hl]; exact beq_eq_false_iff_ne.2 (by omega)
    have hlp : (0 : Int) < (((x :: r).length : Nat) : Int) := by rw [hl]; omega
    obtain ⟨n, hne⟩ : ∃ n, n = (x :: r).length := ⟨_, rfl⟩
    rw [← hne] at hle hlp HB0 ⊢
    obtain ⟨sq, hsq⟩ : ∃ sq, sq = x.seq := ⟨_, rfl⟩
    have HK : Hid (knownC ⟨id, se, nx, x :: r⟩ = sq - 1) := by rw [hsq]; exact rfl
    rw [← hsq] at c0 hx
    clear hv hc h4 hne hl hf hsq hlt
    go_enter Tryd.func23, Tryd.ntmps23
    go_wp2
    go_ret
    exact ⟨by rw [HK.out]; rfl, HB0.out⟩

/-- Of a client that may be. -/
theorem GoodC.seqs {c : CustD} (h : GoodC c) : ∀ x ∈ c.waits, 1 ≤ x.seq ∧ x.seq ≤ 1048577 := fun x hx => by
  have h1 := h.each x hx
  have h2 := h.next
  omega

theorem GoodC.known {c : CustD} (h : GoodC c) : 0 ≤ knownC c ∧ knownC c ≤ c.next - 1 := by
  have h2 := h.next
  have h1 := h.each
  unfold knownC
  split
  · omega
  · rename_i x r e
    have := h1 x (by rw [e]; simp)
    omega

end Go.Proofs.YtcjoekjjebcomalDoor
