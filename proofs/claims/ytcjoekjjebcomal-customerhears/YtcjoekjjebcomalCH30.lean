/- The document's ToldOf, of a call's mail. (Written by gen_told2.py.) (joined by program) -/
import Derived.Test.YtcjoekjjebcomalCH29
namespace Go.Proofs.Ytcjoekjjebcomal

open Go.RowKit

set_option maxRecDepth 100000 in
set_option maxHeartbeats 6400000 in
theorem told_call (v : Value) (c : CustD) (q rc rn : Int) (rt : ByteArray) (w : World) (B : Nat) (hv : CustR w B v c) (hB : B ≤ w.heap.size) (hc : checkC c = 0) (hq : q ≠ 0) :
    Calls Try.prog 6 #[v, .agg #[.int .i64 c.id, .int .i64 q, .int .i64 rc, .int .i64 rn, .string rt]] w fun e w' => ∃ v', e = .returned (.tuple #[v', .int .i64 (hearE c c.id q rc rn)]) ∧ CustO w' w.heap.size v' (hearC c c.id q rc rn) ∧ Below w.heap.size w w' := by
  obtain ⟨i0, hi, hz0, hz1, hz2⟩ := info_parts Try.infoWait
  have C1 := ghid (fun u (hu : Below w.heap.size w u) => customerFault_any v c u B (hv.below hu hB) (by have := hu.size; omega))
  have C2 := ghid (fun u (hu : Below w.heap.size w u) => customerCopy_any v c u B (hv.below hu hB) (by have := hu.size; omega))
  have G := GoodC.of hc
  have hlen := G.len
  have hE := hear_call (rc := rc) (rn := rn) hc rfl hq
  have HCZ : Hid (c.waits.any (fun x => x.seq == q) = false → hearE c c.id q rc rn = 12 ∧ hearC c c.id q rc rn = .zero) := fun h => by
    rw [h, if_neg (by decide)] at hE
    exact ⟨hE, by unfold hearC; rw [hE, if_neg (by decide)]⟩
  have HCA : Hid (c.waits.any (fun x => x.seq == q) = true → rc = 11 → hearE c c.id q rc rn = 0 ∧ hearC c c.id q rc rn = ⟨c.id, 0, c.next, []⟩) := fun h h' => by
    subst h'
    rw [h, if_pos rfl] at hE
    exact ⟨hE, by unfold hearC; rw [hE, if_pos rfl, hearL_away c hq]⟩
  have HCK : Hid (c.waits.any (fun x => x.seq == q) = true → rc ≠ 11 → hearE c c.id q rc rn = 0 ∧ hearC c c.id q rc rn = ⟨c.id, c.session, c.next, c.waits.filter (fun x => x.seq != q)⟩) := fun h h' => by
    rw [h, if_pos rfl] at hE
    exact ⟨hE, by unfold hearC; rw [hE, if_pos rfl, hearL_call c hq h']⟩
  have HWR : Hid (∀ u, Below w.heap.size w u → ∃ wv, v = .agg #[.int .i64 c.id, .int .i64 c.session, .int .i64 c.next, wv] ∧ WaitsR u B wv c.waits) := fun u hu => by
    obtain ⟨wv, he, h⟩ := hv
    exact ⟨wv, he, h.below hu hB⟩
  have HLF : Hid ((c.waits.filter (fun x => x.seq != q)).length * 56 ≤ 140737488351232 ∧ ModestW (c.waits.filter (fun x => x.seq != q))) := by
    obtain ⟨wv, -, h⟩ := hv
    have := List.length_filter_le (fun x : WaitD => x.seq != q) c.waits
    exact ⟨by omega, modest_sub h.modest fun x hx => (List.mem_filter.1 hx).1⟩
  rw [hc] at C1
  obtain ⟨ao, cap, rfl, -⟩ := hv.shape
  obtain ⟨d, hd⟩ : ∃ z, z = hearC c c.id q rc rn := ⟨_, rfl⟩
  obtain ⟨r, hre⟩ : ∃ z, z = hearE c c.id q rc rn := ⟨_, rfl⟩
  rw [← hd, ← hre] at HCZ HCA HCK
  rw [← hd, ← hre]
  obtain ⟨ws, hws⟩ : ∃ z, z = c.waits := ⟨_, rfl⟩
  obtain ⟨id, hid⟩ : ∃ z, z = c.id := ⟨_, rfl⟩
  obtain ⟨se, hse⟩ : ∃ z, z = c.session := ⟨_, rfl⟩
  obtain ⟨nx, hnx⟩ : ∃ z, z = c.next := ⟨_, rfl⟩
  obtain ⟨m, hm⟩ : ∃ z, z = c.waits.length := ⟨_, rfl⟩
  rw [← hid, ← hse, ← hnx, ← hm] at C1
  rw [← hid, ← hse, ← hnx, ← hm, ← hws] at C2
  rw [← hid, ← hse, ← hnx, ← hm, ← hws] at HWR
  rw [← hws] at HCZ HLF
  rw [← hws, ← hid, ← hnx] at HCA
  rw [← hws, ← hid, ← hse, ← hnx] at HCK
  rw [← hid, ← hse, ← hnx, ← hm]
  rw [← hm] at hlen
  have HM : Hid (m = ws.length) := by rw [hm, hws]; exact rfl
  have HZ : Hid (Below w.heap.size w (((w.alloc (.cells #[.int .i64 id, .int .i64 se, .int .i64 nx, .slice ao m cap] 24)).alloc (.cells #[.int .i64 id, .int .i64 q, .int .i64 rc, .int .i64 rn, .string rt] 29)).alloc (.cells #[.int .i64 0, .int .i64 0, .int .i64 0, .slice none 0 0] 24))) := (((Below.refl _ _).alloc (Nat.le_refl _) _).alloc (by simp) _).alloc (by simp; omega) _
  obtain ⟨hx0, ho0, hr0⟩ := three_newB (w := w) (A := (.cells #[.int .i64 id, .int .i64 se, .int .i64 nx, .slice ao m cap] 24)) (R := (.cells #[.int .i64 id, .int .i64 q, .int .i64 rc, .int .i64 rn, .string rt] 29)) (S := (.cells #[.int .i64 0, .int .i64 0, .int .i64 0, .slice none 0 0] 24)) (Below.refl _ _)
  have HX0 := ghid hx0
  have HO0 := ghid ho0
  have HR0 := ghid hr0
  clear hx0 ho0 hr0
  have hqb : (q == 0) = false := by simpa using hq
  clear hv hc hd hre hid hse hnx hm hws G hE hq
  go_enter Try.func6, Try.ntmps6
  go_wp2_with fail
  refine (C1.out _ HZ.out).mono ?_
  rintro e w1 ⟨rfl, hb1⟩
  have HB1 := ghid (HZ.out.trans (hb1.mono HZ.out.size))
  have HX1 := ghid (behind HX0.out (Below.refl _ _) hb1)
  have HO1 := ghid (behind HO0.out (Below.refl _ _) hb1)
  have HR1 := ghid (behind HR0.out (Below.refl _ _) hb1)
  obtain ⟨c0, c1, c2, c3, cf, cl'⟩ := state_cells HX1.out
  obtain ⟨o0, o1, o2, o3, o4, of, ol⟩ := five_cells HO1.out
  have hzz1 : w.heap.size + 3 ≤ w1.heap.size := by have := hb1.size; simpa using this
  obtain ⟨r0, r1, r2, r3, rf, rl⟩ := state_cells HR1.out
  clear hb1
  go_wp2_with fail
  clear c0 c1 c2 c3 cf cl' o0 o1 o2 o3 o4 of ol r0 r1 r2 r3 rf rl
  refine (C2.out _ HB1.out).mono ?_
  rintro e w2 ⟨wv, rfl, hrow, hb2⟩
  obtain ⟨vo0, vc0, rfl⟩ := grow_shape hrow
  have hx2 := behind HX1.out (Below.refl _ _) hb2
  have ho2 := behind HO1.out (Below.refl _ _) hb2
  have hr2 := behind HR1.out (Below.refl _ _) hb2
  have hz2' : w.heap.size + 3 ≤ w2.heap.size := by have := hb2.size; omega
  have HB2 := ghid (HB1.out.trans (hb2.mono HB1.out.size))
  obtain ⟨c0, c1, c2, c3, cf, cl'⟩ := state_cells hx2
  obtain ⟨o0, o1, o2, o3, o4, of, ol⟩ := five_cells ho2
  obtain ⟨r0, r1, r2, r3, rf, rl⟩ := state_cells hr2
  have HX2 := ghid hx2
  have HO2 := ghid ho2
  have HR2 := ghid hr2
  clear hrow hb2 hx2 ho2 hr2 C2
  go_wp2_with fail
  clear c0 c1 c2 c3 cf cl' o0 o1 o2 o3 o4 of ol r0 r1 r2 r3 rf rl
  go_loopw [8, 9] (fun f i wr => ∃ (k n vc : Nat) (fb : Bool) (vo : Option Addr), k ≤ m ∧ n ≤ k ∧ i = .int .i64 k ∧ f = .bool fb ∧ Hid (fb = ((ws.take k).any (fun x => x.seq == q))) ∧ Hid (n = ((ws.take k).filter (fun x => x.seq != q)).length) ∧ wr.ownsRow (w.heap.size + 3) 42 5 (.slice vo n vc) n (flatG waitCells ((ws.take k).filter (fun x => x.seq != q))) ∧ wr.heap[w2.heap.size]? = some (.cells #[.int .i64 id, .int .i64 se, .int .i64 nx, .slice vo n vc] 24 (0, 0)) ∧ wr.heap[w.heap.size]? = some (.cells #[.int .i64 id, .int .i64 se, .int .i64 nx, .slice ao m cap] 24 (0, 0)) ∧ wr.heap[w.heap.size + 1]? = some (.cells #[.int .i64 id, .int .i64 q, .int .i64 rc, .int .i64 rn, .string rt] 29 (0, 0)) ∧ wr.heap[w.heap.size + 1 + 1]? = some (.cells #[.int .i64 0, .int .i64 0, .int .i64 0, .slice none 0 0] 24 (0, 0)) ∧ Below w.heap.size w wr ∧ w2.heap.size < wr.heap.size) (fun _ i _ => m - (intOf i).toNat)
  case atStart =>
    refine ⟨0, 0, 0, false, none, Nat.zero_le _, Nat.le_refl _, rfl, rfl, by unfold Hid; simp, by unfold Hid; simp, ?_, ?_, ?_, ?_, ?_, ?_, ?_⟩
    · simpa [flatG] using World.ownsRow_nil _ _ _ _
    · exact heap_alloc_new w2 _
    · exact (Below.heap_alloc w2 _ _ (by omega)).trans HX2.out
    · exact (Below.heap_alloc w2 _ _ (by omega)).trans HO2.out
    · exact (Below.heap_alloc w2 _ _ (by omega)).trans HR2.out
    · exact HB2.out.alloc HB2.out.size _
    · simp
  case round =>
    obtain ⟨k, n, vc, fb, vo, hk, hnk, rfl, rfl, HF, HN, hrow, hq2, hx2, ho2, hr2, hb, hzr⟩ := hrel
    have HROW := ghid hrow
    have HQ := ghid hq2
    have HX := ghid hx2
    have HO := ghid ho2
    have HR := ghid hr2
    have HB := ghid hb
    have hsz := hb.size
    by_cases hlt : k < m
    · obtain ⟨wv, he, hw⟩ := HWR.out _ hb
      simp only [Value.agg.injEq, Array.mk.injEq, List.cons.injEq, and_true, true_and] at he
      subst he
      obtain ⟨ao', cap', he, -, -, -, h4⟩ := hw
      simp only [Value.slice.injEq] at he
      obtain ⟨rfl, -, rfl⟩ := he
      obtain ⟨b, off, rfl, hbB, hcs⟩ := h4 (by rw [← HM.out]; omega)
      obtain ⟨x, hxe⟩ : ∃ x, ws[k]? = some x := ⟨_, List.getElem?_eq_getElem (by rw [← HM.out]; omega)⟩
      obtain ⟨b0, b1, b2, b3, b4, hs1, hs2, -⟩ := hcs k x hxe
      have HTK : Hid (ws.take (k + 1) = ws.take k ++ [x]) := by
        unfold Hid
        rw [List.take_succ_eq_append_getElem (by rw [← HM.out]; omega), (List.getElem?_eq_some_iff.1 hxe).2]
      have hbr : b < wr.heap.size := by omega
      obtain ⟨c0, c1, c2, c3, cf, cl'⟩ := state_cells hx2
      obtain ⟨o0, o1, o2, o3, o4, of, ol⟩ := five_cells ho2
      obtain ⟨y0, y1, y2, y3, yf, yl⟩ := state_cells hq2
      clear hxe hcs h4 hrow hq2 hx2 ho2 hr2 hb
      obtain ⟨xq, xk, xa, xb, xn⟩ := x
      simp only at b0 b1 b2 b3 b4 hs1 hs2
      by_cases hxq : xq = q
      · have HF2 : Hid (true = ((ws.take (k + 1)).any (fun x => x.seq == q))) := by unfold Hid; rw [HTK.out]; simp [hxq]
        have HFI : Hid (((ws.take (k + 1)).filter (fun x => x.seq != q)) = ((ws.take k).filter (fun x => x.seq != q))) := by unfold Hid; rw [HTK.out, List.filter_append]; simp [hxq]
        subst hxq
        go_wp2_with fail
        go_quiet (fail)
        go_wp2
        go_roundw
        case rel => exact ⟨k + 1, n, vc, true, vo, by omega, by omega, by go_num, rfl, HF2, by rw [HFI.out]; exact HN, by rw [HFI.out]; exact HROW.out, HQ.out, HX.out, HO.out, HR.out, HB.out.trans (g_drewN_below _ _ _), hzr⟩
        case measure => simp [intOf]; omega
      · have hxb : (xq == q) = false := by simpa using hxq
        have HF2 : Hid (fb = ((ws.take (k + 1)).any (fun x => x.seq == q))) := by unfold Hid; rw [HTK.out, HF.out]; simp [hxq]
        have HFI : Hid (((ws.take (k + 1)).filter (fun x => x.seq != q)) = ((ws.take k).filter (fun x => x.seq != q)) ++ [⟨xq, xk, xa, xb, xn⟩]) := by unfold Hid; rw [HTK.out, List.filter_append]; simp [hxq]
        have HN2 : Hid (n + 1 = ((ws.take (k + 1)).filter (fun x => x.seq != q)).length) := by unfold Hid; rw [HFI.out, List.length_append, ← HN.out]; rfl
        have HROWD : Hid (∀ j, (wr.drewN j).drew.ownsRow (w.heap.size + 3) 42 5 (.slice vo n vc) n (flatG waitCells ((ws.take k).filter (fun x => x.seq != q)))) := fun j => HROW.out
        have HLT : Hid (∀ j, (Value.slice vo n vc).ownBlock = some j → w.heap.size + 3 ≤ j ∧ j < wr.heap.size ∧ j ≠ w2.heap.size) := fun j hj => by
          have h1 := HROW.out.lt j hj
          refine ⟨h1.1, h1.2, fun e => ?_⟩
          rcases HROW.out.2 with ⟨e', _⟩ | ⟨g', cap', cur, e', _, hg, _⟩
          · rw [e'] at hj; cases hj
          · rw [e'] at hj
            simp only [Value.ownBlock, Option.some.injEq] at hj
            subst hj
            rw [e, HQ.out] at hg
            simp only [Option.some.injEq, Obj.cells.injEq] at hg
            exact absurd hg.2.1 (by decide)
        have yD : ∀ (j : Nat) (o : Obj), ((wr.drewN j).alloc o).cell? ⟨w2.heap.size, 3, none⟩ = some (.slice vo n vc) := fun j o => (World.cell?_of_block (Below.heap_alloc (wr.drewN j) o _ hzr)).trans y3
        clear hxq
        go_wp2_with fail
        go_quiet (fail)
        go_wp2_with fail
        go_region_law (refine step_append_lies _ (by rfl) (.tmp 73) (.tmp 79) 22 (by rfl) (w.heap.size + 3) 42 i0 _ 5 56 Try.underlying22 hi hz0 hz1 hz2 rfl (by decide) (.slice vo n vc) n (flatG waitCells ((ws.take k).filter (fun x => x.seq != q))) (by rfl) ((HROWD.out _).alloc _) ⟨wr.heap.size, 0, none⟩ 1 1 (waitCells ⟨xq, xk, xa, xb, xn⟩) (by rfl) (by rfl) (World.news_of_block (heap_alloc_new _ _)) (waitCells_one _) (by omega) (by unfold maxLen; omega) (by omega) (by simp; omega) (wr.heap.size + 1) (by simp) ?_; intro g gc w4 hown4 hg4 hat4 hlt4; have hgr : g ≠ w2.heap.size := (hat4.elim (fun e => (HLT.out g e).2.2) (fun e => by omega)); have hgb := (hown4.lt g rfl).1; have hbn : Below w.heap.size w w4 := ((HB.out.trans (g_drewN_below _ _ _)).drew.alloc (by simp; omega) (.cells #[.int .i64 xq, .int .i64 xk, .string xa, .string xb, .int .i64 xn] 42)).grown hg4 (by simp; omega) (fun j hj => by have := (HLT.out j hj).1; omega); have hgen : ∀ j o, wr.heap[j]? = some o → (Value.slice vo n vc).ownBlock ≠ some j → w4.heap[j]? = some o := (fun j o hj hne => by have hjl := (Array.getElem?_eq_some_iff.1 hj).1; exact ((hg4.block j (by simp; omega) (fun e => hne e.symm)).trans (Below.heap_alloc _ _ _ (by simp; omega))).trans hj); have hq4 := hgen _ _ HQ.out (fun e => (HLT.out _ e).2.2 rfl); have hx4 := hgen _ _ HX.out (fun e => by have := (HLT.out _ e).1; omega); have ho4 := hgen _ _ HO.out (fun e => by have := (HLT.out _ e).1; omega); have hr4 := hgen _ _ HR.out (fun e => by have := (HLT.out _ e).1; omega); have HQ4 := ghid hq4; have HX4 := ghid hx4; have HO4 := ghid ho4; have HR4 := ghid hr4; have HOWN4 := ghid hown4; have HB4 := ghid hbn; clear c0 c1 c2 c3 cf cl' o0 o1 o2 o3 o4 of ol y0 y1 y2 y3 yf yl; clear yD; obtain ⟨y0, y1, y2, y3, yf, yl⟩ := state_cells hq4; have hz4 : wr.heap.size < w4.heap.size := (by have := hg4.size; simp at this; omega); clear hown4 hg4 hat4 hq4 hx4 ho4 hr4 hbn hgen)
        all_goals
          go_wp2
          go_roundw
          case rel =>
            refine ⟨k + 1, n + 1, gc, fb, some ⟨g, 0, none⟩, by omega, by omega, by go_num, rfl, HF2, HN2, ?_, ?_, ?_, ?_, ?_, ?_, ?_⟩
            · rw [HFI.out, flatG_snoc]
              exact grow_keep HOWN4.out fun j hj => by
                have e : g = j := by simpa [Value.ownBlock] using hj
                exact heap_setCell_other _ _ _ _ (by simp; omega)
            · exact heap_set (j := 3) HQ4.out _
            · exact (heap_setCell_other _ _ _ _ (by simp; omega)).trans HX4.out
            · exact (heap_setCell_other _ _ _ _ (by simp; omega)).trans HO4.out
            · exact (heap_setCell_other _ _ _ _ (by simp; omega)).trans HR4.out
            · exact HB4.out.setCell (by simp; omega) _
            · simp; omega
          case measure => simp [intOf]; omega
    · have hkm : k = m := by omega
      subst hkm
      have htk : ws.take k = ws := by rw [HM.out, List.take_length]
      rw [htk] at HF HN HROW
      clear htk
      obtain ⟨c0, c1, c2, c3, cf, cl'⟩ := state_cells hx2
      obtain ⟨o0, o1, o2, o3, o4, of, ol⟩ := five_cells ho2
      obtain ⟨y0, y1, y2, y3, yf, yl⟩ := state_cells hq2
      obtain ⟨r0, r1, r2, r3, rf, rl⟩ := state_cells hr2
      clear hrow hq2 hx2 ho2 hr2 hb
      cases fb with
      | false =>
        obtain ⟨HE, HD⟩ := HCZ.out HF.out.symm
        have HE' := ghid HE
        have HD' := ghid HD
        clear HE HD HCZ HCA HCK
        go_wp2
        refine bodyPost_ret (v := .tuple #[.agg #[.int .i64 0, .int .i64 0, .int .i64 0, .slice none 0 0], .int .i64 12]) (by simp [results, Try.results6, go_sem, r0, r1, r2, r3]) rfl ?_
        exact ⟨_, by rw [HE'.out], by rw [HD'.out]; exact CustO.zero _ _, zset4 HB.out (by omega) _ _ _ _⟩
      | true =>
        by_cases hrc : rc = 11
        · obtain ⟨HE, HD⟩ := HCA.out HF.out.symm hrc
          have HE' := ghid HE
          have HD' := ghid HD
          clear HE HD HCZ HCA HCK
          subst hrc
          have HBF := ghid (fun u0 u1 u2 u3 u5 u6 => zset4 ((HB.out.setCell (by simp; omega) u5 : Below w.heap.size w (wr.setCell ⟨w2.heap.size, 1, none⟩ u5)).setCell (by simp; omega) u6 : Below w.heap.size w ((wr.setCell ⟨w2.heap.size, 1, none⟩ u5).setCell ⟨w2.heap.size, 3, none⟩ u6)) (b := w.heap.size + 1 + 1) (by omega) u0 u1 u2 u3)
          go_wp2
          refine bodyPost_ret (v := .tuple #[.agg #[.int .i64 id, .int .i64 0, .int .i64 nx, .slice none 0 0], .int .i64 0]) (by simp [results, Try.results6, go_sem, r0, r1, r2, r3]) rfl ?_
          exact ⟨_, by rw [HE'.out], by rw [HD'.out]; exact ⟨none, 0, rfl, World.ownsRow_nil _ _ _ _, by show 0 * 56 ≤ _; omega, fun x hx => absurd hx (by simp)⟩, HBF.out _ _ _ _ _ _⟩
        · obtain ⟨HE, HD⟩ := HCK.out HF.out.symm hrc
          have HE' := ghid HE
          have HD' := ghid HD
          have hrcb : (rc == 11) = false := by simpa using hrc
          clear HE HD HCZ HCA HCK hrc
          have HOF := ghid (fun u0 u1 u2 u3 => CustO.put4 (p := w.heap.size + 1 + 1) (m := w.heap.size) (c := ⟨id, se, nx, (ws.filter (fun x => x.seq != q))⟩) ⟨vo, vc, rfl, by rw [← HN.out]; exact HROW.out, HLF.out.1, HLF.out.2⟩ (by omega) (by omega) u0 u1 u2 u3)
          rw [← HN.out] at HOF
          go_wp2
          refine bodyPost_ret (v := .tuple #[.agg #[.int .i64 id, .int .i64 se, .int .i64 nx, .slice vo n vc], .int .i64 0]) (by simp [results, Try.results6, go_sem, r0, r1, r2, r3]) rfl ?_
          exact ⟨_, by rw [HE'.out], by rw [HD'.out]; exact HOF.out _ _ _ _, zset4 HB.out (by omega) _ _ _ _⟩

theorem told_any (v : Value) (c : CustD) (cl q rc rn : Int) (rt : ByteArray) (w : World) (B : Nat) (hv : CustR w B v c) (hB : B ≤ w.heap.size) :
    Calls Try.prog 6 #[v, .agg #[.int .i64 cl, .int .i64 q, .int .i64 rc, .int .i64 rn, .string rt]] w fun e w' => ∃ v', e = .returned (.tuple #[v', .int .i64 (hearE c cl q rc rn)]) ∧ CustO w' w.heap.size v' (hearC c cl q rc rn) ∧ Below w.heap.size w w' := by
  by_cases hc : checkC c = 0
  · by_cases hcl : cl = c.id
    · subst hcl
      by_cases hq : q = 0
      · subst hq
        exact told_join v c rc rn rt w B hv hB hc
      · exact told_call v c q rc rn rt w B hv hB hc hq
    · exact told_refused v c cl q rc rn rt w B hv hB (.inr hcl)
  · exact told_refused v c cl q rc rn rt w B hv hB (.inl hc)

end Go.Proofs.Ytcjoekjjebcomal
