/- The document's KeptOf. (Written by gen_kept.py.) -/
import Derived.Test.YtmcdbdcabiccnafRefSessF
import Derived.Test.YtmcdbdcabiccnafRefSessCopy
import Derived.Test.YtmcdbdcabiccnafRefSessAt
import Derived.Test.YtmcdbdcabiccnafSessKeepMath
import Derived.Test.YtmcdbdcabiccnafSessAnswer
namespace Go.Proofs.Ytmcdbdcabiccnaf
open Go.RowKit

theorem kheap_at (W : World) (o : Obj) (n : Nat) (h : W.heap.size = n) : (W.alloc o).heap[n]? = some o := by subst h; exact heap_alloc_new W o

section
variable {α : Type}
/-- What has come out behind k elements, one more to be put at p. -/
def outG (rs : List α) (r0 : α) (p k : Nat) : List α := if k ≤ p then rs.take k else rs.take p ++ r0 :: (rs.take k).drop p

theorem gtake_succ {rs : List α} {k : Nat} {r : α} (h : rs[k]? = some r) : rs.take (k + 1) = rs.take k ++ [r] := by
  obtain ⟨hk, he⟩ := List.getElem?_eq_some_iff.1 h
  rw [List.take_succ_eq_append_getElem hk, he]

theorem outG_low {rs : List α} {r0 r : α} {p k : Nat} (h : k < p) (hr : rs[k]? = some r) : outG rs r0 p (k + 1) = outG rs r0 p k ++ [r] := by
  unfold outG
  rw [if_pos (by omega), if_pos (by omega), gtake_succ hr]

theorem outG_at {rs : List α} {r0 r : α} {p : Nat} (hr : rs[p]? = some r) : outG rs r0 p (p + 1) = (outG rs r0 p p ++ [r0]) ++ [r] := by
  have hp : p < rs.length := (List.getElem?_eq_some_iff.1 hr).1
  unfold outG
  rw [if_neg (by omega), if_pos (Nat.le_refl _), gtake_succ hr]
  have : (rs.take p).length = p := by rw [List.length_take]; omega
  rw [List.drop_append_of_le_length (by omega), List.drop_of_length_le (by omega)]
  simp

theorem outG_high {rs : List α} {r0 r : α} {p k : Nat} (h : p < k) (hr : rs[k]? = some r) : outG rs r0 p (k + 1) = outG rs r0 p k ++ [r] := by
  have hk : k < rs.length := (List.getElem?_eq_some_iff.1 hr).1
  unfold outG
  rw [if_neg (by omega), if_neg (by omega), gtake_succ hr]
  have : (rs.take k).length = k := by rw [List.length_take]; omega
  rw [List.drop_append_of_le_length (by omega)]
  simp

theorem outG_len {rs : List α} {r0 : α} {p k : Nat} (h : k ≤ rs.length) : (outG rs r0 p k).length ≤ k + 1 := by
  unfold outG
  split
  · rw [List.length_take]; omega
  · simp only [List.length_append, List.length_take, List.length_cons, List.length_drop]; omega

theorem outG_done {rs : List α} {r0 : α} {p : Nat} (h : p < rs.length) : outG rs r0 p rs.length = rs.take p ++ r0 :: rs.drop p := by
  unfold outG
  rw [if_neg (by omega), List.take_of_length_le (Nat.le_refl rs.length)]

theorem outG_last {rs : List α} {r0 : α} : outG rs r0 rs.length rs.length ++ [r0] = rs.take rs.length ++ r0 :: rs.drop rs.length := by
  unfold outG
  rw [if_pos (Nat.le_refl _)]
  simp
end

theorem placeK_before {ks : List KeptD} {q : Int} {j : Nat} {y : KeptD} (hj : j < placeK ks q) (hy : ks[j]? = some y) : y.seq < q := by
  obtain ⟨h1, h2⟩ := List.getElem?_eq_some_iff.1 hy
  have := List.not_of_lt_findIdx (p := fun x : KeptD => decide (q ≤ x.seq)) (xs := ks) hj
  rw [h2] at this
  simp at this
  omega

theorem placeK_at {ks : List KeptD} {q : Int} {y : KeptD} (hy : ks[placeK ks q]? = some y) : q ≤ y.seq := by
  obtain ⟨h1, h2⟩ := List.getElem?_eq_some_iff.1 hy
  have := List.findIdx_getElem (p := fun x : KeptD => decide (q ≤ x.seq)) (xs := ks) (w := h1)
  have e : ks[placeK ks q] = y := h2
  unfold placeK at e
  rw [e] at this
  simpa using this

theorem placeK_above {ks : List KeptD} {q : Int} (ho : ks.Pairwise (fun a b => a.seq < b.seq)) (ht : thereK ks q = false) {j : Nat} {y : KeptD} (hj : placeK ks q ≤ j) (hy : ks[j]? = some y) : q < y.seq := by
  obtain ⟨h1, h2⟩ := List.getElem?_eq_some_iff.1 hy
  obtain ⟨x, hx⟩ : ∃ x, ks[placeK ks q]? = some x := ⟨_, List.getElem?_eq_getElem (by omega)⟩
  have h3 := placeK_at hx
  have h4 : x.seq ≠ q := by
    unfold thereK at ht
    rw [hx] at ht
    simpa using ht
  by_cases e : j = placeK ks q
  · subst e
    have := hx.symm.trans hy
    simp only [Option.some.injEq] at this
    rw [← this]
    omega
  · obtain ⟨h5, h6⟩ := List.getElem?_eq_some_iff.1 hx
    have := List.pairwise_iff_getElem.1 ho (placeK ks q) j h5 h1 (by omega)
    rw [h6, h2] at this
    omega

set_option maxRecDepth 100000 in
set_option maxHeartbeats 6400000 in
theorem keptOf_any (v : Value) (ls : List SessD) (i c q rc rn : Int) (rt : ByteArray) (w : World) (B : Nat) (hv : SessR w B v ls) (hB : B ≤ w.heap.size) (hrt : rt.size ≤ 140737488351232) :
    Calls Try.prog 15 #[v, .int .i64 i, .int .i64 c, .int .i64 q, .agg #[.int .i64 rc, .int .i64 rn, .string rt]] w fun e w' => ∃ v', e = .returned (.tuple #[v', .int .i64 (keepE ls i c ⟨q, rc, rn, rt⟩)]) ∧ SessR w' w'.heap.size v' (if keepE ls i c ⟨q, rc, rn, rt⟩ = 0 then keepS ls c ⟨q, rc, rn, rt⟩ else []) ∧ Below w.heap.size w w' := by
  have hb0 : Below w.heap.size w (w.alloc (.cells #[.int .i64 rc, .int .i64 rn, .string rt] 26)) := (Below.refl _ _).alloc (Nat.le_refl _) _
  have CR := sessionsFault_any v ls i _ B (hv.below hb0 hB) (by simp; omega)
  have HV := ghid hv
  have HB0 := ghid hb0
  obtain ⟨i0, hi, hz0, hz1, hz2⟩ := info_parts Try.infoKept
  obtain ⟨ao, cap, rfl, -⟩ := hv
  clear hb0
  rcases keep_cases ls i c ⟨q, rc, rn, rt⟩ with ⟨h1, he⟩ | ⟨h1, ht, he⟩ | ⟨x, h1, ht, hx, hcase⟩
  · rw [he]
    rw [if_neg h1]
    obtain ⟨ec, hec⟩ : ∃ ec, ec = checkS ls i := ⟨_, rfl⟩
    rw [← hec] at CR h1 ⊢
    have hr2 : (ec == 0) = false := by simpa using h1
    clear hec he
    go_enter Try.func15, Try.ntmps15
    go_wp2_with fail
    refine CR.mono ?_
    rintro e w1 ⟨rfl, hb1⟩
    have hzz1 : w.heap.size < w1.heap.size := by have := hb1.size; simp at this; omega
    have HG1 := ghid ((hb1.block w.heap.size (by simp)).trans (heap_alloc_new w _))
    have HB1 := ghid (HB0.out.trans (hb1.mono (by simp)))
    clear hb1 CR
    go_wp2
    refine bodyPost_ret (v := .tuple #[.slice none 0 0, .int .i64 ec]) (by simp [results, Try.results15, go_sem]) rfl ?_
    exact ⟨_, rfl, SessR.nil _ _, HB1.out⟩
  · rw [he]
    rw [if_neg (by decide)]
    rw [h1] at CR
    have HGD := ghid (checkS_zero h1)
    have CP := ghid (fun u w' hu => sessionAt_none u ls c w' w'.heap.size hu (fun j y hy => thereS_none HGD.out.order ht hy))
    clear he h1 ht
    go_enter Try.func15, Try.ntmps15
    go_wp2_with fail
    refine CR.mono ?_
    rintro e w1 ⟨rfl, hb1⟩
    have hzz1 : w.heap.size < w1.heap.size := by have := hb1.size; simp at this; omega
    have HG1 := ghid ((hb1.block w.heap.size (by simp)).trans (heap_alloc_new w _))
    have HB1 := ghid (HB0.out.trans (hb1.mono (by simp)))
    clear hb1 CR
    go_wp2_with fail
    refine (sessionsCopy_any _ ls w1 B (HV.out.below HB1.out hB) (by have := HB1.out.size; omega)).mono ?_
    rintro e w2 ⟨v2, rs, rfl, hrs, hown2, hb2⟩
    have HG2 := ghid ((hb2.block w.heap.size hzz1).trans HG1.out)
    have HB2 := ghid (HB1.out.trans (hb2.mono HB1.out.size))
    have HRS := ghid hrs
    have HO2 := ghid hown2
    have hrd := hown2.reads (Nat.le_refl _)
    rw [hrs] at hrd
    have hz12 : w1.heap.size ≤ w2.heap.size := hb2.size
    have hzz2 : w.heap.size < w2.heap.size := lt_of_block HG2.out
    clear hb2 hown2 hrs
    go_wp2_with fail
    refine (CP.out _ _ hrd).mono ?_
    rintro e w9 ⟨rfl, hw⟩
    subst w9
    clear hrd CP
    go_wp2
    refine bodyPost_ret (v := .tuple #[.slice none 0 0, .int .i64 11]) (by simp [results, Try.results15, go_sem]) rfl ?_
    exact ⟨_, rfl, SessR.nil _ _, HB2.out⟩
  · have hlt : placeS ls c < ls.length := (List.getElem?_eq_some_iff.1 hx).1
    have HGD := ghid (checkS_zero h1)
    have hl4 := HGD.out.len
    have hfine := HGD.out.fine x (List.mem_of_getElem? hx)
    have hrg := rangeB_iff.1 hfine.range
    have hxl := sformB_len hfine.form
    have HORD := ghid (formFrom_rise hfine.form)
    have HKS := ghid (keepS_there (k := ⟨q, rc, rn, rt⟩) hx)
    rw [h1] at CR
    obtain ⟨x', hx', hxc⟩ := thereS_some ht
    have CP := ghid (fun u w' hu => sessionAt_found u ls c (placeS ls c) x' w' w'.heap.size hu hx' hxc (fun j y hj hy => by have := placeS_before hj hy; omega))
    obtain ⟨n, hne⟩ : ∃ n, n = placeS ls c := ⟨_, rfl⟩
    rw [← hne] at CP hx hlt HKS
    have HX := ghid hx
    obtain ⟨xc, xi, xa, xt, xk⟩ := x
    simp only at hrg hxl HKS hcase HORD
    have hxa0 : 0 ≤ xa := hrg.2.2.1
    have hxa1 : xa ≤ 1048576 := hrg.2.2.2.1
    have hkin : placeK xk q ≤ xk.length := List.findIdx_le_length
    have HLOW : Hid (∀ (j : Nat) (y : KeptD), j < placeK xk q → xk[j]? = some y → y.seq < q) := fun j y hj hy => placeK_before hj hy
    clear h1 ht hx hne hfine hrg hx' hxc
    rcases hcase with ⟨hk, he⟩ | hff
    · rw [he]
      rw [if_neg (by decide)]
      obtain ⟨kk, hkk, hkq⟩ := thereK_some hk
      have hpl : placeK xk q < xk.length := (List.getElem?_eq_some_iff.1 hkk).1
      obtain ⟨p, hpe⟩ : ∃ p, p = placeK xk q := ⟨_, rfl⟩
      rw [← hpe] at hkk hpl HLOW hkin
      have HKK := ghid hkk
      clear he hk hpe hkk
      go_enter Try.func15, Try.ntmps15
      go_wp2_with fail
      refine CR.mono ?_
      rintro e w1 ⟨rfl, hb1⟩
      have hzz1 : w.heap.size < w1.heap.size := by have := hb1.size; simp at this; omega
      have HG1 := ghid ((hb1.block w.heap.size (by simp)).trans (heap_alloc_new w _))
      have HB1 := ghid (HB0.out.trans (hb1.mono (by simp)))
      clear hb1 CR
      go_wp2_with fail
      refine (sessionsCopy_any _ ls w1 B (HV.out.below HB1.out hB) (by have := HB1.out.size; omega)).mono ?_
      rintro e w2 ⟨v2, rs, rfl, hrs, hown2, hb2⟩
      have HG2 := ghid ((hb2.block w.heap.size hzz1).trans HG1.out)
      have HB2 := ghid (HB1.out.trans (hb2.mono HB1.out.size))
      have HRS := ghid hrs
      have HO2 := ghid hown2
      have hrd := hown2.reads (Nat.le_refl _)
      rw [hrs] at hrd
      have hz12 : w1.heap.size ≤ w2.heap.size := hb2.size
      have hzz2 : w.heap.size < w2.heap.size := lt_of_block HG2.out
      clear hb2 hown2 hrs
      go_wp2_with fail
      refine (CP.out _ _ hrd).mono ?_
      rintro e w9 ⟨rfl, hw⟩
      subst w9
      clear hrd CP
      obtain ⟨xv, hrn⟩ := map_at HRS.out HX.out
      have HRN := ghid hrn
      have hrl : rs.length = ls.length := by rw [← HRS.out, List.length_map]
      obtain ⟨g, gc, hge, hgb, hgl, -⟩ := grow_some HO2.out.row (by omega)
      subst hge
      rw [hrl] at HO2 ⊢
      have HRL := ghid hrl
      obtain ⟨d0, d1, d2, d3, d4⟩ := HO2.out.cells hrn
      have df := HO2.out.frozenAt
      simp only at d0 d1 d2 d3 d4
      have HKR := ghid ((HO2.out.reps.each _ (List.mem_of_getElem? hrn)).reads (Nat.le_refl _))
      simp only at HKR
      have hkr := HKR.out
      obtain ⟨lo, lc, rfl, k1, k2, k3, k4⟩ := hkr
      have x0 := cell_of_row w2 w.heap.size 0 _ _ _ HG2.out
      have x1 := cell_of_row w2 w.heap.size 1 _ _ _ HG2.out
      have x2 := cell_of_row w2 w.heap.size 2 _ _ _ HG2.out
      simp only [List.getElem?_toArray, List.getElem?_cons_zero, List.getElem?_cons_succ] at x0 x1 x2
      have hnl : (n : Int) < ls.length := by omega
      clear hrn hrl
      go_wp2
      go_loopw [15, 16, 17] (fun o dv kv wr => ∃ (k : Nat), k ≤ p ∧ kv = .int .i64 k ∧ dv = .bool false ∧ wr.ownsRow w2.heap.size 54 4 o (xk.take k).length (flatG keptCells (xk.take k)) ∧ Below w2.heap.size w2 wr)
        (fun _ _ kv _ => xk.length - (intOf kv).toNat)
      case atStart => exact ⟨0, Nat.zero_le _, rfl, rfl, by simpa [flatG] using World.ownsRow_nil _ _ _ _, Below.refl _ _⟩
      case round =>
        obtain ⟨k, hkp, rfl, rfl, hrow, hb⟩ := hrel
        have hsz := hb.size
        have hlt2 : k < xk.length := by omega
        have HR := ghid hrow
        have HB := ghid hb
        obtain ⟨kb, kf, rfl, hkB, hkc⟩ := k4 (by omega)
        obtain ⟨y, hy⟩ : ∃ y, xk[k]? = some y := ⟨_, List.getElem?_eq_getElem hlt2⟩
        obtain ⟨c0, c1, c2, c3, -⟩ := (hkc k y hy).below hkB hb
        have HYK := ghid hy
        obtain ⟨xs, xd, xn, xx⟩ := y
        simp only at c0 c1 c2 c3
        have e4 : wr.cell? ⟨g, n * 5 + 4, none⟩ = some (.slice (some ⟨kb, kf, none⟩) xk.length lc) := (hb.cell (p := ⟨g, n * 5 + 4, none⟩) hgl).trans d4
        have y0 := (hb.cell (p := ⟨w.heap.size, 0, none⟩) hzz2).trans x0
        have y1 := (hb.cell (p := ⟨w.heap.size, 1, none⟩) hzz2).trans x1
        have y2 := (hb.cell (p := ⟨w.heap.size, 2, none⟩) hzz2).trans x2
        have hgr : g < wr.heap.size := by omega
        have hkbr : kb < wr.heap.size := by omega
        have hwwr : w.heap.size < wr.heap.size := by omega
        obtain ⟨oo, oc, rfl⟩ := grow_shape hrow
        obtain ⟨nf, hnf⟩ : ∃ nf, nf = (xk.take k).length := ⟨_, rfl⟩
        rw [← hnf] at HR ⊢
        have HNF := ghid hnf.symm
        have hfl : nf ≤ k + 1 := by rw [hnf]; rw [List.length_take]; omega
        clear hrow hb hy hkc hnf
        have hnf4 : nf ≤ 4 := by omega
        by_cases hkn : k = p
        · have e1 : xs = q := by
            subst hkn
            have := HYK.out.symm.trans HKK.out
            simp only [Option.some.injEq] at this
            rw [← this] at hkq
            exact hkq
          subst e1
          clear hkn
          go_wp2
          refine bodyPost_ret (v := .tuple #[.slice none 0 0, .int .i64 7]) (by simp [results, Try.results15, go_sem]) rfl ?_
          exact ⟨_, rfl, SessR.nil _ _, (HB2.out.trans (HB.out.mono (by omega))).alloc (by have := HB2.out.size; omega) _⟩
        · have hlo : xs < q := HLOW.out k _ (by omega) HYK.out
          have e1 : (xs == q) = false := by simpa using (show ¬ xs = q by omega)
          have e2 : ¬ q < xs := by omega
          have HN := ghid (gtake_succ HYK.out)
          have HBE := ghid (HB.out.alloc hsz (.cells #[.int .i64 xs, .int .i64 xd, .int .i64 xn, .string xx] 54))
          have HRE : Hid ((wr.alloc (.cells #[.int .i64 xs, .int .i64 xd, .int .i64 xn, .string xx] 54)).ownsRow w2.heap.size 54 4 (.slice oo nf oc) nf (flatG keptCells (xk.take k))) := grow_below HR.out ((Below.refl _ _).alloc (Nat.le_refl _) _) (Nat.le_refl _)
          have hszE : w2.heap.size ≤ (wr.alloc (.cells #[.int .i64 xs, .int .i64 xd, .int .i64 xn, .string xx] 54)).heap.size := by simp; omega
          obtain ⟨Wa, hWa⟩ : ∃ Wa, Wa = (wr.alloc (.cells #[.int .i64 xs, .int .i64 xd, .int .i64 xn, .string xx] 54)).alloc (.cells #[.int .i64 xs, .int .i64 xd, .int .i64 xn, .string xx] 54) := ⟨_, rfl⟩
          have HAa : Hid (Below (wr.alloc (.cells #[.int .i64 xs, .int .i64 xd, .int .i64 xn, .string xx] 54)).heap.size (wr.alloc (.cells #[.int .i64 xs, .int .i64 xd, .int .i64 xn, .string xx] 54)) Wa) := by unfold Hid; rw [hWa]; exact (Below.refl _ _).alloc (Nat.le_refl _) _
          have HROWa : Hid (Wa.ownsRow w2.heap.size 54 4 (.slice oo nf oc) nf (flatG keptCells (xk.take k))) := grow_below HRE.out HAa.out (Nat.le_refl _)
          have HNEWa : Hid (∀ j u, (keptCells (⟨xs, xd, xn, xx⟩ : KeptD))[j]? = some u → Wa.cell? ((⟨(wr.heap.size + 1), 0, none⟩ : Addr).add j) = some u) := by
            unfold Hid
            rw [hWa]
            exact World.news_of_block (kheap_at (wr.alloc (.cells #[.int .i64 xs, .int .i64 xd, .int .i64 xn, .string xx] 54)) _ _ (by simp))
          have hza : w2.heap.size ≤ Wa.heap.size := Nat.le_trans hszE HAa.out.size
          have HWa := ghid hWa
          clear hWa
          go_wp2_with (at_builtin; refine wpList_append_lies _ rfl (.tmp 68) (.tmp 70) 49 rfl w2.heap.size 54 i0 _ 4 40 Try.underlying49 hi hz0 hz1 hz2 rfl (by decide) (.slice oo nf oc) nf (flatG keptCells (xk.take k)) rfl (by rw [← HWa.out]; exact HROWa.out) ⟨(wr.heap.size + 1), 0, none⟩ 1 1 (keptCells (⟨xs, xd, xn, xx⟩ : KeptD)) rfl rfl (by rw [← HWa.out]; exact HNEWa.out) (keptCells_one _) (by omega) (by unfold maxLen; omega) (by omega) (by rw [← HWa.out]; exact hza) _ rfl ?_)
          intro ga ca w5 howna hga hata hlta
          rw [← HWa.out] at hga
          have HRa : Hid (w5.ownsRow w2.heap.size 54 4 (.slice (some ⟨ga, 0, none⟩) (nf + 1) ca) (nf + 1) (flatG keptCells (xk.take k ++ [(⟨xs, xd, xn, xx⟩ : KeptD)]))) := by
            unfold Hid
            rw [flatG_snoc]
            exact howna
          have hba := (HBE.out.trans (HAa.out.mono hszE)).grown hga hza (fun c hc => (HRE.out.lt c hc).1)
          have HBa := ghid hba
          have hsza := hba.size
          have kxa : ∀ b o, b < w2.heap.size → w5.cell? ⟨b, o, none⟩ = w2.cell? ⟨b, o, none⟩ := fun b o h => hba.cell (p := ⟨b, o, none⟩) h
          clear howna hga hata hlta hba HROWa HNEWa
          have HL : Hid ((xk.take (k + 1)).length = nf + 1) := by unfold Hid; rw [HN.out, List.length_append, HNF.out]; rfl
          go_wp2
          go_roundw
          case rel => exact ⟨k + 1, by omega, by go_num, rfl, by rw [HL.out, HN.out]; exact HRa.out, HBa.out⟩
          case measure => simp [intOf]; omega
    · have HHIGH : Hid (∀ (j : Nat) (y : KeptD), placeK xk q ≤ j → xk[j]? = some y → q < y.seq) := fun j y hj hy => placeK_above HORD.out (by rcases hff with h | h; exact h.1; exact h.1) hj hy
      rcases hff with ⟨hk, hf, he⟩ | ⟨hk, hf, he⟩
      · rw [he]
        rw [if_neg (by decide)]
        have HFB : Hid (formFrom xa xa (xk.take (placeK xk q) ++ ⟨q, rc, rn, rt⟩ :: xk.drop (placeK xk q)) = false) := hf
        obtain ⟨p, hpe⟩ : ∃ p, p = placeK xk q := ⟨_, rfl⟩
        rw [← hpe] at HLOW HHIGH HFB hkin
        clear hk hf he hpe HKS HORD
        go_enter Try.func15, Try.ntmps15
        go_wp2_with fail
        refine CR.mono ?_
        rintro e w1 ⟨rfl, hb1⟩
        have hzz1 : w.heap.size < w1.heap.size := by have := hb1.size; simp at this; omega
        have HG1 := ghid ((hb1.block w.heap.size (by simp)).trans (heap_alloc_new w _))
        have HB1 := ghid (HB0.out.trans (hb1.mono (by simp)))
        clear hb1 CR
        go_wp2_with fail
        refine (sessionsCopy_any _ ls w1 B (HV.out.below HB1.out hB) (by have := HB1.out.size; omega)).mono ?_
        rintro e w2 ⟨v2, rs, rfl, hrs, hown2, hb2⟩
        have HG2 := ghid ((hb2.block w.heap.size hzz1).trans HG1.out)
        have HB2 := ghid (HB1.out.trans (hb2.mono HB1.out.size))
        have HRS := ghid hrs
        have HO2 := ghid hown2
        have hrd := hown2.reads (Nat.le_refl _)
        rw [hrs] at hrd
        have hz12 : w1.heap.size ≤ w2.heap.size := hb2.size
        have hzz2 : w.heap.size < w2.heap.size := lt_of_block HG2.out
        clear hb2 hown2 hrs
        go_wp2_with fail
        refine (CP.out _ _ hrd).mono ?_
        rintro e w9 ⟨rfl, hw⟩
        subst w9
        clear hrd CP
        obtain ⟨xv, hrn⟩ := map_at HRS.out HX.out
        have HRN := ghid hrn
        have hrl : rs.length = ls.length := by rw [← HRS.out, List.length_map]
        obtain ⟨g, gc, hge, hgb, hgl, -⟩ := grow_some HO2.out.row (by omega)
        subst hge
        rw [hrl] at HO2 ⊢
        have HRL := ghid hrl
        obtain ⟨d0, d1, d2, d3, d4⟩ := HO2.out.cells hrn
        have df := HO2.out.frozenAt
        simp only at d0 d1 d2 d3 d4
        have HKR := ghid ((HO2.out.reps.each _ (List.mem_of_getElem? hrn)).reads (Nat.le_refl _))
        simp only at HKR
        have hkr := HKR.out
        obtain ⟨lo, lc, rfl, k1, k2, k3, k4⟩ := hkr
        have x0 := cell_of_row w2 w.heap.size 0 _ _ _ HG2.out
        have x1 := cell_of_row w2 w.heap.size 1 _ _ _ HG2.out
        have x2 := cell_of_row w2 w.heap.size 2 _ _ _ HG2.out
        simp only [List.getElem?_toArray, List.getElem?_cons_zero, List.getElem?_cons_succ] at x0 x1 x2
        have hnl : (n : Int) < ls.length := by omega
        clear hrn hrl
        have HOUT : Hid (∀ (w' : World) (o : Value), Below w2.heap.size w2 w' → w'.ownsRow w2.heap.size 54 4 o (xk.take p ++ (⟨q, rc, rn, rt⟩ : KeptD) :: xk.drop p).length (flatG keptCells (xk.take p ++ (⟨q, rc, rn, rt⟩ : KeptD) :: xk.drop p)) → OwnS (w'.setCell ⟨g, n * 5 + 4, none⟩ o) w1.heap.size (.slice (some ⟨g, 0, none⟩) ls.length gc) (rs.set n (({ (⟨xc, xi, xa, xt, xk⟩ : SessD) with replies := xk.take p ++ (⟨q, rc, rn, rt⟩ : KeptD) :: xk.drop p }, o) : SessD × Value))) := by
          intro w' o hb' hr'
          refine HO2.out.setReplies HRN.out (TouchG.of_below hb' (Nat.le_refl _) _) ⟨grow_mono hr' hz12, by simp [List.length_take, List.length_drop]; omega, fun kq hkq => ?_⟩ (fun b hb => Or.inr (hr'.lt b hb).1)
          rcases List.mem_append.1 hkq with h | h
          · exact HKR.out.modest kq (List.mem_of_mem_take h)
          · rcases List.mem_cons.1 h with h | h
            · rw [h]; exact hrt
            · exact HKR.out.modest kq (List.mem_of_mem_drop h)
        go_wp2
        go_loopw [15, 16, 17] (fun o dv kv wr => ∃ (k : Nat), k ≤ xk.length ∧ kv = .int .i64 k ∧ dv = .bool (decide (p < k)) ∧ wr.ownsRow w2.heap.size 54 4 o (outG xk (⟨q, rc, rn, rt⟩ : KeptD) p k).length (flatG keptCells (outG xk (⟨q, rc, rn, rt⟩ : KeptD) p k)) ∧ Below w2.heap.size w2 wr)
          (fun _ _ kv _ => xk.length - (intOf kv).toNat)
        case atStart => exact ⟨0, Nat.zero_le _, rfl, by simp, by simpa [outG, flatG] using World.ownsRow_nil _ _ _ _, Below.refl _ _⟩
        case round =>
          obtain ⟨k, hkp, rfl, rfl, hrow, hb⟩ := hrel
          have hsz := hb.size
          by_cases hlt2 : k < xk.length
          · skip
            have HR := ghid hrow
            have HB := ghid hb
            obtain ⟨kb, kf, rfl, hkB, hkc⟩ := k4 (by omega)
            obtain ⟨y, hy⟩ : ∃ y, xk[k]? = some y := ⟨_, List.getElem?_eq_getElem hlt2⟩
            obtain ⟨c0, c1, c2, c3, -⟩ := (hkc k y hy).below hkB hb
            have HYK := ghid hy
            obtain ⟨xs, xd, xn, xx⟩ := y
            simp only at c0 c1 c2 c3
            have e4 : wr.cell? ⟨g, n * 5 + 4, none⟩ = some (.slice (some ⟨kb, kf, none⟩) xk.length lc) := (hb.cell (p := ⟨g, n * 5 + 4, none⟩) hgl).trans d4
            have y0 := (hb.cell (p := ⟨w.heap.size, 0, none⟩) hzz2).trans x0
            have y1 := (hb.cell (p := ⟨w.heap.size, 1, none⟩) hzz2).trans x1
            have y2 := (hb.cell (p := ⟨w.heap.size, 2, none⟩) hzz2).trans x2
            have hgr : g < wr.heap.size := by omega
            have hkbr : kb < wr.heap.size := by omega
            have hwwr : w.heap.size < wr.heap.size := by omega
            obtain ⟨oo, oc, rfl⟩ := grow_shape hrow
            obtain ⟨nf, hnf⟩ : ∃ nf, nf = (outG xk (⟨q, rc, rn, rt⟩ : KeptD) p k).length := ⟨_, rfl⟩
            rw [← hnf] at HR ⊢
            have HNF := ghid hnf.symm
            have hfl : nf ≤ k + 1 := by rw [hnf]; exact outG_len (by omega)
            clear hrow hb hy hkc hnf
            have hnf4 : nf ≤ 4 := by omega
            have hlow : k < p → xs < q := fun h => HLOW.out k _ h HYK.out
            have hhigh : p ≤ k → q < xs := fun h => HHIGH.out k _ h HYK.out
            have HBE := ghid (HB.out.alloc hsz (.cells #[.int .i64 xs, .int .i64 xd, .int .i64 xn, .string xx] 54))
            have HRE : Hid ((wr.alloc (.cells #[.int .i64 xs, .int .i64 xd, .int .i64 xn, .string xx] 54)).ownsRow w2.heap.size 54 4 (.slice oo nf oc) nf (flatG keptCells (outG xk (⟨q, rc, rn, rt⟩ : KeptD) p k))) := grow_below HR.out ((Below.refl _ _).alloc (Nat.le_refl _) _) (Nat.le_refl _)
            have hszE : w2.heap.size ≤ (wr.alloc (.cells #[.int .i64 xs, .int .i64 xd, .int .i64 xn, .string xx] 54)).heap.size := by simp; omega
            rcases (by omega : k < p ∨ k = p ∨ p < k) with hkn | hkn | hkn
            · have e1 : decide (p < k) = false := by simp; omega
              have e2 : decide (p < k + 1) = false := by simp; omega
              have e3 : (xs == q) = false := by simpa using (show ¬ xs = q by have := hlow hkn; omega)
              have e4' : ¬ q < xs := by have := hlow hkn; omega
              have HN := ghid (outG_low (r0 := (⟨q, rc, rn, rt⟩ : KeptD)) hkn HYK.out)
              rw [e1]
              clear hlow hhigh
              obtain ⟨Wa, hWa⟩ : ∃ Wa, Wa = (wr.alloc (.cells #[.int .i64 xs, .int .i64 xd, .int .i64 xn, .string xx] 54)).alloc (.cells #[.int .i64 xs, .int .i64 xd, .int .i64 xn, .string xx] 54) := ⟨_, rfl⟩
              have HAa : Hid (Below (wr.alloc (.cells #[.int .i64 xs, .int .i64 xd, .int .i64 xn, .string xx] 54)).heap.size (wr.alloc (.cells #[.int .i64 xs, .int .i64 xd, .int .i64 xn, .string xx] 54)) Wa) := by unfold Hid; rw [hWa]; exact (Below.refl _ _).alloc (Nat.le_refl _) _
              have HROWa : Hid (Wa.ownsRow w2.heap.size 54 4 (.slice oo nf oc) nf (flatG keptCells (outG xk (⟨q, rc, rn, rt⟩ : KeptD) p k))) := grow_below HRE.out HAa.out (Nat.le_refl _)
              have HNEWa : Hid (∀ j u, (keptCells (⟨xs, xd, xn, xx⟩ : KeptD))[j]? = some u → Wa.cell? ((⟨(wr.heap.size + 1), 0, none⟩ : Addr).add j) = some u) := by
                unfold Hid
                rw [hWa]
                exact World.news_of_block (kheap_at (wr.alloc (.cells #[.int .i64 xs, .int .i64 xd, .int .i64 xn, .string xx] 54)) _ _ (by simp))
              have hza : w2.heap.size ≤ Wa.heap.size := Nat.le_trans hszE HAa.out.size
              have HWa := ghid hWa
              clear hWa
              go_wp2_with (at_builtin; refine wpList_append_lies _ rfl (.tmp 68) (.tmp 70) 49 rfl w2.heap.size 54 i0 _ 4 40 Try.underlying49 hi hz0 hz1 hz2 rfl (by decide) (.slice oo nf oc) nf (flatG keptCells (outG xk (⟨q, rc, rn, rt⟩ : KeptD) p k)) rfl (by rw [← HWa.out]; exact HROWa.out) ⟨(wr.heap.size + 1), 0, none⟩ 1 1 (keptCells (⟨xs, xd, xn, xx⟩ : KeptD)) rfl rfl (by rw [← HWa.out]; exact HNEWa.out) (keptCells_one _) (by omega) (by unfold maxLen; omega) (by omega) (by rw [← HWa.out]; exact hza) _ rfl ?_)
              intro ga ca w5 howna hga hata hlta
              rw [← HWa.out] at hga
              have HRa : Hid (w5.ownsRow w2.heap.size 54 4 (.slice (some ⟨ga, 0, none⟩) (nf + 1) ca) (nf + 1) (flatG keptCells (outG xk (⟨q, rc, rn, rt⟩ : KeptD) p k ++ [(⟨xs, xd, xn, xx⟩ : KeptD)]))) := by
                unfold Hid
                rw [flatG_snoc]
                exact howna
              have hba := (HBE.out.trans (HAa.out.mono hszE)).grown hga hza (fun c hc => (HRE.out.lt c hc).1)
              have HBa := ghid hba
              have hsza := hba.size
              have kxa : ∀ b o, b < w2.heap.size → w5.cell? ⟨b, o, none⟩ = w2.cell? ⟨b, o, none⟩ := fun b o h => hba.cell (p := ⟨b, o, none⟩) h
              clear howna hga hata hlta hba HROWa HNEWa
              have HL : Hid ((outG xk (⟨q, rc, rn, rt⟩ : KeptD) p (k + 1)).length = nf + 1) := by unfold Hid; rw [HN.out, List.length_append, HNF.out]; rfl
              go_wp2
              go_roundw
              case rel => exact ⟨k + 1, by omega, by go_num, by rw [e2], by rw [HL.out, HN.out]; exact HRa.out, HBa.out⟩
              case measure => simp [intOf]; omega
            · subst hkn
              have e1 : decide (k < k) = false := by simp
              have e2 : decide (k < k + 1) = true := by simp
              have e3 : (xs == q) = false := by simpa using (show ¬ xs = q by have := hhigh (Nat.le_refl _); omega)
              have e4' : q < xs := hhigh (Nat.le_refl _)
              have HN := ghid (outG_at (r0 := (⟨q, rc, rn, rt⟩ : KeptD)) HYK.out)
              rw [e1]
              clear hlow hhigh
              obtain ⟨Wa, hWa⟩ : ∃ Wa, Wa = (wr.alloc (.cells #[.int .i64 xs, .int .i64 xd, .int .i64 xn, .string xx] 54)).alloc (.cells #[.int .i64 q, .int .i64 rc, .int .i64 rn, .string rt] 54) := ⟨_, rfl⟩
              have HAa : Hid (Below (wr.alloc (.cells #[.int .i64 xs, .int .i64 xd, .int .i64 xn, .string xx] 54)).heap.size (wr.alloc (.cells #[.int .i64 xs, .int .i64 xd, .int .i64 xn, .string xx] 54)) Wa) := by unfold Hid; rw [hWa]; exact (Below.refl _ _).alloc (Nat.le_refl _) _
              have HROWa : Hid (Wa.ownsRow w2.heap.size 54 4 (.slice oo nf oc) nf (flatG keptCells (outG xk (⟨q, rc, rn, rt⟩ : KeptD) k k))) := grow_below HRE.out HAa.out (Nat.le_refl _)
              have HNEWa : Hid (∀ j u, (keptCells (⟨q, rc, rn, rt⟩ : KeptD))[j]? = some u → Wa.cell? ((⟨(wr.heap.size + 1), 0, none⟩ : Addr).add j) = some u) := by
                unfold Hid
                rw [hWa]
                exact World.news_of_block (kheap_at (wr.alloc (.cells #[.int .i64 xs, .int .i64 xd, .int .i64 xn, .string xx] 54)) _ _ (by simp))
              have hza : w2.heap.size ≤ Wa.heap.size := Nat.le_trans hszE HAa.out.size
              have HWa := ghid hWa
              clear hWa
              go_wp2_with (at_builtin; refine wpList_append_lies _ rfl (.tmp 62) (.tmp 66) 49 rfl w2.heap.size 54 i0 _ 4 40 Try.underlying49 hi hz0 hz1 hz2 rfl (by decide) (.slice oo nf oc) nf (flatG keptCells (outG xk (⟨q, rc, rn, rt⟩ : KeptD) k k)) rfl (by rw [← HWa.out]; exact HROWa.out) ⟨(wr.heap.size + 1), 0, none⟩ 1 1 (keptCells (⟨q, rc, rn, rt⟩ : KeptD)) rfl rfl (by rw [← HWa.out]; exact HNEWa.out) (keptCells_one _) (by omega) (by unfold maxLen; omega) (by omega) (by rw [← HWa.out]; exact hza) _ rfl ?_)
              intro ga ca w5 howna hga hata hlta
              rw [← HWa.out] at hga
              have HRa : Hid (w5.ownsRow w2.heap.size 54 4 (.slice (some ⟨ga, 0, none⟩) (nf + 1) ca) (nf + 1) (flatG keptCells (outG xk (⟨q, rc, rn, rt⟩ : KeptD) k k ++ [(⟨q, rc, rn, rt⟩ : KeptD)]))) := by
                unfold Hid
                rw [flatG_snoc]
                exact howna
              have hba := (HBE.out.trans (HAa.out.mono hszE)).grown hga hza (fun c hc => (HRE.out.lt c hc).1)
              have HBa := ghid hba
              have hsza := hba.size
              have kxa : ∀ b o, b < w2.heap.size → w5.cell? ⟨b, o, none⟩ = w2.cell? ⟨b, o, none⟩ := fun b o h => hba.cell (p := ⟨b, o, none⟩) h
              have hgx : w5.heap[wr.heap.size]? = some (.cells #[.int .i64 xs, .int .i64 xd, .int .i64 xn, .string xx] 54 (0, 0)) := by
                rw [hga.block wr.heap.size (by rw [HWa.out]; simp; omega) (fun e => by have := (HR.out.lt wr.heap.size e.symm).2; omega), HWa.out, Below.heap_alloc _ _ _ (by simp)]
                exact heap_alloc_new wr _
              have f0 := cell_of_row w5 wr.heap.size 0 _ _ _ hgx
              have f1 := cell_of_row w5 wr.heap.size 1 _ _ _ hgx
              have f2 := cell_of_row w5 wr.heap.size 2 _ _ _ hgx
              have f3 := cell_of_row w5 wr.heap.size 3 _ _ _ hgx
              simp only [List.getElem?_toArray, List.getElem?_cons_zero, List.getElem?_cons_succ] at f0 f1 f2 f3
              have hgxl : wr.heap.size < w5.heap.size := lt_of_block hgx
              clear howna hga hata hlta hba HROWa HNEWa
              obtain ⟨Wb, hWb⟩ : ∃ Wb, Wb = w5.alloc (.cells #[.int .i64 xs, .int .i64 xd, .int .i64 xn, .string xx] 54) := ⟨_, rfl⟩
              have HAb : Hid (Below w5.heap.size w5 Wb) := by unfold Hid; rw [hWb]; exact (Below.refl _ _).alloc (Nat.le_refl _) _
              have HROWb : Hid (Wb.ownsRow w2.heap.size 54 4 (.slice (some ⟨ga, 0, none⟩) (nf + 1) ca) (nf + 1) (flatG keptCells (outG xk (⟨q, rc, rn, rt⟩ : KeptD) k k ++ [(⟨q, rc, rn, rt⟩ : KeptD)]))) := grow_below HRa.out HAb.out (Nat.le_refl _)
              have HNEWb : Hid (∀ j u, (keptCells (⟨xs, xd, xn, xx⟩ : KeptD))[j]? = some u → Wb.cell? ((⟨w5.heap.size, 0, none⟩ : Addr).add j) = some u) := by
                unfold Hid
                rw [hWb]
                exact World.news_of_block (kheap_at w5 _ _ (by simp))
              have hzb : w2.heap.size ≤ Wb.heap.size := Nat.le_trans hsza HAb.out.size
              have HWb := ghid hWb
              clear hWb
              go_wp2_with (at_builtin; refine wpList_append_lies _ rfl (.tmp 68) (.tmp 70) 49 rfl w2.heap.size 54 i0 _ 4 40 Try.underlying49 hi hz0 hz1 hz2 rfl (by decide) (.slice (some ⟨ga, 0, none⟩) (nf + 1) ca) (nf + 1) (flatG keptCells (outG xk (⟨q, rc, rn, rt⟩ : KeptD) k k ++ [(⟨q, rc, rn, rt⟩ : KeptD)])) rfl (by rw [← HWb.out]; exact HROWb.out) ⟨w5.heap.size, 0, none⟩ 1 1 (keptCells (⟨xs, xd, xn, xx⟩ : KeptD)) rfl rfl (by rw [← HWb.out]; exact HNEWb.out) (keptCells_one _) (by omega) (by unfold maxLen; omega) (by omega) (by rw [← HWb.out]; exact hzb) _ rfl ?_)
              intro gb cb w6 hownb hgb hatb hltb
              rw [← HWb.out] at hgb
              have HRb : Hid (w6.ownsRow w2.heap.size 54 4 (.slice (some ⟨gb, 0, none⟩) ((nf + 1) + 1) cb) ((nf + 1) + 1) (flatG keptCells (outG xk (⟨q, rc, rn, rt⟩ : KeptD) k k ++ [(⟨q, rc, rn, rt⟩ : KeptD)] ++ [(⟨xs, xd, xn, xx⟩ : KeptD)]))) := by
                unfold Hid
                rw [flatG_snoc]
                exact hownb
              have hbb := (HBa.out.trans (HAb.out.mono hsza)).grown hgb hzb (fun c hc => (HRa.out.lt c hc).1)
              have HBb := ghid hbb
              have hszb := hbb.size
              have kxb : ∀ b o, b < w2.heap.size → w6.cell? ⟨b, o, none⟩ = w2.cell? ⟨b, o, none⟩ := fun b o h => hbb.cell (p := ⟨b, o, none⟩) h
              clear hownb hgb hatb hltb hbb HROWb HNEWb
              have HL : Hid ((outG xk (⟨q, rc, rn, rt⟩ : KeptD) k (k + 1)).length = nf + 1 + 1) := by unfold Hid; rw [HN.out, List.length_append, List.length_append, HNF.out]; rfl
              go_wp2
              go_roundw
              case rel => exact ⟨k + 1, by omega, by go_num, by rw [e2], by rw [HL.out, HN.out]; exact HRb.out, HBb.out⟩
              case measure => simp [intOf]; omega
            · have e1 : decide (p < k) = true := by simp; omega
              have e2 : decide (p < k + 1) = true := by simp; omega
              have e3 : (xs == q) = false := by simpa using (show ¬ xs = q by have := hhigh (by omega); omega)
              have HN := ghid (outG_high (r0 := (⟨q, rc, rn, rt⟩ : KeptD)) hkn HYK.out)
              rw [e1]
              clear hlow hhigh
              obtain ⟨Wa, hWa⟩ : ∃ Wa, Wa = (wr.alloc (.cells #[.int .i64 xs, .int .i64 xd, .int .i64 xn, .string xx] 54)).alloc (.cells #[.int .i64 xs, .int .i64 xd, .int .i64 xn, .string xx] 54) := ⟨_, rfl⟩
              have HAa : Hid (Below (wr.alloc (.cells #[.int .i64 xs, .int .i64 xd, .int .i64 xn, .string xx] 54)).heap.size (wr.alloc (.cells #[.int .i64 xs, .int .i64 xd, .int .i64 xn, .string xx] 54)) Wa) := by unfold Hid; rw [hWa]; exact (Below.refl _ _).alloc (Nat.le_refl _) _
              have HROWa : Hid (Wa.ownsRow w2.heap.size 54 4 (.slice oo nf oc) nf (flatG keptCells (outG xk (⟨q, rc, rn, rt⟩ : KeptD) p k))) := grow_below HRE.out HAa.out (Nat.le_refl _)
              have HNEWa : Hid (∀ j u, (keptCells (⟨xs, xd, xn, xx⟩ : KeptD))[j]? = some u → Wa.cell? ((⟨(wr.heap.size + 1), 0, none⟩ : Addr).add j) = some u) := by
                unfold Hid
                rw [hWa]
                exact World.news_of_block (kheap_at (wr.alloc (.cells #[.int .i64 xs, .int .i64 xd, .int .i64 xn, .string xx] 54)) _ _ (by simp))
              have hza : w2.heap.size ≤ Wa.heap.size := Nat.le_trans hszE HAa.out.size
              have HWa := ghid hWa
              clear hWa
              go_wp2_with (at_builtin; refine wpList_append_lies _ rfl (.tmp 68) (.tmp 70) 49 rfl w2.heap.size 54 i0 _ 4 40 Try.underlying49 hi hz0 hz1 hz2 rfl (by decide) (.slice oo nf oc) nf (flatG keptCells (outG xk (⟨q, rc, rn, rt⟩ : KeptD) p k)) rfl (by rw [← HWa.out]; exact HROWa.out) ⟨(wr.heap.size + 1), 0, none⟩ 1 1 (keptCells (⟨xs, xd, xn, xx⟩ : KeptD)) rfl rfl (by rw [← HWa.out]; exact HNEWa.out) (keptCells_one _) (by omega) (by unfold maxLen; omega) (by omega) (by rw [← HWa.out]; exact hza) _ rfl ?_)
              intro ga ca w5 howna hga hata hlta
              rw [← HWa.out] at hga
              have HRa : Hid (w5.ownsRow w2.heap.size 54 4 (.slice (some ⟨ga, 0, none⟩) (nf + 1) ca) (nf + 1) (flatG keptCells (outG xk (⟨q, rc, rn, rt⟩ : KeptD) p k ++ [(⟨xs, xd, xn, xx⟩ : KeptD)]))) := by
                unfold Hid
                rw [flatG_snoc]
                exact howna
              have hba := (HBE.out.trans (HAa.out.mono hszE)).grown hga hza (fun c hc => (HRE.out.lt c hc).1)
              have HBa := ghid hba
              have hsza := hba.size
              have kxa : ∀ b o, b < w2.heap.size → w5.cell? ⟨b, o, none⟩ = w2.cell? ⟨b, o, none⟩ := fun b o h => hba.cell (p := ⟨b, o, none⟩) h
              clear howna hga hata hlta hba HROWa HNEWa
              have HL : Hid ((outG xk (⟨q, rc, rn, rt⟩ : KeptD) p (k + 1)).length = nf + 1) := by unfold Hid; rw [HN.out, List.length_append, HNF.out]; rfl
              go_wp2
              go_roundw
              case rel => exact ⟨k + 1, by omega, by go_num, by rw [e2], by rw [HL.out, HN.out]; exact HRa.out, HBa.out⟩
              case measure => simp [intOf]; omega
          · have hkl : k = xk.length := by omega
            subst hkl
            have HR := ghid hrow
            have HB := ghid hb
            obtain ⟨oo, oc, rfl⟩ := grow_shape hrow
            obtain ⟨nf, hnf⟩ : ∃ nf, nf = (outG xk (⟨q, rc, rn, rt⟩ : KeptD) p xk.length).length := ⟨_, rfl⟩
            rw [← hnf] at HR ⊢
            have HNF := ghid hnf.symm
            have hfl : nf ≤ xk.length + 1 := by rw [hnf]; exact outG_len (Nat.le_refl _)
            have e4 : wr.cell? ⟨g, n * 5 + 4, none⟩ = some (.slice lo xk.length lc) := (hb.cell (p := ⟨g, n * 5 + 4, none⟩) hgl).trans d4
            have y0 := (hb.cell (p := ⟨w.heap.size, 0, none⟩) hzz2).trans x0
            have y1 := (hb.cell (p := ⟨w.heap.size, 1, none⟩) hzz2).trans x1
            have y2 := (hb.cell (p := ⟨w.heap.size, 2, none⟩) hzz2).trans x2
            have hgr : g < wr.heap.size := by omega
            have hwwr : w.heap.size < wr.heap.size := by omega
            have hww1 : w.heap.size < g := by omega
            clear hrow hb hnf
            by_cases hnl2 : p < xk.length
            · have e1 : decide (p < xk.length) = true := by simpa using hnl2
              rw [e1]
              have HN := ghid (outG_done (r0 := (⟨q, rc, rn, rt⟩ : KeptD)) hnl2)
              have hrq : wr.ownsRow w2.heap.size 54 4 (.slice oo nf oc) (xk.take p ++ (⟨q, rc, rn, rt⟩ : KeptD) :: xk.drop p).length (flatG keptCells (xk.take p ++ (⟨q, rc, rn, rt⟩ : KeptD) :: xk.drop p)) := by
                rw [← HN.out, HNF.out]; exact HR.out
              clear e1
              have hos := HOUT.out wr (.slice oo nf oc) HB.out hrq
              have g0 := (HB.out.cell (p := ⟨g, n * 5, none⟩) hgl).trans d0
              have g1 := (HB.out.cell (p := ⟨g, n * 5 + 1, none⟩) hgl).trans d1
              have g2 := (HB.out.cell (p := ⟨g, n * 5 + 2, none⟩) hgl).trans d2
              have g3 := (HB.out.cell (p := ⟨g, n * 5 + 3, none⟩) hgl).trans d3
              have g4 := (HB.out.cell (p := ⟨g, n * 5 + 4, none⟩) hgl).trans d4
              have gf := (HB.out.frozen (p := ⟨g, n * 5 + 4, none⟩) hgl).trans (df _)
              have hgq : g < wr.heap.size := Nat.lt_of_lt_of_le hgl HB.out.size
              obtain ⟨W6, hW6⟩ : ∃ W6, W6 = wr.setCell ⟨g, n * 5 + 4, none⟩ ((.slice oo nf oc)) := ⟨_, rfl⟩
              rw [← hW6] at hos
              have hnr : n < rs.length := (List.getElem?_eq_some_iff.1 HRN.out).1
              have hri : (rs.set n (({ (⟨xc, xi, xa, xt, xk⟩ : SessD) with replies := xk.take p ++ (⟨q, rc, rn, rt⟩ : KeptD) :: xk.drop p }, (.slice oo nf oc)) : SessD × Value))[n]? = some (⟨xc, xi, xa, xt, xk.take p ++ (⟨q, rc, rn, rt⟩ : KeptD) :: xk.drop p⟩, (.slice oo nf oc)) := List.getElem?_set_self hnr
              have CF := repliesMay_any xc xi xa xt ((.slice oo nf oc)) _ W6 W6.heap.size ((hos.reps.each _ (List.mem_of_getElem? hri)).reads (Nat.le_refl _)) (Nat.le_refl _) hxa0 hxa1
              simp only at CF
              rw [HFB.out] at CF
              have HB6 : Hid (Below w.heap.size w W6) := by unfold Hid; rw [hW6]; exact ((HB2.out.trans (HB.out.mono (by omega))).setCell (by show w.heap.size ≤ g; omega) _)
              have HO6 := ghid hos
              have HW6 := ghid hW6
              have HM : Hid ((rs.set n (({ (⟨xc, xi, xa, xt, xk⟩ : SessD) with replies := xk.take p ++ (⟨q, rc, rn, rt⟩ : KeptD) :: xk.drop p }, (.slice oo nf oc)) : SessD × Value)).map (·.1) = ls.set n ⟨xc, xi, xa, xt, xk.take p ++ (⟨q, rc, rn, rt⟩ : KeptD) :: xk.drop p⟩) := by
                unfold Hid
                rw [List.map_set, HRS.out]
              clear hos hri hW6
              go_wp2_with fail
              rw [← HW6.out]
              refine CF.mono ?_
              rintro e w7 ⟨rfl, hb7⟩
              have HB7 := ghid (HB6.out.trans (hb7.mono HB6.out.size))
              clear hb7 CF
              go_wp2
              refine bodyPost_ret (v := .tuple #[.slice none 0 0, .int .i64 2]) (by simp [results, Try.results15, go_sem]) rfl ?_
              exact ⟨_, rfl, SessR.nil _ _, HB7.out⟩
            · have hpl : p = xk.length := by omega
              subst hpl
              have e1 : decide (xk.length < xk.length) = false := by simp
              rw [e1]
              have HN := ghid (outG_last (rs := xk) (r0 := (⟨q, rc, rn, rt⟩ : KeptD)))
              clear hnl2 e1
              obtain ⟨Wa, hWa⟩ : ∃ Wa, Wa = wr.alloc (.cells #[.int .i64 q, .int .i64 rc, .int .i64 rn, .string rt] 54) := ⟨_, rfl⟩
              have HAa : Hid (Below wr.heap.size wr Wa) := by unfold Hid; rw [hWa]; exact (Below.refl _ _).alloc (Nat.le_refl _) _
              have HROWa : Hid (Wa.ownsRow w2.heap.size 54 4 (.slice oo nf oc) nf (flatG keptCells (outG xk (⟨q, rc, rn, rt⟩ : KeptD) xk.length xk.length))) := grow_below HR.out HAa.out (Nat.le_refl _)
              have HNEWa : Hid (∀ j u, (keptCells (⟨q, rc, rn, rt⟩ : KeptD))[j]? = some u → Wa.cell? ((⟨wr.heap.size, 0, none⟩ : Addr).add j) = some u) := by
                unfold Hid
                rw [hWa]
                exact World.news_of_block (kheap_at wr _ _ (by simp))
              have hza : w2.heap.size ≤ Wa.heap.size := Nat.le_trans hsz HAa.out.size
              have HWa := ghid hWa
              clear hWa
              go_wp2_with (at_builtin; refine wpList_append_lies _ rfl (.tmp 74) (.tmp 78) 49 rfl w2.heap.size 54 i0 _ 4 40 Try.underlying49 hi hz0 hz1 hz2 rfl (by decide) (.slice oo nf oc) nf (flatG keptCells (outG xk (⟨q, rc, rn, rt⟩ : KeptD) xk.length xk.length)) rfl (by rw [← HWa.out]; exact HROWa.out) ⟨wr.heap.size, 0, none⟩ 1 1 (keptCells (⟨q, rc, rn, rt⟩ : KeptD)) rfl rfl (by rw [← HWa.out]; exact HNEWa.out) (keptCells_one _) (by omega) (by unfold maxLen; omega) (by omega) (by rw [← HWa.out]; exact hza) _ rfl ?_)
              intro ga ca w5 howna hga hata hlta
              rw [← HWa.out] at hga
              have HRa : Hid (w5.ownsRow w2.heap.size 54 4 (.slice (some ⟨ga, 0, none⟩) (nf + 1) ca) (nf + 1) (flatG keptCells (outG xk (⟨q, rc, rn, rt⟩ : KeptD) xk.length xk.length ++ [(⟨q, rc, rn, rt⟩ : KeptD)]))) := by
                unfold Hid
                rw [flatG_snoc]
                exact howna
              have hba := (HB.out.trans (HAa.out.mono hsz)).grown hga hza (fun c hc => (HR.out.lt c hc).1)
              have HBa := ghid hba
              have hsza := hba.size
              have kxa : ∀ b o, b < w2.heap.size → w5.cell? ⟨b, o, none⟩ = w2.cell? ⟨b, o, none⟩ := fun b o h => hba.cell (p := ⟨b, o, none⟩) h
              clear howna hga hata hlta hba HROWa HNEWa
              have hrq : w5.ownsRow w2.heap.size 54 4 (.slice (some ⟨ga, 0, none⟩) (nf + 1) ca) (xk.take xk.length ++ (⟨q, rc, rn, rt⟩ : KeptD) :: xk.drop xk.length).length (flatG keptCells (xk.take xk.length ++ (⟨q, rc, rn, rt⟩ : KeptD) :: xk.drop xk.length)) := by
                have hl : (xk.take xk.length ++ (⟨q, rc, rn, rt⟩ : KeptD) :: xk.drop xk.length).length = nf + 1 := by rw [← HN.out, List.length_append, HNF.out]; rfl
                rw [hl, ← HN.out]; exact HRa.out
              have hos := HOUT.out w5 (.slice (some ⟨ga, 0, none⟩) (nf + 1) ca) HBa.out hrq
              have g0 := (HBa.out.cell (p := ⟨g, n * 5, none⟩) hgl).trans d0
              have g1 := (HBa.out.cell (p := ⟨g, n * 5 + 1, none⟩) hgl).trans d1
              have g2 := (HBa.out.cell (p := ⟨g, n * 5 + 2, none⟩) hgl).trans d2
              have g3 := (HBa.out.cell (p := ⟨g, n * 5 + 3, none⟩) hgl).trans d3
              have g4 := (HBa.out.cell (p := ⟨g, n * 5 + 4, none⟩) hgl).trans d4
              have gf := (HBa.out.frozen (p := ⟨g, n * 5 + 4, none⟩) hgl).trans (df _)
              have hgq : g < w5.heap.size := Nat.lt_of_lt_of_le hgl HBa.out.size
              obtain ⟨W6, hW6⟩ : ∃ W6, W6 = w5.setCell ⟨g, n * 5 + 4, none⟩ ((.slice (some ⟨ga, 0, none⟩) (nf + 1) ca)) := ⟨_, rfl⟩
              rw [← hW6] at hos
              have hnr : n < rs.length := (List.getElem?_eq_some_iff.1 HRN.out).1
              have hri : (rs.set n (({ (⟨xc, xi, xa, xt, xk⟩ : SessD) with replies := xk.take xk.length ++ (⟨q, rc, rn, rt⟩ : KeptD) :: xk.drop xk.length }, (.slice (some ⟨ga, 0, none⟩) (nf + 1) ca)) : SessD × Value))[n]? = some (⟨xc, xi, xa, xt, xk.take xk.length ++ (⟨q, rc, rn, rt⟩ : KeptD) :: xk.drop xk.length⟩, (.slice (some ⟨ga, 0, none⟩) (nf + 1) ca)) := List.getElem?_set_self hnr
              have CF := repliesMay_any xc xi xa xt ((.slice (some ⟨ga, 0, none⟩) (nf + 1) ca)) _ W6 W6.heap.size ((hos.reps.each _ (List.mem_of_getElem? hri)).reads (Nat.le_refl _)) (Nat.le_refl _) hxa0 hxa1
              simp only at CF
              rw [HFB.out] at CF
              have HB6 : Hid (Below w.heap.size w W6) := by unfold Hid; rw [hW6]; exact ((HB2.out.trans (HBa.out.mono (by omega))).setCell (by show w.heap.size ≤ g; omega) _)
              have HO6 := ghid hos
              have HW6 := ghid hW6
              have HM : Hid ((rs.set n (({ (⟨xc, xi, xa, xt, xk⟩ : SessD) with replies := xk.take xk.length ++ (⟨q, rc, rn, rt⟩ : KeptD) :: xk.drop xk.length }, (.slice (some ⟨ga, 0, none⟩) (nf + 1) ca)) : SessD × Value)).map (·.1) = ls.set n ⟨xc, xi, xa, xt, xk.take xk.length ++ (⟨q, rc, rn, rt⟩ : KeptD) :: xk.drop xk.length⟩) := by
                unfold Hid
                rw [List.map_set, HRS.out]
              clear hos hri hW6
              go_wp2_with fail
              rw [← HW6.out]
              refine CF.mono ?_
              rintro e w7 ⟨rfl, hb7⟩
              have HB7 := ghid (HB6.out.trans (hb7.mono HB6.out.size))
              clear hb7 CF
              go_wp2
              refine bodyPost_ret (v := .tuple #[.slice none 0 0, .int .i64 2]) (by simp [results, Try.results15, go_sem]) rfl ?_
              exact ⟨_, rfl, SessR.nil _ _, HB7.out⟩
      · rw [he]
        rw [if_pos rfl, HKS.out]
        have HFB : Hid (formFrom xa xa (xk.take (placeK xk q) ++ ⟨q, rc, rn, rt⟩ :: xk.drop (placeK xk q)) = true) := hf
        have HWK : Hid (withK xk ⟨q, rc, rn, rt⟩ = xk.take (placeK xk q) ++ ⟨q, rc, rn, rt⟩ :: xk.drop (placeK xk q)) := rfl
        rw [HWK.out]
        obtain ⟨p, hpe⟩ : ∃ p, p = placeK xk q := ⟨_, rfl⟩
        rw [← hpe] at HLOW HHIGH HFB hkin ⊢
        clear hk hf he hpe HKS HORD HWK
        go_enter Try.func15, Try.ntmps15
        go_wp2_with fail
        refine CR.mono ?_
        rintro e w1 ⟨rfl, hb1⟩
        have hzz1 : w.heap.size < w1.heap.size := by have := hb1.size; simp at this; omega
        have HG1 := ghid ((hb1.block w.heap.size (by simp)).trans (heap_alloc_new w _))
        have HB1 := ghid (HB0.out.trans (hb1.mono (by simp)))
        clear hb1 CR
        go_wp2_with fail
        refine (sessionsCopy_any _ ls w1 B (HV.out.below HB1.out hB) (by have := HB1.out.size; omega)).mono ?_
        rintro e w2 ⟨v2, rs, rfl, hrs, hown2, hb2⟩
        have HG2 := ghid ((hb2.block w.heap.size hzz1).trans HG1.out)
        have HB2 := ghid (HB1.out.trans (hb2.mono HB1.out.size))
        have HRS := ghid hrs
        have HO2 := ghid hown2
        have hrd := hown2.reads (Nat.le_refl _)
        rw [hrs] at hrd
        have hz12 : w1.heap.size ≤ w2.heap.size := hb2.size
        have hzz2 : w.heap.size < w2.heap.size := lt_of_block HG2.out
        clear hb2 hown2 hrs
        go_wp2_with fail
        refine (CP.out _ _ hrd).mono ?_
        rintro e w9 ⟨rfl, hw⟩
        subst w9
        clear hrd CP
        obtain ⟨xv, hrn⟩ := map_at HRS.out HX.out
        have HRN := ghid hrn
        have hrl : rs.length = ls.length := by rw [← HRS.out, List.length_map]
        obtain ⟨g, gc, hge, hgb, hgl, -⟩ := grow_some HO2.out.row (by omega)
        subst hge
        rw [hrl] at HO2 ⊢
        have HRL := ghid hrl
        obtain ⟨d0, d1, d2, d3, d4⟩ := HO2.out.cells hrn
        have df := HO2.out.frozenAt
        simp only at d0 d1 d2 d3 d4
        have HKR := ghid ((HO2.out.reps.each _ (List.mem_of_getElem? hrn)).reads (Nat.le_refl _))
        simp only at HKR
        have hkr := HKR.out
        obtain ⟨lo, lc, rfl, k1, k2, k3, k4⟩ := hkr
        have x0 := cell_of_row w2 w.heap.size 0 _ _ _ HG2.out
        have x1 := cell_of_row w2 w.heap.size 1 _ _ _ HG2.out
        have x2 := cell_of_row w2 w.heap.size 2 _ _ _ HG2.out
        simp only [List.getElem?_toArray, List.getElem?_cons_zero, List.getElem?_cons_succ] at x0 x1 x2
        have hnl : (n : Int) < ls.length := by omega
        clear hrn hrl
        have HOUT : Hid (∀ (w' : World) (o : Value), Below w2.heap.size w2 w' → w'.ownsRow w2.heap.size 54 4 o (xk.take p ++ (⟨q, rc, rn, rt⟩ : KeptD) :: xk.drop p).length (flatG keptCells (xk.take p ++ (⟨q, rc, rn, rt⟩ : KeptD) :: xk.drop p)) → OwnS (w'.setCell ⟨g, n * 5 + 4, none⟩ o) w1.heap.size (.slice (some ⟨g, 0, none⟩) ls.length gc) (rs.set n (({ (⟨xc, xi, xa, xt, xk⟩ : SessD) with replies := xk.take p ++ (⟨q, rc, rn, rt⟩ : KeptD) :: xk.drop p }, o) : SessD × Value))) := by
          intro w' o hb' hr'
          refine HO2.out.setReplies HRN.out (TouchG.of_below hb' (Nat.le_refl _) _) ⟨grow_mono hr' hz12, by simp [List.length_take, List.length_drop]; omega, fun kq hkq => ?_⟩ (fun b hb => Or.inr (hr'.lt b hb).1)
          rcases List.mem_append.1 hkq with h | h
          · exact HKR.out.modest kq (List.mem_of_mem_take h)
          · rcases List.mem_cons.1 h with h | h
            · rw [h]; exact hrt
            · exact HKR.out.modest kq (List.mem_of_mem_drop h)
        go_wp2
        go_loopw [15, 16, 17] (fun o dv kv wr => ∃ (k : Nat), k ≤ xk.length ∧ kv = .int .i64 k ∧ dv = .bool (decide (p < k)) ∧ wr.ownsRow w2.heap.size 54 4 o (outG xk (⟨q, rc, rn, rt⟩ : KeptD) p k).length (flatG keptCells (outG xk (⟨q, rc, rn, rt⟩ : KeptD) p k)) ∧ Below w2.heap.size w2 wr)
          (fun _ _ kv _ => xk.length - (intOf kv).toNat)
        case atStart => exact ⟨0, Nat.zero_le _, rfl, by simp, by simpa [outG, flatG] using World.ownsRow_nil _ _ _ _, Below.refl _ _⟩
        case round =>
          obtain ⟨k, hkp, rfl, rfl, hrow, hb⟩ := hrel
          have hsz := hb.size
          by_cases hlt2 : k < xk.length
          · skip
            have HR := ghid hrow
            have HB := ghid hb
            obtain ⟨kb, kf, rfl, hkB, hkc⟩ := k4 (by omega)
            obtain ⟨y, hy⟩ : ∃ y, xk[k]? = some y := ⟨_, List.getElem?_eq_getElem hlt2⟩
            obtain ⟨c0, c1, c2, c3, -⟩ := (hkc k y hy).below hkB hb
            have HYK := ghid hy
            obtain ⟨xs, xd, xn, xx⟩ := y
            simp only at c0 c1 c2 c3
            have e4 : wr.cell? ⟨g, n * 5 + 4, none⟩ = some (.slice (some ⟨kb, kf, none⟩) xk.length lc) := (hb.cell (p := ⟨g, n * 5 + 4, none⟩) hgl).trans d4
            have y0 := (hb.cell (p := ⟨w.heap.size, 0, none⟩) hzz2).trans x0
            have y1 := (hb.cell (p := ⟨w.heap.size, 1, none⟩) hzz2).trans x1
            have y2 := (hb.cell (p := ⟨w.heap.size, 2, none⟩) hzz2).trans x2
            have hgr : g < wr.heap.size := by omega
            have hkbr : kb < wr.heap.size := by omega
            have hwwr : w.heap.size < wr.heap.size := by omega
            obtain ⟨oo, oc, rfl⟩ := grow_shape hrow
            obtain ⟨nf, hnf⟩ : ∃ nf, nf = (outG xk (⟨q, rc, rn, rt⟩ : KeptD) p k).length := ⟨_, rfl⟩
            rw [← hnf] at HR ⊢
            have HNF := ghid hnf.symm
            have hfl : nf ≤ k + 1 := by rw [hnf]; exact outG_len (by omega)
            clear hrow hb hy hkc hnf
            have hnf4 : nf ≤ 4 := by omega
            have hlow : k < p → xs < q := fun h => HLOW.out k _ h HYK.out
            have hhigh : p ≤ k → q < xs := fun h => HHIGH.out k _ h HYK.out
            have HBE := ghid (HB.out.alloc hsz (.cells #[.int .i64 xs, .int .i64 xd, .int .i64 xn, .string xx] 54))
            have HRE : Hid ((wr.alloc (.cells #[.int .i64 xs, .int .i64 xd, .int .i64 xn, .string xx] 54)).ownsRow w2.heap.size 54 4 (.slice oo nf oc) nf (flatG keptCells (outG xk (⟨q, rc, rn, rt⟩ : KeptD) p k))) := grow_below HR.out ((Below.refl _ _).alloc (Nat.le_refl _) _) (Nat.le_refl _)
            have hszE : w2.heap.size ≤ (wr.alloc (.cells #[.int .i64 xs, .int .i64 xd, .int .i64 xn, .string xx] 54)).heap.size := by simp; omega
            rcases (by omega : k < p ∨ k = p ∨ p < k) with hkn | hkn | hkn
            · have e1 : decide (p < k) = false := by simp; omega
              have e2 : decide (p < k + 1) = false := by simp; omega
              have e3 : (xs == q) = false := by simpa using (show ¬ xs = q by have := hlow hkn; omega)
              have e4' : ¬ q < xs := by have := hlow hkn; omega
              have HN := ghid (outG_low (r0 := (⟨q, rc, rn, rt⟩ : KeptD)) hkn HYK.out)
              rw [e1]
              clear hlow hhigh
              obtain ⟨Wa, hWa⟩ : ∃ Wa, Wa = (wr.alloc (.cells #[.int .i64 xs, .int .i64 xd, .int .i64 xn, .string xx] 54)).alloc (.cells #[.int .i64 xs, .int .i64 xd, .int .i64 xn, .string xx] 54) := ⟨_, rfl⟩
              have HAa : Hid (Below (wr.alloc (.cells #[.int .i64 xs, .int .i64 xd, .int .i64 xn, .string xx] 54)).heap.size (wr.alloc (.cells #[.int .i64 xs, .int .i64 xd, .int .i64 xn, .string xx] 54)) Wa) := by unfold Hid; rw [hWa]; exact (Below.refl _ _).alloc (Nat.le_refl _) _
              have HROWa : Hid (Wa.ownsRow w2.heap.size 54 4 (.slice oo nf oc) nf (flatG keptCells (outG xk (⟨q, rc, rn, rt⟩ : KeptD) p k))) := grow_below HRE.out HAa.out (Nat.le_refl _)
              have HNEWa : Hid (∀ j u, (keptCells (⟨xs, xd, xn, xx⟩ : KeptD))[j]? = some u → Wa.cell? ((⟨(wr.heap.size + 1), 0, none⟩ : Addr).add j) = some u) := by
                unfold Hid
                rw [hWa]
                exact World.news_of_block (kheap_at (wr.alloc (.cells #[.int .i64 xs, .int .i64 xd, .int .i64 xn, .string xx] 54)) _ _ (by simp))
              have hza : w2.heap.size ≤ Wa.heap.size := Nat.le_trans hszE HAa.out.size
              have HWa := ghid hWa
              clear hWa
              go_wp2_with (at_builtin; refine wpList_append_lies _ rfl (.tmp 68) (.tmp 70) 49 rfl w2.heap.size 54 i0 _ 4 40 Try.underlying49 hi hz0 hz1 hz2 rfl (by decide) (.slice oo nf oc) nf (flatG keptCells (outG xk (⟨q, rc, rn, rt⟩ : KeptD) p k)) rfl (by rw [← HWa.out]; exact HROWa.out) ⟨(wr.heap.size + 1), 0, none⟩ 1 1 (keptCells (⟨xs, xd, xn, xx⟩ : KeptD)) rfl rfl (by rw [← HWa.out]; exact HNEWa.out) (keptCells_one _) (by omega) (by unfold maxLen; omega) (by omega) (by rw [← HWa.out]; exact hza) _ rfl ?_)
              intro ga ca w5 howna hga hata hlta
              rw [← HWa.out] at hga
              have HRa : Hid (w5.ownsRow w2.heap.size 54 4 (.slice (some ⟨ga, 0, none⟩) (nf + 1) ca) (nf + 1) (flatG keptCells (outG xk (⟨q, rc, rn, rt⟩ : KeptD) p k ++ [(⟨xs, xd, xn, xx⟩ : KeptD)]))) := by
                unfold Hid
                rw [flatG_snoc]
                exact howna
              have hba := (HBE.out.trans (HAa.out.mono hszE)).grown hga hza (fun c hc => (HRE.out.lt c hc).1)
              have HBa := ghid hba
              have hsza := hba.size
              have kxa : ∀ b o, b < w2.heap.size → w5.cell? ⟨b, o, none⟩ = w2.cell? ⟨b, o, none⟩ := fun b o h => hba.cell (p := ⟨b, o, none⟩) h
              clear howna hga hata hlta hba HROWa HNEWa
              have HL : Hid ((outG xk (⟨q, rc, rn, rt⟩ : KeptD) p (k + 1)).length = nf + 1) := by unfold Hid; rw [HN.out, List.length_append, HNF.out]; rfl
              go_wp2
              go_roundw
              case rel => exact ⟨k + 1, by omega, by go_num, by rw [e2], by rw [HL.out, HN.out]; exact HRa.out, HBa.out⟩
              case measure => simp [intOf]; omega
            · subst hkn
              have e1 : decide (k < k) = false := by simp
              have e2 : decide (k < k + 1) = true := by simp
              have e3 : (xs == q) = false := by simpa using (show ¬ xs = q by have := hhigh (Nat.le_refl _); omega)
              have e4' : q < xs := hhigh (Nat.le_refl _)
              have HN := ghid (outG_at (r0 := (⟨q, rc, rn, rt⟩ : KeptD)) HYK.out)
              rw [e1]
              clear hlow hhigh
              obtain ⟨Wa, hWa⟩ : ∃ Wa, Wa = (wr.alloc (.cells #[.int .i64 xs, .int .i64 xd, .int .i64 xn, .string xx] 54)).alloc (.cells #[.int .i64 q, .int .i64 rc, .int .i64 rn, .string rt] 54) := ⟨_, rfl⟩
              have HAa : Hid (Below (wr.alloc (.cells #[.int .i64 xs, .int .i64 xd, .int .i64 xn, .string xx] 54)).heap.size (wr.alloc (.cells #[.int .i64 xs, .int .i64 xd, .int .i64 xn, .string xx] 54)) Wa) := by unfold Hid; rw [hWa]; exact (Below.refl _ _).alloc (Nat.le_refl _) _
              have HROWa : Hid (Wa.ownsRow w2.heap.size 54 4 (.slice oo nf oc) nf (flatG keptCells (outG xk (⟨q, rc, rn, rt⟩ : KeptD) k k))) := grow_below HRE.out HAa.out (Nat.le_refl _)
              have HNEWa : Hid (∀ j u, (keptCells (⟨q, rc, rn, rt⟩ : KeptD))[j]? = some u → Wa.cell? ((⟨(wr.heap.size + 1), 0, none⟩ : Addr).add j) = some u) := by
                unfold Hid
                rw [hWa]
                exact World.news_of_block (kheap_at (wr.alloc (.cells #[.int .i64 xs, .int .i64 xd, .int .i64 xn, .string xx] 54)) _ _ (by simp))
              have hza : w2.heap.size ≤ Wa.heap.size := Nat.le_trans hszE HAa.out.size
              have HWa := ghid hWa
              clear hWa
              go_wp2_with (at_builtin; refine wpList_append_lies _ rfl (.tmp 62) (.tmp 66) 49 rfl w2.heap.size 54 i0 _ 4 40 Try.underlying49 hi hz0 hz1 hz2 rfl (by decide) (.slice oo nf oc) nf (flatG keptCells (outG xk (⟨q, rc, rn, rt⟩ : KeptD) k k)) rfl (by rw [← HWa.out]; exact HROWa.out) ⟨(wr.heap.size + 1), 0, none⟩ 1 1 (keptCells (⟨q, rc, rn, rt⟩ : KeptD)) rfl rfl (by rw [← HWa.out]; exact HNEWa.out) (keptCells_one _) (by omega) (by unfold maxLen; omega) (by omega) (by rw [← HWa.out]; exact hza) _ rfl ?_)
              intro ga ca w5 howna hga hata hlta
              rw [← HWa.out] at hga
              have HRa : Hid (w5.ownsRow w2.heap.size 54 4 (.slice (some ⟨ga, 0, none⟩) (nf + 1) ca) (nf + 1) (flatG keptCells (outG xk (⟨q, rc, rn, rt⟩ : KeptD) k k ++ [(⟨q, rc, rn, rt⟩ : KeptD)]))) := by
                unfold Hid
                rw [flatG_snoc]
                exact howna
              have hba := (HBE.out.trans (HAa.out.mono hszE)).grown hga hza (fun c hc => (HRE.out.lt c hc).1)
              have HBa := ghid hba
              have hsza := hba.size
              have kxa : ∀ b o, b < w2.heap.size → w5.cell? ⟨b, o, none⟩ = w2.cell? ⟨b, o, none⟩ := fun b o h => hba.cell (p := ⟨b, o, none⟩) h
              have hgx : w5.heap[wr.heap.size]? = some (.cells #[.int .i64 xs, .int .i64 xd, .int .i64 xn, .string xx] 54 (0, 0)) := by
                rw [hga.block wr.heap.size (by rw [HWa.out]; simp; omega) (fun e => by have := (HR.out.lt wr.heap.size e.symm).2; omega), HWa.out, Below.heap_alloc _ _ _ (by simp)]
                exact heap_alloc_new wr _
              have f0 := cell_of_row w5 wr.heap.size 0 _ _ _ hgx
              have f1 := cell_of_row w5 wr.heap.size 1 _ _ _ hgx
              have f2 := cell_of_row w5 wr.heap.size 2 _ _ _ hgx
              have f3 := cell_of_row w5 wr.heap.size 3 _ _ _ hgx
              simp only [List.getElem?_toArray, List.getElem?_cons_zero, List.getElem?_cons_succ] at f0 f1 f2 f3
              have hgxl : wr.heap.size < w5.heap.size := lt_of_block hgx
              clear howna hga hata hlta hba HROWa HNEWa
              obtain ⟨Wb, hWb⟩ : ∃ Wb, Wb = w5.alloc (.cells #[.int .i64 xs, .int .i64 xd, .int .i64 xn, .string xx] 54) := ⟨_, rfl⟩
              have HAb : Hid (Below w5.heap.size w5 Wb) := by unfold Hid; rw [hWb]; exact (Below.refl _ _).alloc (Nat.le_refl _) _
              have HROWb : Hid (Wb.ownsRow w2.heap.size 54 4 (.slice (some ⟨ga, 0, none⟩) (nf + 1) ca) (nf + 1) (flatG keptCells (outG xk (⟨q, rc, rn, rt⟩ : KeptD) k k ++ [(⟨q, rc, rn, rt⟩ : KeptD)]))) := grow_below HRa.out HAb.out (Nat.le_refl _)
              have HNEWb : Hid (∀ j u, (keptCells (⟨xs, xd, xn, xx⟩ : KeptD))[j]? = some u → Wb.cell? ((⟨w5.heap.size, 0, none⟩ : Addr).add j) = some u) := by
                unfold Hid
                rw [hWb]
                exact World.news_of_block (kheap_at w5 _ _ (by simp))
              have hzb : w2.heap.size ≤ Wb.heap.size := Nat.le_trans hsza HAb.out.size
              have HWb := ghid hWb
              clear hWb
              go_wp2_with (at_builtin; refine wpList_append_lies _ rfl (.tmp 68) (.tmp 70) 49 rfl w2.heap.size 54 i0 _ 4 40 Try.underlying49 hi hz0 hz1 hz2 rfl (by decide) (.slice (some ⟨ga, 0, none⟩) (nf + 1) ca) (nf + 1) (flatG keptCells (outG xk (⟨q, rc, rn, rt⟩ : KeptD) k k ++ [(⟨q, rc, rn, rt⟩ : KeptD)])) rfl (by rw [← HWb.out]; exact HROWb.out) ⟨w5.heap.size, 0, none⟩ 1 1 (keptCells (⟨xs, xd, xn, xx⟩ : KeptD)) rfl rfl (by rw [← HWb.out]; exact HNEWb.out) (keptCells_one _) (by omega) (by unfold maxLen; omega) (by omega) (by rw [← HWb.out]; exact hzb) _ rfl ?_)
              intro gb cb w6 hownb hgb hatb hltb
              rw [← HWb.out] at hgb
              have HRb : Hid (w6.ownsRow w2.heap.size 54 4 (.slice (some ⟨gb, 0, none⟩) ((nf + 1) + 1) cb) ((nf + 1) + 1) (flatG keptCells (outG xk (⟨q, rc, rn, rt⟩ : KeptD) k k ++ [(⟨q, rc, rn, rt⟩ : KeptD)] ++ [(⟨xs, xd, xn, xx⟩ : KeptD)]))) := by
                unfold Hid
                rw [flatG_snoc]
                exact hownb
              have hbb := (HBa.out.trans (HAb.out.mono hsza)).grown hgb hzb (fun c hc => (HRa.out.lt c hc).1)
              have HBb := ghid hbb
              have hszb := hbb.size
              have kxb : ∀ b o, b < w2.heap.size → w6.cell? ⟨b, o, none⟩ = w2.cell? ⟨b, o, none⟩ := fun b o h => hbb.cell (p := ⟨b, o, none⟩) h
              clear hownb hgb hatb hltb hbb HROWb HNEWb
              have HL : Hid ((outG xk (⟨q, rc, rn, rt⟩ : KeptD) k (k + 1)).length = nf + 1 + 1) := by unfold Hid; rw [HN.out, List.length_append, List.length_append, HNF.out]; rfl
              go_wp2
              go_roundw
              case rel => exact ⟨k + 1, by omega, by go_num, by rw [e2], by rw [HL.out, HN.out]; exact HRb.out, HBb.out⟩
              case measure => simp [intOf]; omega
            · have e1 : decide (p < k) = true := by simp; omega
              have e2 : decide (p < k + 1) = true := by simp; omega
              have e3 : (xs == q) = false := by simpa using (show ¬ xs = q by have := hhigh (by omega); omega)
              have HN := ghid (outG_high (r0 := (⟨q, rc, rn, rt⟩ : KeptD)) hkn HYK.out)
              rw [e1]
              clear hlow hhigh
              obtain ⟨Wa, hWa⟩ : ∃ Wa, Wa = (wr.alloc (.cells #[.int .i64 xs, .int .i64 xd, .int .i64 xn, .string xx] 54)).alloc (.cells #[.int .i64 xs, .int .i64 xd, .int .i64 xn, .string xx] 54) := ⟨_, rfl⟩
              have HAa : Hid (Below (wr.alloc (.cells #[.int .i64 xs, .int .i64 xd, .int .i64 xn, .string xx] 54)).heap.size (wr.alloc (.cells #[.int .i64 xs, .int .i64 xd, .int .i64 xn, .string xx] 54)) Wa) := by unfold Hid; rw [hWa]; exact (Below.refl _ _).alloc (Nat.le_refl _) _
              have HROWa : Hid (Wa.ownsRow w2.heap.size 54 4 (.slice oo nf oc) nf (flatG keptCells (outG xk (⟨q, rc, rn, rt⟩ : KeptD) p k))) := grow_below HRE.out HAa.out (Nat.le_refl _)
              have HNEWa : Hid (∀ j u, (keptCells (⟨xs, xd, xn, xx⟩ : KeptD))[j]? = some u → Wa.cell? ((⟨(wr.heap.size + 1), 0, none⟩ : Addr).add j) = some u) := by
                unfold Hid
                rw [hWa]
                exact World.news_of_block (kheap_at (wr.alloc (.cells #[.int .i64 xs, .int .i64 xd, .int .i64 xn, .string xx] 54)) _ _ (by simp))
              have hza : w2.heap.size ≤ Wa.heap.size := Nat.le_trans hszE HAa.out.size
              have HWa := ghid hWa
              clear hWa
              go_wp2_with (at_builtin; refine wpList_append_lies _ rfl (.tmp 68) (.tmp 70) 49 rfl w2.heap.size 54 i0 _ 4 40 Try.underlying49 hi hz0 hz1 hz2 rfl (by decide) (.slice oo nf oc) nf (flatG keptCells (outG xk (⟨q, rc, rn, rt⟩ : KeptD) p k)) rfl (by rw [← HWa.out]; exact HROWa.out) ⟨(wr.heap.size + 1), 0, none⟩ 1 1 (keptCells (⟨xs, xd, xn, xx⟩ : KeptD)) rfl rfl (by rw [← HWa.out]; exact HNEWa.out) (keptCells_one _) (by omega) (by unfold maxLen; omega) (by omega) (by rw [← HWa.out]; exact hza) _ rfl ?_)
              intro ga ca w5 howna hga hata hlta
              rw [← HWa.out] at hga
              have HRa : Hid (w5.ownsRow w2.heap.size 54 4 (.slice (some ⟨ga, 0, none⟩) (nf + 1) ca) (nf + 1) (flatG keptCells (outG xk (⟨q, rc, rn, rt⟩ : KeptD) p k ++ [(⟨xs, xd, xn, xx⟩ : KeptD)]))) := by
                unfold Hid
                rw [flatG_snoc]
                exact howna
              have hba := (HBE.out.trans (HAa.out.mono hszE)).grown hga hza (fun c hc => (HRE.out.lt c hc).1)
              have HBa := ghid hba
              have hsza := hba.size
              have kxa : ∀ b o, b < w2.heap.size → w5.cell? ⟨b, o, none⟩ = w2.cell? ⟨b, o, none⟩ := fun b o h => hba.cell (p := ⟨b, o, none⟩) h
              clear howna hga hata hlta hba HROWa HNEWa
              have HL : Hid ((outG xk (⟨q, rc, rn, rt⟩ : KeptD) p (k + 1)).length = nf + 1) := by unfold Hid; rw [HN.out, List.length_append, HNF.out]; rfl
              go_wp2
              go_roundw
              case rel => exact ⟨k + 1, by omega, by go_num, by rw [e2], by rw [HL.out, HN.out]; exact HRa.out, HBa.out⟩
              case measure => simp [intOf]; omega
          · have hkl : k = xk.length := by omega
            subst hkl
            have HR := ghid hrow
            have HB := ghid hb
            obtain ⟨oo, oc, rfl⟩ := grow_shape hrow
            obtain ⟨nf, hnf⟩ : ∃ nf, nf = (outG xk (⟨q, rc, rn, rt⟩ : KeptD) p xk.length).length := ⟨_, rfl⟩
            rw [← hnf] at HR ⊢
            have HNF := ghid hnf.symm
            have hfl : nf ≤ xk.length + 1 := by rw [hnf]; exact outG_len (Nat.le_refl _)
            have e4 : wr.cell? ⟨g, n * 5 + 4, none⟩ = some (.slice lo xk.length lc) := (hb.cell (p := ⟨g, n * 5 + 4, none⟩) hgl).trans d4
            have y0 := (hb.cell (p := ⟨w.heap.size, 0, none⟩) hzz2).trans x0
            have y1 := (hb.cell (p := ⟨w.heap.size, 1, none⟩) hzz2).trans x1
            have y2 := (hb.cell (p := ⟨w.heap.size, 2, none⟩) hzz2).trans x2
            have hgr : g < wr.heap.size := by omega
            have hwwr : w.heap.size < wr.heap.size := by omega
            have hww1 : w.heap.size < g := by omega
            clear hrow hb hnf
            by_cases hnl2 : p < xk.length
            · have e1 : decide (p < xk.length) = true := by simpa using hnl2
              rw [e1]
              have HN := ghid (outG_done (r0 := (⟨q, rc, rn, rt⟩ : KeptD)) hnl2)
              have hrq : wr.ownsRow w2.heap.size 54 4 (.slice oo nf oc) (xk.take p ++ (⟨q, rc, rn, rt⟩ : KeptD) :: xk.drop p).length (flatG keptCells (xk.take p ++ (⟨q, rc, rn, rt⟩ : KeptD) :: xk.drop p)) := by
                rw [← HN.out, HNF.out]; exact HR.out
              clear e1
              have hos := HOUT.out wr (.slice oo nf oc) HB.out hrq
              have g0 := (HB.out.cell (p := ⟨g, n * 5, none⟩) hgl).trans d0
              have g1 := (HB.out.cell (p := ⟨g, n * 5 + 1, none⟩) hgl).trans d1
              have g2 := (HB.out.cell (p := ⟨g, n * 5 + 2, none⟩) hgl).trans d2
              have g3 := (HB.out.cell (p := ⟨g, n * 5 + 3, none⟩) hgl).trans d3
              have g4 := (HB.out.cell (p := ⟨g, n * 5 + 4, none⟩) hgl).trans d4
              have gf := (HB.out.frozen (p := ⟨g, n * 5 + 4, none⟩) hgl).trans (df _)
              have hgq : g < wr.heap.size := Nat.lt_of_lt_of_le hgl HB.out.size
              obtain ⟨W6, hW6⟩ : ∃ W6, W6 = wr.setCell ⟨g, n * 5 + 4, none⟩ ((.slice oo nf oc)) := ⟨_, rfl⟩
              rw [← hW6] at hos
              have hnr : n < rs.length := (List.getElem?_eq_some_iff.1 HRN.out).1
              have hri : (rs.set n (({ (⟨xc, xi, xa, xt, xk⟩ : SessD) with replies := xk.take p ++ (⟨q, rc, rn, rt⟩ : KeptD) :: xk.drop p }, (.slice oo nf oc)) : SessD × Value))[n]? = some (⟨xc, xi, xa, xt, xk.take p ++ (⟨q, rc, rn, rt⟩ : KeptD) :: xk.drop p⟩, (.slice oo nf oc)) := List.getElem?_set_self hnr
              have CF := repliesMay_any xc xi xa xt ((.slice oo nf oc)) _ W6 W6.heap.size ((hos.reps.each _ (List.mem_of_getElem? hri)).reads (Nat.le_refl _)) (Nat.le_refl _) hxa0 hxa1
              simp only at CF
              rw [HFB.out] at CF
              have HB6 : Hid (Below w.heap.size w W6) := by unfold Hid; rw [hW6]; exact ((HB2.out.trans (HB.out.mono (by omega))).setCell (by show w.heap.size ≤ g; omega) _)
              have HO6 := ghid hos
              have HW6 := ghid hW6
              have HM : Hid ((rs.set n (({ (⟨xc, xi, xa, xt, xk⟩ : SessD) with replies := xk.take p ++ (⟨q, rc, rn, rt⟩ : KeptD) :: xk.drop p }, (.slice oo nf oc)) : SessD × Value)).map (·.1) = ls.set n ⟨xc, xi, xa, xt, xk.take p ++ (⟨q, rc, rn, rt⟩ : KeptD) :: xk.drop p⟩) := by
                unfold Hid
                rw [List.map_set, HRS.out]
              clear hos hri hW6
              go_wp2_with fail
              rw [← HW6.out]
              refine CF.mono ?_
              rintro e w7 ⟨rfl, hb7⟩
              have HB7 := ghid (HB6.out.trans (hb7.mono HB6.out.size))
              have HO7 := ghid (HO6.out.below hb7 (Nat.le_refl _))
              clear hb7 CF
              go_wp2
              refine bodyPost_ret (v := .tuple #[.slice (some ⟨g, 0, none⟩) ls.length gc, .int .i64 0]) (by simp [results, Try.results15, go_sem]) rfl ?_
              have t := HO7.out.reads (Nat.le_refl _)
              rw [HM.out] at t
              exact ⟨_, rfl, t, HB7.out⟩
            · have hpl : p = xk.length := by omega
              subst hpl
              have e1 : decide (xk.length < xk.length) = false := by simp
              rw [e1]
              have HN := ghid (outG_last (rs := xk) (r0 := (⟨q, rc, rn, rt⟩ : KeptD)))
              clear hnl2 e1
              obtain ⟨Wa, hWa⟩ : ∃ Wa, Wa = wr.alloc (.cells #[.int .i64 q, .int .i64 rc, .int .i64 rn, .string rt] 54) := ⟨_, rfl⟩
              have HAa : Hid (Below wr.heap.size wr Wa) := by unfold Hid; rw [hWa]; exact (Below.refl _ _).alloc (Nat.le_refl _) _
              have HROWa : Hid (Wa.ownsRow w2.heap.size 54 4 (.slice oo nf oc) nf (flatG keptCells (outG xk (⟨q, rc, rn, rt⟩ : KeptD) xk.length xk.length))) := grow_below HR.out HAa.out (Nat.le_refl _)
              have HNEWa : Hid (∀ j u, (keptCells (⟨q, rc, rn, rt⟩ : KeptD))[j]? = some u → Wa.cell? ((⟨wr.heap.size, 0, none⟩ : Addr).add j) = some u) := by
                unfold Hid
                rw [hWa]
                exact World.news_of_block (kheap_at wr _ _ (by simp))
              have hza : w2.heap.size ≤ Wa.heap.size := Nat.le_trans hsz HAa.out.size
              have HWa := ghid hWa
              clear hWa
              go_wp2_with (at_builtin; refine wpList_append_lies _ rfl (.tmp 74) (.tmp 78) 49 rfl w2.heap.size 54 i0 _ 4 40 Try.underlying49 hi hz0 hz1 hz2 rfl (by decide) (.slice oo nf oc) nf (flatG keptCells (outG xk (⟨q, rc, rn, rt⟩ : KeptD) xk.length xk.length)) rfl (by rw [← HWa.out]; exact HROWa.out) ⟨wr.heap.size, 0, none⟩ 1 1 (keptCells (⟨q, rc, rn, rt⟩ : KeptD)) rfl rfl (by rw [← HWa.out]; exact HNEWa.out) (keptCells_one _) (by omega) (by unfold maxLen; omega) (by omega) (by rw [← HWa.out]; exact hza) _ rfl ?_)
              intro ga ca w5 howna hga hata hlta
              rw [← HWa.out] at hga
              have HRa : Hid (w5.ownsRow w2.heap.size 54 4 (.slice (some ⟨ga, 0, none⟩) (nf + 1) ca) (nf + 1) (flatG keptCells (outG xk (⟨q, rc, rn, rt⟩ : KeptD) xk.length xk.length ++ [(⟨q, rc, rn, rt⟩ : KeptD)]))) := by
                unfold Hid
                rw [flatG_snoc]
                exact howna
              have hba := (HB.out.trans (HAa.out.mono hsz)).grown hga hza (fun c hc => (HR.out.lt c hc).1)
              have HBa := ghid hba
              have hsza := hba.size
              have kxa : ∀ b o, b < w2.heap.size → w5.cell? ⟨b, o, none⟩ = w2.cell? ⟨b, o, none⟩ := fun b o h => hba.cell (p := ⟨b, o, none⟩) h
              clear howna hga hata hlta hba HROWa HNEWa
              have hrq : w5.ownsRow w2.heap.size 54 4 (.slice (some ⟨ga, 0, none⟩) (nf + 1) ca) (xk.take xk.length ++ (⟨q, rc, rn, rt⟩ : KeptD) :: xk.drop xk.length).length (flatG keptCells (xk.take xk.length ++ (⟨q, rc, rn, rt⟩ : KeptD) :: xk.drop xk.length)) := by
                have hl : (xk.take xk.length ++ (⟨q, rc, rn, rt⟩ : KeptD) :: xk.drop xk.length).length = nf + 1 := by rw [← HN.out, List.length_append, HNF.out]; rfl
                rw [hl, ← HN.out]; exact HRa.out
              have hos := HOUT.out w5 (.slice (some ⟨ga, 0, none⟩) (nf + 1) ca) HBa.out hrq
              have g0 := (HBa.out.cell (p := ⟨g, n * 5, none⟩) hgl).trans d0
              have g1 := (HBa.out.cell (p := ⟨g, n * 5 + 1, none⟩) hgl).trans d1
              have g2 := (HBa.out.cell (p := ⟨g, n * 5 + 2, none⟩) hgl).trans d2
              have g3 := (HBa.out.cell (p := ⟨g, n * 5 + 3, none⟩) hgl).trans d3
              have g4 := (HBa.out.cell (p := ⟨g, n * 5 + 4, none⟩) hgl).trans d4
              have gf := (HBa.out.frozen (p := ⟨g, n * 5 + 4, none⟩) hgl).trans (df _)
              have hgq : g < w5.heap.size := Nat.lt_of_lt_of_le hgl HBa.out.size
              obtain ⟨W6, hW6⟩ : ∃ W6, W6 = w5.setCell ⟨g, n * 5 + 4, none⟩ ((.slice (some ⟨ga, 0, none⟩) (nf + 1) ca)) := ⟨_, rfl⟩
              rw [← hW6] at hos
              have hnr : n < rs.length := (List.getElem?_eq_some_iff.1 HRN.out).1
              have hri : (rs.set n (({ (⟨xc, xi, xa, xt, xk⟩ : SessD) with replies := xk.take xk.length ++ (⟨q, rc, rn, rt⟩ : KeptD) :: xk.drop xk.length }, (.slice (some ⟨ga, 0, none⟩) (nf + 1) ca)) : SessD × Value))[n]? = some (⟨xc, xi, xa, xt, xk.take xk.length ++ (⟨q, rc, rn, rt⟩ : KeptD) :: xk.drop xk.length⟩, (.slice (some ⟨ga, 0, none⟩) (nf + 1) ca)) := List.getElem?_set_self hnr
              have CF := repliesMay_any xc xi xa xt ((.slice (some ⟨ga, 0, none⟩) (nf + 1) ca)) _ W6 W6.heap.size ((hos.reps.each _ (List.mem_of_getElem? hri)).reads (Nat.le_refl _)) (Nat.le_refl _) hxa0 hxa1
              simp only at CF
              rw [HFB.out] at CF
              have HB6 : Hid (Below w.heap.size w W6) := by unfold Hid; rw [hW6]; exact ((HB2.out.trans (HBa.out.mono (by omega))).setCell (by show w.heap.size ≤ g; omega) _)
              have HO6 := ghid hos
              have HW6 := ghid hW6
              have HM : Hid ((rs.set n (({ (⟨xc, xi, xa, xt, xk⟩ : SessD) with replies := xk.take xk.length ++ (⟨q, rc, rn, rt⟩ : KeptD) :: xk.drop xk.length }, (.slice (some ⟨ga, 0, none⟩) (nf + 1) ca)) : SessD × Value)).map (·.1) = ls.set n ⟨xc, xi, xa, xt, xk.take xk.length ++ (⟨q, rc, rn, rt⟩ : KeptD) :: xk.drop xk.length⟩) := by
                unfold Hid
                rw [List.map_set, HRS.out]
              clear hos hri hW6
              go_wp2_with fail
              rw [← HW6.out]
              refine CF.mono ?_
              rintro e w7 ⟨rfl, hb7⟩
              have HB7 := ghid (HB6.out.trans (hb7.mono HB6.out.size))
              have HO7 := ghid (HO6.out.below hb7 (Nat.le_refl _))
              clear hb7 CF
              go_wp2
              refine bodyPost_ret (v := .tuple #[.slice (some ⟨g, 0, none⟩) ls.length gc, .int .i64 0]) (by simp [results, Try.results15, go_sem]) rfl ?_
              have t := HO7.out.reads (Nat.le_refl _)
              rw [HM.out] at t
              exact ⟨_, rfl, t, HB7.out⟩
end Go.Proofs.Ytmcdbdcabiccnaf
