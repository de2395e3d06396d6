/- machine.dropIdle: sessions that are idle, and the locks of their clients (joined by program) -/
import Derived.RegionTactic
import Derived.Deep.RegionWith
import Derived.Deep.RegionHeld3
import Derived.Test.YtijilhbdbeajjaaGreatDoorTT09
import Derived.Test.YtijilhbdbeajjaaGreatDoorTT01
import Derived.Test.YtijilhbdbeajjaaGreatDoorTT36
namespace Go.Proofs.YtijilhbdbeajjaaGreatDoor

open Go.RowKit

theorem isOf1_any (x : SessD) (ao : Option Addr) (n c : Nat) (cl : Int) (b0 : Nat) (w : World) (hc0 : w.cell? ⟨b0, 0, none⟩ = some (.int .i64 cl)) (hb0 : b0 < w.heap.size) :
    Calls Tryz.prog 136 #[.agg #[.int .i64 x.client, .int .i64 x.id, .int .i64 x.acked, .int .i64 x.last, .slice ao n c], .pointer (some ⟨b0, 0, none⟩)] w fun e w' => e = .returned (.bool (x.client == cl)) ∧ Below w.heap.size w w' := by
  go_enter Tryz.func136, Tryz.ntmps136
  go_wp2
  go_ret
  exact ⟨rfl, (Below.refl _ _).alloc (Nat.le_refl _) _⟩

theorem isOf_any (c : Int) (w : World) :
    Calls Tryz.prog 94 #[.int .i64 c] w fun e w' => e = .returned (.func (.func 136) #[] #[.pointer (some ⟨w.heap.size, 0, none⟩)]) ∧ w' = w.alloc (.cells #[.int .i64 c] 3) := by
  go_enter Tryz.func94, Tryz.ntmps94
  go_wp2
  go_ret
  exact ⟨rfl, rfl⟩

theorem idx_has {α : Type} (p : α → Bool) (ls : List α) : (decide (0 ≤ idxI p ls)) = ls.any p := by
  unfold idxI
  by_cases h : ls.findIdx p < ls.length
  · rw [if_pos h, decide_eq_true (by omega)]
    exact (List.any_eq_true.2 ⟨_, List.getElem_mem h, List.findIdx_getElem (w := h)⟩).symm
  · rw [if_neg h, decide_eq_false (by omega)]
    symm
    rw [List.any_eq_false]
    intro x hx hp
    exact h (List.findIdx_lt_length_of_exists ⟨x, hx, hp⟩)

theorem containsS (v : Value) (ls : List SessD) (cl : Nat) (lb : Array Value) (p : SessD → Bool) (S : Nat → Prop) (w : World) (B : Nat) (hv : SessR w B v ls) (hB : B ≤ w.heap.size) (eg : ∀ args w, (callFunc cl args).run Tryz.prog w = .ok (.enter cl args) w) (hp : PredS cl lb p ls S w) :
    Calls Tryz.prog 93 #[v, .func (.func cl) #[] lb] w fun e w' => e = .returned (.bool (ls.any p)) ∧ Below w.heap.size w w' := by
  have C := ghid (indexS v ls cl lb p S w B hv hB eg hp)
  have HA := ghid (idx_has p ls)
  obtain ⟨ao, cap, rfl, -⟩ := hv
  obtain ⟨i, hi⟩ : ∃ i, i = idxI p ls := ⟨_, rfl⟩
  rw [← hi] at C HA
  have hlo : -1 ≤ i := by rw [hi]; unfold idxI; split <;> omega
  clear hp hi eg
  go_enter Tryz.func93, Tryz.ntmps93
  go_wp2_with fail
  refine C.out.mono ?_
  rintro e w1 ⟨rfl, hb1⟩
  go_wp2
  go_ret
  exact ⟨by rw [← HA.out]; rfl, hb1⟩

/-- Is one of these sessions the client's? -/
theorem containsOf (v : Value) (ls : List SessD) (c : Int) (b0 : Nat) (w : World) (B : Nat) (hv : SessR w B v ls) (hB : B ≤ w.heap.size) (hc : w.heap[b0]? = some (.cells #[.int .i64 c] 3 (0, 0))) :
    Calls Tryz.prog 93 #[v, .func (.func 136) #[] #[.pointer (some ⟨b0, 0, none⟩)]] w fun e w' => e = .returned (.bool (hasS ls c)) ∧ Below w.heap.size w w' := by
  have hlt := (Array.getElem?_eq_some_iff.1 hc).1
  have e : (fun x : SessD => (x.client == c)) = fun x => decide (x.client = c) := by
    funext x
    rw [Bool.eq_iff_iff]
    simp
  have := containsS v ls 136 #[.pointer (some ⟨b0, 0, none⟩)] (fun x => x.client == c) (fun _ => False) w B hv hB (enters_of Tryz.func136 (by decide) rfl) (fun x ao n k w' _ hw => by
    have hz := hw.size
    refine isOf1_any x ao n k c b0 w' ?_ (by omega)
    exact (World.cell?_of_block (hw.block b0 hlt (fun h => h))).trans (cells_of hc 0))
  rw [e] at this
  exact this

/-- One idle session more, or one that is fresh. -/
theorem dropL_step {fresh : List SessD} {ks : List LockD} {ss : List SessD} {k : Nat} {x : SessD} (h : ss[k]? = some x) : dropL fresh ks (ss.take (k + 1)) = if hasS fresh x.client = true then dropL fresh ks (ss.take k) else goneL (dropL fresh ks (ss.take k)) x.client := by
  obtain ⟨hk, e⟩ := List.getElem?_eq_some_iff.1 h
  unfold dropL
  rw [List.take_succ_eq_append_getElem hk, List.foldl_append, e]
  rfl

set_option maxRecDepth 100000 in
set_option maxHeartbeats 6400000 in
theorem dropIdle_any (p : Nat) (s : StateD) (w : World) (h : StB w p s) (hg : GoodM s) :
    Calls Tryz.prog 60 #[.pointer (some ⟨p, 0, none⟩)] w fun e w' => e = .returned (.tuple #[]) ∧ StB w' p (dropM s) ∧ TouchG w w' (fun b => b = p) := by
  have HS := ghid h
  have HG := ghid hg
  have HF := ghid h.foreign
  obtain ⟨lo, po, so, ln, lc, pn, pc, sn, sc, h0, h1, h2, h3⟩ := h
  have CF := ghid (fun (w' : World) (hb : Below w.heap.size w w') => Fresh_ok (.slice so sn sc) s.sess s.index w' w.heap.size (h3.below hb (Nat.le_refl _)) hb.size (checkS_of hg.sess))
  obtain ⟨fr, hfr⟩ : ∃ f, f = freshS s.sess s.index := ⟨_, rfl⟩
  have HDM : Hid (dropM s = { s with locks := dropL fr s.locks s.sess, sess := fr }) := by unfold Hid dropM; rw [hfr]
  rw [HDM.out]
  rw [← hfr] at CF
  obtain ⟨ix, hix⟩ : ∃ i, i = s.index := ⟨_, rfl⟩
  rw [← hix] at CF h0
  have HP := ghid h0
  have H3 := ghid h3
  have hsn : sn = s.sess.length := by
    obtain ⟨ao, cap, e, -⟩ := h3
    simp only [Value.slice.injEq] at e
    exact e.2.1
  subst hsn
  have hll := h3.len
  obtain ⟨d0, d1, d2, d3, df, hpl⟩ := state_cells h0
  clear h0 h1 h2 h3 hfr hix hg
  go_enter Tryz.func60, Tryz.ntmps60
  go_wp2_with fail
  go_region_held3 (fun w' => w'.cell? ⟨p, 0, none⟩ = some (.int .i64 ix) ∧ w'.cell? ⟨p, 3, none⟩ = some (.slice so s.sess.length sc)) (go_keep)
    (first
      | (go_at_call 26; refine (CF.out _ ((Below.refl _ _).drew)).mono ?_; rintro e w2 ⟨v2, rfl, hs2, hb2⟩; have hp2 := behind HP.out ((Below.refl _ _).drew) hb2; obtain ⟨f0, f1, f2, f3, ff, hpl2⟩ := state_cells hp2; obtain ⟨vo, vc, rfl⟩ := hs2.slice))
  have hb2' : Below w.heap.size w w2 := ((Below.refl _ _).drew).trans (hb2.mono (by simp))
  have HS2 := ghid (HS.out.below hb2')
  have HB2 := ghid hb2'
  have H32 := ghid (H3.out.below hb2' (Nat.le_refl _))
  have HV2 := ghid hs2
  have hz2 : w.heap.size ≤ w2.heap.size := hb2'.size
  clear hb2 hb2' hs2 hp2 d0 d1 d2 d3 df
  go_wp2
  go_loopw [23] (fun i wr => ∃ k : Nat, k ≤ s.sess.length ∧ i = .int .i64 k ∧ StB wr p { s with locks := dropL fr s.locks (s.sess.take k) } ∧ SessR wr wr.heap.size (.slice so s.sess.length sc) s.sess ∧ SessR wr wr.heap.size (.slice vo fr.length vc) fr ∧ TouchG w wr (fun b => b = p)) (fun i _ => s.sess.length - (intOf i).toNat)
  case atStart => exact ⟨0, Nat.zero_le _, rfl, by simpa [dropL] using HS2.out, H32.out.mono hz2, HV2.out, TouchG.of_below HB2.out (Nat.le_refl _) _⟩
  case round =>
    obtain ⟨k, hk, rfl, hst, hss, hvf, htw⟩ := hrel
    by_cases hlt : k < s.sess.length
    · obtain ⟨x, hx⟩ : ∃ x, s.sess[k]? = some x := ⟨_, List.getElem?_eq_getElem hlt⟩
      have HST := ghid hst
      have HSS := ghid hss
      have HVF := ghid hvf
      have HTW := ghid htw
      have HX := ghid hx
      have HD := ghid (dropL_step (fresh := fr) (ks := s.locks) hx)
      have hfo := hst.foreign
      have hpr := hst.lt
      obtain ⟨ao, cap, he, h1, h2, h3, h4⟩ := hss
      obtain ⟨b, off, rfl, hbB, hc⟩ := h4 (by omega)
      simp only [Value.slice.injEq] at he
      obtain ⟨rfl, -, rfl⟩ := he
      obtain ⟨lv, c0, c1, c2, c3, c4, hl, -⟩ := hc k x hx
      obtain ⟨ko, kc, rfl, -⟩ := hl
      obtain ⟨lo', po', so', ln', lc', pn', pc', sn', sc', h0, g1, -, -⟩ := hst
      have hgl : GoodL (dropL fr s.locks (s.sess.take k)) := HG.out.locks.drop
      have hxr := rangeB_iff.1 (HG.out.sess.fine x (List.mem_of_getElem? hx)).range
      obtain ⟨xc, xi, xa, xt, xk⟩ := x
      simp only at c0 c1 c2 c3 c4 HD g1 hxr
      have CG := ghid (fun (W : World) (hb : Below wr.heap.size wr W) => Gone_own (.slice lo' ln' lc') (dropL fr s.locks (s.sess.take k)) xc W wr.heap.size ((g1.reads (Nat.le_refl _)).below hb (Nat.le_refl _)) hb.size (hgl.goneE hxr.1 hxr.2.1))
      have HP0 := ghid h0
      obtain ⟨e0, e1, e2, e3, ef, -⟩ := state_cells h0
      have hne : p ≠ wr.heap.size := by omega
      have hne' : wr.heap.size ≠ p := by omega
      have hbe : b ≠ wr.heap.size := by omega
      clear hc h4 hx h0 g1 hvf htw hfo hgl
      go_wp2_with fail
      refine (isOf_any xc _).mono ?_
      rintro e w3 ⟨rfl, rfl⟩
      have hb3 : Below wr.heap.size wr ((wr.alloc (.cells #[.int .i64 xc, .int .i64 xi, .int .i64 xa, .int .i64 xt, .slice ko xk.length kc] 121)).alloc (.cells #[.int .i64 xc] 3)) := ((Below.refl wr.heap.size wr).alloc (Nat.le_refl _) _).alloc (by simp) _
      obtain ⟨hi3, hx3⟩ := two_newB (Below.refl (wr.heap.size + 2) ((wr.alloc (.cells #[.int .i64 xc, .int .i64 xi, .int .i64 xa, .int .i64 xt, .slice ko xk.length kc] 121)).alloc (.cells #[.int .i64 xc] 3)))
      have hv3 := HVF.out.below hb3 (Nat.le_refl _)
      obtain ⟨W3, hW3⟩ : ∃ W3, W3 = (wr.alloc (.cells #[.int .i64 xc, .int .i64 xi, .int .i64 xa, .int .i64 xt, .slice ko xk.length kc] 121)).alloc (.cells #[.int .i64 xc] 3) := ⟨_, rfl⟩
      simp only [World.size_alloc]
      rw [← hW3] at hb3 hi3 hx3 hv3 ⊢
      have CC := ghid (containsOf (.slice vo fr.length vc) fr xc (wr.heap.size + 1) W3 wr.heap.size hv3 hb3.size hi3)
      have HB3 := ghid hb3
      have HX3 := ghid hx3
      clear hW3 hb3 hi3 hx3 hv3
      cases hhs : hasS fr xc with
      | true =>
        rw [hhs] at CC HD
        simp only [if_true] at HD
        clear hhs
        go_wp2_with fail
        refine CC.out.mono ?_
        rintro e w4 ⟨rfl, hb4⟩
        have hbw : Below wr.heap.size wr w4 := HB3.out.trans (hb4.mono HB3.out.size)
        have HF4 := ghid (⟨HST.out.below hbw, (HSS.out.below hbw (Nat.le_refl _)).mono hbw.size, (HVF.out.below hbw (Nat.le_refl _)).mono hbw.size, HTW.out.trans (TouchG.of_below hbw (Nat.le_refl _) (fun _ => False)) (fun _ _ h => h.elim)⟩ : _ ∧ _ ∧ _ ∧ _)
        clear hb4 hbw CC
        go_wp2
        go_roundw
        case rel => exact ⟨k + 1, by omega, by go_num, by rw [HD.out]; exact HF4.out.1, HF4.out.2.1, HF4.out.2.2.1, HF4.out.2.2.2⟩
        case measure => simp [intOf]; omega
      | false =>
        rw [hhs] at CC HD
        simp only [Bool.false_eq_true, if_false] at HD
        clear hhs
        go_wp2_with fail
        refine CC.out.mono ?_
        rintro e w4 ⟨rfl, hb4⟩
        have hbw : Below wr.heap.size wr w4 := HB3.out.trans (hb4.mono HB3.out.size)
        have hp4 := behind HP0.out (Below.refl _ _) hbw
        have hx4 := behind HX3.out (Below.refl _ _) hb4
        obtain ⟨f0, f1, f2, f3, ff, hpl4⟩ := state_cells hp4
        have x0 := cells_of hx4 0
        simp only [List.getElem?_toArray, List.getElem?_cons_zero] at x0
        have hxl4 := (Array.getElem?_eq_some_iff.1 hx4).1
        have HBW := ghid hbw
        have HP4 := ghid hp4
        clear hb4 hbw CC hp4 hx4 e0 e1 e2 e3 ef
        go_wp2_with fail
        go_region_with (go_at_call 95; refine (CG.out _ (HBW.out.drew)).mono ?_; rintro e w5 ⟨v5, rfl, hl5, hb5⟩; have hp5 := behind HP4.out ((Below.refl _ _).drew) hb5; obtain ⟨t0, t1, t2, t3, tf, hpl5⟩ := state_cells hp5; obtain ⟨vo5, vc5, rfl⟩ := (hl5.reads (Nat.le_refl _)).slice)
        all_goals
          have hb5' : Below wr.heap.size wr w5 := (HBW.out.drew).trans (hb5.mono HBW.out.size)
          have K5 := (HST.out.below hb5').setLocks (hl5.mono (Nat.zero_le _))
          have ht5 := (TouchG.of_below hb5' (Nat.le_refl _) (fun b => b = p)).setCell (a := ⟨p, 1, none⟩) (Or.inl rfl) (.slice vo5 (goneL (dropL fr s.locks (s.sess.take k)) xc).length vc5)
          have hfo : ∀ g, g < wr.heap.size → g = p → Foreign wr g := fun g _ e => e ▸ HST.out.foreign
          have HF4 := ghid (⟨K5, (HSS.out.touch (Nat.le_refl _) ht5 hfo).mono ht5.size, (HVF.out.touch (Nat.le_refl _) ht5 hfo).mono ht5.size, HTW.out.trans ht5 (fun _ _ h => h)⟩ : _ ∧ _ ∧ _ ∧ _)
          clear hb5 hb5' hl5 K5 ht5 hfo hp5
          go_wp2
          go_roundw
          case rel => exact ⟨k + 1, by omega, by go_num, by rw [HD.out]; exact HF4.out.1, HF4.out.2.1, HF4.out.2.2.1, HF4.out.2.2.2⟩
          case measure => simp [intOf]; omega
    · have hkl : k = s.sess.length := by omega
      subst hkl
      rw [List.take_length] at hst
      have K := hst.setSess hvf
      have HK := ghid K
      have HT := ghid (htw.setCell (a := ⟨p, 3, none⟩) (Or.inl rfl) (.slice vo fr.length vc))
      obtain ⟨lo', po', so', ln', lc', pn', pc', sn', sc', h0, -⟩ := hst
      obtain ⟨e0, e1, e2, e3, ef, -⟩ := state_cells h0
      clear hss hvf htw K h0
      go_wp2
      refine bodyPost_end (v := .tuple #[]) (by simp [results, Tryz.results60, go_sem]) rfl ?_
      exact ⟨rfl, HK.out, HT.out⟩

end Go.Proofs.YtijilhbdbeajjaaGreatDoor
