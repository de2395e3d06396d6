/- machine.leave (joined by program) -/
import Derived.Test.YtijilhbdbeajjaaGreatDoorTT29
import Derived.Test.YtijilhbdbeajjaaGreatDoorTT30
import Derived.Test.YtijilhbdbeajjaaGreatDoorTT09
namespace Go.Proofs.YtijilhbdbeajjaaGreatDoor

open Go.RowKit

set_option maxRecDepth 100000 in
set_option maxHeartbeats 1600000 in
theorem mleave_any (p : Nat) (s : StateD) (c : Int) (w : World) (h : StB w p s) (hr : checkS s.sess s.index = 0) (hg : goneE s.locks c = 0) :
    Calls Tryz.prog 97 #[.pointer (some ⟨p, 0, none⟩), .int .i64 c] w fun e w' => e = .returned (.agg #[.int .i64 (leaveS s.sess c).2.code, .int .i64 (leaveS s.sess c).2.n, .string (leaveS s.sess c).2.text]) ∧ StB w' p { s with locks := goneL s.locks c, sess := (leaveS s.sess c).1 } ∧ TouchG w w' (fun b => b = p) := by
  have HS := ghid h
  obtain ⟨lo, po, so, ln, lc, pn, pc, sn, sc, h0, h1, h2, h3⟩ := h
  have CJ := ghid (fun (w' : World) (hb : Below w.heap.size w w') => Leave_ok (.slice so sn sc) s.sess s.index c w' w.heap.size (h3.below hb (Nat.le_refl _)) hb.size hr)
  have CG := ghid (fun (W : World) (v : Value) (hl : LocksO W 0 v s.locks) => Gone_own v s.locks c W W.heap.size (hl.reads (Nat.le_refl _)) (Nat.le_refl _) hg)
  obtain ⟨gl, hgl⟩ : ∃ g, g = goneL s.locks c := ⟨_, rfl⟩
  rw [← hgl] at CG ⊢
  clear hgl hg
  obtain ⟨⟨j, ⟨jc, jn, jt⟩⟩, hj⟩ : ∃ j, j = leaveS s.sess c := ⟨_, rfl⟩
  rw [← hj] at CJ ⊢
  obtain ⟨ix, hix⟩ : ∃ i, i = s.index := ⟨_, rfl⟩
  rw [← hix] at CJ h0
  simp only at CJ ⊢
  have HP := ghid h0
  obtain ⟨d0, d1, d2, d3, df, hpl⟩ := state_cells h0
  have hne : p ≠ w.heap.size := by omega
  have hne' : w.heap.size ≠ p := by omega
  clear h0 h1 h2 h3 hj hix hr
  go_enter Tryz.func97, Tryz.ntmps97
  go_wp2_with fail
  go_region_with (go_at_call 140; refine (CJ.out _ (((Below.refl _ _).alloc (Nat.le_refl _) _).drew)).mono ?_; rintro e w2 ⟨v2, rfl, hs2, hb2⟩; have hp2 := behind HP.out (((Below.refl _ _).alloc (Nat.le_refl _) _).drew) hb2; have hr2 := behind (heap_alloc_new w (.cells #[.int .i64 0, .int .i64 0, .string ⟨#[]⟩] 73)) ((Below.refl _ _).drew) hb2; obtain ⟨e0, e1, e2, e3, ef, hpl2⟩ := state_cells hp2; obtain ⟨r0, r1, r2, rf, hrl2⟩ := reply_cells hr2; obtain ⟨vo, vc, rfl⟩ := hs2.slice)
  all_goals
    have hbw : Below w.heap.size w w2 := (((Below.refl w.heap.size w).alloc (Nat.le_refl _) (.cells #[.int .i64 0, .int .i64 0, .string ⟨#[]⟩] 73)).drew).trans (hb2.mono (by simp))
    have K1 := (HS.out.below hbw).setSess hs2
    have hr3 : (w2.setCell ⟨p, 3, none⟩ (.slice vo j.length vc)).heap[w.heap.size]? = some (.cells #[.int .i64 0, .int .i64 0, .string ⟨#[]⟩] 73 (0, 0)) := (Below.heap_setCell _ _ _ _ (by simpa using hne')).trans hr2
    obtain ⟨K2, hr4⟩ := K1.reply hr3 hne' jc jn jt
    have KT := (touch_reply (r := w.heap.size) ((TouchG.of_below hbw (Nat.le_refl _) (fun b => b = p)).setCell (a := ⟨p, 3, none⟩) (Or.inl rfl) (.slice vo j.length vc)) (Or.inr (Nat.le_refl _)) (.int .i64 jc) (.int .i64 jn) (.string jt))
    obtain ⟨W4, hW4⟩ : ∃ W4, W4 = (((w2.setCell ⟨p, 3, none⟩ (.slice vo j.length vc)).setCell ⟨w.heap.size, 0, none⟩ (.int .i64 jc)).setCell ⟨w.heap.size, 1, none⟩ (.int .i64 jn)).setCell ⟨w.heap.size, 2, none⟩ (.string jt) := ⟨_, rfl⟩
    rw [← hW4] at K2 hr4 KT ⊢
    have HR4 := ghid hr4
    have hz4 : w.heap.size ≤ W4.heap.size := KT.size
    clear hb2 hs2 hp2 hr2 hr3 hr4 K1 hbw hW4 e0 e1 e2 e3 ef r0 r1 r2 rf hrl2 hpl2 HP
    have HS4 := ghid K2
    have HT4 := ghid KT
    obtain ⟨lo4, po4, so4, ln4, lc4, pn4, pc4, sn4, sc4, h40, h41, h42, h43⟩ := K2
    simp only at h41
    obtain ⟨e0, e1, e2, e3, ef, hpl4⟩ := state_cells h40
    have HP4 := ghid h40
    have HL4 := ghid h41
    clear h40 h41 h42 h43 KT
    go_wp2_with fail
    refine (CG.out _ _ HL4.out).mono ?_
    rintro e w5 ⟨v5, rfl, hl5, hb5⟩
    have K5 := HS4.out.below hb5
    obtain ⟨vo5, vc5, rfl⟩ := (hl5.reads (Nat.le_refl _)).slice
    have K6 := K5.setLocks (hl5.mono (Nat.zero_le _))
    have hp5 := behind HP4.out (Below.refl _ _) hb5
    have hr5 := behind HR4.out (Below.refl _ _) hb5
    obtain ⟨f0, f1, f2, f3, ff, hpl5⟩ := state_cells hp5
    obtain ⟨u0, u1, u2, uf, hul5⟩ := reply_cells hr5
    have hr6 : (w5.setCell ⟨p, 1, none⟩ (.slice vo5 gl.length vc5)).heap[w.heap.size]? = some (.cells #[.int .i64 jc, .int .i64 jn, .string jt] 73 (0, 0)) := (Below.heap_setCell _ _ _ _ (by simpa using hne')).trans hr5
    have KT6 := (HT4.out.trans (TouchG.of_below hb5 (Nat.le_refl _) (fun _ => False)) (fun _ _ h => h.elim)).setCell (a := ⟨p, 1, none⟩) (Or.inl rfl) (.slice vo5 gl.length vc5)
    have KF := ghid (K6.reply hr6 hne' jc jn jt).1
    have HT := ghid (touch_reply KT6 (Or.inr (Nat.le_refl _)) (.int .i64 jc) (.int .i64 jn) (.string jt))
    clear hl5 hb5 K5 K6 hp5 hr5 hr6 KT6
    go_wp2
    refine bodyPost_ret (v := .agg #[.int .i64 jc, .int .i64 jn, .string jt]) (by simp [results, Tryz.results97, go_sem, u0, u1, u2]) rfl ⟨rfl, ?_, ?_⟩
    · exact KF.out
    · exact HT.out

end Go.Proofs.YtijilhbdbeajjaaGreatDoor
