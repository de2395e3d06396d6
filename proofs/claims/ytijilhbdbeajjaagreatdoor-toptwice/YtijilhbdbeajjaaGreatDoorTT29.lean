/- machine.join, machine.leave (joined by program) -/
import Derived.RegionTactic
import Derived.Deep.RegionWith
import Derived.Test.YtijilhbdbeajjaaGreatDoorTT01
import Derived.Test.YtijilhbdbeajjaaGreatDoorTT28
namespace Go.Proofs.YtijilhbdbeajjaaGreatDoor

open Go.RowKit

set_option maxRecDepth 100000 in
set_option maxHeartbeats 1600000 in
theorem mjoin_any (p : Nat) (s : StateD) (c : Int) (w : World) (h : StB w p s) (hr : joinE s.sess s.index c = 0) :
    Calls Tryz.prog 96 #[.pointer (some ⟨p, 0, none⟩), .int .i64 c] w fun e w' => e = .returned (.agg #[.int .i64 (joinS s.sess s.index c).2.code, .int .i64 (joinS s.sess s.index c).2.n, .string (joinS s.sess s.index c).2.text]) ∧ StB w' p { s with sess := (joinS s.sess s.index c).1 } ∧ TouchG w w' (fun b => b = p) := by
  have HS := ghid h
  obtain ⟨lo, po, so, ln, lc, pn, pc, sn, sc, h0, h1, h2, h3⟩ := h
  have CJ := ghid (fun (w' : World) (hb : Below w.heap.size w w') => Join_ok (.slice so sn sc) s.sess s.index c w' w.heap.size (h3.below hb (Nat.le_refl _)) hb.size hr)
  obtain ⟨⟨j, ⟨jc, jn, jt⟩⟩, hj⟩ : ∃ j, j = joinS s.sess s.index c := ⟨_, rfl⟩
  rw [← hj] at CJ ⊢
  obtain ⟨ix, hix⟩ : ∃ i, i = s.index := ⟨_, rfl⟩
  rw [← hix] at CJ h0
  simp only at CJ ⊢
  have HP := ghid h0
  obtain ⟨d0, d1, d2, d3, df, hpl⟩ := state_cells h0
  have hne : p ≠ w.heap.size := by omega
  have hne' : w.heap.size ≠ p := by omega
  clear h0 h1 h2 h3 hj hix hr
  go_enter Tryz.func96, Tryz.ntmps96
  go_wp2_with fail
  go_region_with (go_at_call 139; refine (CJ.out _ (((Below.refl _ _).alloc (Nat.le_refl _) _).drew)).mono ?_; rintro e w2 ⟨v2, rfl, hs2, hb2⟩; have hp2 := behind HP.out (((Below.refl _ _).alloc (Nat.le_refl _) _).drew) hb2; have hr2 := behind (heap_alloc_new w (.cells #[.int .i64 0, .int .i64 0, .string ⟨#[]⟩] 73)) ((Below.refl _ _).drew) hb2; obtain ⟨e0, e1, e2, e3, ef, hpl2⟩ := state_cells hp2; obtain ⟨r0, r1, r2, rf, hrl2⟩ := reply_cells hr2; obtain ⟨vo, vc, rfl⟩ := hs2.slice)
  all_goals
    have hbw : Below w.heap.size w w2 := (((Below.refl w.heap.size w).alloc (Nat.le_refl _) (.cells #[.int .i64 0, .int .i64 0, .string ⟨#[]⟩] 73)).drew).trans (hb2.mono (by simp))
    have K1 := (HS.out.below hbw).setSess hs2
    have hr3 : (w2.setCell ⟨p, 3, none⟩ (.slice vo j.length vc)).heap[w.heap.size]? = some (.cells #[.int .i64 0, .int .i64 0, .string ⟨#[]⟩] 73 (0, 0)) := (Below.heap_setCell _ _ _ _ (by simpa using hne')).trans hr2
    obtain ⟨K2, hr4⟩ := K1.reply hr3 hne' jc jn jt
    have KT := (touch_reply (r := w.heap.size) ((TouchG.of_below hbw (Nat.le_refl _) (fun b => b = p)).setCell (a := ⟨p, 3, none⟩) (Or.inl rfl) (.slice vo j.length vc)) (Or.inr (Nat.le_refl _)) (.int .i64 jc) (.int .i64 jn) (.string jt))
    obtain ⟨W4, hW4⟩ : ∃ W4, W4 = (((w2.setCell ⟨p, 3, none⟩ (.slice vo j.length vc)).setCell ⟨w.heap.size, 0, none⟩ (.int .i64 jc)).setCell ⟨w.heap.size, 1, none⟩ (.int .i64 jn)).setCell ⟨w.heap.size, 2, none⟩ (.string jt) := ⟨_, rfl⟩
    rw [← hW4] at K2 hr4 KT ⊢
    obtain ⟨q0, q1, q2, qf, hql⟩ := reply_cells hr4
    have KF := ghid (K2.reply hr4 hne' jc jn jt).1
    have HT := ghid (touch_reply KT (Or.inr (Nat.le_refl _)) (.int .i64 jc) (.int .i64 jn) (.string jt))
    clear hb2 hs2 hp2 hr2 hr3 hr4 K1 K2 KT hbw hW4 e0 e1 e2 e3 ef r0 r1 r2 rf
    go_wp2
    refine bodyPost_ret (v := .agg #[.int .i64 jc, .int .i64 jn, .string jt]) (by simp [results, Tryz.results96, go_sem, q0, q1, q2]) rfl ⟨rfl, ?_, ?_⟩
    · exact KF.out
    · exact HT.out

end Go.Proofs.YtijilhbdbeajjaaGreatDoor
