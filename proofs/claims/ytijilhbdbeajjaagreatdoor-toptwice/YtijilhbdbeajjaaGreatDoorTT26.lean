/- machine.call. (Written by gen_call.py.) (joined by program) -/
import Derived.RegionTactic
import Derived.Deep.RegionWith
import Derived.Deep.DeepCutAuto
import Derived.Deep.RegionHeld3
import Derived.Test.YtijilhbdbeajjaaGreatDoorTT01
import Derived.Test.YtijilhbdbeajjaaGreatDoorTT23
import Derived.Test.YtijilhbdbeajjaaGreatDoorTT25
namespace Go.Proofs.YtijilhbdbeajjaaGreatDoor

open Go.RowKit

/-- The cells of a command that lies in a block. -/
theorem cmd_cells {w : World} {p : Nat} {x0 x1 x2 x3 x4 x5 x6 x7 x8 : Value} {t : TypeId} (h : w.heap[p]? = some (.cells #[x0, x1, x2, x3, x4, x5, x6, x7, x8] t (0, 0))) :
    w.cell? ⟨p, 0, none⟩ = some x0 ∧ w.cell? ⟨p, 1, none⟩ = some x1 ∧ w.cell? ⟨p, 2, none⟩ = some x2 ∧ w.cell? ⟨p, 3, none⟩ = some x3 ∧ w.cell? ⟨p, 4, none⟩ = some x4 ∧ w.cell? ⟨p, 5, none⟩ = some x5 ∧ w.cell? ⟨p, 6, none⟩ = some x6 ∧ w.cell? ⟨p, 7, none⟩ = some x7 ∧ w.cell? ⟨p, 8, none⟩ = some x8 ∧ p < w.heap.size :=
  ⟨cells_of h 0, cells_of h 1, cells_of h 2, cells_of h 3, cells_of h 4, cells_of h 5, cells_of h 6, cells_of h 7, cells_of h 8, (Array.getElem?_eq_some_iff.1 h).1⟩

/-- What holds while a reply is kept. -/
def CallS (p hs bx : Nat) (ix cc qq yc yn : Int) (yt : ByteArray) (w' : World) : Prop :=
  w'.cell? ⟨p, 0, none⟩ = some (.int .i64 ix) ∧ w'.cell? ⟨hs, 1, none⟩ = some (.int .i64 cc) ∧ w'.cell? ⟨hs, 3, none⟩ = some (.int .i64 qq) ∧ w'.cell? ⟨bx, 0, none⟩ = some (.int .i64 yc) ∧ w'.cell? ⟨bx, 1, none⟩ = some (.int .i64 yn) ∧ w'.cell? ⟨bx, 2, none⟩ = some (.string yt)

set_option maxRecDepth 100000 in
set_option maxHeartbeats 6400000 in
theorem mcall_away (p : Nat) (s : StateD) (kk cc ss qq uu ok : Int) (aa bb : ByteArray) (nn : Int) (w : World) (h : StB w p s) (hr : readyE s.sess s.index qq uu = 0) (ht : (readyS s.sess s.index cc ss qq uu).2.2 = false) :
    Calls Tryz.prog 98 #[.pointer (some ⟨p, 0, none⟩), .agg #[.int .i64 kk, .int .i64 cc, .int .i64 ss, .int .i64 qq, .int .i64 uu, .int .i64 ok, .string aa, .string bb, .int .i64 nn]] w fun e w' => e = .returned (.agg #[.int .i64 (readyS s.sess s.index cc ss qq uu).2.1.code, .int .i64 (readyS s.sess s.index cc ss qq uu).2.1.n, .string (readyS s.sess s.index cc ss qq uu).2.1.text]) ∧ StB w' p { s with sess := (readyS s.sess s.index cc ss qq uu).1 } ∧ TouchG w w' (fun b => b = p) := by
  have HS := ghid h
  obtain ⟨lo, po, so, ln, lc, pn, pc, sn, sc, h0, h1, h2, h3⟩ := h
  have CR := ghid (fun (w' : World) (hb : Below w.heap.size w w') => Ready_ok (.slice so sn sc) s.sess s.index kk cc ss qq uu ok aa bb nn w' w.heap.size (h3.below hb (Nat.le_refl _)) hb.size hr)
  obtain ⟨⟨j, ⟨⟨rc, rn, rt⟩, jb⟩⟩, hj⟩ : ∃ q, q = readyS s.sess s.index cc ss qq uu := ⟨_, rfl⟩
  rw [← hj] at CR ht ⊢
  simp only at CR ht ⊢
  subst ht
  obtain ⟨ix, hix⟩ : ∃ i, i = s.index := ⟨_, rfl⟩
  rw [← hix] at CR h0 
  have HP := ghid h0
  obtain ⟨d0, d1, d2, d3, df, hpl⟩ := state_cells h0
  have hne : p ≠ w.heap.size := by omega
  have hne' : w.heap.size ≠ p := by omega
  have hne2 : p ≠ w.heap.size + 1 := by omega
  have hne2' : w.heap.size + 1 ≠ p := by omega
  have hne3 : p ≠ w.heap.size + 1 + 1 := by omega
  have hne4 : p ≠ w.heap.size + 2 := by omega
  have hpl1 : p < w.heap.size + 1 := by omega
  have hpl2 : p < w.heap.size + 1 + 1 := by omega
  have HB0 : Hid (Below w.heap.size w ((w.alloc (.cells #[.int .i64 kk, .int .i64 cc, .int .i64 ss, .int .i64 qq, .int .i64 uu, .int .i64 ok, .string aa, .string bb, .int .i64 nn] 67)).alloc (.cells #[.int .i64 0, .int .i64 0, .string ⟨#[]⟩] 73))) := ((Below.refl w.heap.size w).alloc (Nat.le_refl _) _).alloc (by simp) _
  clear h0 h1 h2 h3 hj hix hr
  go_enter Tryz.func98, Tryz.ntmps98
  go_upto_region 1 with fail
  go_cut [5, 6, 7] (fun al ptr td wx => ∃ (vo : Option Addr) (vc bx : Nat), al = .slice vo j.length vc ∧ ptr = .pointer (some ⟨bx, 0, none⟩) ∧ td = .bool false ∧ wx.heap[bx]? = some (.cells #[.int .i64 rc, .int .i64 rn, .string rt] 73 (0, 0)) ∧ w.heap.size + 2 ≤ bx ∧ SessR wx wx.heap.size (.slice vo j.length vc) j ∧ Below (w.heap.size + 2) ((w.alloc (.cells #[.int .i64 kk, .int .i64 cc, .int .i64 ss, .int .i64 qq, .int .i64 uu, .int .i64 ok, .string aa, .string bb, .int .i64 nn] 67)).alloc (.cells #[.int .i64 0, .int .i64 0, .string ⟨#[]⟩] 73)) wx)
  case first =>
    have hpW := behind HP.out (Below.refl _ _) HB0.out
    obtain ⟨hrW, hcW⟩ := two_newB (Below.refl (w.heap.size + 2) ((w.alloc (.cells #[.int .i64 kk, .int .i64 cc, .int .i64 ss, .int .i64 qq, .int .i64 uu, .int .i64 ok, .string aa, .string bb, .int .i64 nn] 67)).alloc (.cells #[.int .i64 0, .int .i64 0, .string ⟨#[]⟩] 73)))
    obtain ⟨a0, a1, a2, a3, af, hplW⟩ := state_cells hpW
    obtain ⟨m0, m1, m2, m3, m4, m5, m6, m7, m8, hmlW⟩ := cmd_cells hcW
    obtain ⟨W0, hW0⟩ : ∃ W0, W0 = (w.alloc (.cells #[.int .i64 kk, .int .i64 cc, .int .i64 ss, .int .i64 qq, .int .i64 uu, .int .i64 ok, .string aa, .string bb, .int .i64 nn] 67)).alloc (.cells #[.int .i64 0, .int .i64 0, .string ⟨#[]⟩] 73) := ⟨_, rfl⟩
    have hzW : W0.heap.size = w.heap.size + 2 := by rw [hW0]; simp
    rw [← hW0] at a0 a3 m0 m1 m2 m3 m4 m5 m6 m7 m8 HB0 hplW hmlW hpW hcW ⊢
    have HZ := ghid hzW
    have hx1 : W0.heap.size ≠ p := by omega
    have hx2 : W0.heap.size ≠ w.heap.size := by omega
    have HPW := ghid hpW
    have HCW := ghid hcW
    have HW0 := ghid hW0
    clear hpW hrW hcW a1 a2 af hW0 d0 d1 d2 d3 df hzW
    go_region_held3 (fun w' => w'.cell? ⟨p, 0, none⟩ = some (.int .i64 ix) ∧ w'.cell? ⟨p, 3, none⟩ = some (.slice so sn sc) ∧ w'.cell? ⟨w.heap.size, 0, none⟩ = some (.int .i64 kk) ∧ w'.cell? ⟨w.heap.size, 1, none⟩ = some (.int .i64 cc) ∧ w'.cell? ⟨w.heap.size, 2, none⟩ = some (.int .i64 ss) ∧ w'.cell? ⟨w.heap.size, 3, none⟩ = some (.int .i64 qq) ∧ w'.cell? ⟨w.heap.size, 4, none⟩ = some (.int .i64 uu) ∧ w'.cell? ⟨w.heap.size, 5, none⟩ = some (.int .i64 ok) ∧ w'.cell? ⟨w.heap.size, 6, none⟩ = some (.string aa) ∧ w'.cell? ⟨w.heap.size, 7, none⟩ = some (.string bb) ∧ w'.cell? ⟨w.heap.size, 8, none⟩ = some (.int .i64 nn)) (go_keep)
      (first
        | (go_at_call 27; refine (CR.out _ (by first | exact HB0.out.drew | exact (HB0.out.alloc (by have := HZ.out; omega) _).drew)).mono ?_; rintro e w2 ⟨v2, rfl, hs2, hb2⟩; have hp2 := behind HPW.out (by first | exact (Below.refl _ _).drew | exact ((Below.refl _ _).alloc (Nat.le_refl _) _).drew) hb2; have hc2 := behind HCW.out (by first | exact (Below.refl _ _).drew | exact ((Below.refl _ _).alloc (Nat.le_refl _) _).drew) hb2; obtain ⟨v0, v1, v2, v3, vf, hvl⟩ := state_cells hp2; obtain ⟨k0, k1, k2, k3, k4, k5, k6, k7, k8, hkl⟩ := cmd_cells hc2; have hz2 := hb2.size; simp at hz2; have hx3 : w2.heap.size ≠ p := (Nat.ne_of_gt hvl); have hx4 : w2.heap.size ≠ w.heap.size := (Nat.ne_of_gt hkl); obtain ⟨vo, vc, rfl⟩ := hs2.slice; try (with_reducible have hn2 := behind (heap_alloc_new W0 (.cells #[.int .i64 0, .int .i64 0, .string ⟨#[]⟩] 73)) ((Below.refl _ _).drew) hb2; obtain ⟨n0, n1, n2, nf, hnl⟩ := reply_cells hn2)))
    all_goals
      go_wp2
      go_meet
      refine ⟨vo, vc, _, rfl, rfl, rfl, ?_⟩
      rw [← HW0.out, ← HZ.out]
      first
        | (have hb3 : Below W0.heap.size W0 w2 := ((Below.refl _ _).drew).trans (hb2.mono (by simp))
           with_reducible exact ⟨heap_alloc_new w2 _, hb3.size, (hs2.below ((Below.refl _ _).alloc (Nat.le_refl _) _) (Nat.le_refl _)).mono (by simp), hb3.alloc hb3.size _⟩)
        | (have hb3 : Below W0.heap.size W0 w2 := (((Below.refl _ _).alloc (Nat.le_refl _) (.cells #[.int .i64 0, .int .i64 0, .string ⟨#[]⟩] 73)).drew).trans (hb2.mono (by simp))
           have g8 : (((w2.setCell ⟨W0.heap.size, 0, none⟩ (.int .i64 rc)).setCell ⟨W0.heap.size, 1, none⟩ (.int .i64 rn)).setCell ⟨W0.heap.size, 2, none⟩ (.string rt)).heap[W0.heap.size]? = some (.cells #[.int .i64 rc, .int .i64 rn, .string rt] 73 (0, 0)) := by rw [heap_set (heap_set (heap_set hn2 _) _) _]; rfl
           have ht8 := touch_reply (r := W0.heap.size) (TouchG.refl w2 (fun b => b = W0.heap.size)) (Or.inl rfl) (.int .i64 rc) (.int .i64 rn) (.string rt)
           exact ⟨g8, Nat.le_refl _, (hs2.touch (Nat.le_refl _) ht8 (fun g _ e => e ▸ foreign_reply hn2)).mono ht8.size, ((hb3.setCell (Nat.le_refl _) _).setCell (Nat.le_refl _) _).setCell (Nat.le_refl _) _⟩)
  case rest =>
    obtain ⟨vo, vc, bx, rfl, rfl, rfl, hgx, hbx, hsx, hbw⟩ := hcut
    have hbw0 : Below w.heap.size w wc := HB0.out.trans (hbw.mono (by omega))
    have hpx := behind HP.out (Below.refl _ _) hbw0
    obtain ⟨hrx, hcx⟩ := two_newB hbw
    obtain ⟨e0, e1, e2, e3, ef, hplx⟩ := state_cells hpx
    obtain ⟨r0, r1, r2, rf, hrlx⟩ := reply_cells hrx
    obtain ⟨b0, b1, b2, bf, hblx⟩ := reply_cells hgx
    obtain ⟨m0, m1, m2, m3, m4, m5, m6, m7, m8, hmlx⟩ := cmd_cells hcx
    have K1 := (HS.out.below hbw0).setSess hsx
    have KT := (TouchG.of_below hbw0 (Nat.le_refl _) (fun b => b = p)).setCell (a := ⟨p, 3, none⟩) (Or.inl rfl) (.slice vo j.length vc)
    have n1 : bx ≠ p := by omega
    have n2 : p ≠ bx := by omega
    have n3 : bx ≠ w.heap.size + 1 := by omega
    have n4 : w.heap.size + 1 ≠ bx := by omega
    have n5 : bx ≠ w.heap.size := by omega
    have n6 : w.heap.size ≠ bx := by omega
    have hr1 : (wc.setCell ⟨p, 3, none⟩ (.slice vo j.length vc)).heap[w.heap.size + 1]? = some (.cells #[.int .i64 0, .int .i64 0, .string ⟨#[]⟩] 73 (0, 0)) := (Below.heap_setCell _ _ _ _ (by simpa using hne2')).trans hrx
    have KF := ghid (K1.reply hr1 hne2' rc rn rt).1
    have HT := ghid (touch_reply (r := w.heap.size + 1) KT (Or.inr (by omega)) (.int .i64 rc) (.int .i64 rn) (.string rt))
    clear hgx hsx hbw hbw0 hpx hrx hcx K1 KT hr1
    go_wp2
    refine bodyPost_ret (v := .agg #[.int .i64 rc, .int .i64 rn, .string rt]) (by simp [results, Tryz.results98, go_sem, r0, r1, r2]) rfl ⟨rfl, ?_, ?_⟩
    · exact KF.out
    · exact HT.out

set_option maxRecDepth 100000 in
set_option maxHeartbeats 6400000 in
theorem mcall_todo (p : Nat) (s s2 : StateD) (kk cc ss qq uu ok : Int) (aa bb : ByteArray) (nn : Int) (w : World) (h : StB w p s) (hr : readyE s.sess s.index qq uu = 0) (ht : (readyS s.sess s.index cc ss qq uu).2.2 = true) (i1 : 0 ≤ s.index) (i2 : s.index < 1073741824) (yc yn : Int) (yt : ByteArray) (hyt : yt.size ≤ 140737488351232) (hs2s : s2.sess = (readyS s.sess s.index cc ss qq uu).1) (hs2i : s2.index = s.index)
    (C : ∀ w' : World, StB w' p { s with sess := (readyS s.sess s.index cc ss qq uu).1 } → Calls Tryz.prog 141 #[.pointer (some ⟨p, 0, none⟩), .int .i64 cc, .agg #[.int .i64 ok, .string aa, .string bb, .int .i64 nn]] w' fun e w'' => e = .returned (.agg #[.int .i64 yc, .int .i64 yn, .string yt]) ∧ StB w'' p s2 ∧ TouchG w' w'' (fun b => b = p))
    (hk : keepE (readyS s.sess s.index cc ss qq uu).1 (s.index + 1) cc ⟨qq, yc, yn, yt⟩ = 0) :
    Calls Tryz.prog 98 #[.pointer (some ⟨p, 0, none⟩), .agg #[.int .i64 kk, .int .i64 cc, .int .i64 ss, .int .i64 qq, .int .i64 uu, .int .i64 ok, .string aa, .string bb, .int .i64 nn]] w fun e w' => e = .returned (.agg #[.int .i64 yc, .int .i64 yn, .string yt]) ∧ StB w' p { s2 with sess := keepS (readyS s.sess s.index cc ss qq uu).1 cc ⟨qq, yc, yn, yt⟩ } ∧ TouchG w w' (fun b => b = p) := by
  have HS := ghid h
  obtain ⟨lo, po, so, ln, lc, pn, pc, sn, sc, h0, h1, h2, h3⟩ := h
  have CR := ghid (fun (w' : World) (hb : Below w.heap.size w w') => Ready_ok (.slice so sn sc) s.sess s.index kk cc ss qq uu ok aa bb nn w' w.heap.size (h3.below hb (Nat.le_refl _)) hb.size hr)
  obtain ⟨⟨j, ⟨⟨rc, rn, rt⟩, jb⟩⟩, hj⟩ : ∃ q, q = readyS s.sess s.index cc ss qq uu := ⟨_, rfl⟩
  rw [← hj] at CR ht C hs2s hk ⊢
  simp only at CR ht C hs2s hk ⊢
  subst ht
  obtain ⟨ix, hix⟩ : ∃ i, i = s.index := ⟨_, rfl⟩
  rw [← hix] at CR h0 hk i1 i2 hs2i
  obtain ⟨kj, hkj⟩ : ∃ q, q = keepS j cc ⟨qq, yc, yn, yt⟩ := ⟨_, rfl⟩
  rw [← hkj]
  have HKJ := ghid hkj
  have HCC := ghid C
  have HKE := ghid hk
  have HSS := ghid hs2s
  have HII := ghid hs2i
  have HIX := ghid hix
  clear C hk hs2s hs2i hix hkj
  have HP := ghid h0
  obtain ⟨d0, d1, d2, d3, df, hpl⟩ := state_cells h0
  have hne : p ≠ w.heap.size := by omega
  have hne' : w.heap.size ≠ p := by omega
  have hne2 : p ≠ w.heap.size + 1 := by omega
  have hne2' : w.heap.size + 1 ≠ p := by omega
  have hne3 : p ≠ w.heap.size + 1 + 1 := by omega
  have hne4 : p ≠ w.heap.size + 2 := by omega
  have hpl1 : p < w.heap.size + 1 := by omega
  have hpl2 : p < w.heap.size + 1 + 1 := by omega
  have HB0 : Hid (Below w.heap.size w ((w.alloc (.cells #[.int .i64 kk, .int .i64 cc, .int .i64 ss, .int .i64 qq, .int .i64 uu, .int .i64 ok, .string aa, .string bb, .int .i64 nn] 67)).alloc (.cells #[.int .i64 0, .int .i64 0, .string ⟨#[]⟩] 73))) := ((Below.refl w.heap.size w).alloc (Nat.le_refl _) _).alloc (by simp) _
  clear h0 h1 h2 h3 hj hr
  go_enter Tryz.func98, Tryz.ntmps98
  go_upto_region 1 with fail
  go_cut [5, 6, 7] (fun al ptr td wx => ∃ (vo : Option Addr) (vc bx : Nat), al = .slice vo j.length vc ∧ ptr = .pointer (some ⟨bx, 0, none⟩) ∧ td = .bool true ∧ wx.heap[bx]? = some (.cells #[.int .i64 rc, .int .i64 rn, .string rt] 73 (0, 0)) ∧ w.heap.size + 2 ≤ bx ∧ SessR wx wx.heap.size (.slice vo j.length vc) j ∧ Below (w.heap.size + 2) ((w.alloc (.cells #[.int .i64 kk, .int .i64 cc, .int .i64 ss, .int .i64 qq, .int .i64 uu, .int .i64 ok, .string aa, .string bb, .int .i64 nn] 67)).alloc (.cells #[.int .i64 0, .int .i64 0, .string ⟨#[]⟩] 73)) wx)
  case first =>
    have hpW := behind HP.out (Below.refl _ _) HB0.out
    obtain ⟨hrW, hcW⟩ := two_newB (Below.refl (w.heap.size + 2) ((w.alloc (.cells #[.int .i64 kk, .int .i64 cc, .int .i64 ss, .int .i64 qq, .int .i64 uu, .int .i64 ok, .string aa, .string bb, .int .i64 nn] 67)).alloc (.cells #[.int .i64 0, .int .i64 0, .string ⟨#[]⟩] 73)))
    obtain ⟨a0, a1, a2, a3, af, hplW⟩ := state_cells hpW
    obtain ⟨m0, m1, m2, m3, m4, m5, m6, m7, m8, hmlW⟩ := cmd_cells hcW
    obtain ⟨W0, hW0⟩ : ∃ W0, W0 = (w.alloc (.cells #[.int .i64 kk, .int .i64 cc, .int .i64 ss, .int .i64 qq, .int .i64 uu, .int .i64 ok, .string aa, .string bb, .int .i64 nn] 67)).alloc (.cells #[.int .i64 0, .int .i64 0, .string ⟨#[]⟩] 73) := ⟨_, rfl⟩
    have hzW : W0.heap.size = w.heap.size + 2 := by rw [hW0]; simp
    rw [← hW0] at a0 a3 m0 m1 m2 m3 m4 m5 m6 m7 m8 HB0 hplW hmlW hpW hcW ⊢
    have HZ := ghid hzW
    have hx1 : W0.heap.size ≠ p := by omega
    have hx2 : W0.heap.size ≠ w.heap.size := by omega
    have HPW := ghid hpW
    have HCW := ghid hcW
    have HW0 := ghid hW0
    clear hpW hrW hcW a1 a2 af hW0 d0 d1 d2 d3 df hzW
    go_region_held3 (fun w' => w'.cell? ⟨p, 0, none⟩ = some (.int .i64 ix) ∧ w'.cell? ⟨p, 3, none⟩ = some (.slice so sn sc) ∧ w'.cell? ⟨w.heap.size, 0, none⟩ = some (.int .i64 kk) ∧ w'.cell? ⟨w.heap.size, 1, none⟩ = some (.int .i64 cc) ∧ w'.cell? ⟨w.heap.size, 2, none⟩ = some (.int .i64 ss) ∧ w'.cell? ⟨w.heap.size, 3, none⟩ = some (.int .i64 qq) ∧ w'.cell? ⟨w.heap.size, 4, none⟩ = some (.int .i64 uu) ∧ w'.cell? ⟨w.heap.size, 5, none⟩ = some (.int .i64 ok) ∧ w'.cell? ⟨w.heap.size, 6, none⟩ = some (.string aa) ∧ w'.cell? ⟨w.heap.size, 7, none⟩ = some (.string bb) ∧ w'.cell? ⟨w.heap.size, 8, none⟩ = some (.int .i64 nn)) (go_keep)
      (first
        | (go_at_call 27; refine (CR.out _ (by first | exact HB0.out.drew | exact (HB0.out.alloc (by have := HZ.out; omega) _).drew)).mono ?_; rintro e w2 ⟨v2, rfl, hs2, hb2⟩; have hp2 := behind HPW.out (by first | exact (Below.refl _ _).drew | exact ((Below.refl _ _).alloc (Nat.le_refl _) _).drew) hb2; have hc2 := behind HCW.out (by first | exact (Below.refl _ _).drew | exact ((Below.refl _ _).alloc (Nat.le_refl _) _).drew) hb2; obtain ⟨v0, v1, v2, v3, vf, hvl⟩ := state_cells hp2; obtain ⟨k0, k1, k2, k3, k4, k5, k6, k7, k8, hkl⟩ := cmd_cells hc2; have hz2 := hb2.size; simp at hz2; have hx3 : w2.heap.size ≠ p := (Nat.ne_of_gt hvl); have hx4 : w2.heap.size ≠ w.heap.size := (Nat.ne_of_gt hkl); obtain ⟨vo, vc, rfl⟩ := hs2.slice; try (with_reducible have hn2 := behind (heap_alloc_new W0 (.cells #[.int .i64 0, .int .i64 0, .string ⟨#[]⟩] 73)) ((Below.refl _ _).drew) hb2; obtain ⟨n0, n1, n2, nf, hnl⟩ := reply_cells hn2)))
    all_goals
      go_wp2
      go_meet
      refine ⟨vo, vc, _, rfl, rfl, rfl, ?_⟩
      rw [← HW0.out, ← HZ.out]
      first
        | (have hb3 : Below W0.heap.size W0 w2 := ((Below.refl _ _).drew).trans (hb2.mono (by simp))
           with_reducible exact ⟨heap_alloc_new w2 _, hb3.size, (hs2.below ((Below.refl _ _).alloc (Nat.le_refl _) _) (Nat.le_refl _)).mono (by simp), hb3.alloc hb3.size _⟩)
        | (have hb3 : Below W0.heap.size W0 w2 := (((Below.refl _ _).alloc (Nat.le_refl _) (.cells #[.int .i64 0, .int .i64 0, .string ⟨#[]⟩] 73)).drew).trans (hb2.mono (by simp))
           have g8 : (((w2.setCell ⟨W0.heap.size, 0, none⟩ (.int .i64 rc)).setCell ⟨W0.heap.size, 1, none⟩ (.int .i64 rn)).setCell ⟨W0.heap.size, 2, none⟩ (.string rt)).heap[W0.heap.size]? = some (.cells #[.int .i64 rc, .int .i64 rn, .string rt] 73 (0, 0)) := by rw [heap_set (heap_set (heap_set hn2 _) _) _]; rfl
           have ht8 := touch_reply (r := W0.heap.size) (TouchG.refl w2 (fun b => b = W0.heap.size)) (Or.inl rfl) (.int .i64 rc) (.int .i64 rn) (.string rt)
           exact ⟨g8, Nat.le_refl _, (hs2.touch (Nat.le_refl _) ht8 (fun g _ e => e ▸ foreign_reply hn2)).mono ht8.size, ((hb3.setCell (Nat.le_refl _) _).setCell (Nat.le_refl _) _).setCell (Nat.le_refl _) _⟩)
  case rest =>
    obtain ⟨vo, vc, bx, rfl, rfl, rfl, hgx, hbx, hsx, hbw⟩ := hcut
    have hbw0 : Below w.heap.size w wc := HB0.out.trans (hbw.mono (by omega))
    have hpx := behind HP.out (Below.refl _ _) hbw0
    obtain ⟨hrx, hcx⟩ := two_newB hbw
    obtain ⟨e0, e1, e2, e3, ef, hplx⟩ := state_cells hpx
    obtain ⟨r0, r1, r2, rf, hrlx⟩ := reply_cells hrx
    obtain ⟨b0, b1, b2, bf, hblx⟩ := reply_cells hgx
    obtain ⟨m0, m1, m2, m3, m4, m5, m6, m7, m8, hmlx⟩ := cmd_cells hcx
    have K1 := (HS.out.below hbw0).setSess hsx
    have KT := (TouchG.of_below hbw0 (Nat.le_refl _) (fun b => b = p)).setCell (a := ⟨p, 3, none⟩) (Or.inl rfl) (.slice vo j.length vc)
    have n1 : bx ≠ p := by omega
    have n2 : p ≠ bx := by omega
    have n3 : bx ≠ w.heap.size + 1 := by omega
    have n4 : w.heap.size + 1 ≠ bx := by omega
    have n5 : bx ≠ w.heap.size := by omega
    have n6 : w.heap.size ≠ bx := by omega
    have HC := ghid (HCC.out _ K1)
    have hp1 : (wc.setCell ⟨p, 3, none⟩ (.slice vo j.length vc)).heap[p]? = some (.cells #[.int .i64 ix, .slice lo ln lc, .slice po pn pc, .slice vo j.length vc] 48 (0, 0)) := by rw [heap_set hpx]; rfl
    have key : ∀ b, b ≠ p → (wc.setCell ⟨p, 3, none⟩ (.slice vo j.length vc)).heap[b]? = wc.heap[b]? := fun b hb => heap_setCell_other _ _ _ _ (by simpa using hb)
    have hg1 := (key bx n1).trans hgx
    have hr1 := (key _ hne2').trans hrx
    have hc1 := (key _ hne').trans hcx
    have hz1 : (wc.setCell ⟨p, 3, none⟩ (.slice vo j.length vc)).heap.size = wc.heap.size := by simp
    have HG1 := ghid hg1
    have HR1 := ghid hr1
    have HC1 := ghid hc1
    have HT1 := ghid KT
    clear hgx hsx hbw hbw0 hpx hrx hcx K1 KT key hg1 hr1 hc1 hp1
    go_wp2_with fail
    refine HC.out.mono ?_
    rintro e w3 ⟨rfl, hs3, ht3⟩
    have hg3 := (ht3.block bx (by rw [hz1]; exact hblx) n1).trans HG1.out
    have hr3 := (ht3.block _ (by rw [hz1]; exact hrlx) hne2').trans HR1.out
    have hc3 := (ht3.block _ (by rw [hz1]; exact hmlx) hne').trans HC1.out
    obtain ⟨K3, hg4⟩ := hs3.reply hg3 n1 yc yn yt
    have KT4 := touch_reply (r := bx) (HT1.out.trans ht3 (fun _ _ h => h)) (Or.inr (by omega)) (.int .i64 yc) (.int .i64 yn) (.string yt)
    have key : ∀ b, b ≠ bx → (((w3.setCell ⟨bx, 0, none⟩ (.int .i64 yc)).setCell ⟨bx, 1, none⟩ (.int .i64 yn)).setCell ⟨bx, 2, none⟩ (.string yt)).heap[b]? = w3.heap[b]? := fun b hb => by
      rw [heap_setCell_other _ _ _ _ (by simpa using hb), heap_setCell_other _ _ _ _ (by simpa using hb), heap_setCell_other _ _ _ _ (by simpa using hb)]
    have hr4 := (key _ n4).trans hr3
    have hc4 := (key _ n6).trans hc3
    obtain ⟨t0, t1, t2, tf, htl⟩ := reply_cells hg3
    obtain ⟨W4, hW4⟩ : ∃ W4, W4 = ((w3.setCell ⟨bx, 0, none⟩ (.int .i64 yc)).setCell ⟨bx, 1, none⟩ (.int .i64 yn)).setCell ⟨bx, 2, none⟩ (.string yt) := ⟨_, rfl⟩
    rw [← hW4] at K3 hg4 KT4 hr4 hc4
    have HS4 := ghid K3
    have HT4 := ghid KT4
    obtain ⟨lo, po, so, ln, lc, pn, pc, sn, sc, h40, h41, h42, h43⟩ := K3
    rw [HSS.out] at h43
    rw [HII.out] at h40
    have CK := ghid (fun (W : World) (hb : Below W4.heap.size W4 W) => Keep_any (.slice so sn sc) j (ix + 1) cc qq yc yn yt W W4.heap.size (h43.below hb (Nat.le_refl _)) hb.size hyt)
    rw [HKE.out] at CK
    simp only [if_true] at CK
    rw [← HKJ.out] at CK
    have HG4 := ghid hg4
    have HR4 := ghid hr4
    have HP4 := ghid h40
    have HC4 := ghid hc4
    have HW4 := ghid hW4
    clear e0 e1 e2 e3 ef r0 r1 r2 rf b0 b1 b2 bf m0 m1 m2 m3 m4 m5 m6 m7 m8 HC HG1 HR1 HC1
    obtain ⟨e0, e1, e2, e3, ef, hpl4⟩ := state_cells h40
    obtain ⟨r0, r1, r2, rf, hrl4⟩ := reply_cells hr4
    obtain ⟨b0, b1, b2, bf, hbl4⟩ := reply_cells hg4
    obtain ⟨m0, m1, m2, m3, m4, m5, m6, m7, m8, hml4⟩ := cmd_cells hc4
    have hwi : IntKind.i64.wrap (ix + 1) = ix + 1 := by rw [IntKind.wrap_i64]; omega
    clear hs3 ht3 hg3 hr3 hc3 hg4 KT4 key hr4 hc4 hW4 h40 h41 h42 h43
    go_upto_region 6 with fail
    rw [← HW4.out]
    clear t0 t1 t2 tf
    refine wp_region_held_drew (S := CallS p w.heap.size bx ix cc qq yc yn yt) (by kernel_rfl) ⟨e0, m1, m3, b0, b1, b2⟩ (fun hHeld => ?_)
    refine' wpAnyH_take (i := 0) (oi := { dst := some 38, op := Go.Op.move (Go.Operand.tmp 0), type := 133, pos := "machine.go:108", after := #[], guard := none }) (v := _) rfl (by kernel_rfl) (by kernel_rfl) (by kernel_rfl) (fun _ _ _ h => h) (Or.inl ⟨by rfl, ?hy1⟩) (by assumption) ?rest1
    case hy1 =>
      intro wy hSy
      clear hSy
      go_simp
      try rfl
    simp only [Act.put, List.setIfInBounds_toArray, List.set_cons_zero, List.set_cons_succ]
    refine' wpAnyH_take (i := 1) (oi := { dst := some 39, op := Go.Op.move (Go.Operand.tmp 0), type := 133, pos := "machine.go:108", after := #[], guard := none }) (v := _) rfl (by kernel_rfl) (by kernel_rfl) (by kernel_rfl) (fun _ _ _ h => h) (Or.inl ⟨by rfl, ?hy2⟩) (by assumption) ?rest2
    case hy2 =>
      intro wy hSy
      clear hSy
      go_simp
      try rfl
    simp only [Act.put, List.setIfInBounds_toArray, List.set_cons_zero, List.set_cons_succ]
    refine' wpAnyH_take (i := 2) (oi := { dst := some 40, op := Go.Op.nilCheck (Go.Operand.tmp 39), type := 0, pos := "machine.go:108", after := #[{ on := 1, ground := Go.Ground.data }], guard := none }) (v := _) rfl (by kernel_rfl) (by kernel_rfl) (by kernel_rfl) (fun _ _ _ h => h) (Or.inl ⟨by rfl, ?hy3⟩) (by assumption) ?rest3
    case hy3 =>
      intro wy hSy
      clear hSy
      go_simp
      try rfl
    simp only [Act.put, List.setIfInBounds_toArray, List.set_cons_zero, List.set_cons_succ]
    refine' wpAnyH_take (i := 3) (oi := { dst := some 41, op := Go.Op.fieldAddr 48 (Go.Operand.tmp 40) 3, type := 0, pos := "machine.go:108", after := #[{ on := 2, ground := Go.Ground.data }], guard := none }) (v := _) rfl (by kernel_rfl) (by kernel_rfl) (by kernel_rfl) (fun _ _ _ h => h) (Or.inl ⟨by rfl, ?hy4⟩) (by assumption) ?rest4
    case hy4 =>
      intro wy hSy
      clear hSy
      go_simp
      try rfl
    simp only [Act.put, List.setIfInBounds_toArray, List.set_cons_zero, List.set_cons_succ]
    refine' wpAnyH_take (i := 5) (oi := { dst := some 43, op := Go.Op.move (Go.Operand.tmp 0), type := 133, pos := "machine.go:108", after := #[], guard := none }) (v := _) rfl (by kernel_rfl) (by kernel_rfl) (by kernel_rfl) (fun _ _ _ h => h) (Or.inl ⟨by rfl, ?hy5⟩) (by assumption) ?rest5
    case hy5 =>
      intro wy hSy
      clear hSy
      go_simp
      try rfl
    simp only [Act.put, List.setIfInBounds_toArray, List.set_cons_zero, List.set_cons_succ]
    refine' wpAnyH_take (i := 6) (oi := { dst := some 44, op := Go.Op.nilCheck (Go.Operand.tmp 43), type := 0, pos := "machine.go:108", after := #[{ on := 5, ground := Go.Ground.data }], guard := none }) (v := _) rfl (by kernel_rfl) (by kernel_rfl) (by kernel_rfl) (fun _ _ _ h => h) (Or.inl ⟨by rfl, ?hy6⟩) (by assumption) ?rest6
    case hy6 =>
      intro wy hSy
      clear hSy
      go_simp
      try rfl
    simp only [Act.put, List.setIfInBounds_toArray, List.set_cons_zero, List.set_cons_succ]
    refine' wpAnyH_take (i := 7) (oi := { dst := some 45, op := Go.Op.fieldAddr 48 (Go.Operand.tmp 44) 0, type := 0, pos := "machine.go:108", after := #[{ on := 6, ground := Go.Ground.data }], guard := none }) (v := _) rfl (by kernel_rfl) (by kernel_rfl) (by kernel_rfl) (fun _ _ _ h => h) (Or.inl ⟨by rfl, ?hy7⟩) (by assumption) ?rest7
    case hy7 =>
      intro wy hSy
      clear hSy
      go_simp
      try rfl
    simp only [Act.put, List.setIfInBounds_toArray, List.set_cons_zero, List.set_cons_succ]
    refine' wpAnyH_take (i := 8) (oi := { dst := some 46, op := Go.Op.load 3 (Go.Operand.tmp 45), type := 3, pos := "machine.go:108", after := #[{ on := 7, ground := Go.Ground.data }], guard := none }) (v := _) rfl (by kernel_rfl) (by kernel_rfl) (by kernel_rfl) (fun _ _ _ h => h) (Or.inl ⟨by rfl, ?hy8⟩) (by assumption) ?rest8
    case hy8 =>
      intro wy hSy
      have SS := hSy
      obtain ⟨s0, s1, s2, s3, s4, s5⟩ := SS
      clear hSy
      go_simp
      try rfl
    simp only [Act.put, List.setIfInBounds_toArray, List.set_cons_zero, List.set_cons_succ]
    refine' wpAnyH_take (i := 9) (oi := { dst := some 47, op := Go.Op.binOp Go.BinOp.add 3 (Go.Operand.tmp 46) (Go.Operand.const (Go.Value.int Go.IntKind.i64 1)) 3, type := 3, pos := "machine.go:108", after := #[{ on := 8, ground := Go.Ground.data }], guard := none }) (v := _) rfl (by kernel_rfl) (by kernel_rfl) (by kernel_rfl) (fun _ _ _ h => h) (Or.inl ⟨by rfl, ?hy9⟩) (by assumption) ?rest9
    case hy9 =>
      intro wy hSy
      clear hSy
      go_simp
      try rfl
    simp only [Act.put, List.setIfInBounds_toArray, List.set_cons_zero, List.set_cons_succ]
    refine' wpAnyH_take (i := 10) (oi := { dst := some 48, op := Go.Op.fieldAddr 67 (Go.Operand.tmp 3) 1, type := 0, pos := "machine.go:108", after := #[], guard := none }) (v := _) rfl (by kernel_rfl) (by kernel_rfl) (by kernel_rfl) (fun _ _ _ h => h) (Or.inl ⟨by rfl, ?hy10⟩) (by assumption) ?rest10
    case hy10 =>
      intro wy hSy
      clear hSy
      go_simp
      try rfl
    simp only [Act.put, List.setIfInBounds_toArray, List.set_cons_zero, List.set_cons_succ]
    refine' wpAnyH_take (i := 11) (oi := { dst := some 49, op := Go.Op.load 3 (Go.Operand.tmp 48), type := 3, pos := "machine.go:108", after := #[{ on := 10, ground := Go.Ground.data }], guard := none }) (v := _) rfl (by kernel_rfl) (by kernel_rfl) (by kernel_rfl) (fun _ _ _ h => h) (Or.inl ⟨by rfl, ?hy11⟩) (by assumption) ?rest11
    case hy11 =>
      intro wy hSy
      have SS := hSy
      obtain ⟨s0, s1, s2, s3, s4, s5⟩ := SS
      clear hSy
      go_simp
      try rfl
    simp only [Act.put, List.setIfInBounds_toArray, List.set_cons_zero, List.set_cons_succ]
    refine' wpAnyH_take (i := 12) (oi := { dst := some 50, op := Go.Op.fieldAddr 67 (Go.Operand.tmp 3) 3, type := 0, pos := "machine.go:108", after := #[], guard := none }) (v := _) rfl (by kernel_rfl) (by kernel_rfl) (by kernel_rfl) (fun _ _ _ h => h) (Or.inl ⟨by rfl, ?hy12⟩) (by assumption) ?rest12
    case hy12 =>
      intro wy hSy
      clear hSy
      go_simp
      try rfl
    simp only [Act.put, List.setIfInBounds_toArray, List.set_cons_zero, List.set_cons_succ]
    refine' wpAnyH_take (i := 13) (oi := { dst := some 51, op := Go.Op.load 3 (Go.Operand.tmp 50), type := 3, pos := "machine.go:108", after := #[{ on := 12, ground := Go.Ground.data }], guard := none }) (v := _) rfl (by kernel_rfl) (by kernel_rfl) (by kernel_rfl) (fun _ _ _ h => h) (Or.inl ⟨by rfl, ?hy13⟩) (by assumption) ?rest13
    case hy13 =>
      intro wy hSy
      have SS := hSy
      obtain ⟨s0, s1, s2, s3, s4, s5⟩ := SS
      clear hSy
      go_simp
      try rfl
    simp only [Act.put, List.setIfInBounds_toArray, List.set_cons_zero, List.set_cons_succ]
    refine' wpAnyH_take (i := 14) (oi := { dst := some 52, op := Go.Op.load 73 (Go.Operand.tmp 6), type := 73, pos := "machine.go:108", after := #[], guard := none }) (v := _) rfl (by kernel_rfl) (by kernel_rfl) (by kernel_rfl) (fun _ _ _ h => h) (Or.inl ⟨by rfl, ?hy14⟩) (by assumption) ?rest14
    case hy14 =>
      intro wy hSy
      have SS := hSy
      obtain ⟨s0, s1, s2, s3, s4, s5⟩ := SS
      clear hSy
      go_simp
      try rfl
    simp only [Act.put, List.setIfInBounds_toArray, List.set_cons_zero, List.set_cons_succ]
    refine wpAnyH_ready (rs := [4]) (by kernel_rfl) (by simp) ?_
    refine AllReadyH.cons (o := { dst := some 42, op := Go.Op.load 46 (Go.Operand.tmp 41), type := 46, pos := "machine.go:108", after := #[{ on := 3, ground := Go.Ground.data }], guard := none }) rfl (fun K hK => ?_) AllReadyH.nil
    go_simp
    refine hK.out _ _ hHeld (fun hHeld => ?_)
    clear hK K
    try simp only [Act.put, List.setIfInBounds_toArray, List.set_cons_zero, List.set_cons_succ]
    refine wpAnyH_ready (rs := [15]) (by kernel_rfl) (by simp) ?_
    refine AllReadyH.cons (o := { dst := some 53, op := Go.Op.call { callee := Go.Callee.value (Go.Operand.func 142), args := #[Go.Operand.tmp 42, Go.Operand.tmp 47, Go.Operand.tmp 49, Go.Operand.tmp 51, Go.Operand.tmp 52], argTypes := #[46, 3, 3, 3, 73] }, type := 70, pos := "machine.go:108", after := #[{ on := 4, ground := Go.Ground.data }, { on := 9, ground := Go.Ground.data }, { on := 11, ground := Go.Ground.data }, { on := 13, ground := Go.Ground.data }, { on := 14, ground := Go.Ground.data }], guard := none }) rfl (fun K hK => ?_) AllReadyH.nil
    go_simp
    refine (CK.out _ ((Below.refl _ _).drew)).mono ?_
    rintro e w5 ⟨v5, rfl, hs5, hb5⟩
    have hp5 := behind HP4.out ((Below.refl _ _).drew) hb5
    have hr5 := behind HR4.out ((Below.refl _ _).drew) hb5
    have hg5 := behind HG4.out ((Below.refl _ _).drew) hb5
    have hc5 := behind HC4.out ((Below.refl _ _).drew) hb5
    obtain ⟨f0, f1, f2, f3, ff, hpl5⟩ := state_cells hp5
    obtain ⟨u0, u1, u2, uf, hul5⟩ := reply_cells hr5
    obtain ⟨g0, g1, g2, gf, hgl5⟩ := reply_cells hg5
    obtain ⟨k0, k1, k2, k3, k4, k5, k6, k7, k8, hkl5⟩ := cmd_cells hc5
    obtain ⟨vo5, vc5, rfl⟩ := hs5.slice
    have HS5 : CallS p w.heap.size bx ix cc qq yc yn yt w5 := ⟨f0, k1, k3, g0, g1, g2⟩
    refine hK.out _ _ HS5 (fun hHeld => ?_)
    clear hK K
    try simp only [Act.put, List.setIfInBounds_toArray, List.set_cons_zero, List.set_cons_succ]
    refine' wpAnyH_take (i := 16) (oi := { dst := some 37, op := Go.Op.move (Go.Operand.tmp 53), type := 70, pos := "machine.go:108", after := #[{ on := 15, ground := Go.Ground.data }], guard := none }) (v := _) rfl (by kernel_rfl) (by kernel_rfl) (by kernel_rfl) (fun _ _ _ h => h) (Or.inl ⟨by rfl, ?hy15⟩) (by assumption) ?rest15
    case hy15 =>
      intro wy hSy
      clear hSy
      go_simp
      try rfl
    simp only [Act.put, List.setIfInBounds_toArray, List.set_cons_zero, List.set_cons_succ]
    refine' wpAnyH_take (i := 17) (oi := { dst := some 54, op := Go.Op.extract (Go.Operand.tmp 37) 0, type := 46, pos := "machine.go:108", after := #[{ on := 16, ground := Go.Ground.data }], guard := none }) (v := _) rfl (by kernel_rfl) (by kernel_rfl) (by kernel_rfl) (fun _ _ _ h => h) (Or.inl ⟨by rfl, ?hy16⟩) (by assumption) ?rest16
    case hy16 =>
      intro wy hSy
      clear hSy
      go_simp
      try rfl
    simp only [Act.put, List.setIfInBounds_toArray, List.set_cons_zero, List.set_cons_succ]
    refine' wpAnyH_take (i := 18) (oi := { dst := some 55, op := Go.Op.extract (Go.Operand.tmp 37) 1, type := 33, pos := "machine.go:108", after := #[{ on := 16, ground := Go.Ground.data }, { on := 21, ground := Go.Ground.gcOnly Go.Departure.lateStores }], guard := none }) (v := _) rfl (by kernel_rfl) (by kernel_rfl) (by kernel_rfl) (fun _ _ _ h => h) (Or.inl ⟨by rfl, ?hy17⟩) (by assumption) ?rest17
    case hy17 =>
      intro wy hSy
      clear hSy
      go_simp
      try rfl
    simp only [Act.put, List.setIfInBounds_toArray, List.set_cons_zero, List.set_cons_succ]
    refine' wpAnyH_take (i := 19) (oi := { dst := some 56, op := Go.Op.nilCheck (Go.Operand.tmp 38), type := 0, pos := "machine.go:108", after := #[{ on := 0, ground := Go.Ground.data }, { on := 0, ground := Go.Ground.phase }, { on := 1, ground := Go.Ground.phase }, { on := 2, ground := Go.Ground.phase }, { on := 3, ground := Go.Ground.phase }, { on := 4, ground := Go.Ground.phase }, { on := 5, ground := Go.Ground.phase }, { on := 6, ground := Go.Ground.phase }, { on := 7, ground := Go.Ground.phase }, { on := 8, ground := Go.Ground.phase }, { on := 9, ground := Go.Ground.phase }, { on := 10, ground := Go.Ground.phase }, { on := 11, ground := Go.Ground.phase }, { on := 12, ground := Go.Ground.phase }, { on := 13, ground := Go.Ground.phase }, { on := 14, ground := Go.Ground.phase }, { on := 15, ground := Go.Ground.phase }, { on := 16, ground := Go.Ground.phase }, { on := 17, ground := Go.Ground.phase }, { on := 18, ground := Go.Ground.textOnly Go.Departure.lateStores }], guard := none }) (v := _) rfl (by kernel_rfl) (by kernel_rfl) (by kernel_rfl) (fun _ _ _ h => h) (Or.inl ⟨by rfl, ?hy18⟩) (by assumption) ?rest18
    case hy18 =>
      intro wy hSy
      clear hSy
      go_simp
      try rfl
    simp only [Act.put, List.setIfInBounds_toArray, List.set_cons_zero, List.set_cons_succ]
    refine' wpAnyH_take (i := 20) (oi := { dst := some 57, op := Go.Op.fieldAddr 48 (Go.Operand.tmp 56) 3, type := 0, pos := "machine.go:108", after := #[{ on := 19, ground := Go.Ground.data }, { on := 0, ground := Go.Ground.phase }, { on := 1, ground := Go.Ground.phase }, { on := 2, ground := Go.Ground.phase }, { on := 3, ground := Go.Ground.phase }, { on := 4, ground := Go.Ground.phase }, { on := 5, ground := Go.Ground.phase }, { on := 6, ground := Go.Ground.phase }, { on := 7, ground := Go.Ground.phase }, { on := 8, ground := Go.Ground.phase }, { on := 9, ground := Go.Ground.phase }, { on := 10, ground := Go.Ground.phase }, { on := 11, ground := Go.Ground.phase }, { on := 12, ground := Go.Ground.phase }, { on := 13, ground := Go.Ground.phase }, { on := 14, ground := Go.Ground.phase }, { on := 15, ground := Go.Ground.phase }, { on := 16, ground := Go.Ground.phase }, { on := 17, ground := Go.Ground.phase }, { on := 18, ground := Go.Ground.textOnly Go.Departure.lateStores }], guard := none }) (v := _) rfl (by kernel_rfl) (by kernel_rfl) (by kernel_rfl) (fun _ _ _ h => h) (Or.inl ⟨by rfl, ?hy19⟩) (by assumption) ?rest19
    case hy19 =>
      intro wy hSy
      clear hSy
      go_simp
      try rfl
    simp only [Act.put, List.setIfInBounds_toArray, List.set_cons_zero, List.set_cons_succ]
    refine wpAnyH_ready (rs := [21]) (by kernel_rfl) (by simp) ?_
    refine AllReadyH.cons (o := { dst := none, op := Go.Op.store 46 (Go.Operand.tmp 57) (Go.Operand.tmp 54), type := 0, pos := "machine.go:108", after := #[{ on := 20, ground := Go.Ground.data }, { on := 17, ground := Go.Ground.data }, { on := 15, ground := Go.Ground.chain }, { on := 0, ground := Go.Ground.phase }, { on := 1, ground := Go.Ground.phase }, { on := 2, ground := Go.Ground.phase }, { on := 3, ground := Go.Ground.phase }, { on := 4, ground := Go.Ground.phase }, { on := 5, ground := Go.Ground.phase }, { on := 6, ground := Go.Ground.phase }, { on := 7, ground := Go.Ground.phase }, { on := 8, ground := Go.Ground.phase }, { on := 9, ground := Go.Ground.phase }, { on := 10, ground := Go.Ground.phase }, { on := 11, ground := Go.Ground.phase }, { on := 12, ground := Go.Ground.phase }, { on := 13, ground := Go.Ground.phase }, { on := 14, ground := Go.Ground.phase }, { on := 15, ground := Go.Ground.phase }, { on := 16, ground := Go.Ground.phase }, { on := 17, ground := Go.Ground.phase }, { on := 18, ground := Go.Ground.textOnly Go.Departure.lateStores }], guard := none }) rfl (fun K hK => ?_) AllReadyH.nil
    go_simp
    have HS6 : CallS p w.heap.size bx ix cc qq yc yn yt (w5.setCell ⟨p, 3, none⟩ (.slice vo5 kj.length vc5)) := by
      obtain ⟨s0, s1, s2, s3, s4, s5⟩ := HS5
      exact ⟨(World.cell?_setCell_other _ _ _ _ (by simp)).trans s0, (World.cell?_setCell_far _ _ _ _ (by simpa using hne)).trans s1, (World.cell?_setCell_far _ _ _ _ (by simpa using hne)).trans s2, (World.cell?_setCell_far _ _ _ _ (by simpa using n2)).trans s3, (World.cell?_setCell_far _ _ _ _ (by simpa using n2)).trans s4, (World.cell?_setCell_far _ _ _ _ (by simpa using n2)).trans s5⟩
    refine hK.out _ _ HS6 (fun hHeld => ?_)
    clear hK K
    try simp only [Act.put, List.setIfInBounds_toArray, List.set_cons_zero, List.set_cons_succ]
    refine wpAnyH_done (by kernel_rfl) ?_ _
    clear HS5 HS6 hHeld
    have hb5' : Below W4.heap.size W4 w5 := ((Below.refl _ _).drew).trans (hb5.mono (by simp))
    have K6 := (HS4.out.below hb5').setSess hs5
    have hr6 : (w5.setCell ⟨p, 3, none⟩ (.slice vo5 kj.length vc5)).heap[w.heap.size + 1]? = some (.cells #[.int .i64 0, .int .i64 0, .string ⟨#[]⟩] 73 (0, 0)) := (Below.heap_setCell _ _ _ _ (by simpa using hne2')).trans hr5
    have KT6 := (HT4.out.trans (TouchG.of_below hb5' (Nat.le_refl _) (fun _ => False)) (fun _ _ h => h.elim)).setCell (a := ⟨p, 3, none⟩) (Or.inl rfl) (.slice vo5 kj.length vc5)
    have KF := ghid (K6.reply hr6 hne2' yc yn yt).1
    have HT := ghid (touch_reply (r := w.heap.size + 1) KT6 (Or.inr (by omega)) (.int .i64 yc) (.int .i64 yn) (.string yt))
    clear hb5 hb5' hs5 hp5 hr5 hg5 hc5 K6 hr6 KT6 k0 k1 k2 k3 k4 k5 k6 k7 k8
    go_wp2
    refine bodyPost_ret (v := .agg #[.int .i64 yc, .int .i64 yn, .string yt]) (by simp [results, Tryz.results98, go_sem, u0, u1, u2]) rfl ⟨rfl, ?_, ?_⟩
    · exact KF.out
    · exact HT.out

end Go.Proofs.YtijilhbdbeajjaaGreatDoor
