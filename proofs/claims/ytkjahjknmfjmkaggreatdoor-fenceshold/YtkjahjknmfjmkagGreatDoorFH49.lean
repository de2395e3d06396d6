/- FencesHold, walked (joined by program) -/
import Derived.Deep.RegionHeld3
import Derived.Test.YtkjahjknmfjmkagGreatDoorFH48
namespace Go.Proofs.YtkjahjknmfjmkagGreatDoor

open Go.RowKit

theorem five_cells {w : World} {p : Nat} {x0 x1 x2 x3 x4 : Value} {t : TypeId} (h : w.heap[p]? = some (.cells #[x0, x1, x2, x3, x4] t (0, 0))) :
    w.cell? ⟨p, 0, none⟩ = some x0 ∧ w.cell? ⟨p, 1, none⟩ = some x1 ∧ w.cell? ⟨p, 2, none⟩ = some x2 ∧ w.cell? ⟨p, 3, none⟩ = some x3 ∧ w.cell? ⟨p, 4, none⟩ = some x4 ∧ (∀ j, w.frozen? ⟨p, j, none⟩ = false) ∧ p < w.heap.size :=
  ⟨cells_of h 0, cells_of h 1, cells_of h 2, cells_of h 3, cells_of h 4, fun j => frozen_of_row w p j _ _ h, (Array.getElem?_eq_some_iff.1 h).1⟩

theorem one_cell {w : World} {p : Nat} {x0 : Value} {t : TypeId} (h : w.heap[p]? = some (.cells #[x0] t (0, 0))) : w.cell? ⟨p, 0, none⟩ = some x0 ∧ p < w.heap.size := ⟨cells_of h 0, (Array.getElem?_eq_some_iff.1 h).1⟩

set_option maxRecDepth 100000 in
set_option maxHeartbeats 6400000 in
theorem fencesHold_walk (v : Value) (rs : List RawD) (a1 a2 a3 : Int) (w : World) (hv : RawsR w w.heap.size v rs) (f1 : -9223372036854775808 ≤ a1 ∧ a1 ≤ 9223372036854775807) (f2 : -9223372036854775808 ≤ a2 ∧ a2 ≤ 9223372036854775807) (f3 : -9223372036854775808 ≤ a3 ∧ a3 ≤ 9223372036854775807) :
    Calls Tryz.prog 4 #[v, .int .i64 a1, .int .i64 a2, .int .i64 a3] w fun e w' => e = .returned (.bool true) ∧ Below w.heap.size w w' := by
  have CC : Hid (Calls Tryz.prog 7 #[v, .int .i64 60] w fun e w' => ∃ (vo : Value) (out : List CmdD), e = .returned vo ∧ w'.ownsRow w.heap.size 61 9 vo out.length (flatC out) ∧ out.length = min rs.length 60 ∧ (∀ x ∈ out, KeepX 60 x) ∧ Below w.heap.size w w') := commands_upto 60 (by omega) v rs w hv
  have CP1 := ghid (fun w => picked_any a1 4 w f1.1 f1.2 (by omega) (by omega))
  have CP3 := ghid (fun w => picked_any a3 4 w f3.1 f3.2 (by omega) (by omega))
  have CN := ghid (fun w => keepName_any a2 w f2.1 f2.2)
  obtain ⟨pz, hpz⟩ : ∃ pz, pz = pickZ a1 4 := ⟨_, rfl⟩
  obtain ⟨kz, hkz⟩ : ∃ kz, kz = pickZ a3 4 := ⟨_, rfl⟩
  obtain ⟨nm, hnm⟩ : ∃ nm, nm = nameK a2 := ⟨_, rfl⟩
  have hpb : 0 ≤ pz ∧ pz < 4 := by rw [hpz]; exact pickZ_bd a1 4 (by omega)
  have hkb : 0 ≤ kz ∧ kz < 4 := by rw [hkz]; exact pickZ_bd a3 4 (by omega)
  have HNM := ghid (nameK_of a2)
  rw [← hpz] at CP1
  rw [← hkz] at CP3
  rw [← hnm] at CN HNM
  obtain ⟨hpb1, hpb2⟩ := hpb
  obtain ⟨hkb1, hkb2⟩ := hkb
  obtain ⟨ao, cap, rfl, h1, h2, h3, h4⟩ := hv
  clear h3 h4 hpz hkz hnm f1 f2 f3
  go_enter Tryz.func4, Tryz.ntmps4
  go_wp2_with fail
  refine CC.out.mono ?_
  rintro e w1 ⟨vo1, out, rfl, hrow, hlen, hok, hb1⟩
  have hok' : ∀ x ∈ out, x.err = 0 := fun x hx => (hok x hx).err
  have CE := ghid (entries_any vo1 out w1 w.heap.size hrow hok' (by omega))
  have HOK := ghid hok'
  have HKX := ghid hok
  have HLEN := ghid hlen
  obtain ⟨oo, oc, rfl⟩ := crow_shape hrow
  have HB1 := ghid hb1
  clear hrow hlen hok hok' hb1 CC
  go_wp2_with fail
  refine CE.out.mono ?_
  rintro e w2 ⟨vo2, rfl, hown2, hb2⟩
  have htx := texts_reads hown2 (fun t ht => by obtain ⟨x, hx, rfl⟩ := List.mem_map.1 ht; have := cmdOut_size x (HOK.out x hx); omega) (by rw [List.length_map]; have := HLEN.out; omega) (Nat.le_refl _)
  have CA := ghid (applied_any vo2 out w2 w2.heap.size htx (Nat.le_refl _) HOK.out (by have := HLEN.out; omega))
  have hgg := runM_good out HOK.out (by have := HLEN.out; omega) out.length (Nat.le_refl _)
  have hkk := runM_keep 60 out HKX.out (by have := HLEN.out; omega) out.length (Nat.le_refl _)
  rw [List.take_length] at hgg hkk
  obtain ⟨vo2', vc2', rfl⟩ := htx.slice
  rw [List.length_map] at CA ⊢
  have HB2 := ghid (HB1.out.trans (hb2.mono HB1.out.size))
  have HGG := ghid hgg
  have HKK := ghid hkk
  obtain ⟨s, hs⟩ : ∃ s, s = runM out := ⟨_, rfl⟩
  rw [← hs] at CA HGG HKK
  clear hown2 hb2 htx hs hgg hkk CE HKX
  go_wp2_with fail
  refine CA.out.mono ?_
  rintro e w3 ⟨v3, rfl, ho3, hb3⟩
  obtain ⟨lo, po, so, ln, lc, pn, pc, sn, sc, rfl, -⟩ := id ho3
  have hb4 := (HB2.out.trans (hb3.mono HB2.out.size)).alloc (by have := HB2.out.size; have := hb3.size; omega) (.cells #[.int .i64 s.index, .slice lo ln lc, .slice po pn pc, .slice so sn sc] 27)
  have ho4 := ho3.below ((Below.refl w3.heap.size w3).alloc (Nat.le_refl _) (.cells #[.int .i64 s.index, .slice lo ln lc, .slice po pn pc, .slice so sn sc] 27))
  have hbx4 : (w3.alloc (.cells #[.int .i64 s.index, .slice lo ln lc, .slice po pn pc, .slice so sn sc] 27)).heap[w3.heap.size]? = some (.cells #[.int .i64 s.index, .slice lo ln lc, .slice po pn pc, .slice so sn sc] 27 (0, 0)) := heap_alloc_new w3 _
  obtain ⟨W4, hW4⟩ : ∃ W4, W4 = w3.alloc (.cells #[.int .i64 s.index, .slice lo ln lc, .slice po pn pc, .slice so sn sc] 27) := ⟨_, rfl⟩
  obtain ⟨p, hp⟩ : ∃ p, p = w3.heap.size := ⟨_, rfl⟩
  rw [← hW4] at hb4 ho4 hbx4
  rw [← hp] at hbx4
  have HB4 := ghid hb4
  have HW4 := ghid hW4
  have HP4 := ghid hp
  have HX4 := ghid hbx4
  obtain ⟨e0, e1, e2, e3, ef, hpl4⟩ := state_cells hbx4
  obtain ⟨lo', po', so', ln', lc', pn', pc', sn', sc', he, hl4, hp4, hs4⟩ := id ho4
  simp only [Value.agg.injEq, Array.mk.injEq, List.cons.injEq, Value.slice.injEq, and_true, true_and] at he
  obtain ⟨⟨rfl, rfl, rfl⟩, ⟨rfl, rfl, rfl⟩, ⟨rfl, rfl, rfl⟩⟩ := he
  have HL4 := ghid (hl4.reads (Nat.le_refl _))
  have HPR4 := ghid hp4
  have HS4 := ghid hs4
  have hbc : Below W4.heap.size W4 (W4.alloc (.cells #[.int .i64 (1 + pz)] 3)) := (Below.refl _ _).alloc (Nat.le_refl _) _
  have CI := ghid (fenceIndex (.slice so sn sc) s.sess (1 + pz) W4.heap.size (W4.alloc (.cells #[.int .i64 (1 + pz)] 3)) W4.heap.size (hs4.below hbc (Nat.le_refl _)) (by simp) (heap_alloc_new W4 _))
  have HBC := ghid hbc
  have HIX : Hid (s.index = min (rs.length : Int) 60) := by
    unfold Hid
    rw [HGG.out.2.2]
    have := HLEN.out
    omega
  have HSX := ghid hs4
  clear ho3 hb3 hb4 ho4 hbx4 hW4 hp CA hl4 hs4 hp4 hbc
  go_upto_region 2 with fail
  rw [← HW4.out, ← HP4.out]
  clear HW4 HP4
  go_wp2_with fail
  refine (CP1.out _).mono ?_
  rintro e w5 ⟨rfl, hw5⟩
  subst w5
  clear CP1
  go_wp2_with fail
  refine CI.out.mono ?_
  rintro e w5 ⟨rfl, hb5⟩
  have HB5 := ghid hb5
  have hcx := behind (heap_alloc_new W4 (.cells #[.int .i64 (1 + pz)] 3)) (Below.refl _ _) hb5
  have hpx := behind (behind HX4.out (Below.refl _ _) HBC.out) (Below.refl _ _) hb5
  have HCX := ghid hcx
  have HPX := ghid hpx
  have HB5' := ghid (HBC.out.trans (hb5.mono (by simp)))
  clear hb5 hcx hpx CI e0 e1 e2 e3 ef
  rcases first_or_none (fun x : SessD => x.client == 1 + pz) s.sess with ⟨k0, x, hx, hxc, hbef⟩ | hnone
  · rw [(idxI_found hx hxc hbef).1]
    have hxm := List.mem_of_getElem? hx
    have hk0 := (List.getElem?_eq_some_iff.1 hx).1
    have hxe : x.client = 1 + pz := by simpa using hxc
    obtain ⟨so1, sc1, hse, -, hsl, -, hs5⟩ := HS4.out.below HB5'.out (Nat.le_refl _)
    obtain ⟨sb, soff, rfl, hsb, hsc⟩ := hs5 (by omega)
    simp only [Value.slice.injEq] at hse
    obtain ⟨rfl, rfl, rfl⟩ := hse
    obtain ⟨lv, d0, d1, d2, d3, d4, hkr⟩ := hsc k0 x hx
    obtain ⟨ko, kc, rfl, -⟩ := id hkr
    have hfine := HGG.out.1.sess.fine x hxm
    have hrg := rangeB_iff.1 hfine.range
    have hack := HKK.out.acked x hxm
    have HFORM : Hid (formFrom x.acked x.acked x.replies = true) := hfine.form
    have HXM := ghid hxm
    have HX0 := ghid hxe
    obtain ⟨s0, hs0⟩ : ∃ s0 : SessD, s0 = x := ⟨_, rfl⟩
    have HSX0 := ghid hs0
    obtain ⟨xc, xi, xa, xt, xr⟩ := x
    simp only at d0 d1 d2 d3 d4 hkr hrg hack hxe
    subst hxe
    have hb6 : Below w5.heap.size w5 (w5.alloc (.cells #[.int .i64 (1 + pz), .int .i64 xi, .int .i64 xa, .int .i64 xt, .slice ko xr.length kc] 41)) := (Below.refl _ _).alloc (Nat.le_refl _) _
    have hx6 := heap_alloc_new w5 (.cells #[.int .i64 (1 + pz), .int .i64 xi, .int .i64 xa, .int .i64 xt, .slice ko xr.length kc] 41)
    have hp6 := behind HPX.out (Below.refl _ _) hb6
    have hc6 := behind HCX.out (Below.refl _ _) hb6
    have hB6 : Below W4.heap.size W4 (w5.alloc (.cells #[.int .i64 (1 + pz), .int .i64 xi, .int .i64 xa, .int .i64 xt, .slice ko xr.length kc] 41)) := HB5'.out.trans (hb6.mono HB5'.out.size)
    obtain ⟨t0, t1, t2, t3, tf, htl⟩ := state_cells HPX.out
    obtain ⟨W5, hW5⟩ : ∃ W5, W5 = w5.alloc (.cells #[.int .i64 (1 + pz), .int .i64 xi, .int .i64 xa, .int .i64 xt, .slice ko xr.length kc] 41) := ⟨_, rfl⟩
    obtain ⟨px, hpx⟩ : ∃ px, px = w5.heap.size := ⟨_, rfl⟩
    rw [← hW5] at hb6 hx6 hp6 hc6 hB6
    rw [← hpx] at hx6
    obtain ⟨pcx, hpcx⟩ : ∃ pcx, pcx = W4.heap.size := ⟨_, rfl⟩
    have HPCX := ghid hpcx
    have HP6 := ghid hp6
    have HC6 := ghid hc6
    have HX6 := ghid hx6
    have HB6 := ghid hB6
    have HW5 := ghid hW5
    have HPXE := ghid hpx
    have HKR := ghid (hkr.below hb6 HB5'.out.size)
    have HT6 := ghid (HB4.out.trans (hB6.mono HB4.out.size))
    have hlck : checkL s.locks = 0 := HGG.out.1.locks.check
    have CW := ghid (fun (W : World) (hb : Below W5.heap.size W5 W) => Who_ok (.slice lo ln lc) s.locks nm W W4.heap.size (HL4.out.below (HB6.out.trans (hb.mono HB6.out.size)) (Nat.le_refl _)) (by have := hb.size; have := HB6.out.size; omega) hlck)
    obtain ⟨⟨ho, fe⟩, hwho⟩ : ∃ q, q = whoL s.locks nm := ⟨_, rfl⟩
    rw [← hwho] at CW
    simp only at CW
    have HWHO := ghid hwho
    have hxrl : xr.length ≤ 4 := sformB_len (x := ⟨1 + pz, xi, xa, xt, xr⟩) HFORM.out
    clear hbef hx hxc hs5 hsc hkr hfine hxm hs0 hb6 hx6 hp6 hc6 hB6 hW5 hpx hlck hwho hpcx
    go_upto_region 7 with fail
    rw [← HW5.out, ← HPXE.out, ← HPCX.out]
    clear HW5 HPXE d0 d1 d2 d3 d4 t0 t1 t2 t3 tf htl
    obtain ⟨u0, u1, u2, u3, uf, hul⟩ := state_cells HP6.out
    go_cut [14, 15, 16] (fun hv fv ev wx => hv = .int .i64 ho ∧ fv = .int .i64 fe ∧ ev = .int .i64 0 ∧ Below W5.heap.size W5 wx)
    case first =>
      go_region_held3 (fun w' => w'.cell? ⟨p, 1, none⟩ = some (.slice lo ln lc)) (go_keep)
        (first
          | (go_at_call 17; refine (CN.out _).mono ?_; rintro e w6 ⟨rfl, hb6⟩; have hq6 := behind HP6.out ((Below.refl _ _).drew) hb6; obtain ⟨y0, y1, y2, y3, -, hyl⟩ := state_cells hq6; have hz6 := ((Below.refl W5.heap.size W5).drew).trans (hb6.mono (Nat.le_refl _)))
          | (go_at_call 16; refine (CW.out _ (by first | with_reducible exact hz6 | with_reducible exact hz6.drew)).mono ?_; rintro e w7 ⟨rfl, hb7⟩; have hq7 := behind hq6 (Below.refl _ _) hb7; obtain ⟨z0, z1, z2, z3, -, hzl⟩ := state_cells hq7; have hz7 := hz6.trans (hb7.mono hz6.size)))
      all_goals
        go_wp2
        go_meet
        exact ⟨rfl, rfl, rfl, by first | with_reducible exact hz7 | with_reducible exact hz7.drew⟩
    case rest =>
      obtain ⟨rfl, rfl, rfl, hbx⟩ := hcut
      have HBX := ghid hbx
      clear hbx u0 u1 u2 u3 uf hul
      have hxc := behind HX6.out (Below.refl _ _) HBX.out
      obtain ⟨x0, x1, x2, x3, x4, xf, hxl⟩ := five_cells hxc
      clear hxc
      go_wp2_with fail
      refine (CP3.out _).mono ?_
      rintro e w6 ⟨rfl, hw6⟩
      subst w6
      clear CP3
      go_wp2
      go_loopw [18, 81] (fun q i wr => ∃ (k : Nat) (sq : Int), k ≤ xr.length ∧ i = .int .i64 k ∧ q = .int .i64 sq ∧ xa < sq ∧ sq ≤ xa + 5 ∧ Hid (∀ y ∈ xr.take k, y.seq < sq) ∧ Below W5.heap.size W5 wr) (fun _ i _ => xr.length - (intOf i).toNat)
      case atStart => exact ⟨0, xa + 1, Nat.zero_le _, rfl, by go_num, by omega, by omega, fun y hy => by simp at hy, HBX.out⟩
      case round =>
        obtain ⟨k, sq, hk, rfl, rfl, hq1, hq2, HQ, hbr⟩ := hrel
        clear x0 x1 x2 x3 x4 xf hxl
        by_cases hlt : k < xr.length
        · obtain ⟨ko1, kc1, hke, -, -, -, hk5⟩ := HKR.out.below hbr HB6.out.size
          obtain ⟨kb, koff, rfl, hkb, hkc⟩ := hk5 (by omega)
          simp only [Value.slice.injEq] at hke
          obtain ⟨rfl, -, rfl⟩ := hke
          obtain ⟨y, hy⟩ : ∃ y, xr[k]? = some y := ⟨_, List.getElem?_eq_getElem hlt⟩
          obtain ⟨d0, d1, d2, d3, hd⟩ := hkc k y hy
          have hym := List.mem_of_getElem? hy
          have hys := formFrom_mem HFORM.out y hym
          have HN : Hid (∀ z ∈ xr.take (k + 1), z.seq < y.seq + 1) := fun z hz => by
            obtain ⟨j, hj⟩ := List.mem_iff_getElem?.1 hz
            have hjl : j < k + 1 := by have := (List.getElem?_eq_some_iff.1 hj).1; rw [List.length_take] at this; omega
            rw [List.getElem?_take_of_lt hjl] at hj
            by_cases e : j = k
            · subst e
              rw [hy] at hj
              cases hj
              omega
            · have := orderK_at (formFrom_rise HFORM.out) (by omega : j < k) hj hy
              omega
          obtain ⟨ys, yc, yn, yt⟩ := y
          simp only at d0 d1 d2 d3 hd hys HN
          obtain ⟨hy1, hy2, -⟩ := hys
          have HF := ghid (hbr.trans (((Below.refl wr.heap.size wr).alloc (Nat.le_refl _) (.cells #[.int .i64 ys, .int .i64 yc, .int .i64 yn, .string yt] 55)).mono hbr.size))
          clear hk5 hkc hy hym hbr
          go_wp2
          go_roundw
          case rel => exact ⟨k + 1, ys + 1, by omega, by go_num, by go_num, by omega, by omega, HN, HF.out⟩
          case measure => simp [intOf]; omega
        · have hke : k = xr.length := by omega
          subst hke
          rw [List.take_length] at HQ
          have HBR := ghid hbr
          have hxc := behind HX6.out (Below.refl _ _) hbr
          obtain ⟨x0, x1, x2, x3, x4, xf, hxl⟩ := five_cells hxc
          clear hbr hxc
          by_cases hroom : sq ≤ xa + 4
          · have HNQ : Hid (NextQ (⟨1 + pz, xi, xa, xt, xr⟩ : SessD) sq) := ⟨hq1, hroom, HQ.out⟩
            have herr := setC_ok (m := 60) (by omega) HGG.out.1 HKK.out (by have := HIX.out; omega) HXM.out HNQ.out (nm := nm) (isK_name HNM.out) (k := 1 + kz) (by omega) (by omega)
            have hzz := cmdOut_size _ herr
            have hall := dec_all _ herr
            have hne : nextE s (cmdOut (setC ⟨1 + pz, xi, xa, xt, xr⟩ sq nm (1 + kz))) = 0 := by
              unfold nextE
              rw [if_neg (by rw [HGG.out.1.check]; simp), if_neg (by have := HIX.out; omega)]
              exact hall.1
            have CE2 := ghid (fun W => encode_ok (setC ⟨1 + pz, xi, xa, xt, xr⟩ sq nm (1 + kz)) W herr)
            have CAp := ghid (fun (W : World) (hb : Below W5.heap.size W5 W) => Apply_own (.agg #[.int .i64 s.index, .slice lo ln lc, .slice po pn pc, .slice (some ⟨sb, soff, none⟩) s.sess.length sc]) s (cmdOut (setC ⟨1 + pz, xi, xa, xt, xr⟩ sq nm (1 + kz))) W W4.heap.size ⟨_, _, _, rfl, HL4.out.below (HB6.out.trans (hb.mono HB6.out.size)) (Nat.le_refl _), HPR4.out.below (HB6.out.trans (hb.mono HB6.out.size)) (Nat.le_refl _), HS4.out.below (HB6.out.trans (hb.mono HB6.out.size)) (Nat.le_refl _)⟩ (by have := hb.size; have := HB6.out.size; omega) (by omega) hne)
            rw [hall.2] at CAp
            obtain ⟨et, het⟩ : ∃ et, et = cmdOut (setC ⟨1 + pz, xi, xa, xt, xr⟩ sq nm (1 + kz)) := ⟨_, rfl⟩
            obtain ⟨⟨s2, ⟨rc, rn, rt⟩⟩, hs2⟩ : ∃ q, q = applyM s (setC ⟨1 + pz, xi, xa, xt, xr⟩ sq nm (1 + kz)) := ⟨_, rfl⟩
            rw [← het] at CE2 CAp
            rw [← hs2] at CAp
            simp only [setC] at CE2
            simp only at CAp
            have HS2 := ghid hs2
            clear herr hzz hall hne het hs2
            have hp8 := behind HP6.out (Below.refl _ _) HBR.out
            have hc8 := behind HC6.out (Below.refl _ _) HBR.out
            have hx8 := behind HX6.out (Below.refl _ _) HBR.out
            have HP8 := ghid hp8
            have HC8 := ghid hc8
            have HX8 := ghid hx8
            obtain ⟨v0, v0l⟩ := one_cell (by rw [HPCX.out]; exact hc8 : wr.heap[pcx]? = some _)
            clear hp8 hc8 hx8
            go_upto_region 17 with fail
            go_cut [21, 22] (fun tv ev wx => tv = .string et ∧ ev = .int .i64 0 ∧ Below W5.heap.size W5 wx)
            case first =>
              go_region_held3 (fun w' => w'.cell? ⟨pcx, 0, none⟩ = some (.int .i64 (1 + pz)) ∧ w'.cell? ⟨px, 1, none⟩ = some (.int .i64 xi) ∧ w'.cell? ⟨px, 2, none⟩ = some (.int .i64 xa)) (go_keep)
                (first
                  | (go_at_call 17; refine (CN.out _).mono ?_; rintro e w6 ⟨rfl, hb6⟩; have hq6 := behind HX8.out ((Below.refl _ _).drew) hb6; obtain ⟨y0, y1, y2, y3, y4, -, hyl⟩ := five_cells hq6; have hr6 := behind (by rw [HPCX.out]; exact HC8.out : wr.heap[pcx]? = some _) ((Below.refl _ _).drew) hb6; obtain ⟨y5, y5l⟩ := one_cell hr6; have hz6 := (HBR.out.drew).trans (hb6.mono HBR.out.size))
                  | (go_at_call 18; refine (CE2.out _).mono ?_; rintro e w7 ⟨rfl, hb7⟩; have hq7 := behind hq6 (by first | with_reducible exact Below.refl _ _ | with_reducible exact (Below.refl _ _).drew) hb7; obtain ⟨z0, z1, z2, z3, z4, -, hzl⟩ := five_cells hq7; have hr7 := behind hr6 (by first | with_reducible exact Below.refl _ _ | with_reducible exact (Below.refl _ _).drew) hb7; obtain ⟨z5, z5l⟩ := one_cell hr7; have hz7 := hz6.trans (hb7.mono hz6.size)))
              all_goals
                go_wp2
                go_meet
                exact ⟨rfl, rfl, by first | with_reducible exact hz7 | with_reducible exact hz7.drew⟩
            case rest =>
              obtain ⟨rfl, rfl, hbx⟩ := hcut
              have hp9 := behind HP6.out (Below.refl _ _) hbx
              obtain ⟨u0, u1, u2, u3, uf, hul⟩ := state_cells hp9
              have CA2 := ghid (CAp.out _ hbx)
              have HBX2 := ghid hbx
              clear hp9 hbx CAp CE2 x0 x1 x2 x3 x4 xf hxl v0 v0l HP8 HC8 HX8
              go_wp2_with fail
              refine CA2.out.mono ?_
              rintro e w7 ⟨v7, rfl, ho7, hb7⟩
              obtain ⟨lo7, po7, so7, ln7, lc7, pn7, pc7, sn7, sc7, rfl, -, hpr7, -⟩ := id ho7
              have HP7 := ghid hpr7
              have HB7 := ghid (HBX2.out.trans (hb7.mono HBX2.out.size))
              clear hpr7 ho7 hb7 CA2 u0 u1 u2 u3 uf hul
              go_upto_region 19 with fail
              obtain ⟨A8, hA8⟩ : ∃ A8, A8 = Obj.cells #[.int .i64 s2.index, .slice lo7 ln7 lc7, .slice po7 pn7 pc7, .slice so7 sn7 sc7] 27 := ⟨_, rfl⟩
              obtain ⟨R8, hR8⟩ : ∃ R8, R8 = Obj.cells #[.int .i64 rc, .int .i64 rn, .string rt] 53 := ⟨_, rfl⟩
              have h2n := two_newB (w := w7) (A := .cells #[.int .i64 s2.index, .slice lo7 ln7 lc7, .slice po7 pn7 pc7, .slice so7 sn7 sc7] 27) (R := .cells #[.int .i64 rc, .int .i64 rn, .string rt] 53) (Below.refl _ _)
              have hb8 : Below w7.heap.size w7 ((w7.alloc (.cells #[.int .i64 s2.index, .slice lo7 ln7 lc7, .slice po7 pn7 pc7, .slice so7 sn7 sc7] 27)).alloc (.cells #[.int .i64 rc, .int .i64 rn, .string rt] 53)) := ((Below.refl w7.heap.size w7).alloc (Nat.le_refl _) _).alloc (by simp) _
              obtain ⟨W8, hW8⟩ : ∃ W8, W8 = (w7.alloc (.cells #[.int .i64 s2.index, .slice lo7 ln7 lc7, .slice po7 pn7 pc7, .slice so7 sn7 sc7] 27)).alloc (.cells #[.int .i64 rc, .int .i64 rn, .string rt] 53) := ⟨_, rfl⟩
              obtain ⟨pt, hpt⟩ : ∃ pt, pt = w7.heap.size := ⟨_, rfl⟩
              obtain ⟨pr, hpr⟩ : ∃ pr, pr = w7.heap.size + 1 := ⟨_, rfl⟩
              rw [← hW8] at h2n hb8 ⊢
              rw [← hpr, ← hpt] at h2n ⊢
              have HB8 := ghid (HB7.out.trans (hb8.mono HB7.out.size))
              have HPP8 := ghid (HP7.out.below hb8 (Nat.le_refl _))
              have HPS8 := ghid (HPR4.out.below (HB6.out.trans (HB8.out.mono HB6.out.size)) (Nat.le_refl _))
              have HSS8 := ghid (HS4.out.below (HB6.out.trans (HB8.out.mono HB6.out.size)) (Nat.le_refl _))
              have HR8 := ghid h2n.1
              have HT8 := ghid h2n.2
              have HP8 := ghid (behind HP6.out (Below.refl _ _) HB8.out)
              have HC8 := ghid (behind (by rw [HPCX.out]; exact HC6.out : W5.heap[pcx]? = some _) (Below.refl _ _) HB8.out)
              have HX8 := ghid (behind HX6.out (Below.refl _ _) HB8.out)
              have HF8 := ghid (HT6.out.trans (HB8.out.mono HT6.out.size))
              have HZ8 : Hid (w7.heap.size ≤ W8.heap.size ∧ W4.heap.size ≤ W8.heap.size) := ⟨hb8.size, by have := HB6.out.size; have := HB8.out.size; omega⟩
              clear h2n hb8 hW8 hpt hpr A8 R8 hA8 hR8
              obtain ⟨u0, u1, u2, u3, uf, hul⟩ := state_cells HP8.out
              obtain ⟨t0, t1, t2, t3, tf, htl⟩ := state_cells HT8.out
              obtain ⟨x0, x1, x2, x3, x4, xf, hxl⟩ := five_cells HX8.out
              obtain ⟨r0, r1, r2, rf, hrl⟩ := reply_cells HR8.out
              obtain ⟨c0, hcl⟩ := one_cell HC8.out
              have hi0 := HGG.out.1.sess.low
              have hi1 : s.index ≤ 60 := by have := HIX.out; omega
              by_cases hfr : s.index < xt + 40
              · have hle : s.index + 1 - xt ≤ 40 := by omega
                have CC2 := ghid (cloneSess (.slice (some ⟨sb, soff, none⟩) s.sess.length sc) s.sess W8 W4.heap.size HSS8.out HZ8.out.2 (by omega))
                have hsl8 := HSS8.out.len
                have HSL8 := ghid hsl8
                clear hsl8
                go_wp2_with fail
                refine CC2.out.mono ?_
                rintro e w9 ⟨v9, rs9, rfl, hrs9, hrow9, hk9, hb9⟩
                have hl9 : rs9.length = s.sess.length := by rw [← hrs9, List.length_map]
                obtain ⟨g, cap9, rfl, hg9, hgl, hgc⟩ := grow_some hrow9 (by omega)
                have hp9 := behind HP8.out (Below.refl _ _) hb9
                have CS := ghid (fenceStill g rs9.length cap9 rs9 s p w9 W8.heap.size hrow9 rfl (by rw [hl9]; exact HSL8.out) (fun r hr => (hk9 r hr).mono (by have := hb9.size; have := HZ8.out.2; omega)) hrs9 HGG.out.1 hp9 (by omega))
                have HL9 := ghid hl9
                have HRS9 := ghid hrs9
                have HB9 := ghid hb9
                clear hrs9 hrow9 hk9 hb9 hl9 hp9 CC2 u0 u1 u2 u3 uf t0 t1 t2 t3 tf x0 x1 x2 x3 x4 xf r0 r1 r2 rf c0
                go_wp2_with fail
                refine CS.out.mono ?_
                rintro e w10 ⟨m, rfl, hm, ht10⟩
                have hb10 : Below W8.heap.size W8 w10 := HB9.out.trans (ht10.below HB9.out.size (fun k hk => by omega))
                have HB10 := ghid hb10
                have HM := ghid hm
                clear ht10 hm CS hb10
                obtain ⟨u0, u1, u2, u3, uf, hul⟩ := state_cells (behind HP8.out (Below.refl _ _) HB10.out)
                obtain ⟨t0, t1, t2, t3, tf, htl⟩ := state_cells (behind HT8.out (Below.refl _ _) HB10.out)
                obtain ⟨r0, r1, r2, rf, hrl⟩ := reply_cells (behind HR8.out (Below.refl _ _) HB10.out)
                obtain ⟨c0, hcl⟩ := one_cell (behind HC8.out (Below.refl _ _) HB10.out)
                have HF10 := ghid (HF8.out.trans (HB10.out.mono HF8.out.size))
                by_cases hall : ∀ y ∈ s.sess, freshP s.index y = true
                · have hm0 : m = 0 := by
                    rw [HM.out, List.length_eq_zero_iff, List.filter_eq_nil_iff]
                    intro r hr
                    have := hall r.1 (by rw [← HRS9.out]; exact List.mem_map.2 ⟨r, hr, rfl⟩)
                    simp [this]
                  subst hm0
                  have HALL := ghid hall
                  clear hall
                  by_cases hwh : (whoL s.locks nm).1 = 1 + pz ∧ (whoL s.locks nm).2 = 1 + kz
                  · obtain ⟨g1, g2, g3⟩ := setC_set HGG.out.1 HKK.out (by omega) HALL.out HXM.out HNQ.out HNM.out (k := 1 + kz) hwh
                    rw [← HS2.out] at g1 g2 g3
                    rw [← HWHO.out] at hwh
                    simp only at g1 g2 g3 hwh
                    subst g1
                    obtain ⟨hw1, hw2⟩ := hwh
                    subst hw1
                    subst hw2
                    have CG := ghid (fun (W : World) (hb : Below w10.heap.size w10 W) => Get_ok (.slice po7 pn7 pc7) s2.pairs nm W w7.heap.size (HPP8.out.below (HB10.out.trans (hb.mono HB10.out.size)) HZ8.out.1) (by have := hb.size; have := HB10.out.size; have := HZ8.out.1; omega) g3.check)
                    rw [g2] at CG
                    simp only [replyP] at CG
                    have HT10 := ghid (behind HT8.out (Below.refl _ _) HB10.out)
                    have HR10 := ghid (behind HR8.out (Below.refl _ _) HB10.out)
                    clear g2 g3
                    go_upto_region 28 with fail
                    clear u0 u1 u2 u3 uf hul t0 t1 t3 tf r0 r1 r2 rf hrl c0 hcl hrg hack hq1 hq2 hroom hi0 hi1 hle hfr hxrl hlt hk0 hg9 hgl hgc

                    go_cut [27, 28] (fun yv mv wx => ∃ yb, yv = .pointer (some ⟨yb, 0, none⟩) ∧ mv = .int .i64 0 ∧ wx.heap[yb]? = some (.cells #[.int .i64 0, .int .i64 rn, .string ⟨#[110, 101, 119]⟩] 53 (0, 0)) ∧ Below w10.heap.size w10 wx)
                    case first =>
                      go_region_held3 (fun w' => w'.cell? ⟨pt, 2, none⟩ = some (.slice po7 pn7 pc7)) (go_keep)
                        (first
                          | (go_at_call 17; with_reducible refine (CN.out w10.drew).mono ?_; rintro e w11 ⟨rfl, hb11⟩; have hq11 := behind HT10.out ((Below.refl _ _).drew) hb11; obtain ⟨y0, y1, y2, y3, -, hyl⟩ := state_cells hq11; have hz11 : Below w10.heap.size w10 w11 := ((Below.refl w10.heap.size w10).drew).trans (hb11.mono (Nat.le_refl _)); clear hb11)
                          | (go_at_call 17; with_reducible refine (CN.out (w10.alloc (.cells #[.int .i64 0, .int .i64 0, .string ⟨#[]⟩] 53)).drew).mono ?_; rintro e w11 ⟨rfl, hb11⟩; have hq11 := behind HT10.out (((Below.refl _ _).alloc (Nat.le_refl _) _).drew) hb11; obtain ⟨y0, y1, y2, y3, -, hyl⟩ := state_cells hq11; have hz11 : Below w10.heap.size w10 w11 := (((Below.refl w10.heap.size w10).alloc (Nat.le_refl _) (.cells #[.int .i64 0, .int .i64 0, .string ⟨#[]⟩] 53)).drew).trans (hb11.mono (by simp)); have hn11 := behind (heap_alloc_new w10 (.cells #[.int .i64 0, .int .i64 0, .string ⟨#[]⟩] 53)) ((Below.refl _ _).drew) hb11; obtain ⟨n0, n1, n2, nf, hnl⟩ := reply_cells hn11; clear hb11)
                          | (go_at_call 24; with_reducible refine (CG.out (w11.alloc (.cells #[.int .i64 0, .int .i64 0, .string ⟨#[]⟩] 53)) (hz11.alloc hz11.size _)).mono ?_; rintro e w12 ⟨rfl, hb12⟩; have hq12 := behind hq11 ((Below.refl _ _).alloc (Nat.le_refl _) _) hb12; obtain ⟨z0, z1, z2, z3, -, hzl⟩ := state_cells hq12; have hpa : pt ≠ w11.heap.size := (by omega); have hpb : w11.heap.size ≠ pt := (by omega); have hpc : pt ≠ w10.heap.size := (by omega); have hpd : w10.heap.size ≠ pt := (by omega); have hz12 : Below w10.heap.size w10 w12 := (hz11.alloc hz11.size _).trans (hb12.mono (by have := hz11.size; simp; omega)); have hn12 := behind (heap_alloc_new w11 (.cells #[.int .i64 0, .int .i64 0, .string ⟨#[]⟩] 53)) (Below.refl _ _) hb12; obtain ⟨n0, n1, n2, nf, hnl⟩ := reply_cells hn12; have hne12 : w11.heap.size ≠ w12.heap.size := (by omega); clear hb12)
                          | (go_at_call 24; with_reducible refine (CG.out w11 hz11).mono ?_; rintro e w12 ⟨rfl, hb12⟩; have hq12 := behind hq11 (Below.refl _ _) hb12; obtain ⟨z0, z1, z2, z3, -, hzl⟩ := state_cells hq12; have hpa : pt ≠ w11.heap.size := (by omega); have hpb : w11.heap.size ≠ pt := (by omega); have hpc : pt ≠ w10.heap.size := (by omega); have hpd : w10.heap.size ≠ pt := (by omega); have hz12 : Below w10.heap.size w10 w12 := hz11.trans (hb12.mono hz11.size); have hn12 := behind hn11 (Below.refl _ _) hb12; clear n0 n1 n2 nf hnl; obtain ⟨n0, n1, n2, nf, hnl⟩ := reply_cells hn12; clear hb12)
                          | (go_at_call 24; with_reducible refine (CG.out w11 hz11).mono ?_; rintro e w12 ⟨rfl, hb12⟩; have hq12 := behind hq11 (Below.refl _ _) hb12; obtain ⟨z0, z1, z2, z3, -, hzl⟩ := state_cells hq12; have hpa : pt ≠ w11.heap.size := (by omega); have hpb : w11.heap.size ≠ pt := (by omega); have hpc : pt ≠ w10.heap.size := (by omega); have hpd : w10.heap.size ≠ pt := (by omega); have hz12 : Below w10.heap.size w10 w12 := hz11.trans (hb12.mono hz11.size); clear hb12))
                      all_goals
                        go_wp2
                        go_meet
                        first
                          | with_reducible exact ⟨w12.heap.size, rfl, rfl, heap_alloc_new w12 _, hz12.alloc hz12.size _⟩
                          | (refine ⟨w11.heap.size, by with_reducible rfl, rfl, ?_, below3s hz12 hz11.size _ _ _⟩; rw [heap_set (heap_set (heap_set hn12 _) _) _]; rfl)
                          | (refine ⟨w10.heap.size, by with_reducible rfl, rfl, ?_, below3s hz12 (Nat.le_refl _) _ _ _⟩; rw [heap_set (heap_set (heap_set hn12 _) _) _]; rfl)
                    case rest =>
                      obtain ⟨yb, rfl, rfl, hyb, hbx⟩ := hcut
                      obtain ⟨y0, y1, y2, yf, hyl⟩ := reply_cells hyb
                      have hr13 := behind HR10.out (Below.refl _ _) hbx
                      have HF := ghid (HF10.out.trans (hbx.mono HF10.out.size))
                      clear t2 htl
                      obtain ⟨r0, r1, r2, rf, hrl⟩ := reply_cells hr13
                      clear hyb hbx hr13
                      go_wp2
                      go_ret
                      exact ⟨rfl, HF.out⟩
                  · obtain ⟨g1, g2, g3⟩ := setC_held HGG.out.1 HALL.out HXM.out HNQ.out (nm := nm) (k := 1 + kz) hwh
                    rw [← HS2.out] at g1 g2 g3
                    rw [← HWHO.out] at hwh g2
                    simp only at g1 g2 g3 hwh
                    subst g1
                    subst g2
                    rw [g3] at HPP8
                    have CQ := ghid (equalPairs _ _ s.pairs w10 _ _ (HPS8.out.below HB10.out HZ8.out.2) (HPP8.out.below HB10.out HZ8.out.1))
                    clear g3
                    by_cases hh : rn = 1 + pz
                    · have hh2 : fe ≠ 1 + kz := fun e => hwh ⟨hh, e⟩
                      subst hh
                      clear hwh
                      go_wp2_with fail
                      refine CQ.out.mono ?_
                      rintro e w11 ⟨rfl, n11, rfl⟩
                      have HF := ghid (HF10.out.trans (g_drewN_below _ _ n11))
                      clear CQ
                      go_wp2
                      go_ret
                      exact ⟨rfl, HF.out⟩
                    · clear hwh
                      go_wp2_with fail
                      refine CQ.out.mono ?_
                      rintro e w11 ⟨rfl, n11, rfl⟩
                      have HF := ghid (HF10.out.trans (g_drewN_below _ _ n11))
                      clear CQ
                      go_wp2
                      go_ret
                      exact ⟨rfl, HF.out⟩
                · have hm0 : 0 < m := by
                    rw [HM.out]
                    obtain ⟨y, hy⟩ := Classical.not_forall.1 hall
                    obtain ⟨hym, hyf⟩ := Classical.not_imp.1 hy
                    rw [← HRS9.out] at hym
                    obtain ⟨r, hr, rfl⟩ := List.mem_map.1 hym
                    exact List.length_pos_of_mem (List.mem_filter.2 ⟨hr, by simpa using hyf⟩)
                  have hm1 : (0 : Int) < (m : Int) := by omega
                  clear hall HM
                  go_wp2
                  go_ret
                  exact ⟨rfl, HF10.out⟩
              · have hfx : freshP s.index (⟨1 + pz, xi, xa, xt, xr⟩ : SessD) = false := by unfold freshP; simpa using hfr
                obtain ⟨g1, g2⟩ := setC_idle HGG.out.1 HXM.out hfx sq nm (1 + kz)
                rw [← HS2.out] at g1 g2
                simp only at g1 g2
                subst g1
                rw [g2] at HPP8
                have CQ := ghid (equalPairs _ _ s.pairs W8 _ _ HPS8.out HPP8.out)
                clear hfx g2
                have hgt : 40 < s.index + 1 - xt := by omega
                go_wp2_with fail
                refine CQ.out.mono ?_
                rintro e w9 ⟨rfl, n9, rfl⟩
                have HF := ghid (HF8.out.trans (g_drewN_below _ _ n9))
                clear CQ
                go_wp2
                go_ret
                exact ⟨rfl, HF.out⟩
          · have hroom' : xa + 4 < sq := by omega
            have HF := ghid (HT6.out.trans (HBR.out.mono HT6.out.size))
            go_wp2
            go_ret
            exact ⟨rfl, HF.out⟩
  · rw [(idxI_none hnone).1]
    obtain ⟨t0, t1, t2, t3, tf, htl⟩ := state_cells HPX.out
    have hix : (s.index == min (rs.length : Int) 60) = true := by rw [HIX.out]; simp
    have HF := ghid (HB4.out.trans (HB5'.out.mono HB4.out.size))
    clear hnone
    go_wp2
    go_ret
    exact ⟨rfl, HF.out⟩

end Go.Proofs.YtkjahjknmfjmkagGreatDoor
