/- CustomersAsk, walked. (Written by gen_ask.py.) (joined by program) -/
import Derived.Deep.RegionHeld3
import Derived.Deep.DeepCutAuto
import Derived.Test.YtcjoekjjebcomalDoorCA32
namespace Go.Proofs.YtcjoekjjebcomalDoor

open Go.RowKit

/-- A command's block, read. -/
theorem nine_cells {w : World} {q : Nat} {x0 x1 x2 x3 x4 x5 x6 x7 x8 : Value} {t : TypeId} (h : w.heap[q]? = some (.cells #[x0, x1, x2, x3, x4, x5, x6, x7, x8] t (0, 0))) : w.cell? ⟨q, 0, none⟩ = some x0 ∧ w.cell? ⟨q, 2, none⟩ = some x2 ∧ w.cell? ⟨q, 3, none⟩ = some x3 ∧ w.cell? ⟨q, 4, none⟩ = some x4 :=
  ⟨cells_of h 0, cells_of h 2, cells_of h 3, cells_of h 4⟩

set_option maxRecDepth 100000 in
set_option maxHeartbeats 16000000 in
theorem customersAsk_walk (a0 : Int) (v : Value) (a2 : Int) (w : World) (f0 : -9223372036854775808 ≤ a0 ∧ a0 ≤ 9223372036854775807) (f2 : -9223372036854775808 ≤ a2 ∧ a2 ≤ 9223372036854775807) :
    Calls Tryd.prog 3 #[.int .i64 a0, v, .int .i64 a2] w fun e w' => e = .returned (.bool true) ∧ Below w.heap.size w w' := by
  have hp0 := pickZ_bd a0 9 (by omega)
  have hp2 := pickZ_bd a2 9 (by omega)
  have hp4 := pickZ_bd a2 4 (by omega)
  have CP0 := ghid (fun u => picked_any a0 9 u f0.1 f0.2 (by omega) (by omega))
  have CP2 := ghid (fun u => picked_any a2 9 u f2.1 f2.2 (by omega) (by omega))
  have CP4 := ghid (fun u => picked_any a2 4 u f2.1 f2.2 (by omega) (by omega))
  obtain ⟨p, hpe⟩ : ∃ z, z = pickZ a0 9 := ⟨_, rfl⟩
  obtain ⟨pk, hpk⟩ : ∃ z, z = pickZ a2 9 := ⟨_, rfl⟩
  obtain ⟨p4, hpq⟩ : ∃ z, z = pickZ a2 4 := ⟨_, rfl⟩
  rw [← hpe] at hp0 CP0
  rw [← hpk] at hp2 CP2
  rw [← hpq] at hp4 CP4
  obtain ⟨hp0a, hp0b⟩ := hp0
  obtain ⟨hp4a, hp4b⟩ := hp4
  have hI : 1 ≤ (1 + p) ∧ (1 + p) ≤ 9 := by omega
  have CN := ghid (fun u => New_ok (1 + p) u hI)
  have CS0 := ghid (fun u => Start_bad (.agg #[.int .i64 (1 + p), .int .i64 0, .int .i64 1, .slice none 0 0]) ⟨(1 + p), 0, 1, []⟩ 4 0 ⟨#[97]⟩ ⟨#[]⟩ u u.heap.size ⟨_, rfl, WaitsR.nil _ _⟩ (Nat.le_refl _) (by decide) (by decide) (by rw [new_start hI]; decide))
  rw [new_start hI] at CS0
  have CH0 := ghid (fun u => Hello_ok (.agg #[.int .i64 (1 + p), .int .i64 0, .int .i64 1, .slice none 0 0]) ⟨(1 + p), 0, 1, []⟩ u u.heap.size ⟨_, rfl, WaitsR.nil _ _⟩ (Nat.le_refl _) (new_good hI).check)
  have CJ := ghid (fun u => askJoin hI u)
  have CDH := ghid (fun u => askHello hI u)
  obtain ⟨th, hth⟩ : ∃ z, z = strOfNums [1, (1 + p)] := ⟨_, rfl⟩
  rw [← hth] at CDH
  simp only [← hth] at CH0
  have HA0 := ghid (new_hear hI).2.2
  have hpk1 : -9223372036854775808 ≤ pk ∧ pk ≤ 9223372036854775807 := by omega
  have HPK := ghid hpk1
  clear hpe hpk hpq hth hp2 hpk1 hI
  go_enter Tryd.func3, Tryd.ntmps3
  go_wp2_with fail
  refine (CP0.out _).mono ?_
  rintro e u0 ⟨rfl, hu0⟩
  rw [hu0]
  clear hu0 u0
  go_wp2_with fail
  refine (CN.out _).mono ?_
  rintro e w1 ⟨rfl, hb1⟩
  have HB1 : Hid (Below w.heap.size w (w1.alloc (.cells #[.int .i64 (1 + p), .int .i64 0, .int .i64 1, .slice none 0 0] 25))) := hb1.alloc hb1.size _
  have hw1 : w.heap.size ≤ w1.heap.size := hb1.size
  have HQ1 := ghid (heap_alloc_new w1 (.cells #[.int .i64 (1 + p), .int .i64 0, .int .i64 1, .slice none 0 0] 25))
  clear hb1 CN CP0
  go_wp2_with fail
  refine (CS0.out _).mono ?_
  rintro e w2 ⟨rfl, hb2⟩
  have hq2 := behind HQ1.out (Below.refl _ _) hb2
  have hz2 : w1.heap.size < w2.heap.size := (Array.getElem?_eq_some_iff.1 hq2).1
  have HB2 : Hid (Below w.heap.size w (w2.alloc (.cells #[.int .i64 0, .int .i64 0, .int .i64 0, .slice none 0 0] 25))) := (HB1.out.trans (hb2.mono HB1.out.size)).alloc (by have := HB1.out.size; have := hb2.size; omega) _
  have HQ2 : Hid ((w2.alloc (.cells #[.int .i64 0, .int .i64 0, .int .i64 0, .slice none 0 0] 25)).heap[w1.heap.size]? = some (.cells #[.int .i64 (1 + p), .int .i64 0, .int .i64 1, .slice none 0 0] 25 (0, 0))) := (Below.heap_alloc w2 _ _ hz2).trans hq2
  obtain ⟨c0, c1, c2, c3, cf, cl⟩ := state_cells hq2
  clear hb2 hq2 CS0
  go_wp2_with fail
  refine (CH0.out _).mono ?_
  rintro e w3 ⟨rfl, hb3⟩
  have hq3 := behind HQ2.out (Below.refl _ _) hb3
  have HB3 := ghid (HB2.out.trans (hb3.mono HB2.out.size))
  have HQ3 := ghid hq3
  clear c0 c1 c2 c3 cf cl
  obtain ⟨c0, c1, c2, c3, cf, cl⟩ := state_cells hq3
  clear hb3 hq3 CH0
  go_wp2_with fail
  refine (CJ.out _).mono ?_
  rintro e w4 ⟨vo0, vc0, rfl, hr4, hb4⟩
  have hq4 := behind HQ3.out (Below.refl _ _) hb4
  have HQ4 := ghid hq4
  have HR4 := ghid hr4
  have HB4 := ghid (HB3.out.trans (hb4.mono HB3.out.size))
  clear c0 c1 c2 c3 cf
  obtain ⟨c0, c1, c2, c3, cf, cl⟩ := state_cells hq4
  clear hb4 hq4 hr4 CJ
  go_wp2_with fail
  go_loopw [56] (fun iv wr => ∃ (k m vc : Nat) (c : CustD) (vo : Option Addr), k ≤ 8 ∧ m ≤ 4 ∧ (k < 4 → m = k) ∧ (4 ≤ k → m = 4) ∧ iv = .int .i64 k ∧ AskC (1 + p) m c ∧ ModestW c.waits ∧ wr.heap[w1.heap.size]? = some (.cells #[.int .i64 (1 + p), .int .i64 5, .int .i64 ((m : Int) + 1), .slice vo m vc] 25 (0, 0)) ∧ wr.ownsRow (w1.heap.size + 1) 55 5 (.slice vo m vc) m (flatG waitCells c.waits) ∧ Below w.heap.size w wr ∧ w1.heap.size < wr.heap.size) (fun i _ => 8 - (intOf i).toNat)
  case atStart =>
    refine ⟨0, 0, vc0, ⟨(1 + p), 5, 1, []⟩, vo0, by omega, by omega, fun _ => rfl, fun h => absurd h (by omega), rfl, HA0.out, fun x hx => absurd hx (by simp), set4c HQ4.out _ _ _ _, ?_, zset4 HB4.out hw1 _ _ _ _, by simp; omega⟩
    exact row_put4 (grow_mono HR4.out (by omega)) HQ4.out _ _ _ _
  case round =>
    clear c0 c1 c2 c3 cf cl HQ4 HR4 HB4 HQ3 HB3 HQ2 HB2
    obtain ⟨k, m, vc, c, vo, hk, hm4, hkm, hk4, rfl, hask, hmod, hq, hrow, hb, hlt⟩ := hrel
    have HQ := ghid hq
    have HROW := ghid hrow
    have HASK := ghid hask
    have HMOD := ghid hmod
    have HB := ghid hb
    obtain ⟨c0, c1, c2, c3, cf, cl⟩ := state_cells hq
    clear hq hrow hask hmod hb
    by_cases hk8 : k < 8
    · have hk8i : (k : Int) < 8 := by omega
      have CO := ghid (fun u => askOp pk k hk u HPK.out)
      obtain ⟨okk, hokk⟩ : ∃ z, z = opK (pickZ pk 9) := ⟨_, rfl⟩
      obtain ⟨nm, hnm⟩ : ∃ z, z = nameK (k : Int) := ⟨_, rfl⟩
      rw [← hokk, ← hnm] at CO
      clear hokk hnm
      by_cases hlt4 : k < 4
      · have hmk : m = k := hkm hlt4
        subst hmk
        have hk4i : (m : Int) < 4 := by omega
        have CS := ghid (fun u (hu : Below wr.heap.size wr u) kk n a b (ho : opE kk a b n = 0) ha hb => askStart_ok HASK.out HMOD.out kk n a b u (base := w1.heap.size + 1) (grow_below HROW.out hu (Nat.le_refl _)) ho ha hb hlt4)
        clear hkm hk4 CDH CP4
        go_upto_region 8 with fail
        go_cut [15, 16] (fun pv ev wx => ∃ (bx vc' : Nat) (vo' : Option Addr) (d : CustD), pv = .pointer (some ⟨bx, 0, none⟩) ∧ ev = .int .i64 0 ∧ wx.heap[bx]? = some (.cells #[.int .i64 (1 + p), .int .i64 5, .int .i64 ((m : Int) + 1 + 1), .slice vo' (m + 1) vc'] 25 (0, 0)) ∧ wr.heap.size ≤ bx ∧ AskC (1 + p) (m + 1) d ∧ ModestW d.waits ∧ wx.ownsRow (w1.heap.size + 1) 55 5 (.slice vo' (m + 1) vc') (m + 1) (flatG waitCells d.waits) ∧ Below wr.heap.size wr wx)
        case first =>
          go_region_held3 (fun w' => w'.cell? ⟨w1.heap.size, 0, none⟩ = some (.int .i64 (1 + p)) ∧ w'.cell? ⟨w1.heap.size, 1, none⟩ = some (.int .i64 5) ∧ w'.cell? ⟨w1.heap.size, 2, none⟩ = some (.int .i64 ((m : Int) + 1)) ∧ w'.cell? ⟨w1.heap.size, 3, none⟩ = some (.slice vo m vc)) (go_keep)
            (first
              | (go_at_call 5; refine (CP2.out _).mono ?_; rintro e u1 ⟨rfl, hu1⟩; rw [hu1]; clear hu1 u1)
              | (go_at_call 9; refine (CO.out _).mono ?_; rintro e w2 ⟨s, on, rfl, hoe, hna, hsa, hb2⟩; have hbw2 : Below wr.heap.size wr w2 := ((Below.refl wr.heap.size wr).drew).trans hb2; have HBW2 := ghid hbw2; have HOE := ghid hoe; have HNA := ghid hna; have HSA := ghid hsa; have hq2 := behind HQ.out (Below.refl _ _) hbw2; clear hb2 hbw2 hoe hna hsa c0 c1 c2 c3 cf; obtain ⟨c0, c1, c2, c3, cf, cl2⟩ := state_cells hq2; clear hq2; have hz2 : w1.heap.size < w2.heap.size := cl2)
              | (go_at_call 9; refine (CO.out _).mono ?_; rintro e w2 ⟨s, on, rfl, hoe, hna, hsa, hb2⟩; have hal : Below wr.heap.size wr (wr.alloc (.cells #[.int .i64 0, .int .i64 0, .int .i64 0, .slice none 0 0] 25)).drew := ((Below.refl wr.heap.size wr).alloc (Nat.le_refl _) (.cells #[.int .i64 0, .int .i64 0, .int .i64 0, .slice none 0 0] 25)).drew; have hbw2 : Below wr.heap.size wr w2 := hal.trans (hb2.mono hal.size); have HZ2 := ghid (behind (heap_alloc_new wr (.cells #[.int .i64 0, .int .i64 0, .int .i64 0, .slice none 0 0] 25)) ((Below.refl _ _).drew) hb2); have HBW2 := ghid hbw2; have HOE := ghid hoe; have HNA := ghid hna; have HSA := ghid hsa; have hq2 := behind HQ.out (Below.refl _ _) hbw2; clear hb2 hbw2 hoe hna hsa c0 c1 c2 c3 cf; obtain ⟨c0, c1, c2, c3, cf, cl2⟩ := state_cells hq2; clear hq2; have hz2 : w1.heap.size < w2.heap.size := cl2; clear hal)
              | (go_at_call 6; have hbu : Below wr.heap.size wr w2 := HBW2.out; have hcs := CS.out w2 hbu _ _ _ _ HOE.out HNA.out HSA.out; (with_reducible refine hcs.mono ?_); clear hcs; rintro e w3 ⟨d, vo', vc', rfl, hd, hdm, hr3, hb3⟩; have HD3 := ghid hd; have HM3 := ghid hdm; have HR3 := ghid hr3; have HB3 := ghid (hbu.trans (hb3.mono hbu.size)); have HZ3 := ghid (behind HZ2.out (Below.refl _ _) hb3); have hs3 := HB3.out.size; have hus := hbu.size; clear c0 c1 c2 c3 cf; obtain ⟨c0, c1, c2, c3, cf, cl3⟩ := state_cells (behind HQ.out (Below.refl _ _) HB3.out); obtain ⟨z0, z1, z2, z3, zf, zl⟩ := state_cells HZ3.out; have hn1 : w1.heap.size ≠ wr.heap.size := Nat.ne_of_lt hlt; have hn2 : wr.heap.size ≠ w1.heap.size := fun e => hn1 e.symm; clear hb3 hbu)
              | (go_at_call 6; have hbu : Below wr.heap.size wr (w2.alloc (.cells #[.int .i64 0, .int .i64 0, .int .i64 0, .slice none 0 0] 25)) := HBW2.out.alloc HBW2.out.size (.cells #[.int .i64 0, .int .i64 0, .int .i64 0, .slice none 0 0] 25); have hcs := CS.out (w2.alloc (.cells #[.int .i64 0, .int .i64 0, .int .i64 0, .slice none 0 0] 25)) hbu _ _ _ _ HOE.out HNA.out HSA.out; (with_reducible refine hcs.mono ?_); clear hcs; rintro e w3 ⟨d, vo', vc', rfl, hd, hdm, hr3, hb3⟩; have HD3 := ghid hd; have HM3 := ghid hdm; have HR3 := ghid hr3; have HB3 := ghid (hbu.trans (hb3.mono hbu.size)); have HZ3 := ghid (behind (heap_alloc_new w2 (.cells #[.int .i64 0, .int .i64 0, .int .i64 0, .slice none 0 0] 25)) (Below.refl _ _) hb3); have hs3 := HB3.out.size; have hus := hbu.size; clear c0 c1 c2 c3 cf; obtain ⟨c0, c1, c2, c3, cf, cl3⟩ := state_cells (behind HQ.out (Below.refl _ _) HB3.out); obtain ⟨z0, z1, z2, z3, zf, zl⟩ := state_cells HZ3.out; have hn1 : w1.heap.size ≠ w2.heap.size := Nat.ne_of_lt hz2; have hn2 : w2.heap.size ≠ w1.heap.size := fun e => hn1 e.symm; clear hb3 hbu)
              | (go_at_call 6; have hbu : Below wr.heap.size wr w2 := HBW2.out; have hcs := CS.out w2 hbu _ _ _ _ HOE.out HNA.out HSA.out; (with_reducible refine hcs.mono ?_); clear hcs; rintro e w3 ⟨d, vo', vc', rfl, hd, hdm, hr3, hb3⟩; have HD3 := ghid hd; have HM3 := ghid hdm; have HR3 := ghid hr3; have HB3 := ghid (hbu.trans (hb3.mono hbu.size)); have hs3 := HB3.out.size; have hus := hbu.size; clear c0 c1 c2 c3 cf; obtain ⟨c0, c1, c2, c3, cf, cl3⟩ := state_cells (behind HQ.out (Below.refl _ _) HB3.out); clear hb3 hbu))
          all_goals
            go_wp2
            go_meet
            first
              | (have hA : (((( w3.setCell ⟨wr.heap.size, 0, none⟩ (.int .i64 (1 + p))).setCell ⟨wr.heap.size, 1, none⟩ (.int .i64 5)).setCell ⟨wr.heap.size, 2, none⟩ (.int .i64 ((m : Int) + 1 + 1))).setCell ⟨wr.heap.size, 3, none⟩ (.slice vo' (m + 1) vc')).heap[wr.heap.size]? = _ := set4c HZ3.out _ _ _ _
                 have hR := row_put4 (grow_mono HR3.out (by omega : w1.heap.size + 1 ≤ _)) HZ3.out (.int .i64 (1 + p)) (.int .i64 5) (.int .i64 ((m : Int) + 1 + 1)) (.slice vo' (m + 1) vc')
                 have hB := zset4 HB3.out (Nat.le_refl wr.heap.size) (.int .i64 (1 + p)) (.int .i64 5) (.int .i64 ((m : Int) + 1 + 1)) (.slice vo' (m + 1) vc')
                 with_reducible exact ⟨wr.heap.size, vc', vo', d, rfl, rfl, hA, (Nat.le_refl wr.heap.size), HD3.out, HM3.out, hR, hB⟩)
              | (have hA : (((( w3.setCell ⟨w2.heap.size, 0, none⟩ (.int .i64 (1 + p))).setCell ⟨w2.heap.size, 1, none⟩ (.int .i64 5)).setCell ⟨w2.heap.size, 2, none⟩ (.int .i64 ((m : Int) + 1 + 1))).setCell ⟨w2.heap.size, 3, none⟩ (.slice vo' (m + 1) vc')).heap[w2.heap.size]? = _ := set4c HZ3.out _ _ _ _
                 have hR := row_put4 (grow_mono HR3.out (by omega : w1.heap.size + 1 ≤ _)) HZ3.out (.int .i64 (1 + p)) (.int .i64 5) (.int .i64 ((m : Int) + 1 + 1)) (.slice vo' (m + 1) vc')
                 have hB := zset4 HB3.out HBW2.out.size (.int .i64 (1 + p)) (.int .i64 5) (.int .i64 ((m : Int) + 1 + 1)) (.slice vo' (m + 1) vc')
                 with_reducible exact ⟨w2.heap.size, vc', vo', d, rfl, rfl, hA, HBW2.out.size, HD3.out, HM3.out, hR, hB⟩)
              | (have hA := heap_alloc_new w3 (.cells #[.int .i64 (1 + p), .int .i64 5, .int .i64 ((m : Int) + 1 + 1), .slice vo' (m + 1) vc'] 25)
                 have hR := (grow_mono HR3.out (by omega : w1.heap.size + 1 ≤ _)).alloc (.cells #[.int .i64 (1 + p), .int .i64 5, .int .i64 ((m : Int) + 1 + 1), .slice vo' (m + 1) vc'] 25)
                 have hB := HB3.out.alloc HB3.out.size (.cells #[.int .i64 (1 + p), .int .i64 5, .int .i64 ((m : Int) + 1 + 1), .slice vo' (m + 1) vc'] 25)
                 have hs := HB3.out.size
                 with_reducible exact ⟨w3.heap.size, vc', vo', d, rfl, rfl, hA, hs, HD3.out, HM3.out, hR, hB⟩)
        case rest =>
          obtain ⟨bx, vc', vo', d, rfl, rfl, hbx, hbl, hd, hdm, hdr, hbw⟩ := hcut
          have HQX := ghid (behind HQ.out (Below.refl _ _) hbw)
          have HD := ghid hd
          have HDM := ghid hdm
          have HDR := ghid hdr
          have HBX := ghid (HB.out.trans (hbw.mono HB.out.size))
          clear c0 c1 c2 c3 cf
          obtain ⟨x0, x1, x2, x3, xf, xl⟩ := state_cells hbx
          obtain ⟨c0, c1, c2, c3, cf, cl'⟩ := state_cells HQX.out
          have hn1 : bx ≠ w1.heap.size := by omega
          have hn2 : w1.heap.size ≠ bx := by omega
          clear hbx hd hdm hdr hbw CS CO HROW HQ HMOD HASK HB hlt4
          go_wp2
          go_roundw
          case rel => exact ⟨m + 1, m + 1, vc', d, vo', by omega, by omega, fun _ => rfl, fun h => by omega, by go_num, HD.out, HDM.out, set4c HQX.out _ _ _ _, row_put4 HDR.out HQX.out _ _ _ _, zset4 HBX.out hw1 _ _ _ _, by simp; omega⟩
          case measure => simp [intOf]; omega
      · have hmk : m = 4 := hk4 (by omega)
        subst hmk
        have hk4i : ¬ (k : Int) < 4 := by omega
        have CS := ghid (fun u (hu : Below wr.heap.size wr u) kk n a b (ho : opE kk a b n = 0) ha hb => askStart_full HASK.out HMOD.out kk n a b u (base := w1.heap.size + 1) (grow_below HROW.out hu (Nat.le_refl _)) ho ha hb)
        clear hkm hk4 CDH CP4
        go_upto_region 8 with fail
        go_cut [15, 16] (fun pv ev wx => ∃ (bx : Nat), pv = .pointer (some ⟨bx, 0, none⟩) ∧ ev = .int .i64 8 ∧ wx.heap[bx]? = some (.cells #[.int .i64 0, .int .i64 0, .int .i64 0, .slice none 0 0] 25 (0, 0)) ∧ wr.heap.size ≤ bx ∧ Below wr.heap.size wr wx)
        case first =>
          go_region_held3 (fun w' => w'.cell? ⟨w1.heap.size, 0, none⟩ = some (.int .i64 (1 + p)) ∧ w'.cell? ⟨w1.heap.size, 1, none⟩ = some (.int .i64 5) ∧ w'.cell? ⟨w1.heap.size, 2, none⟩ = some (.int .i64 5) ∧ w'.cell? ⟨w1.heap.size, 3, none⟩ = some (.slice vo 4 vc)) (go_keep)
            (first
              | (go_at_call 5; refine (CP2.out _).mono ?_; rintro e u1 ⟨rfl, hu1⟩; rw [hu1]; clear hu1 u1)
              | (go_at_call 9; refine (CO.out _).mono ?_; rintro e w2 ⟨s, on, rfl, hoe, hna, hsa, hb2⟩; have hbw2 : Below wr.heap.size wr w2 := ((Below.refl wr.heap.size wr).drew).trans hb2; have HBW2 := ghid hbw2; have HOE := ghid hoe; have HNA := ghid hna; have HSA := ghid hsa; have hq2 := behind HQ.out (Below.refl _ _) hbw2; clear hb2 hbw2 hoe hna hsa c0 c1 c2 c3 cf; obtain ⟨c0, c1, c2, c3, cf, cl2⟩ := state_cells hq2; clear hq2; have hz2 : w1.heap.size < w2.heap.size := cl2)
              | (go_at_call 9; refine (CO.out _).mono ?_; rintro e w2 ⟨s, on, rfl, hoe, hna, hsa, hb2⟩; have hal : Below wr.heap.size wr (wr.alloc (.cells #[.int .i64 0, .int .i64 0, .int .i64 0, .slice none 0 0] 25)).drew := ((Below.refl wr.heap.size wr).alloc (Nat.le_refl _) (.cells #[.int .i64 0, .int .i64 0, .int .i64 0, .slice none 0 0] 25)).drew; have hbw2 : Below wr.heap.size wr w2 := hal.trans (hb2.mono hal.size); have HZ2 := ghid (behind (heap_alloc_new wr (.cells #[.int .i64 0, .int .i64 0, .int .i64 0, .slice none 0 0] 25)) ((Below.refl _ _).drew) hb2); have HBW2 := ghid hbw2; have HOE := ghid hoe; have HNA := ghid hna; have HSA := ghid hsa; have hq2 := behind HQ.out (Below.refl _ _) hbw2; clear hb2 hbw2 hoe hna hsa c0 c1 c2 c3 cf; obtain ⟨c0, c1, c2, c3, cf, cl2⟩ := state_cells hq2; clear hq2; have hz2 : w1.heap.size < w2.heap.size := cl2; clear hal)
              | (go_at_call 6; have hbu : Below wr.heap.size wr w2 := HBW2.out; have hcs := CS.out w2 hbu _ _ _ _ HOE.out HNA.out HSA.out; (with_reducible refine hcs.mono ?_); clear hcs; rintro e w3 ⟨rfl, hb3⟩; have HB3 := ghid (hbu.trans (hb3.mono hbu.size)); have HZ3 := ghid (behind HZ2.out (Below.refl _ _) hb3); have hs3 := HB3.out.size; have hus := hbu.size; clear c0 c1 c2 c3 cf; obtain ⟨c0, c1, c2, c3, cf, cl3⟩ := state_cells (behind HQ.out (Below.refl _ _) HB3.out); obtain ⟨z0, z1, z2, z3, zf, zl⟩ := state_cells HZ3.out; have hn1 : w1.heap.size ≠ wr.heap.size := Nat.ne_of_lt hlt; have hn2 : wr.heap.size ≠ w1.heap.size := fun e => hn1 e.symm; clear hb3 hbu)
              | (go_at_call 6; have hbu : Below wr.heap.size wr (w2.alloc (.cells #[.int .i64 0, .int .i64 0, .int .i64 0, .slice none 0 0] 25)) := HBW2.out.alloc HBW2.out.size (.cells #[.int .i64 0, .int .i64 0, .int .i64 0, .slice none 0 0] 25); have hcs := CS.out (w2.alloc (.cells #[.int .i64 0, .int .i64 0, .int .i64 0, .slice none 0 0] 25)) hbu _ _ _ _ HOE.out HNA.out HSA.out; (with_reducible refine hcs.mono ?_); clear hcs; rintro e w3 ⟨rfl, hb3⟩; have HB3 := ghid (hbu.trans (hb3.mono hbu.size)); have HZ3 := ghid (behind (heap_alloc_new w2 (.cells #[.int .i64 0, .int .i64 0, .int .i64 0, .slice none 0 0] 25)) (Below.refl _ _) hb3); have hs3 := HB3.out.size; have hus := hbu.size; clear c0 c1 c2 c3 cf; obtain ⟨c0, c1, c2, c3, cf, cl3⟩ := state_cells (behind HQ.out (Below.refl _ _) HB3.out); obtain ⟨z0, z1, z2, z3, zf, zl⟩ := state_cells HZ3.out; have hn1 : w1.heap.size ≠ w2.heap.size := Nat.ne_of_lt hz2; have hn2 : w2.heap.size ≠ w1.heap.size := fun e => hn1 e.symm; clear hb3 hbu)
              | (go_at_call 6; have hbu : Below wr.heap.size wr w2 := HBW2.out; have hcs := CS.out w2 hbu _ _ _ _ HOE.out HNA.out HSA.out; (with_reducible refine hcs.mono ?_); clear hcs; rintro e w3 ⟨rfl, hb3⟩; have HB3 := ghid (hbu.trans (hb3.mono hbu.size)); have hs3 := HB3.out.size; have hus := hbu.size; clear c0 c1 c2 c3 cf; obtain ⟨c0, c1, c2, c3, cf, cl3⟩ := state_cells (behind HQ.out (Below.refl _ _) HB3.out); clear hb3 hbu))
          all_goals
            go_wp2
            go_meet
            first
              | (have hA : (((( w3.setCell ⟨wr.heap.size, 0, none⟩ (.int .i64 0)).setCell ⟨wr.heap.size, 1, none⟩ (.int .i64 0)).setCell ⟨wr.heap.size, 2, none⟩ (.int .i64 0)).setCell ⟨wr.heap.size, 3, none⟩ (.slice none 0 0)).heap[wr.heap.size]? = _ := set4c HZ3.out _ _ _ _
                 have hB := zset4 HB3.out (Nat.le_refl wr.heap.size) (.int .i64 0) (.int .i64 0) (.int .i64 0) (.slice none 0 0)
                 with_reducible exact ⟨wr.heap.size, rfl, rfl, hA, (Nat.le_refl wr.heap.size), hB⟩)
              | (have hA : (((( w3.setCell ⟨w2.heap.size, 0, none⟩ (.int .i64 0)).setCell ⟨w2.heap.size, 1, none⟩ (.int .i64 0)).setCell ⟨w2.heap.size, 2, none⟩ (.int .i64 0)).setCell ⟨w2.heap.size, 3, none⟩ (.slice none 0 0)).heap[w2.heap.size]? = _ := set4c HZ3.out _ _ _ _
                 have hB := zset4 HB3.out HBW2.out.size (.int .i64 0) (.int .i64 0) (.int .i64 0) (.slice none 0 0)
                 with_reducible exact ⟨w2.heap.size, rfl, rfl, hA, HBW2.out.size, hB⟩)
              | (have hA := heap_alloc_new w3 (.cells #[.int .i64 0, .int .i64 0, .int .i64 0, .slice none 0 0] 25)
                 have hB := HB3.out.alloc HB3.out.size (.cells #[.int .i64 0, .int .i64 0, .int .i64 0, .slice none 0 0] 25)
                 have hs := HB3.out.size
                 with_reducible exact ⟨w3.heap.size, rfl, rfl, hA, hs, hB⟩)
        case rest =>
          obtain ⟨bx, rfl, rfl, hbx, hbl, hbw⟩ := hcut
          have HQX := ghid (behind HQ.out (Below.refl _ _) hbw)
          have HDR := ghid (grow_below HROW.out hbw (Nat.le_refl _))
          have HBX := ghid (HB.out.trans (hbw.mono HB.out.size))
          have hwx := hbw.size
          clear hbx hbw CS CO HROW HQ HB hlt4 c0 c1 c2 c3 cf
          go_wp2
          go_roundw
          case rel => exact ⟨k + 1, 4, vc, c, vo, by omega, by omega, fun h => by omega, fun _ => rfl, by go_num, HASK.out, HMOD.out, HQX.out, HDR.out, HBX.out, by omega⟩
          case measure => simp [intOf]; omega
    · have hke : k = 8 := by omega
      subst hke
      have hmk : m = 4 := hk4 (by omega)
      subst hmk
      obtain ⟨tr, ok, on, oa, ob, hreq, hdec⟩ := askRequest HASK.out HMOD.out p4 ⟨hp4a, hp4b⟩ wr HROW.out
      have CR := ghid hreq
      have CD := ghid hdec
      obtain ⟨d, d0, d1, d2, hh1, hh1b⟩ := askHear1 HASK.out HMOD.out wr HROW.out
      have CE1 := ghid hh1
      have CE2 := ghid hh1b
      have CE3 := ghid (fun u hu => askHear2 HASK.out HMOD.out wr HROW.out u hu)
      have CCK := ghid (fun u v B hv hB => custCheck_any v ⟨(1 + p), 0, 5, []⟩ u B hv hB)
      simp only [HASK.out.hear2.2.2] at CCK
      clear hreq hdec hh1 hh1b hkm hk4 HROW HASK HMOD CP2 HPK hk8 hk
      have HW : Hid (Below wr.heap.size wr wr.drew) := (Below.refl _ _).drew
      go_wp2_with fail
      go_region_held3 (fun w' => w'.cell? ⟨w1.heap.size, 0, none⟩ = some (.int .i64 (1 + p)) ∧ w'.cell? ⟨w1.heap.size, 1, none⟩ = some (.int .i64 5) ∧ w'.cell? ⟨w1.heap.size, 2, none⟩ = some (.int .i64 5) ∧ w'.cell? ⟨w1.heap.size, 3, none⟩ = some (.slice vo 4 vc)) (go_keep)
        (first
          | (go_at_call 5; refine (CP4.out _).mono ?_; rintro e u1 ⟨rfl, hu1⟩; rw [hu1]; clear hu1 u1)
          | (go_at_call 10; refine (CR.out _ HW.out).mono ?_; rintro e w5 ⟨rfl, hb5⟩; have HW5 := ghid (HW.out.trans (hb5.mono HW.out.size)); have Hq5 := ghid (behind HQ.out (Below.refl _ _) HW5.out); clear hb5 c0 c1 c2 c3 cf cl; obtain ⟨c0, c1, c2, c3, cf, cl⟩ := state_cells Hq5.out))
      all_goals
        go_wp2_with fail
        refine (CD.out _).mono ?_
        rintro e w6 ⟨rfl, hb6⟩
        have hq6 := behind Hq5.out (Below.refl _ _) hb6
        have HW6 : Hid (Below wr.heap.size wr (w6.alloc (.cells #[.int .i64 2, .int .i64 (1 + p), .int .i64 5, .int .i64 (1 + p4), .int .i64 0, .int .i64 ok, .string oa, .string ob, .int .i64 on] 45))) := (HW5.out.trans (hb6.mono HW5.out.size)).alloc (by have := HW5.out.size; have := hb6.size; omega) _
        have Hq6 : Hid ((w6.alloc (.cells #[.int .i64 2, .int .i64 (1 + p), .int .i64 5, .int .i64 (1 + p4), .int .i64 0, .int .i64 ok, .string oa, .string ob, .int .i64 on] 45)).heap[w1.heap.size]? = _) := (Below.heap_alloc w6 _ _ (Array.getElem?_eq_some_iff.1 hq6).1).trans hq6
        have Hx6 := ghid (heap_alloc_new w6 (.cells #[.int .i64 2, .int .i64 (1 + p), .int .i64 5, .int .i64 (1 + p4), .int .i64 0, .int .i64 ok, .string oa, .string ob, .int .i64 on] 45))
        clear c0 c1 c2 c3 cf cl
        obtain ⟨c0, c1, c2, c3, cf, cl⟩ := state_cells hq6
        clear hb6 hq6
        go_wp2_with fail
        refine (CDH.out _).mono ?_
        rintro e w7 ⟨rfl, hb7⟩
        have hq7 := behind Hq6.out (Below.refl _ _) hb7
        have hx7 := behind Hx6.out (Below.refl _ _) hb7
        have HW7 : Hid (Below wr.heap.size wr (w7.alloc (.cells #[.int .i64 1, .int .i64 (1 + p), .int .i64 0, .int .i64 0, .int .i64 0, .int .i64 0, .string ⟨#[]⟩, .string ⟨#[]⟩, .int .i64 0] 45))) := (HW6.out.trans (hb7.mono HW6.out.size)).alloc (by have := HW6.out.size; have := hb7.size; omega) _
        have Hq7 : Hid ((w7.alloc (.cells #[.int .i64 1, .int .i64 (1 + p), .int .i64 0, .int .i64 0, .int .i64 0, .int .i64 0, .string ⟨#[]⟩, .string ⟨#[]⟩, .int .i64 0] 45)).heap[w1.heap.size]? = _) := (Below.heap_alloc w7 _ _ (Array.getElem?_eq_some_iff.1 hq7).1).trans hq7
        have Hx7 : Hid ((w7.alloc (.cells #[.int .i64 1, .int .i64 (1 + p), .int .i64 0, .int .i64 0, .int .i64 0, .int .i64 0, .string ⟨#[]⟩, .string ⟨#[]⟩, .int .i64 0] 45)).heap[w6.heap.size]? = _) := (Below.heap_alloc w7 _ _ (Array.getElem?_eq_some_iff.1 hx7).1).trans hx7
        have Hy7 := ghid (heap_alloc_new w7 (.cells #[.int .i64 1, .int .i64 (1 + p), .int .i64 0, .int .i64 0, .int .i64 0, .int .i64 0, .string ⟨#[]⟩, .string ⟨#[]⟩, .int .i64 0] 45))
        clear c0 c1 c2 c3 cf cl
        obtain ⟨c0, c1, c2, c3, cf, cl⟩ := state_cells hq7
        obtain ⟨xa0, xa2, xa3, xa4⟩ := nine_cells hx7
        have xal := (Array.getElem?_eq_some_iff.1 hx7).1
        clear hb7 hq7 hx7
        go_wp2_with fail
        refine (CE1.out _ HW7.out).mono ?_
        rintro e w8 ⟨vo8, vc8, rfl, hcr8, hb8⟩
        have hq8 := behind Hq7.out (Below.refl _ _) hb8
        have hx8 := behind Hx7.out (Below.refl _ _) hb8
        have hy8 := behind Hy7.out (Below.refl _ _) hb8
        have HW8 : Hid (Below wr.heap.size wr (w8.alloc (.cells #[.int .i64 d0, .int .i64 d1, .int .i64 d2, .slice vo8 3 vc8] 25))) := (HW7.out.trans (hb8.mono HW7.out.size)).alloc (by have := HW7.out.size; have := hb8.size; omega) _
        have Hq8 : Hid ((w8.alloc (.cells #[.int .i64 d0, .int .i64 d1, .int .i64 d2, .slice vo8 3 vc8] 25)).heap[w1.heap.size]? = _) := (Below.heap_alloc w8 _ _ (Array.getElem?_eq_some_iff.1 hq8).1).trans hq8
        have Hx8 : Hid ((w8.alloc (.cells #[.int .i64 d0, .int .i64 d1, .int .i64 d2, .slice vo8 3 vc8] 25)).heap[w6.heap.size]? = _) := (Below.heap_alloc w8 _ _ (Array.getElem?_eq_some_iff.1 hx8).1).trans hx8
        have Hy8 : Hid ((w8.alloc (.cells #[.int .i64 d0, .int .i64 d1, .int .i64 d2, .slice vo8 3 vc8] 25)).heap[w7.heap.size]? = _) := (Below.heap_alloc w8 _ _ (Array.getElem?_eq_some_iff.1 hy8).1).trans hy8
        have Hd8 := ghid (heap_alloc_new w8 (.cells #[.int .i64 d0, .int .i64 d1, .int .i64 d2, .slice vo8 3 vc8] 25))
        have HCR8 := ghid (hcr8.below ((Below.refl w8.heap.size w8).alloc (Nat.le_refl _) (.cells #[.int .i64 d0, .int .i64 d1, .int .i64 d2, .slice vo8 3 vc8] 25)) (Nat.le_refl _))
        clear hcr8
        clear c0 c1 c2 c3 cf cl xa0 xa2 xa3 xa4 xal
        obtain ⟨c0, c1, c2, c3, cf, cl⟩ := state_cells hq8
        obtain ⟨xa0, xa2, xa3, xa4⟩ := nine_cells hx8
        have xal := (Array.getElem?_eq_some_iff.1 hx8).1
        obtain ⟨ya0, ya2, ya3, ya4⟩ := nine_cells hy8
        have yal := (Array.getElem?_eq_some_iff.1 hy8).1
        clear hb8 hq8 hx8 hy8
        go_wp2_with fail
        refine (CE2.out _ _ _ HCR8.out (by simp)).mono ?_
        rintro e w9 ⟨x0, x1, x2, x3, x4, x5, rfl, hb9⟩
        have hq9 := behind Hq8.out (Below.refl _ _) hb9
        have hx9 := behind Hx8.out (Below.refl _ _) hb9
        have hy9 := behind Hy8.out (Below.refl _ _) hb9
        have hd9 := behind Hd8.out (Below.refl _ _) hb9
        have HW9 : Hid (Below wr.heap.size wr (w9.alloc (.cells #[.int .i64 x0, .int .i64 x1, .int .i64 x2, .slice x3 x4 x5] 25))) := (HW8.out.trans (hb9.mono HW8.out.size)).alloc (by have := HW8.out.size; have := hb9.size; omega) _
        have Hq9 : Hid ((w9.alloc (.cells #[.int .i64 x0, .int .i64 x1, .int .i64 x2, .slice x3 x4 x5] 25)).heap[w1.heap.size]? = _) := (Below.heap_alloc w9 _ _ (Array.getElem?_eq_some_iff.1 hq9).1).trans hq9
        have Hx9 : Hid ((w9.alloc (.cells #[.int .i64 x0, .int .i64 x1, .int .i64 x2, .slice x3 x4 x5] 25)).heap[w6.heap.size]? = _) := (Below.heap_alloc w9 _ _ (Array.getElem?_eq_some_iff.1 hx9).1).trans hx9
        have Hy9 : Hid ((w9.alloc (.cells #[.int .i64 x0, .int .i64 x1, .int .i64 x2, .slice x3 x4 x5] 25)).heap[w7.heap.size]? = _) := (Below.heap_alloc w9 _ _ (Array.getElem?_eq_some_iff.1 hy9).1).trans hy9
        have Hd9 : Hid ((w9.alloc (.cells #[.int .i64 x0, .int .i64 x1, .int .i64 x2, .slice x3 x4 x5] 25)).heap[w8.heap.size]? = _) := (Below.heap_alloc w9 _ _ (Array.getElem?_eq_some_iff.1 hd9).1).trans hd9
        have He9 := ghid (heap_alloc_new w9 (.cells #[.int .i64 x0, .int .i64 x1, .int .i64 x2, .slice x3 x4 x5] 25))
        clear c0 c1 c2 c3 cf cl xa0 xa2 xa3 xa4 xal ya0 ya2 ya3 ya4 yal
        obtain ⟨c0, c1, c2, c3, cf, cl⟩ := state_cells hq9
        obtain ⟨xa0, xa2, xa3, xa4⟩ := nine_cells hx9
        have xal := (Array.getElem?_eq_some_iff.1 hx9).1
        obtain ⟨ya0, ya2, ya3, ya4⟩ := nine_cells hy9
        have yal := (Array.getElem?_eq_some_iff.1 hy9).1
        obtain ⟨dd0, dd1, dd2, dd3, ddf, ddl⟩ := state_cells hd9
        clear hb9 hq9 hx9 hy9 hd9
        go_wp2_with fail
        refine (CE3.out _ HW9.out).mono ?_
        rintro e w10 ⟨vo10, vc10, rfl, hcr10, hb10⟩
        have hq10 := behind Hq9.out (Below.refl _ _) hb10
        have hx10 := behind Hx9.out (Below.refl _ _) hb10
        have hy10 := behind Hy9.out (Below.refl _ _) hb10
        have hd10 := behind Hd9.out (Below.refl _ _) hb10
        have he10 := behind He9.out (Below.refl _ _) hb10
        have HW10 : Hid (Below wr.heap.size wr (w10.alloc (.cells #[.int .i64 (1 + p), .int .i64 0, .int .i64 5, .slice vo10 0 vc10] 25))) := (HW9.out.trans (hb10.mono HW9.out.size)).alloc (by have := HW9.out.size; have := hb10.size; omega) _
        have Hq10 : Hid ((w10.alloc (.cells #[.int .i64 (1 + p), .int .i64 0, .int .i64 5, .slice vo10 0 vc10] 25)).heap[w1.heap.size]? = _) := (Below.heap_alloc w10 _ _ (Array.getElem?_eq_some_iff.1 hq10).1).trans hq10
        have Hx10 : Hid ((w10.alloc (.cells #[.int .i64 (1 + p), .int .i64 0, .int .i64 5, .slice vo10 0 vc10] 25)).heap[w6.heap.size]? = _) := (Below.heap_alloc w10 _ _ (Array.getElem?_eq_some_iff.1 hx10).1).trans hx10
        have Hy10 : Hid ((w10.alloc (.cells #[.int .i64 (1 + p), .int .i64 0, .int .i64 5, .slice vo10 0 vc10] 25)).heap[w7.heap.size]? = _) := (Below.heap_alloc w10 _ _ (Array.getElem?_eq_some_iff.1 hy10).1).trans hy10
        have Hd10 : Hid ((w10.alloc (.cells #[.int .i64 (1 + p), .int .i64 0, .int .i64 5, .slice vo10 0 vc10] 25)).heap[w8.heap.size]? = _) := (Below.heap_alloc w10 _ _ (Array.getElem?_eq_some_iff.1 hd10).1).trans hd10
        have He10 : Hid ((w10.alloc (.cells #[.int .i64 (1 + p), .int .i64 0, .int .i64 5, .slice vo10 0 vc10] 25)).heap[w9.heap.size]? = _) := (Below.heap_alloc w10 _ _ (Array.getElem?_eq_some_iff.1 he10).1).trans he10
        have Hn10 := ghid (heap_alloc_new w10 (.cells #[.int .i64 (1 + p), .int .i64 0, .int .i64 5, .slice vo10 0 vc10] 25))
        have HCR10 := ghid (hcr10.below ((Below.refl w10.heap.size w10).alloc (Nat.le_refl _) (.cells #[.int .i64 (1 + p), .int .i64 0, .int .i64 5, .slice vo10 0 vc10] 25)) (Nat.le_refl _))
        clear hcr10
        clear c0 c1 c2 c3 cf cl xa0 xa2 xa3 xa4 xal ya0 ya2 ya3 ya4 yal dd0 dd1 dd2 dd3 ddf ddl
        obtain ⟨c0, c1, c2, c3, cf, cl⟩ := state_cells hq10
        obtain ⟨xa0, xa2, xa3, xa4⟩ := nine_cells hx10
        have xal := (Array.getElem?_eq_some_iff.1 hx10).1
        obtain ⟨ya0, ya2, ya3, ya4⟩ := nine_cells hy10
        have yal := (Array.getElem?_eq_some_iff.1 hy10).1
        obtain ⟨dd0, dd1, dd2, dd3, ddf, ddl⟩ := state_cells hd10
        obtain ⟨ee0, ee1, ee2, ee3, eef, eel⟩ := state_cells he10
        clear hb10 hq10 hx10 hy10 hd10 he10
        go_wp2_with fail
        obtain ⟨W, hWe⟩ : ∃ W, W = w10.alloc (.cells #[.int .i64 (1 + p), .int .i64 0, .int .i64 5, .slice vo10 0 vc10] 25) := ⟨_, rfl⟩
        rw [← hWe] at HW10 Hx10 Hy10 Hd10 Hn10 HCR10
        rw [← hWe]
        clear hWe c0 c1 c2 c3 cf cl xa0 xa2 xa3 xa4 xal ya0 ya2 ya3 ya4 yal dd0 dd1 dd2 dd3 ddf ddl ee0 ee1 ee2 ee3 eef eel
        obtain ⟨xa0, xa2, xa3, xa4⟩ := nine_cells Hx10.out
        obtain ⟨ya0, -, -, -⟩ := nine_cells Hy10.out
        obtain ⟨-, -, -, dd3, -, -⟩ := state_cells Hd10.out
        obtain ⟨nn0, nn1, nn2, nn3, nnf, nnl⟩ := state_cells Hn10.out
        have HWD : Hid (Below wr.heap.size wr W.drew) := HW10.out.drew
        have hnl : w10.heap.size ≤ W.heap.size := Nat.le_of_lt nnl
        have HCD := ghid (CCK.out W.drew _ w10.heap.size HCR10.out hnl)
        have hw4 : IntKind.i64.wrap (1 + p4) = 1 + p4 := by rw [IntKind.wrap_i64]; omega
        dsimp only [List.append]
        go_region_held3 (fun w' => w'.cell? ⟨w6.heap.size, 2, none⟩ = some (.int .i64 5) ∧ w'.cell? ⟨w6.heap.size, 3, none⟩ = some (.int .i64 (1 + p4)) ∧ w'.cell? ⟨w6.heap.size, 4, none⟩ = some (.int .i64 0) ∧ w'.cell? ⟨w7.heap.size, 0, none⟩ = some (.int .i64 1) ∧ w'.cell? ⟨w8.heap.size, 3, none⟩ = some (.slice vo8 3 vc8) ∧ w'.cell? ⟨w10.heap.size, 0, none⟩ = some (.int .i64 (1 + p)) ∧ w'.cell? ⟨w10.heap.size, 1, none⟩ = some (.int .i64 0) ∧ w'.cell? ⟨w10.heap.size, 2, none⟩ = some (.int .i64 5) ∧ w'.cell? ⟨w10.heap.size, 3, none⟩ = some (.slice vo10 0 vc10)) (go_keep)
          (first
            | (go_at_call 5; refine (CP4.out _).mono ?_; rintro e u1 ⟨rfl, hu1⟩; rw [hu1]; clear hu1 u1)
            | (go_at_call 12; refine HCD.out.mono ?_; rintro e w11 ⟨rfl, hb11⟩; have HF := ghid (HB.out.trans ((HWD.out.trans (hb11.mono HWD.out.size)).mono HB.out.size)); have Hx11 := ghid (behind Hx10.out ((Below.refl W.heap.size W).drew) hb11); have Hy11 := ghid (behind Hy10.out ((Below.refl W.heap.size W).drew) hb11); have Hd11 := ghid (behind Hd10.out ((Below.refl W.heap.size W).drew) hb11); have Hn11 := ghid (behind Hn10.out ((Below.refl W.heap.size W).drew) hb11); clear hb11 xa0 xa2 xa3 xa4 ya0 dd3 nn0 nn1 nn2 nn3 nnf nnl; obtain ⟨xa0, xa2, xa3, xa4⟩ := nine_cells Hx11.out; obtain ⟨ya0, -, -, -⟩ := nine_cells Hy11.out; obtain ⟨-, -, -, dd3, -, -⟩ := state_cells Hd11.out; obtain ⟨nn0, nn1, nn2, nn3, nnf, nnl⟩ := state_cells Hn11.out))
        all_goals
          go_wp2
          go_ret
          exact ⟨rfl, HF.out⟩

end Go.Proofs.YtcjoekjjebcomalDoor
