/- LogsPut, walked, over contracts of package log (joined by program) -/
import Derived.Test.YtkmeiilnjkmkiaiDoorLP26
import Derived.Test.YtkmeiilnjkmkiaiDoorLP30
import Derived.Test.YtkmeiilnjkmkiaiDoorLP04
import Derived.Test.YtkmeiilnjkmkiaiDoorLP31
import Derived.Test.YtkmeiilnjkmkiaiDoorLP27
namespace Go.Proofs.YtkmeiilnjkmkiaiDoor

open Go.RowKit

set_option maxRecDepth 100000 in
set_option maxHeartbeats 6400000 in
theorem logsPut_walk (hC : LogC) (hBC : LogBC) (v : Value) (rs : List RawD) (v' : Value) (rs' : List RawD) (a2 : Int) (w : World) (hv : RawsR w w.heap.size v rs) (hv' : RawsR w w.heap.size v' rs') (f2 : -9223372036854775808 ≤ a2 ∧ a2 ≤ 9223372036854775807) :
    Calls Tryd.prog 3 #[v, v', .int .i64 a2] w fun e w' => e = .returned (.bool true) ∧ Below w.heap.size w w' := by
  have CC : Hid (Calls Tryd.prog 6 #[v, .int .i64 30] w fun e w' => ∃ (vo : Value) (out : List CmdD), e = .returned vo ∧ w'.ownsRow w.heap.size 45 9 vo out.length (flatC out) ∧ out.length = min rs.length 30 ∧ (∀ x ∈ out, KeepX 30 x) ∧ Below w.heap.size w w') := commands_upto 30 (by omega) v rs w hv
  have HC := ghid hC
  have HBC := ghid hBC
  have HF2 := ghid f2
  have HV' := ghid hv'
  obtain ⟨ao, cap, rfl, -⟩ := hv
  obtain ⟨ao', cap', rfl, -⟩ := hv'
  clear hC hBC f2
  go_enter Tryd.func3, Tryd.ntmps3
  go_wp2_with fail
  refine CC.out.mono ?_
  rintro e w1 ⟨vo1, out, rfl, hrow, hlen, hok, hb1⟩
  have hok' : ∀ x ∈ out, x.err = 0 := fun x hx => (hok x hx).err
  have CE := ghid (entries_any vo1 out w1 w.heap.size hrow hok' (by omega))
  have HOK := ghid hok'
  have hlen' : out.length ≤ 30 := by omega
  obtain ⟨oo, oc, rfl⟩ := crow_shape hrow
  have HB1 := ghid hb1
  clear hrow hlen hok hok' hb1 CC
  go_wp2_with fail
  refine CE.out.mono ?_
  rintro e w2 ⟨vo2, rfl, hown2, hb2⟩
  have hta := texts_reads hown2 (fun t ht => by obtain ⟨x, hx, rfl⟩ := List.mem_map.1 ht; have := cmdOut_size x (HOK.out x hx); omega) (by rw [List.length_map]; omega) (Nat.le_refl _)
  have hfa := made_first HOK.out
  have hla : (out.map cmdOut).length ≤ 30 := by rw [List.length_map]; exact hlen'
  obtain ⟨a, hae⟩ : ∃ a, a = out.map cmdOut := ⟨_, rfl⟩
  rw [← hae] at hta hfa hla
  obtain ⟨av, ac, rfl⟩ := hta.slice
  have HB2 := ghid (HB1.out.trans (hb2.mono HB1.out.size))
  have HTA := ghid hta
  have HFA := ghid hfa
  have hvr : RawsR w2 w2.heap.size (.slice ao' rs'.length cap') rs' := (HV'.out.below HB2.out (Nat.le_refl _)).mono HB2.out.size
  have CC2 : Hid (Calls Tryd.prog 6 #[.slice ao' rs'.length cap', .int .i64 10] w2 fun e w' => ∃ (vo : Value) (out : List CmdD), e = .returned vo ∧ w'.ownsRow w2.heap.size 45 9 vo out.length (flatC out) ∧ out.length = min rs'.length 10 ∧ (∀ x ∈ out, KeepX 10 x) ∧ Below w2.heap.size w2 w') := commands_upto 10 (by omega) _ rs' w2 hvr
  clear hown2 hb2 hta hfa hae CE hvr HOK
  go_wp2_with fail
  refine CC2.out.mono ?_
  rintro e w3 ⟨vo3, out3, rfl, hrow, hlen, hok, hb3⟩
  have hok' : ∀ x ∈ out3, x.err = 0 := fun x hx => (hok x hx).err
  have CE := ghid (entries_any vo3 out3 w3 w2.heap.size hrow hok' (by omega))
  have HOK := ghid hok'
  have hlen3 : out3.length ≤ 10 := by omega
  obtain ⟨oo3, oc3, rfl⟩ := crow_shape hrow
  have HB3 := ghid hb3
  clear hrow hlen hok hok' hb3 CC2
  go_wp2_with fail
  refine CE.out.mono ?_
  rintro e w4 ⟨vo4, rfl, hown4, hb4⟩
  have htb := texts_reads hown4 (fun t ht => by obtain ⟨x, hx, rfl⟩ := List.mem_map.1 ht; have := cmdOut_size x (HOK.out x hx); omega) (by rw [List.length_map]; omega) (Nat.le_refl _)
  have hfb := made_first HOK.out
  have hlb : (out3.map cmdOut).length ≤ 10 := by rw [List.length_map]; exact hlen3
  obtain ⟨b, hbe⟩ : ∃ b, b = out3.map cmdOut := ⟨_, rfl⟩
  rw [← hbe] at htb hfb hlb
  obtain ⟨bv, bc, rfl⟩ := htb.slice
  have hb24 := HB3.out.trans (hb4.mono HB3.out.size)
  have HB4 := ghid (HB2.out.trans (hb24.mono HB2.out.size))
  have HTA4 := ghid ((HTA.out.below hb24 (Nat.le_refl _)).mono hb24.size)
  have HTB4 := ghid htb
  have HFB := ghid hfb
  -- the first put
  have hp1 := put_first HFA.out (by omega)
  have CP1 := ghid (HC.out.put (.agg #[.int .i64 0, .slice none 0 0]) ⟨0, []⟩ 0 (.slice av a.length ac) a w4 w4.heap.size (LogR.nil _ _) HTA4.out (Nat.le_refl _) ⟨by omega, by omega⟩)
  rw [hp1.1, hp1.2] at CP1
  clear hown4 hb4 htb hfb hbe CE HOK hb24 HTA HB3 hp1
  go_wp2_with fail
  refine CP1.out.mono ?_
  rintro e w5 ⟨v5, rfl, hl5, hb5⟩
  obtain ⟨xo, xc, rfl, htx⟩ := hl5.shape
  simp only at htx ⊢
  have hba : Below w5.heap.size w5 (w5.alloc (.cells #[.int .i64 0, .slice xo a.length xc] 28)) := (Below.refl _ _).alloc (Nat.le_refl _) _
  have hb45 := hb5.trans (hba.mono hb5.size)
  have HX5 := ghid (heap_alloc_new w5 (.cells #[.int .i64 0, .slice xo a.length xc] 28))
  have HTX5 := ghid ((htx.below hba (Nat.le_refl _)).mono hba.size)
  have HTA5 := ghid ((HTA4.out.below hb45 (Nat.le_refl _)).mono hb45.size)
  have HTB5 := ghid ((HTB4.out.below hb45 (Nat.le_refl _)).mono hb45.size)
  have HB5 := ghid (HB4.out.trans (hb45.mono HB4.out.size))
  obtain ⟨W5, hW5⟩ : ∃ W5, W5 = w5.alloc (.cells #[.int .i64 0, .slice xo a.length xc] 28) := ⟨_, rfl⟩
  obtain ⟨px, hpx⟩ : ∃ px, px = w5.heap.size := ⟨_, rfl⟩
  rw [← hW5] at HX5 HTX5 HTA5 HTB5 HB5
  rw [← hpx] at HX5
  have HW5 := ghid hW5
  have HPX := ghid hpx
  have hpk := pickZ_bd a2 ((a.length : Int) + 1) (by omega)
  have CK := ghid (fun w => picked_any a2 ((a.length : Int) + 1) w HF2.out.1 HF2.out.2 (by omega) (by omega))
  obtain ⟨k, hk⟩ : ∃ k : Nat, (k : Int) = pickZ a2 ((a.length : Int) + 1) := ⟨(pickZ a2 ((a.length : Int) + 1)).toNat, by omega⟩
  rw [← hk] at CK hpk
  have hka : k ≤ a.length := by omega
  have hp2 := put_ok (b := b) hka HFA.out HFB.out (by omega) (by omega)
  obtain ⟨n1, n2, n3, n4, n5, n6⟩ := newL_facts (b := b) hka
  have CP2 := ghid (HC.out.put (.agg #[.int .i64 0, .slice xo a.length xc]) ⟨0, a⟩ k (.slice bv b.length bc) b W5 W5.heap.size ⟨_, rfl, HTX5.out⟩ HTB5.out (Nat.le_refl _) ⟨by omega, by omega⟩)
  rw [hp2.1, hp2.2] at CP2
  obtain ⟨y, hy⟩ : ∃ y, y = newL ⟨0, a⟩ k b := ⟨_, rfl⟩
  rw [← hy] at CP2 n1 n2 n3 n4 n5 n6
  have HFY : Hid (firstE y = 0) := firstE_zero.2 fun t ht => by
    rcases n6 t ht with h | h
    · exact firstE_zero.1 HFA.out t h
    · exact firstE_zero.1 HFB.out t h
  have N1 := ghid n1
  have N2 := ghid n2
  have N3 := ghid n3
  clear hl5 hb5 htx hba hb45 hW5 hpx hk hpk hp2 CP1 hy n1 n2 n3 n6 HTA4 HTB4
  go_upto_region 4 with fail
  rw [← HW5.out, ← HPX.out]
  clear HW5 HPX
  obtain ⟨c0, c1, hcl⟩ := two_cells HX5.out
  go_wp2_with fail
  refine (CK.out _).mono ?_
  rintro e w6 ⟨rfl, hw6⟩
  subst w6
  clear CK
  go_wp2_with fail
  refine CP2.out.mono ?_
  rintro e w6 ⟨v6, rfl, hl6, hb6⟩
  obtain ⟨yo, yc, rfl, hty⟩ := hl6.shape
  simp only at hty ⊢
  have hba : Below w6.heap.size w6 (w6.alloc (.cells #[.int .i64 0, .slice yo y.length yc] 28)) := (Below.refl _ _).alloc (Nat.le_refl _) _
  have hb56 := hb6.trans (hba.mono hb6.size)
  have HX6 := ghid (behind (behind HX5.out (Below.refl _ _) hb6) (Below.refl _ _) hba)
  have HY6 := ghid (heap_alloc_new w6 (.cells #[.int .i64 0, .slice yo y.length yc] 28))
  have HTX6 := ghid ((HTX5.out.below hb56 (Nat.le_refl _)).mono hb56.size)
  have HTY6 := ghid ((hty.below hba (Nat.le_refl _)).mono hba.size)
  have HTA6 := ghid ((HTA5.out.below hb56 (Nat.le_refl _)).mono hb56.size)
  have HTB6 := ghid ((HTB5.out.below hb56 (Nat.le_refl _)).mono hb56.size)
  have HB6 := ghid (HB5.out.trans (hb56.mono HB5.out.size))
  obtain ⟨W6, hW6⟩ : ∃ W6, W6 = w6.alloc (.cells #[.int .i64 0, .slice yo y.length yc] 28) := ⟨_, rfl⟩
  obtain ⟨py, hpy⟩ : ∃ py, py = w6.heap.size := ⟨_, rfl⟩
  rw [← hW6] at HX6 HY6 HTX6 HTY6 HTA6 HTB6 HB6
  rw [← hpy] at HY6
  have HW6 := ghid hW6
  have HPY := ghid hpy
  have hky : k ≤ y.length := by omega
  have hp3 := put_ok (b := b) hky HFY.out HFB.out (by omega) (by omega)
  rw [put_again N3.out] at hp3
  have CP3 := ghid (HC.out.put (.agg #[.int .i64 0, .slice yo y.length yc]) ⟨0, y⟩ k (.slice bv b.length bc) b W6 W6.heap.size ⟨_, rfl, HTY6.out⟩ HTB6.out (Nat.le_refl _) ⟨by omega, by omega⟩)
  rw [hp3.1, hp3.2] at CP3
  clear hl6 hb6 hty hba hb56 hW6 hpy hp3 CP2 c0 c1 hcl
  go_upto_region 6 with fail
  rw [← HW6.out, ← HPY.out]
  clear HW6 HPY
  obtain ⟨c0, c1, hcl⟩ := two_cells HY6.out
  go_wp2_with fail
  refine CP3.out.mono ?_
  rintro e w7 ⟨v7, rfl, hl7, hb7⟩
  obtain ⟨zo, zc, rfl, htz⟩ := hl7.shape
  simp only at htz ⊢
  have hba : Below w7.heap.size w7 (w7.alloc (.cells #[.int .i64 0, .slice zo y.length zc] 28)) := (Below.refl _ _).alloc (Nat.le_refl _) _
  have hb67 := hb7.trans (hba.mono hb7.size)
  have HX7 := ghid (behind (behind HX6.out (Below.refl _ _) hb7) (Below.refl _ _) hba)
  have HY7 := ghid (behind (behind HY6.out (Below.refl _ _) hb7) (Below.refl _ _) hba)
  have HZ7 := ghid (heap_alloc_new w7 (.cells #[.int .i64 0, .slice zo y.length zc] 28))
  have HTX7 := ghid ((HTX6.out.below hb67 (Nat.le_refl _)).mono hb67.size)
  have HTY7 := ghid ((HTY6.out.below hb67 (Nat.le_refl _)).mono hb67.size)
  have HTZ7 := ghid ((htz.below hba (Nat.le_refl _)).mono hba.size)
  have HTA7 := ghid ((HTA6.out.below hb67 (Nat.le_refl _)).mono hb67.size)
  have HTB7 := ghid ((HTB6.out.below hb67 (Nat.le_refl _)).mono hb67.size)
  have HB7 := ghid (HB6.out.trans (hb67.mono HB6.out.size))
  obtain ⟨W7, hW7⟩ : ∃ W7, W7 = w7.alloc (.cells #[.int .i64 0, .slice zo y.length zc] 28) := ⟨_, rfl⟩
  obtain ⟨pz, hpz⟩ : ∃ pz, pz = w7.heap.size := ⟨_, rfl⟩
  rw [← hW7] at HX7 HY7 HZ7 HTX7 HTY7 HTZ7 HTA7 HTB7 HB7
  rw [← hpz] at HZ7
  have HW7 := ghid hW7
  have HPZ := ghid hpz
  have CP4 := ghid (HC.out.put (.agg #[.int .i64 0, .slice xo a.length xc]) ⟨0, a⟩ ((a.length : Int) + 1) (.slice bv b.length bc) b W7 W7.heap.size ⟨_, rfl, HTX7.out⟩ HTB7.out (Nat.le_refl _) ⟨by omega, by omega⟩)
  rw [put_gap HFA.out (by omega) (by omega)] at CP4
  clear hl7 hb7 htz hba hb67 hW7 hpz CP3 c0 c1 hcl
  go_upto_region 7 with fail
  rw [← HW7.out, ← HPZ.out]
  clear HW7 HPZ
  obtain ⟨c0, c1, hcl⟩ := two_cells HX7.out
  go_wp2_with fail
  refine CP4.out.mono ?_
  rintro e w8 ⟨v8, rfl, hl8, hb8⟩
  obtain ⟨qo, qc, rfl, -⟩ := hl8.shape
  simp only
  obtain ⟨lg, hlg⟩ : ∃ lg, lg = putL ⟨0, a⟩ ((a.length : Int) + 1) b := ⟨_, rfl⟩
  rw [← hlg]
  have hba : Below w8.heap.size w8 (w8.alloc (.cells #[.int .i64 lg.base, .slice qo lg.ents.length qc] 28)) := (Below.refl _ _).alloc (Nat.le_refl _) _
  have hb78 := hb8.trans (hba.mono hb8.size)
  have HY8 := ghid (behind (behind HY7.out (Below.refl _ _) hb8) (Below.refl _ _) hba)
  have HZ8 := ghid (behind (behind HZ7.out (Below.refl _ _) hb8) (Below.refl _ _) hba)
  have HTY8 := ghid ((HTY7.out.below hb78 (Nat.le_refl _)).mono hb78.size)
  have HTZ8 := ghid ((HTZ7.out.below hb78 (Nat.le_refl _)).mono hb78.size)
  have HTA8 := ghid ((HTA7.out.below hb78 (Nat.le_refl _)).mono hb78.size)
  have HTB8 := ghid ((HTB7.out.below hb78 (Nat.le_refl _)).mono hb78.size)
  have HB8 := ghid (HB7.out.trans (hb78.mono HB7.out.size))
  obtain ⟨W8, hW8⟩ : ∃ W8, W8 = w8.alloc (.cells #[.int .i64 lg.base, .slice qo lg.ents.length qc] 28) := ⟨_, rfl⟩
  rw [← hW8] at HY8 HZ8 HTY8 HTZ8 HTA8 HTB8 HB8
  have HW8 := ghid hW8
  have hbh1 := behind_ok (a := y) (i := 0) (m := k) HFY.out (by omega)
  have CB1 := ghid (HBC.out.behind (.agg #[.int .i64 0, .slice yo y.length yc]) ⟨0, y⟩ ((0 : Nat) : Int) k W8 W8.heap.size ⟨_, rfl, HTY8.out⟩ (Nat.le_refl _) ⟨by omega, by omega⟩ ⟨by omega, by omega⟩)
  rw [hbh1.1, hbh1.2, List.drop_zero, N1.out] at CB1
  clear hl8 hb8 hba hb78 hW8 hlg CP4 c0 c1 hcl hbh1
  go_upto_region 8 with fail
  rw [← HW8.out]
  clear HW8
  obtain ⟨c0, c1, hcl⟩ := two_cells HY8.out
  go_wp2_with fail
  refine CB1.out.mono ?_
  rintro e w9 ⟨v9, rfl, ht9, hb9⟩
  obtain ⟨ho, hc9, rfl⟩ := ht9.slice
  have hlk : (a.take k).length = k := by rw [List.length_take]; omega
  rw [hlk] at ht9 ⊢
  have HY9 := ghid (behind HY8.out (Below.refl _ _) hb9)
  have HZ9 := ghid (behind HZ8.out (Below.refl _ _) hb9)
  have HTY9 := ghid ((HTY8.out.below hb9 (Nat.le_refl _)).mono hb9.size)
  have HTZ9 := ghid ((HTZ8.out.below hb9 (Nat.le_refl _)).mono hb9.size)
  have HTA9 := ghid ((HTA8.out.below hb9 (Nat.le_refl _)).mono hb9.size)
  have HTB9 := ghid ((HTB8.out.below hb9 (Nat.le_refl _)).mono hb9.size)
  have HTH9 := ghid ht9
  have HB9 := ghid (HB8.out.trans (hb9.mono HB8.out.size))
  have hbh2 := behind_ok (a := y) (i := k) (m := b.length) HFY.out (by omega)
  have CB2 := ghid (HBC.out.behind (.agg #[.int .i64 0, .slice yo y.length yc]) ⟨0, y⟩ k b.length w9 w9.heap.size ⟨_, rfl, HTY9.out⟩ (Nat.le_refl _) ⟨by omega, by omega⟩ ⟨by omega, by omega⟩)
  rw [hbh2.1, hbh2.2, N2.out] at CB2
  clear hb9 ht9 CB1 c0 c1 hcl hbh2 hlk
  obtain ⟨c0, c1, hcl⟩ := two_cells HY9.out
  go_wp2_with fail
  refine CB2.out.mono ?_
  rintro e w10 ⟨v10, rfl, ht10, hb10⟩
  obtain ⟨to10, tc10, rfl⟩ := ht10.slice
  have HY10 := ghid (behind HY9.out (Below.refl _ _) hb10)
  have HZ10 := ghid (behind HZ9.out (Below.refl _ _) hb10)
  have hH := HTH9.out.below hb10 (Nat.le_refl _)
  have hA := (HTA9.out.below hb10 (Nat.le_refl _)).front hka
  have CQ1 := ghid (equalTexts _ _ (a.take k) w10 _ _ hH hA)
  have hacap : k ≤ ac := by
    obtain ⟨ao1, cap1, e1, h1, -⟩ := HTA9.out
    simp only [Value.slice.injEq] at e1
    omega
  have hTB := (HTB9.out.below hb10 (Nat.le_refl _)).mono hb10.size
  have hTY := (HTY9.out.below hb10 (Nat.le_refl _)).mono hb10.size
  have hTZ := (HTZ9.out.below hb10 (Nat.le_refl _)).mono hb10.size
  have CQ2 := ghid (fun (W : World) (h : Below w10.heap.size w10 W) => equalTexts _ _ b W _ _ (ht10.below h (Nat.le_refl _)) (hTB.below h (Nat.le_refl _)))
  have CQ3 := ghid (fun (W : World) (h : Below w10.heap.size w10 W) => equalTexts _ _ y W _ _ (hTY.below h (Nat.le_refl _)) (hTZ.below h (Nat.le_refl _)))
  have CL := ghid (fun (W : World) (h : Below w10.heap.size w10 W) => HC.out.last (.agg #[.int .i64 0, .slice yo y.length yc]) ⟨0, y⟩ W w10.heap.size ⟨_, rfl, hTY.below h (Nat.le_refl _)⟩ h.size (logE_ok (l := ⟨0, y⟩) (by simp) (by simp) (by simp only; omega) HFY.out))
  have HB10 := ghid (HB9.out.trans (hb10.mono HB9.out.size))
  clear hb10 ht10 CB2 c0 c1 hcl hH hA hTB hTY hTZ
  obtain ⟨c0, c1, hcl⟩ := two_cells HY10.out
  obtain ⟨d0, d1, hdl⟩ := two_cells HZ10.out
  go_wp2_with fail
  refine CQ1.out.mono ?_
  rintro e w11 ⟨rfl, hw11⟩
  have hb11 : Below w10.heap.size w10 w11 := by obtain ⟨n, rfl⟩ := hw11; exact g_drewN_below _ _ _
  have HB11 := ghid hb11
  clear hw11 CQ1 c0 c1 hcl d0 d1 hdl hb11
  obtain ⟨c0, c1, hcl⟩ := two_cells (behind HY10.out (Below.refl _ _) HB11.out)
  obtain ⟨d0, d1, hdl⟩ := two_cells (behind HZ10.out (Below.refl _ _) HB11.out)
  go_wp2_with fail
  refine (CQ2.out _ HB11.out).mono ?_
  rintro e w12 ⟨rfl, hw12⟩
  have hb12 : Below w10.heap.size w10 w12 := by obtain ⟨n, rfl⟩ := hw12; exact HB11.out.trans (g_drewN_below _ _ _)
  have HB12 := ghid hb12
  clear hw12 CQ2 c0 c1 hcl d0 d1 hdl hb12
  obtain ⟨c0, c1, hcl⟩ := two_cells (behind HY10.out (Below.refl _ _) HB12.out)
  obtain ⟨d0, d1, hdl⟩ := two_cells (behind HZ10.out (Below.refl _ _) HB12.out)
  go_wp2_with fail
  refine (CQ3.out _ HB12.out).mono ?_
  rintro e w13 ⟨rfl, hw13⟩
  have hb13 : Below w10.heap.size w10 w13 := by obtain ⟨n, rfl⟩ := hw13; exact HB12.out.trans (g_drewN_below _ _ _)
  have HB13 := ghid hb13
  clear hw13 CQ3 c0 c1 hcl d0 d1 hdl hb13
  obtain ⟨c0, c1, hcl⟩ := two_cells (behind HY10.out (Below.refl _ _) HB13.out)
  go_wp2_with fail
  refine (CL.out _ HB13.out).mono ?_
  rintro e w14 ⟨rfl, hb14⟩
  have HF := ghid (HB10.out.trans ((HB13.out.trans (hb14.mono HB13.out.size)).mono HB10.out.size))
  have hll : lastL ⟨0, y⟩ = (y.length : Int) := by unfold lastL; simp
  rw [hll]
  have hge : (k : Int) + (b.length : Int) ≤ (y.length : Int) := by omega
  clear hb14 CL c0 c1 hcl hll
  go_wp2
  go_ret
  exact ⟨rfl, HF.out⟩

end Go.Proofs.YtkmeiilnjkmkiaiDoor
