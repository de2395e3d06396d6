/- Entries that were made may be; LogsCut, walked, over contracts of package log (joined by program) -/
import Derived.Test.YtkmeiilnjkmkiaiDoorLC02
import Derived.Test.YtkmeiilnjkmkiaiDoorLC04
import Derived.Test.YtkmeiilnjkmkiaiDoorLC25
import Derived.Test.YtkmeiilnjkmkiaiDoorLC26
import Derived.Test.YtkmeiilnjkmkiaiDoorLC30
import Derived.Test.YtkmeiilnjkmkiaiDoorLC27
namespace Go.Proofs.YtkmeiilnjkmkiaiDoor

open Go.RowKit

theorem made_first {out : List CmdD} (h : ∀ x ∈ out, x.err = 0) : firstE (out.map cmdOut) = 0 := firstE_zero.2 fun t ht => by
  obtain ⟨x, hx, rfl⟩ := List.mem_map.1 ht
  exact (dec_all x (h x hx)).1

end Go.Proofs.YtkmeiilnjkmkiaiDoor

namespace Go.Proofs.YtkmeiilnjkmkiaiDoor

open Go.RowKit

set_option maxRecDepth 100000 in
set_option maxHeartbeats 6400000 in
theorem logsCut_walk (hC : LogC) (hXC : LogXC) (v : Value) (rs : List RawD) (a1 : Int) (w : World) (hv : RawsR w w.heap.size v rs) (f1 : -9223372036854775808 ≤ a1 ∧ a1 ≤ 9223372036854775807) :
    Calls Tryd.prog 4 #[v, .int .i64 a1] w fun e w' => e = .returned (.bool true) ∧ Below w.heap.size w w' := by
  have CC : Hid (Calls Tryd.prog 6 #[v, .int .i64 30] w fun e w' => ∃ (vo : Value) (out : List CmdD), e = .returned vo ∧ w'.ownsRow w.heap.size 45 9 vo out.length (flatC out) ∧ out.length = min rs.length 30 ∧ (∀ x ∈ out, KeepX 30 x) ∧ Below w.heap.size w w') := commands_upto 30 (by omega) v rs w hv
  have HC := ghid hC
  have HXC := ghid hXC
  have HF1 := ghid f1
  obtain ⟨ao, cap, rfl, -⟩ := hv
  clear hC hXC f1
  go_enter Tryd.func4, Tryd.ntmps4
  go_wp2_with fail
  refine CC.out.mono ?_
  rintro e w1 ⟨vo1, out, rfl, hrow, hlen, hok, hb1⟩
  have hok' : ∀ x ∈ out, x.err = 0 := fun x hx => (hok x hx).err
  have CE := ghid (entries_any vo1 out w1 w.heap.size hrow hok' (by omega))
  have HOK := ghid hok'
  have hlen' : out.length ≤ 30 := by omega
  obtain ⟨oo, oc, rfl⟩ := crow_shape hrow
  have HB1 := ghid hb1
  clear hrow hlen hok hok' hb1 CC
  go_wp2_with fail
  refine CE.out.mono ?_
  rintro e w2 ⟨vo2, rfl, hown2, hb2⟩
  have hta := texts_reads hown2 (fun t ht => by obtain ⟨x, hx, rfl⟩ := List.mem_map.1 ht; have := cmdOut_size x (HOK.out x hx); omega) (by rw [List.length_map]; omega) (Nat.le_refl _)
  have hfa := made_first HOK.out
  have hla : (out.map cmdOut).length ≤ 30 := by rw [List.length_map]; exact hlen'
  obtain ⟨a, hae⟩ : ∃ a, a = out.map cmdOut := ⟨_, rfl⟩
  rw [← hae] at hta hfa hla
  obtain ⟨av, ac, rfl⟩ := hta.slice
  have HB2 := ghid (HB1.out.trans (hb2.mono HB1.out.size))
  have HTA := ghid hta
  have HFA := ghid hfa
  have hp1 := put_first HFA.out (by omega)
  have CP1 := ghid (HC.out.put (.agg #[.int .i64 0, .slice none 0 0]) ⟨0, []⟩ 0 (.slice av a.length ac) a w2 w2.heap.size (LogR.nil _ _) HTA.out (Nat.le_refl _) ⟨by omega, by omega⟩)
  rw [hp1.1, hp1.2] at CP1
  clear hown2 hb2 hta hfa hae CE HOK hp1
  go_wp2_with fail
  refine CP1.out.mono ?_
  rintro e w5 ⟨v5, rfl, hl5, hb5⟩
  obtain ⟨xo, xc, rfl, htx⟩ := hl5.shape
  simp only at htx ⊢
  have hba : Below w5.heap.size w5 (w5.alloc (.cells #[.int .i64 0, .slice xo a.length xc] 28)) := (Below.refl _ _).alloc (Nat.le_refl _) _
  have hb45 := hb5.trans (hba.mono hb5.size)
  have HX5 := ghid (heap_alloc_new w5 (.cells #[.int .i64 0, .slice xo a.length xc] 28))
  have HTX5 := ghid ((htx.below hba (Nat.le_refl _)).mono hba.size)
  have HTA5 := ghid ((HTA.out.below hb45 (Nat.le_refl _)).mono hb45.size)
  have HB5 := ghid (HB2.out.trans (hb45.mono HB2.out.size))
  obtain ⟨W5, hW5⟩ : ∃ W5, W5 = w5.alloc (.cells #[.int .i64 0, .slice xo a.length xc] 28) := ⟨_, rfl⟩
  obtain ⟨px, hpx⟩ : ∃ px, px = w5.heap.size := ⟨_, rfl⟩
  rw [← hW5] at HX5 HTX5 HTA5 HB5
  rw [← hpx] at HX5
  have HW5 := ghid hW5
  have HPX := ghid hpx
  have hpk := pickZ_bd a1 ((a.length : Int) + 1) (by omega)
  have CK := ghid (fun w => picked_any a1 ((a.length : Int) + 1) w HF1.out.1 HF1.out.2 (by omega) (by omega))
  obtain ⟨k, hk⟩ : ∃ k : Nat, (k : Int) = pickZ a1 ((a.length : Int) + 1) := ⟨(pickZ a1 ((a.length : Int) + 1)).toNat, by omega⟩
  rw [← hk] at CK hpk
  have hka : k ≤ a.length := by omega
  have hc1 := cut_ok hka HFA.out (by omega)
  obtain ⟨m1, m2, m3, m4⟩ := at_cut hka HFA.out (by omega)
  have CX := ghid (HXC.out.cut (.agg #[.int .i64 0, .slice xo a.length xc]) ⟨0, a⟩ k W5 W5.heap.size ⟨_, rfl, HTX5.out⟩ (Nat.le_refl _) ⟨by omega, by omega⟩)
  rw [hc1.1, hc1.2] at CX
  obtain ⟨d, hd⟩ : ∃ d, d = a.drop k := ⟨_, rfl⟩
  rw [← hd] at CX m1 m2 m3 m4
  have M1 := ghid m1
  have M2 := ghid m2
  have M3 := ghid m3
  have M4 := ghid m4
  clear hl5 hb5 htx hba hb45 hW5 hpx hk hpk hc1 CP1 hd m1 m2 m3 m4 HTA
  go_upto_region 3 with fail
  rw [← HW5.out, ← HPX.out]
  clear HW5 HPX
  obtain ⟨c0, c1, hcl⟩ := two_cells HX5.out
  go_wp2_with fail
  refine (CK.out _).mono ?_
  rintro e w6 ⟨rfl, hw6⟩
  subst w6
  clear CK
  go_wp2_with fail
  refine CX.out.mono ?_
  rintro e w6 ⟨v6, rfl, hl6, hb6⟩
  obtain ⟨yo, yc, rfl, hty⟩ := hl6.shape
  simp only at hty ⊢
  have hba : Below w6.heap.size w6 (w6.alloc (.cells #[.int .i64 (k : Int), .slice yo d.length yc] 28)) := (Below.refl _ _).alloc (Nat.le_refl _) _
  have hb56 := hb6.trans (hba.mono hb6.size)
  have HY6 := ghid (heap_alloc_new w6 (.cells #[.int .i64 (k : Int), .slice yo d.length yc] 28))
  have HTY6 := ghid ((hty.below hba (Nat.le_refl _)).mono hba.size)
  have HTA6 := ghid ((HTA5.out.below hb56 (Nat.le_refl _)).mono hb56.size)
  have HB6 := ghid (HB5.out.trans (hb56.mono HB5.out.size))
  obtain ⟨W6, hW6⟩ : ∃ W6, W6 = w6.alloc (.cells #[.int .i64 (k : Int), .slice yo d.length yc] 28) := ⟨_, rfl⟩
  obtain ⟨py, hpy⟩ : ∃ py, py = w6.heap.size := ⟨_, rfl⟩
  rw [← hW6] at HY6 HTY6 HTA6 HB6
  rw [← hpy] at HY6
  have HW6 := ghid hW6
  have HPY := ghid hpy
  have CL := ghid (HC.out.last (.agg #[.int .i64 (k : Int), .slice yo d.length yc]) ⟨k, d⟩ W6 W6.heap.size ⟨_, rfl, HTY6.out⟩ (Nat.le_refl _) M1.out)
  rw [M2.out] at CL
  clear hl6 hb6 hty hba hb56 hW6 hpy CX c0 c1 hcl
  go_upto_region 5 with fail
  rw [← HW6.out, ← HPY.out]
  clear HW6 HPY
  obtain ⟨c0, c1, hcl⟩ := two_cells HY6.out
  go_wp2_with fail
  refine CL.out.mono ?_
  rintro e w7 ⟨rfl, hb7⟩
  have HY7 := ghid (behind HY6.out (Below.refl _ _) hb7)
  have HTY7 := ghid ((HTY6.out.below hb7 (Nat.le_refl _)).mono hb7.size)
  have HTA7 := ghid ((HTA6.out.below hb7 (Nat.le_refl _)).mono hb7.size)
  have HB7 := ghid (HB6.out.trans (hb7.mono HB6.out.size))
  clear hb7 CL c0 c1 hcl
  obtain ⟨c0, c1, hcl⟩ := two_cells HY7.out
  go_wp2
  go_loopw [11] (fun i wr => ∃ j : Nat, k ≤ j ∧ j ≤ a.length ∧ i = .int .i64 ((j : Int) + 1) ∧ Below w7.heap.size w7 wr) (fun i _ => a.length + 1 - (intOf i).toNat)
  case atStart => exact ⟨k, Nat.le_refl _, hka, by go_num, Below.refl _ _⟩
  case round =>
    obtain ⟨j, hj1, hj2, rfl, hbr⟩ := hrel
    clear c0 c1 hcl
    obtain ⟨c0, c1, hcl⟩ := two_cells (behind HY7.out (Below.refl _ _) hbr)
    have hlr := HTY7.out.below hbr (Nat.le_refl _)
    by_cases hlt : j < a.length
    · obtain ⟨t, ht⟩ : ∃ t, a[j]? = some t := ⟨_, List.getElem?_eq_getElem hlt⟩
      obtain ⟨p1, p2⟩ := M4.out (j + 1) t (by omega) (by rw [Nat.add_sub_cancel]; exact ht)
      have CA := ghid (HXC.out.at_ (.agg #[.int .i64 (k : Int), .slice yo d.length yc]) ⟨k, d⟩ ((j : Int) + 1) wr w7.heap.size ⟨_, rfl, hlr⟩ hbr.size ⟨by omega, by omega⟩)
      rw [show ((j : Int) + 1) = ((j + 1 : Nat) : Int) by omega, p1, p2, show ((j + 1 : Nat) : Int) = (j : Int) + 1 by omega] at CA
      obtain ⟨ao1, cap1, e1, -, -, -, h4⟩ := HTA7.out.below hbr (Nat.le_refl _)
      obtain ⟨ab, off, rfl, hab, hcc⟩ := h4 (by omega)
      simp only [Value.slice.injEq] at e1
      obtain ⟨rfl, -, rfl⟩ := e1
      obtain ⟨g0, -⟩ := hcc j t ht
      have habl : ab < wr.heap.size := by have := hbr.size; omega
      have HBR := ghid hbr
      clear ht hcc h4 p1 p2 hlr hbr
      go_wp2_with fail
      refine CA.out.mono ?_
      rintro e w8 ⟨rfl, hb8⟩
      have g1 : w8.cell? ⟨ab, off + j, none⟩ = some (.string t) := (hb8.cell (p := ⟨ab, off + j, none⟩) habl).trans g0
      have HB8 := ghid (HBR.out.trans (hb8.mono HBR.out.size))
      clear hb8 CA g0 c0 c1 hcl
      go_wp2
      go_roundw
      case rel => exact ⟨j + 1, by omega, by omega, by go_num, HB8.out⟩
      case measure => simp [intOf]; omega
    · have hje : j = a.length := by omega
      subst hje
      have CA := ghid (HXC.out.at_ (.agg #[.int .i64 (k : Int), .slice yo d.length yc]) ⟨k, d⟩ (k : Int) wr w7.heap.size ⟨_, rfl, hlr⟩ hbr.size ⟨by omega, by omega⟩)
      rw [M3.out] at CA
      have HBR := ghid (HB7.out.trans (hbr.mono HB7.out.size))
      clear hbr hlr
      go_wp2_with fail
      refine CA.out.mono ?_
      rintro e w8 ⟨rfl, hb8⟩
      have HB8 := ghid (HBR.out.trans (hb8.mono HBR.out.size))
      clear hb8 CA
      go_wp2
      go_ret
      exact ⟨rfl, HB8.out⟩

end Go.Proofs.YtkmeiilnjkmkiaiDoor
