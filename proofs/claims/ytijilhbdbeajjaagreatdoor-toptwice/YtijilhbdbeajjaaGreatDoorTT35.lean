/- command.Decode, at every text (joined by program) -/
import Derived.Test.YtijilhbdbeajjaaGreatDoorTT34
namespace Go.Proofs.YtijilhbdbeajjaaGreatDoor

open Go.RowKit

/-- A command, as a value. -/
def cmdV (x : CmdD) : Value := .agg #[.int .i64 x.kind, .int .i64 x.client, .int .i64 x.session, .int .i64 x.seq, .int .i64 x.acked, .int .i64 x.ok, .string x.a, .string x.b, .int .i64 x.n]

theorem cm_cells {b : Nat} {x : CmdD} {w : World} (h : IsCm b x w) : w.cell? ⟨b, 0, none⟩ = some (.int .i64 x.kind) ∧ w.cell? ⟨b, 1, none⟩ = some (.int .i64 x.client) ∧ w.cell? ⟨b, 2, none⟩ = some (.int .i64 x.session) ∧ w.cell? ⟨b, 3, none⟩ = some (.int .i64 x.seq) ∧ w.cell? ⟨b, 4, none⟩ = some (.int .i64 x.acked) ∧ w.cell? ⟨b, 5, none⟩ = some (.int .i64 x.ok) ∧ w.cell? ⟨b, 6, none⟩ = some (.string x.a) ∧ w.cell? ⟨b, 7, none⟩ = some (.string x.b) ∧ w.cell? ⟨b, 8, none⟩ = some (.int .i64 x.n) :=
  ⟨cell_of_row w b 0 _ _ _ h, cell_of_row w b 1 _ _ _ h, cell_of_row w b 2 _ _ _ h, cell_of_row w b 3 _ _ _ h, cell_of_row w b 4 _ _ _ h, cell_of_row w b 5 _ _ _ h, cell_of_row w b 6 _ _ _ h, cell_of_row w b 7 _ _ _ h, cell_of_row w b 8 _ _ _ h⟩

theorem below_set9 {B : Nat} {w0 W : World} (h : Below B w0 W) {g : Nat} (hg : B ≤ g) (a b c d e f i j k : Value) :
    Below B w0 (((((((((W.setCell ⟨g, 0, none⟩ a).setCell ⟨g, 1, none⟩ b).setCell ⟨g, 2, none⟩ c).setCell ⟨g, 3, none⟩ d).setCell ⟨g, 4, none⟩ e).setCell ⟨g, 5, none⟩ f).setCell ⟨g, 6, none⟩ i).setCell ⟨g, 7, none⟩ j).setCell ⟨g, 8, none⟩ k) :=
  ((((((((h.setCell (by simpa using hg) a).setCell (by simpa using hg) b).setCell (by simpa using hg) c).setCell (by simpa using hg) d).setCell (by simpa using hg) e).setCell (by simpa using hg) f).setCell (by simpa using hg) i).setCell (by simpa using hg) j).setCell (by simpa using hg) k

theorem numR_bd (s : ByteArray) : 0 ≤ (numR s).1 ∧ (numR s).1 ≤ 1099511627776 := by
  by_cases h : (numR s).2.2 = 0
  · have := numR_ok s h; omega
  · have : (numR s).1 = 0 := by
      revert h
      unfold numR
      split
      · intro _; rfl
      · split
        · intro _; rfl
        · split
          · intro _; rfl
          · intro h; exact absurd rfl h
    omega

theorem stepN_bd (r : ByteArray × Int) : 0 ≤ (stepN r).1 ∧ (stepN r).1 ≤ 1099511627776 := by
  unfold stepN readN
  split
  · split
    · exact numR_bd r.1
    · exact ⟨by simp, by simp⟩
  · exact ⟨by simp, by simp⟩

/-- What is read fits. -/
theorem decBody_fits (s : ByteArray) (hs : s.size ≤ 5000) : FitsC (decBody s).1.seq ∧ ShortC (decBody s).1.a ∧ ShortC (decBody s).1.b := by
  have hx : (s.extract 2 s.size).size ≤ 5000 := by rw [ByteArray.size_extract]; omega
  unfold decBody
  split
  · unfold decCall FitsC ShortC
    simp only
    refine ⟨?_, ?_, ?_⟩
    · have := stepN_bd (stepN (s.extract 2 s.size, 0)).2
      omega
    · have h0 := rdAt_size (s.extract 2 s.size) 5
      have h1 := (stepT_size (rdAt (s.extract 2 s.size) 5)).1
      have h2 : (stepT (stepN (stepN (stepN (stepN (stepN (s.extract 2 s.size, 0)).2).2).2).2).2).1.size ≤ (rdAt (s.extract 2 s.size) 5).1.size := h1
      omega
    · have h0 := rdAt_size (s.extract 2 s.size) 5
      have h1 := (stepT_size (rdAt (s.extract 2 s.size) 5)).2
      have h2 := (stepT_size (stepT (rdAt (s.extract 2 s.size) 5)).2).1
      have h3 : (stepT (stepT (stepN (stepN (stepN (stepN (stepN (s.extract 2 s.size, 0)).2).2).2).2).2).2).1.size ≤ (stepT (rdAt (s.extract 2 s.size) 5)).2.1.size := h2
      omega
  · unfold FitsC ShortC
    exact ⟨by simp, Nat.zero_le _, Nat.zero_le _⟩

theorem decE_end (s : ByteArray) (h1 : 2 ≤ s.size) (h2 : s.size ≤ 5000) (h : endE (decBody s).2 ≠ 0) : decL s = CmdD.zero ∧ decE s = endE (decBody s).2 := by
  have e : decE s = endE (decBody s).2 := by unfold decE; rw [if_neg (by omega), if_neg (by omega), if_pos h]
  refine ⟨?_, e⟩
  unfold decL
  rw [if_neg (by rw [e]; exact h)]

theorem decE_past (s : ByteArray) (h1 : 2 ≤ s.size) (h2 : s.size ≤ 5000) (h : endE (decBody s).2 = 0) : decE s = (decBody s).1.err ∧ ((decBody s).1.err = 0 → decL s = (decBody s).1) ∧ ((decBody s).1.err ≠ 0 → decL s = CmdD.zero) := by
  have e : decE s = (decBody s).1.err := by unfold decE; rw [if_neg (by omega), if_neg (by omega), if_neg (fun hh => hh h)]
  refine ⟨e, fun h0 => ?_, fun h0 => ?_⟩
  · unfold decL; rw [if_pos (by rw [e]; exact h0)]
  · unfold decL; rw [if_neg (by rw [e]; exact h0)]

set_option maxRecDepth 100000 in
set_option maxHeartbeats 6400000 in
theorem decode_rest (s : ByteArray) (w : World) (h1 : 2 ≤ s.size) (h2 : s.size ≤ 5000) :
    Calls Tryz.prog 25 #[.string s] w fun e w' => e = .returned (.tuple #[cmdV (decL s), .int .i64 (decE s)]) ∧ Below w.heap.size w w' := by
  have i0 : (0 : Int) < (s.size : Int) := by omega
  have i1 : (1 : Int) < (s.size : Int) := by omega
  have n0 : 0 < s.size := by omega
  have n1 : 1 < s.size := by omega
  have XF := chid (decBody_fits s h2)
  have HSE := chid (fun h => decE_end s h1 h2 h)
  have HSP := chid (fun h => decE_past s h1 h2 h)
  have hb0 : (s.data.toList.getD 0 0) = s[0] := byte_eq s 0 n0
  have hb1 : (s.data.toList.getD 1 0) = s[1] := byte_eq s 1 n1
  have HD : Hid (decBody s = if ((s[0].toNat : Nat) : Int) = 2 then decCall (s[0].toNat : Nat) (s[1].toNat : Nat) (s.extract 2 s.size) else (⟨(s[0].toNat : Nat), (s[1].toNat : Nat), 0, 0, 0, 0, ⟨#[]⟩, ⟨#[]⟩, 0⟩, s.extract 2 s.size, 0)) := by
    show decBody s = _
    unfold decBody
    rw [hb0, hb1]
  have hx5 : (s.extract 2 s.size).size ≤ 140737488351232 := by rw [ByteArray.size_extract]; omega
  obtain ⟨x, hx⟩ : ∃ x, x = (decBody s).1 := ⟨_, rfl⟩
  obtain ⟨r, hr⟩ : ∃ r, r = (decBody s).2 := ⟨_, rfl⟩
  rw [← hx] at XF HSP
  rw [← hr] at HSE HSP
  have HX := chid hx
  have HRR := chid hr
  clear hx hr hb0 hb1
  have hw0 : wrap64 ((s[0].toNat : Nat) : Int) = ((s[0].toNat : Nat) : Int) := by have := s[0].toNat_lt; simp [wrap64]; omega
  have hw1 : wrap64 ((s[1].toNat : Nat) : Int) = ((s[1].toNat : Nat) : Int) := by have := s[1].toNat_lt; simp [wrap64]; omega
  have HW0 := chid hw0
  have HW1 := chid hw1
  clear hw0 hw1
  go_enter Tryz.func25, Tryz.ntmps25
  go_wp2_with fail
  go_region
  rw [HW0.out, HW1.out]
  clear HW0 HW1
  obtain ⟨k, hk⟩ : ∃ k : Int, k = ((s[0].toNat : Nat) : Int) := ⟨_, rfl⟩
  obtain ⟨c, hc⟩ : ∃ c : Int, c = ((s[1].toNat : Nat) : Int) := ⟨_, rfl⟩
  obtain ⟨t, ht⟩ : ∃ t, t = s.extract 2 s.size := ⟨_, rfl⟩
  have HT := chid ht
  rw [← hk, ← hc] at HD ⊢
  rw [← ht] at HD hx5
  clear hk hc ht
  obtain ⟨wa, hwa⟩ : ∃ wa, wa = ((w.alloc (.cells #[.int .i64 0, .int .i64 0, .int .i64 0, .int .i64 0, .int .i64 0, .int .i64 0, .string ⟨#[]⟩, .string ⟨#[]⟩, .int .i64 0] 67)).alloc (.cells #[.int .i64 k, .int .i64 c, .int .i64 0, .int .i64 0, .int .i64 0, .int .i64 0, .string ⟨#[]⟩, .string ⟨#[]⟩, .int .i64 0] 67)).drew := ⟨_, rfl⟩
  rw [← hwa]
  have za : wa.heap.size = w.heap.size + 2 := by rw [hwa]; simp
  have HBA : Hid (Below w.heap.size w wa) := by rw [hwa]; exact (((Below.refl _ _).alloc (Nat.le_refl _) _).alloc (by simp) _).drew
  have HRA : Hid (wa.heap[w.heap.size]? = some (.cells #[.int .i64 0, .int .i64 0, .int .i64 0, .int .i64 0, .int .i64 0, .int .i64 0, .string ⟨#[]⟩, .string ⟨#[]⟩, .int .i64 0] 67 (0, 0))) := by
    rw [hwa]
    show (World.alloc _ _).heap[_]? = _
    rw [Below.heap_alloc _ _ _ (by simp)]
    exact heap_alloc_new w _
  have HCA : Hid (IsCm (w.heap.size + 1) ⟨k, c, 0, 0, 0, 0, ⟨#[]⟩, ⟨#[]⟩, 0⟩ wa) := by
    rw [hwa]
    have := heap_alloc_new (w.alloc (.cells #[.int .i64 0, .int .i64 0, .int .i64 0, .int .i64 0, .int .i64 0, .int .i64 0, .string ⟨#[]⟩, .string ⟨#[]⟩, .int .i64 0] 67)) (.cells #[.int .i64 k, .int .i64 c, .int .i64 0, .int .i64 0, .int .i64 0, .int .i64 0, .string ⟨#[]⟩, .string ⟨#[]⟩, .int .i64 0] 67)
    rw [show (w.alloc (.cells #[.int .i64 0, .int .i64 0, .int .i64 0, .int .i64 0, .int .i64 0, .int .i64 0, .string ⟨#[]⟩, .string ⟨#[]⟩, .int .i64 0] 67)).heap.size = w.heap.size + 1 by simp] at this
    exact this
  clear hwa
  have hbb : Below wa.heap.size wa (wa.alloc (.cells #[.string t, .int .i64 0] 113)) := (Below.refl _ _).alloc (Nat.le_refl _) _
  have HRB : Hid ((wa.alloc (.cells #[.string t, .int .i64 0] 113)).heap[w.heap.size]? = _) := (hbb.block _ (by omega)).trans HRA.out
  have HCB : Hid (IsCm (w.heap.size + 1) ⟨k, c, 0, 0, 0, 0, ⟨#[]⟩, ⟨#[]⟩, 0⟩ (wa.alloc (.cells #[.string t, .int .i64 0] 113))) := (hbb.block _ (by omega)).trans HCA.out
  have HRD : Hid (IsRd (w.heap.size + 2) t 0 (wa.alloc (.cells #[.string t, .int .i64 0] 113))) := by
    have := heap_alloc_new wa (.cells #[.string t, .int .i64 0] 113)
    rw [za] at this
    exact this
  have HBB := chid (HBA.out.trans (hbb.mono HBA.out.size))
  have g0 : wa.cell? ⟨w.heap.size + 1, 0, none⟩ = some (.int .i64 k) := (cm_cells HCA.out).1
  clear hbb HRA HCA HBA
  obtain ⟨wb, hwb⟩ : ∃ wb, wb = wa.alloc (.cells #[.string t, .int .i64 0] 113) := ⟨_, rfl⟩
  rw [← hwb] at HRB HCB HRD HBB
  have HWB := chid hwb
  have hzb : wb.heap.size = w.heap.size + 3 := by rw [hwb]; simp; omega
  clear hwb
  by_cases hk2 : k = 2
  · have hD := HD.out
    rw [if_pos hk2] at hD
    have ex : x = (decCall k c t).1 := by rw [HX.out, hD]
    have er : r = (decCall k c t).2 := by rw [HRR.out, hD]
    have EX := chid ex
    have ER := chid er
    clear hD ex er HD
    subst hk2
    have CC := chid (rdCall_any (w.heap.size + 2) (w.heap.size + 1) 2 c t wb hx5 HRD.out (by omega) HCB.out)
    rw [HWB.out] at CC
    rw [← EX.out, ← ER.out] at CC
    go_wp2_with fail
    rw [← HT.out]
    refine CC.out.mono ?_
    rintro e w3 ⟨rfl, hr3, hc3, ht3⟩
    rw [← HWB.out] at ht3
    have HRX := chid hr3
    have HCX := chid hc3
    have HRES : Hid (w3.heap[w.heap.size]? = _) := (ht3.block _ (by omega) (by omega) (by omega)).trans HRB.out
    have HBX := chid (Two.below HBB.out ht3 (by omega) (by omega) HBB.out.size)
    have hz4 : w.heap.size < w3.heap.size := by have := ht3.size; omega
    have hz5 : w.heap.size + 1 < w3.heap.size := by have := ht3.size; omega
    clear hr3 hc3 ht3 CC
    · go_wp2_with fail
      refine (rdEnd_any (w.heap.size + 2) r w3 HRX.out).mono ?_
      rintro e w4 ⟨rfl, rfl⟩
      by_cases hE : endE r = 0
      · rw [hE]
        have CK := chid (fun w => cmdCheck_any x.kind x.client x.session x.seq x.acked x.ok x.a x.b x.n w XF.out.1 XF.out.2.1 XF.out.2.2)
        have hsp := HSP.out hE
        clear HSP
        have HE1 := chid hsp.1
        obtain ⟨ce, hce⟩ : ∃ ce, ce = x.err := ⟨_, rfl⟩
        have CK' : Hid (∀ w : World, Calls Tryz.prog 49 #[.agg #[.int .i64 x.kind, .int .i64 x.client, .int .i64 x.session, .int .i64 x.seq, .int .i64 x.acked, .int .i64 x.ok, .string x.a, .string x.b, .int .i64 x.n]] w fun e w' => e = .returned (.int .i64 ce) ∧ Below w.heap.size w w') := by rw [hce]; exact CK.out
        rw [← hce] at hsp HE1
        clear CK hce
        obtain ⟨c0, c1, c2, c3, c4, c5, c6, c7, c8⟩ := cm_cells HCX.out
        go_wp2_with fail
        refine (CK'.out _).mono ?_
        rintro e w5 ⟨rfl, hb5⟩
        have HRES5 : Hid (w5.heap[w.heap.size]? = _) := (hb5.block _ hz4).trans HRES.out
        have HCX5 : Hid (IsCm (w.heap.size + 1) x w5) := (hb5.block _ hz5).trans HCX.out
        have HB5 := chid (HBX.out.trans (hb5.mono HBX.out.size))
        obtain ⟨c0, c1, c2, c3, c4, c5, c6, c7, c8⟩ := cm_cells HCX5.out
        have q := fun j => frozen_of_row w5 w.heap.size j _ _ HRES5.out
        obtain ⟨z0, z1, z2, z3, z4, z5, z6, z7, z8⟩ := cm_cells (x := CmdD.zero) HRES5.out
        simp only [CmdD.zero] at z0 z1 z2 z3 z4 z5 z6 z7 z8
        clear hb5 CK'
        by_cases hc0 : ce = 0
        · subst hc0
          have HL1 := chid (hsp.2.1 rfl)
          clear hsp
          go_wp2
          refine bodyPost_ret (v := .tuple #[.agg #[.int .i64 x.kind, .int .i64 x.client, .int .i64 x.session, .int .i64 x.seq, .int .i64 x.acked, .int .i64 x.ok, .string x.a, .string x.b, .int .i64 x.n], .int .i64 0]) (by simp [results, Tryz.results25, go_sem, z0, z1, z2, z3, z4, z5, z6, z7, z8]) rfl ⟨by rw [HL1.out, HE1.out]; rfl, below_set9 HB5.out (Nat.le_refl _) _ _ _ _ _ _ _ _ _⟩
        · have HL1 := chid (hsp.2.2 hc0)
          have hcb : (ce != 0) = true := by simpa using hc0
          clear hsp hc0
          go_wp2
          refine bodyPost_ret (v := .tuple #[.agg #[.int .i64 0, .int .i64 0, .int .i64 0, .int .i64 0, .int .i64 0, .int .i64 0, .string ⟨#[]⟩, .string ⟨#[]⟩, .int .i64 0], .int .i64 ce]) (by simp [results, Tryz.results25, go_sem, z0, z1, z2, z3, z4, z5, z6, z7, z8]) rfl ⟨by rw [HL1.out, HE1.out]; rfl, below_set9 HB5.out (Nat.le_refl _) _ _ _ _ _ _ _ _ _⟩
      · have hsp := HSE.out hE
        have HL1 := chid hsp.1
        have HE1 := chid hsp.2
        clear HSE HSP hsp
        obtain ⟨ee, hee⟩ : ∃ ee, ee = endE r := ⟨_, rfl⟩
        rw [← hee] at hE HE1 ⊢
        have heb : (ee != 0) = true := by simpa using hE
        have q := fun j => frozen_of_row w4 w.heap.size j _ _ HRES.out
        obtain ⟨z0, z1, z2, z3, z4, z5, z6, z7, z8⟩ := cm_cells (x := CmdD.zero) HRES.out
        simp only [CmdD.zero] at z0 z1 z2 z3 z4 z5 z6 z7 z8
        clear hee hE
        go_wp2
        refine bodyPost_ret (v := .tuple #[.agg #[.int .i64 0, .int .i64 0, .int .i64 0, .int .i64 0, .int .i64 0, .int .i64 0, .string ⟨#[]⟩, .string ⟨#[]⟩, .int .i64 0], .int .i64 ee]) (by simp [results, Tryz.results25, go_sem, z0, z1, z2, z3, z4, z5, z6, z7, z8]) rfl ⟨by rw [HL1.out, HE1.out]; rfl, below_set9 HBX.out (Nat.le_refl _) _ _ _ _ _ _ _ _ _⟩
  · have hD := HD.out
    rw [if_neg hk2] at hD
    have ex : x = ⟨k, c, 0, 0, 0, 0, ⟨#[]⟩, ⟨#[]⟩, 0⟩ := by rw [HX.out, hD]
    have er : r = (t, 0) := by rw [HRR.out, hD]
    have hkb : (k == 2) = false := by simpa using hk2
    have HRX : Hid (IsRd (w.heap.size + 2) r.1 r.2 wb) := by rw [er]; exact HRD.out
    have HCX : Hid (IsCm (w.heap.size + 1) x wb) := by rw [ex]; exact HCB.out
    have HRES := HRB
    have HBX := HBB
    have hz4 : w.heap.size < wb.heap.size := by omega
    have hz5 : w.heap.size + 1 < wb.heap.size := by omega
    have CE := chid (rdEnd_any (w.heap.size + 2) r wb HRX.out)
    rw [HWB.out] at CE
    clear hD ex er HD hk2 HRD HCB HRB HBB
    · go_wp2_with fail
      rw [← HT.out]
      refine CE.out.mono ?_
      rw [← HWB.out]
      rintro e w4 ⟨rfl, rfl⟩
      by_cases hE : endE r = 0
      · rw [hE]
        have CK := chid (fun w => cmdCheck_any x.kind x.client x.session x.seq x.acked x.ok x.a x.b x.n w XF.out.1 XF.out.2.1 XF.out.2.2)
        have hsp := HSP.out hE
        clear HSP
        have HE1 := chid hsp.1
        obtain ⟨ce, hce⟩ : ∃ ce, ce = x.err := ⟨_, rfl⟩
        have CK' : Hid (∀ w : World, Calls Tryz.prog 49 #[.agg #[.int .i64 x.kind, .int .i64 x.client, .int .i64 x.session, .int .i64 x.seq, .int .i64 x.acked, .int .i64 x.ok, .string x.a, .string x.b, .int .i64 x.n]] w fun e w' => e = .returned (.int .i64 ce) ∧ Below w.heap.size w w') := by rw [hce]; exact CK.out
        rw [← hce] at hsp HE1
        clear CK hce
        obtain ⟨c0, c1, c2, c3, c4, c5, c6, c7, c8⟩ := cm_cells HCX.out
        go_wp2_with fail
        refine (CK'.out _).mono ?_
        rintro e w5 ⟨rfl, hb5⟩
        have HRES5 : Hid (w5.heap[w.heap.size]? = _) := (hb5.block _ hz4).trans HRES.out
        have HCX5 : Hid (IsCm (w.heap.size + 1) x w5) := (hb5.block _ hz5).trans HCX.out
        have HB5 := chid (HBX.out.trans (hb5.mono HBX.out.size))
        obtain ⟨c0, c1, c2, c3, c4, c5, c6, c7, c8⟩ := cm_cells HCX5.out
        have q := fun j => frozen_of_row w5 w.heap.size j _ _ HRES5.out
        obtain ⟨z0, z1, z2, z3, z4, z5, z6, z7, z8⟩ := cm_cells (x := CmdD.zero) HRES5.out
        simp only [CmdD.zero] at z0 z1 z2 z3 z4 z5 z6 z7 z8
        clear hb5 CK'
        by_cases hc0 : ce = 0
        · subst hc0
          have HL1 := chid (hsp.2.1 rfl)
          clear hsp
          go_wp2
          refine bodyPost_ret (v := .tuple #[.agg #[.int .i64 x.kind, .int .i64 x.client, .int .i64 x.session, .int .i64 x.seq, .int .i64 x.acked, .int .i64 x.ok, .string x.a, .string x.b, .int .i64 x.n], .int .i64 0]) (by simp [results, Tryz.results25, go_sem, z0, z1, z2, z3, z4, z5, z6, z7, z8]) rfl ⟨by rw [HL1.out, HE1.out]; rfl, below_set9 HB5.out (Nat.le_refl _) _ _ _ _ _ _ _ _ _⟩
        · have HL1 := chid (hsp.2.2 hc0)
          have hcb : (ce != 0) = true := by simpa using hc0
          clear hsp hc0
          go_wp2
          refine bodyPost_ret (v := .tuple #[.agg #[.int .i64 0, .int .i64 0, .int .i64 0, .int .i64 0, .int .i64 0, .int .i64 0, .string ⟨#[]⟩, .string ⟨#[]⟩, .int .i64 0], .int .i64 ce]) (by simp [results, Tryz.results25, go_sem, z0, z1, z2, z3, z4, z5, z6, z7, z8]) rfl ⟨by rw [HL1.out, HE1.out]; rfl, below_set9 HB5.out (Nat.le_refl _) _ _ _ _ _ _ _ _ _⟩
      · have hsp := HSE.out hE
        have HL1 := chid hsp.1
        have HE1 := chid hsp.2
        clear HSE HSP hsp
        obtain ⟨ee, hee⟩ : ∃ ee, ee = endE r := ⟨_, rfl⟩
        rw [← hee] at hE HE1 ⊢
        have heb : (ee != 0) = true := by simpa using hE
        have q := fun j => frozen_of_row w4 w.heap.size j _ _ HRES.out
        obtain ⟨z0, z1, z2, z3, z4, z5, z6, z7, z8⟩ := cm_cells (x := CmdD.zero) HRES.out
        simp only [CmdD.zero] at z0 z1 z2 z3 z4 z5 z6 z7 z8
        clear hee hE
        go_wp2
        refine bodyPost_ret (v := .tuple #[.agg #[.int .i64 0, .int .i64 0, .int .i64 0, .int .i64 0, .int .i64 0, .int .i64 0, .string ⟨#[]⟩, .string ⟨#[]⟩, .int .i64 0], .int .i64 ee]) (by simp [results, Tryz.results25, go_sem, z0, z1, z2, z3, z4, z5, z6, z7, z8]) rfl ⟨by rw [HL1.out, HE1.out]; rfl, below_set9 HBX.out (Nat.le_refl _) _ _ _ _ _ _ _ _ _⟩

end Go.Proofs.YtijilhbdbeajjaaGreatDoor
