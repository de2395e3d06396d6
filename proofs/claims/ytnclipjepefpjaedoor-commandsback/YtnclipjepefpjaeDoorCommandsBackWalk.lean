/- CommandsBack, walked. -/
import Derived.Test.YtnclipjepefpjaeDoorKeepCommands
import Derived.Test.YtnclipjepefpjaeDoorCmdBackMath
import Derived.Test.YtnclipjepefpjaeDoorCmdDecodeAny
namespace Go.Proofs.YtnclipjepefpjaeDoor
open Go.RowKit Go.Maps

/-- What may be fits. -/
theorem err_fits {x : CmdD} (h : x.err = 0) : FitsC x.seq ∧ ShortC x.a ∧ ShortC x.b := by
  by_cases h2 : x.kind = 2
  · have hc := cmdE_call h h2
    have hq := hc.q
    have ha := hc.a
    have hb := hc.b
    refine ⟨⟨by omega, by omega⟩, ?_, ?_⟩
    · show x.a.size ≤ _; omega
    · show x.b.size ≤ _; omega
  · rw [cmdE_other h h2]
    exact ⟨⟨by simp, by simp⟩, Nat.zero_le _, Nat.zero_le _⟩

/-- A command that may be is written as it must be. -/
theorem encode_ok (x : CmdD) (w : World) (h : x.err = 0) :
    Calls Tryd.prog 5 #[.agg #[.int .i64 x.kind, .int .i64 x.client, .int .i64 x.session, .int .i64 x.seq, .int .i64 x.acked, .int .i64 x.ok, .string x.a, .string x.b, .int .i64 x.n]] w fun e w' => e = .returned (.tuple #[.string (cmdOut x), .int .i64 0]) ∧ Below w.heap.size w w' := by
  obtain ⟨hq, ha, hb⟩ := err_fits h
  by_cases h2 : x.kind = 2
  · have e : cmdOut x = strOfNums [2, x.client] ++ tailOut x.session x.seq x.acked x.ok x.a x.b x.n := by unfold cmdOut; rw [if_pos h2, h2, tailOut_eq]
    have h' := h
    unfold CmdD.err at h'
    rw [h2] at h' ⊢
    rw [e]
    exact encode_call x.client x.session x.seq x.acked x.ok x.a x.b x.n w hq ha hb h'
  · have e : cmdOut x = strOfNums [x.kind, x.client] := by unfold cmdOut; rw [if_neg h2]
    rw [e]
    exact encode_rest x.kind x.client x.session x.seq x.acked x.ok x.a x.b x.n w hq ha hb h h2

theorem crow_cells {w : World} {base : Nat} {g n cap i : Nat} {ps : List CmdD} {x : CmdD} (h : w.ownsRow base 28 9 (.slice (some ⟨g, 0, none⟩) n cap) n (flatC ps)) (hx : ps[i]? = some x) (hn : n = ps.length) (j : Nat) (hj : j < 9) :
    w.cell? ⟨g, i * 9 + j, none⟩ = (cmdCells x)[j]? := by
  have hi : i < ps.length := (List.getElem?_eq_some_iff.1 hx).1
  rw [h.cellAt (i * 9 + j) (by omega), flatC_at hx j hj]

/-- The zero command, as a value. -/
def zeroV : Value := .agg #[.int .i64 0, .int .i64 0, .int .i64 0, .int .i64 0, .int .i64 0, .int .i64 0, .string ⟨#[]⟩, .string ⟨#[]⟩, .int .i64 0]

theorem decL_zero {s : ByteArray} (h : decE s ≠ 0) : cmdV (decL s) = zeroV := by
  unfold decL
  rw [if_neg h]
  rfl

set_option maxRecDepth 100000 in
set_option maxHeartbeats 6400000 in
theorem commandsBack_walk (v : Value) (rs : List RawD) (a1 : Int) (w : World) (hv : RawsR w w.heap.size v rs) (ha1 : -9223372036854775808 ≤ a1 ∧ a1 ≤ 9223372036854775807) :
    Calls Tryd.prog 3 #[v, .int .i64 a1] w fun e w' => e = .returned (.bool true) ∧ Below w.heap.size w w' := by
  have CC := ohid (commands_any v rs w hv)
  have hgd : Tryd.prog.eqGuardType Tryd.prog.depth 28 = false := by kernel_rfl
  obtain ⟨ao, cap, rfl, -⟩ := hv
  go_enter Tryd.func3, Tryd.ntmps3
  go_wp2_with fail
  refine CC.out.mono ?_
  rintro e w1 ⟨vo, out, rfl, hrow, hlen, hok, hb1⟩
  have HOK := ohid hok
  have HLEN := ohid hlen
  have HROW := ohid hrow
  have HB1 := ohid hb1
  obtain ⟨oo, oc, rfl⟩ := crow_shape hrow
  clear hrow hlen hok hb1 CC
  go_wp2
  go_loopw [18] (fun i wr => ∃ j : Nat, j ≤ out.length ∧ i = .int .i64 j ∧ Below w1.heap.size w1 wr) (fun i _ => out.length - (intOf i).toNat)
  case atStart => exact ⟨0, Nat.zero_le _, rfl, Below.refl _ _⟩
  case round =>
    obtain ⟨j, hj, rfl, hbr⟩ := hrel
    have HBR := ohid hbr
    have HRR := ohid (crow_below HROW.out hbr)
    clear hbr
    by_cases hlt : j < out.length
    · obtain ⟨x, hx⟩ : ∃ x, out[j]? = some x := ⟨_, List.getElem?_eq_getElem hlt⟩
      have hxe := HOK.out x (List.mem_of_getElem? hx)
      have hfit := err_fits hxe
      obtain ⟨g0, c0, e0, -⟩ : ∃ g c, (Value.slice oo out.length oc) = .slice (some ⟨g, 0, none⟩) out.length c ∧ True := by
        rcases HRR.out.2 with ⟨e, hn⟩ | ⟨g, cap, cur, e, _⟩
        · omega
        · exact ⟨g, cap, e, trivial⟩
      cases e0
      have hcell := crow_cells HRR.out hx rfl
      have d0 := hcell 0 (by omega)
      have d1 := hcell 1 (by omega)
      have d2 := hcell 2 (by omega)
      have d3 := hcell 3 (by omega)
      have d4 := hcell 4 (by omega)
      have d5 := hcell 5 (by omega)
      have d6 := hcell 6 (by omega)
      have d7 := hcell 7 (by omega)
      have d8 := hcell 8 (by omega)
      simp only [cmdCells, List.getElem?_cons_zero, List.getElem?_cons_succ, Nat.add_zero] at d0 d1 d2 d3 d4 d5 d6 d7 d8
      have hall := dec_all x hxe
      have hsz := cmdOut_size x hxe
      have CE := ohid (fun w => encode_ok x w hxe)
      have CD := ohid (fun w => decode_any (cmdOut x) w (by omega))
      rw [hall.1, hall.2] at CD
      have hpk := pickZ_bd a1 ((cmdOut x).size : Int) (by omega)
      have CP := ohid (fun w => picked_any a1 ((cmdOut x).size : Int) w ha1.1 ha1.2 (by omega) (by omega))
      have hcut := dec_cut x hxe (pickZ a1 ((cmdOut x).size : Int)).toNat (by omega)
      have hcs : ((cmdOut x).extract 0 (pickZ a1 ((cmdOut x).size : Int)).toNat).size ≤ 100 := by rw [ByteArray.size_extract]; omega
      have CU := ohid (fun w => decode_any ((cmdOut x).extract 0 (pickZ a1 ((cmdOut x).size : Int)).toNat) w (by omega))
      rw [decL_zero (by omega), hcut] at CU
      have hmore := dec_more x hxe ⟨#[0]⟩ ⟨by decide, by decide⟩
      have hms : (cmdOut x ++ ⟨#[0]⟩).size ≤ 101 := by rw [ByteArray.size_append]; show (cmdOut x).size + 1 ≤ 101; omega
      have CM := ohid (fun w => decode_any (cmdOut x ++ ⟨#[0]⟩) w (by omega))
      rw [decL_zero (by omega), hmore] at CM
      obtain ⟨p, hp⟩ : ∃ p, p = pickZ a1 ((cmdOut x).size : Int) := ⟨_, rfl⟩
      rw [← hp] at hpk CP CU
      obtain ⟨t, ht⟩ : ∃ t, t = cmdOut x := ⟨_, rfl⟩
      rw [← ht] at CE CD CP CU CM hpk hsz
      have hmx : max (t.size : Int) 1 = t.size := by omega
      have hsum : t.size + (⟨#[0]⟩ : ByteArray).size ≤ 101 := by show t.size + 1 ≤ 101; omega
      have hpt : p ≤ t.size := by omega
      obtain ⟨xk, xc, xs, xq, xu, xo, xa, xb, xn⟩ := x
      simp only [cmdV, zeroV] at d0 d1 d2 d3 d4 d5 d6 d7 d8 CE CD CU CM
      have hsm := cmd_same xk xc xs xq xu xo xn xa xb
      obtain ⟨hp0, hp1⟩ := hpk
      obtain ⟨hs2, hs100⟩ := hsz
      clear hx hxe hfit hcell hall hcut hcs hmore hms hp ht
      have hltI : (j : Int) < (out.length : Int) := by omega
      have hj20 : j ≤ 20 := by have := HLEN.out; omega
      go_wp2_with fail
      refine (CE.out _).mono ?_
      rintro e w2 ⟨rfl, hb2⟩
      have hbx : Below wr.heap.size wr (wr.alloc (.cells #[.int .i64 xk, .int .i64 xc, .int .i64 xs, .int .i64 xq, .int .i64 xu, .int .i64 xo, .string xa, .string xb, .int .i64 xn] 28)) := (Below.refl _ _).alloc (Nat.le_refl _) _
      have HC2 : Hid (w2.heap[wr.heap.size]? = some (.cells #[.int .i64 xk, .int .i64 xc, .int .i64 xs, .int .i64 xq, .int .i64 xu, .int .i64 xo, .string xa, .string xb, .int .i64 xn] 28 (0, 0))) := (hb2.block _ (by simp)).trans (heap_alloc_new wr _)
      have HB2 := ohid (HBR.out.trans ((hbx.trans (hb2.mono hbx.size)).mono HBR.out.size))
      clear hb2 hbx d0 d1 d2 d3 d4 d5 d6 d7 d8
      go_wp2_with fail
      refine (CD.out _).mono ?_
      rintro e w3 ⟨rfl, hb3⟩
      have hz2 : wr.heap.size < w2.heap.size := (Array.getElem?_eq_some_iff.1 HC2.out).1
      have HC3 : Hid (w3.heap[wr.heap.size]? = _) := (hb3.block _ hz2).trans HC2.out
      have HB3 := ohid (HB2.out.trans (hb3.mono HB2.out.size))
      have hz3 : wr.heap.size < w3.heap.size := (Array.getElem?_eq_some_iff.1 HC3.out).1
      obtain ⟨wd, hwd⟩ : ∃ wd, wd = w3.alloc (.cells #[.int .i64 xk, .int .i64 xc, .int .i64 xs, .int .i64 xq, .int .i64 xu, .int .i64 xo, .string xa, .string xb, .int .i64 xn] 28) := ⟨_, rfl⟩
      have hbd : Below w3.heap.size w3 wd := by rw [hwd]; exact (Below.refl _ _).alloc (Nat.le_refl _) _
      have HC4 : Hid (wd.heap[wr.heap.size]? = _) := (hbd.block _ hz3).trans HC3.out
      have HD4 : Hid (wd.heap[w3.heap.size]? = some (.cells #[.int .i64 xk, .int .i64 xc, .int .i64 xs, .int .i64 xq, .int .i64 xu, .int .i64 xo, .string xa, .string xb, .int .i64 xn] 28 (0, 0))) := by rw [hwd]; exact heap_alloc_new w3 _
      have HB4 := ohid (HB3.out.trans (hbd.mono HB3.out.size))
      have HWD := ohid hwd
      have hz4 : w3.heap.size < wd.heap.size := (Array.getElem?_eq_some_iff.1 HD4.out).1
      clear hb3 hbd hwd
      go_wp2_with fail
      rw [← HWD.out]
      first
        | rw [hmx]
        | skip
      refine (CP.out _).mono ?_
      rintro e wz ⟨rfl, hwz⟩
      rw [hwz]
      clear hwz wz
      go_wp2_with fail
      refine (CU.out _).mono ?_
      rintro e w5 ⟨rfl, hb5⟩
      have HC5 : Hid (w5.heap[wr.heap.size]? = _) := (hb5.block _ (by omega)).trans HC4.out
      have HD5 : Hid (w5.heap[w3.heap.size]? = _) := (hb5.block _ hz4).trans HD4.out
      have HB5 := ohid (HB4.out.trans (hb5.mono HB4.out.size))
      have hz5 : w3.heap.size < w5.heap.size := (Array.getElem?_eq_some_iff.1 HD5.out).1
      obtain ⟨we, hwe⟩ : ∃ we, we = w5.alloc (.cells #[.int .i64 0, .int .i64 0, .int .i64 0, .int .i64 0, .int .i64 0, .int .i64 0, .string ⟨#[]⟩, .string ⟨#[]⟩, .int .i64 0] 28) := ⟨_, rfl⟩
      have hbe : Below w5.heap.size w5 we := by rw [hwe]; exact (Below.refl _ _).alloc (Nat.le_refl _) _
      have HC6 : Hid (we.heap[wr.heap.size]? = _) := (hbe.block _ (by omega)).trans HC5.out
      have HD6 : Hid (we.heap[w3.heap.size]? = _) := (hbe.block _ hz5).trans HD5.out
      have HB6 := ohid (HB5.out.trans (hbe.mono HB5.out.size))
      have HWE := ohid hwe
      have hz6 : w3.heap.size < we.heap.size := (Array.getElem?_eq_some_iff.1 HD6.out).1
      clear hb5 hbe hwe
      go_wp2_with fail
      rw [← HWE.out]
      refine (CM.out _).mono ?_
      rintro e w7 ⟨rfl, hb7⟩
      have HC7 : Hid (w7.heap[wr.heap.size]? = _) := (hb7.block _ (by omega)).trans HC6.out
      have HD7 : Hid (w7.heap[w3.heap.size]? = _) := (hb7.block _ hz6).trans HD6.out
      have HB7 := ohid (HB6.out.trans (hb7.mono HB6.out.size))
      have hz7 : w3.heap.size < w7.heap.size := (Array.getElem?_eq_some_iff.1 HD7.out).1
      have z7 : wr.heap.size < w7.heap.size := by omega
      have n7 : wr.heap.size ≠ w7.heap.size := by omega
      have n8 : w3.heap.size ≠ w7.heap.size := by omega
      have y0 := cell_of_row w7 wr.heap.size 0 _ _ _ HC7.out
      have y1 := cell_of_row w7 wr.heap.size 1 _ _ _ HC7.out
      have y2 := cell_of_row w7 wr.heap.size 2 _ _ _ HC7.out
      have y3 := cell_of_row w7 wr.heap.size 3 _ _ _ HC7.out
      have y4 := cell_of_row w7 wr.heap.size 4 _ _ _ HC7.out
      have y5 := cell_of_row w7 wr.heap.size 5 _ _ _ HC7.out
      have y6 := cell_of_row w7 wr.heap.size 6 _ _ _ HC7.out
      have y7 := cell_of_row w7 wr.heap.size 7 _ _ _ HC7.out
      have y8 := cell_of_row w7 wr.heap.size 8 _ _ _ HC7.out
      have v0 := cell_of_row w7 w3.heap.size 0 _ _ _ HD7.out
      have v1 := cell_of_row w7 w3.heap.size 1 _ _ _ HD7.out
      have v2 := cell_of_row w7 w3.heap.size 2 _ _ _ HD7.out
      have v3 := cell_of_row w7 w3.heap.size 3 _ _ _ HD7.out
      have v4 := cell_of_row w7 w3.heap.size 4 _ _ _ HD7.out
      have v5 := cell_of_row w7 w3.heap.size 5 _ _ _ HD7.out
      have v6 := cell_of_row w7 w3.heap.size 6 _ _ _ HD7.out
      have v7 := cell_of_row w7 w3.heap.size 7 _ _ _ HD7.out
      have v8 := cell_of_row w7 w3.heap.size 8 _ _ _ HD7.out
      simp only [List.getElem?_toArray, List.getElem?_cons_zero, List.getElem?_cons_succ] at y0 y1 y2 y3 y4 y5 y6 y7 y8 v0 v1 v2 v3 v4 v5 v6 v7 v8
      have HB8 := ohid (HB7.out.alloc HB7.out.size (.cells #[.int .i64 0, .int .i64 0, .int .i64 0, .int .i64 0, .int .i64 0, .int .i64 0, .string ⟨#[]⟩, .string ⟨#[]⟩, .int .i64 0] 28))
      clear hb7
      go_wp2
      go_roundw
      case rel => exact ⟨j + 1, by omega, by go_num, HB8.out⟩
      case measure => simp [intOf]; omega
    · have HB := ohid (HB1.out.trans (HBR.out.mono HB1.out.size))
      have hltI : ¬ (j : Int) < (out.length : Int) := by omega
      clear hlt
      go_wp2
      go_ret
      exact ⟨rfl, HB.out⟩
end Go.Proofs.YtnclipjepefpjaeDoor
