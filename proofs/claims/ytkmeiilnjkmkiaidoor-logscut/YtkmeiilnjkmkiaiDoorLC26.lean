/- A command that may be is written as it must be; a row of commands; tackroomkeep.entries: commands, as bytes (joined by program) -/
import Derived.Test.YtkmeiilnjkmkiaiDoorLC20
import Derived.Test.YtkmeiilnjkmkiaiDoorLC24
import Derived.Test.YtkmeiilnjkmkiaiDoorLC25
import Derived.Test.YtkmeiilnjkmkiaiDoorLC13
import Derived.Test.YtkmeiilnjkmkiaiDoorLC03
namespace Go.Proofs.YtkmeiilnjkmkiaiDoor

open Go.RowKit Go.Maps

/-- What may be fits. -/
theorem err_fits {x : CmdD} (h : x.err = 0) : FitsC x.seq ∧ ShortC x.a ∧ ShortC x.b := by
  by_cases h2 : x.kind = 2
  · have hc := cmdE_call h h2
    have hq := hc.q
    have ha := hc.a
    have hb := hc.b
    refine ⟨⟨by omega, by omega⟩, ?_, ?_⟩
    · show x.a.size ≤ _; omega
    · show x.b.size ≤ _; omega
  · rw [cmdE_other h h2]
    exact ⟨⟨by simp, by simp⟩, Nat.zero_le _, Nat.zero_le _⟩

/-- A command that may be is written as it must be. -/
theorem encode_ok (x : CmdD) (w : World) (h : x.err = 0) :
    Calls Tryd.prog 14 #[.agg #[.int .i64 x.kind, .int .i64 x.client, .int .i64 x.session, .int .i64 x.seq, .int .i64 x.acked, .int .i64 x.ok, .string x.a, .string x.b, .int .i64 x.n]] w fun e w' => e = .returned (.tuple #[.string (cmdOut x), .int .i64 0]) ∧ Below w.heap.size w w' := by
  obtain ⟨hq, ha, hb⟩ := err_fits h
  by_cases h2 : x.kind = 2
  · have e : cmdOut x = strOfNums [2, x.client] ++ tailOut x.session x.seq x.acked x.ok x.a x.b x.n := by unfold cmdOut; rw [if_pos h2, h2, tailOut_eq]
    have h' := h
    unfold CmdD.err at h'
    rw [h2] at h' ⊢
    rw [e]
    exact encode_call x.client x.session x.seq x.acked x.ok x.a x.b x.n w hq ha hb h'
  · have e : cmdOut x = strOfNums [x.kind, x.client] := by unfold cmdOut; rw [if_neg h2]
    rw [e]
    exact encode_rest x.kind x.client x.session x.seq x.acked x.ok x.a x.b x.n w hq ha hb h h2

theorem crow_cells {w : World} {base : Nat} {g n cap i : Nat} {ps : List CmdD} {x : CmdD} (h : w.ownsRow base 45 9 (.slice (some ⟨g, 0, none⟩) n cap) n (flatC ps)) (hx : ps[i]? = some x) (hn : n = ps.length) (j : Nat) (hj : j < 9) :
    w.cell? ⟨g, i * 9 + j, none⟩ = (cmdCells x)[j]? := by
  have hi : i < ps.length := (List.getElem?_eq_some_iff.1 hx).1
  rw [h.cellAt (i * 9 + j) (by omega), flatC_at hx j hj]

end Go.Proofs.YtkmeiilnjkmkiaiDoor

namespace Go.Proofs.YtkmeiilnjkmkiaiDoor

open Go.RowKit

set_option maxRecDepth 100000 in
set_option maxHeartbeats 3200000 in
theorem entries_any (v : Value) (out : List CmdD) (w : World) (base : Nat) (hrow : w.ownsRow base 45 9 v out.length (flatC out)) (hok : ∀ x ∈ out, x.err = 0) (hlen : out.length ≤ 1000) :
    Calls Tryd.prog 5 #[v] w fun e w' => ∃ vo, e = .returned vo ∧ w'.ownsRow w.heap.size 9 1 vo (out.map cmdOut).length (textCells (out.map cmdOut)) ∧ Below w.heap.size w w' := by
  obtain ⟨i0, hi0, hz0, hz1, hz2⟩ := info_parts Tryd.infoText
  have HROW := ghid hrow
  have HOK := ghid hok
  obtain ⟨oo, oc, rfl⟩ := crow_shape hrow
  clear hrow hok
  go_enter Tryd.func5, Tryd.ntmps5
  go_wp2
  go_loopw [3, 10] (fun o i wr => ∃ k : Nat, k ≤ out.length ∧ i = .int .i64 k ∧ wr.ownsRow w.heap.size 9 1 o k (textCells ((out.take k).map cmdOut)) ∧ Below w.heap.size w wr) (fun _ i _ => out.length - (intOf i).toNat)
  case atStart => exact ⟨0, Nat.zero_le _, rfl, World.ownsRow_nil _ _ _ _, Below.refl _ _⟩
  case round =>
    obtain ⟨k, hk, rfl, hown, hb⟩ := hrel
    by_cases hlt : k < out.length
    · obtain ⟨x, hx⟩ : ∃ x, out[k]? = some x := ⟨_, List.getElem?_eq_getElem hlt⟩
      have hxe := HOK.out x (List.mem_of_getElem? hx)
      have hsz := cmdOut_size x hxe
      have HTK : Hid ((out.take (k + 1)).map cmdOut = (out.take k).map cmdOut ++ [cmdOut x]) := by
        unfold Hid
        rw [List.take_succ_eq_append_getElem hlt, List.map_append, (List.getElem?_eq_some_iff.1 hx).2]
        rfl
      have hrr := crow_below HROW.out (show Below w.heap.size w wr from hb)
      obtain ⟨g0, c0, e0, -⟩ : ∃ g c, (Value.slice oo out.length oc) = .slice (some ⟨g, 0, none⟩) out.length c ∧ True := by
        rcases hrr.2 with ⟨e, hn⟩ | ⟨g, cap, cur, e, _⟩
        · omega
        · exact ⟨g, cap, e, trivial⟩
      cases e0
      have hcell := crow_cells hrr hx rfl
      have d0 := hcell 0 (by omega)
      have d1 := hcell 1 (by omega)
      have d2 := hcell 2 (by omega)
      have d3 := hcell 3 (by omega)
      have d4 := hcell 4 (by omega)
      have d5 := hcell 5 (by omega)
      have d6 := hcell 6 (by omega)
      have d7 := hcell 7 (by omega)
      have d8 := hcell 8 (by omega)
      simp only [cmdCells, List.getElem?_cons_zero, List.getElem?_cons_succ, Nat.add_zero] at d0 d1 d2 d3 d4 d5 d6 d7 d8
      have CE := ghid (fun w => encode_ok x w hxe)
      obtain ⟨t, ht⟩ : ∃ t, t = cmdOut x := ⟨_, rfl⟩
      rw [← ht] at CE HTK hsz
      obtain ⟨xk, xc, xs, xq, xu, xo, xa, xb, xn⟩ := x
      simp only at d0 d1 d2 d3 d4 d5 d6 d7 d8 CE
      have HO := ghid hown
      have HB := ghid hb
      have hzr := hb.size
      have hltI : (k : Int) < (out.length : Int) := by omega
      obtain ⟨so, sc, rfl⟩ := grow_shape hown
      clear hx hxe hcell hrr ht hown hb
      go_wp2_with fail
      refine (CE.out _).mono ?_
      rintro e w2 ⟨rfl, hb2⟩
      have hb2' : Below wr.heap.size wr w2 := ((Below.refl wr.heap.size wr).alloc (Nat.le_refl _) (.cells #[.int .i64 xk, .int .i64 xc, .int .i64 xs, .int .i64 xq, .int .i64 xu, .int .i64 xo, .string xa, .string xb, .int .i64 xn] 45)).trans (hb2.mono (by simp))
      have HO2 := ghid (grow_below HO.out hb2' (Nat.le_refl _))
      have HB2 := ghid (HB.out.trans (hb2'.mono hzr))
      have hzz : w.heap.size ≤ w2.heap.size := HB2.out.size
      clear hb2 hb2' d0 d1 d2 d3 d4 d5 d6 d7 d8
      go_wp2_with (at_builtin; refine wpList_append_lies _ rfl (.tmp 21) (.tmp 23) 23 rfl w.heap.size 9 i0 _ 1 16 Tryd.underlying23 hi0 hz0 hz1 hz2 rfl (by decide) (.slice so k sc) k (textCells ((out.take k).map cmdOut)) rfl (HO2.out.alloc _) ⟨w2.heap.size, 0, none⟩ 1 1 [.string t] rfl rfl (World.news_of_block (heap_alloc_new w2 _)) (by intro u hu; simp at hu; subst hu; rfl) (by omega) (by unfold maxLen; omega) (by omega) (by simp; omega) (w2.heap.size + 1) (by simp) ?_)
      intro gn cn w3 hown3 hg3 hat3 hlt3
      have HO3 : Hid (w3.ownsRow w.heap.size 9 1 (.slice (some ⟨gn, 0, none⟩) (k + 1) cn) (k + 1) (textCells ((out.take (k + 1)).map cmdOut))) := by
        unfold Hid
        rw [HTK.out, textCells_snoc]
        simpa [List.map_take] using hown3
      have HB3 := ghid ((HB2.out.alloc hzz (.cells #[.string t] 9)).grown hg3 (by simp; omega) (fun j hj => (HO2.out.lt j hj).1))
      clear hown3 hg3 hat3 hlt3
      go_wp2
      go_roundw
      case rel => exact ⟨k + 1, by omega, by go_num, HO3.out, HB3.out⟩
      case measure => simp [intOf]; omega
    · have hkl : k = out.length := by omega
      subst hkl
      rw [List.take_length] at hown
      have HO := ghid hown
      obtain ⟨so, sc, rfl⟩ := grow_shape hown
      have HB := ghid hb
      clear hown hb
      go_wp2
      go_ret
      exact ⟨_, rfl, by rw [List.length_map]; exact HO.out, HB.out⟩

end Go.Proofs.YtkmeiilnjkmkiaiDoor
