/- session.Fresh: without those that said nothing for so long. -/
import Derived.Test.YtmcdbdcabiccnafSessForm
import Derived.Test.YtmcdbdcabiccnafSessDelF
namespace Go.Proofs.Ytmcdbdcabiccnaf
open Go.RowKit

theorem fresh1_any (c d a t : Int) (lv : Value) (i : Int) (b0 : Nat) (w : World) (hc0 : w.cell? ⟨b0, 0, none⟩ = some (.int .i64 i)) (hb0 : b0 < w.heap.size) (ht0 : 0 ≤ t) (ht1 : t ≤ 1073741824) :
    Calls Try.prog 37 #[.agg #[.int .i64 c, .int .i64 d, .int .i64 a, .int .i64 t, lv], .pointer (some ⟨b0, 0, none⟩)] w fun e w' => e = .returned (.bool (decide (t + 40 ≤ i))) ∧ Below w.heap.size w w' := by
  go_enter Try.func37, Try.ntmps37
  go_wp2
  go_ret
  exact ⟨rfl, (Below.refl _ _).alloc (Nat.le_refl _) _⟩

theorem freshS_eq (rs : List (SessD × Value)) (i : Int) : (rs.filter fun r => !decide (r.1.last + 40 ≤ i)).map (·.1) = freshS (rs.map (·.1)) i := by
  unfold freshS
  rw [List.filter_map]
  congr 1
  apply List.filter_congr
  intro r _
  simp only [freshP, Function.comp]
  rw [Bool.eq_iff_iff]
  simp

set_option maxHeartbeats 1600000 in
theorem Fresh_bad (v : Value) (ls : List SessD) (i : Int) (w : World) (B : Nat) (hv : SessR w B v ls) (hB : B ≤ w.heap.size) (hr : checkS ls i ≠ 0) :
    Calls Try.prog 18 #[v, .int .i64 i] w fun e w' => e = .returned (.tuple #[.slice none 0 0, .int .i64 (checkS ls i)]) ∧ Below w.heap.size w w' := by
  have hb0 : Below w.heap.size w (w.alloc (.cells #[.int .i64 i] 3)) := (Below.refl _ _).alloc (Nat.le_refl _) _
  have C := sessCheck_any v ls i _ B (hv.below hb0 hB) (by simp; omega)
  have HR := ghid hr
  obtain ⟨ec, hec⟩ : ∃ ec, ec = checkS ls i := ⟨_, rfl⟩
  rw [← hec] at C hr ⊢
  obtain ⟨ao, cap, rfl, -⟩ := hv
  have hr2 : (ec == 0) = false := by simpa using hr
  clear hec HR
  go_enter Try.func18, Try.ntmps18
  go_wp2_with fail
  refine C.mono ?_
  rintro e w1 ⟨rfl, hb1⟩
  have HB := ghid (hb0.trans (hb1.mono (by simp)))
  clear hb1 hb0 C
  go_wp2
  refine bodyPost_ret (v := .tuple #[.slice none 0 0, .int .i64 ec]) (by simp [results, Try.results18, go_sem]) rfl ?_
  exact ⟨rfl, HB.out⟩

set_option maxHeartbeats 1600000 in
theorem Fresh_ok (v : Value) (ls : List SessD) (i : Int) (w : World) (B : Nat) (hv : SessR w B v ls) (hB : B ≤ w.heap.size) (hr : checkS ls i = 0) :
    Calls Try.prog 18 #[v, .int .i64 i] w fun e w' => ∃ v', e = .returned (.tuple #[v', .int .i64 0]) ∧ SessR w' w'.heap.size v' (freshS ls i) ∧ Below w.heap.size w w' := by
  have hb0 : Below w.heap.size w (w.alloc (.cells #[.int .i64 i] 3)) := (Below.refl _ _).alloc (Nat.le_refl _) _
  have C := sessCheck_any v ls i _ B (hv.below hb0 hB) (by simp; omega)
  have HGD := ghid (checkS_zero hr)
  rw [hr] at C
  have HV := ghid hv
  obtain ⟨ao, cap, rfl, -⟩ := hv
  have HB0 := ghid hb0
  clear hb0
  go_enter Try.func18, Try.ntmps18
  go_wp2_with fail
  refine C.mono ?_
  rintro e w1 ⟨rfl, hb1⟩
  have hb01 := HB0.out.trans (hb1.mono (by simp))
  have d0 : w1.cell? ⟨w.heap.size, 0, none⟩ = some (.int .i64 i) := (hb1.cell (p := ⟨w.heap.size, 0, none⟩) (by simp)).trans (by simp)
  have hz1 : w.heap.size < w1.heap.size := by have := hb1.size; simp at this; omega
  have HB01 := ghid hb01
  clear hb1 hb01 C
  go_wp2_with fail
  refine (sessCopy_any _ ls w1 B (HV.out.below HB01.out hB) (by omega)).mono ?_
  rintro e w2 ⟨rfl, rs, hrs, hown, -, hb2⟩
  have hz2 : w1.heap.size ≤ w2.heap.size := hb2.size
  have HB2 := ghid hb2
  have HRS := ghid hrs
  have CD := deleteFuncS w1.heap.size ls.length ls.length rs 37 #[.pointer (some ⟨w.heap.size, 0, none⟩)] (fun x => decide (x.last + 40 ≤ i)) w2 w1.heap.size hown (enters_of Try.func37 (by decide) rfl) (fun x ao n c w' hx hw => by
    rw [hrs] at hx
    have hf := rangeB_iff.1 (HGD.out.fine x hx).range
    have := HGD.out.high
    refine fresh1_any x.client x.id x.acked x.last _ i w.heap.size w' ?_ (by have := hw.size; omega) (by omega) (by omega)
    rw [World.cell?_of_block (hw.block w.heap.size (by omega) (by omega))]
    exact (HB2.out.cell (p := ⟨w.heap.size, 0, none⟩) hz1).trans d0)
  clear hown hb2 hrs
  go_wp2_with fail
  refine CD.mono ?_
  rintro e w3 ⟨m, rfl, hown3, hT⟩
  have HR3 := ghid (hown3.reads (Nat.le_refl _))
  rw [freshS_eq, HRS.out] at HR3
  have HB3 := ghid (HB01.out.trans ((HB2.out.mono (by omega)).trans (hT.below (by omega) (fun k hk => by omega))))
  clear hown3 hT CD
  go_wp2
  refine bodyPost_ret (v := .tuple #[.slice (some ⟨w1.heap.size, 0, none⟩) m ls.length, .int .i64 0]) (by simp [results, Try.results18, go_sem]) rfl ?_
  exact ⟨_, rfl, HR3.out, HB3.out⟩
end Go.Proofs.Ytmcdbdcabiccnaf
