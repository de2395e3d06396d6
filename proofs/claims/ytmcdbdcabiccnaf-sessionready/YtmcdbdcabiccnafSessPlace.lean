/- session.place: where a client's session is, or would be. -/
import Derived.Test.YtmcdbdcabiccnafSessFind
namespace Go.Proofs.Ytmcdbdcabiccnaf
open Go.RowKit

theorem splace1_any (c d a t : Int) (lv : Value) (cl : Int) (b0 : Nat) (w : World) (hc0 : w.cell? ⟨b0, 0, none⟩ = some (.int .i64 cl)) (hb0 : b0 < w.heap.size) :
    Calls Try.prog 42 #[.agg #[.int .i64 c, .int .i64 d, .int .i64 a, .int .i64 t, lv], .pointer (some ⟨b0, 0, none⟩)] w fun e w' => e = .returned (.bool (decide (cl ≤ c))) ∧ Below w.heap.size w w' := by
  go_enter Try.func42, Try.ntmps42
  go_wp2
  go_ret
  exact ⟨rfl, (Below.refl _ _).alloc (Nat.le_refl _) _⟩

theorem placeS_found {ls : List SessD} {cl : Int} (h : placeS ls cl < ls.length) : idxI (fun x => decide (cl ≤ x.client)) ls = placeS ls cl := by
  unfold idxI
  rw [if_pos (by exact h)]
  rfl

theorem placeS_none {ls : List SessD} {cl : Int} (h : ¬ placeS ls cl < ls.length) : idxI (fun x => decide (cl ≤ x.client)) ls = -1 := by
  unfold idxI
  rw [if_neg (by exact h)]

theorem placeS_le (ls : List SessD) (cl : Int) : placeS ls cl ≤ ls.length := List.findIdx_le_length

set_option maxHeartbeats 1600000 in
theorem splace_any (v : Value) (ls : List SessD) (cl : Int) (w : World) (B : Nat) (hv : SessR w B v ls) (hB : B ≤ w.heap.size) :
    Calls Try.prog 22 #[v, .int .i64 cl] w fun e w' => e = .returned (.tuple #[.int .i64 (placeS ls cl : Nat), .bool (thereS ls cl)]) ∧ Below w.heap.size w w' := by
  have hlen := hv.len
  have hb0 : Below w.heap.size w (w.alloc (.cells #[.int .i64 cl] 3)) := (Below.refl _ _).alloc (Nat.le_refl _) _
  have HC := ghid (indexS v ls 42 #[.pointer (some ⟨w.heap.size, 0, none⟩)] (fun x => decide (cl ≤ x.client)) (fun _ => False) _ B (hv.below hb0 hB) (by simp; omega) (enters_of Try.func42 (by decide) rfl) (fun x ao n c w' _ hw => by
    refine splace1_any x.client x.id x.acked x.last _ cl w.heap.size w' ?_ (by have := hw.size; simp at this; omega)
    exact (World.cell?_of_block (hw.block w.heap.size (by simp) (fun h => h))).trans (by simp)))
  by_cases hn : placeS ls cl < ls.length
  · obtain ⟨x, hx⟩ : ∃ x, ls[placeS ls cl]? = some x := ⟨_, List.getElem?_eq_getElem hn⟩
    have ht : thereS ls cl = decide (x.client = cl) := by unfold thereS; rw [hx]
    rw [placeS_found hn] at HC
    obtain ⟨ao, cap, rfl, h1, h2, h3, h4⟩ := hv
    obtain ⟨b, off, rfl, hbB, hc⟩ := h4 (by omega)
    obtain ⟨lv, c0, -⟩ := hc _ x hx
    have he : ∀ a b : Int, decide (a = b) = (a == b) := fun a b => by rw [Bool.eq_iff_iff]; simp
    rw [ht, he]
    clear he
    obtain ⟨n, hne⟩ : ∃ n, n = placeS ls cl := ⟨_, rfl⟩
    rw [← hne] at HC hn c0 ⊢
    obtain ⟨xc, xi, xa, xt, xk⟩ := x
    simp only at c0 ⊢
    clear hx ht h4 hc hne hb0
    go_enter Try.func22, Try.ntmps22
    go_wp2_with fail
    refine HC.out.mono ?_
    rintro e w1 ⟨rfl, hb1⟩
    have HB := ghid (((Below.refl w.heap.size w).alloc (Nat.le_refl _) (.cells #[.int .i64 cl] 3)).trans (hb1.mono (by simp)))
    have d0 : w1.cell? ⟨b, off + n * 5, none⟩ = some (.int .i64 xc) := (HB.out.cell (p := ⟨b, off + n * 5, none⟩) (by show b < w.heap.size; omega)).trans c0
    have d1 : w1.cell? ⟨w.heap.size, 0, none⟩ = some (.int .i64 cl) := (hb1.cell (p := ⟨w.heap.size, 0, none⟩) (by simp)).trans (by simp)
    have hz1 : w.heap.size < w1.heap.size := by have := hb1.size; simp at this; omega
    clear hb1 c0
    go_wp2_with fail
    go_quiet (fail)
    go_wp2
    refine bodyPost_ret (v := .tuple #[.int .i64 n, .bool (xc == cl)]) (by simp [results, Try.results22, go_sem]) rfl ?_
    exact ⟨rfl, HB.out.trans (g_drewN_below _ _ _)⟩
  · have ht : thereS ls cl = false := by unfold thereS; rw [List.getElem?_eq_none (by omega)]
    have hpe : placeS ls cl = ls.length := by have := placeS_le ls cl; omega
    rw [placeS_none hn] at HC
    obtain ⟨ao, cap, rfl, h1, h2, h3, h4⟩ := hv
    rw [ht, hpe]
    clear ht h4 hpe hn hb0
    go_enter Try.func22, Try.ntmps22
    go_wp2_with fail
    refine HC.out.mono ?_
    rintro e w1 ⟨rfl, hb1⟩
    have HB := ghid (((Below.refl w.heap.size w).alloc (Nat.le_refl _) (.cells #[.int .i64 cl] 3)).trans (hb1.mono (by simp)))
    clear hb1
    go_wp2
    refine bodyPost_ret (v := .tuple #[.int .i64 ls.length, .bool false]) (by simp [results, Try.results22, go_sem]) rfl ?_
    exact ⟨rfl, HB.out⟩
end Go.Proofs.Ytmcdbdcabiccnaf
