/- log.join: lists of texts to one, in memory of its own; The law's sameTexts: what reads as one list is the same (joined by program) -/
import Derived.Laws.StructEq
import Derived.BigQuiet
import Derived.Test.YtbmfahgekcnkaaiRC12
import Derived.Test.YtbmfahgekcnkaaiRC03
import Derived.Test.YtbmfahgekcnkaaiRC02
import Derived.Test.YtbmfahgekcnkaaiRC01
namespace Go.Proofs.Ytbmfahgekcnkaai

open Go.RowKit

theorem textCells_same {ts : List ByteArray} {k : Nat} {t : ByteArray} (h : ts[k]? = some t) : (textCells ts).set k (.string t) = textCells ts := by
  apply List.ext_getElem?
  intro j
  rw [List.getElem?_set]
  by_cases hj : k = j
  · subst hj
    have := (List.getElem?_eq_some_iff.1 h).1
    rw [if_pos rfl, if_pos (by simpa [textCells] using this)]
    simp [textCells, h]
  · rw [if_neg hj]

set_option maxRecDepth 100000 in
set_option maxHeartbeats 1600000 in
theorem join_own (v : Value) (tss : List (List ByteArray)) (w : World) (B : Nat) (hv : ListsR w B v tss) (hB : B ≤ w.heap.size) (hsum : tss.flatten.length * 16 ≤ 140737488351232) (hm : ∀ t ∈ tss.flatten, t.size ≤ 140737488351232) :
    Calls Try.prog 18 #[v] w fun e w' => ∃ vo, e = .returned vo ∧ w'.ownsRow w.heap.size 9 1 vo tss.flatten.length (textCells tss.flatten) ∧ Below w.heap.size w w' := by
  have CC := ghid (concat_any v tss w B hv hB hsum)
  obtain ⟨b, off, cap, rfl, -⟩ := hv
  obtain ⟨ts, hts⟩ : ∃ ts, ts = tss.flatten := ⟨_, rfl⟩
  rw [← hts] at CC hsum hm ⊢
  have HM := ghid hm
  clear hts hm
  go_enter Try.func18, Try.ntmps18
  go_wp2_with fail
  refine CC.out.mono ?_
  rintro e w1 ⟨vo, rfl, hown, hb⟩
  have HO1 := ghid hown
  have HB1 := ghid hb
  obtain ⟨lo, lc, rfl⟩ := grow_shape hown
  clear hown hb CC
  go_wp2
  go_loopw [10] (fun i wr => ∃ k : Nat, k ≤ ts.length ∧ i = .int .i64 k ∧ wr.ownsRow w.heap.size 9 1 (.slice lo ts.length lc) ts.length (textCells ts) ∧ Below w.heap.size w wr) (fun i _ => ts.length - (intOf i).toNat)
  case atStart => exact ⟨0, Nat.zero_le _, rfl, HO1.out, HB1.out⟩
  case round =>
    clear HO1 HB1
    obtain ⟨k, hk, rfl, hown, hb⟩ := hrel
    by_cases hlt : k < ts.length
    · obtain ⟨t, ht⟩ : ∃ t, ts[k]? = some t := ⟨_, List.getElem?_eq_getElem hlt⟩
      obtain ⟨g, cp, e, hg, hgl, hcp⟩ := grow_some hown (by omega)
      simp only [Value.slice.injEq] at e
      obtain ⟨rfl, -, rfl⟩ := e
      have c0 : wr.cell? ⟨g, 0 + k, none⟩ = some (.string t) := by
        rw [Nat.zero_add, hown.cellAt k (by omega)]
        simp [textCells, ht]
      rw [Nat.zero_add] at c0
      have HO := ghid hown
      have HB := ghid hb
      have CL := ghid (fun w => clone_any t w (by have := HM.out t (List.mem_of_getElem? ht); omega))
      have HS := ghid (textCells_same ht)
      clear ht hown hb
      go_wp2_with fail
      refine (CL.out _).mono ?_
      rintro e w2 ⟨rfl, hb2⟩
      have HO2 := ghid (grow_below HO.out hb2 (Nat.le_refl _))
      have HB2 := ghid (HB.out.trans (hb2.mono HB.out.size))
      have hg2 : g < w2.heap.size := (HO2.out.lt g rfl).2
      have f2 : ∀ j, w2.frozen? ⟨g, j, none⟩ = false := fun j => HO2.out.frozenAt j
      have d0 : w2.cell? ⟨g, k, none⟩ = some (.string t) := (hb2.cell (p := ⟨g, k, none⟩) hgl).trans c0
      have HO3 := ghid (HO2.out.stored k (.string t)).1
      rw [HS.out] at HO3
      have HB3 := ghid (HB2.out.setCell (p := ⟨g, k, none⟩) hg (.string t))
      clear hb2 CL
      go_wp2
      go_roundw
      case rel => exact ⟨k + 1, by omega, by go_num, HO3.out, HB3.out⟩
      case measure => simp [intOf]; omega
    · have HO := ghid hown
      have HB := ghid hb
      clear hown hb
      go_wp2
      go_ret
      exact ⟨_, rfl, HO.out, HB.out⟩

theorem ListsR.below {w w' : World} {B : Nat} {v : Value} {tss : List (List ByteArray)} (h : ListsR w B v tss) {B' : Nat} (hb : Below B' w w') (hB : B ≤ B') : ListsR w' B v tss := by
  obtain ⟨b, off, cap, rfl, h1, h2, h3, hc⟩ := h
  refine ⟨b, off, cap, rfl, h1, h2, h3, fun i ts hi => ?_⟩
  obtain ⟨lv, c, ht⟩ := hc i ts hi
  exact ⟨lv, (hb.cell (p := ⟨b, off + i, none⟩) (by simp; omega)).trans c, ht.below hb hB⟩

/-- One list, in a new row. -/
theorem ListsR.one {w : World} {B : Nat} {lv : Value} {ts : List ByteArray} (h : TextsR w B lv ts) (hB : B ≤ w.heap.size) : ListsR (w.alloc (.cells #[lv] 22)) (w.heap.size + 1) (.slice (some ⟨w.heap.size, 0, none⟩) 1 1) [ts] := by
  refine ⟨w.heap.size, 0, 1, rfl, Nat.lt_succ_self _, Nat.le_refl _, by simp, fun i us hi => ?_⟩
  have hi0 : i = 0 := by have := (List.getElem?_eq_some_iff.1 hi).1; simpa using this
  subst hi0
  simp only [List.getElem?_cons_zero, Option.some.injEq] at hi
  subst hi
  exact ⟨lv, cells_of (heap_alloc_new w _) 0, (h.below ((Below.refl w.heap.size w).alloc (Nat.le_refl _) _) hB).mono (by omega)⟩

theorem zset2 {B : Nat} {w0 w : World} (h : Below B w0 w) {b : Nat} (hb : B ≤ b) (a0 a1 : Value) : Below B w0 ((w.setCell ⟨b, 0, none⟩ a0).setCell ⟨b, 1, none⟩ a1) :=
  (h.setCell (by simpa using hb) a0).setCell (by simpa using hb) a1

theorem two_free {w : World} {p : Nat} {x0 x1 : Value} {t : TypeId} (h : w.heap[p]? = some (.cells #[x0, x1] t (0, 0))) :
    w.cell? ⟨p, 0, none⟩ = some x0 ∧ w.cell? ⟨p, 1, none⟩ = some x1 ∧ (∀ j, w.frozen? ⟨p, j, none⟩ = false) ∧ p < w.heap.size :=
  ⟨cells_of h 0, cells_of h 1, fun j => frozen_of_row w p j _ _ h, (Array.getElem?_eq_some_iff.1 h).1⟩

theorem zset2_row {w : World} {base : Nat} {e : TypeId} {size : Nat} {v : Value} {n : Nat} {xs : List Value} (h : w.ownsRow base e size v n xs) {b : Nat} (hb : b < base) (a0 a1 : Value) : ((w.setCell ⟨b, 0, none⟩ a0).setCell ⟨b, 1, none⟩ a1).ownsRow base e size v n xs :=
  grow_keep h fun c hc => by
    have := (h.lt c hc).1
    rw [heap_setCell_other _ _ _ _ (by simp; omega), heap_setCell_other _ _ _ _ (by simp; omega)]

/-- A row of the call's own reads as it does, whatever older blocks hold. -/
theorem row_new {w : World} {base : Nat} {v : Value} {ts : List ByteArray} (h : w.ownsRow base 9 1 v ts.length (textCells ts)) (hm : ∀ t ∈ ts, t.size ≤ 140737488351232) (hl : ts.length * 16 ≤ 140737488351232) : NewR base w (fun u => TextsR u u.heap.size v ts) :=
  fun _ hu => texts_reads (grow_keep h fun b hb => hu.block b (h.lt b hb).2 (by have := (h.lt b hb).1; omega)) hm hl (Nat.le_refl _)

end Go.Proofs.Ytbmfahgekcnkaai

namespace Go.Proofs.Ytbmfahgekcnkaai

open Go.RowKit

set_option maxRecDepth 100000 in
set_option maxHeartbeats 1600000 in
theorem sameTexts_eq (v u : Value) (ps : List ByteArray) (w : World) (B B' : Nat) (hv : TextsR w B v ps) (hu : TextsR w B' u ps) :
    Calls Try.prog 9 #[v, u] w fun e w' => e = .returned (.bool true) ∧ ∃ n, w' = w.drewN n := by
  obtain ⟨ao, cap, rfl, h1, h2, h3, h4⟩ := hv
  obtain ⟨au, cau, rfl, g1, g2, g3, g4⟩ := hu
  go_enter Try.func9, Try.ntmps9
  go_wp2
  go_loopw [5] (fun i wr => ∃ k n : Nat, k ≤ ps.length ∧ i = .int .i64 k ∧ wr = w.drewN n) (fun i _ => ps.length - (intOf i).toNat)
  case atStart => exact ⟨0, 0, Nat.zero_le _, rfl, rfl⟩
  case round =>
    obtain ⟨k, n, hk, rfl, rfl⟩ := hrel
    by_cases hlt : k < ps.length
    · obtain ⟨b, off, rfl, hb, hc⟩ := h4 (by omega)
      obtain ⟨b', off', rfl, hb', hc'⟩ := g4 (by omega)
      obtain ⟨x, hx⟩ : ∃ x, ps[k]? = some x := ⟨_, List.getElem?_eq_getElem hlt⟩
      obtain ⟨c0, -⟩ := hc k x hx
      obtain ⟨d0, -⟩ := hc' k x hx
      clear hx hc h4 hc' g4
      go_wp2
      go_quiet (fail)
      go_wp2
      go_roundw
      case rel => exact ⟨k + 1, _, by omega, by go_num, rfl⟩
      case measure => simp [intOf]; omega
    · go_wp2
      go_ret
      exact ⟨rfl, n, rfl⟩

end Go.Proofs.Ytbmfahgekcnkaai
