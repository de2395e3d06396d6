/- pair.Get, and the document's GotOf (joined by program) -/
import Derived.Deep.DeepCutAuto
import Derived.Deep.RegionWith
import Derived.Test.YtijilhbdbeajjaaGreatDoorTT02
import Derived.Test.YtijilhbdbeajjaaGreatDoorTT09
namespace Go.Proofs.YtijilhbdbeajjaaGreatDoor

open Go.RowKit

/-- A reply, as a value. -/
def replyP (c n : Int) (s : ByteArray) : Value := .agg #[.int .i64 c, .int .i64 n, .string s]

/-- An empty reply lies at block b. -/
def PReply (w : World) (b : Nat) : Prop := w.heap[b]? = some (.cells #[.int .i64 0, .int .i64 0, .string ⟨#[]⟩] 73 (0, 0))

theorem PReply.cells {w : World} {b : Nat} (h : PReply w b) : w.cell? ⟨b, 0, none⟩ = some (.int .i64 0) ∧ w.cell? ⟨b, 1, none⟩ = some (.int .i64 0) ∧ w.cell? ⟨b, 2, none⟩ = some (.string ⟨#[]⟩) ∧ ∀ j, w.frozen? ⟨b, j, none⟩ = false :=
  ⟨cell_of_row w b 0 _ _ _ h, cell_of_row w b 1 _ _ _ h, cell_of_row w b 2 _ _ _ h, fun j => frozen_of_row w b j _ _ h⟩

theorem PReply.below {w w' : World} {b : Nat} (h : PReply w b) {B : Nat} (hb : Below B w w') (hB : b < B) : PReply w' b := (hb.block b hB).trans h

theorem PReply.lt {w : World} {b : Nat} (h : PReply w b) : b < w.heap.size := lt_of_block h

theorem PReply.new (w : World) : PReply (w.alloc (.cells #[.int .i64 0, .int .i64 0, .string ⟨#[]⟩] 73)) w.heap.size := heap_alloc_new w _

theorem pbelow3 {B : Nat} {w w' : World} (h : Below B w w') {b : Nat} (hb : B ≤ b) (x y z : Value) : Below B w (((w'.setCell ⟨b, 0, none⟩ x).setCell ⟨b, 1, none⟩ y).setCell ⟨b, 2, none⟩ z) :=
  ((h.setCell (by simpa using hb) x).setCell (by simpa using hb) y).setCell (by simpa using hb) z

set_option maxRecDepth 100000 in
set_option maxHeartbeats 3200000 in
theorem Get_ok (v : Value) (ps : List PairD) (nm : ByteArray) (w : World) (B : Nat) (hv : PairsR w B v ps) (hB : B ≤ w.heap.size) (hr : checkP ps = 0) :
    Calls Tryz.prog 185 #[v, .string nm] w fun e w' => e = .returned (.tuple #[replyP (getP ps nm).1 (getP ps nm).2.1 (getP ps nm).2.2, .int .i64 0]) ∧ Below w.heap.size w w' := by
  have hb0 : Below w.heap.size w (w.alloc (.cells #[.int .i64 0, .int .i64 0, .string ⟨#[]⟩] 73)) := (Below.refl _ _).alloc (Nat.le_refl _) _
  have CR := pairCheck_any v ps _ B (hv.below hb0 hB) (by simp; omega)
  rw [hr] at CR
  have HV := phid hv
  have CP := phid (fun w' (hb : Below w.heap.size w w') => place_any v ps nm w' B (hv.below hb hB) (by have := hb.size; omega))
  cases ht : thereP ps nm with
  | true =>
    obtain ⟨x, hx, hxe⟩ := thereP_yes ht
    rw [getP_there hx hxe]
    rw [ht] at CP
    obtain ⟨n, hne⟩ : ∃ n, n = placeP ps nm := ⟨_, rfl⟩
    rw [← hne] at CP hx
    obtain ⟨ao, cap, rfl, h1, h2, h3, h4⟩ := hv
    have hnl : n < ps.length := (List.getElem?_eq_some_iff.1 hx).1
    obtain ⟨b, off, rfl, hbB, hc⟩ := h4 (by omega)
    obtain ⟨c0, c1, c2, hs0, hs1, -⟩ := hc n x hx
    obtain ⟨xn, xv, xe⟩ := x
    simp only at c1 c2 hs1 ⊢
    clear hx hxe hne hr h4 hc c0 ht
    go_enter Tryz.func185, Tryz.ntmps185
    go_wp2_with fail
    refine CR.mono ?_
    rintro e w1 ⟨rfl, hb1⟩
    have HR1 := phid ((PReply.new w).below hb1 (by simp))
    have HB1 := phid (hb0.trans (hb1.mono (by simp)))
    clear hb1 hb0 CR
    go_wp2_with fail
    refine (CP.out w1 HB1.out).mono ?_
    rintro e w2 ⟨rfl, hb2⟩
    have HR2 := phid (HR1.out.below hb2 HR1.out.lt)
    have HB2 := phid (HB1.out.trans (hb2.mono HB1.out.size))
    have d1 : w2.cell? ⟨b, off + n * 3 + 1, none⟩ = some (.string xv) := (HB2.out.cell (p := ⟨b, off + n * 3 + 1, none⟩) (by show b < w.heap.size; omega)).trans c1
    have d2 : w2.cell? ⟨b, off + n * 3 + 2, none⟩ = some (.int .i64 xe) := (HB2.out.cell (p := ⟨b, off + n * 3 + 2, none⟩) (by show b < w.heap.size; omega)).trans c2
    have hz2 : w.heap.size ≤ w2.heap.size := HB2.out.size
    have hbz : b < w2.heap.size := by omega
    have hq : w.heap.size < w2.heap.size := HR2.out.lt
    have hbw : b ≠ w.heap.size := by omega
    obtain ⟨r0, r1, r2, rf⟩ := HR2.out.cells
    clear hb2 c1 c2 CP HV
    go_wp2_with fail
    go_region_with (go_at_call 134; refine (clone_any xv _ (by omega)).mono ?_; rintro e w3 ⟨rfl, hb3'⟩; have hb3 : Below w2.heap.size w2 w3 := ⟨hb3'.os, hb3'.tape, hb3'.output, hb3'.size, hb3'.block⟩; obtain ⟨hc3, hf3⟩ := pbcell hb3; have hq3 : w.heap.size < w3.heap.size := Nat.lt_of_lt_of_le hq hb3.size; have hz3 : w2.heap.size ≤ w3.heap.size := hb3.size)
    all_goals
      go_wp2
      refine bodyPost_ret (v := .tuple #[replyP 0 xe xv, .int .i64 0]) (by simp [results, Tryz.results185, go_sem, replyP, r0, r1, r2, hc3, hq]) rfl ?_
      exact ⟨rfl, pbelow3 (HB2.out.trans (hb3.mono hz2)) (Nat.le_refl _) _ _ _⟩
  | false =>
    rw [getP_none ht]
    rw [ht] at CP
    obtain ⟨n, hne⟩ : ∃ n, n = placeP ps nm := ⟨_, rfl⟩
    rw [← hne] at CP
    simp only
    obtain ⟨ao, cap, rfl, -⟩ := hv
    clear hne hr ht HV
    go_enter Tryz.func185, Tryz.ntmps185
    go_wp2_with fail
    refine CR.mono ?_
    rintro e w1 ⟨rfl, hb1⟩
    have HR1 := phid ((PReply.new w).below hb1 (by simp))
    have HB1 := phid (hb0.trans (hb1.mono (by simp)))
    clear hb1 hb0 CR
    go_wp2_with fail
    refine (CP.out w1 HB1.out).mono ?_
    rintro e w2 ⟨rfl, hb2⟩
    have HR2 := phid (HR1.out.below hb2 HR1.out.lt)
    have HB2 := phid (HB1.out.trans (hb2.mono HB1.out.size))
    obtain ⟨r0, r1, r2, rf⟩ := HR2.out.cells
    have hq : w.heap.size < w2.heap.size := HR2.out.lt
    clear hb2 CP
    go_wp2
    refine bodyPost_ret (v := .tuple #[replyP 6 0 ⟨#[]⟩, .int .i64 0]) (by simp [results, Tryz.results185, go_sem, replyP, r0, r1, r2]) rfl ?_
    exact ⟨rfl, pbelow3 HB2.out (Nat.le_refl _) _ _ _⟩

end Go.Proofs.YtijilhbdbeajjaaGreatDoor
