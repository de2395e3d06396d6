/- The document's LocksCopy: the same locks, in memory of their own. -/
import Derived.Test.YtkmkocbpclkhhacOwnPut
import Derived.Test.YtkmkocbpclkhhacLawsWide
import Derived.Test.YtkmkocbpclkhhacLockInsert
import Derived.Deep.RegionHeld3
namespace Go.Proofs.Ytkmkocbpclkhhac
open Go.RowKit

/-- One lock more behind the others. -/
theorem OwnL.append {wr w1 w2 : World} {base gn cn : Nat} {v lv : Value} {o1 : Obj} {rs : List (LockD × Value)} {x : LockD} (h : OwnL wr base v rs) (hg1 : wr.grownBy w1 none) (hown1 : w1.ownsRow wr.heap.size 3 1 lv x.line.length (intCells x.line)) (hbase : base ≤ wr.heap.size)
    (hg2 : (w1.alloc o1).grownBy w2 v.ownBlock) (hown2 : w2.ownsRow base 47 4 (.slice (some ⟨gn, 0, none⟩) (rs.length + 1) cn) (rs.length + 1) (flat rs ++ lockCells (x, lv))) (hat : v.ownBlock = some gn ∨ gn = w1.heap.size + 1)
    (hl : x.line.length * 8 ≤ 140737488351232) (hn : x.name.size ≤ 140737488351232) (h56 : (rs.length + 1) * 56 ≤ 140737488351232) : OwnL w2 base (.slice (some ⟨gn, 0, none⟩) (rs.length + 1) cn) (rs ++ [(x, lv)]) := by
  have hz1 := hg1.size
  have hlv : ∀ b, lv.ownBlock = some b → wr.heap.size ≤ b ∧ b < w1.heap.size := fun b hb => hown1.lt b hb
  have hvb : ∀ b, v.ownBlock = some b → b < wr.heap.size := fun b hb => (h.row.lt b hb).2
  have keep1 : ∀ b, b < wr.heap.size → v.ownBlock ≠ some b → w2.heap[b]? = wr.heap[b]? := fun b hb hne => by
    rw [hg2.block b (by simp; omega) (Ne.symm hne), Below.heap_alloc _ _ _ (by omega)]
    exact hg1.block b hb (by intro e; cases e)
  have keep2 : ∀ b, lv.ownBlock = some b → w2.heap[b]? = w1.heap[b]? := fun b hb => by
    have := hlv b hb
    rw [hg2.block b (by simp; omega) (fun e => by have := hvb b e.symm; omega), Below.heap_alloc _ _ _ this.2]
  have hlines : Lines w2 base rs := h.lines.keep fun b hb => keep1 b (h.lines.lt hb).2 (h.apart b hb)
  have hsn : Lines w2 base (rs ++ [(x, lv)]) := hlines.snoc (ownsRow_keep (ownsRow_mono hown1 hbase) keep2) hl hn (fun b hb hin => by have := (hlv b hb).1; have := (h.lines.lt hin).2; omega)
  refine ⟨by simpa [flat_snoc] using hown2, hsn, fun b hb e => ?_, by simpa using h56⟩
  have he : gn = b := by simpa [Value.ownBlock] using e
  subst he
  rw [lineBlocks_snoc, List.mem_append] at hb
  rcases hb with hb | hb
  · rcases hat with e2 | e2
    · exact h.apart gn hb e2
    · have := (h.lines.lt hb).2; omega
  · have hb' := hlv gn (by simpa using hb)
    rcases hat with e2 | e2
    · have := hvb gn e2; omega
    · omega

set_option maxRecDepth 100000 in
set_option maxHeartbeats 3200000 in
theorem locksCopy_any (v : Value) (ls : List LockD) (w : World) (B : Nat) (hv : LocksR w B v ls) (hB : B ≤ w.heap.size) :
    Calls Try.prog 8 #[v] w fun e w' => ∃ v' rs, e = .returned v' ∧ rs.map (·.1) = ls ∧ OwnL w' w.heap.size v' rs ∧ Below w.heap.size w w' := by
  obtain ⟨i0, hi, hz0, hz1, hz2⟩ := info_parts Try.infoLock
  obtain ⟨j0, hj, hy0, hy1, hy2⟩ := info_parts Try.infoInt
  obtain ⟨ao, cap, rfl, h1, h2, h3, h4⟩ := hv
  go_enter Try.func8, Try.ntmps8
  go_wp2
  go_loopw [3, 4] (fun o i wr => ∃ (k : Nat) (rs : List (LockD × Value)), k ≤ ls.length ∧ i = .int .i64 k ∧ rs.map (·.1) = ls.take k ∧ OwnL wr w.heap.size o rs ∧ Below w.heap.size w wr)
    (fun _ i _ => ls.length - (intOf i).toNat)
  case atStart => exact ⟨0, [], Nat.zero_le _, rfl, by simp, ⟨World.ownsRow_nil _ _ _ _, Lines.nil _ _, by simp [lineBlocks], by simp⟩, Below.refl _ _⟩
  case round =>
    rename_i o i wr
    obtain ⟨k, rs, hk, rfl, hrs, hown, hb⟩ := hrel
    have HR : Hid (rs.map (·.1) = ls.take k) := hrs
    have hrl : rs.length = k := by
      have := congrArg List.length hrs
      simp at this
      omega
    clear hrs
    by_cases hlt : k < ls.length
    · obtain ⟨b, off, rfl, hbB, hc⟩ := h4 (by omega)
      obtain ⟨x, hx⟩ : ∃ x, ls[k]? = some x := ⟨_, List.getElem?_eq_getElem hlt⟩
      obtain ⟨lv, c0, c1, c2, c3, hl, hs⟩ := (hc k x hx).below hbB hb hB
      have HX : Hid (ls[k]? = some x) := hx
      obtain ⟨lo, lc, rfl, hl1, hl2, hl3, hl4⟩ := hl
      have hsz := hb.size
      have HRL := Hid.mk' hrl
      have HO := Hid.mk' hown
      obtain ⟨oo, oc, rfl⟩ := ownsRow_shape hown.row
      clear hx hc h4 hown hrl
      obtain ⟨xn, xh, xf, xl⟩ := x
      simp only at c0 c1 c2 c3 hs hl1 hl2 hl3 hl4
      have HN1 : Hid (lo = none → xl.length = 0 ∧ lc = 0) := fun e => by have := hl3 e; omega
      have HN2 : Hid (∀ a, lo = some a → ∀ j u, (intCells xl)[j]? = some u → wr.drew.cell? (a.add j) = some u) := by
        intro a e
        refine intCells_at fun hp => ?_
        obtain ⟨lb, lf, e2, hlt2, hc2⟩ := hl4 hp
        rw [e] at e2
        exact ⟨lb, lf, by simpa using e2, hc2⟩
      clear hl3 hl4
      have hbr : b < wr.heap.size := by omega
      go_wp2_with fail
      go_region_held3 (fun w' => w'.cell? ⟨b, off + k * 4, none⟩ = some (.string xn) ∧ w'.cell? ⟨b, off + k * 4 + 1, none⟩ = some (.int .i64 xh) ∧ w'.cell? ⟨b, off + k * 4 + 2, none⟩ = some (.int .i64 xf) ∧ w'.cell? ⟨b, off + k * 4 + 3, none⟩ = some (.slice lo xl.length lc)) (go_keep)
        (first
          | (refine step_append_fresh rfl _ (.tmp 31) 43 rfl 3 j0 _ 1 8 Try.underlying43 hj hy0 hy1 hy2 rfl (by decide) (by simp [Act.eval]) lo xl.length lc (intCells xl) (by simp [Act.eval]) HN1.out (by simp [intCells]) HN2.out (intCells_one xl) (by unfold maxLen; omega) (by omega) ?_; intro v1 w1 hown1 hg1; obtain ⟨vo, vc, rfl⟩ := ownsRow_shape hown1; have hzz : wr.heap.size ≤ w1.heap.size := hg1.size; have kk : ∀ j, w1.cell? ⟨b, j, none⟩ = wr.cell? ⟨b, j, none⟩ := fun j => hg1.cell_far ⟨b, j, none⟩ hbr (by intro h; cases h))
          | (refine step_append_lies _ rfl (.tmp 11) (.tmp 34) 22 rfl w.heap.size 47 i0 _ 4 56 Try.underlying22 hi hz0 hz1 hz2 rfl (by decide) (.slice oo rs.length oc) rs.length (flat rs) (by simp [Act.eval]) ((ownsRow_keep HO.out.row (fun c hcb => hg1.block c (HO.out.row.lt c hcb).2 (by intro h; cases h))).alloc _) ⟨w1.heap.size, 0, none⟩ 1 1 (lockCells (⟨xn, xh, xf, xl⟩, .slice vo xl.length vc)) (by simp [Act.eval]) rfl (World.news_of_block (heap_alloc_new w1 _)) (lockCells_one _ rfl) (by omega) (by have := HRL.out; unfold maxLen; omega) (by have := HRL.out; omega) (by simp; omega) (w1.heap.size + 1) (by simp) ?_; intro gn cn w2 hown2 hg2 hat2 hlt2; have kk2 : ∀ j, w2.cell? ⟨b, j, none⟩ = wr.cell? ⟨b, j, none⟩ := fun j => (hg2.cell_far ⟨b, j, none⟩ (by simp; omega) (by intro h; have := (HO.out.row.lt b h.symm).1; omega)).trans ((World.cell?_alloc_lt _ _ _ (by show b < w1.heap.size; omega)).trans (kk j))))
      have HF := Hid.mk' (HO.out.append (x := ⟨xn, xh, xf, xl⟩) (show wr.grownBy w1 none from ⟨hg1.os, hg1.tape, hg1.output, hg1.size, hg1.block⟩) hown1 hsz hg2 hown2 hat2 hl2 hs (by have := HRL.out; omega))
      have HB := Hid.mk' ((((hb.drew).grown hg1 (by show w.heap.size ≤ wr.heap.size; omega) (fun c hc => by cases hc)).alloc (by omega) _).grown hg2 (by simp; omega) (fun c hc => (HO.out.row.lt c hc).1))
      clear hown1 hg1 hown2 hg2 hat2 hlt2 kk kk2 hi hz0 hz1 hz2 hj hy0 hy1 hy2
      go_wp2
      go_roundw
      case rel =>
        refine ⟨k + 1, rs ++ [(⟨xn, xh, xf, xl⟩, .slice vo xl.length vc)], by omega, by go_num, ?_, HF.out, HB.out⟩
        rw [List.map_append, HR.out, List.take_succ_eq_append_getElem hlt]
        have := (List.getElem?_eq_some_iff.1 HX.out).2
        simp [this]
      case measure => simp [intOf]; omega
    · have hkl : k = ls.length := by omega
      subst hkl
      have HO := Hid.mk' hown
      obtain ⟨oo, oc, rfl⟩ := ownsRow_shape hown.row
      clear hown hrl h4
      go_wp2
      go_ret
      exact ⟨_, rs, rfl, by rw [HR.out, List.take_of_length_le (Nat.le_refl _)], HO.out, hb⟩
end Go.Proofs.Ytkmkocbpclkhhac
