/- The document's SessionsCopy: the same sessions, in memory of their own. -/
import Derived.Test.YtmcdbdcabiccnafSessOwn
import Derived.Test.YtmcdbdcabiccnafLawsWide
import Derived.Deep.AppendLies
namespace Go.Proofs.Ytmcdbdcabiccnaf
open Go.RowKit

theorem kepts_cells {w : World} {b off : Nat} {ks : List KeptD} (hc : ∀ (i : Nat) (x : KeptD), ks[i]? = some x → KeptAt w b (off + i * 4) x) : ∀ (j : Nat) (u : Value), (flatG keptCells ks)[j]? = some u → w.cell? ⟨b, off + j, none⟩ = some u := by
  intro j u hj
  have hjl : j < ks.length * 4 := by rw [← flatG_length keptCells_len]; exact (List.getElem?_eq_some_iff.1 hj).1
  obtain ⟨x, hx⟩ : ∃ x, ks[j / 4]? = some x := ⟨_, List.getElem?_eq_getElem (by omega)⟩
  obtain ⟨c0, c1, c2, c3, -⟩ := hc _ x hx
  have e := flatG_at keptCells_len hx (j % 4) (by omega)
  rw [show j / 4 * 4 + j % 4 = j by omega, hj] at e
  rcases (by omega : j % 4 = 0 ∨ j % 4 = 1 ∨ j % 4 = 2 ∨ j % 4 = 3) with h | h | h | h
  · rw [h] at e
    rw [show off + j = off + j / 4 * 4 by omega, c0, e]; rfl
  · rw [h] at e
    rw [show off + j = off + j / 4 * 4 + 1 by omega, c1, e]; rfl
  · rw [h] at e
    rw [show off + j = off + j / 4 * 4 + 2 by omega, c2, e]; rfl
  · rw [h] at e
    rw [show off + j = off + j / 4 * 4 + 3 by omega, c3, e]; rfl

theorem kepts_news {w w' : World} {B : Nat} {ao : Option Addr} {cap : Nat} {ks : List KeptD} (h : KeptsR w B (.slice ao ks.length cap) ks) (hb : Below B w w') : ∀ a, ao = some a → ∀ j u, (flatG keptCells ks)[j]? = some u → w'.cell? (a.add j) = some u := by
  obtain ⟨ao', cap', he, h1, h2, h3, h4⟩ := h
  simp only [Value.slice.injEq] at he
  obtain ⟨rfl, -, rfl⟩ := he
  intro a ha j u hj
  have hjl : j < ks.length * 4 := by rw [← flatG_length keptCells_len]; exact (List.getElem?_eq_some_iff.1 hj).1
  obtain ⟨b, off, e, hlt, hc⟩ := h4 (by omega)
  rw [ha] at e
  simp only [Option.some.injEq] at e
  subst e
  rw [gadd]
  exact (hb.cell (p := ⟨b, off + j, none⟩) hlt).trans (kepts_cells hc j u hj)

theorem gappend_fresh {P : Program} {w : World} {ops : Array Oper} {rest : List Oper} {o : Oper} {a : Act} {Q : Exit → Act → World → Prop} (hgd : o.guard = none) (s x : Operand) (t : TypeId)
    (ho : o.op = .call { callee := .builtin .append, args := #[s, x], argTypes := #[t, t] })
    (e : TypeId) (i : TypeInfo) (z : Value) (size bytes : Nat) (ht : P.underlying t = some (.slice e)) (hi : P.info? e = some i) (hz : i.zero = some z) (hsize : i.size = size) (hby : i.bytes = bytes) (hzs : z.cells.size = size) (hsz : 0 < size)
    (hs : a.eval s = .slice none 0 0) (ao : Option Addr) (m c : Nat) (news : List Value) (hx : a.eval x = .slice ao m c) (hnone : ao = none → m = 0 ∧ c = 0) (hl : news.length = m * size) (hnews : ∀ a, ao = some a → ∀ j u, news[j]? = some u → w.cell? (a.add j) = some u) (h1 : ∀ u ∈ news, u.oneCell' = true) (h63 : m ≤ maxLen) (hbytes : m * bytes ≤ 140737488355328)
    (h : ∀ v' w', w'.ownsRow w.heap.size e size v' m news → w.grownBy w' none → wpList P ops Q rest (a.put o.dst v') w') : wpList P ops Q (o :: rest) a w :=
  wpList_plain hgd fun _ hK => wp_append_fresh s x t ho e i z size bytes ht hi hz hsize hby hzs hsz hs ao m c news hx hnone hl hnews h1 h63 hbytes fun v' w' h2 h3 => hK _ _ (h v' w' h2 h3)

/-- One session more behind the others. -/
theorem OwnS.append {wr wk w2 : World} {base : Nat} {v v' lv : Value} {rs : List (SessD × Value)} {x : SessD} (h : OwnS wr base v rs) (hb : Below wr.heap.size wr wk) (hk : OwnK wk wr.heap.size lv x.replies) (hbase : base ≤ wr.heap.size)
    (hg : wk.grownBy w2 v.ownBlock) (hrow : w2.ownsRow base 51 5 v' (rs.length + 1) (flatG sessCells rs ++ sessCells (x, lv))) (h56 : (rs.length + 1) * 56 ≤ 140737488351232) : OwnS w2 base v' (rs ++ [(x, lv)]) := by
  have hvb : ∀ b, v.ownBlock = some b → b < wr.heap.size := fun b hb => (h.row.lt b hb).2
  have hsz := hb.size
  refine ⟨by simpa [flatG_snoc] using hrow, ?_, by simpa using h56⟩
  refine Reps.snoc (h.reps.keep fun b hbk => ?_) ((hk.mono hbase).keep fun b hbk => ?_) fun b hbk hin => ?_
  · have hlt := (h.reps.lt hbk).2
    rw [hg.block b (by omega) (fun e => h.apart hbk e.symm)]
    exact hb.block b hlt
  · have hlt := hk.row.lt b hbk
    exact hg.block b hlt.2 (fun e => by have := hvb b e.symm; omega)
  · have := (h.reps.lt hin).2
    have := (hk.row.lt b hbk).1
    omega

set_option maxRecDepth 100000 in
set_option maxHeartbeats 3200000 in
theorem sessionsCopy_any (v : Value) (ls : List SessD) (w : World) (B : Nat) (hv : SessR w B v ls) (hB : B ≤ w.heap.size) :
    Calls Try.prog 19 #[v] w fun e w' => ∃ v' rs, e = .returned v' ∧ rs.map (·.1) = ls ∧ OwnS w' w.heap.size v' rs ∧ Below w.heap.size w w' := by
  obtain ⟨i0, hi, hz0, hz1, hz2⟩ := info_parts Try.infoSess
  obtain ⟨j0, hj, hy0, hy1, hy2⟩ := info_parts Try.infoKept
  obtain ⟨ao, cap, rfl, h1, h2, h3, h4⟩ := hv
  go_enter Try.func19, Try.ntmps19
  go_wp2
  go_loopw [3, 4] (fun o i wr => ∃ (k : Nat) (rs : List (SessD × Value)), k ≤ ls.length ∧ i = .int .i64 k ∧ rs.map (·.1) = ls.take k ∧ OwnS wr w.heap.size o rs ∧ Below w.heap.size w wr)
    (fun _ i _ => ls.length - (intOf i).toNat)
  case atStart => exact ⟨0, [], Nat.zero_le _, rfl, by simp, OwnS.nil _ _, Below.refl _ _⟩
  case round =>
    rename_i o i wr
    obtain ⟨k, rs, hk, rfl, hrs, hown, hb⟩ := hrel
    have HR := ghid hrs
    have hrl : rs.length = k := by
      have := congrArg List.length hrs
      simp at this
      omega
    clear hrs
    by_cases hlt : k < ls.length
    · obtain ⟨b, off, rfl, hbB, hc⟩ := h4 (by omega)
      obtain ⟨x, hx⟩ : ∃ x, ls[k]? = some x := ⟨_, List.getElem?_eq_getElem hlt⟩
      obtain ⟨lv, c0, c1, c2, c3, c4, hl⟩ := (hc k x hx).below hbB hb hB
      have HX := ghid hx
      have HL := ghid hl
      have HM : Hid (x.replies.length * 40 ≤ 140737488351232 ∧ ModestK x.replies) := ⟨hl.len, hl.modest⟩
      have hsz := hb.size
      have HRL := ghid hrl
      have HO := ghid hown
      have HB := ghid hb
      obtain ⟨oo, oc, rfl⟩ := grow_shape hown.row
      obtain ⟨lo, lc, rfl, m1, -, m3, -⟩ := hl
      clear hx hc h4 hown hrl hb
      obtain ⟨xc, xi, xa, xt, xk⟩ := x
      simp only at c0 c1 c2 c3 c4 HL HM m1
      have hbr : b < wr.heap.size := by omega
      have hln : xk.length * 40 ≤ 140737488351232 := HM.out.1
      obtain ⟨W1, hW1⟩ : ∃ W1, W1 = wr.alloc (.cells #[.int .i64 xc, .int .i64 xi, .int .i64 xa, .int .i64 xt, .slice lo xk.length lc] 51) := ⟨_, rfl⟩
      have hb1 : Below wr.heap.size wr W1 := by rw [hW1]; exact (Below.refl _ _).alloc (Nat.le_refl _) _
      have HG1 : Hid (W1.heap[wr.heap.size]? = some (.cells #[.int .i64 xc, .int .i64 xi, .int .i64 xa, .int .i64 xt, .slice lo xk.length lc] 51 (0, 0))) := by unfold Hid; rw [hW1]; exact heap_alloc_new wr _
      have hzW : W1.heap.size = wr.heap.size + 1 := by rw [hW1]; simp
      have HN1 : Hid (lo = none → xk.length = 0 ∧ lc = 0) := fun e => by have := m3 e; omega
      have HN2 := ghid (kepts_news HL.out (hb1.mono (by omega)))
      have HB1 := ghid hb1
      clear m3 hb1
      go_wp2_with (at_builtin; refine gappend_fresh rfl _ (.tmp 17) 49 rfl 54 j0 _ 4 40 Try.underlying49 hj hy0 hy1 hy2 rfl (by decide) rfl lo xk.length lc (flatG keptCells xk) rfl HN1.out (flatG_length keptCells_len xk) (by rw [← hW1]; exact HN2.out) (flatG_one keptCells_one xk) (by unfold maxLen; omega) (by omega) ?_)
      intro v2 w2 hown2 hgrow2
      rw [← hW1] at hgrow2
      replace hown2 : w2.ownsRow W1.heap.size 54 4 v2 xk.length (flatG keptCells xk) := by rw [hzW]; simpa using hown2
      obtain ⟨vo, vc, rfl⟩ := grow_shape hown2
      have hb12 : Below W1.heap.size W1 w2 := (Below.refl _ _).grown hgrow2 (Nat.le_refl _) (fun c hc => by cases hc)
      have hb02 : Below wr.heap.size wr w2 := HB1.out.trans (hb12.mono (by omega))
      have g2 := (hb12.block wr.heap.size (by omega)).trans HG1.out
      have hz2' : wr.heap.size + 1 ≤ w2.heap.size := by have := hb12.size; omega
      have x0 := cell_of_row w2 wr.heap.size 0 _ _ _ g2
      have x1 := cell_of_row w2 wr.heap.size 1 _ _ _ g2
      have x2 := cell_of_row w2 wr.heap.size 2 _ _ _ g2
      have x3 := cell_of_row w2 wr.heap.size 3 _ _ _ g2
      have x4 := cell_of_row w2 wr.heap.size 4 _ _ _ g2
      have xf := fun j => frozen_of_row w2 wr.heap.size j _ _ g2
      simp only [List.getElem?_toArray, List.getElem?_cons_zero, List.getElem?_cons_succ] at x0 x1 x2 x3 x4
      obtain ⟨W3, hW3⟩ : ∃ W3, W3 = w2.setCell ⟨wr.heap.size, 4, none⟩ (.slice vo xk.length vc) := ⟨_, rfl⟩
      have hz3 : W3.heap.size = w2.heap.size := by rw [hW3]; simp [World.setCell]
      have k3 : ∀ b, b ≠ wr.heap.size → W3.heap[b]? = w2.heap[b]? := fun b hbk => by rw [hW3]; exact heap_setCell_other _ _ _ _ (by simpa using hbk)
      have HB3 : Hid (Below wr.heap.size wr W3) := by unfold Hid; rw [hW3]; exact hb02.setCell (Nat.le_refl _) _
      have HOK : Hid (OwnK W3 wr.heap.size (.slice vo xk.length vc) xk) := by
        have o : OwnK w2 W1.heap.size (.slice vo xk.length vc) xk := ⟨hown2, HM.out.1, HM.out.2⟩
        exact (o.keep fun b hbk => k3 b (by have := (hown2.lt b hbk).1; omega)).mono (by omega)
      obtain ⟨W4, hW4⟩ : ∃ W4, W4 = W3.alloc (.cells #[.int .i64 xc, .int .i64 xi, .int .i64 xa, .int .i64 xt, .slice vo xk.length vc] 51) := ⟨_, rfl⟩
      have HB34 : Hid (Below W3.heap.size W3 W4) := by unfold Hid; rw [hW4]; exact (Below.refl _ _).alloc (Nat.le_refl _) _
      have HB4 : Hid (Below wr.heap.size wr W4) := HB3.out.trans (HB34.out.mono (by omega))
      have HROW : Hid (W4.ownsRow w.heap.size 51 5 (.slice oo rs.length oc) rs.length (flatG sessCells rs)) := grow_below HO.out.row HB4.out (Nat.le_refl _)
      have HNEW : Hid (∀ j u, (sessCells (⟨xc, xi, xa, xt, xk⟩, .slice vo xk.length vc))[j]? = some u → W4.cell? ((⟨W3.heap.size, 0, none⟩ : Addr).add j) = some u) := by
        unfold Hid
        rw [hW4]
        exact World.news_of_block (heap_alloc_new W3 _)
      have hz4 : w.heap.size ≤ W4.heap.size := Nat.le_trans hsz HB4.out.size
      have HZ3 := ghid hz3
      have HW3 := ghid hW3
      have HW4 := ghid hW4
      clear hown2 hgrow2 hb12 hb02 g2 hW1 HG1 k3 hz3 hW3 hW4 hzW
      go_wp2_with (at_builtin; refine wpList_append_lies _ rfl (.tmp 20) (.tmp 22) 22 rfl w.heap.size 51 i0 _ 5 56 Try.underlying22 hi hz0 hz1 hz2 rfl (by decide) (.slice oo rs.length oc) rs.length (flatG sessCells rs) rfl (by rw [← HW3.out, ← HW4.out]; exact HROW.out) ⟨w2.heap.size, 0, none⟩ 1 1 (sessCells (⟨xc, xi, xa, xt, xk⟩, .slice vo xk.length vc)) rfl rfl (by rw [← HW3.out, ← HW4.out, ← HZ3.out]; exact HNEW.out) (sessCells_one _ rfl) (by omega) (by have := HRL.out; unfold maxLen; omega) (by have := HRL.out; omega) (by rw [← HW3.out, ← HW4.out]; exact hz4) _ rfl ?_)
      intro gn cn w5 hown5 hg5 hat5 hlt5
      rw [← HW3.out, ← HW4.out] at hg5
      have HF := ghid (HO.out.append (x := ⟨xc, xi, xa, xt, xk⟩) HB4.out (HOK.out.below HB34.out (Nat.le_refl _)) hsz hg5 hown5 (by have := HRL.out; omega))
      have HB5 := ghid ((HB.out.trans (HB4.out.mono hsz)).grown hg5 hz4 (fun c hc => (HO.out.row.lt c hc).1))
      clear hown5 hg5 hat5 hlt5 hi hz0 hz1 hz2 hj hy0 hy1 hy2 x0 x1 x2 x3 x4 xf
      go_wp2
      go_roundw
      case rel =>
        refine ⟨k + 1, rs ++ [(⟨xc, xi, xa, xt, xk⟩, .slice vo xk.length vc)], by omega, by go_num, ?_, HF.out, HB5.out⟩
        rw [List.map_append, HR.out, List.take_succ_eq_append_getElem hlt]
        have := (List.getElem?_eq_some_iff.1 HX.out).2
        simp [this]
      case measure => simp [intOf]; omega
    · have hkl : k = ls.length := by omega
      subst hkl
      have HO := ghid hown
      obtain ⟨oo, oc, rfl⟩ := grow_shape hown.row
      clear hown hrl h4
      go_wp2
      go_ret
      exact ⟨_, rs, rfl, by rw [HR.out, List.take_of_length_le (Nat.le_refl _)], HO.out, hb⟩
end Go.Proofs.Ytmcdbdcabiccnaf
