/- session.Copy: the same sessions, in memory of their own; A row of pairs of the call's own: kept, put anew (joined by program) -/
import Derived.Test.YtbmfahgekcnkaaiRC18
import Derived.Test.YtbmfahgekcnkaaiRC04
namespace Go.Proofs.Ytbmfahgekcnkaai

open Go.RowKit

theorem set5g {α : Type} (A Z : List α) (z0 z1 z2 z3 z4 a b c d e : α) (n : Nat) (hA : A.length = n) :
    (((((A ++ z0 :: z1 :: z2 :: z3 :: z4 :: Z).set n a).set (n + 1) b).set (n + 2) c).set (n + 3) d).set (n + 4) e = A ++ a :: b :: c :: d :: e :: Z := by
  subst hA
  simp

/-- Five cells put into a row. -/
theorem put5g_own {w : World} {base : Nat} {t : TypeId} {g n cap k : Nat} {A Z : List Value} {z0 z1 z2 z3 z4 : Value} (h : w.ownsRow base t 5 (.slice (some ⟨g, 0, none⟩) n cap) n (A ++ z0 :: z1 :: z2 :: z3 :: z4 :: Z)) (hA : A.length = k * 5) (a b c d e : Value) :
    (((((w.setCell ⟨g, k * 5, none⟩ a).setCell ⟨g, k * 5 + 1, none⟩ b).setCell ⟨g, k * 5 + 2, none⟩ c).setCell ⟨g, k * 5 + 3, none⟩ d).setCell ⟨g, k * 5 + 4, none⟩ e).ownsRow base t 5 (.slice (some ⟨g, 0, none⟩) n cap) n (A ++ a :: b :: c :: d :: e :: Z) := by
  have h1 := (h.stored (k * 5) a).1
  have h2 := (h1.stored (k * 5 + 1) b).1
  have h3 := (h2.stored (k * 5 + 2) c).1
  have h4 := (h3.stored (k * 5 + 3) d).1
  have h5 := (h4.stored (k * 5 + 4) e).1
  rwa [set5g A Z z0 z1 z2 z3 z4 a b c d e (k * 5) hA] at h5

theorem put5g_other (w : World) (g k x : Nat) (a b c d e : Value) (hx : x ≠ g) :
    (((((w.setCell ⟨g, k * 5, none⟩ a).setCell ⟨g, k * 5 + 1, none⟩ b).setCell ⟨g, k * 5 + 2, none⟩ c).setCell ⟨g, k * 5 + 3, none⟩ d).setCell ⟨g, k * 5 + 4, none⟩ e).heap[x]? = w.heap[x]? := by
  rw [heap_setCell_other _ _ _ _ (by simpa using hx), heap_setCell_other _ _ _ _ (by simpa using hx), heap_setCell_other _ _ _ _ (by simpa using hx), heap_setCell_other _ _ _ _ (by simpa using hx), heap_setCell_other _ _ _ _ (by simpa using hx)]

theorem put5g_below {B : Nat} {w0 w : World} (h : Below B w0 w) {g k : Nat} (hg : B ≤ g) (a b c d e : Value) :
    Below B w0 (((((w.setCell ⟨g, k * 5, none⟩ a).setCell ⟨g, k * 5 + 1, none⟩ b).setCell ⟨g, k * 5 + 2, none⟩ c).setCell ⟨g, k * 5 + 3, none⟩ d).setCell ⟨g, k * 5 + 4, none⟩ e) :=
  ((((h.setCell (by simpa using hg) a).setCell (by simpa using hg) b).setCell (by simpa using hg) c).setCell (by simpa using hg) d).setCell (by simpa using hg) e

theorem five_ofg {α : Type} (Z : List α) (h : 5 ≤ Z.length) : ∃ z0 z1 z2 z3 z4 Z', Z = z0 :: z1 :: z2 :: z3 :: z4 :: Z' := by
  match Z, h with
  | z0 :: z1 :: z2 :: z3 :: z4 :: Z', _ => exact ⟨z0, z1, z2, z3, z4, Z', rfl⟩

/-- Each session's replies fill their row. -/
def Snug (rs : List (SessD × Value)) : Prop := ∀ r ∈ rs, ∃ g, r.2 = .slice (some ⟨g, 0, none⟩) r.1.replies.length r.1.replies.length

set_option maxRecDepth 100000 in
set_option maxHeartbeats 1600000 in
theorem sessCopy_any (v : Value) (ls : List SessD) (w : World) (B : Nat) (hv : SessR w B v ls) (hB : B ≤ w.heap.size) :
    Calls Try.prog 48 #[v] w fun e w' => e = .returned (.slice (some ⟨w.heap.size, 0, none⟩) ls.length ls.length) ∧ ∃ rs, rs.map (·.1) = ls ∧ OwnS w' w.heap.size (.slice (some ⟨w.heap.size, 0, none⟩) ls.length ls.length) rs ∧ Snug rs ∧ Below w.heap.size w w' := by
  obtain ⟨i0, hi, hz0, hz1, hz2⟩ := info_parts Try.infoSess
  have hlen := hv.len
  obtain ⟨ao, cap, rfl, h1, h2, h3, h4⟩ := hv
  go_enter Try.func48, Try.ntmps48
  go_wp2_with (at_make; refine wpList_make_full _ rfl (.tmp 7) (.tmp 7) 36 rfl w.heap.size 81 i0 _ 5 Try.underlying36 hi hz0 hz1 .i64 .i64 _ _ ls.length rfl rfl rfl rfl (by rw [hz2]; omega) (by unfold maxLen; omega) (Nat.le_refl _) ?_)
  intro w1 hown1 hgrow1
  have hb1 : Below w.heap.size w w1 := (Below.refl _ _).grown hgrow1 (Nat.le_refl _) (fun k hk => by cases hk)
  obtain ⟨Z, HO1, hZl⟩ : ∃ Z : List Value, Hid (w1.ownsRow w.heap.size 81 5 (.slice (some ⟨w.heap.size, 0, none⟩) ls.length ls.length) ls.length Z) ∧ Z.length = ls.length * 5 := ⟨_, hown1, by simp [size_madeCells]⟩
  clear hown1 hgrow1 hi hz0 hz1 hz2
  go_wp2_with fail
  go_loopw [11] (fun i wr => ∃ (k : Nat) (rs : List (SessD × Value)) (Z : List Value), k ≤ ls.length ∧ i = .int .i64 k ∧ rs.map (·.1) = ls.take k ∧ Z.length = (ls.length - k) * 5 ∧
      wr.ownsRow w.heap.size 81 5 (.slice (some ⟨w.heap.size, 0, none⟩) ls.length ls.length) ls.length (flatG sessCells rs ++ Z) ∧ Reps wr w.heap.size rs ∧ Snug rs ∧ Below w.heap.size w wr)
    (fun i _ => ls.length - (intOf i).toNat)
  case atStart => exact ⟨0, [], Z, Nat.zero_le _, rfl, by simp, by simpa using hZl, by simpa [flatG] using HO1.out, Reps.nil _ _, fun r hr => absurd hr (by simp), hb1⟩
  case round =>
    clear HO1 hb1
    obtain ⟨k, rs, Z, hk, rfl, hrs, hZl, hown, hreps, hsnug, hb⟩ := hrel
    have HR := ghid hrs
    have HSN := ghid hsnug
    clear hrs hsnug
    by_cases hlt : k < ls.length
    · obtain ⟨b, off, rfl, hbB, hc⟩ := h4 (by omega)
      obtain ⟨x, hx⟩ : ∃ x, ls[k]? = some x := ⟨_, List.getElem?_eq_getElem hlt⟩
      obtain ⟨lv, c0, c1, c2, c3, c4, hl, -⟩ := (hc k x hx).below hbB hb hB
      have HX := ghid hx
      have HL := ghid hl
      obtain ⟨lo, lc, rfl, -⟩ := hl
      have hsz := hb.size
      clear hx hc h4
      obtain ⟨xc, xi, xa, xt, xk⟩ := x
      simp only at c0 c1 c2 c3 c4 HL
      obtain ⟨z0, z1, z2, z3, z4, Z', hZe⟩ := five_ofg Z (by omega)
      subst hZe
      have hkl : (flatG sessCells rs).length = k * 5 := by rw [flatG_length sessCells_len, ← List.length_map (f := (·.1)), HR.out, List.length_take]; omega
      have hwg : w.heap.size < wr.heap.size := (hown.lt _ rfl).2
      have HO := ghid hown
      have HB := ghid hb
      have HKL := ghid hkl
      have HRP := ghid hreps
      have hba : Below wr.heap.size wr (wr.alloc (.cells #[.int .i64 xc, .int .i64 xi, .int .i64 xa, .int .i64 xt, .slice lo xk.length lc] 81)) := (Below.refl _ _).alloc (Nat.le_refl _) _
      have HBA := ghid hba
      clear hown hkl hb hba hreps
      have hbr : b < wr.heap.size := by omega
      go_wp2_with fail
      refine (copyReplies_any _ xk _ B (HL.out.below HBA.out (by omega)) (by simp; omega)).mono ?_
      rintro e w2 ⟨rfl, hok, hb2⟩
      have hzr : (wr.alloc (.cells #[.int .i64 xc, .int .i64 xi, .int .i64 xa, .int .i64 xt, .slice lo xk.length lc] 81)).heap.size = wr.heap.size + 1 := by simp
      have hz2 : wr.heap.size + 1 ≤ w2.heap.size := by have := hb2.size; omega
      have hb02 : Below wr.heap.size wr w2 := HBA.out.trans (hb2.mono (by simp))
      have g2 : w2.heap[wr.heap.size]? = some (.cells #[.int .i64 xc, .int .i64 xi, .int .i64 xa, .int .i64 xt, .slice lo xk.length lc] 81 (0, 0)) := (hb2.block _ (by simp)).trans (heap_alloc_new wr _)
      have x0 := cell_of_row w2 wr.heap.size 0 _ _ _ g2
      have x1 := cell_of_row w2 wr.heap.size 1 _ _ _ g2
      have x2 := cell_of_row w2 wr.heap.size 2 _ _ _ g2
      have x3 := cell_of_row w2 wr.heap.size 3 _ _ _ g2
      have x4 := cell_of_row w2 wr.heap.size 4 _ _ _ g2
      have xf := fun j => frozen_of_row w2 wr.heap.size j _ _ g2
      simp only [List.getElem?_toArray, List.getElem?_cons_zero, List.getElem?_cons_succ] at x0 x1 x2 x3 x4
      have hrw := grow_below HO.out hb02 (Nat.le_refl _)
      have y : ∀ j z, (z0 :: z1 :: z2 :: z3 :: z4 :: Z')[j]? = some z → j < 5 → w2.cell? ⟨w.heap.size, k * 5 + j, none⟩ = some z := fun j z hz hj => by
        rw [hrw.cellAt (k * 5 + j) (by omega), List.getElem?_append_right (by rw [HKL.out]; omega), HKL.out, show k * 5 + j - k * 5 = j by omega]
        exact hz
      have y0 := y 0 z0 rfl (by omega)
      have y1 := y 1 z1 rfl (by omega)
      have y2 := y 2 z2 rfl (by omega)
      have y3 := y 3 z3 rfl (by omega)
      have y4 := y 4 z4 rfl (by omega)
      rw [Nat.add_zero] at y0
      have yf : ∀ j, w2.frozen? ⟨w.heap.size, j, none⟩ = false := fun j => hrw.frozenAt j
      have hne : wr.heap.size ≠ w.heap.size := by omega
      have hne' : w.heap.size ≠ wr.heap.size := by omega
      have HW := ghid hrw
      have HB02 := ghid hb02
      have HOK := ghid hok
      have HRP2 := ghid (HRP.out.below hb02 (Nat.le_refl _))
      have hlq : Hid (∀ b ∈ repBlocks rs, b < wr.heap.size) := fun b hbk => (HRP.out.lt hbk).2
      have hlg : Hid (∀ b ∈ repBlocks rs, b ≠ w.heap.size) := fun b hbk e => by
        obtain ⟨r, hr, hbr⟩ := mem_repBlocks.1 hbk
        exact grow_ne (HRP.out.each r hr).row HO.out (by decide) hbr (by rw [e]; rfl)
      rw [hzr] at HOK ⊢
      clear hrw hok hb02 hb2 g2 y c0 c1 c2 c3 c4 HO HL HRP HBA hzr
      go_wp2
      go_roundw
      case rel =>
        have hsc : ∀ b, b ≠ wr.heap.size → (w2.setCell ⟨wr.heap.size, 4, none⟩ (.slice (some ⟨wr.heap.size + 1, 0, none⟩) xk.length xk.length)).heap[b]? = w2.heap[b]? := fun b hbk => heap_setCell_other _ _ _ _ (by simpa using hbk)
        refine ⟨k + 1, rs ++ [(⟨xc, xi, xa, xt, xk⟩, .slice (some ⟨wr.heap.size + 1, 0, none⟩) xk.length xk.length)], Z', by omega, by go_num, ?_, ?_, ?_, ?_, ?_, ?_⟩
        · rw [List.map_append, HR.out, List.take_succ_eq_append_getElem hlt]
          have := (List.getElem?_eq_some_iff.1 HX.out).2
          simp [this]
        · simp at hZl; omega
        · have hrow2 := grow_keep (w' := w2.setCell ⟨wr.heap.size, 4, none⟩ (.slice (some ⟨wr.heap.size + 1, 0, none⟩) xk.length xk.length)) HW.out (fun b hbk => by
            have e : w.heap.size = b := by simpa [Value.ownBlock] using hbk
            exact hsc b (by omega))
          have := put5g_own hrow2 HKL.out (.int .i64 xc) (.int .i64 xi) (.int .i64 xa) (.int .i64 xt) (.slice (some ⟨wr.heap.size + 1, 0, none⟩) xk.length xk.length)
          rw [flatG_snoc]
          simpa [sessCells] using this
        · refine Reps.snoc (HRP2.out.keep fun b hbk => ?_) ?_ ?_
          · rw [put5g_other _ _ _ _ _ _ _ _ _ (hlg.out b hbk), hsc b (by have := hlq.out b hbk; omega)]
          · refine (HOK.out.mono (by omega)).keep fun b hbk => ?_
            have : wr.heap.size + 1 = b := by simpa [Value.ownBlock] using hbk
            rw [put5g_other _ _ _ _ _ _ _ _ _ (by omega), hsc b (by omega)]
          · intro b hbk hin
            have : wr.heap.size + 1 = b := by simpa [Value.ownBlock] using hbk
            have := hlq.out b hin
            omega
        · intro r hr
          rcases List.mem_append.1 hr with hr | hr
          · exact HSN.out r hr
          · have : r = (⟨xc, xi, xa, xt, xk⟩, .slice (some ⟨wr.heap.size + 1, 0, none⟩) xk.length xk.length) := by simpa using hr
            subst this
            exact ⟨_, rfl⟩
        · exact put5g_below ((HB.out.trans (HB02.out.mono hsz)).setCell (by simp; omega) _) (Nat.le_refl _) _ _ _ _ _
      case measure => simp [intOf]; omega
    · have hkl : k = ls.length := by omega
      subst hkl
      have hZ0 : Z = [] := List.eq_nil_of_length_eq_zero (by omega)
      subst hZ0
      have HO : Hid (OwnS wr w.heap.size (.slice (some ⟨w.heap.size, 0, none⟩) ls.length ls.length) rs) := by
        have hrl : rs.length = ls.length := by
          have := congrArg List.length HR.out
          simpa using this
        refine ⟨?_, hreps, by omega⟩
        rw [hrl]
        simpa using hown
      clear hown hreps h4
      go_wp2
      go_ret
      exact ⟨rfl, rs, by rw [HR.out, List.take_of_length_le (Nat.le_refl _)], HO.out, HSN.out, hb⟩

end Go.Proofs.Ytbmfahgekcnkaai

namespace Go.Proofs.Ytbmfahgekcnkaai

open Go.RowKit

theorem prow_keep {w w' : World} {base : Nat} {e : TypeId} {size : Nat} {v : Value} {n : Nat} {xs : List Value} (h : w.ownsRow base e size v n xs) (hk : ∀ b, v.ownBlock = some b → w'.heap[b]? = w.heap[b]?) : w'.ownsRow base e size v n xs := by
  obtain ⟨h1, h2⟩ := h
  refine ⟨h1, ?_⟩
  rcases h2 with h2 | ⟨g, cap, cur, rfl, hg, hh, r⟩
  · exact Or.inl h2
  · exact Or.inr ⟨g, cap, cur, rfl, hg, by rw [hk g rfl]; exact hh, r⟩

theorem prow_below {w w' : World} {base : Nat} {e : TypeId} {size : Nat} {v : Value} {n : Nat} {xs : List Value} (h : w.ownsRow base e size v n xs) {B : Nat} (hb : Below B w w') (hB : w.heap.size ≤ B) : w'.ownsRow base e size v n xs :=
  prow_keep h fun b hbk => hb.block b (by have := (h.lt b hbk).2; omega)

end Go.Proofs.Ytbmfahgekcnkaai
