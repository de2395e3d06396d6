/- session.Copy: the same sessions, in memory of their own; Where the first element of a list is that is wanted. It names no program; slices.IndexFunc over sessions, with whatever closure; session.place; session.place: where a client's session is, or would be; slices.IndexFunc over kept replies, with whatever closure; session.replyPlace; append where there is room, and what lies behind a row's end. It names no program (joined by program) -/
import Derived.Shelf.Abstract
import Derived.Deep.QuietTactic
import Derived.BigQuiet
import Derived.Deep.RegionLaw
import Derived.WalkSpells
import Derived.Laws.OwnMore
import Derived.Test.YtijilhbdbeajjaaGreatDoorTT17
import Derived.Test.YtijilhbdbeajjaaGreatDoorTT00
import Derived.Test.YtijilhbdbeajjaaGreatDoorTT01
namespace Go.Proofs.YtijilhbdbeajjaaGreatDoor

open Go.RowKit

theorem set5g {α : Type} (A Z : List α) (z0 z1 z2 z3 z4 a b c d e : α) (n : Nat) (hA : A.length = n) :
    (((((A ++ z0 :: z1 :: z2 :: z3 :: z4 :: Z).set n a).set (n + 1) b).set (n + 2) c).set (n + 3) d).set (n + 4) e = A ++ a :: b :: c :: d :: e :: Z := by
  subst hA
  simp

/-- Five cells put into a row. -/
theorem put5g_own {w : World} {base : Nat} {t : TypeId} {g n cap k : Nat} {A Z : List Value} {z0 z1 z2 z3 z4 : Value} (h : w.ownsRow base t 5 (.slice (some ⟨g, 0, none⟩) n cap) n (A ++ z0 :: z1 :: z2 :: z3 :: z4 :: Z)) (hA : A.length = k * 5) (a b c d e : Value) :
    (((((w.setCell ⟨g, k * 5, none⟩ a).setCell ⟨g, k * 5 + 1, none⟩ b).setCell ⟨g, k * 5 + 2, none⟩ c).setCell ⟨g, k * 5 + 3, none⟩ d).setCell ⟨g, k * 5 + 4, none⟩ e).ownsRow base t 5 (.slice (some ⟨g, 0, none⟩) n cap) n (A ++ a :: b :: c :: d :: e :: Z) := by
  have h1 := (h.stored (k * 5) a).1
  have h2 := (h1.stored (k * 5 + 1) b).1
  have h3 := (h2.stored (k * 5 + 2) c).1
  have h4 := (h3.stored (k * 5 + 3) d).1
  have h5 := (h4.stored (k * 5 + 4) e).1
  rwa [set5g A Z z0 z1 z2 z3 z4 a b c d e (k * 5) hA] at h5

theorem put5g_other (w : World) (g k x : Nat) (a b c d e : Value) (hx : x ≠ g) :
    (((((w.setCell ⟨g, k * 5, none⟩ a).setCell ⟨g, k * 5 + 1, none⟩ b).setCell ⟨g, k * 5 + 2, none⟩ c).setCell ⟨g, k * 5 + 3, none⟩ d).setCell ⟨g, k * 5 + 4, none⟩ e).heap[x]? = w.heap[x]? := by
  rw [heap_setCell_other _ _ _ _ (by simpa using hx), heap_setCell_other _ _ _ _ (by simpa using hx), heap_setCell_other _ _ _ _ (by simpa using hx), heap_setCell_other _ _ _ _ (by simpa using hx), heap_setCell_other _ _ _ _ (by simpa using hx)]

theorem put5g_below {B : Nat} {w0 w : World} (h : Below B w0 w) {g k : Nat} (hg : B ≤ g) (a b c d e : Value) :
    Below B w0 (((((w.setCell ⟨g, k * 5, none⟩ a).setCell ⟨g, k * 5 + 1, none⟩ b).setCell ⟨g, k * 5 + 2, none⟩ c).setCell ⟨g, k * 5 + 3, none⟩ d).setCell ⟨g, k * 5 + 4, none⟩ e) :=
  ((((h.setCell (by simpa using hg) a).setCell (by simpa using hg) b).setCell (by simpa using hg) c).setCell (by simpa using hg) d).setCell (by simpa using hg) e

theorem five_ofg {α : Type} (Z : List α) (h : 5 ≤ Z.length) : ∃ z0 z1 z2 z3 z4 Z', Z = z0 :: z1 :: z2 :: z3 :: z4 :: Z' := by
  match Z, h with
  | z0 :: z1 :: z2 :: z3 :: z4 :: Z', _ => exact ⟨z0, z1, z2, z3, z4, Z', rfl⟩

/-- Each session's replies fill their row. -/
def Snug (rs : List (SessD × Value)) : Prop := ∀ r ∈ rs, ∃ g, r.2 = .slice (some ⟨g, 0, none⟩) r.1.replies.length r.1.replies.length

set_option maxRecDepth 100000 in
set_option maxHeartbeats 1600000 in
theorem sessCopy_any (v : Value) (ls : List SessD) (w : World) (B : Nat) (hv : SessR w B v ls) (hB : B ≤ w.heap.size) :
    Calls Tryz.prog 53 #[v] w fun e w' => e = .returned (.slice (some ⟨w.heap.size, 0, none⟩) ls.length ls.length) ∧ ∃ rs, rs.map (·.1) = ls ∧ OwnS w' w.heap.size (.slice (some ⟨w.heap.size, 0, none⟩) ls.length ls.length) rs ∧ Snug rs ∧ Below w.heap.size w w' := by
  obtain ⟨i0, hi, hz0, hz1, hz2⟩ := info_parts Tryz.infoSess
  have hlen := hv.len
  obtain ⟨ao, cap, rfl, h1, h2, h3, h4⟩ := hv
  go_enter Tryz.func53, Tryz.ntmps53
  go_wp2_with (at_make; refine wpList_make_full _ rfl (.tmp 7) (.tmp 7) 46 rfl w.heap.size 121 i0 _ 5 Tryz.underlying46 hi hz0 hz1 .i64 .i64 _ _ ls.length rfl rfl rfl rfl (by rw [hz2]; omega) (by unfold maxLen; omega) (Nat.le_refl _) ?_)
  intro w1 hown1 hgrow1
  have hb1 : Below w.heap.size w w1 := (Below.refl _ _).grown hgrow1 (Nat.le_refl _) (fun k hk => by cases hk)
  obtain ⟨Z, HO1, hZl⟩ : ∃ Z : List Value, Hid (w1.ownsRow w.heap.size 121 5 (.slice (some ⟨w.heap.size, 0, none⟩) ls.length ls.length) ls.length Z) ∧ Z.length = ls.length * 5 := ⟨_, hown1, by simp [size_madeCells]⟩
  clear hown1 hgrow1 hi hz0 hz1 hz2
  go_wp2_with fail
  go_loopw [11] (fun i wr => ∃ (k : Nat) (rs : List (SessD × Value)) (Z : List Value), k ≤ ls.length ∧ i = .int .i64 k ∧ rs.map (·.1) = ls.take k ∧ Z.length = (ls.length - k) * 5 ∧
      wr.ownsRow w.heap.size 121 5 (.slice (some ⟨w.heap.size, 0, none⟩) ls.length ls.length) ls.length (flatG sessCells rs ++ Z) ∧ Reps wr w.heap.size rs ∧ Snug rs ∧ Below w.heap.size w wr)
    (fun i _ => ls.length - (intOf i).toNat)
  case atStart => exact ⟨0, [], Z, Nat.zero_le _, rfl, by simp, by simpa using hZl, by simpa [flatG] using HO1.out, Reps.nil _ _, fun r hr => absurd hr (by simp), hb1⟩
  case round =>
    clear HO1 hb1
    obtain ⟨k, rs, Z, hk, rfl, hrs, hZl, hown, hreps, hsnug, hb⟩ := hrel
    have HR := ghid hrs
    have HSN := ghid hsnug
    clear hrs hsnug
    by_cases hlt : k < ls.length
    · obtain ⟨b, off, rfl, hbB, hc⟩ := h4 (by omega)
      obtain ⟨x, hx⟩ : ∃ x, ls[k]? = some x := ⟨_, List.getElem?_eq_getElem hlt⟩
      obtain ⟨lv, c0, c1, c2, c3, c4, hl, -⟩ := (hc k x hx).below hbB hb hB
      have HX := ghid hx
      have HL := ghid hl
      obtain ⟨lo, lc, rfl, -⟩ := hl
      have hsz := hb.size
      clear hx hc h4
      obtain ⟨xc, xi, xa, xt, xk⟩ := x
      simp only at c0 c1 c2 c3 c4 HL
      obtain ⟨z0, z1, z2, z3, z4, Z', hZe⟩ := five_ofg Z (by omega)
      subst hZe
      have hkl : (flatG sessCells rs).length = k * 5 := by rw [flatG_length sessCells_len, ← List.length_map (f := (·.1)), HR.out, List.length_take]; omega
      have hwg : w.heap.size < wr.heap.size := (hown.lt _ rfl).2
      have HO := ghid hown
      have HB := ghid hb
      have HKL := ghid hkl
      have HRP := ghid hreps
      have hba : Below wr.heap.size wr (wr.alloc (.cells #[.int .i64 xc, .int .i64 xi, .int .i64 xa, .int .i64 xt, .slice lo xk.length lc] 121)) := (Below.refl _ _).alloc (Nat.le_refl _) _
      have HBA := ghid hba
      clear hown hkl hb hba hreps
      have hbr : b < wr.heap.size := by omega
      go_wp2_with fail
      refine (copyReplies_any _ xk _ B (HL.out.below HBA.out (by omega)) (by simp; omega)).mono ?_
      rintro e w2 ⟨rfl, hok, hb2⟩
      have hzr : (wr.alloc (.cells #[.int .i64 xc, .int .i64 xi, .int .i64 xa, .int .i64 xt, .slice lo xk.length lc] 121)).heap.size = wr.heap.size + 1 := by simp
      have hz2 : wr.heap.size + 1 ≤ w2.heap.size := by have := hb2.size; omega
      have hb02 : Below wr.heap.size wr w2 := HBA.out.trans (hb2.mono (by simp))
      have g2 : w2.heap[wr.heap.size]? = some (.cells #[.int .i64 xc, .int .i64 xi, .int .i64 xa, .int .i64 xt, .slice lo xk.length lc] 121 (0, 0)) := (hb2.block _ (by simp)).trans (heap_alloc_new wr _)
      have x0 := cell_of_row w2 wr.heap.size 0 _ _ _ g2
      have x1 := cell_of_row w2 wr.heap.size 1 _ _ _ g2
      have x2 := cell_of_row w2 wr.heap.size 2 _ _ _ g2
      have x3 := cell_of_row w2 wr.heap.size 3 _ _ _ g2
      have x4 := cell_of_row w2 wr.heap.size 4 _ _ _ g2
      have xf := fun j => frozen_of_row w2 wr.heap.size j _ _ g2
      simp only [List.getElem?_toArray, List.getElem?_cons_zero, List.getElem?_cons_succ] at x0 x1 x2 x3 x4
      have hrw := grow_below HO.out hb02 (Nat.le_refl _)
      have y : ∀ j z, (z0 :: z1 :: z2 :: z3 :: z4 :: Z')[j]? = some z → j < 5 → w2.cell? ⟨w.heap.size, k * 5 + j, none⟩ = some z := fun j z hz hj => by
        rw [hrw.cellAt (k * 5 + j) (by omega), List.getElem?_append_right (by rw [HKL.out]; omega), HKL.out, show k * 5 + j - k * 5 = j by omega]
        exact hz
      have y0 := y 0 z0 rfl (by omega)
      have y1 := y 1 z1 rfl (by omega)
      have y2 := y 2 z2 rfl (by omega)
      have y3 := y 3 z3 rfl (by omega)
      have y4 := y 4 z4 rfl (by omega)
      rw [Nat.add_zero] at y0
      have yf : ∀ j, w2.frozen? ⟨w.heap.size, j, none⟩ = false := fun j => hrw.frozenAt j
      have hne : wr.heap.size ≠ w.heap.size := by omega
      have hne' : w.heap.size ≠ wr.heap.size := by omega
      have HW := ghid hrw
      have HB02 := ghid hb02
      have HOK := ghid hok
      have HRP2 := ghid (HRP.out.below hb02 (Nat.le_refl _))
      have hlq : Hid (∀ b ∈ repBlocks rs, b < wr.heap.size) := fun b hbk => (HRP.out.lt hbk).2
      have hlg : Hid (∀ b ∈ repBlocks rs, b ≠ w.heap.size) := fun b hbk e => by
        obtain ⟨r, hr, hbr⟩ := mem_repBlocks.1 hbk
        exact grow_ne (HRP.out.each r hr).row HO.out (by decide) hbr (by rw [e]; rfl)
      rw [hzr] at HOK ⊢
      clear hrw hok hb02 hb2 g2 y c0 c1 c2 c3 c4 HO HL HRP HBA hzr
      go_wp2
      go_roundw
      case rel =>
        have hsc : ∀ b, b ≠ wr.heap.size → (w2.setCell ⟨wr.heap.size, 4, none⟩ (.slice (some ⟨wr.heap.size + 1, 0, none⟩) xk.length xk.length)).heap[b]? = w2.heap[b]? := fun b hbk => heap_setCell_other _ _ _ _ (by simpa using hbk)
        refine ⟨k + 1, rs ++ [(⟨xc, xi, xa, xt, xk⟩, .slice (some ⟨wr.heap.size + 1, 0, none⟩) xk.length xk.length)], Z', by omega, by go_num, ?_, ?_, ?_, ?_, ?_, ?_⟩
        · rw [List.map_append, HR.out, List.take_succ_eq_append_getElem hlt]
          have := (List.getElem?_eq_some_iff.1 HX.out).2
          simp [this]
        · simp at hZl; omega
        · have hrow2 := grow_keep (w' := w2.setCell ⟨wr.heap.size, 4, none⟩ (.slice (some ⟨wr.heap.size + 1, 0, none⟩) xk.length xk.length)) HW.out (fun b hbk => by
            have e : w.heap.size = b := by simpa [Value.ownBlock] using hbk
            exact hsc b (by omega))
          have := put5g_own hrow2 HKL.out (.int .i64 xc) (.int .i64 xi) (.int .i64 xa) (.int .i64 xt) (.slice (some ⟨wr.heap.size + 1, 0, none⟩) xk.length xk.length)
          rw [flatG_snoc]
          simpa [sessCells] using this
        · refine Reps.snoc (HRP2.out.keep fun b hbk => ?_) ?_ ?_
          · rw [put5g_other _ _ _ _ _ _ _ _ _ (hlg.out b hbk), hsc b (by have := hlq.out b hbk; omega)]
          · refine (HOK.out.mono (by omega)).keep fun b hbk => ?_
            have : wr.heap.size + 1 = b := by simpa [Value.ownBlock] using hbk
            rw [put5g_other _ _ _ _ _ _ _ _ _ (by omega), hsc b (by omega)]
          · intro b hbk hin
            have : wr.heap.size + 1 = b := by simpa [Value.ownBlock] using hbk
            have := hlq.out b hin
            omega
        · intro r hr
          rcases List.mem_append.1 hr with hr | hr
          · exact HSN.out r hr
          · have : r = (⟨xc, xi, xa, xt, xk⟩, .slice (some ⟨wr.heap.size + 1, 0, none⟩) xk.length xk.length) := by simpa using hr
            subst this
            exact ⟨_, rfl⟩
        · exact put5g_below ((HB.out.trans (HB02.out.mono hsz)).setCell (by simp; omega) _) (Nat.le_refl _) _ _ _ _ _
      case measure => simp [intOf]; omega
    · have hkl : k = ls.length := by omega
      subst hkl
      have hZ0 : Z = [] := List.eq_nil_of_length_eq_zero (by omega)
      subst hZ0
      have HO : Hid (OwnS wr w.heap.size (.slice (some ⟨w.heap.size, 0, none⟩) ls.length ls.length) rs) := by
        have hrl : rs.length = ls.length := by
          have := congrArg List.length HR.out
          simpa using this
        refine ⟨?_, hreps, by omega⟩
        rw [hrl]
        simpa using hown
      clear hown hreps h4
      go_wp2
      go_ret
      exact ⟨rfl, rs, by rw [HR.out, List.take_of_length_le (Nat.le_refl _)], HO.out, HSN.out, hb⟩

end Go.Proofs.YtijilhbdbeajjaaGreatDoor

namespace Go.Proofs.YtijilhbdbeajjaaGreatDoor

open Go.RowKit

/-- Where the first is that is wanted; -1: there is none. -/
def idxI {α : Type} (p : α → Bool) (ls : List α) : Int := if ls.findIdx p < ls.length then (ls.findIdx p : Int) else -1

theorem idxI_found {α : Type} {p : α → Bool} {ls : List α} {k : Nat} {x : α} (hx : ls[k]? = some x) (hp : p x = true) (hb : ∀ (j : Nat) (y : α), j < k → ls[j]? = some y → p y = false) : idxI p ls = k ∧ ls.findIdx p = k := by
  obtain ⟨hk, he⟩ := List.getElem?_eq_some_iff.1 hx
  have h : ls.findIdx p = k := by
    rw [List.findIdx_eq hk]
    refine ⟨by rw [he]; exact hp, fun j hj => ?_⟩
    have := hb j ls[j] hj (List.getElem?_eq_getElem (by omega))
    simpa using this
  exact ⟨by unfold idxI; rw [h, if_pos hk], h⟩

theorem idxI_none {α : Type} {p : α → Bool} {ls : List α} (hb : ∀ (j : Nat) (y : α), ls[j]? = some y → p y = false) : idxI p ls = -1 ∧ ls.findIdx p = ls.length := by
  have h : ls.findIdx p = ls.length := by
    rw [List.findIdx_eq_length]
    intro y hy
    obtain ⟨j, hj⟩ := List.mem_iff_getElem?.1 hy
    simpa using hb j y hj
  exact ⟨by unfold idxI; rw [h, if_neg (by omega)], h⟩

theorem sret_int {a b : Int} (h : a = b) : Ending.returned (.int .i64 a) = .returned (.int .i64 b) := by rw [h]

end Go.Proofs.YtijilhbdbeajjaaGreatDoor

namespace Go.Proofs.YtijilhbdbeajjaaGreatDoor

open Go.RowKit

/-- What is asked of a closure over sessions. -/
def PredS (cl : Nat) (lb : Array Value) (p : SessD → Bool) (ls : List SessD) (S : Nat → Prop) (w : World) : Prop :=
  ∀ (x : SessD) (ao : Option Addr) (n c : Nat) (w' : World), x ∈ ls → TouchG w w' S → Calls Tryz.prog cl (#[.agg #[.int .i64 x.client, .int .i64 x.id, .int .i64 x.acked, .int .i64 x.last, .slice ao n c]] ++ lb) w' fun e w'' => e = .returned (.bool (p x)) ∧ Below w'.heap.size w' w''

set_option maxHeartbeats 800000 in
theorem indexS (v : Value) (ls : List SessD) (cl : Nat) (lb : Array Value) (p : SessD → Bool) (S : Nat → Prop) (w : World) (B : Nat) (hv : SessR w B v ls) (hB : B ≤ w.heap.size) (eg : ∀ args w, (callFunc cl args).run Tryz.prog w = .ok (.enter cl args) w) (hp : PredS cl lb p ls S w) :
    Calls Tryz.prog 84 #[v, .func (.func cl) #[] lb] w fun e w' => e = .returned (.int .i64 (idxI p ls)) ∧ Below w.heap.size w w' := by
  obtain ⟨ao, cap, rfl, h1, h2, h3, h4⟩ := hv
  have HP := ghid hp
  clear hp
  go_enter Tryz.func84, Tryz.ntmps84
  go_wp2
  go_loopw [8] (fun i wr => ∃ k : Nat, k ≤ ls.length ∧ i = .int .i64 k ∧ Hid (∀ (j : Nat) (y : SessD), j < k → ls[j]? = some y → p y = false) ∧ Below w.heap.size w wr) (fun i _ => ls.length - (intOf i).toNat)
  case atStart => exact ⟨0, Nat.zero_le _, rfl, fun j y hj => absurd hj (by omega), Below.refl _ _⟩
  case round =>
    obtain ⟨k, hk, rfl, HF, hb⟩ := hrel
    have hsz := hb.size
    by_cases hlt : k < ls.length
    · obtain ⟨b, off, rfl, hbB, hc⟩ := h4 (by omega)
      obtain ⟨x, hx⟩ : ∃ x, ls[k]? = some x := ⟨_, List.getElem?_eq_getElem hlt⟩
      obtain ⟨lv, c0, c1, c2, c3, c4, hl, -⟩ := (hc k x hx).below (by omega) hb hB
      obtain ⟨lo, lc, rfl, -⟩ := hl
      have HX := ghid hx
      have C := HP.out x lo x.replies.length lc wr (List.mem_of_getElem? hx) (TouchG.of_below hb (Nat.le_refl _) _)
      have HB := ghid hb
      clear hx hc h4 hb
      cases hq : p x with
      | true =>
        rw [hq] at C
        have HQ := ghid hq
        clear hq
        go_wp2_with fail
        refine C.mono ?_
        rintro e w1 ⟨rfl, hb1⟩
        have HB2 := ghid (HB.out.trans (hb1.mono hsz))
        clear hb1 C
        go_wp2
        go_ret
        exact ⟨sret_int (idxI_found HX.out HQ.out HF.out).1.symm, HB2.out⟩
      | false =>
        rw [hq] at C
        have HN : Hid (∀ (j : Nat) (y : SessD), j < k + 1 → ls[j]? = some y → p y = false) := fun j y hj hy => by
          by_cases e : j = k
          · subst e
            have := HX.out.symm.trans hy
            simp only [Option.some.injEq] at this
            rw [← this]; exact hq
          · exact HF.out j y (by omega) hy
        clear hq
        go_wp2_with fail
        refine C.mono ?_
        rintro e w1 ⟨rfl, hb1⟩
        have HB2 := ghid (HB.out.trans (hb1.mono hsz))
        clear hb1 C
        go_wp2
        go_roundw
        case rel => exact ⟨k + 1, by omega, by go_num, HN, HB2.out⟩
        case measure => simp [intOf]; omega
    · have HN : Hid (∀ (j : Nat) (y : SessD), ls[j]? = some y → p y = false) := fun j y hy => HF.out j y (by have := (List.getElem?_eq_some_iff.1 hy).1; omega) hy
      clear HF
      go_wp2
      go_ret
      exact ⟨sret_int (idxI_none HN.out).1.symm, hb⟩

end Go.Proofs.YtijilhbdbeajjaaGreatDoor

namespace Go.Proofs.YtijilhbdbeajjaaGreatDoor

open Go.RowKit

theorem splace1_any (c d a t : Int) (lv : Value) (cl : Int) (b0 : Nat) (w : World) (hc0 : w.cell? ⟨b0, 0, none⟩ = some (.int .i64 cl)) (hb0 : b0 < w.heap.size) :
    Calls Tryz.prog 86 #[.agg #[.int .i64 c, .int .i64 d, .int .i64 a, .int .i64 t, lv], .pointer (some ⟨b0, 0, none⟩)] w fun e w' => e = .returned (.bool (decide (cl ≤ c))) ∧ Below w.heap.size w w' := by
  go_enter Tryz.func86, Tryz.ntmps86
  go_wp2
  go_ret
  exact ⟨rfl, (Below.refl _ _).alloc (Nat.le_refl _) _⟩

theorem placeS_found {ls : List SessD} {cl : Int} (h : placeS ls cl < ls.length) : idxI (fun x => decide (cl ≤ x.client)) ls = placeS ls cl := by
  unfold idxI
  rw [if_pos (by exact h)]
  rfl

theorem placeS_none {ls : List SessD} {cl : Int} (h : ¬ placeS ls cl < ls.length) : idxI (fun x => decide (cl ≤ x.client)) ls = -1 := by
  unfold idxI
  rw [if_neg (by exact h)]

theorem placeS_le (ls : List SessD) (cl : Int) : placeS ls cl ≤ ls.length := List.findIdx_le_length

set_option maxHeartbeats 1600000 in
theorem splace_any (v : Value) (ls : List SessD) (cl : Int) (w : World) (B : Nat) (hv : SessR w B v ls) (hB : B ≤ w.heap.size) :
    Calls Tryz.prog 55 #[v, .int .i64 cl] w fun e w' => e = .returned (.tuple #[.int .i64 (placeS ls cl : Nat), .bool (thereS ls cl)]) ∧ Below w.heap.size w w' := by
  have hlen := hv.len
  have hb0 : Below w.heap.size w (w.alloc (.cells #[.int .i64 cl] 3)) := (Below.refl _ _).alloc (Nat.le_refl _) _
  have HC := ghid (indexS v ls 86 #[.pointer (some ⟨w.heap.size, 0, none⟩)] (fun x => decide (cl ≤ x.client)) (fun _ => False) _ B (hv.below hb0 hB) (by simp; omega) (enters_of Tryz.func86 (by decide) rfl) (fun x ao n c w' _ hw => by
    refine splace1_any x.client x.id x.acked x.last _ cl w.heap.size w' ?_ (by have := hw.size; simp at this; omega)
    exact (World.cell?_of_block (hw.block w.heap.size (by simp) (fun h => h))).trans (by simp)))
  by_cases hn : placeS ls cl < ls.length
  · obtain ⟨x, hx⟩ : ∃ x, ls[placeS ls cl]? = some x := ⟨_, List.getElem?_eq_getElem hn⟩
    have ht : thereS ls cl = decide (x.client = cl) := by unfold thereS; rw [hx]
    rw [placeS_found hn] at HC
    obtain ⟨ao, cap, rfl, h1, h2, h3, h4⟩ := hv
    obtain ⟨b, off, rfl, hbB, hc⟩ := h4 (by omega)
    obtain ⟨lv, c0, -⟩ := hc _ x hx
    have he : ∀ a b : Int, decide (a = b) = (a == b) := fun a b => by rw [Bool.eq_iff_iff]; simp
    rw [ht, he]
    clear he
    obtain ⟨n, hne⟩ : ∃ n, n = placeS ls cl := ⟨_, rfl⟩
    rw [← hne] at HC hn c0 ⊢
    obtain ⟨xc, xi, xa, xt, xk⟩ := x
    simp only at c0 ⊢
    clear hx ht h4 hc hne hb0
    go_enter Tryz.func55, Tryz.ntmps55
    go_wp2_with fail
    refine HC.out.mono ?_
    rintro e w1 ⟨rfl, hb1⟩
    have HB := ghid (((Below.refl w.heap.size w).alloc (Nat.le_refl _) (.cells #[.int .i64 cl] 3)).trans (hb1.mono (by simp)))
    have d0 : w1.cell? ⟨b, off + n * 5, none⟩ = some (.int .i64 xc) := (HB.out.cell (p := ⟨b, off + n * 5, none⟩) (by show b < w.heap.size; omega)).trans c0
    have d1 : w1.cell? ⟨w.heap.size, 0, none⟩ = some (.int .i64 cl) := (hb1.cell (p := ⟨w.heap.size, 0, none⟩) (by simp)).trans (by simp)
    have hz1 : w.heap.size < w1.heap.size := by have := hb1.size; simp at this; omega
    clear hb1 c0
    go_wp2_with fail
    go_quiet (fail)
    go_wp2
    refine bodyPost_ret (v := .tuple #[.int .i64 n, .bool (xc == cl)]) (by simp [results, Tryz.results55, go_sem]) rfl ?_
    exact ⟨rfl, HB.out.trans (g_drewN_below _ _ _)⟩
  · have ht : thereS ls cl = false := by unfold thereS; rw [List.getElem?_eq_none (by omega)]
    have hpe : placeS ls cl = ls.length := by have := placeS_le ls cl; omega
    rw [placeS_none hn] at HC
    obtain ⟨ao, cap, rfl, h1, h2, h3, h4⟩ := hv
    rw [ht, hpe]
    clear ht h4 hpe hn hb0
    go_enter Tryz.func55, Tryz.ntmps55
    go_wp2_with fail
    refine HC.out.mono ?_
    rintro e w1 ⟨rfl, hb1⟩
    have HB := ghid (((Below.refl w.heap.size w).alloc (Nat.le_refl _) (.cells #[.int .i64 cl] 3)).trans (hb1.mono (by simp)))
    clear hb1
    go_wp2
    refine bodyPost_ret (v := .tuple #[.int .i64 ls.length, .bool false]) (by simp [results, Tryz.results55, go_sem]) rfl ?_
    exact ⟨rfl, HB.out⟩

end Go.Proofs.YtijilhbdbeajjaaGreatDoor

namespace Go.Proofs.YtijilhbdbeajjaaGreatDoor

open Go.RowKit

/-- What is asked of a closure over kept replies. -/
def PredK (cl : Nat) (lb : Array Value) (p : KeptD → Bool) (ks : List KeptD) (S : Nat → Prop) (w : World) : Prop :=
  ∀ (x : KeptD) (w' : World), x ∈ ks → TouchG w w' S → Calls Tryz.prog cl (#[.agg #[.int .i64 x.seq, .int .i64 x.code, .int .i64 x.n, .string x.text]] ++ lb) w' fun e w'' => e = .returned (.bool (p x)) ∧ Below w'.heap.size w' w''

set_option maxHeartbeats 800000 in
theorem indexK (v : Value) (ls : List KeptD) (cl : Nat) (lb : Array Value) (p : KeptD → Bool) (S : Nat → Prop) (w : World) (B : Nat) (hv : KeptsR w B v ls) (hB : B ≤ w.heap.size) (eg : ∀ args w, (callFunc cl args).run Tryz.prog w = .ok (.enter cl args) w) (hp : PredK cl lb p ls S w) :
    Calls Tryz.prog 132 #[v, .func (.func cl) #[] lb] w fun e w' => e = .returned (.int .i64 (idxI p ls)) ∧ Below w.heap.size w w' := by
  obtain ⟨ao, cap, rfl, h1, h2, h3, h4⟩ := hv
  have HP := ghid hp
  clear hp
  go_enter Tryz.func132, Tryz.ntmps132
  go_wp2
  go_loopw [8] (fun i wr => ∃ k : Nat, k ≤ ls.length ∧ i = .int .i64 k ∧ Hid (∀ (j : Nat) (y : KeptD), j < k → ls[j]? = some y → p y = false) ∧ Below w.heap.size w wr) (fun i _ => ls.length - (intOf i).toNat)
  case atStart => exact ⟨0, Nat.zero_le _, rfl, fun j y hj => absurd hj (by omega), Below.refl _ _⟩
  case round =>
    obtain ⟨k, hk, rfl, HF, hb⟩ := hrel
    have hsz := hb.size
    by_cases hlt : k < ls.length
    · obtain ⟨b, off, rfl, hbB, hc⟩ := h4 (by omega)
      obtain ⟨x, hx⟩ : ∃ x, ls[k]? = some x := ⟨_, List.getElem?_eq_getElem hlt⟩
      obtain ⟨c0, c1, c2, c3, -⟩ := (hc k x hx).below (by omega) hb
      have HX := ghid hx
      have C := HP.out x wr (List.mem_of_getElem? hx) (TouchG.of_below hb (Nat.le_refl _) _)
      have HB := ghid hb
      clear hx hc h4 hb
      cases hq : p x with
      | true =>
        rw [hq] at C
        have HQ := ghid hq
        clear hq
        go_wp2_with fail
        refine C.mono ?_
        rintro e w1 ⟨rfl, hb1⟩
        have HB2 := ghid (HB.out.trans (hb1.mono hsz))
        clear hb1 C
        go_wp2
        go_ret
        exact ⟨sret_int (idxI_found HX.out HQ.out HF.out).1.symm, HB2.out⟩
      | false =>
        rw [hq] at C
        have HN : Hid (∀ (j : Nat) (y : KeptD), j < k + 1 → ls[j]? = some y → p y = false) := fun j y hj hy => by
          by_cases e : j = k
          · subst e
            have := HX.out.symm.trans hy
            simp only [Option.some.injEq] at this
            rw [← this]; exact hq
          · exact HF.out j y (by omega) hy
        clear hq
        go_wp2_with fail
        refine C.mono ?_
        rintro e w1 ⟨rfl, hb1⟩
        have HB2 := ghid (HB.out.trans (hb1.mono hsz))
        clear hb1 C
        go_wp2
        go_roundw
        case rel => exact ⟨k + 1, by omega, by go_num, HN, HB2.out⟩
        case measure => simp [intOf]; omega
    · have HN : Hid (∀ (j : Nat) (y : KeptD), ls[j]? = some y → p y = false) := fun j y hy => HF.out j y (by have := (List.getElem?_eq_some_iff.1 hy).1; omega) hy
      clear HF
      go_wp2
      go_ret
      exact ⟨sret_int (idxI_none HN.out).1.symm, hb⟩

theorem kplace1_any (s c n : Int) (t : ByteArray) (q : Int) (b0 : Nat) (w : World) (hc0 : w.cell? ⟨b0, 0, none⟩ = some (.int .i64 q)) (hb0 : b0 < w.heap.size) :
    Calls Tryz.prog 133 #[.agg #[.int .i64 s, .int .i64 c, .int .i64 n, .string t], .pointer (some ⟨b0, 0, none⟩)] w fun e w' => e = .returned (.bool (decide (q ≤ s))) ∧ Below w.heap.size w w' := by
  go_enter Tryz.func133, Tryz.ntmps133
  go_wp2
  go_ret
  exact ⟨rfl, (Below.refl _ _).alloc (Nat.le_refl _) _⟩

theorem placeK_found {ls : List KeptD} {q : Int} (h : placeK ls q < ls.length) : idxI (fun x => decide (q ≤ x.seq)) ls = placeK ls q := by
  unfold idxI
  rw [if_pos (by exact h)]
  rfl

theorem placeK_none {ls : List KeptD} {q : Int} (h : ¬ placeK ls q < ls.length) : idxI (fun x => decide (q ≤ x.seq)) ls = -1 := by
  unfold idxI
  rw [if_neg (by exact h)]

theorem placeK_le (ls : List KeptD) (q : Int) : placeK ls q ≤ ls.length := List.findIdx_le_length

set_option maxHeartbeats 1600000 in
theorem kplace_any (v : Value) (ls : List KeptD) (q : Int) (w : World) (B : Nat) (hv : KeptsR w B v ls) (hB : B ≤ w.heap.size) :
    Calls Tryz.prog 89 #[v, .int .i64 q] w fun e w' => e = .returned (.tuple #[.int .i64 (placeK ls q : Nat), .bool (thereK ls q)]) ∧ Below w.heap.size w w' := by
  have hlen := hv.len
  have hb0 : Below w.heap.size w (w.alloc (.cells #[.int .i64 q] 3)) := (Below.refl _ _).alloc (Nat.le_refl _) _
  have HC := ghid (indexK v ls 133 #[.pointer (some ⟨w.heap.size, 0, none⟩)] (fun x => decide (q ≤ x.seq)) (fun _ => False) _ B (hv.below hb0 hB) (by simp; omega) (enters_of Tryz.func133 (by decide) rfl) (fun x w' _ hw => by
    refine kplace1_any x.seq x.code x.n x.text q w.heap.size w' ?_ (by have := hw.size; simp at this; omega)
    exact (World.cell?_of_block (hw.block w.heap.size (by simp) (fun h => h))).trans (by simp)))
  by_cases hn : placeK ls q < ls.length
  · obtain ⟨x, hx⟩ : ∃ x, ls[placeK ls q]? = some x := ⟨_, List.getElem?_eq_getElem hn⟩
    have ht : thereK ls q = decide (x.seq = q) := by unfold thereK; rw [hx]
    rw [placeK_found hn] at HC
    obtain ⟨ao, cap, rfl, h1, h2, h3, h4⟩ := hv
    obtain ⟨b, off, rfl, hbB, hc⟩ := h4 (by omega)
    obtain ⟨c0, -⟩ := hc _ x hx
    have he : ∀ a b : Int, decide (a = b) = (a == b) := fun a b => by rw [Bool.eq_iff_iff]; simp
    rw [ht, he]
    clear he
    obtain ⟨n, hne⟩ : ∃ n, n = placeK ls q := ⟨_, rfl⟩
    rw [← hne] at HC hn c0 ⊢
    obtain ⟨xs, xc, xn, xt⟩ := x
    simp only at c0 ⊢
    clear hx ht h4 hc hne hb0
    go_enter Tryz.func89, Tryz.ntmps89
    go_wp2_with fail
    refine HC.out.mono ?_
    rintro e w1 ⟨rfl, hb1⟩
    have HB := ghid (((Below.refl w.heap.size w).alloc (Nat.le_refl _) (.cells #[.int .i64 q] 3)).trans (hb1.mono (by simp)))
    have d0 : w1.cell? ⟨b, off + n * 4, none⟩ = some (.int .i64 xs) := (HB.out.cell (p := ⟨b, off + n * 4, none⟩) (by show b < w.heap.size; omega)).trans c0
    have d1 : w1.cell? ⟨w.heap.size, 0, none⟩ = some (.int .i64 q) := (hb1.cell (p := ⟨w.heap.size, 0, none⟩) (by simp)).trans (by simp)
    have hz1 : w.heap.size < w1.heap.size := by have := hb1.size; simp at this; omega
    clear hb1 c0
    go_wp2_with fail
    go_quiet (fail)
    go_wp2
    refine bodyPost_ret (v := .tuple #[.int .i64 n, .bool (xs == q)]) (by simp [results, Tryz.results89, go_sem]) rfl ?_
    exact ⟨rfl, HB.out.trans (g_drewN_below _ _ _)⟩
  · have ht : thereK ls q = false := by unfold thereK; rw [List.getElem?_eq_none (by omega)]
    have hpe : placeK ls q = ls.length := by have := placeK_le ls q; omega
    rw [placeK_none hn] at HC
    obtain ⟨ao, cap, rfl, h1, h2, h3, h4⟩ := hv
    rw [ht, hpe]
    clear ht h4 hpe hn hb0
    go_enter Tryz.func89, Tryz.ntmps89
    go_wp2_with fail
    refine HC.out.mono ?_
    rintro e w1 ⟨rfl, hb1⟩
    have HB := ghid (((Below.refl w.heap.size w).alloc (Nat.le_refl _) (.cells #[.int .i64 q] 3)).trans (hb1.mono (by simp)))
    clear hb1
    go_wp2
    refine bodyPost_ret (v := .tuple #[.int .i64 ls.length, .bool false]) (by simp [results, Tryz.results89, go_sem]) rfl ?_
    exact ⟨rfl, HB.out⟩

end Go.Proofs.YtijilhbdbeajjaaGreatDoor

namespace Go.Proofs.YtijilhbdbeajjaaGreatDoor

open Go.RowKit

section

variable {P : Program}

theorem gwp_append_room {w : World} {o : Oper} {a : Act} {K : Act → World → Prop} {Q : Exit → Act → World → Prop} (s x : Operand) (t : TypeId)
    (ho : o.op = .call { callee := .builtin .append, args := #[s, x], argTypes := #[t, t] })
    (base : Nat) (e : TypeId) (i : TypeInfo) (size : Nat) (ht : P.underlying t = some (.slice e)) (hi : P.info? e = some i) (hsize : i.size = size)
    (g n cap : Nat) (xs : List Value) (hs : a.eval s = .slice (some ⟨g, 0, none⟩) n cap) (hown : w.ownsRow base e size (.slice (some ⟨g, 0, none⟩) n cap) n xs)
    (ad : Addr) (m c : Nat) (news : List Value) (hx : a.eval x = .slice (some ad) m c) (hl : news.length = m * size) (hnews : ∀ j u, news[j]? = some u → w.cell? (ad.add j) = some u) (h1 : ∀ u ∈ news, u.oneCell' = true) (hroom : n + m ≤ cap)
    (h : ∀ w', w'.ownsRow base e size (.slice (some ⟨g, 0, none⟩) (n + m) cap) (n + m) (xs ++ news) → w.grownBy w' (some g) → K (a.put o.dst (.slice (some ⟨g, 0, none⟩) (n + m) cap)) w') : o.wp P a w K Q := by
  obtain ⟨w', hr, h2, h3⟩ := run_append_fits (P := P) w base t o.type e i size ht hi hsize g n cap xs hown ad m c news hl hnews h1 hroom
  unfold Oper.wp execOp
  simp only [ho, resolve, invoke, builtin, Sem.run_bind, Sem.run_pure, Result.andThen_ok, List.map_toArray, List.map_cons, List.map_nil, hs, hx, hr]
  exact h w' h2 h3

theorem gstep_append_room {w : World} {ops : Array Oper} {o : Oper} {a : Act} {K : Act → World → Prop} {Q : Exit → Act → World → Prop} {E : Prop} (hgd : o.guard = none) (s x : Operand) (t : TypeId)
    (ho : o.op = .call { callee := .builtin .append, args := #[s, x], argTypes := #[t, t] })
    (base : Nat) (e : TypeId) (i : TypeInfo) (size : Nat) (ht : P.underlying t = some (.slice e)) (hi : P.info? e = some i) (hsize : i.size = size)
    (g n cap : Nat) (xs : List Value) (hs : a.eval s = .slice (some ⟨g, 0, none⟩) n cap) (hown : w.ownsRow base e size (.slice (some ⟨g, 0, none⟩) n cap) n xs)
    (ad : Addr) (m c : Nat) (news : List Value) (hx : a.eval x = .slice (some ad) m c) (hl : news.length = m * size) (hnews : ∀ j u, news[j]? = some u → w.cell? (ad.add j) = some u) (h1 : ∀ u ∈ news, u.oneCell' = true) (hroom : n + m ≤ cap)
    (h : ∀ w', w'.ownsRow base e size (.slice (some ⟨g, 0, none⟩) (n + m) cap) (n + m) (xs ++ news) → w.grownBy w' (some g) → K (a.put o.dst (.slice (some ⟨g, 0, none⟩) (n + m) cap)) w') :
    if Region.wanted o (yielded ops a.tmps) = true then Oper.wp P o a w K Q else E := by
  have hw : Region.wanted o (yielded ops a.tmps) = true := by simp [Region.wanted, hgd]
  rw [if_pos hw]
  exact gwp_append_room s x t ho base e i size ht hi hsize g n cap xs hs hown ad m c news hx hl hnews h1 hroom h

end

theorem TouchG.setRow {w0 w : World} {S : Nat → Prop} (h : TouchG w0 w S) {g : Nat} (hg : S g) (cs : Array Value) : TouchG w0 (w.setRow g cs) S :=
  ⟨h.os, h.tape, h.output, by have := h.size; simpa using this, fun k hk hs => (setRow_other w g k _ (fun e => hs (by rw [e]; exact hg))).trans (h.block k hk hs)⟩

/-- What lies behind a row's end put anew: the row is as it was. -/
theorem grow_behind {w : World} {base g cap i size : Nat} {e : TypeId} {xs zs : List Value} {cur : Array Value} (h : w.ownsRow base e size (.slice (some ⟨g, 0, none⟩) i cap) i xs) (hc : w.heap[g]? = some (.cells cur e (0, 0))) (hz : i * size + zs.length ≤ cap * size) :
    (w.setRow g (cur.toList.take (i * size) ++ zs ++ cur.toList.drop (i * size + zs.length)).toArray).ownsRow base e size (.slice (some ⟨g, 0, none⟩) i cap) i xs := by
  rcases h.2 with ⟨h', _⟩ | ⟨g', cap', cur', h', hg, hh, hle, hcm, hcs, htk⟩
  · cases h'
  simp only [Value.slice.injEq, Option.some.injEq, Addr.mk.injEq, and_true, true_and] at h'
  obtain ⟨rfl, rfl⟩ := h'
  rw [hc] at hh
  simp only [Option.some.injEq, Obj.cells.injEq, and_true] at hh
  subst hh
  refine ⟨h.1, Or.inr ⟨g, cap, _, rfl, hg, setRow_heap _ _ _ _ _ _ hc, hle, hcm, ?_, ?_⟩⟩
  · simp only [List.size_toArray, List.length_append, List.length_take, List.length_drop, Array.length_toList, hcs]
    omega
  · rw [← htk]
    have hl : (cur.toList.take (i * size)).length = i * size := by rw [List.length_take, Array.length_toList, hcs]; omega
    have key : ∀ (A R : List Value), A.length = i * size → (A ++ R).take (i * size) = A := fun A R h => by rw [← h, List.take_left]
    rw [List.append_assoc]
    exact key _ _ hl

end Go.Proofs.YtijilhbdbeajjaaGreatDoor
