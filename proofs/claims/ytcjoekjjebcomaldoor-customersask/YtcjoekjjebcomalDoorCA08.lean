/- customer.Copy: the same client, in memory of its own; slices.IndexFunc over calls that wait, with whatever closure; customer.hearCall's own (joined by program) -/
import Derived.WalkKit
import Derived.ProofKit
import Derived.Laws.CopyOwn
import Derived.Laws.AppendOwn
import Derived.RegionTactic
import Derived.Deep.DeepCutAuto
import Derived.Deep.RegionWith
import Derived.Shelf.Abstract
import Derived.Deep.QuietTactic
import Derived.BigQuiet
import Derived.Test.YtcjoekjjebcomalDoorCA05
import Derived.Test.YtcjoekjjebcomalDoorCA04
import Derived.Test.YtcjoekjjebcomalDoorCA02
namespace Go.Proofs.YtcjoekjjebcomalDoor

open Go.RowKit

theorem set5w {α : Type} (A Z : List α) (z0 z1 z2 z3 z4 a b c d e : α) (n : Nat) (hA : A.length = n) :
    (((((A ++ z0 :: z1 :: z2 :: z3 :: z4 :: Z).set n a).set (n + 1) b).set (n + 2) c).set (n + 3) d).set (n + 4) e = A ++ a :: b :: c :: d :: e :: Z := by
  subst hA
  simp

/-- Five cells put into a row. -/
theorem put5w_own {w : World} {base : Nat} {t : TypeId} {g n cap k : Nat} {A Z : List Value} {z0 z1 z2 z3 z4 : Value} (h : w.ownsRow base t 5 (.slice (some ⟨g, 0, none⟩) n cap) n (A ++ z0 :: z1 :: z2 :: z3 :: z4 :: Z)) (hA : A.length = k * 5) (a b c d e : Value) :
    (((((w.setCell ⟨g, k * 5, none⟩ a).setCell ⟨g, k * 5 + 1, none⟩ b).setCell ⟨g, k * 5 + 2, none⟩ c).setCell ⟨g, k * 5 + 3, none⟩ d).setCell ⟨g, k * 5 + 4, none⟩ e).ownsRow base t 5 (.slice (some ⟨g, 0, none⟩) n cap) n (A ++ a :: b :: c :: d :: e :: Z) := by
  have h1 := (h.stored (k * 5) a).1
  have h2 := (h1.stored (k * 5 + 1) b).1
  have h3 := (h2.stored (k * 5 + 2) c).1
  have h4 := (h3.stored (k * 5 + 3) d).1
  have h5 := (h4.stored (k * 5 + 4) e).1
  rwa [set5w A Z z0 z1 z2 z3 z4 a b c d e (k * 5) hA] at h5

theorem put5w_below {B : Nat} {w0 w : World} (h : Below B w0 w) {g k : Nat} (hg : B ≤ g) (a b c d e : Value) :
    Below B w0 (((((w.setCell ⟨g, k * 5, none⟩ a).setCell ⟨g, k * 5 + 1, none⟩ b).setCell ⟨g, k * 5 + 2, none⟩ c).setCell ⟨g, k * 5 + 3, none⟩ d).setCell ⟨g, k * 5 + 4, none⟩ e) :=
  ((((h.setCell (by simpa using hg) a).setCell (by simpa using hg) b).setCell (by simpa using hg) c).setCell (by simpa using hg) d).setCell (by simpa using hg) e

theorem five_ofw {α : Type} (Z : List α) (h : 5 ≤ Z.length) : ∃ z0 z1 z2 z3 z4 Z', Z = z0 :: z1 :: z2 :: z3 :: z4 :: Z' := by
  match Z, h with
  | z0 :: z1 :: z2 :: z3 :: z4 :: Z', _ => exact ⟨z0, z1, z2, z3, z4, Z', rfl⟩

/-- A row of calls that was made by the call, behind a result put into its block. -/
theorem put5w_heap {w : World} {g k p : Nat} (hp : p ≠ g) (a b c d e : Value) :
    (((((w.setCell ⟨g, k * 5, none⟩ a).setCell ⟨g, k * 5 + 1, none⟩ b).setCell ⟨g, k * 5 + 2, none⟩ c).setCell ⟨g, k * 5 + 3, none⟩ d).setCell ⟨g, k * 5 + 4, none⟩ e).heap[p]? = w.heap[p]? := by
  rw [heap_setCell_other _ _ _ _ (by simpa using hp), heap_setCell_other _ _ _ _ (by simpa using hp), heap_setCell_other _ _ _ _ (by simpa using hp), heap_setCell_other _ _ _ _ (by simpa using hp), heap_setCell_other _ _ _ _ (by simpa using hp)]

set_option maxRecDepth 100000 in
set_option maxHeartbeats 1600000 in
theorem custCopy_own (v : Value) (c : CustD) (w : World) (B : Nat) (hv : CustR w B v c) (hB : B ≤ w.heap.size) :
    Calls Tryd.prog 15 #[v] w fun e w' => e = .returned (.agg #[.int .i64 c.id, .int .i64 c.session, .int .i64 c.next, .slice (some ⟨w.heap.size + 2, 0, none⟩) c.waits.length c.waits.length]) ∧ w'.ownsRow (w.heap.size + 2) 55 5 (.slice (some ⟨w.heap.size + 2, 0, none⟩) c.waits.length c.waits.length) c.waits.length (flatG waitCells c.waits) ∧ Below w.heap.size w w' := by
  obtain ⟨i0, hi, hz0, hz1, hz2⟩ := info_parts Tryd.infoWait
  obtain ⟨ao, cap, rfl, hw⟩ := hv.shape
  obtain ⟨id, se, nx, ws⟩ := c
  simp only at hw ⊢
  have HWR := ghid hw
  have hlen := hw.len
  have hZ : Below w.heap.size w ((w.alloc (.cells #[.int .i64 id, .int .i64 se, .int .i64 nx, .slice ao ws.length cap] 25)).alloc (.cells #[.int .i64 0, .int .i64 0, .int .i64 0, .slice none 0 0] 25)) := ((Below.refl _ _).alloc (Nat.le_refl _) _).alloc (by simp) _
  obtain ⟨hr0, hx0⟩ := two_newB (w := w) (A := .cells #[.int .i64 id, .int .i64 se, .int .i64 nx, .slice ao ws.length cap] 25) (R := .cells #[.int .i64 0, .int .i64 0, .int .i64 0, .slice none 0 0] 25) (Below.refl _ _)
  have HZ := ghid hZ
  have HX0 := ghid hx0
  have HR0 := ghid hr0
  clear hv hw hZ hr0 hx0
  go_enter Tryd.func15, Tryd.ntmps15
  go_wp2_with (at_make; refine wpList_make_full _ rfl (.tmp 8) (.tmp 8) 23 rfl (w.heap.size + 2) 55 i0 _ 5 Tryd.underlying23 hi hz0 hz1 .i64 .i64 _ _ ws.length rfl rfl rfl rfl (by rw [hz2]; omega) (by unfold maxLen; omega) (by simp) ?_)
  intro w1 hown1 hgrow1
  have hx1 : w1.heap[w.heap.size]? = _ := (hgrow1.block _ (by simp; omega) (by intro h; cases h)).trans HX0.out
  have hr1 : w1.heap[w.heap.size + 1]? = _ := (hgrow1.block _ (by simp) (by intro h; cases h)).trans HR0.out
  have hb1 : Below w.heap.size w w1 := HZ.out.grown hgrow1 (by simp; omega) (fun k hk => by cases hk)
  obtain ⟨Z, HO1, hZl⟩ : ∃ Z : List Value, Hid (w1.ownsRow (w.heap.size + 1 + 1) 55 5 (.slice (some ⟨w.heap.size + 1 + 1, 0, none⟩) ws.length ws.length) ws.length Z) ∧ Z.length = ws.length * 5 := ⟨_, hown1, by simp [size_madeCells]⟩
  have HX1 := ghid hx1
  have HR1 := ghid hr1
  obtain ⟨c0, c1, c2, c3, cf, cl⟩ := state_cells hx1
  clear hown1 hgrow1 hi hz0 hz1 hz2 hx1 hr1
  go_wp2_with fail
  clear c0 c1 c2 c3 cf cl
  go_loopw [13] (fun i wr => ∃ (k : Nat) (Z : List Value), k ≤ ws.length ∧ i = .int .i64 k ∧ Z.length = (ws.length - k) * 5 ∧
      wr.ownsRow (w.heap.size + 1 + 1) 55 5 (.slice (some ⟨w.heap.size + 1 + 1, 0, none⟩) ws.length ws.length) ws.length (flatG waitCells (ws.take k) ++ Z) ∧
      wr.heap[w.heap.size]? = some (.cells #[.int .i64 id, .int .i64 se, .int .i64 nx, .slice ao ws.length cap] 25 (0, 0)) ∧ wr.heap[w.heap.size + 1]? = some (.cells #[.int .i64 0, .int .i64 0, .int .i64 0, .slice none 0 0] 25 (0, 0)) ∧ Below w.heap.size w wr)
    (fun i _ => ws.length - (intOf i).toNat)
  case atStart => exact ⟨0, Z, Nat.zero_le _, rfl, by simpa using hZl, by simpa [flatG] using HO1.out, HX1.out, HR1.out, hb1⟩
  case round =>
    clear HO1 hb1 HX1 HR1
    obtain ⟨k, Z, hk, rfl, hZl, hown, hx, hr, hb⟩ := hrel
    have HX := ghid hx
    have HR := ghid hr
    by_cases hlt : k < ws.length
    · obtain ⟨ao', cap', he, -, -, -, h4⟩ := HWR.out.below hb hB
      simp only [Value.slice.injEq] at he
      obtain ⟨rfl, -, rfl⟩ := he
      obtain ⟨b, off, rfl, hbB, hc⟩ := h4 (by omega)
      obtain ⟨x, hxe⟩ : ∃ x, ws[k]? = some x := ⟨_, List.getElem?_eq_getElem hlt⟩
      obtain ⟨c0, c1, c2, c3, c4, hs1, hs2, -⟩ := hc k x hxe
      have HXF : Hid (flatG waitCells (ws.take (k + 1)) = flatG waitCells (ws.take k) ++ waitCells x) := by
        unfold Hid
        rw [List.take_succ_eq_append_getElem hlt, flatG_snoc, (List.getElem?_eq_some_iff.1 hxe).2]
      have hsz := hb.size
      have hbr : b < wr.heap.size := by omega
      clear hxe hc h4
      obtain ⟨xq, xk, xa, xb, xn⟩ := x
      simp only at c0 c1 c2 c3 c4 hs1 hs2
      obtain ⟨z0, z1, z2, z3, z4, Z', hZe⟩ := five_ofw Z (by omega)
      subst hZe
      have hkl : (flatG waitCells (ws.take k)).length = k * 5 := by rw [flatG_length waitCells_len, List.length_take]; omega
      have hwg : w.heap.size + 1 + 1 < wr.heap.size := (hown.lt _ rfl).2
      have hwg1 : w.heap.size + 1 < wr.heap.size := by omega
      have hwg0 : w.heap.size < wr.heap.size := by omega
      have HY : Hid (∀ u, Below (wr.heap.size + 1) (wr.alloc (.cells #[.int .i64 xq, .int .i64 xk, .string xa, .string xb, .int .i64 xn] 55)) u → u.cell? ⟨w.heap.size + 1 + 1, k * 5, none⟩ = some z0 ∧ u.cell? ⟨w.heap.size + 1 + 1, k * 5 + 1, none⟩ = some z1 ∧ u.cell? ⟨w.heap.size + 1 + 1, k * 5 + 2, none⟩ = some z2 ∧ u.cell? ⟨w.heap.size + 1 + 1, k * 5 + 3, none⟩ = some z3 ∧ u.cell? ⟨w.heap.size + 1 + 1, k * 5 + 4, none⟩ = some z4 ∧ ∀ j, u.frozen? ⟨w.heap.size + 1 + 1, j, none⟩ = false) := fun u hu => by
        have hr := grow_below hown (((Below.refl wr.heap.size wr).alloc (Nat.le_refl _) (.cells #[.int .i64 xq, .int .i64 xk, .string xa, .string xb, .int .i64 xn] 55)).trans (hu.mono (by simp))) (Nat.le_refl _)
        have y : ∀ j z, (z0 :: z1 :: z2 :: z3 :: z4 :: Z')[j]? = some z → j < 5 → u.cell? ⟨w.heap.size + 1 + 1, k * 5 + j, none⟩ = some z := fun j z hz hj => by
          rw [hr.cellAt (k * 5 + j) (by omega), List.getElem?_append_right (by omega), hkl, show k * 5 + j - k * 5 = j by omega]
          exact hz
        exact ⟨y 0 z0 rfl (by omega), y 1 z1 rfl (by omega), y 2 z2 rfl (by omega), y 3 z3 rfl (by omega), y 4 z4 rfl (by omega), fun j => hr.frozenAt j⟩
      have HO := ghid hown
      have HB := ghid hb
      have HKL := ghid hkl
      have hba : Below wr.heap.size wr (wr.alloc (.cells #[.int .i64 xq, .int .i64 xk, .string xa, .string xb, .int .i64 xn] 55)) := (Below.refl _ _).alloc (Nat.le_refl _) _
      have HBA := ghid hba
      clear hown hkl hb hba hx hr
      go_wp2_with fail
      go_region_with (go_at_call 16; refine (copyOp_any xk xn xa xb _ hs1 hs2).mono ?_; rintro e w2 ⟨rfl, hb2⟩; have hb3 : Below (wr.heap.size + 1) (wr.alloc (.cells #[.int .i64 xq, .int .i64 xk, .string xa, .string xb, .int .i64 xn] 55)) w2 := ⟨hb2.os, hb2.tape, hb2.output, hb2.size, fun k hk => hb2.block k (by simpa using hk)⟩; obtain ⟨y0, y1, y2, y3, y4, yf⟩ := HY.out w2 hb3; obtain ⟨q0, q1, q2, q3, q4, qf, ql⟩ := five_cells ((hb3.block wr.heap.size (Nat.lt_succ_self _)).trans (heap_alloc_new wr _)); have hz2 : wr.heap.size < w2.heap.size := (by have := hb2.size; simp at this; omega); have hz3 : w.heap.size + 1 + 1 < w2.heap.size := (by omega); clear hb2)
      all_goals
        have HB2 := ghid (HBA.out.trans (hb3.mono (by omega)))
        clear hb3
        go_wp2
        go_roundw
        case rel =>
          refine ⟨k + 1, Z', by omega, by go_num, by simp at hZl; omega, ?_, ?_, ?_, ?_⟩
          · rw [HXF.out]
            have := put5w_own (grow_below HO.out HB2.out (Nat.le_refl _)) HKL.out (.int .i64 xq) (.int .i64 xk) (.string xa) (.string xb) (.int .i64 xn)
            simpa [waitCells] using this
          · rw [put5w_heap (by omega)]
            exact (HB2.out.block _ (by omega)).trans HX.out
          · rw [put5w_heap (by omega)]
            exact (HB2.out.block _ (by omega)).trans HR.out
          · exact put5w_below (HB.out.trans (HB2.out.mono hsz)) (by omega) _ _ _ _ _
        case measure => simp [intOf]; omega
    · have hkl : k = ws.length := by omega
      subst hkl
      have hZ0 : Z = [] := List.eq_nil_of_length_eq_zero (by omega)
      subst hZ0
      have hown' : wr.ownsRow (w.heap.size + 1 + 1) 55 5 (.slice (some ⟨w.heap.size + 1 + 1, 0, none⟩) ws.length ws.length) ws.length (flatG waitCells ws) := by simpa using hown
      have hne : w.heap.size ≠ w.heap.size + 1 + 1 := by omega
      have hset : ∀ a, (wr.setCell ⟨w.heap.size, 3, none⟩ a).heap[w.heap.size + 1]? = some (.cells #[.int .i64 0, .int .i64 0, .int .i64 0, .slice none 0 0] 25 (0, 0)) := fun a => (heap_setCell_other _ _ _ _ (by simp)).trans HR.out
      have hsx := heap_set (j := 3) hx (.slice (some ⟨w.heap.size + 1 + 1, 0, none⟩) ws.length ws.length)
      obtain ⟨c0, c1, c2, c3, cf, cl⟩ := state_cells hx
      obtain ⟨r0, r1, r2, r3, rf, rl⟩ := state_cells hr
      have HO : Hid (∀ a0 a1 a2 a3 a4, (((((wr.setCell ⟨w.heap.size, 3, none⟩ a4).setCell ⟨w.heap.size + 1, 0, none⟩ a0).setCell ⟨w.heap.size + 1, 1, none⟩ a1).setCell ⟨w.heap.size + 1, 2, none⟩ a2).setCell ⟨w.heap.size + 1, 3, none⟩ a3).ownsRow (w.heap.size + 1 + 1) 55 5 (.slice (some ⟨w.heap.size + 1 + 1, 0, none⟩) ws.length ws.length) ws.length (flatG waitCells ws)) := fun a0 a1 a2 a3 a4 => grow_keep hown' fun b hbk => by
        have e : w.heap.size + 1 + 1 = b := by simpa [Value.ownBlock] using hbk
        rw [heap_setCell_other _ _ _ _ (by simp; omega), heap_setCell_other _ _ _ _ (by simp; omega), heap_setCell_other _ _ _ _ (by simp; omega), heap_setCell_other _ _ _ _ (by simp; omega), heap_setCell_other _ _ _ _ (by simp; omega)]
      have HB := ghid hb
      clear hown hown' hx hr hb hset hsx
      go_wp2
      refine bodyPost_ret (v := .agg #[.int .i64 id, .int .i64 se, .int .i64 nx, (.slice (some ⟨w.heap.size + 1 + 1, 0, none⟩) ws.length ws.length)]) (by simp [results, Tryd.results15, go_sem, r0, r1, r2, r3]) rfl ?_
      exact ⟨rfl, HO.out _ _ _ _ _, zset4 (HB.out.setCell (by simp) _) (by omega) _ _ _ _⟩

end Go.Proofs.YtcjoekjjebcomalDoor

namespace Go.Proofs.YtcjoekjjebcomalDoor

open Go.RowKit

/-- What is asked of a closure over calls that wait. -/
def PredW (cl : Nat) (lb : Array Value) (p : WaitD → Bool) (ks : List WaitD) (S : Nat → Prop) (w : World) : Prop :=
  ∀ (x : WaitD) (w' : World), x ∈ ks → TouchG w w' S → Calls Tryd.prog cl (#[.agg #[.int .i64 x.seq, .int .i64 x.kind, .string x.a, .string x.b, .int .i64 x.n]] ++ lb) w' fun e w'' => e = .returned (.bool (p x)) ∧ Below w'.heap.size w' w''

set_option maxHeartbeats 800000 in
theorem indexW (v : Value) (ls : List WaitD) (cl : Nat) (lb : Array Value) (p : WaitD → Bool) (S : Nat → Prop) (w : World) (B : Nat) (hv : WaitsR w B v ls) (hB : B ≤ w.heap.size) (eg : ∀ args w, (callFunc cl args).run Tryd.prog w = .ok (.enter cl args) w) (hp : PredW cl lb p ls S w) :
    Calls Tryd.prog 31 #[v, .func (.func cl) #[] lb] w fun e w' => e = .returned (.int .i64 (idxI p ls)) ∧ Below w.heap.size w w' := by
  obtain ⟨ao, cap, rfl, h1, h2, h3, h4⟩ := hv
  have HP := ghid hp
  clear hp
  go_enter Tryd.func31, Tryd.ntmps31
  go_wp2
  go_loopw [8] (fun i wr => ∃ k : Nat, k ≤ ls.length ∧ i = .int .i64 k ∧ Hid (∀ (j : Nat) (y : WaitD), j < k → ls[j]? = some y → p y = false) ∧ Below w.heap.size w wr) (fun i _ => ls.length - (intOf i).toNat)
  case atStart => exact ⟨0, Nat.zero_le _, rfl, fun j y hj => absurd hj (by omega), Below.refl _ _⟩
  case round =>
    obtain ⟨k, hk, rfl, HF, hb⟩ := hrel
    have hsz := hb.size
    by_cases hlt : k < ls.length
    · obtain ⟨b, off, rfl, hbB, hc⟩ := h4 (by omega)
      obtain ⟨x, hx⟩ : ∃ x, ls[k]? = some x := ⟨_, List.getElem?_eq_getElem hlt⟩
      obtain ⟨c0, c1, c2, c3, c4, -⟩ := (hc k x hx).below (by omega) hb
      have HX := ghid hx
      have C := HP.out x wr (List.mem_of_getElem? hx) (TouchG.of_below hb (Nat.le_refl _) _)
      have HB := ghid hb
      clear hx hc h4 hb
      cases hq : p x with
      | true =>
        rw [hq] at C
        have HQ := ghid hq
        clear hq
        go_wp2_with fail
        refine C.mono ?_
        rintro e w1 ⟨rfl, hb1⟩
        have HB2 := ghid (HB.out.trans (hb1.mono hsz))
        clear hb1 C
        go_wp2
        go_ret
        exact ⟨sret_int (idxI_found HX.out HQ.out HF.out).1.symm, HB2.out⟩
      | false =>
        rw [hq] at C
        have HN : Hid (∀ (j : Nat) (y : WaitD), j < k + 1 → ls[j]? = some y → p y = false) := fun j y hj hy => by
          by_cases e : j = k
          · subst e
            have := HX.out.symm.trans hy
            simp only [Option.some.injEq] at this
            rw [← this]; exact hq
          · exact HF.out j y (by omega) hy
        clear hq
        go_wp2_with fail
        refine C.mono ?_
        rintro e w1 ⟨rfl, hb1⟩
        have HB2 := ghid (HB.out.trans (hb1.mono hsz))
        clear hb1 C
        go_wp2
        go_roundw
        case rel => exact ⟨k + 1, by omega, by go_num, HN, HB2.out⟩
        case measure => simp [intOf]; omega
    · have HN : Hid (∀ (j : Nat) (y : WaitD), ls[j]? = some y → p y = false) := fun j y hy => HF.out j y (by have := (List.getElem?_eq_some_iff.1 hy).1; omega) hy
      clear HF
      go_wp2
      go_ret
      exact ⟨sret_int (idxI_none HN.out).1.symm, hb⟩

theorem heard1_any (s xk xn : Int) (xa xb : ByteArray) (q : Int) (b0 : Nat) (w : World) (hc0 : w.cell? ⟨b0, 0, none⟩ = some (.int .i64 q)) (hb0 : b0 < w.heap.size) :
    Calls Tryd.prog 32 #[.agg #[.int .i64 s, .int .i64 xk, .string xa, .string xb, .int .i64 xn], .pointer (some ⟨b0, 0, none⟩)] w fun e w' => e = .returned (.bool (s == q)) ∧ Below w.heap.size w w' := by
  go_enter Tryd.func32, Tryd.ntmps32
  go_wp2
  go_ret
  exact ⟨rfl, (Below.refl _ _).alloc (Nat.le_refl _) _⟩

end Go.Proofs.YtcjoekjjebcomalDoor
