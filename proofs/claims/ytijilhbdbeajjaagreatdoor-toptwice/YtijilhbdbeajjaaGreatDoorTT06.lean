/- slices.Delete of one number out of a row of a call's own: by the shelf's contract; lock.give, lock.giveUp, lock.leave, on one lock of a row of the call's own (joined by program) -/
import Derived.Shelf.Lays2
import Derived.Shelf.Slices.Delete
import Derived.Test.YtijilhbdbeajjaaGreatDoorTT01
namespace Go.Proofs.YtijilhbdbeajjaaGreatDoor

open Go.RowKit Go.Shelf Go.Sort

def delRen : Go.Shelf.Ren := ⟨fun | 23 => 179 | n => n, fun | 0 => 0 | 3 => 3 | 4 => 4 | 22 => 80 | n => n, fun | n => n⟩

theorem delLays : Go.Proofs.Lays2.n23 Tryz.prog delRen := {
  mixed := by kernel_rfl
  f23 := Tryz.func179.trans (congrArg some (by kernel_rfl))
  t0 := Tryz.underlying0
  a0 := Tryz.isAgg0
  z0 := Tryz.sizeOf0
  v0 := Tryz.zeroValue0
  t3 := Tryz.underlying3
  a3 := Tryz.isAgg3
  z3 := Tryz.sizeOf3
  v3 := Tryz.zeroValue3
  t4 := Tryz.underlying4
  a4 := Tryz.isAgg4
  z4 := Tryz.sizeOf4
  v4 := Tryz.zeroValue4
  t22 := Tryz.underlying80
  a22 := Tryz.isAgg80
  z22 := Tryz.sizeOf80
  v22 := Tryz.zeroValue80
  i3 := by kernel_rfl }

theorem heap_putRow {α : Type} [Inhabited α] (enc : α → Value) (w : World) (blk off q : Nat) (d : Array α) (cs : Array Value) (t : TypeId) (fr : Nat × Nat) (h : w.heap[blk]? = some (.cells cs t fr)) :
    (putRow enc (Sort.ahead w q) blk off d).heap[blk]? = some (.cells (putCells enc off d cs) t fr) := by
  simp [putRow, mapBlock, Array.getElem?_modify, onCells, h]

theorem heap_putRow_other {α : Type} [Inhabited α] (enc : α → Value) (w : World) (blk off q k : Nat) (d : Array α) (hk : k ≠ blk) :
    (putRow enc (Sort.ahead w q) blk off d).heap[k]? = w.heap[k]? := by
  show (mapBlock _ _ _).heap[k]? = _
  simp only [mapBlock, Array.getElem?_modify]
  rw [if_neg (Ne.symm hk)]
  rfl

theorem deleteInts (g cap i : Nat) (xs : List Int) (w : World) (base : Nat) (hown : w.ownsRow base 3 1 (.slice (some ⟨g, 0, none⟩) xs.length cap) xs.length (intCells xs)) (hi : i < xs.length) :
    Calls Tryz.prog 179 #[.slice (some ⟨g, 0, none⟩) xs.length cap, .int .i64 i, .int .i64 (i + 1 : Nat)] w fun e w' => e = .returned (.slice (some ⟨g, 0, none⟩) (xs.length - 1) cap) ∧
      w'.ownsRow base 3 1 (.slice (some ⟨g, 0, none⟩) (xs.length - 1) cap) (xs.length - 1) (intCells (xs.eraseIdx i)) ∧ w.grownBy w' (some g) := by
  rcases hown.2 with ⟨h, _⟩ | ⟨g', cap', cur, h, hbg, hg, hnc, hcm, hcs, htake⟩
  · cases h
  simp only [Value.slice.injEq, Option.some.injEq, Addr.mk.injEq, and_true, true_and] at h
  obtain ⟨rfl, rfl⟩ := h
  have hH : Holds (Value.int .i64) w g 0 xs.toArray := fun j hj => by
    have hj' : j < xs.length := by simpa using hj
    have := hown.cellAt j (by omega)
    refine ⟨?_, by simpa using hown.frozenAt (0 + j)⟩
    rw [Nat.zero_add, this, getElem!_pos xs.toArray j hj]
    simp [intCells, hj']
  have hm : cap ≤ 9223372036854775807 := by unfold maxLen at hcm; exact hcm
  refine (Any.slices_Delete_int delLays g 0 cap i (i + 1) xs w hH hnc hm (by omega) (by omega)).mono ?_
  rintro e w' ⟨rfl, q, rfl⟩
  have e1 : xs.length - (i + 1 - i) = xs.length - 1 := by omega
  rw [e1]
  have e2 : xs.take i ++ xs.drop (i + 1) = xs.eraseIdx i := by rw [List.eraseIdx_eq_take_drop_succ]
  have hlen : (xs.eraseIdx i).length = xs.length - 1 := by rw [List.length_eraseIdx]; simp [hi]
  refine ⟨rfl, ⟨by rw [intCells, List.length_map, hlen]; omega, Or.inr ⟨g, cap, _, rfl, hbg, heap_putRow _ w g 0 q _ cur _ _ hg, by omega, hcm, ?_, ?_⟩⟩, ⟨rfl, rfl, rfl, by simp, fun k _ hk => heap_putRow_other _ _ _ _ _ _ _ (fun e => hk (by rw [e]))⟩⟩
  · simp only [putCells, Array.size_mapIdx]
    exact hcs
  · apply List.ext_getElem?
    intro j
    have hcs' : cur.size = cap := by omega
    by_cases hj : j < xs.length - 1
    · have hjc : j < cur.size := by omega
      have hsz : (xs.take i ++ xs.drop (i + 1) ++ List.replicate (i + 1 - i) 0).toArray.size = xs.length := by simp; omega
      rw [List.getElem?_take, if_pos (by omega)]
      simp only [putCells, Array.getElem?_toList, Array.getElem?_mapIdx, Array.getElem?_eq_getElem hjc, Option.map_some]
      rw [if_pos ⟨Nat.zero_le _, by rw [hsz]; omega⟩]
      have hD : ∀ (D : List Int) (E : List Int), D = xs.eraseIdx i ++ E → some (Value.int .i64 D.toArray[j - 0]!) = (intCells (xs.eraseIdx i))[j]? := by
        rintro D E rfl
        rw [Nat.sub_zero, getElem!_pos (xs.eraseIdx i ++ E).toArray j (by simp; omega)]
        simp only [intCells, List.getElem?_map, List.getElem_toArray]
        rw [List.getElem_append_left (by rw [hlen]; exact hj), List.getElem?_eq_getElem (by rw [hlen]; exact hj)]
        rfl
      exact hD _ _ (by rw [e2])
    · rw [List.getElem?_take, if_neg (by omega), List.getElem?_eq_none (by rw [intCells, List.length_map, hlen]; omega)]

end Go.Proofs.YtijilhbdbeajjaaGreatDoor

namespace Go.Proofs.YtijilhbdbeajjaaGreatDoor

open Go.RowKit

/-- A lock that is given up. -/
def giveUpX (x : LockD) : LockD :=
  match x.line with
  | [] => ⟨x.name, 0, x.fence, []⟩
  | a :: t => if x.fence = 1073741824 then ⟨x.name, 0, x.fence, []⟩ else ⟨x.name, a, x.fence + 1, t⟩

/-- A lock that a client has no more, and in whose line it stands no more. -/
def leaveX (x : LockD) (who : Int) : LockD := if x.holder = who then giveUpX x else { x with line := x.line.filter (· != who) }

set_option maxHeartbeats 400000 in
theorem give_any (g o : Nat) (a h f : Int) (w : World) (c1 : w.cell? ⟨g, o + 1, none⟩ = some (.int .i64 h)) (c2 : w.cell? ⟨g, o + 2, none⟩ = some (.int .i64 f)) (hf : ∀ j, w.frozen? ⟨g, j, none⟩ = false) (f1 : 0 ≤ f) (f2 : f ≤ 1073741824) :
    Calls Tryz.prog 216 #[.pointer (some ⟨g, o, none⟩), .int .i64 a] w fun e w' => e = .returned (.tuple #[]) ∧ w' = (w.setCell ⟨g, o + 1, none⟩ (.int .i64 a)).setCell ⟨g, o + 2, none⟩ (.int .i64 (f + 1)) := by
  go_enter Tryz.func216, Tryz.ntmps216
  go_wp2
  go_end0
  exact ⟨rfl, rfl⟩

theorem erase_first {xs : List Int} {x : Int} {i : Nat} (hi : xs[i]? = some x) (hm : ∀ j, j < i → xs[j]? ≠ some x) (hnd : xs.Nodup) : xs.eraseIdx i = xs.filter (· != x) := by
  induction xs generalizing i with
  | nil => simp at hi
  | cons y t ih =>
    have hnd' := List.nodup_cons.1 hnd
    cases i with
    | zero =>
      have : y = x := by simpa using hi
      subst this
      simp only [List.eraseIdx_cons_zero, List.filter_cons, bne_self_eq_false]
      rw [if_neg (by simp)]
      symm
      rw [List.filter_eq_self]
      intro a ha
      have : a ≠ y := fun e => hnd'.1 (e ▸ ha)
      simpa using this
    | succ i =>
      have hy : y ≠ x := by simpa using hm 0 (by omega)
      rw [List.eraseIdx_cons_succ, List.filter_cons, if_pos (by simpa using hy)]
      rw [ih (by simpa using hi) (fun j hj => by simpa using hm (j + 1) (by omega)) hnd'.2]

set_option maxHeartbeats 800000 in
theorem giveUp_any (g n cap : Nat) (p s : List (LockD × Value)) (r : LockD × Value) (w : World) (base : Nat) (h : OwnL w base (.slice (some ⟨g, 0, none⟩) n cap) (p ++ r :: s)) (f1 : 0 ≤ r.1.fence) (f2 : r.1.fence ≤ 1073741824) :
    Calls Tryz.prog 177 #[.pointer (some ⟨g, p.length * 4, none⟩)] w fun e w' => e = .returned (.tuple #[]) ∧ ∃ lv, OwnL w' base (.slice (some ⟨g, 0, none⟩) n cap) (p ++ (giveUpX r.1, lv) :: s) ∧ Touch w w' (OwnB g (p ++ r :: s)) := by
  obtain ⟨⟨xn, xh, xf, xl⟩, lv⟩ := r
  simp only at f1 f2
  have c1 := h.cellAt 1 (by omega)
  have c2 := h.cellAt 2 (by omega)
  have c3 := h.cellAt 3 (by omega)
  have hfz := h.frozenAt
  simp only [lockCells, List.getElem?_cons_zero, List.getElem?_cons_succ] at c1 c2 c3
  have hline := h.line
  simp only at hline
  have hg := h.block
  have HH : Hid (OwnL w base (.slice (some ⟨g, 0, none⟩) n cap) (p ++ (⟨xn, xh, xf, xl⟩, lv) :: s)) := h
  clear h
  have none_case : ∀ lo lc, lv = .slice lo xl.length lc → giveUpX ⟨xn, xh, xf, xl⟩ = ⟨xn, 0, xf, []⟩ →
      ∃ lv', OwnL ((w.setCell ⟨g, p.length * 4 + 1, none⟩ (.int .i64 0)).setCell ⟨g, p.length * 4 + 3, none⟩ (.slice none 0 0)) base (.slice (some ⟨g, 0, none⟩) n cap) (p ++ (giveUpX ⟨xn, xh, xf, xl⟩, lv') :: s) ∧ Touch w ((w.setCell ⟨g, p.length * 4 + 1, none⟩ (.int .i64 0)).setCell ⟨g, p.length * 4 + 3, none⟩ (.slice none 0 0)) (OwnB g (p ++ (⟨xn, xh, xf, xl⟩, lv) :: s)) := by
    intro lo lc _ e
    rw [e]
    refine ⟨.slice none 0 0, ?_, ((Touch.refl _ _).setCell (Or.inl (Or.inl rfl)) _).setCell (Or.inl (Or.inl rfl)) _⟩
    exact (HH.out.setHolder 0).setLine (xs := []) (World.grownBy.refl _ _) (World.ownsRow_nil _ _ _ _) (by simp) (fun b hb => by cases hb)
  by_cases hx0 : xl.length = 0
  · have hxl : xl = [] := List.eq_nil_of_length_eq_zero hx0
    subst hxl
    obtain ⟨lo, lc, rfl⟩ : ∃ lo lc, lv = .slice lo 0 lc := by
      rcases hline.1.2 with ⟨rfl, _⟩ | ⟨_, _, _, rfl, _⟩
      · exact ⟨none, 0, rfl⟩
      · exact ⟨_, _, rfl⟩
    have HN := Hid.mk' (none_case lo lc rfl rfl)
    clear none_case hline HH hx0
    go_enter Tryz.func177, Tryz.ntmps177
    go_wp2
    exact bodyPost_ret (results_none rfl _ _ _) rfl ⟨rfl, HN.out⟩
  · obtain ⟨a, t, hxl⟩ : ∃ a t, xl = a :: t := by
      cases xl with
      | nil => exact absurd rfl hx0
      | cons a t => exact ⟨a, t, rfl⟩
    have HX : Hid (xl = a :: t) := hxl
    have hx1 : ¬ (xl.length : Int) = 0 := by omega
    have hx2 : ((xl.length : Int) == 0) = false := by simpa using hx1
    have hxp : 0 < xl.length := by omega
    obtain ⟨gl, lc, rfl, hglb, hgl⟩ := hline.1.form hxp
    by_cases hmax : xf = 1073741824
    · have HN := Hid.mk' (none_case _ _ rfl (by rw [hxl]; simp [giveUpX, hmax]))
      subst hmax
      clear none_case hline HH hxl
      go_enter Tryz.func177, Tryz.ntmps177
      go_wp2
      exact bodyPost_ret (results_none rfl _ _ _) rfl ⟨rfl, HN.out⟩
    · have la : w.cell? ⟨gl, 0, none⟩ = some (.int .i64 a) := by
        have := hline.1.cellAt 0 (by omega)
        rw [this, hxl]
        rfl
      have hne : gl ≠ g := HH.out.lineNe rfl
      have HL : Hid (w.ownsRow base 3 1 (.slice (some ⟨gl, 0, none⟩) xl.length lc) xl.length (intCells xl)) := hline.1
      have hlb := hline.2.1
      have hm2 : (xf == 1073741824) = false := by simpa using hmax
      clear none_case hline hxl
      go_enter Tryz.func177, Tryz.ntmps177
      go_wp2_with fail
      refine (deleteInts gl lc 0 xl w base HL.out hxp).mono ?_
      rintro e w1 ⟨rfl, hown1, hg1⟩
      have k1 : ∀ j, w1.cell? ⟨g, j, none⟩ = w.cell? ⟨g, j, none⟩ := fun j => hg1.cell_far ⟨g, j, none⟩ hg.2 (by simpa using Ne.symm hne)
      have k2 : ∀ j, w1.frozen? ⟨g, j, none⟩ = w.frozen? ⟨g, j, none⟩ := fun j => hg1.frozen_far ⟨g, j, none⟩ hg.2 (by simpa using Ne.symm hne)
      have HO : Hid (OwnL (w1.setCell ⟨g, p.length * 4 + 3, none⟩ (.slice (some ⟨gl, 0, none⟩) (xl.length - 1) lc)) base (.slice (some ⟨g, 0, none⟩) n cap) (p ++ (⟨xn, xh, xf, t⟩, .slice (some ⟨gl, 0, none⟩) (xl.length - 1) lc) :: s)) := by
        have e1 : xl.eraseIdx 0 = t := by rw [HX.out]; rfl
        have e2 : xl.length - 1 = t.length := by rw [HX.out]; simp
        rw [e1] at hown1
        rw [e2] at hown1 ⊢
        exact HH.out.setLine hg1 hown1 (by omega) (fun b hb => Or.inl hb)
      have HB : Hid (Touch w w1 (OwnB g (p ++ (⟨xn, xh, xf, xl⟩, .slice (some ⟨gl, 0, none⟩) xl.length lc) :: s))) := (Touch.refl _ _).grown hg1 (fun k hk => Or.inr (by rw [lineBlocks_mid]; simp [Value.ownBlock]; right; left; simpa using hk.symm))
      clear hown1 hg1
      have Q1 := Hid.mk' (HO.out.cellAt 1 (by omega))
      have Q2 := Hid.mk' (HO.out.cellAt 2 (by omega))
      have Q3 := Hid.mk' HO.out.frozenAt
      simp only [lockCells, List.getElem?_cons_zero, List.getElem?_cons_succ] at Q1 Q2
      go_wp2_with fail
      refine (give_any g (p.length * 4) a xh xf _ Q1.out Q2.out Q3.out f1 f2).mono ?_
      rintro e w2 ⟨rfl, rfl⟩
      go_wp2
      go_end0
      refine ⟨rfl, .slice (some ⟨gl, 0, none⟩) (xl.length - 1) lc, ?_, ((HB.out.setCell (Or.inl (Or.inl rfl)) _).setCell (Or.inl (Or.inl rfl)) _).setCell (Or.inl (Or.inl rfl)) _⟩
      have e3 : giveUpX ⟨xn, xh, xf, xl⟩ = ⟨xn, a, xf + 1, t⟩ := by rw [HX.out]; simp [giveUpX, hmax]
      rw [e3]
      exact (HO.out.setHolder a).setFence (xf + 1)

theorem leaveX_holder {x : LockD} {who : Int} (h : x.holder = who) : leaveX x who = giveUpX x := by simp [leaveX, h]

theorem leaveX_line {x : LockD} {who : Int} (h : ¬ x.holder = who) : leaveX x who = { x with line := x.line.filter (· != who) } := by simp [leaveX, h]

theorem filter_none {xs : List Int} {x : Int} (h : ∀ j : Nat, xs[j]? ≠ some x) : xs.filter (· != x) = xs := by
  rw [List.filter_eq_self]
  intro a ha
  obtain ⟨j, hj⟩ := List.mem_iff_getElem?.1 ha
  have : a ≠ x := fun e => h j (e ▸ hj)
  simpa using this

set_option maxHeartbeats 800000 in
theorem leave_any (g n cap : Nat) (p s : List (LockD × Value)) (r : LockD × Value) (who : Int) (w : World) (base : Nat) (h : OwnL w base (.slice (some ⟨g, 0, none⟩) n cap) (p ++ r :: s)) (f1 : 0 ≤ r.1.fence) (f2 : r.1.fence ≤ 1073741824) (hnd : r.1.line.Nodup) :
    Calls Tryz.prog 138 #[.pointer (some ⟨g, p.length * 4, none⟩), .int .i64 who] w fun e w' => e = .returned (.bool (decide (r.1.holder = who) || hasB who r.1.line)) ∧ ∃ lv, OwnL w' base (.slice (some ⟨g, 0, none⟩) n cap) (p ++ (leaveX r.1 who, lv) :: s) ∧ Touch w w' (OwnB g (p ++ r :: s)) := by
  have CG := fun w (h : OwnL w base (.slice (some ⟨g, 0, none⟩) n cap) (p ++ r :: s)) => giveUp_any g n cap p s r w base h f1 f2
  obtain ⟨⟨xn, xh, xf, xl⟩, lv⟩ := r
  simp only at f1 f2 hnd CG ⊢
  have c1 := h.cellAt 1 (by omega)
  have c3 := h.cellAt 3 (by omega)
  have hfz := h.frozenAt
  simp only [lockCells, List.getElem?_cons_zero, List.getElem?_cons_succ] at c1 c3
  have hline := h.line
  simp only at hline
  have hg := h.block
  have HH : Hid (OwnL w base (.slice (some ⟨g, 0, none⟩) n cap) (p ++ (⟨xn, xh, xf, xl⟩, lv) :: s)) := h
  have HI : Hid (IntsR w w.heap.size lv xl) := ownsRow_ints hline.1 hline.2.1 (Nat.le_refl _)
  clear h
  by_cases hw : xh = who
  · rw [leaveX_holder (x := ⟨xn, xh, xf, xl⟩) hw, decide_eq_true hw]
    subst hw
    obtain ⟨lo, lc, rfl⟩ : ∃ lo lc, lv = .slice lo xl.length lc := by
      rcases hline.1.2 with ⟨rfl, e⟩ | ⟨_, _, _, rfl, _⟩
      · exact ⟨none, 0, by rw [e]⟩
      · exact ⟨_, _, rfl⟩
    clear hline
    go_enter Tryz.func138, Tryz.ntmps138
    go_wp2_with fail
    refine (CG _ HH.out).mono ?_
    rintro e w1 ⟨rfl, lv1, ho1, hb1⟩
    have HO := Hid.mk' ho1
    clear ho1
    go_wp2
    go_ret
    exact ⟨rfl, lv1, HO.out, hb1⟩
  · rw [leaveX_line (x := ⟨xn, xh, xf, xl⟩) hw, decide_eq_false hw]
    simp only [Bool.false_or]
    cases hh : hasB who xl with
    | false =>
      have hnone := hasB_none hh
      rw [filter_none hnone]
      have CI := index_none lv xl who w w.heap.size HI.out hnone
      obtain ⟨lo, lc, rfl⟩ : ∃ lo lc, lv = .slice lo xl.length lc := by
        rcases hline.1.2 with ⟨rfl, e⟩ | ⟨_, _, _, rfl, _⟩
        · exact ⟨none, 0, by rw [e]⟩
        · exact ⟨_, _, rfl⟩
      clear hline hnone hh CG
      go_enter Tryz.func138, Tryz.ntmps138
      go_wp2_with fail
      refine CI.mono ?_
      rintro e w1 ⟨rfl, rfl⟩
      go_wp2
      go_ret
      exact ⟨rfl, _, HH.out, Touch.refl _ _⟩
    | true =>
      obtain ⟨i, hi, hm⟩ := hasB_first hh
      have hil : i < xl.length := (List.getElem?_eq_some_iff.1 hi).1
      have CI := index_found lv xl who i w w.heap.size HI.out hi hm
      have HE := Hid.mk' (erase_first hi hm hnd)
      obtain ⟨gl, lc, rfl, hglb, hgl⟩ := hline.1.form (by omega)
      have hne : gl ≠ g := HH.out.lineNe rfl
      have HL : Hid (w.ownsRow base 3 1 (.slice (some ⟨gl, 0, none⟩) xl.length lc) xl.length (intCells xl)) := hline.1
      have hlb := hline.2.1
      clear hline hh CG hi hm hnd
      go_enter Tryz.func138, Tryz.ntmps138
      go_wp2_with fail
      refine CI.mono ?_
      rintro e w0 ⟨rfl, rfl⟩
      clear CI
      go_wp2_with fail
      refine (deleteInts gl lc i xl _ base HL.out hil).mono ?_
      rintro e w1 ⟨rfl, hown1, hg1⟩
      have k1 : ∀ j, w1.cell? ⟨g, j, none⟩ = w0.cell? ⟨g, j, none⟩ := fun j => hg1.cell_far ⟨g, j, none⟩ hg.2 (by simpa using Ne.symm hne)
      have k2 : ∀ j, w1.frozen? ⟨g, j, none⟩ = w0.frozen? ⟨g, j, none⟩ := fun j => hg1.frozen_far ⟨g, j, none⟩ hg.2 (by simpa using Ne.symm hne)
      have hel : (xl.eraseIdx i).length = xl.length - 1 := by rw [List.length_eraseIdx]; simp [hil]
      have HO : Hid (OwnL (w1.setCell ⟨g, p.length * 4 + 3, none⟩ (.slice (some ⟨gl, 0, none⟩) (xl.length - 1) lc)) base (.slice (some ⟨g, 0, none⟩) n cap) (p ++ (⟨xn, xh, xf, xl.eraseIdx i⟩, .slice (some ⟨gl, 0, none⟩) (xl.length - 1) lc) :: s)) := by
        rw [← hel] at hown1 ⊢
        exact HH.out.setLine hg1 hown1 (by omega) (fun b hb => Or.inl hb)
      have HB : Hid (Touch w0 w1 (OwnB g (p ++ (⟨xn, xh, xf, xl⟩, .slice (some ⟨gl, 0, none⟩) xl.length lc) :: s))) := (Touch.refl _ _).grown hg1 (fun k hk => Or.inr (by rw [lineBlocks_mid]; simp [Value.ownBlock]; right; left; simpa using hk.symm))
      clear hown1 hg1 hel
      go_wp2
      go_ret
      exact ⟨rfl, _, by rw [← HE.out]; exact HO.out, HB.out.setCell (Or.inl (Or.inl rfl)) _⟩

end Go.Proofs.YtijilhbdbeajjaaGreatDoor
