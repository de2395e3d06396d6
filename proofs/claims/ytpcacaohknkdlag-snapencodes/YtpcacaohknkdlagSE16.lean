/- lock.Take: a lock, or a place in its line; lock.Free: a lock, or a place in its line, given up (joined by program) -/
import Derived.WalkKit
import Derived.ProofKit
import Derived.Laws.CopyOwn
import Derived.Laws.AppendOwn
import Derived.RegionTactic
import Derived.Lib.SliceRun
import Derived.Shelf.LaysM
import Derived.Shelf.Strconv.Clone
import Derived.Test.YtpcacaohknkdlagRows
import Derived.WalkLawsBesides
import Derived.Deep.DeepCutAuto
import Derived.Deep.RegionWith
import Derived.ArgAppend
import Derived.Deep.RegionLaw
import Derived.WalkSpells
import Derived.Test.YtpcacaohknkdlagSE12
import Derived.Test.YtpcacaohknkdlagSE11
import Derived.Test.YtpcacaohknkdlagSE13
import Derived.Test.YtpcacaohknkdlagSE15
import Derived.Test.YtpcacaohknkdlagSE08
namespace Go.Proofs.Ytpcacaohknkdlag

open Go.RowKit

/-- The place of a name among locks; their number: there is none. -/
def atL (ls : List LockD) (nm : ByteArray) : Nat := ls.findIdx fun x => eqN x.name nm

/-- The place where a name belongs. -/
def placeL (ls : List LockD) (nm : ByteArray) : Nat := ls.findIdx fun x => gtN x.name nm

theorem atL_found {ls : List LockD} {nm : ByteArray} (h : atL ls nm < ls.length) : ∃ x, ls[atL ls nm]? = some x ∧ eqN x.name nm = true := by
  refine ⟨ls[atL ls nm], List.getElem?_eq_getElem h, ?_⟩
  exact List.findIdx_getElem (p := fun x : LockD => eqN x.name nm) (w := h)

theorem atL_min {ls : List LockD} {nm : ByteArray} (j : Nat) (x : LockD) (hj : j < atL ls nm) (hx : ls[j]? = some x) : eqN x.name nm = false := by
  have := List.not_of_lt_findIdx (p := fun x : LockD => eqN x.name nm) (xs := ls) hj
  obtain ⟨hl, he⟩ := List.getElem?_eq_some_iff.1 hx
  simpa [he] using this

theorem atL_le (ls : List LockD) (nm : ByteArray) : atL ls nm ≤ ls.length := List.findIdx_le_length

theorem atL_none {ls : List LockD} {nm : ByteArray} (h : ¬ atL ls nm < ls.length) (j : Nat) (x : LockD) (hx : ls[j]? = some x) : eqN x.name nm = false :=
  atL_min j x (by have := (List.getElem?_eq_some_iff.1 hx).1; have := atL_le ls nm; omega) hx

/-- What Take leaves, and its reply. -/
def takeL (ls : List LockD) (nm : ByteArray) (who : Int) (wait : Bool) : List LockD × Int × Int :=
  if h : atL ls nm < ls.length then
    (ls.set (atL ls nm) (takeX ls[atL ls nm] who wait).1, (takeX ls[atL ls nm] who wait).2.1, (takeX ls[atL ls nm] who wait).2.2)
  else if ls.length = 5 then (ls, 8, 0) else (ls.take (placeL ls nm) ++ ⟨nm, who, 1, []⟩ :: ls.drop (placeL ls nm), 0, 1)

theorem form_line {x : LockD} (h : formB x = true) : x.line.length ≤ 3 ∧ 0 ≤ x.holder ∧ x.holder ≤ 9 ∧ lineB x.line x.holder = true ∧ nameB x.name = true := by
  unfold formB at h
  rw [Bool.and_eq_true, Bool.and_eq_true] at h
  obtain ⟨⟨h1, h2⟩, h3⟩ := h
  have h2 := of_decide_eq_true h2
  exact ⟨(lineB_yes h3).1, h2.1, h2.2, h3, h1⟩

/-- The cells of a result that lies in a block of its own. -/
def ReplyAt (w : World) (b : Nat) : Prop := w.heap[b]? = some (.cells #[.int .i64 0, .int .i64 0, .string ⟨#[]⟩] 62 (0, 0))

theorem ReplyAt.cells {w : World} {b : Nat} (h : ReplyAt w b) : w.cell? ⟨b, 0, none⟩ = some (.int .i64 0) ∧ w.cell? ⟨b, 1, none⟩ = some (.int .i64 0) ∧ w.cell? ⟨b, 2, none⟩ = some (.string ⟨#[]⟩) ∧ ∀ j, w.frozen? ⟨b, j, none⟩ = false :=
  ⟨cell_of_row w b 0 _ _ _ h, cell_of_row w b 1 _ _ _ h, cell_of_row w b 2 _ _ _ h, fun j => frozen_of_row w b j _ _ h⟩

theorem ReplyAt.below {w w' : World} {b : Nat} (h : ReplyAt w b) {B : Nat} (hb : Below B w w') (hB : b < B) : ReplyAt w' b := (hb.block b hB).trans h

theorem ReplyAt.lt {w : World} {b : Nat} (h : ReplyAt w b) : b < w.heap.size := lt_of_block h

end Go.Proofs.Ytpcacaohknkdlag

namespace Go.Proofs.Ytpcacaohknkdlag

open Go.RowKit

/-- Has a client the lock, or a place in its line? -/
def hasX (x : LockD) (who : Int) : Bool := decide (x.holder = who) || hasB who x.line

/-- What Free leaves, and its reply. -/
def freeL (ls : List LockD) (nm : ByteArray) (who : Int) : List LockD × Int × Int :=
  if h : atL ls nm < ls.length then
    (ls.set (atL ls nm) (leaveX ls[atL ls nm] who), (if hasX ls[atL ls nm] who = true then 0 else 10), (leaveX ls[atL ls nm] who).holder)
  else (ls, 6, 0)

theorem freeL_found {ls : List LockD} {nm : ByteArray} {who : Int} {x : LockD} (hat : atL ls nm < ls.length) (hx : ls[atL ls nm]? = some x) : freeL ls nm who = (ls.set (atL ls nm) (leaveX x who), (if hasX x who = true then 0 else 10), (leaveX x who).holder) := by
  have e : ls[atL ls nm] = x := (List.getElem?_eq_some_iff.1 hx).2
  unfold freeL
  rw [dif_pos hat, e]

theorem nodup_line {xs : List Int} {h : Int} (hl : lineB xs h = true) : xs.Nodup := by
  obtain ⟨_, _, h3⟩ := lineB_yes hl
  refine List.pairwise_iff_getElem.2 fun i j hi hj hij e => ?_
  have hx : xs[j]? = some xs[j] := List.getElem?_eq_getElem hj
  have := (h3 j _ hx).2.2.2
  refine hasB_none this i ?_
  rw [List.getElem?_take, if_pos hij, List.getElem?_eq_getElem hi, e]

end Go.Proofs.Ytpcacaohknkdlag
