/- The document's TakenOf, whole. -/
import Derived.Test.YtkmkocbpclkhhabRefTaken2
namespace Go.Proofs.Ytkmkocbpclkhhab
open Go.RowKit

theorem takeL_found {ls : List LockD} {nm : ByteArray} {who : Int} {wait : Bool} {x x' : LockD} {c m : Int} (hat : atL ls nm < ls.length) (hx : ls[atL ls nm]? = some x) (ht : takeX x who wait = (x', c, m)) : takeL ls nm who wait = (ls.set (atL ls nm) x', c, m) := by
  have e : ls[atL ls nm] = x := (List.getElem?_eq_some_iff.1 hx).2
  unfold takeL
  rw [dif_pos hat, e, ht]

theorem takenOf_ok (v : Value) (ls : List LockD) (nm : ByteArray) (who : Int) (wait : Bool) (w : World) (B : Nat) (hv : LocksR w B v ls) (hB : B ≤ w.heap.size) (hs : nm.size ≤ 140737488351232) (hr : refuseL ls nm who = 0) :
    Calls Try.prog 19 #[v, .string nm, .int .i64 who, .bool wait] w fun e w' => ∃ v', e = .returned (.tuple #[v', replyV (takeL ls nm who wait).2.1 (takeL ls nm who wait).2.2, .int .i64 0]) ∧ LocksR w' w'.heap.size v' (takeL ls nm who wait).1 ∧ Below w.heap.size w w' := by
  obtain ⟨hck, hnm, hw1, hw2⟩ := refuse_zero hr
  by_cases hat : atL ls nm < ls.length
  · obtain ⟨x, hx, hxe⟩ := atL_found hat
    obtain ⟨hx5, hxc⟩ := check_each hck
    obtain ⟨hxf, hx1, hx2⟩ := hxc _ x hx
    obtain ⟨hx3, -⟩ := form_line hxf
    have hxm : ∀ (j : Nat) (y : LockD), j < atL ls nm → ls[j]? = some y → eqN y.name nm = false := fun j y hj hy => atL_min j y hj hy
    obtain ⟨xn, xh, xf, xl⟩ := x
    simp only at hxe hx1 hx2 hx3
    by_cases h0 : xh = 0
    · have hne : ¬ xh = who := by omega
      by_cases hm : xf = 1073741824
      · rw [takeL_found hat hx (x' := ⟨xn, xh, xf, xl⟩) (c := 8) (m := 0) (by simp [takeX, h0, hm]; omega)]
        exact takenOf_full v ls nm who wait w B _ xn xh xf xl hv hB hs hr hx hxe hxm hx1 hx2 hx3 h0 hm
      · rw [takeL_found hat hx (x' := ⟨xn, who, xf + 1, xl⟩) (c := 0) (m := xf + 1) (by simp [takeX, h0, hm]; omega)]
        exact takenOf_free v ls nm who wait w B _ xn xh xf xl hv hB hs hr hx hxe hxm hx1 hx2 hx3 h0 hm
    · by_cases hw : xh = who
      · rw [takeL_found hat hx (x' := ⟨xn, xh, xf, xl⟩) (c := 0) (m := xf) (by simp [takeX, hw])]
        exact takenOf_own v ls nm who wait w B _ xn xh xf xl hv hB hs hr hx hxe hxm hx1 hx2 hx3 h0 hw
      · cases hwt : wait with
        | false =>
          rw [takeL_found hat hx (x' := ⟨xn, xh, xf, xl⟩) (c := 10) (m := xh) (by simp [takeX, h0, hw, meetX])]
          exact takenOf_held v ls nm who false w B _ xn xh xf xl hv hB hs hr hx hxe hxm hx1 hx2 hx3 h0 hw rfl
        | true =>
          cases hh : hasB who xl with
          | true =>
            rw [takeL_found hat hx (x' := ⟨xn, xh, xf, xl⟩) (c := 10) (m := xh) (by simp [takeX, h0, hw, meetX, hh])]
            exact takenOf_stands v ls nm who true w B _ xn xh xf xl hv hB hs hr hx hxe hxm hx1 hx2 hx3 h0 hw rfl hh
          | false =>
            by_cases hl : xl.length = 3
            · rw [takeL_found hat hx (x' := ⟨xn, xh, xf, xl⟩) (c := 8) (m := 0) (by simp [takeX, h0, hw, meetX, hh, hl])]
              exact takenOf_noroom v ls nm who true w B _ xn xh xf xl hv hB hs hr hx hxe hxm hx1 hx2 hx3 h0 hw rfl hh hl
            · rw [takeL_found hat hx (x' := ⟨xn, xh, xf, xl ++ [who]⟩) (c := 10) (m := xh) (by simp [takeX, h0, hw, meetX, hh, hl])]
              exact takenOf_lined v ls nm who true w B _ xn xh xf xl hv hB hs hr hx hxe hxm hx1 hx2 hx3 h0 hw rfl hh (by omega)
  · exact takenOf_none v ls nm who wait w B hv hB hs hr hck hat
end Go.Proofs.Ytkmkocbpclkhhab
