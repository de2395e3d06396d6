/- A state as it lies in memory: what a value reads as. -/
import Derived.Test.YtkjahjknmfjmkagLockMem
import Derived.Test.YtkjahjknmfjmkagPairMem
import Derived.Test.YtkjahjknmfjmkagSessMem
namespace Go.Proofs.Ytkjahjknmfjmkag
open Go.RowKit

/-- A state, as plain data. -/
structure StateD where
  index : Int
  locks : List LockD
  pairs : List PairD
  sess : List SessD

/-- The value v reads in w as the state s; all its memory lies below block B. -/
def StateR (w : World) (B : Nat) (v : Value) (s : StateD) : Prop :=
  ∃ lv pv sv, v = .agg #[.int .i64 s.index, lv, pv, sv] ∧ LocksR w B lv s.locks ∧ PairsR w B pv s.pairs ∧ SessR w B sv s.sess

theorem StateR.below {w w' : World} {B : Nat} {v : Value} {s : StateD} (h : StateR w B v s) {B' : Nat} (hb : Below B' w w') (hB : B ≤ B') : StateR w' B v s := by
  obtain ⟨lv, pv, sv, rfl, h1, h2, h3⟩ := h
  exact ⟨lv, pv, sv, rfl, h1.below hb hB, h2.below hb hB, h3.below hb hB⟩

theorem StateR.mono {w : World} {B B' : Nat} {v : Value} {s : StateD} (h : StateR w B v s) (hB : B ≤ B') : StateR w B' v s := by
  obtain ⟨lv, pv, sv, rfl, h1, h2, h3⟩ := h
  exact ⟨lv, pv, sv, rfl, h1.mono hB, h2.mono hB, h3.mono hB⟩

/-- The cells of a state that lies in a block. -/
theorem box4 {w1 : World} {x0 x1 x2 x3 : Value} {t : TypeId} {b : Nat} (h : w1.heap[b]? = some (.cells #[x0, x1, x2, x3] t (0, 0))) :
    w1.cell? ⟨b, 0, none⟩ = some x0 ∧ w1.cell? ⟨b, 1, none⟩ = some x1 ∧ w1.cell? ⟨b, 2, none⟩ = some x2 ∧ w1.cell? ⟨b, 3, none⟩ = some x3 :=
  ⟨cell_of_row w1 b 0 _ _ _ h, cell_of_row w1 b 1 _ _ _ h, cell_of_row w1 b 2 _ _ _ h, cell_of_row w1 b 3 _ _ _ h⟩

theorem LocksR.slice {w : World} {B : Nat} {v : Value} {ls : List LockD} (h : LocksR w B v ls) : ∃ ao cap, v = .slice ao ls.length cap := by
  obtain ⟨ao, cap, rfl, -⟩ := h
  exact ⟨ao, cap, rfl⟩
theorem PairsR.slice {w : World} {B : Nat} {v : Value} {ls : List PairD} (h : PairsR w B v ls) : ∃ ao cap, v = .slice ao ls.length cap := by
  obtain ⟨ao, cap, rfl, -⟩ := h
  exact ⟨ao, cap, rfl⟩
theorem SessR.slice {w : World} {B : Nat} {v : Value} {ls : List SessD} (h : SessR w B v ls) : ∃ ao cap, v = .slice ao ls.length cap := by
  obtain ⟨ao, cap, rfl, -⟩ := h
  exact ⟨ao, cap, rfl⟩

end Go.Proofs.Ytkjahjknmfjmkag
