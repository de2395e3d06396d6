/- A state as it lies in memory: what a value reads as; A state's value, by its parts (joined by program) -/
import Derived.Test.YtbmfahgekcnkaaiRC03
import Derived.Test.YtbmfahgekcnkaaiRC04
import Derived.Test.YtbmfahgekcnkaaiRC05
namespace Go.Proofs.Ytbmfahgekcnkaai

open Go.RowKit

/-- A state, as plain data. -/
structure StateD where
  index : Int
  locks : List LockD
  pairs : List PairD
  sess : List SessD

/-- The value v reads in w as the state s; all its memory lies below block B. -/
def StateR (w : World) (B : Nat) (v : Value) (s : StateD) : Prop :=
  ∃ lv pv sv, v = .agg #[.int .i64 s.index, lv, pv, sv] ∧ LocksR w B lv s.locks ∧ PairsR w B pv s.pairs ∧ SessR w B sv s.sess

theorem StateR.below {w w' : World} {B : Nat} {v : Value} {s : StateD} (h : StateR w B v s) {B' : Nat} (hb : Below B' w w') (hB : B ≤ B') : StateR w' B v s := by
  obtain ⟨lv, pv, sv, rfl, h1, h2, h3⟩ := h
  exact ⟨lv, pv, sv, rfl, h1.below hb hB, h2.below hb hB, h3.below hb hB⟩

theorem StateR.mono {w : World} {B B' : Nat} {v : Value} {s : StateD} (h : StateR w B v s) (hB : B ≤ B') : StateR w B' v s := by
  obtain ⟨lv, pv, sv, rfl, h1, h2, h3⟩ := h
  exact ⟨lv, pv, sv, rfl, h1.mono hB, h2.mono hB, h3.mono hB⟩

theorem LocksR.slice {w : World} {B : Nat} {v : Value} {ls : List LockD} (h : LocksR w B v ls) : ∃ ao cap, v = .slice ao ls.length cap := by
  obtain ⟨ao, cap, rfl, -⟩ := h
  exact ⟨ao, cap, rfl⟩

theorem PairsR.slice {w : World} {B : Nat} {v : Value} {ls : List PairD} (h : PairsR w B v ls) : ∃ ao cap, v = .slice ao ls.length cap := by
  obtain ⟨ao, cap, rfl, -⟩ := h
  exact ⟨ao, cap, rfl⟩

theorem SessR.slice {w : World} {B : Nat} {v : Value} {ls : List SessD} (h : SessR w B v ls) : ∃ ao cap, v = .slice ao ls.length cap := by
  obtain ⟨ao, cap, rfl, -⟩ := h
  exact ⟨ao, cap, rfl⟩

end Go.Proofs.Ytbmfahgekcnkaai

namespace Go.Proofs.Ytbmfahgekcnkaai

open Go.RowKit

theorem StateR.shape {w : World} {B : Nat} {v : Value} {s : StateD} (h : StateR w B v s) : ∃ lo ln lc po pn pc so sn sc, v = .agg #[.int .i64 s.index, .slice lo ln lc, .slice po pn pc, .slice so sn sc] := by
  obtain ⟨lv, pv, sv, rfl, h1, h2, h3⟩ := h
  obtain ⟨lo, lc, rfl, -⟩ := h1
  obtain ⟨po, pc, rfl, -⟩ := h2
  obtain ⟨so, sc, rfl, -⟩ := h3
  exact ⟨_, _, _, _, _, _, _, _, _, rfl⟩

end Go.Proofs.Ytbmfahgekcnkaai
