/- A client in memory of a call's own (joined by program) -/
import Derived.Test.YtcjoekjjebcomalCH06
namespace Go.Proofs.Ytcjoekjjebcomal

open Go.RowKit

/-- The value v is the client c; its calls lie in memory of the call's own. -/
def CustO (w : World) (base : Nat) (v : Value) (c : CustD) : Prop :=
  ∃ vo vc, v = .agg #[.int .i64 c.id, .int .i64 c.session, .int .i64 c.next, .slice vo c.waits.length vc] ∧ w.ownsRow base 42 5 (.slice vo c.waits.length vc) c.waits.length (flatG waitCells c.waits) ∧ c.waits.length * 56 ≤ 140737488351232 ∧ ModestW c.waits

theorem CustO.reads {w : World} {base : Nat} {v : Value} {c : CustD} (h : CustO w base v c) : CustR w w.heap.size v c := by
  obtain ⟨vo, vc, rfl, h1, h2, h3⟩ := h
  exact ⟨_, rfl, waits_row_reads h1 h2 h3 (Nat.le_refl _)⟩

theorem CustO.keep {w w' : World} {base base' : Nat} {v : Value} {c : CustD} (h : CustO w base v c) (hb : base' ≤ base) (hk : ∀ j, base ≤ j → j < w.heap.size → w'.heap[j]? = w.heap[j]?) : CustO w' base' v c := by
  obtain ⟨vo, vc, rfl, h1, h2, h3⟩ := h
  exact ⟨vo, vc, rfl, grow_mono (grow_keep h1 fun j hj => hk j (h1.lt j hj).1 (h1.lt j hj).2) hb, h2, h3⟩

theorem CustO.zero (w : World) (base : Nat) : CustO w base (.agg #[.int .i64 0, .int .i64 0, .int .i64 0, .slice none 0 0]) .zero :=
  ⟨none, 0, rfl, World.ownsRow_nil _ _ _ _, by show 0 * 56 ≤ _; omega, fun x hx => absurd hx (by simp [CustD.zero])⟩

/-- A client put into a block of its type that lies ahead of its calls. -/
theorem CustO.put4 {w : World} {base m p : Nat} {v : Value} {c : CustD} (h : CustO w base v c) (hp : p < base) (hm : m ≤ base) (a0 a1 a2 a3 : Value) : CustO ((((w.setCell ⟨p, 0, none⟩ a0).setCell ⟨p, 1, none⟩ a1).setCell ⟨p, 2, none⟩ a2).setCell ⟨p, 3, none⟩ a3) m v c :=
  h.keep hm fun j hj _ => by
    rw [heap_setCell_other _ _ _ _ (by simp; omega), heap_setCell_other _ _ _ _ (by simp; omega), heap_setCell_other _ _ _ _ (by simp; omega), heap_setCell_other _ _ _ _ (by simp; omega)]

theorem modest_sub {ws us : List WaitD} (h : ModestW ws) (hs : ∀ x ∈ us, x ∈ ws) : ModestW us := fun x hx => h x (hs x hx)

end Go.Proofs.Ytcjoekjjebcomal
