/- Clients in memory: what a value reads as (joined by program) -/
import Derived.Test.YtcjoekjjebcomakRows
import Derived.Test.YtcjoekjjebcomakCR02
import Derived.Test.YtcjoekjjebcomakCR03
import Derived.Test.YtcjoekjjebcomakCR04
import Derived.Test.YtcjoekjjebcomakCR05
namespace Go.Proofs.Ytcjoekjjebcomak

open Go.RowKit

/-- The cells of a call that waits. -/
def waitCells (x : WaitD) : List Value := [.int .i64 x.seq, .int .i64 x.kind, .string x.a, .string x.b, .int .i64 x.n]

/-- The call x lies at ⟨b, o, none⟩. -/
def WaitAt (w : World) (b o : Nat) (x : WaitD) : Prop :=
  w.cell? ⟨b, o, none⟩ = some (.int .i64 x.seq) ∧ w.cell? ⟨b, o + 1, none⟩ = some (.int .i64 x.kind) ∧ w.cell? ⟨b, o + 2, none⟩ = some (.string x.a) ∧ w.cell? ⟨b, o + 3, none⟩ = some (.string x.b) ∧ w.cell? ⟨b, o + 4, none⟩ = some (.int .i64 x.n) ∧
    x.a.size ≤ 140737488351232 ∧ x.b.size ≤ 140737488351232 ∧ TagB 43 w b

/-- The value v reads in w as the calls ws; all their memory lies below block B. -/
def WaitsR (w : World) (B : Nat) (v : Value) (ws : List WaitD) : Prop :=
  ∃ ao cap, v = .slice ao ws.length cap ∧ ws.length ≤ cap ∧ ws.length * 56 ≤ 140737488351232 ∧ (ao = none → cap = 0) ∧
    (0 < ws.length → ∃ b off, ao = some ⟨b, off, none⟩ ∧ b < B ∧ ∀ (i : Nat) (x : WaitD), ws[i]? = some x → WaitAt w b (off + i * 5) x)

theorem WaitAt.below {w w' : World} {B b o : Nat} {x : WaitD} (h : WaitAt w b o x) (hlt : b < B) (hb : Below B w w') : WaitAt w' b o x := by
  obtain ⟨c0, c1, c2, c3, c4, s1, s2, hs⟩ := h
  have key : ∀ o', w'.cell? ⟨b, o', none⟩ = w.cell? ⟨b, o', none⟩ := fun o' => hb.cell (p := ⟨b, o', none⟩) hlt
  exact ⟨(key _).trans c0, (key _).trans c1, (key _).trans c2, (key _).trans c3, (key _).trans c4, s1, s2, hs.block (hb.block b hlt)⟩

theorem WaitsR.below {w w' : World} {B : Nat} {v : Value} {xs : List WaitD} (h : WaitsR w B v xs) {B' : Nat} (hb : Below B' w w') (hB : B ≤ B') : WaitsR w' B v xs := by
  obtain ⟨ao, cap, rfl, h1, h2, h3, h4⟩ := h
  refine ⟨ao, cap, rfl, h1, h2, h3, fun hp => ?_⟩
  obtain ⟨b, off, rfl, hlt, hc⟩ := h4 hp
  exact ⟨b, off, rfl, hlt, fun i x hx => (hc i x hx).below (by omega) hb⟩

theorem WaitsR.mono {w : World} {B B' : Nat} {v : Value} {xs : List WaitD} (h : WaitsR w B v xs) (hB : B ≤ B') : WaitsR w B' v xs := by
  obtain ⟨ao, cap, rfl, h1, h2, h3, h4⟩ := h
  refine ⟨ao, cap, rfl, h1, h2, h3, fun hp => ?_⟩
  obtain ⟨b, off, rfl, hlt, hc⟩ := h4 hp
  exact ⟨b, off, rfl, by omega, hc⟩

theorem WaitsR.len {w : World} {B : Nat} {v : Value} {xs : List WaitD} (h : WaitsR w B v xs) : xs.length * 56 ≤ 140737488351232 := by
  obtain ⟨_, _, _, _, h2, _⟩ := h
  exact h2

theorem WaitsR.slice {w : World} {B : Nat} {v : Value} {xs : List WaitD} (h : WaitsR w B v xs) : ∃ ao cap, v = .slice ao xs.length cap := by
  obtain ⟨ao, cap, rfl, -⟩ := h
  exact ⟨ao, cap, rfl⟩

theorem WaitsR.nil (w : World) (B : Nat) : WaitsR w B (.slice none 0 0) [] := ⟨none, 0, rfl, Nat.le_refl _, by simp, fun _ => rfl, fun h => absurd h (by simp)⟩

/-- Texts that are not too long for any machine. -/
def ModestW (ws : List WaitD) : Prop := ∀ x ∈ ws, x.a.size ≤ 140737488351232 ∧ x.b.size ≤ 140737488351232

theorem WaitsR.modest {w : World} {B : Nat} {v : Value} {ws : List WaitD} (h : WaitsR w B v ws) : ModestW ws := by
  obtain ⟨ao, cap, rfl, h1, h2, h3, h4⟩ := h
  intro x hx
  obtain ⟨i, hi⟩ := List.mem_iff_getElem?.1 hx
  obtain ⟨b, off, rfl, hlt, hc⟩ := h4 (by have := (List.getElem?_eq_some_iff.1 hi).1; omega)
  exact ⟨(hc i x hi).2.2.2.2.2.1, (hc i x hi).2.2.2.2.2.2.1⟩

/-- The value v reads in w as the client c. -/
def CustR (w : World) (B : Nat) (v : Value) (c : CustD) : Prop := ∃ wv, v = .agg #[.int .i64 c.id, .int .i64 c.session, .int .i64 c.next, wv] ∧ WaitsR w B wv c.waits

theorem CustR.below {w w' : World} {B : Nat} {v : Value} {c : CustD} (h : CustR w B v c) {B' : Nat} (hb : Below B' w w') (hB : B ≤ B') : CustR w' B v c := by
  obtain ⟨wv, rfl, h1⟩ := h
  exact ⟨wv, rfl, h1.below hb hB⟩

theorem CustR.mono {w : World} {B B' : Nat} {v : Value} {c : CustD} (h : CustR w B v c) (hB : B ≤ B') : CustR w B' v c := by
  obtain ⟨wv, rfl, h1⟩ := h
  exact ⟨wv, rfl, h1.mono hB⟩

theorem CustR.shape {w : World} {B : Nat} {v : Value} {c : CustD} (h : CustR w B v c) : ∃ ao cap, v = .agg #[.int .i64 c.id, .int .i64 c.session, .int .i64 c.next, .slice ao c.waits.length cap] ∧ WaitsR w B (.slice ao c.waits.length cap) c.waits := by
  obtain ⟨wv, rfl, h1⟩ := h
  obtain ⟨ao, cap, rfl⟩ := h1.slice
  exact ⟨ao, cap, rfl, h1⟩

/-- A client's value, its cells as letters. -/
theorem CustR.raw {w : World} {B : Nat} {v : Value} {c : CustD} (h : CustR w B v c) : ∃ (id se nx : Int) (ao : Option Addr) (n cap : Nat), v = .agg #[.int .i64 id, .int .i64 se, .int .i64 nx, .slice ao n cap] := by
  obtain ⟨ao, cap, rfl, -⟩ := h.shape
  exact ⟨_, _, _, _, _, _, rfl⟩

theorem CustR.zero (w : World) (B : Nat) : CustR w B (.agg #[.int .i64 0, .int .i64 0, .int .i64 0, .slice none 0 0]) CustD.zero := ⟨_, rfl, WaitsR.nil _ _⟩

end Go.Proofs.Ytcjoekjjebcomak
