/- The block of a row is of its elements' type. (Its sister KTagFree.lean, laid in its place, asks nothing: for the laws that open such rows as arguments.); Clients in memory: what a value reads as (joined by program) -/
import Derived.Test.YtcjoekjjebcomalDoorRows
import Derived.Test.YtcjoekjjebcomalDoorCA01
import Derived.Test.YtcjoekjjebcomalDoorCA03
namespace Go.Proofs.YtcjoekjjebcomalDoor

open Go.RowKit

def TagB (t : TypeId) (w : World) (b : Nat) : Prop := ∃ cs fr, w.heap[b]? = some (.cells cs t fr)

theorem TagB.block {t : TypeId} {w w' : World} {b : Nat} (h : TagB t w b) (e : w'.heap[b]? = w.heap[b]?) : TagB t w' b := by
  obtain ⟨cs, fr, h⟩ := h
  exact ⟨cs, fr, e.trans h⟩

theorem TagB.of {t : TypeId} {w : World} {b : Nat} {cs : Array Value} {fr : Nat × Nat} (h : w.heap[b]? = some (.cells cs t fr)) : TagB t w b := ⟨cs, fr, h⟩

theorem TagB.row {t : TypeId} {w : World} {base m g n c n' : Nat} {xs : List Value} (h : w.ownsRow base t m (.slice (some ⟨g, 0, none⟩) n c) n' xs) : TagB t w g := by
  rcases h.2 with ⟨e, _⟩ | ⟨g', cap, cur, e, _, hg, _⟩
  · cases e
  · simp only [Value.slice.injEq, Option.some.injEq, Addr.mk.injEq, and_true] at e
    obtain ⟨rfl, -⟩ := e
    exact TagB.of hg

end Go.Proofs.YtcjoekjjebcomalDoor

namespace Go.Proofs.YtcjoekjjebcomalDoor

open Go.RowKit

/-- The cells of a call that waits. -/
def waitCells (x : WaitD) : List Value := [.int .i64 x.seq, .int .i64 x.kind, .string x.a, .string x.b, .int .i64 x.n]

theorem waitCells_len (x : WaitD) : (waitCells x).length = 5 := rfl

theorem waitCells_one (x : WaitD) : ∀ v ∈ waitCells x, v.oneCell' = true := by
  intro v hv
  simp only [waitCells, List.mem_cons, List.not_mem_nil, or_false] at hv
  rcases hv with rfl | rfl | rfl | rfl | rfl <;> rfl

/-- The call x lies at ⟨b, o, none⟩. -/
def WaitAt (w : World) (b o : Nat) (x : WaitD) : Prop :=
  w.cell? ⟨b, o, none⟩ = some (.int .i64 x.seq) ∧ w.cell? ⟨b, o + 1, none⟩ = some (.int .i64 x.kind) ∧ w.cell? ⟨b, o + 2, none⟩ = some (.string x.a) ∧ w.cell? ⟨b, o + 3, none⟩ = some (.string x.b) ∧ w.cell? ⟨b, o + 4, none⟩ = some (.int .i64 x.n) ∧
    x.a.size ≤ 140737488351232 ∧ x.b.size ≤ 140737488351232 ∧ TagB 55 w b

/-- The value v reads in w as the calls ws; all their memory lies below block B. -/
def WaitsR (w : World) (B : Nat) (v : Value) (ws : List WaitD) : Prop :=
  ∃ ao cap, v = .slice ao ws.length cap ∧ ws.length ≤ cap ∧ ws.length * 56 ≤ 140737488351232 ∧ (ao = none → cap = 0) ∧
    (0 < ws.length → ∃ b off, ao = some ⟨b, off, none⟩ ∧ b < B ∧ ∀ (i : Nat) (x : WaitD), ws[i]? = some x → WaitAt w b (off + i * 5) x)

theorem WaitAt.below {w w' : World} {B b o : Nat} {x : WaitD} (h : WaitAt w b o x) (hlt : b < B) (hb : Below B w w') : WaitAt w' b o x := by
  obtain ⟨c0, c1, c2, c3, c4, s1, s2, hs⟩ := h
  have key : ∀ o', w'.cell? ⟨b, o', none⟩ = w.cell? ⟨b, o', none⟩ := fun o' => hb.cell (p := ⟨b, o', none⟩) hlt
  exact ⟨(key _).trans c0, (key _).trans c1, (key _).trans c2, (key _).trans c3, (key _).trans c4, s1, s2, hs.block (hb.block b hlt)⟩

theorem WaitsR.below {w w' : World} {B : Nat} {v : Value} {xs : List WaitD} (h : WaitsR w B v xs) {B' : Nat} (hb : Below B' w w') (hB : B ≤ B') : WaitsR w' B v xs := by
  obtain ⟨ao, cap, rfl, h1, h2, h3, h4⟩ := h
  refine ⟨ao, cap, rfl, h1, h2, h3, fun hp => ?_⟩
  obtain ⟨b, off, rfl, hlt, hc⟩ := h4 hp
  exact ⟨b, off, rfl, hlt, fun i x hx => (hc i x hx).below (by omega) hb⟩

theorem WaitsR.mono {w : World} {B B' : Nat} {v : Value} {xs : List WaitD} (h : WaitsR w B v xs) (hB : B ≤ B') : WaitsR w B' v xs := by
  obtain ⟨ao, cap, rfl, h1, h2, h3, h4⟩ := h
  refine ⟨ao, cap, rfl, h1, h2, h3, fun hp => ?_⟩
  obtain ⟨b, off, rfl, hlt, hc⟩ := h4 hp
  exact ⟨b, off, rfl, by omega, hc⟩

theorem WaitsR.len {w : World} {B : Nat} {v : Value} {xs : List WaitD} (h : WaitsR w B v xs) : xs.length * 56 ≤ 140737488351232 := by
  obtain ⟨_, _, _, _, h2, _⟩ := h
  exact h2

theorem WaitsR.slice {w : World} {B : Nat} {v : Value} {xs : List WaitD} (h : WaitsR w B v xs) : ∃ ao cap, v = .slice ao xs.length cap := by
  obtain ⟨ao, cap, rfl, -⟩ := h
  exact ⟨ao, cap, rfl⟩

theorem WaitsR.nil (w : World) (B : Nat) : WaitsR w B (.slice none 0 0) [] := ⟨none, 0, rfl, Nat.le_refl _, by simp, fun _ => rfl, fun h => absurd h (by simp)⟩

/-- Texts that are not too long for any machine. -/
def ModestW (ws : List WaitD) : Prop := ∀ x ∈ ws, x.a.size ≤ 140737488351232 ∧ x.b.size ≤ 140737488351232

theorem WaitsR.modest {w : World} {B : Nat} {v : Value} {ws : List WaitD} (h : WaitsR w B v ws) : ModestW ws := by
  obtain ⟨ao, cap, rfl, h1, h2, h3, h4⟩ := h
  intro x hx
  obtain ⟨i, hi⟩ := List.mem_iff_getElem?.1 hx
  obtain ⟨b, off, rfl, hlt, hc⟩ := h4 (by have := (List.getElem?_eq_some_iff.1 hi).1; omega)
  exact ⟨(hc i x hi).2.2.2.2.2.1, (hc i x hi).2.2.2.2.2.2.1⟩

/-- The value v reads in w as the client c. -/
def CustR (w : World) (B : Nat) (v : Value) (c : CustD) : Prop := ∃ wv, v = .agg #[.int .i64 c.id, .int .i64 c.session, .int .i64 c.next, wv] ∧ WaitsR w B wv c.waits

theorem CustR.below {w w' : World} {B : Nat} {v : Value} {c : CustD} (h : CustR w B v c) {B' : Nat} (hb : Below B' w w') (hB : B ≤ B') : CustR w' B v c := by
  obtain ⟨wv, rfl, h1⟩ := h
  exact ⟨wv, rfl, h1.below hb hB⟩

theorem CustR.mono {w : World} {B B' : Nat} {v : Value} {c : CustD} (h : CustR w B v c) (hB : B ≤ B') : CustR w B' v c := by
  obtain ⟨wv, rfl, h1⟩ := h
  exact ⟨wv, rfl, h1.mono hB⟩

theorem CustR.shape {w : World} {B : Nat} {v : Value} {c : CustD} (h : CustR w B v c) : ∃ ao cap, v = .agg #[.int .i64 c.id, .int .i64 c.session, .int .i64 c.next, .slice ao c.waits.length cap] ∧ WaitsR w B (.slice ao c.waits.length cap) c.waits := by
  obtain ⟨wv, rfl, h1⟩ := h
  obtain ⟨ao, cap, rfl⟩ := h1.slice
  exact ⟨ao, cap, rfl, h1⟩

/-- A client's value, its cells as letters. -/
theorem CustR.raw {w : World} {B : Nat} {v : Value} {c : CustD} (h : CustR w B v c) : ∃ (id se nx : Int) (ao : Option Addr) (n cap : Nat), v = .agg #[.int .i64 id, .int .i64 se, .int .i64 nx, .slice ao n cap] := by
  obtain ⟨ao, cap, rfl, -⟩ := h.shape
  exact ⟨_, _, _, _, _, _, rfl⟩

theorem CustR.zero (w : World) (B : Nat) : CustR w B (.agg #[.int .i64 0, .int .i64 0, .int .i64 0, .slice none 0 0]) CustD.zero := ⟨_, rfl, WaitsR.nil _ _⟩

theorem Tryd.infoWait : (Tryd.prog.info? 55).map (fun i => (i.zero, i.size, i.bytes)) = some (some (.agg #[.int .i64 0, .int .i64 0, .string ⟨#[]⟩, .string ⟨#[]⟩, .int .i64 0]), 5, 56) := by kernel_rfl

theorem zset4 {B : Nat} {w0 w : World} (h : Below B w0 w) {b : Nat} (hb : B ≤ b) (a0 a1 a2 a3 : Value) : Below B w0 ((((w.setCell ⟨b, 0, none⟩ a0).setCell ⟨b, 1, none⟩ a1).setCell ⟨b, 2, none⟩ a2).setCell ⟨b, 3, none⟩ a3) :=
  (((h.setCell (by simpa using hb) a0).setCell (by simpa using hb) a1).setCell (by simpa using hb) a2).setCell (by simpa using hb) a3

/-- A row of calls of a call's own. -/
theorem waits_row_reads {w : World} {base B : Nat} {v : Value} {ws : List WaitD} (h : w.ownsRow base 55 5 v ws.length (flatG waitCells ws)) (hl : ws.length * 56 ≤ 140737488351232) (hm : ModestW ws) (hB : w.heap.size ≤ B) : WaitsR w B v ws := by
  rcases h.2 with ⟨rfl, hn⟩ | ⟨g, cap, cur, rfl, _, hg, hle, hcm, hcs, htake⟩
  · have : ws = [] := List.eq_nil_of_length_eq_zero hn
    subst this
    exact WaitsR.nil _ _
  · refine ⟨some ⟨g, 0, none⟩, cap, rfl, hle, hl, (by intro h; cases h), fun _ => ⟨g, 0, rfl, ?_, fun i x hx => ?_⟩⟩
    · have := (h.lt g rfl).2; omega
    · have hi : i < ws.length := (List.getElem?_eq_some_iff.1 hx).1
      have key : ∀ j, j < 5 → w.cell? ⟨g, 0 + i * 5 + j, none⟩ = (waitCells x)[j]? := fun j hj => by
        rw [Nat.zero_add, h.cellAt (i * 5 + j) (by omega), flatG_at waitCells_len hx j hj]
      have hx2 := hm x (List.mem_of_getElem? hx)
      exact ⟨by simpa [waitCells] using key 0 (by omega), by simpa [waitCells] using key 1 (by omega), by simpa [waitCells] using key 2 (by omega), by simpa [waitCells] using key 3 (by omega), by simpa [waitCells] using key 4 (by omega), hx2.1, hx2.2, TagB.of hg⟩

end Go.Proofs.YtcjoekjjebcomalDoor
