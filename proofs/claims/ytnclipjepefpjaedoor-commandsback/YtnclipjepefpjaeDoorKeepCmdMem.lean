/- Commands in memory, and a map of numbers by numbers; what holds of commands that come of raw things. -/
import Derived.Test.YtnclipjepefpjaeDoorCmdDecMath
import Derived.Test.YtnclipjepefpjaeDoorRows
import Derived.WalkKit
import Derived.ProofKit
import Derived.WalkLawsBesides
import Derived.Maps.Own
import Derived.Maps.OwnOps
import Derived.Maps.OwnSet
import Derived.Deep.AppendLies
import Derived.Laws.Rows
import Derived.OwnWalk
namespace Go.Proofs.YtnclipjepefpjaeDoor
open Go.RowKit Go.Maps

def cmdCells (x : CmdD) : List Value := [.int .i64 x.kind, .int .i64 x.client, .int .i64 x.session, .int .i64 x.seq, .int .i64 x.acked, .int .i64 x.ok, .string x.a, .string x.b, .int .i64 x.n]

def flatC (xs : List CmdD) : List Value := xs.flatMap cmdCells

theorem flatC_length (xs : List CmdD) : (flatC xs).length = xs.length * 9 := by
  induction xs with
  | nil => rfl
  | cons r t ih => simp only [flatC, List.flatMap_cons, List.length_append] at ih ⊢; simp only [cmdCells, List.length_cons, List.length_nil, ih]; omega

theorem flatC_snoc (a : List CmdD) (x : CmdD) : flatC (a ++ [x]) = flatC a ++ cmdCells x := by simp [flatC]

theorem flatC_at {ps : List CmdD} {i : Nat} {r : CmdD} (h : ps[i]? = some r) (j : Nat) (hj : j < 9) : (flatC ps)[i * 9 + j]? = (cmdCells r)[j]? := by
  induction ps generalizing i with
  | nil => simp at h
  | cons q t ih =>
    have e : flatC (q :: t) = cmdCells q ++ flatC t := by simp [flatC]
    have hl : (cmdCells q).length = 9 := rfl
    rw [e]
    cases i with
    | zero =>
      have : q = r := by simpa using h
      subst this
      rw [Nat.zero_mul, Nat.zero_add, List.getElem?_append_left (by omega)]
    | succ i =>
      rw [List.getElem?_append_right (by omega), hl, show (i + 1) * 9 + j - 9 = i * 9 + j by omega]
      exact ih (by simpa using h)

theorem cmdCells_one (x : CmdD) : ∀ v ∈ cmdCells x, v.oneCell' = true := by
  intro v hv
  simp only [cmdCells, List.mem_cons, List.not_mem_nil, or_false] at hv
  rcases hv with rfl | rfl | rfl | rfl | rfl | rfl | rfl | rfl | rfl <;> rfl

theorem Tryd.infoCmd : (Tryd.prog.info? 28).map (fun i => (i.zero, i.size, i.bytes)) = some (some (.agg #[.int .i64 0, .int .i64 0, .int .i64 0, .int .i64 0, .int .i64 0, .int .i64 0, .string ⟨#[]⟩, .string ⟨#[]⟩, .int .i64 0]), 9, 88) := by kernel_rfl

theorem crow_keep {w w' : World} {base : Nat} {e : TypeId} {size : Nat} {v : Value} {n : Nat} {xs : List Value} (h : w.ownsRow base e size v n xs) (hk : ∀ b, v.ownBlock = some b → w'.heap[b]? = w.heap[b]?) : w'.ownsRow base e size v n xs := by
  obtain ⟨h1, h2⟩ := h
  refine ⟨h1, ?_⟩
  rcases h2 with h2 | ⟨g, cap, cur, rfl, hg, hh, r⟩
  · exact Or.inl h2
  · exact Or.inr ⟨g, cap, cur, rfl, hg, by rw [hk g rfl]; exact hh, r⟩

theorem crow_below {w w' : World} {base : Nat} {e : TypeId} {size : Nat} {v : Value} {n : Nat} {xs : List Value} (h : w.ownsRow base e size v n xs) (hb : Below w.heap.size w w') : w'.ownsRow base e size v n xs :=
  crow_keep h fun b hbk => hb.block b (h.lt b hbk).2

theorem crow_shape {w : World} {base : Nat} {e : TypeId} {size : Nat} {v : Value} {n : Nat} {xs : List Value} (h : w.ownsRow base e size v n xs) : ∃ ao cap, v = .slice ao n cap := by
  rcases h.2 with ⟨rfl, rfl⟩ | ⟨g, cap, cur, rfl, _⟩
  · exact ⟨none, 0, rfl⟩
  · exact ⟨_, _, rfl⟩

/-- The map at block b tells f c at c (0: nothing), for every c that fits. -/
def MapI (b n : Nat) (f : Int → Int) (w : World) : Prop :=
  ∃ D : DataW Unit, w.ownsMap Tryd.prog 3 (plainElem Tryd.prog 3) b n D ∧ ∀ c : Int, (Lit.int .i64 c).wf = true → D.atKey (.int .i64 c) (.lit (.int .i64 0)) = .lit (.int .i64 (f c))

theorem iKeyed : Keyed Tryd.prog 3 := int_keyed Tryd.underlying3
theorem iZero (u : World) : (zeroValue 3).run Tryd.prog u = .ok (.int .i64 0) u := by kernel_rfl

theorem MapI.made (w : World) : MapI w.heap.size 0 (fun _ => 0) (w.alloc (.map #[] 0)) :=
  ⟨.map [], World.ownsMap_made _ _ _ _, fun _ _ => rfl⟩

theorem MapI.lt {b n : Nat} {f : Int → Int} {w : World} (h : MapI b n f w) : b < w.heap.size := by
  obtain ⟨D, h, -⟩ := h
  exact h.lt

theorem MapI.kept {b n : Nat} {f : Int → Int} {w w' : World} {row : Option Nat} (h : MapI b n f w) (hg : w.grownBy w' row) (hne : some b ≠ row) : MapI b n f w' := by
  obtain ⟨D, h, h2⟩ := h
  exact ⟨D, h.kept hg hne, h2⟩

theorem MapI.mono {b n m : Nat} {f : Int → Int} {w : World} (h : MapI b n f w) (hm : n ≤ m) : MapI b m f w := by
  obtain ⟨D, h, h2⟩ := h
  exact ⟨D, h.mono hm, h2⟩

theorem grownD {w w' : World} (h : Below w.heap.size w w') (row : Option Nat) : w.grownBy w' row := ⟨h.os, h.tape, h.output, h.size, fun i hi _ => h.block i hi⟩

theorem MapI.below {b n : Nat} {f : Int → Int} {w w' : World} (h : MapI b n f w) (hb : Below w.heap.size w w') : MapI b n f w' := h.kept (grownD hb none) (by simp)

theorem wf_i64 {c : Int} (h : -9223372036854775808 ≤ c ∧ c ≤ 9223372036854775807) : (Lit.int .i64 c).wf = true := WalkArith.wf_i64 (by omega)

theorem MapI.look {b n : Nat} {f : Int → Int} {w : World} (h : MapI b n f w) {c : Int} (hc : -9223372036854775808 ≤ c ∧ c ≤ 9223372036854775807) :
    (Instr.lookup 36 (.map (some b)) (.int .i64 c) false).run Tryd.prog w = .ok (.int .i64 (f c)) w := by
  obtain ⟨D, h, h2⟩ := h
  obtain ⟨x, hrun, hat, -⟩ := h.lookup_int iKeyed Tryd.underlying36 Tryd.underlying3 (iZero _) (keyOf_int_mk Tryd.underlying3 (wf_i64 hc))
  rw [h2 c (wf_i64 hc)] at hat
  have : f c = x := by simpa using hat
  rw [hrun, this]

/-- f with v at c. -/
def setF (f : Int → Int) (c v : Int) : Int → Int := fun x => if x = c then v else f x

theorem MapI.store {b n : Nat} {f : Int → Int} {w : World} (h : MapI b n f w) (hn : n < 1000) {c v : Int} (hc : -9223372036854775808 ≤ c ∧ c ≤ 9223372036854775807) (hv : -9223372036854775808 ≤ v ∧ v ≤ 9223372036854775807) :
    ∃ w', (Instr.mapUpdate 36 (.map (some b)) (.int .i64 c) (.int .i64 v)).run Tryd.prog w = .ok () w' ∧ MapI b (n + 1) (setF f c v) w' ∧ w.grownBy w' (some b) := by
  obtain ⟨D, h, h2⟩ := h
  obtain ⟨w', hrun, ho, hg⟩ := h.update iKeyed Tryd.underlying36 (by unfold maxLen; omega) (keyOf_int_mk Tryd.underlying3 (wf_i64 hc)) (plainElem_int Tryd.underlying3 (wf_i64 hv))
  have ht := h.tidy iKeyed
  refine ⟨w', hrun, ⟨_, ho, fun x hx => ?_⟩, hg⟩
  unfold setF
  split
  · rename_i e
    subst e
    exact atKey_put_same (k := .int .i64 x) ht.isMap trivial _ _
  · rename_i e
    rw [atKey_put_other (fun e2 => e (by cases e2; rfl))]
    exact h2 x hx

/-- What holds of the commands so far, of the sessions (f) and of the next calls (g), behind i raw things. -/
structure KeepC (i : Nat) (out : List CmdD) (f g : Int → Int) : Prop where
  len : out.length ≤ i
  ok : ∀ x ∈ out, x.err = 0
  f0 : ∀ c, 0 ≤ f c ∧ f c ≤ i
  g0 : ∀ c, 0 ≤ g c ∧ g c ≤ i + 1
  fg : ∀ c, f c ≠ 0 → 1 ≤ g c

theorem KeepC.nil : KeepC 0 [] (fun _ => 0) (fun _ => 0) := ⟨Nat.le_refl _, fun x hx => (by cases hx), fun _ => ⟨by simp, by simp⟩, fun _ => ⟨by simp, by simp⟩, fun _ h => absurd rfl h⟩

/-- One more command; nothing else. -/
theorem KeepC.more {i : Nat} {out : List CmdD} {f g : Int → Int} (h : KeepC i out f g) {x : CmdD} (hx : x.err = 0) : KeepC (i + 1) (out ++ [x]) f g :=
  ⟨by have := h.len; simp; omega, fun y hy => by rcases List.mem_append.1 hy with hy | hy; exact h.ok y hy; simp at hy; rw [hy]; exact hx,
    fun c => by have := h.f0 c; omega, fun c => by have := h.g0 c; omega, h.fg⟩

/-- A session begins. -/
theorem KeepC.begin {i : Nat} {out : List CmdD} {f g : Int → Int} (h : KeepC i out f g) (hi : 1 ≤ i) (c v : Int) (hv : 0 ≤ v ∧ v ≤ i) : KeepC i out (setF f c v) (setF g c 1) := by
  refine ⟨h.len, h.ok, fun x => ?_, fun x => ?_, fun x hx => ?_⟩
  · unfold setF; split
    · omega
    · exact h.f0 x
  · unfold setF; split
    · omega
    · exact h.g0 x
  · unfold setF at hx ⊢
    split
    · omega
    · rename_i e
      rw [if_neg e] at hx
      exact h.fg x hx

/-- A session ends. -/
theorem KeepC.leave {i : Nat} {out : List CmdD} {f g : Int → Int} (h : KeepC i out f g) (c : Int) : KeepC i out (setF f c 0) g := by
  refine ⟨h.len, h.ok, fun x => ?_, h.g0, fun x hx => ?_⟩
  · unfold setF; split
    · omega
    · exact h.f0 x
  · unfold setF at hx
    split at hx
    · exact absurd rfl hx
    · exact h.fg x hx

/-- A call was made. -/
theorem KeepC.next {i : Nat} {out : List CmdD} {f g : Int → Int} (h : KeepC i out f g) {x : CmdD} (hx : x.err = 0) (c : Int) : KeepC (i + 1) (out ++ [x]) f (setF g c (g c + 1)) := by
  have h' := h.more hx
  refine ⟨h'.len, h'.ok, h'.f0, fun x => ?_, fun x hx => ?_⟩
  · unfold setF; split
    · have := h.g0 c; omega
    · exact h'.g0 x
  · unfold setF; split
    · have := h.g0 c; omega
    · exact h.fg x hx
end Go.Proofs.YtnclipjepefpjaeDoor
