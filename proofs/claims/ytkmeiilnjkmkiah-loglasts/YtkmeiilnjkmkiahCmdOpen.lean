/- From the form's reading of an argument to an operation, or a command, as plain data. -/
import Derived.Test.YtkmeiilnjkmkiahRows
import Derived.WalkKit
import Derived.ProofKit
import Derived.WalkLawsBesides
import Derived.Deep.Slices
import Derived.SizedLaws
import Derived.Carry
import Derived.ChangeArms
import Derived.OpenShut
import Derived.Below
namespace Go.Proofs.Ytkmeiilnjkmkiah
open Go.ChangeShapes Go.WideShapes Go.ChangeAt Go.RowKit Go.Deep
set_option maxRecDepth 100000

/-- A number that fits. -/
def FitsC (n : Int) : Prop := -9223372036854775808 ≤ n ∧ n ≤ 9223372036854775807

/-- A text that can be read. -/
def ShortC (s : ByteArray) : Prop := s.size ≤ 140737488351232

theorem Try.ccellsInt : Try.prog.cellsOf 3 = 1 := by kernel_rfl
theorem Try.ccellsString : Try.prog.cellsOf 9 = 1 := by kernel_rfl
theorem Try.cellsOp : Try.prog.cellsOf 40 = 4 := by kernel_rfl
theorem Try.cellsCmd : Try.prog.cellsOf 42 = 9 := by kernel_rfl

section
variable {H : Type} {enc : TypeId × Value → H} {W : World}

set_option maxRecDepth 100000 in
theorem open_op {fuel : Nat} {cs : List Value} {d : DataW H} {p : List MemPlace} (h : DataW.trod enc Try.prog W 0 (fun _ => true) true fuel 40 cs = some (d, p))
    (hs : ∀ n ∈ d.weights Try.prog 40, n ≤ reachBytes) :
    ∃ (k : Int) (a b : ByteArray) (n : Int), cs = [.int .i64 k, .string a, .string b, .int .i64 n] ∧ FitsC k ∧ ShortC a ∧ ShortC b ∧ FitsC n := by
  obtain ⟨xs, k, _, hxy, hcl, hxl, hf⟩ := DataW.trod_struct Try.underlying40 h
  rw [Try.cellsOp] at hcl
  match xs, hxl, cs, hcl with
  | [y0, y1, y2, y3], _, [v0, v1, v2, v3], _ =>
    have g0 := hf 0 _ rfl
    have g1 := hf 1 _ rfl
    have g2 := hf 2 _ rfl
    have g3 := hf 3 _ rfl
    simp [Try.ccellsString, Try.ccellsInt] at g0 g1 g2 g3
    obtain ⟨n0, e0, _, f0⟩ := DataW.trod_int Try.underlying3 g0
    obtain ⟨s, e1, f1, _⟩ := DataW.trod_string Try.underlying9 g1
    obtain ⟨t, e2, f2, _⟩ := DataW.trod_string Try.underlying9 g2
    obtain ⟨n3, e3, _, f3⟩ := DataW.trod_int Try.underlying3 g3
    simp only [List.cons.injEq, and_true] at e0 e1 e2 e3
    subst e0 e1 e2 e3
    have hd : d = .agg [y0.1, y1.1, y2.1, y3.1] := by
      have := (Prod.mk.injEq _ _ _ _ ▸ hxy).1
      simpa using this
    subst hd
    refine ⟨n0, s, t, n3, rfl, bounds_i64 f0, ?_, ?_, bounds_i64 f3⟩
    · have := hs s.size (by
        simp [DataW.weights, Try.underlying40, DataW.weightsEach, f1])
      simpa [ShortC, reachBytes] using this
    · have := hs t.size (by
        simp [DataW.weights, Try.underlying40, DataW.weightsEach, f2])
      simpa [ShortC, reachBytes] using this

set_option maxRecDepth 100000 in
/-- AN ARGUMENT THAT IS AN OPERATION. -/
theorem open_opV {v : Value} {d : DataW H} {p : List MemPlace} (h : DataW.Trod enc Try.prog W 0 (fun _ => true) true 40 v d p) (hok : ∃ cs, v = .agg cs ∧ cs.size = Try.prog.cellsOf 40)
    (hs : ∀ n ∈ d.weights Try.prog 40, n ≤ reachBytes) :
    ∃ (k : Int) (a b : ByteArray) (n : Int), v = .agg #[.int .i64 k, .string a, .string b, .int .i64 n] ∧ FitsC k ∧ ShortC a ∧ ShortC b ∧ FitsC n := by
  obtain ⟨fuel, hf⟩ := h
  obtain ⟨cs, rfl, -⟩ := hok
  have hf' : DataW.trod enc Try.prog W 0 (fun _ => true) true fuel 40 cs.toList = some (d, p) := by simpa [Value.cells] using hf
  obtain ⟨k, a, b, n, e, h4⟩ := open_op hf' hs
  exact ⟨k, a, b, n, by rw [← Array.toArray_toList (xs := cs), e], h4⟩

set_option maxRecDepth 100000 in
/-- AN ARGUMENT THAT IS A COMMAND. -/
theorem open_cmdV {v : Value} {d : DataW H} {p : List MemPlace} (h : DataW.Trod enc Try.prog W 0 (fun _ => true) true 42 v d p) (hok : ∃ cs, v = .agg cs ∧ cs.size = Try.prog.cellsOf 42)
    (hs : ∀ n ∈ d.weights Try.prog 42, n ≤ reachBytes) :
    ∃ (k c s q u ok : Int) (a b : ByteArray) (n : Int), v = .agg #[.int .i64 k, .int .i64 c, .int .i64 s, .int .i64 q, .int .i64 u, .int .i64 ok, .string a, .string b, .int .i64 n] ∧
      FitsC k ∧ FitsC c ∧ FitsC s ∧ FitsC q ∧ FitsC u ∧ FitsC ok ∧ ShortC a ∧ ShortC b ∧ FitsC n := by
  obtain ⟨fuel, hf⟩ := h
  obtain ⟨cs, rfl, -⟩ := hok
  have hf' : DataW.trod enc Try.prog W 0 (fun _ => true) true fuel 42 cs.toList = some (d, p) := by simpa [Value.cells] using hf
  clear hf
  obtain ⟨xs, kk, _, hxy, hcl, hxl, hf⟩ := DataW.trod_struct Try.underlying42 hf'
  rw [Try.cellsCmd] at hcl
  clear hf'
  obtain ⟨l, hl⟩ : ∃ l, l = cs.toList := ⟨_, rfl⟩
  rw [← hl] at hcl hf
  have hcs : cs = l.toArray := by rw [hl]
  subst hcs
  clear hl
  match xs, hxl, l, hcl with
  | [y0, y1, y2, y3, y4, y5], _, [v0, v1, v2, v3, v4, v5, v6, v7, v8], _ =>
    have g0 := hf 0 _ rfl
    have g1 := hf 1 _ rfl
    have g2 := hf 2 _ rfl
    have g3 := hf 3 _ rfl
    have g4 := hf 4 _ rfl
    have g5 := hf 5 _ rfl
    simp [Try.ccellsInt, Try.cellsOp] at g0 g1 g2 g3 g4 g5
    obtain ⟨n0, e0, _, f0⟩ := DataW.trod_int Try.underlying3 g0
    obtain ⟨n1, e1, _, f1⟩ := DataW.trod_int Try.underlying3 g1
    obtain ⟨n2, e2, _, f2⟩ := DataW.trod_int Try.underlying3 g2
    obtain ⟨n3, e3, _, f3⟩ := DataW.trod_int Try.underlying3 g3
    obtain ⟨n4, e4, _, f4⟩ := DataW.trod_int Try.underlying3 g4
    have hd : d = .agg [y0.1, y1.1, y2.1, y3.1, y4.1, y5.1] := by
      have := (Prod.mk.injEq _ _ _ _ ▸ hxy).1
      simpa using this
    subst hd
    obtain ⟨ok, a, b, n, e5, h5⟩ := open_op g5 (fun n hn => hs n (by
      simp [DataW.weights, Try.underlying42, DataW.weightsEach, hn]))
    simp only [List.cons.injEq, and_true] at e0 e1 e2 e3 e4 e5
    obtain ⟨rfl, rfl, rfl, rfl⟩ := e5
    subst e0 e1 e2 e3 e4
    exact ⟨n0, n1, n2, n3, n4, ok, a, b, n, rfl, bounds_i64 f0, bounds_i64 f1, bounds_i64 f2, bounds_i64 f3, bounds_i64 f4, h5⟩
end
end Go.Proofs.Ytkmeiilnjkmkiah
