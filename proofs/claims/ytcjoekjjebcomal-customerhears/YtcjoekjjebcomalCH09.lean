/- From the form's reading of an argument to an operation, or a command, as plain data (joined by program) -/
import Derived.Test.YtcjoekjjebcomalRows
import Derived.WalkKit
import Derived.ProofKit
import Derived.WalkLawsBesides
import Derived.Deep.Slices
import Derived.SizedLaws
import Derived.Carry
import Derived.ChangeArms
import Derived.OpenShut
import Derived.Below
namespace Go.Proofs.Ytcjoekjjebcomal

open Go.ChangeShapes Go.WideShapes Go.ChangeAt Go.RowKit Go.Deep

set_option maxRecDepth 100000

/-- A number that fits. -/
def FitsC (n : Int) : Prop := -9223372036854775808 ≤ n ∧ n ≤ 9223372036854775807

/-- A text that can be read. -/
def ShortC (s : ByteArray) : Prop := s.size ≤ 140737488351232

theorem Try.ccellsInt : Try.prog.cellsOf 3 = 1 := by kernel_rfl

theorem Try.ccellsString : Try.prog.cellsOf 9 = 1 := by kernel_rfl

theorem Try.cellsOp : Try.prog.cellsOf 40 = 4 := by kernel_rfl

section

variable {H : Type} {enc : TypeId × Value → H} {W : World}

set_option maxRecDepth 100000 in
theorem open_op {fuel : Nat} {cs : List Value} {d : DataW H} {p : List MemPlace} (h : DataW.trod enc Try.prog W 0 (fun _ => true) true fuel 40 cs = some (d, p))
    (hs : ∀ n ∈ d.weights Try.prog 40, n ≤ reachBytes) :
    ∃ (k : Int) (a b : ByteArray) (n : Int), cs = [.int .i64 k, .string a, .string b, .int .i64 n] ∧ FitsC k ∧ ShortC a ∧ ShortC b ∧ FitsC n := by
  obtain ⟨xs, k, _, hxy, hcl, hxl, hf⟩ := DataW.trod_struct Try.underlying40 h
  rw [Try.cellsOp] at hcl
  match xs, hxl, cs, hcl with
  | [y0, y1, y2, y3], _, [v0, v1, v2, v3], _ =>
    have g0 := hf 0 _ rfl
    have g1 := hf 1 _ rfl
    have g2 := hf 2 _ rfl
    have g3 := hf 3 _ rfl
    simp [Try.ccellsString, Try.ccellsInt] at g0 g1 g2 g3
    obtain ⟨n0, e0, _, f0⟩ := DataW.trod_int Try.underlying3 g0
    obtain ⟨s, e1, f1, _⟩ := DataW.trod_string Try.underlying9 g1
    obtain ⟨t, e2, f2, _⟩ := DataW.trod_string Try.underlying9 g2
    obtain ⟨n3, e3, _, f3⟩ := DataW.trod_int Try.underlying3 g3
    simp only [List.cons.injEq, and_true] at e0 e1 e2 e3
    subst e0 e1 e2 e3
    have hd : d = .agg [y0.1, y1.1, y2.1, y3.1] := by
      have := (Prod.mk.injEq _ _ _ _ ▸ hxy).1
      simpa using this
    subst hd
    refine ⟨n0, s, t, n3, rfl, bounds_i64 f0, ?_, ?_, bounds_i64 f3⟩
    · have := hs s.size (by
        simp [DataW.weights, Try.underlying40, DataW.weightsEach, f1])
      simpa [ShortC, reachBytes] using this
    · have := hs t.size (by
        simp [DataW.weights, Try.underlying40, DataW.weightsEach, f2])
      simpa [ShortC, reachBytes] using this

end

end Go.Proofs.Ytcjoekjjebcomal
