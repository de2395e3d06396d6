/- From the form's reading of an argument to a state as plain data. -/
import Derived.Test.YtkjahjknmfjmkagMachMem
import Derived.Test.YtkjahjknmfjmkagLockOpen
import Derived.Test.YtkjahjknmfjmkagPairOpen
import Derived.Test.YtkjahjknmfjmkagSessOpen
namespace Go.Proofs.Ytkjahjknmfjmkag
open Go.ChangeShapes Go.WideShapes Go.ChangeAt Go.RowKit Go.Deep

theorem Try.cellsState : Try.prog.cellsOf 26 = 4 := by kernel_rfl
theorem Try.cellsLocks : Try.prog.cellsOf 22 = 1 := by kernel_rfl
theorem Try.cellsPairs : Try.prog.cellsOf 23 = 1 := by kernel_rfl
theorem Try.cellsSessions : Try.prog.cellsOf 24 = 1 := by kernel_rfl

section
variable {H : Type} {enc : TypeId × Value → H} {W : World}

theorem slice_of_trod {fuel : Nat} {s e : TypeId} {v : Value} {d : DataW H} {p : List MemPlace} (hu : Try.prog.underlying s = some (.slice e)) (h : DataW.trod enc Try.prog W 0 (fun _ => true) true fuel s [v] = some (d, p)) :
    (∃ a len cap, v = .slice a len cap) ∧ DataW.Trod enc Try.prog W 0 (fun _ => true) true s v d p := by
  have hv : ∃ a len cap, v = .slice a len cap := by
    rcases open_slice hu h with ⟨hcs, _⟩ | ⟨a, len, cap, m, n, D, Pl, hcs, _⟩
    all_goals
      simp only [List.cons.injEq, and_true] at hcs
      exact ⟨_, _, _, hcs⟩
  refine ⟨hv, fuel, ?_⟩
  obtain ⟨a, len, cap, rfl⟩ := hv
  simpa [Value.cells] using h

theorem open_state {fuel : Nat} {cs : List Value} {d : DataW H} {p : List MemPlace} (h : DataW.trod enc Try.prog W 0 (fun _ => true) true fuel 26 cs = some (d, p))
    (hs : ∀ n ∈ d.weights Try.prog 26, n ≤ reachBytes) :
    ∃ (s : StateD) (lv pv sv : Value), cs = [.int .i64 s.index, lv, pv, sv] ∧ LocksR W W.heap.size lv s.locks ∧ PairsR W W.heap.size pv s.pairs ∧ SessR W W.heap.size sv s.sess ∧ (-9223372036854775808 ≤ s.index ∧ s.index ≤ 9223372036854775807) := by
  obtain ⟨xs, k, _, hxy, hcl, hxl, hf⟩ := DataW.trod_struct Try.underlying26 h
  rw [Try.cellsState] at hcl
  match xs, hxl, cs, hcl with
  | [y0, y1, y2, y3], _, [v0, v1, v2, v3], _ =>
    have g0 := hf 0 _ rfl
    have g1 := hf 1 _ rfl
    have g2 := hf 2 _ rfl
    have g3 := hf 3 _ rfl
    simp [Try.scellsInt, Try.cellsLocks, Try.cellsPairs, Try.cellsSessions] at g0 g1 g2 g3
    obtain ⟨n0, e0, _, f0⟩ := DataW.trod_int Try.underlying3 g0
    simp only [List.cons.injEq, and_true] at e0
    subst e0
    have hd : d = .agg [y0.1, y1.1, y2.1, y3.1] := by
      have := (Prod.mk.injEq _ _ _ _ ▸ hxy).1
      simpa using this
    subst hd
    obtain ⟨s1, t1⟩ := slice_of_trod (d := y1.1) (p := y1.2) Try.underlying22 g1
    obtain ⟨s2, t2⟩ := slice_of_trod (d := y2.1) (p := y2.2) Try.underlying23 g2
    obtain ⟨s3, t3⟩ := slice_of_trod (d := y3.1) (p := y3.2) Try.underlying24 g3
    obtain ⟨ls, H1⟩ := open_locksR t1 s1 (fun n hn => hs n (by
      simp [DataW.weights, Try.underlying26, DataW.weightsEach]; exact Or.inr (Or.inl hn)))
    obtain ⟨ps, H2⟩ := open_pairsR t2 s2 (fun n hn => hs n (by
      simp [DataW.weights, Try.underlying26, DataW.weightsEach]; exact Or.inr (Or.inr (Or.inl hn))))
    obtain ⟨ss, H3⟩ := open_sessR t3 s3 (fun n hn => hs n (by
      simp [DataW.weights, Try.underlying26, DataW.weightsEach]; exact Or.inr (Or.inr (Or.inr hn))))
    exact ⟨⟨n0, ls, ps, ss⟩, v1, v2, v3, rfl, H1, H2, H3, bounds_i64 f0⟩

/-- AN ARGUMENT THAT IS A STATE. -/
theorem open_stateV {v : Value} {d : DataW H} {p : List MemPlace} (h : DataW.Trod enc Try.prog W 0 (fun _ => true) true 26 v d p) (hok : ∃ cs, v = .agg cs ∧ cs.size = Try.prog.cellsOf 26)
    (hs : ∀ n ∈ d.weights Try.prog 26, n ≤ reachBytes) :
    ∃ (s : StateD), StateR W W.heap.size v s ∧ (-9223372036854775808 ≤ s.index ∧ s.index ≤ 9223372036854775807) := by
  obtain ⟨fuel, hf⟩ := h
  obtain ⟨cs, rfl, -⟩ := hok
  have hf' : DataW.trod enc Try.prog W 0 (fun _ => true) true fuel 26 cs.toList = some (d, p) := by simpa [Value.cells] using hf
  obtain ⟨s, lv, pv, sv, e, h1, h2, h3, h4⟩ := open_state hf' hs
  exact ⟨s, ⟨lv, pv, sv, by rw [← Array.toArray_toList (xs := cs), e], h1, h2, h3⟩, h4⟩
end
end Go.Proofs.Ytkjahjknmfjmkag
