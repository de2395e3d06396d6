/- From the form's reading of an argument to a client, or a mail, as plain data (joined by program) -/
import Derived.Test.YtcjoekjjebcomalCH06
import Derived.Test.YtcjoekjjebcomalCH09
namespace Go.Proofs.Ytcjoekjjebcomal

open Go.ChangeShapes Go.WideShapes Go.ChangeAt Go.RowKit Go.Deep

theorem Try.cellsWait : Try.prog.cellsOf 42 = 5 := by kernel_rfl

theorem Try.cellsWaits : Try.prog.cellsOf 22 = 1 := by kernel_rfl

theorem Try.bytesWait : Try.prog.bytesOf 42 = 56 := by kernel_rfl

theorem Try.cellsCust : Try.prog.cellsOf 24 = 4 := by kernel_rfl

section

variable {H : Type} {enc : TypeId × Value → H} {W : World}

theorem w_weightsAll_mem {P : Program} {e : TypeId} : ∀ {ds : List (DataW H)} {d : DataW H}, d ∈ ds → ∀ n ∈ d.weights P e, n ∈ DataW.weightsAll P e ds
  | d0 :: r, d, hd, n, hn => by
    simp only [DataW.weightsAll, List.mem_append]
    rcases List.mem_cons.1 hd with rfl | hd
    · exact Or.inl hn
    · exact Or.inr (w_weightsAll_mem hd n hn)

set_option maxRecDepth 100000 in
theorem open_wait {fuel : Nat} {cs : List Value} {d : DataW H} {p : List MemPlace} (h : DataW.trod enc Try.prog W 0 (fun _ => true) true fuel 42 cs = some (d, p))
    (hs : ∀ n ∈ d.weights Try.prog 42, n ≤ reachBytes) :
    ∃ (x : WaitD), cs = waitCells x ∧ x.a.size ≤ 140737488351232 ∧ x.b.size ≤ 140737488351232 := by
  obtain ⟨xs, k, _, hxy, hcl, hxl, hf⟩ := DataW.trod_struct Try.underlying42 h
  rw [Try.cellsWait] at hcl
  match xs, hxl, cs, hcl with
  | [y0, y1], _, [v0, v1, v2, v3, v4], _ =>
    have g0 := hf 0 _ rfl
    have g1 := hf 1 _ rfl
    simp [Try.ccellsInt, Try.cellsOp] at g0 g1
    obtain ⟨n0, e0, _, f0⟩ := DataW.trod_int Try.underlying3 g0
    have hd : d = .agg [y0.1, y1.1] := by
      have := (Prod.mk.injEq _ _ _ _ ▸ hxy).1
      simpa using this
    subst hd
    obtain ⟨k, a, b, n, e1, h4⟩ := open_op g1 (fun n hn => hs n (by
      simp [DataW.weights, Try.underlying42, DataW.weightsEach, hn]))
    simp only [List.cons.injEq, and_true] at e0 e1
    obtain ⟨rfl, rfl, rfl, rfl⟩ := e1
    subst e0
    exact ⟨⟨n0, k, a, b, n⟩, rfl, h4.2.1, h4.2.2.1⟩

set_option maxRecDepth 100000 in
theorem open_waitsR {fuel : Nat} {v : Value} {d : DataW H} {p : List MemPlace} (hf' : DataW.trod enc Try.prog W 0 (fun _ => true) true fuel 22 [v] = some (d, p))
    (hs : ∀ n ∈ d.weights Try.prog 22, n ≤ reachBytes) : ∃ ls, WaitsR W W.heap.size v ls := by
  rcases open_slice Try.underlying22 hf' with ⟨hcs, hx⟩ | ⟨a, len, cap, m, n, D, Pl, hcs, _, hl, hm, hmm, hx, hel⟩
  · simp only [List.cons.injEq, and_true] at hcs
    rw [hcs]
    exact ⟨[], WaitsR.nil _ _⟩
  · simp only [List.cons.injEq, and_true] at hcs
    rw [hcs]
    simp only [if_true] at hmm
    subst hmm
    have hd := (Prod.mk.injEq _ _ _ _ ▸ hx).1
    rw [Try.cellsWait] at hel
    have hwt : ∀ i, i < len → ∀ k ∈ (D i).weights Try.prog 42, k ≤ reachBytes := fun i hi k hk => hs k (by
      rw [hd]
      simp only [DataW.weights, Try.underlying22, List.mem_cons, List.mem_append]
      exact Or.inr (Or.inl (w_weightsAll_mem (List.mem_map.2 ⟨i, List.mem_range.2 hi, rfl⟩) k hk)))
    have hsz : len * 56 ≤ 140737488351232 := by
      have := hs ((len + (m - len)) * 56) (by
        rw [hd]
        simp [DataW.weights, Try.underlying22, Try.bytesWait])
      unfold reachBytes at this
      omega
    haveI : Inhabited WaitD := ⟨⟨0, 0, ⟨#[]⟩, ⟨#[]⟩, 0⟩⟩
    obtain ⟨q, hq⟩ := choose_lt (α := WaitD) (n := len) (p := fun i z => W.cells? 0 (a.add (i * 5)) 5 = some (waitCells z) ∧ z.a.size ≤ 140737488351232 ∧ z.b.size ≤ 140737488351232)
      (fun i hi => by
        obtain ⟨cs, h1, h2⟩ := hel i (by omega)
        obtain ⟨x, rfl, h3⟩ := open_wait h2 (hwt i hi)
        exact ⟨x, h1, h3⟩)
    have hlen : ((List.range len).map fun i => q i).length = len := by simp
    refine ⟨(List.range len).map fun i => q i, some a, m, by rw [hlen], by omega, by omega, (by intro h; cases h), fun hp => ?_⟩
    rw [hlen] at hp
    obtain ⟨b, off, spot⟩ := a
    have hcell : ∀ i, i < len → ∀ j, j < 5 → W.cell? ((⟨b, off, spot⟩ : Addr).add (i * 5 + j)) = (waitCells (q i))[j]? := fun i hi j hj => by
      obtain ⟨_, _, hc⟩ := World.cells?_some (hq i hi).1
      have := hc j hj
      rwa [add_add] at this
    have h0 := hcell 0 hp 0 (by omega)
    have hspot : spot = none := by simpa [Addr.add] using World.cell?_spot h0
    subst hspot
    refine ⟨b, off, rfl, World.block_lt_of_cell? W _ h0, fun i x hx => ?_⟩
    have hi : i < len := by have := (List.getElem?_eq_some_iff.1 hx).1; simpa using this
    have ex : q i = x := by
      rw [List.getElem?_map, List.getElem?_range hi] at hx
      simpa using hx
    have c0 := hcell i hi 0 (by omega)
    have c1 := hcell i hi 1 (by omega)
    have c2 := hcell i hi 2 (by omega)
    have c3 := hcell i hi 3 (by omega)
    have c4 := hcell i hi 4 (by omega)
    rw [add_plain] at c0 c1 c2 c3 c4
    subst ex
    exact ⟨by simpa [waitCells] using c0, by simpa [waitCells, Nat.add_assoc] using c1, by simpa [waitCells, Nat.add_assoc] using c2, by simpa [waitCells, Nat.add_assoc] using c3, by simpa [waitCells, Nat.add_assoc] using c4, (hq i hi).2.1, (hq i hi).2.2, trivial⟩

set_option maxRecDepth 100000 in
/-- AN ARGUMENT THAT IS A CLIENT. -/
theorem open_custV {v : Value} {d : DataW H} {p : List MemPlace} (h : DataW.Trod enc Try.prog W 0 (fun _ => true) true 24 v d p) (hok : ∃ cs, v = .agg cs ∧ cs.size = Try.prog.cellsOf 24)
    (hs : ∀ n ∈ d.weights Try.prog 24, n ≤ reachBytes) : ∃ (c : CustD), CustR W W.heap.size v c := by
  obtain ⟨fuel, hf⟩ := h
  obtain ⟨cs, rfl, -⟩ := hok
  have hf' : DataW.trod enc Try.prog W 0 (fun _ => true) true fuel 24 cs.toList = some (d, p) := by simpa [Value.cells] using hf
  obtain ⟨xs, k, _, hxy, hcl, hxl, hg⟩ := DataW.trod_struct Try.underlying24 hf'
  rw [Try.cellsCust] at hcl
  obtain ⟨l, hl⟩ : ∃ l, l = cs.toList := ⟨_, rfl⟩
  rw [← hl] at hcl hg
  have hcs : cs = l.toArray := by rw [hl]
  subst hcs
  clear hl hf hf'
  match xs, hxl, l, hcl with
  | [y0, y1, y2, y3], _, [v0, v1, v2, v3], _ =>
    have g0 := hg 0 _ rfl
    have g1 := hg 1 _ rfl
    have g2 := hg 2 _ rfl
    have g3 := hg 3 _ rfl
    simp [Try.ccellsInt, Try.cellsWaits] at g0 g1 g2 g3
    obtain ⟨n0, e0, _, f0⟩ := DataW.trod_int Try.underlying3 g0
    obtain ⟨n1, e1, _, f1⟩ := DataW.trod_int Try.underlying3 g1
    obtain ⟨n2, e2, _, f2⟩ := DataW.trod_int Try.underlying3 g2
    have hd : d = .agg [y0.1, y1.1, y2.1, y3.1] := by
      have := (Prod.mk.injEq _ _ _ _ ▸ hxy).1
      simpa using this
    subst hd
    obtain ⟨ls, hls⟩ := open_waitsR (d := y3.1) (p := y3.2) g3 (fun n hn => hs n (by
      simp [DataW.weights, Try.underlying24, DataW.weightsEach, hn]))
    simp only [List.cons.injEq, and_true] at e0 e1 e2
    subst e0 e1 e2
    exact ⟨⟨n0, n1, n2, ls⟩, _, rfl, hls⟩

end

end Go.Proofs.Ytcjoekjjebcomal
