/- From the form's reading of an argument to locks as plain data; From the form's reading of an argument to pairs as plain data (joined by program) -/
import Derived.Deep.Slices
import Derived.SizedLaws
import Derived.Carry
import Derived.Test.YtbmfahgekcnkaaiRC03
import Derived.Test.YtbmfahgekcnkaaiRC04
namespace Go.Proofs.Ytbmfahgekcnkaai

open Go.ChangeShapes Go.WideShapes Go.RowKit Go.Deep

theorem Try.cellsLock : Try.prog.cellsOf 75 = 4 := by kernel_rfl

theorem Try.cellsInt : Try.prog.cellsOf 3 = 1 := by kernel_rfl

theorem Try.cellsString : Try.prog.cellsOf 9 = 1 := by kernel_rfl

theorem Try.cellsInts : Try.prog.cellsOf 73 = 1 := by kernel_rfl

theorem Try.bytesLock : Try.prog.bytesOf 75 = 56 := by kernel_rfl

theorem Try.bytesInt : Try.prog.bytesOf 3 = 8 := by kernel_rfl

section

variable {H : Type} {enc : TypeId × Value → H} {W : World}

set_option maxRecDepth 100000 in
theorem open_intsR {fuel : Nat} {v : Value} {d : DataW H} {p : List MemPlace} (h : DataW.trod enc Try.prog W 0 (fun _ => true) true fuel 73 [v] = some (d, p))
    (hs : ∀ n ∈ d.weights Try.prog 73, n ≤ reachBytes) : ∃ xs, IntsR W W.heap.size v xs := by
  rcases open_ints Try.underlying73 Try.underlying3 Try.cellsInt h with ⟨hcs, hx⟩ | ⟨a, len, cap, zs, hcs, _, hl, hm, hz, hx, hcell, _⟩
  · simp only [List.cons.injEq, and_true] at hcs
    subst hcs
    exact ⟨[], none, 0, rfl, Nat.le_refl _, (by decide), fun _ => rfl, fun h => absurd h (by simp)⟩
  · simp only [List.cons.injEq, and_true] at hcs
    subst hcs
    simp only [if_true] at hz
    have hd := (Prod.mk.injEq _ _ _ _ ▸ hx).1
    have hsz : (zs.take len).length * 8 ≤ 140737488351232 := by
      have := hs ((zs.take len).length * 8 + (zs.drop len).length * 8) (by
        rw [hd]
        simp [DataW.weights, Try.underlying73, lits, Try.bytesInt, Nat.add_mul])
      unfold reachBytes at this
      omega
    have hlen : (zs.take len).length = len := by rw [List.length_take]; omega
    refine ⟨zs.take len, some a, cap, by rw [hlen], by omega, hsz, (by intro h; cases h), fun hp => ?_⟩
    obtain ⟨b, off, spot⟩ := a
    have h0 := hcell 0 (by omega)
    have hspot : spot = none := by simpa [Addr.add] using World.cell?_spot h0
    subst hspot
    refine ⟨b, off, rfl, World.block_lt_of_cell? W _ h0, fun i x hx => ?_⟩
    rw [List.getElem?_take] at hx
    split at hx
    · have hi : i < zs.length := (List.getElem?_eq_some_iff.1 hx).1
      have := hcell i hi
      rw [add_plain] at this
      rw [this]
      simp [List.getD, hx]
    · cases hx

set_option maxRecDepth 100000 in
theorem open_lock {fuel : Nat} {cs : List Value} {d : DataW H} {p : List MemPlace} (h : DataW.trod enc Try.prog W 0 (fun _ => true) true fuel 75 cs = some (d, p))
    (hs : ∀ n ∈ d.weights Try.prog 75, n ≤ reachBytes) :
    ∃ (x : LockD) (lv : Value), cs = [.string x.name, .int .i64 x.holder, .int .i64 x.fence, lv] ∧ IntsR W W.heap.size lv x.line ∧ x.name.size ≤ 140737488351232 := by
  obtain ⟨xs, k, _, hxy, hcl, hxl, hf⟩ := DataW.trod_struct Try.underlying75 h
  rw [Try.cellsLock] at hcl
  match xs, hxl, cs, hcl with
  | [y0, y1, y2, y3], _, [v0, v1, v2, v3], _ =>
    have g0 := hf 0 _ rfl
    have g1 := hf 1 _ rfl
    have g2 := hf 2 _ rfl
    have g3 := hf 3 _ rfl
    simp [Try.cellsString, Try.cellsInt, Try.cellsInts] at g0 g1 g2 g3
    obtain ⟨s, e0, f0, _⟩ := DataW.trod_string Try.underlying9 g0
    obtain ⟨a, e1, f1, _⟩ := DataW.trod_int Try.underlying3 g1
    obtain ⟨b, e2, f2, _⟩ := DataW.trod_int Try.underlying3 g2
    simp only [List.cons.injEq, and_true] at e0 e1 e2
    subst e0 e1 e2
    have hd : d = .agg [y0.1, y1.1, y2.1, y3.1] := by
      have := (Prod.mk.injEq _ _ _ _ ▸ hxy).1
      simpa using this
    subst hd
    obtain ⟨xl, hl⟩ := open_intsR (d := y3.1) (p := y3.2) g3 (fun n hn => hs n (by
      simp [DataW.weights, Try.underlying75, DataW.weightsEach]
      exact Or.inr (Or.inr (Or.inr hn))))
    refine ⟨⟨s, a, b, xl⟩, v3, rfl, hl, ?_⟩
    have := hs s.size (by
      simp [DataW.weights, Try.underlying75, DataW.weightsEach, f0])
    simpa [reachBytes] using this

theorem weightsAll_mem {P : Program} {e : TypeId} : ∀ {ds : List (DataW H)} {d : DataW H}, d ∈ ds → ∀ n ∈ d.weights P e, n ∈ DataW.weightsAll P e ds
  | d0 :: r, d, hd, n, hn => by
    simp only [DataW.weightsAll, List.mem_append]
    rcases List.mem_cons.1 hd with rfl | hd
    · exact Or.inl hn
    · exact Or.inr (weightsAll_mem hd n hn)

set_option maxRecDepth 100000 in
/-- AN ARGUMENT OF LOCKS: it reads as plain data. -/
theorem open_locksR {v : Value} {d : DataW H} {p : List MemPlace} (h : DataW.Trod enc Try.prog W 0 (fun _ => true) true 34 v d p) (hok : ∃ a len cap, v = .slice a len cap)
    (hs : ∀ n ∈ d.weights Try.prog 34, n ≤ reachBytes) : ∃ ls, LocksR W W.heap.size v ls := by
  obtain ⟨fuel, hf⟩ := h
  obtain ⟨a0, len0, cap0, rfl⟩ := hok
  have hf' : DataW.trod enc Try.prog W 0 (fun _ => true) true fuel 34 [.slice a0 len0 cap0] = some (d, p) := by simpa [Value.cells] using hf
  rcases open_slice Try.underlying34 hf' with ⟨hcs, hx⟩ | ⟨a, len, cap, m, n, D, Pl, hcs, _, hl, hm, hmm, hx, hel⟩
  · simp only [List.cons.injEq, and_true] at hcs
    rw [hcs]
    exact ⟨[], none, 0, rfl, Nat.le_refl _, (by decide), fun _ => rfl, fun h => absurd h (by simp)⟩
  · simp only [List.cons.injEq, and_true] at hcs
    rw [hcs]
    simp only [if_true] at hmm
    subst hmm
    have hd := (Prod.mk.injEq _ _ _ _ ▸ hx).1
    rw [Try.cellsLock] at hel
    have hwt : ∀ i, i < len → ∀ k ∈ (D i).weights Try.prog 75, k ≤ reachBytes := fun i hi k hk => hs k (by
      rw [hd]
      simp only [DataW.weights, Try.underlying34, List.mem_cons, List.mem_append]
      exact Or.inr (Or.inl (weightsAll_mem (List.mem_map.2 ⟨i, List.mem_range.2 hi, rfl⟩) k hk)))
    have hsz : len * 56 ≤ 140737488351232 := by
      have := hs ((len + (m - len)) * 56) (by
        rw [hd]
        simp [DataW.weights, Try.underlying34, Try.bytesLock])
      unfold reachBytes at this
      omega
    haveI : Inhabited (LockD × Value) := ⟨(⟨⟨#[]⟩, 0, 0, []⟩, .slice none 0 0)⟩
    obtain ⟨q, hq⟩ := choose_lt (α := LockD × Value) (n := len) (p := fun i z => W.cells? 0 (a.add (i * 4)) 4 = some [.string z.1.name, .int .i64 z.1.holder, .int .i64 z.1.fence, z.2] ∧ IntsR W W.heap.size z.2 z.1.line ∧ z.1.name.size ≤ 140737488351232)
      (fun i hi => by
        obtain ⟨cs, h1, h2⟩ := hel i (by omega)
        obtain ⟨x, lv, rfl, h3, h4⟩ := open_lock h2 (hwt i hi)
        exact ⟨(x, lv), h1, h3, h4⟩)
    have hlen : ((List.range len).map fun i => (q i).1).length = len := by simp
    refine ⟨(List.range len).map fun i => (q i).1, some a, m, by rw [hlen], by omega, by omega, (by intro h; cases h), fun hp => ?_⟩
    rw [hlen] at hp
    obtain ⟨b, off, spot⟩ := a
    have hcell : ∀ i, i < len → ∀ j, j < 4 → W.cell? ((⟨b, off, spot⟩ : Addr).add (i * 4 + j)) = [Value.string (q i).1.name, .int .i64 (q i).1.holder, .int .i64 (q i).1.fence, (q i).2][j]? := fun i hi j hj => by
      obtain ⟨_, _, hc⟩ := World.cells?_some (hq i hi).1
      have := hc j hj
      rwa [add_add] at this
    have h0 := hcell 0 hp 0 (by omega)
    have hspot : spot = none := by simpa [Addr.add] using World.cell?_spot h0
    subst hspot
    refine ⟨b, off, rfl, World.block_lt_of_cell? W _ h0, fun i x hx => ?_⟩
    have hi : i < len := by have := (List.getElem?_eq_some_iff.1 hx).1; simpa using this
    have ex : (q i).1 = x := by
      rw [List.getElem?_map, List.getElem?_range hi] at hx
      simpa using hx
    have c0 := hcell i hi 0 (by omega)
    have c1 := hcell i hi 1 (by omega)
    have c2 := hcell i hi 2 (by omega)
    have c3 := hcell i hi 3 (by omega)
    rw [add_plain] at c0 c1 c2 c3
    subst ex
    exact ⟨(q i).2, by simpa using c0, by simpa [Nat.add_assoc] using c1, by simpa [Nat.add_assoc] using c2, by simpa [Nat.add_assoc] using c3, (hq i hi).2.1, (hq i hi).2.2⟩

end

end Go.Proofs.Ytbmfahgekcnkaai

namespace Go.Proofs.Ytbmfahgekcnkaai

open Go.ChangeShapes Go.WideShapes Go.RowKit Go.Deep

theorem Try.cellsPair : Try.prog.cellsOf 78 = 3 := by kernel_rfl

theorem Try.pcellsInt : Try.prog.cellsOf 3 = 1 := by kernel_rfl

theorem Try.pcellsString : Try.prog.cellsOf 9 = 1 := by kernel_rfl

theorem Try.bytesPair : Try.prog.bytesOf 78 = 40 := by kernel_rfl

section

variable {H : Type} {enc : TypeId × Value → H} {W : World}

set_option maxRecDepth 100000 in
theorem open_pair {fuel : Nat} {cs : List Value} {d : DataW H} {p : List MemPlace} (h : DataW.trod enc Try.prog W 0 (fun _ => true) true fuel 78 cs = some (d, p))
    (hs : ∀ n ∈ d.weights Try.prog 78, n ≤ reachBytes) :
    ∃ (x : PairD), cs = [.string x.name, .string x.value, .int .i64 x.version] ∧ x.name.size ≤ 140737488351232 ∧ x.value.size ≤ 140737488351232 := by
  obtain ⟨xs, k, _, hxy, hcl, hxl, hf⟩ := DataW.trod_struct Try.underlying78 h
  rw [Try.cellsPair] at hcl
  match xs, hxl, cs, hcl with
  | [y0, y1, y2], _, [v0, v1, v2], _ =>
    have g0 := hf 0 _ rfl
    have g1 := hf 1 _ rfl
    have g2 := hf 2 _ rfl
    simp [Try.pcellsString, Try.pcellsInt] at g0 g1 g2
    obtain ⟨s, e0, f0, _⟩ := DataW.trod_string Try.underlying9 g0
    obtain ⟨t, e1, f1, _⟩ := DataW.trod_string Try.underlying9 g1
    obtain ⟨b, e2, f2, _⟩ := DataW.trod_int Try.underlying3 g2
    simp only [List.cons.injEq, and_true] at e0 e1 e2
    subst e0 e1 e2
    have hd : d = .agg [y0.1, y1.1, y2.1] := by
      have := (Prod.mk.injEq _ _ _ _ ▸ hxy).1
      simpa using this
    subst hd
    refine ⟨⟨s, t, b⟩, rfl, ?_, ?_⟩
    · have := hs s.size (by
        simp [DataW.weights, Try.underlying78, DataW.weightsEach, f0])
      simpa [reachBytes] using this
    · have := hs t.size (by
        simp [DataW.weights, Try.underlying78, DataW.weightsEach, f1])
      simpa [reachBytes] using this

theorem pairs_weightsAll_mem {P : Program} {e : TypeId} : ∀ {ds : List (DataW H)} {d : DataW H}, d ∈ ds → ∀ n ∈ d.weights P e, n ∈ DataW.weightsAll P e ds
  | d0 :: r, d, hd, n, hn => by
    simp only [DataW.weightsAll, List.mem_append]
    rcases List.mem_cons.1 hd with rfl | hd
    · exact Or.inl hn
    · exact Or.inr (pairs_weightsAll_mem hd n hn)

set_option maxRecDepth 100000 in
/-- AN ARGUMENT OF PAIRS: it reads as plain data. -/
theorem open_pairsR {v : Value} {d : DataW H} {p : List MemPlace} (h : DataW.Trod enc Try.prog W 0 (fun _ => true) true 35 v d p) (hok : ∃ a len cap, v = .slice a len cap)
    (hs : ∀ n ∈ d.weights Try.prog 35, n ≤ reachBytes) : ∃ ls, PairsR W W.heap.size v ls := by
  obtain ⟨fuel, hf⟩ := h
  obtain ⟨a0, len0, cap0, rfl⟩ := hok
  have hf' : DataW.trod enc Try.prog W 0 (fun _ => true) true fuel 35 [.slice a0 len0 cap0] = some (d, p) := by simpa [Value.cells] using hf
  rcases open_slice Try.underlying35 hf' with ⟨hcs, hx⟩ | ⟨a, len, cap, m, n, D, Pl, hcs, _, hl, hm, hmm, hx, hel⟩
  · simp only [List.cons.injEq, and_true] at hcs
    rw [hcs]
    exact ⟨[], PairsR.nil _ _⟩
  · simp only [List.cons.injEq, and_true] at hcs
    rw [hcs]
    simp only [if_true] at hmm
    subst hmm
    have hd := (Prod.mk.injEq _ _ _ _ ▸ hx).1
    rw [Try.cellsPair] at hel
    have hwt : ∀ i, i < len → ∀ k ∈ (D i).weights Try.prog 78, k ≤ reachBytes := fun i hi k hk => hs k (by
      rw [hd]
      simp only [DataW.weights, Try.underlying35, List.mem_cons, List.mem_append]
      exact Or.inr (Or.inl (pairs_weightsAll_mem (List.mem_map.2 ⟨i, List.mem_range.2 hi, rfl⟩) k hk)))
    have hsz : len * 40 ≤ 140737488351232 := by
      have := hs ((len + (m - len)) * 40) (by
        rw [hd]
        simp [DataW.weights, Try.underlying35, Try.bytesPair])
      unfold reachBytes at this
      omega
    haveI : Inhabited PairD := ⟨⟨⟨#[]⟩, ⟨#[]⟩, 0⟩⟩
    obtain ⟨q, hq⟩ := choose_lt (α := PairD) (n := len) (p := fun i z => W.cells? 0 (a.add (i * 3)) 3 = some [.string z.name, .string z.value, .int .i64 z.version] ∧ z.name.size ≤ 140737488351232 ∧ z.value.size ≤ 140737488351232)
      (fun i hi => by
        obtain ⟨cs, h1, h2⟩ := hel i (by omega)
        obtain ⟨x, rfl, h3⟩ := open_pair h2 (hwt i hi)
        exact ⟨x, h1, h3⟩)
    have hlen : ((List.range len).map fun i => q i).length = len := by simp
    refine ⟨(List.range len).map fun i => q i, some a, m, by rw [hlen], by omega, by omega, (by intro h; cases h), fun hp => ?_⟩
    rw [hlen] at hp
    obtain ⟨b, off, spot⟩ := a
    have hcell : ∀ i, i < len → ∀ j, j < 3 → W.cell? ((⟨b, off, spot⟩ : Addr).add (i * 3 + j)) = [Value.string (q i).name, .string (q i).value, .int .i64 (q i).version][j]? := fun i hi j hj => by
      obtain ⟨_, _, hc⟩ := World.cells?_some (hq i hi).1
      have := hc j hj
      rwa [add_add] at this
    have h0 := hcell 0 hp 0 (by omega)
    have hspot : spot = none := by simpa [Addr.add] using World.cell?_spot h0
    subst hspot
    refine ⟨b, off, rfl, World.block_lt_of_cell? W _ h0, fun i x hx => ?_⟩
    have hi : i < len := by have := (List.getElem?_eq_some_iff.1 hx).1; simpa using this
    have ex : q i = x := by
      rw [List.getElem?_map, List.getElem?_range hi] at hx
      simpa using hx
    have c0 := hcell i hi 0 (by omega)
    have c1 := hcell i hi 1 (by omega)
    have c2 := hcell i hi 2 (by omega)
    rw [add_plain] at c0 c1 c2
    subst ex
    exact ⟨by simpa using c0, by simpa [Nat.add_assoc] using c1, by simpa [Nat.add_assoc] using c2, (hq i hi).2.1, (hq i hi).2.2, trivial⟩

end

end Go.Proofs.Ytbmfahgekcnkaai
