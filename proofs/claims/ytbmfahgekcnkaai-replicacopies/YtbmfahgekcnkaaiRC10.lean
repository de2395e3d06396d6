/- From the form's reading of an argument to sessions, or a reply, as plain data; From the form's reading of an argument to a state as plain data (joined by program) -/
import Derived.Deep.Slices
import Derived.SizedLaws
import Derived.Carry
import Derived.ChangeArms
import Derived.OpenShut
import Derived.Test.YtbmfahgekcnkaaiRC05
import Derived.Test.YtbmfahgekcnkaaiRC06
import Derived.Test.YtbmfahgekcnkaaiRC09
namespace Go.Proofs.Ytbmfahgekcnkaai

open Go.ChangeShapes Go.WideShapes Go.ChangeAt Go.RowKit Go.Deep

theorem Try.scellsInt : Try.prog.cellsOf 3 = 1 := by kernel_rfl

theorem Try.scellsErrno : Try.prog.cellsOf 25 = 1 := by kernel_rfl

theorem Try.scellsString : Try.prog.cellsOf 9 = 1 := by kernel_rfl

theorem Try.scellsReply : Try.prog.cellsOf 83 = 3 := by kernel_rfl

theorem Try.scellsKept : Try.prog.cellsOf 85 = 4 := by kernel_rfl

theorem Try.scellsKepts : Try.prog.cellsOf 79 = 1 := by kernel_rfl

theorem Try.scellsSess : Try.prog.cellsOf 81 = 5 := by kernel_rfl

theorem Try.sbytesKept : Try.prog.bytesOf 85 = 40 := by kernel_rfl

theorem Try.sbytesSess : Try.prog.bytesOf 81 = 56 := by kernel_rfl

section

variable {H : Type} {enc : TypeId × Value → H} {W : World}

theorem g_weightsAll_mem {P : Program} {e : TypeId} : ∀ {ds : List (DataW H)} {d : DataW H}, d ∈ ds → ∀ n ∈ d.weights P e, n ∈ DataW.weightsAll P e ds
  | d0 :: r, d, hd, n, hn => by
    simp only [DataW.weightsAll, List.mem_append]
    rcases List.mem_cons.1 hd with rfl | hd
    · exact Or.inl hn
    · exact Or.inr (g_weightsAll_mem hd n hn)

set_option maxRecDepth 100000 in
theorem open_reply {fuel : Nat} {cs : List Value} {d : DataW H} {p : List MemPlace} (h : DataW.trod enc Try.prog W 0 (fun _ => true) true fuel 83 cs = some (d, p))
    (hs : ∀ n ∈ d.weights Try.prog 83, n ≤ reachBytes) :
    ∃ (c n : Int) (t : ByteArray), cs = [.int .i64 c, .int .i64 n, .string t] ∧ (-9223372036854775808 ≤ c ∧ c ≤ 9223372036854775807) ∧ (-9223372036854775808 ≤ n ∧ n ≤ 9223372036854775807) ∧ t.size ≤ 140737488351232 := by
  obtain ⟨xs, k, _, hxy, hcl, hxl, hf⟩ := DataW.trod_struct Try.underlying83 h
  rw [Try.scellsReply] at hcl
  match xs, hxl, cs, hcl with
  | [y0, y1, y2], _, [v0, v1, v2], _ =>
    have g0 := hf 0 _ rfl
    have g1 := hf 1 _ rfl
    have g2 := hf 2 _ rfl
    simp [Try.scellsString, Try.scellsInt, Try.scellsErrno] at g0 g1 g2
    obtain ⟨n0, e0, _, f0⟩ := DataW.trod_int Try.underlying25 g0
    obtain ⟨n1, e1, _, f1⟩ := DataW.trod_int Try.underlying3 g1
    obtain ⟨t, e2, f2, _⟩ := DataW.trod_string Try.underlying9 g2
    simp only [List.cons.injEq, and_true] at e0 e1 e2
    subst e0 e1 e2
    have hd : d = .agg [y0.1, y1.1, y2.1] := by
      have := (Prod.mk.injEq _ _ _ _ ▸ hxy).1
      simpa using this
    subst hd
    refine ⟨n0, n1, t, rfl, bounds_i64 f0, bounds_i64 f1, ?_⟩
    have := hs t.size (by
      simp [DataW.weights, Try.underlying83, DataW.weightsEach, f2])
    simpa [reachBytes] using this

set_option maxRecDepth 100000 in
theorem open_kept {fuel : Nat} {cs : List Value} {d : DataW H} {p : List MemPlace} (h : DataW.trod enc Try.prog W 0 (fun _ => true) true fuel 85 cs = some (d, p))
    (hs : ∀ n ∈ d.weights Try.prog 85, n ≤ reachBytes) :
    ∃ (x : KeptD), cs = keptCells x ∧ x.text.size ≤ 140737488351232 := by
  obtain ⟨xs, k, _, hxy, hcl, hxl, hf⟩ := DataW.trod_struct Try.underlying85 h
  rw [Try.scellsKept] at hcl
  match xs, hxl, cs, hcl with
  | [y0, y1], _, [v0, v1, v2, v3], _ =>
    have g0 := hf 0 _ rfl
    have g1 := hf 1 _ rfl
    simp [Try.scellsInt, Try.scellsReply] at g0 g1
    obtain ⟨n0, e0, _, f0⟩ := DataW.trod_int Try.underlying3 g0
    have hd : d = .agg [y0.1, y1.1] := by
      have := (Prod.mk.injEq _ _ _ _ ▸ hxy).1
      simpa using this
    subst hd
    obtain ⟨c, n, t, e1, h4⟩ := open_reply g1 (fun n hn => hs n (by
      simp [DataW.weights, Try.underlying85, DataW.weightsEach, hn]))
    simp only [List.cons.injEq, and_true] at e0 e1
    obtain ⟨rfl, rfl, rfl⟩ := e1
    subst e0
    exact ⟨⟨n0, c, n, t⟩, rfl, h4.2.2⟩

set_option maxRecDepth 100000 in
theorem open_keptsR {fuel : Nat} {v : Value} {d : DataW H} {p : List MemPlace} (hf' : DataW.trod enc Try.prog W 0 (fun _ => true) true fuel 79 [v] = some (d, p))
    (hs : ∀ n ∈ d.weights Try.prog 79, n ≤ reachBytes) : ∃ ls, KeptsR W W.heap.size v ls := by
  rcases open_slice Try.underlying79 hf' with ⟨hcs, hx⟩ | ⟨a, len, cap, m, n, D, Pl, hcs, _, hl, hm, hmm, hx, hel⟩
  · simp only [List.cons.injEq, and_true] at hcs
    rw [hcs]
    exact ⟨[], KeptsR.nil _ _⟩
  · simp only [List.cons.injEq, and_true] at hcs
    rw [hcs]
    simp only [if_true] at hmm
    subst hmm
    have hd := (Prod.mk.injEq _ _ _ _ ▸ hx).1
    rw [Try.scellsKept] at hel
    have hwt : ∀ i, i < len → ∀ k ∈ (D i).weights Try.prog 85, k ≤ reachBytes := fun i hi k hk => hs k (by
      rw [hd]
      simp only [DataW.weights, Try.underlying79, List.mem_cons, List.mem_append]
      exact Or.inr (Or.inl (g_weightsAll_mem (List.mem_map.2 ⟨i, List.mem_range.2 hi, rfl⟩) k hk)))
    have hsz : len * 40 ≤ 140737488351232 := by
      have := hs ((len + (m - len)) * 40) (by
        rw [hd]
        simp [DataW.weights, Try.underlying79, Try.sbytesKept])
      unfold reachBytes at this
      omega
    haveI : Inhabited KeptD := ⟨⟨0, 0, 0, ⟨#[]⟩⟩⟩
    obtain ⟨q, hq⟩ := choose_lt (α := KeptD) (n := len) (p := fun i z => W.cells? 0 (a.add (i * 4)) 4 = some (keptCells z) ∧ z.text.size ≤ 140737488351232)
      (fun i hi => by
        obtain ⟨cs, h1, h2⟩ := hel i (by omega)
        obtain ⟨x, rfl, h3⟩ := open_kept h2 (hwt i hi)
        exact ⟨x, h1, h3⟩)
    have hlen : ((List.range len).map fun i => q i).length = len := by simp
    refine ⟨(List.range len).map fun i => q i, some a, m, by rw [hlen], by omega, by omega, (by intro h; cases h), fun hp => ?_⟩
    rw [hlen] at hp
    obtain ⟨b, off, spot⟩ := a
    have hcell : ∀ i, i < len → ∀ j, j < 4 → W.cell? ((⟨b, off, spot⟩ : Addr).add (i * 4 + j)) = (keptCells (q i))[j]? := fun i hi j hj => by
      obtain ⟨_, _, hc⟩ := World.cells?_some (hq i hi).1
      have := hc j hj
      rwa [add_add] at this
    have h0 := hcell 0 hp 0 (by omega)
    have hspot : spot = none := by simpa [Addr.add] using World.cell?_spot h0
    subst hspot
    refine ⟨b, off, rfl, World.block_lt_of_cell? W _ h0, fun i x hx => ?_⟩
    have hi : i < len := by have := (List.getElem?_eq_some_iff.1 hx).1; simpa using this
    have ex : q i = x := by
      rw [List.getElem?_map, List.getElem?_range hi] at hx
      simpa using hx
    have c0 := hcell i hi 0 (by omega)
    have c1 := hcell i hi 1 (by omega)
    have c2 := hcell i hi 2 (by omega)
    have c3 := hcell i hi 3 (by omega)
    rw [add_plain] at c0 c1 c2 c3
    subst ex
    exact ⟨by simpa [keptCells] using c0, by simpa [keptCells, Nat.add_assoc] using c1, by simpa [keptCells, Nat.add_assoc] using c2, by simpa [keptCells, Nat.add_assoc] using c3, (hq i hi).2, trivial⟩

set_option maxRecDepth 100000 in
theorem open_sess {fuel : Nat} {cs : List Value} {d : DataW H} {p : List MemPlace} (h : DataW.trod enc Try.prog W 0 (fun _ => true) true fuel 81 cs = some (d, p))
    (hs : ∀ n ∈ d.weights Try.prog 81, n ≤ reachBytes) :
    ∃ (x : SessD) (lv : Value), cs = [.int .i64 x.client, .int .i64 x.id, .int .i64 x.acked, .int .i64 x.last, lv] ∧ KeptsR W W.heap.size lv x.replies := by
  obtain ⟨xs, k, _, hxy, hcl, hxl, hf⟩ := DataW.trod_struct Try.underlying81 h
  rw [Try.scellsSess] at hcl
  match xs, hxl, cs, hcl with
  | [y0, y1, y2, y3, y4], _, [v0, v1, v2, v3, v4], _ =>
    have g0 := hf 0 _ rfl
    have g1 := hf 1 _ rfl
    have g2 := hf 2 _ rfl
    have g3 := hf 3 _ rfl
    have g4 := hf 4 _ rfl
    simp [Try.scellsInt, Try.scellsKepts] at g0 g1 g2 g3 g4
    obtain ⟨n0, e0, f0, _⟩ := DataW.trod_int Try.underlying3 g0
    obtain ⟨n1, e1, f1, _⟩ := DataW.trod_int Try.underlying3 g1
    obtain ⟨n2, e2, f2, _⟩ := DataW.trod_int Try.underlying3 g2
    obtain ⟨n3, e3, f3, _⟩ := DataW.trod_int Try.underlying3 g3
    simp only [List.cons.injEq, and_true] at e0 e1 e2 e3
    subst e0 e1 e2 e3
    have hd : d = .agg [y0.1, y1.1, y2.1, y3.1, y4.1] := by
      have := (Prod.mk.injEq _ _ _ _ ▸ hxy).1
      simpa using this
    subst hd
    obtain ⟨ks, hk⟩ := open_keptsR (d := y4.1) (p := y4.2) g4 (fun n hn => hs n (by
      simp [DataW.weights, Try.underlying81, DataW.weightsEach, hn]))
    exact ⟨⟨n0, n1, n2, n3, ks⟩, v4, rfl, hk⟩

set_option maxRecDepth 100000 in
/-- AN ARGUMENT OF SESSIONS: it reads as plain data. -/
theorem open_sessR {v : Value} {d : DataW H} {p : List MemPlace} (h : DataW.Trod enc Try.prog W 0 (fun _ => true) true 36 v d p) (hok : ∃ a len cap, v = .slice a len cap)
    (hs : ∀ n ∈ d.weights Try.prog 36, n ≤ reachBytes) : ∃ ls, SessR W W.heap.size v ls := by
  obtain ⟨fuel, hf⟩ := h
  obtain ⟨a0, len0, cap0, rfl⟩ := hok
  have hf' : DataW.trod enc Try.prog W 0 (fun _ => true) true fuel 36 [.slice a0 len0 cap0] = some (d, p) := by simpa [Value.cells] using hf
  rcases open_slice Try.underlying36 hf' with ⟨hcs, hx⟩ | ⟨a, len, cap, m, n, D, Pl, hcs, _, hl, hm, hmm, hx, hel⟩
  · simp only [List.cons.injEq, and_true] at hcs
    rw [hcs]
    exact ⟨[], SessR.nil _ _⟩
  · simp only [List.cons.injEq, and_true] at hcs
    rw [hcs]
    simp only [if_true] at hmm
    subst hmm
    have hd := (Prod.mk.injEq _ _ _ _ ▸ hx).1
    rw [Try.scellsSess] at hel
    have hwt : ∀ i, i < len → ∀ k ∈ (D i).weights Try.prog 81, k ≤ reachBytes := fun i hi k hk => hs k (by
      rw [hd]
      simp only [DataW.weights, Try.underlying36, List.mem_cons, List.mem_append]
      exact Or.inr (Or.inl (g_weightsAll_mem (List.mem_map.2 ⟨i, List.mem_range.2 hi, rfl⟩) k hk)))
    have hsz : len * 56 ≤ 140737488351232 := by
      have := hs ((len + (m - len)) * 56) (by
        rw [hd]
        simp [DataW.weights, Try.underlying36, Try.sbytesSess])
      unfold reachBytes at this
      omega
    haveI : Inhabited (SessD × Value) := ⟨(⟨0, 0, 0, 0, []⟩, .slice none 0 0)⟩
    obtain ⟨q, hq⟩ := choose_lt (α := SessD × Value) (n := len) (p := fun i z => W.cells? 0 (a.add (i * 5)) 5 = some [.int .i64 z.1.client, .int .i64 z.1.id, .int .i64 z.1.acked, .int .i64 z.1.last, z.2] ∧ KeptsR W W.heap.size z.2 z.1.replies)
      (fun i hi => by
        obtain ⟨cs, h1, h2⟩ := hel i (by omega)
        obtain ⟨x, lv, rfl, h3⟩ := open_sess h2 (hwt i hi)
        exact ⟨(x, lv), h1, h3⟩)
    have hlen : ((List.range len).map fun i => (q i).1).length = len := by simp
    refine ⟨(List.range len).map fun i => (q i).1, some a, m, by rw [hlen], by omega, by omega, (by intro h; cases h), fun hp => ?_⟩
    rw [hlen] at hp
    obtain ⟨b, off, spot⟩ := a
    have hcell : ∀ i, i < len → ∀ j, j < 5 → W.cell? ((⟨b, off, spot⟩ : Addr).add (i * 5 + j)) = [Value.int .i64 (q i).1.client, .int .i64 (q i).1.id, .int .i64 (q i).1.acked, .int .i64 (q i).1.last, (q i).2][j]? := fun i hi j hj => by
      obtain ⟨_, _, hc⟩ := World.cells?_some (hq i hi).1
      have := hc j hj
      rwa [add_add] at this
    have h0 := hcell 0 hp 0 (by omega)
    have hspot : spot = none := by simpa [Addr.add] using World.cell?_spot h0
    subst hspot
    refine ⟨b, off, rfl, World.block_lt_of_cell? W _ h0, fun i x hx => ?_⟩
    have hi : i < len := by have := (List.getElem?_eq_some_iff.1 hx).1; simpa using this
    have ex : (q i).1 = x := by
      rw [List.getElem?_map, List.getElem?_range hi] at hx
      simpa using hx
    have c0 := hcell i hi 0 (by omega)
    have c1 := hcell i hi 1 (by omega)
    have c2 := hcell i hi 2 (by omega)
    have c3 := hcell i hi 3 (by omega)
    have c4 := hcell i hi 4 (by omega)
    rw [add_plain] at c0 c1 c2 c3 c4
    subst ex
    exact ⟨(q i).2, by simpa using c0, by simpa [Nat.add_assoc] using c1, by simpa [Nat.add_assoc] using c2, by simpa [Nat.add_assoc] using c3, by simpa [Nat.add_assoc] using c4, (hq i hi).2, trivial⟩

end

end Go.Proofs.Ytbmfahgekcnkaai

namespace Go.Proofs.Ytbmfahgekcnkaai

open Go.ChangeShapes Go.WideShapes Go.ChangeAt Go.RowKit Go.Deep

theorem Try.cellsState : Try.prog.cellsOf 38 = 4 := by kernel_rfl

theorem Try.cellsLocks : Try.prog.cellsOf 34 = 1 := by kernel_rfl

theorem Try.cellsPairs : Try.prog.cellsOf 35 = 1 := by kernel_rfl

theorem Try.cellsSessions : Try.prog.cellsOf 36 = 1 := by kernel_rfl

section

variable {H : Type} {enc : TypeId × Value → H} {W : World}

theorem slice_of_trod {fuel : Nat} {s e : TypeId} {v : Value} {d : DataW H} {p : List MemPlace} (hu : Try.prog.underlying s = some (.slice e)) (h : DataW.trod enc Try.prog W 0 (fun _ => true) true fuel s [v] = some (d, p)) :
    (∃ a len cap, v = .slice a len cap) ∧ DataW.Trod enc Try.prog W 0 (fun _ => true) true s v d p := by
  have hv : ∃ a len cap, v = .slice a len cap := by
    rcases open_slice hu h with ⟨hcs, _⟩ | ⟨a, len, cap, m, n, D, Pl, hcs, _⟩
    all_goals
      simp only [List.cons.injEq, and_true] at hcs
      exact ⟨_, _, _, hcs⟩
  refine ⟨hv, fuel, ?_⟩
  obtain ⟨a, len, cap, rfl⟩ := hv
  simpa [Value.cells] using h

set_option maxRecDepth 100000 in
theorem open_state {fuel : Nat} {cs : List Value} {d : DataW H} {p : List MemPlace} (h : DataW.trod enc Try.prog W 0 (fun _ => true) true fuel 38 cs = some (d, p))
    (hs : ∀ n ∈ d.weights Try.prog 38, n ≤ reachBytes) :
    ∃ (s : StateD) (lv pv sv : Value), cs = [.int .i64 s.index, lv, pv, sv] ∧ LocksR W W.heap.size lv s.locks ∧ PairsR W W.heap.size pv s.pairs ∧ SessR W W.heap.size sv s.sess ∧ (-9223372036854775808 ≤ s.index ∧ s.index ≤ 9223372036854775807) := by
  obtain ⟨xs, k, _, hxy, hcl, hxl, hf⟩ := DataW.trod_struct Try.underlying38 h
  rw [Try.cellsState] at hcl
  match xs, hxl, cs, hcl with
  | [y0, y1, y2, y3], _, [v0, v1, v2, v3], _ =>
    have g0 := hf 0 _ rfl
    have g1 := hf 1 _ rfl
    have g2 := hf 2 _ rfl
    have g3 := hf 3 _ rfl
    simp [Try.scellsInt, Try.cellsLocks, Try.cellsPairs, Try.cellsSessions] at g0 g1 g2 g3
    obtain ⟨n0, e0, _, f0⟩ := DataW.trod_int Try.underlying3 g0
    simp only [List.cons.injEq, and_true] at e0
    subst e0
    have hd : d = .agg [y0.1, y1.1, y2.1, y3.1] := by
      have := (Prod.mk.injEq _ _ _ _ ▸ hxy).1
      simpa using this
    subst hd
    obtain ⟨s1, t1⟩ := slice_of_trod (d := y1.1) (p := y1.2) Try.underlying34 g1
    obtain ⟨s2, t2⟩ := slice_of_trod (d := y2.1) (p := y2.2) Try.underlying35 g2
    obtain ⟨s3, t3⟩ := slice_of_trod (d := y3.1) (p := y3.2) Try.underlying36 g3
    obtain ⟨ls, H1⟩ := open_locksR t1 s1 (fun n hn => hs n (by
      simp [DataW.weights, Try.underlying38, DataW.weightsEach]; exact Or.inr (Or.inl hn)))
    obtain ⟨ps, H2⟩ := open_pairsR t2 s2 (fun n hn => hs n (by
      simp [DataW.weights, Try.underlying38, DataW.weightsEach]; exact Or.inr (Or.inr (Or.inl hn))))
    obtain ⟨ss, H3⟩ := open_sessR t3 s3 (fun n hn => hs n (by
      simp [DataW.weights, Try.underlying38, DataW.weightsEach]; exact Or.inr (Or.inr (Or.inr hn))))
    exact ⟨⟨n0, ls, ps, ss⟩, v1, v2, v3, rfl, H1, H2, H3, bounds_i64 f0⟩

end

end Go.Proofs.Ytbmfahgekcnkaai
