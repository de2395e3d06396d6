/- From the form's reading of an argument to texts, and to a log, as plain data; From the form's reading of an argument to a replica as plain data (joined by program) -/
import Derived.Deep.Slices
import Derived.SizedLaws
import Derived.Carry
import Derived.OpenShut
import Derived.Test.YtbmfahgekcnkaaiRC03
import Derived.Test.YtbmfahgekcnkaaiRC08
import Derived.Test.YtbmfahgekcnkaaiRC10
namespace Go.Proofs.Ytbmfahgekcnkaai

open Go.ChangeShapes Go.WideShapes Go.ChangeAt Go.RowKit Go.Deep

theorem Try.tcellsInt : Try.prog.cellsOf 3 = 1 := by kernel_rfl

theorem Try.tcellsString : Try.prog.cellsOf 9 = 1 := by kernel_rfl

theorem Try.tcellsTexts : Try.prog.cellsOf 22 = 1 := by kernel_rfl

theorem Try.cellsLog : Try.prog.cellsOf 24 = 2 := by kernel_rfl

theorem Try.bytesText : Try.prog.bytesOf 9 = 16 := by kernel_rfl

section

variable {H : Type} {enc : TypeId × Value → H} {W : World}

set_option maxRecDepth 100000 in
theorem open_text1 {fuel : Nat} {cs : List Value} {d : DataW H} {p : List MemPlace} (h : DataW.trod enc Try.prog W 0 (fun _ => true) true fuel 9 cs = some (d, p))
    (hs : ∀ n ∈ d.weights Try.prog 9, n ≤ reachBytes) : ∃ (x : ByteArray), cs = [.string x] ∧ x.size ≤ 140737488351232 := by
  obtain ⟨s, e0, f0, _⟩ := DataW.trod_string Try.underlying9 h
  refine ⟨s, e0, ?_⟩
  have fd : d = .lit (.string s.data.toList) := (Prod.mk.injEq _ _ _ _ ▸ f0).1
  have := hs s.size (by rw [fd]; simp [DataW.weights])
  simpa [reachBytes] using this

theorem texts_weightsAll_mem {P : Program} {e : TypeId} : ∀ {ds : List (DataW H)} {d : DataW H}, d ∈ ds → ∀ n ∈ d.weights P e, n ∈ DataW.weightsAll P e ds
  | d0 :: r, d, hd, n, hn => by
    simp only [DataW.weightsAll, List.mem_append]
    rcases List.mem_cons.1 hd with rfl | hd
    · exact Or.inl hn
    · exact Or.inr (texts_weightsAll_mem hd n hn)

set_option maxRecDepth 100000 in
/-- AN ARGUMENT OF TEXTS: it reads as plain data. -/
theorem open_textsR {v : Value} {d : DataW H} {p : List MemPlace} (h : DataW.Trod enc Try.prog W 0 (fun _ => true) true 22 v d p) (hok : ∃ a len cap, v = .slice a len cap)
    (hs : ∀ n ∈ d.weights Try.prog 22, n ≤ reachBytes) : ∃ ls, TextsR W W.heap.size v ls := by
  obtain ⟨fuel, hf⟩ := h
  obtain ⟨a0, len0, cap0, rfl⟩ := hok
  have hf' : DataW.trod enc Try.prog W 0 (fun _ => true) true fuel 22 [.slice a0 len0 cap0] = some (d, p) := by simpa [Value.cells] using hf
  rcases open_slice Try.underlying22 hf' with ⟨hcs, hx⟩ | ⟨a, len, cap, m, n, D, Pl, hcs, _, hl, hm, hmm, hx, hel⟩
  · simp only [List.cons.injEq, and_true] at hcs
    rw [hcs]
    exact ⟨[], TextsR.nil _ _⟩
  · simp only [List.cons.injEq, and_true] at hcs
    rw [hcs]
    simp only [if_true] at hmm
    subst hmm
    have hd := (Prod.mk.injEq _ _ _ _ ▸ hx).1
    rw [Try.tcellsString] at hel
    have hwt : ∀ i, i < len → ∀ k ∈ (D i).weights Try.prog 9, k ≤ reachBytes := fun i hi k hk => hs k (by
      rw [hd]
      simp only [DataW.weights, Try.underlying22, List.mem_cons, List.mem_append]
      exact Or.inr (Or.inl (texts_weightsAll_mem (List.mem_map.2 ⟨i, List.mem_range.2 hi, rfl⟩) k hk)))
    have hsz : len * 16 ≤ 140737488351232 := by
      have := hs ((len + (m - len)) * 16) (by
        rw [hd]
        simp [DataW.weights, Try.underlying22, Try.bytesText])
      unfold reachBytes at this
      omega
    haveI : Inhabited ByteArray := ⟨⟨#[]⟩⟩
    obtain ⟨q, hq⟩ := choose_lt (α := ByteArray) (n := len) (p := fun i z => W.cells? 0 (a.add (i * 1)) 1 = some [.string z] ∧ z.size ≤ 140737488351232)
      (fun i hi => by
        obtain ⟨cs, h1, h2⟩ := hel i (by omega)
        obtain ⟨x, rfl, h3⟩ := open_text1 h2 (hwt i hi)
        exact ⟨x, h1, h3⟩)
    have hlen : ((List.range len).map fun i => q i).length = len := by simp
    refine ⟨(List.range len).map fun i => q i, some a, m, by rw [hlen], by omega, by omega, (by intro h; cases h), fun hp => ?_⟩
    rw [hlen] at hp
    obtain ⟨b, off, spot⟩ := a
    have hcell : ∀ i, i < len → W.cell? ((⟨b, off, spot⟩ : Addr).add (i * 1 + 0)) = [Value.string (q i)][0]? := fun i hi => by
      obtain ⟨_, _, hc⟩ := World.cells?_some (hq i hi).1
      have := hc 0 (by omega)
      rwa [add_add] at this
    have h0 := hcell 0 hp
    have hspot : spot = none := by simpa [Addr.add] using World.cell?_spot h0
    subst hspot
    refine ⟨b, off, rfl, World.block_lt_of_cell? W _ h0, fun i x hx => ?_⟩
    have hi : i < len := by have := (List.getElem?_eq_some_iff.1 hx).1; simpa using this
    have ex : q i = x := by
      rw [List.getElem?_map, List.getElem?_range hi] at hx
      simpa using hx
    have c0 := hcell i hi
    rw [add_plain] at c0
    subst ex
    exact ⟨by simpa using c0, (hq i hi).2⟩

theorem texts_of_trod {fuel : Nat} {s e : TypeId} {v : Value} {d : DataW H} {p : List MemPlace} (hu : Try.prog.underlying s = some (.slice e)) (h : DataW.trod enc Try.prog W 0 (fun _ => true) true fuel s [v] = some (d, p)) :
    (∃ a len cap, v = .slice a len cap) ∧ DataW.Trod enc Try.prog W 0 (fun _ => true) true s v d p := by
  have hv : ∃ a len cap, v = .slice a len cap := by
    rcases open_slice hu h with ⟨hcs, _⟩ | ⟨a, len, cap, m, n, D, Pl, hcs, _⟩
    all_goals
      simp only [List.cons.injEq, and_true] at hcs
      exact ⟨_, _, _, hcs⟩
  refine ⟨hv, fuel, ?_⟩
  obtain ⟨a, len, cap, rfl⟩ := hv
  simpa [Value.cells] using h

set_option maxRecDepth 100000 in
theorem open_log {fuel : Nat} {cs : List Value} {d : DataW H} {p : List MemPlace} (h : DataW.trod enc Try.prog W 0 (fun _ => true) true fuel 24 cs = some (d, p))
    (hs : ∀ n ∈ d.weights Try.prog 24, n ≤ reachBytes) :
    ∃ (l : LogD) (ev : Value), cs = [.int .i64 l.base, ev] ∧ TextsR W W.heap.size ev l.ents ∧ (-9223372036854775808 ≤ l.base ∧ l.base ≤ 9223372036854775807) := by
  obtain ⟨xs, k, _, hxy, hcl, hxl, hf⟩ := DataW.trod_struct Try.underlying24 h
  rw [Try.cellsLog] at hcl
  match xs, hxl, cs, hcl with
  | [y0, y1], _, [v0, v1], _ =>
    have g0 := hf 0 _ rfl
    have g1 := hf 1 _ rfl
    simp [Try.tcellsInt, Try.tcellsTexts] at g0 g1
    obtain ⟨n0, e0, _, f0⟩ := DataW.trod_int Try.underlying3 g0
    simp only [List.cons.injEq, and_true] at e0
    subst e0
    have hd : d = .agg [y0.1, y1.1] := by
      have := (Prod.mk.injEq _ _ _ _ ▸ hxy).1
      simpa using this
    subst hd
    obtain ⟨s1, t1⟩ := texts_of_trod (d := y1.1) (p := y1.2) Try.underlying22 g1
    obtain ⟨ls, H1⟩ := open_textsR t1 s1 (fun n hn => hs n (by
      simp [DataW.weights, Try.underlying24, DataW.weightsEach]; exact Or.inr hn))
    exact ⟨⟨n0, ls⟩, v1, rfl, H1, bounds_i64 f0⟩

end

end Go.Proofs.Ytbmfahgekcnkaai

namespace Go.Proofs.Ytbmfahgekcnkaai

open Go.ChangeShapes Go.WideShapes Go.ChangeAt Go.RowKit Go.Deep

theorem Try.cellsReplica : Try.prog.cellsOf 40 = 7 := by kernel_rfl

section

variable {H : Type} {enc : TypeId × Value → H} {W : World}

set_option maxRecDepth 100000 in
theorem open_rep {fuel : Nat} {cs : List Value} {d : DataW H} {p : List MemPlace} (h : DataW.trod enc Try.prog W 0 (fun _ => true) true fuel 40 cs = some (d, p))
    (hs : ∀ n ∈ d.weights Try.prog 40, n ≤ reachBytes) :
    ∃ (r : RepD) (ev lv pv sv : Value), cs = [.int .i64 r.log.base, ev, .string r.snap, .int .i64 r.state.index, lv, pv, sv] ∧ TextsR W W.heap.size ev r.log.ents ∧ r.snap.size ≤ 140737488351232 ∧ LocksR W W.heap.size lv r.state.locks ∧ PairsR W W.heap.size pv r.state.pairs ∧ SessR W W.heap.size sv r.state.sess := by
  obtain ⟨xs, k, _, hxy, hcl, hxl, hf⟩ := DataW.trod_struct Try.underlying40 h
  rw [Try.cellsReplica] at hcl
  match xs, hxl, cs, hcl with
  | [y0, y1, y2], _, [v0, v1, v2, v3, v4, v5, v6], _ =>
    have g0 := hf 0 _ rfl
    have g1 := hf 1 _ rfl
    have g2 := hf 2 _ rfl
    simp [Try.cellsLog, Try.tcellsString, Try.cellsState] at g0 g1 g2
    have hd : d = .agg [y0.1, y1.1, y2.1] := by
      have := (Prod.mk.injEq _ _ _ _ ▸ hxy).1
      simpa using this
    subst hd
    obtain ⟨l, ev, e1, H1, -⟩ := open_log (d := y0.1) (p := y0.2) g0 (fun n hn => hs n (by
      simp [DataW.weights, Try.underlying40, DataW.weightsEach]; exact Or.inl hn))
    obtain ⟨sp, e2, H2⟩ := open_text1 (d := y1.1) (p := y1.2) g1 (fun n hn => hs n (by
      simp [DataW.weights, Try.underlying40, DataW.weightsEach]; exact Or.inr (Or.inl hn)))
    obtain ⟨s, lv, pv, sv, e3, H3, H4, H5, -⟩ := open_state (d := y2.1) (p := y2.2) g2 (fun n hn => hs n (by
      simp [DataW.weights, Try.underlying40, DataW.weightsEach]; exact Or.inr (Or.inr hn)))
    simp only [List.cons.injEq, and_true] at e1 e2 e3
    obtain ⟨rfl, rfl⟩ := e1
    subst e2
    obtain ⟨rfl, rfl, rfl, rfl⟩ := e3
    exact ⟨⟨l, sp, s⟩, _, _, _, _, rfl, H1, H2, H3, H4, H5⟩

set_option maxRecDepth 100000 in
/-- AN ARGUMENT THAT IS A REPLICA. -/
theorem open_repV {v : Value} {d : DataW H} {p : List MemPlace} (h : DataW.Trod enc Try.prog W 0 (fun _ => true) true 40 v d p) (hok : ∃ cs, v = .agg cs ∧ cs.size = Try.prog.cellsOf 40)
    (hs : ∀ n ∈ d.weights Try.prog 40, n ≤ reachBytes) : ∃ (r : RepD), RepR W W.heap.size v r := by
  obtain ⟨fuel, hf⟩ := h
  obtain ⟨cs, rfl, -⟩ := hok
  have hf' : DataW.trod enc Try.prog W 0 (fun _ => true) true fuel 40 cs.toList = some (d, p) := by simpa [Value.cells] using hf
  obtain ⟨r, ev, lv, pv, sv, e, h1, h2, h3, h4, h5⟩ := open_rep hf' hs
  obtain ⟨eo, ec, rfl⟩ := h1.slice
  obtain ⟨lo, lc, rfl⟩ := h3.slice
  obtain ⟨po, pc, rfl⟩ := h4.slice
  obtain ⟨so, sc, rfl⟩ := h5.slice
  exact ⟨r, _, _, _, _, _, _, _, _, _, _, _, by rw [← Array.toArray_toList (xs := cs), e], h1, h2, h3, h4, h5⟩

end

end Go.Proofs.Ytbmfahgekcnkaai
