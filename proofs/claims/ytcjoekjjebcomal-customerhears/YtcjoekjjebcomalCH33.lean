/- From the form's reading of an argument to a mail as plain data (joined by program) -/
import Derived.Test.YtcjoekjjebcomalCH09
namespace Go.Proofs.Ytcjoekjjebcomal

open Go.ChangeShapes Go.WideShapes Go.ChangeAt Go.RowKit Go.Deep

theorem Try.mcellsErrno : Try.prog.cellsOf 25 = 1 := by kernel_rfl

theorem Try.mcellsReply : Try.prog.cellsOf 27 = 3 := by kernel_rfl

theorem Try.mcellsMail : Try.prog.cellsOf 29 = 5 := by kernel_rfl

section

variable {H : Type} {enc : TypeId × Value → H} {W : World}

set_option maxRecDepth 100000 in
theorem open_mreply {fuel : Nat} {cs : List Value} {d : DataW H} {p : List MemPlace} (h : DataW.trod enc Try.prog W 0 (fun _ => true) true fuel 27 cs = some (d, p))
    (hs : ∀ n ∈ d.weights Try.prog 27, n ≤ reachBytes) :
    ∃ (c n : Int) (t : ByteArray), cs = [.int .i64 c, .int .i64 n, .string t] ∧ FitsC c ∧ FitsC n ∧ ShortC t := by
  obtain ⟨xs, k, _, hxy, hcl, hxl, hf⟩ := DataW.trod_struct Try.underlying27 h
  rw [Try.mcellsReply] at hcl
  match xs, hxl, cs, hcl with
  | [y0, y1, y2], _, [v0, v1, v2], _ =>
    have g0 := hf 0 _ rfl
    have g1 := hf 1 _ rfl
    have g2 := hf 2 _ rfl
    simp [Try.mcellsErrno, Try.ccellsInt, Try.ccellsString] at g0 g1 g2
    obtain ⟨n0, e0, _, f0⟩ := DataW.trod_int Try.underlying25 g0
    obtain ⟨n1, e1, _, f1⟩ := DataW.trod_int Try.underlying3 g1
    obtain ⟨s, e2, f2, _⟩ := DataW.trod_string Try.underlying9 g2
    simp only [List.cons.injEq, and_true] at e0 e1 e2
    subst e0 e1 e2
    have hd : d = .agg [y0.1, y1.1, y2.1] := by
      have := (Prod.mk.injEq _ _ _ _ ▸ hxy).1
      simpa using this
    subst hd
    refine ⟨n0, n1, s, rfl, bounds_i64 f0, bounds_i64 f1, ?_⟩
    have := hs s.size (by
      simp [DataW.weights, Try.underlying27, DataW.weightsEach, f2])
    simpa [ShortC, reachBytes] using this

set_option maxRecDepth 100000 in
/-- AN ARGUMENT THAT IS A MAIL. -/
theorem open_mailV {v : Value} {d : DataW H} {p : List MemPlace} (h : DataW.Trod enc Try.prog W 0 (fun _ => true) true 29 v d p) (hok : ∃ cs, v = .agg cs ∧ cs.size = Try.prog.cellsOf 29)
    (hs : ∀ n ∈ d.weights Try.prog 29, n ≤ reachBytes) :
    ∃ (cl q rc rn : Int) (t : ByteArray), v = .agg #[.int .i64 cl, .int .i64 q, .int .i64 rc, .int .i64 rn, .string t] ∧ FitsC cl ∧ FitsC q ∧ FitsC rc ∧ FitsC rn ∧ ShortC t := by
  obtain ⟨fuel, hf⟩ := h
  obtain ⟨cs, rfl, -⟩ := hok
  have hf' : DataW.trod enc Try.prog W 0 (fun _ => true) true fuel 29 cs.toList = some (d, p) := by simpa [Value.cells] using hf
  clear hf
  obtain ⟨xs, kk, _, hxy, hcl, hxl, hg⟩ := DataW.trod_struct Try.underlying29 hf'
  rw [Try.mcellsMail] at hcl
  clear hf'
  obtain ⟨l, hl⟩ : ∃ l, l = cs.toList := ⟨_, rfl⟩
  rw [← hl] at hcl hg
  have hcs : cs = l.toArray := by rw [hl]
  subst hcs
  clear hl
  match xs, hxl, l, hcl with
  | [y0, y1, y2], _, [v0, v1, v2, v3, v4], _ =>
    have g0 := hg 0 _ rfl
    have g1 := hg 1 _ rfl
    have g2 := hg 2 _ rfl
    simp [Try.ccellsInt, Try.mcellsReply] at g0 g1 g2
    obtain ⟨n0, e0, _, f0⟩ := DataW.trod_int Try.underlying3 g0
    obtain ⟨n1, e1, _, f1⟩ := DataW.trod_int Try.underlying3 g1
    have hd : d = .agg [y0.1, y1.1, y2.1] := by
      have := (Prod.mk.injEq _ _ _ _ ▸ hxy).1
      simpa using this
    subst hd
    obtain ⟨c, n, t, e2, h2⟩ := open_mreply g2 (fun n hn => hs n (by
      simp [DataW.weights, Try.underlying29, DataW.weightsEach, hn]))
    simp only [List.cons.injEq, and_true] at e0 e1 e2
    obtain ⟨rfl, rfl, rfl⟩ := e2
    subst e0 e1
    exact ⟨n0, n1, c, n, t, rfl, bounds_i64 f0, bounds_i64 f1, h2⟩

end

end Go.Proofs.Ytcjoekjjebcomal
