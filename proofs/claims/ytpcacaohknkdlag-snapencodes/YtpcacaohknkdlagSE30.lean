/- The strings.Builder that lies in package snap's writer: a text is put behind what it has; all of it is told; package snap's writer: numbers and texts are put behind what it has (joined by program) -/
import Derived.Test.YtpcacaohknkdlagSE29
import Derived.Test.YtpcacaohknkdlagSE01
import Derived.Test.YtpcacaohknkdlagSE23
import Derived.Test.YtpcacaohknkdlagSE21
namespace Go.Proofs.Ytpcacaohknkdlag

open Go.RowKit Go.Shelf

/-- The writer at block b has these bytes. -/
def WrB (B b : Nat) (l : List UInt8) (w : World) : Prop := Lib.IsBuilderF 48 5 B b (Lib.byteCells l) w

theorem WrB.below {B b : Nat} {l : List UInt8} {w w' : World} (h : WrB B b l w) (hb : Below w.heap.size w w') : WrB B b l w' := by
  rcases h with h | h
  · exact Or.inl (BuilderAtF_below h hb)
  · exact Or.inr (BuilderAtF_below h hb)

theorem WrB.lt {B b : Nat} {l : List UInt8} {w : World} (h : WrB B b l w) : B ≤ b ∧ b < w.heap.size := by
  rcases h with h | h
  · exact ⟨h.1, h.lt⟩
  · exact ⟨h.1, h.lt⟩

theorem wrLies : liesAt Try.prog Try.prog.depth 48 (2 / Try.prog.cellsOf 48) 0 46 1 = true := by kernel_rfl

theorem wrCheck_used (b : Nat) (w : World) (h0 : w.cell? ⟨b, 0, none⟩ = some (.pointer (some ⟨b, 0, none⟩))) :
    Calls Try.prog 86 #[.pointer (some ⟨b, 0, none⟩)] w fun e w' => e = .returned (.tuple #[]) ∧ w' = w :=
  Any.Builder_copyCheck_used { buildLays166 with } buildExtra.toX72 b w h0

set_option maxHeartbeats 1000000 in
set_option maxRecDepth 100000 in
theorem wrCheck_fresh (b : Nat) (w : World) (h0 : w.cell? ⟨b, 0, none⟩ = some (.pointer none)) (hsh : w.shape? b = some (48, 2)) (hfz : w.frozen? ⟨b, 0, none⟩ = false) :
    Calls Try.prog 86 #[.pointer (some ⟨b, 0, none⟩)] w fun e w' => e = .returned (.tuple #[]) ∧ w' = w.setCell ⟨b, 0, none⟩ (.pointer (some ⟨b, 0, none⟩)) := by
  obtain ⟨j, hj, hjs⟩ := Option.map_eq_some_iff.1 buildExtra.sizeBuilder
  go_enter Try.func86, Try.ntmps86
  go_wp2
  rw [Lib.run_to_unsafe w ⟨b, 0, none⟩ Try.underlying43 Try.underlying125 hj (by rw [hjs]; decide) hsh (Nat.zero_lt_succ 1)]
  simp only [Result.andThen]
  rw [Oper.upon_value]
  go_wp2
  rw [run_callFunc_extern Try.func92 (by kernel_rfl) (by kernel_rfl) (by kernel_rfl) (e := Extern.AbiNoEscape.same) (by kernel_rfl)]
  rw [Lib.run_noEscape]
  simp only [Result.andThen]
  rw [Oper.upon_value]
  go_wp2
  rw [Lib.run_from_unsafe w ⟨b, 0, none⟩ Try.underlying125 Try.underlying43 hj hsh wrLies]
  simp only [Result.andThen]
  rw [Oper.upon_value]
  go_wp2
  go_end0
  exact ⟨rfl, rfl⟩

theorem wrCheck_any (B b : Nat) (bs : List Value) (w : World) (h : Lib.IsBuilderF 48 5 B b bs w) :
    Calls Try.prog 86 #[.pointer (some ⟨b, 0, none⟩)] w fun e w' => e = .returned (.tuple #[]) ∧ (Lib.BuilderAtF 48 5 B b (.pointer (some ⟨b, 0, none⟩)) bs w' ∧ Below B w w' ∧ Lib.OthersKept 5 (some b) w w') := by
  rcases h with h | h
  · refine (wrCheck_fresh b w h.cell0 h.shape h.frozen0).mono ?_
    rintro e w' ⟨rfl, rfl⟩
    exact ⟨rfl, h.used _, (Below.refl B w).setCell (p := ⟨b, 0, none⟩) h.1 _, (Lib.OthersKept.refl _ _ w).setCell ⟨b, 0, none⟩ rfl _⟩
  · refine (wrCheck_used b w h.cell0).mono ?_
    rintro e w' ⟨rfl, rfl⟩
    exact ⟨rfl, h, Below.refl B _, Lib.OthersKept.refl _ _ _⟩

set_option maxHeartbeats 2000000 in
set_option maxRecDepth 100000 in
theorem wrWrite_any (B b : Nat) (l : List UInt8) (s : ByteArray) (w : World) (h : WrB B b l w) (hlen : l.length + s.size ≤ 140737488355328) (hBw : B ≤ w.heap.size) :
    Calls Try.prog 68 #[.pointer (some ⟨b, 0, none⟩), .string s] w fun e w' => e = .returned (.tuple #[.int .i64 s.size, .nilIface]) ∧ WrB B b (l ++ s.data.toList) w' ∧ Below B w w' ∧ Lib.OthersKept 5 (some b) w w' := by
  obtain ⟨i0, hi, hz0, hz1, hz2⟩ := info_parts buildExtra.infoByte
  have hl : (Lib.byteCells l).length = l.length := Lib.byteCells_length l
  have hlen' : (Lib.byteCells l).length + s.size ≤ 140737488355328 := by omega
  unfold WrB at h ⊢
  rw [Lib.byteCells_append]
  have e0 : Lib.byteCells s.data.toList = Lib.strCells s := rfl
  rw [e0]
  obtain ⟨bs, hbs⟩ : ∃ bs, bs = Lib.byteCells l := ⟨_, rfl⟩
  rw [← hbs] at h hlen' ⊢
  have CK := ghid (wrCheck_any B b bs w h)
  clear hl hbs h
  go_enter Try.func68, Try.ntmps68
  go_wp2_with fail
  refine CK.out.mono ?_
  rintro e w1 ⟨rfl, h1, hb1, hk1⟩
  obtain ⟨hB, v, hbk, hown, hne⟩ := h1
  have c0 : w1.cell? ⟨b, 0, none⟩ = some (.pointer (some ⟨b, 0, none⟩)) := by rw [Lib.cell_of_heap hbk]; rfl
  have c1 : w1.cell? ⟨b, 1, none⟩ = some v := by rw [Lib.cell_of_heap hbk]; rfl
  go_wp2_with (at_builtin; refine Lib.wpList_append_own_stringF _ rfl _ _ 44 9 rfl B 5 i0 Try.underlying44 Try.underlying9 hi hz0 hz1 hz2 _ _ _ rfl hown s rfl ?c3 ?c4 ?c5 ?_)
  case c3 => unfold maxLen; omega
  case c4 => omega
  case c5 => have := hb1.size; omega
  intro v' w2 hown' hgrow _
  have hlt : b < w1.heap.size := (Array.getElem?_eq_some_iff.1 hbk).1
  have hb2 : w2.heap[b]? = some (.cells #[.pointer (some ⟨b, 0, none⟩), v] 48 (0, 0)) := by
    rw [hgrow.block b hlt (fun e => hne e.symm)]
    exact hbk
  have d0 : w2.cell? ⟨b, 0, none⟩ = some (.pointer (some ⟨b, 0, none⟩)) := by rw [Lib.cell_of_heap hb2]; rfl
  have d1 : w2.cell? ⟨b, 1, none⟩ = some v := by rw [Lib.cell_of_heap hb2]; rfl
  have f1 : w2.frozen? ⟨b, 1, none⟩ = false := Lib.frozen_of_heap hb2 1
  obtain ⟨ao, n', cap, rfl⟩ : ∃ ao n' cap, v' = .slice ao n' cap := by
    rcases hown'.2 with ⟨hv, _⟩ | ⟨g, cap, cur, fz, hv, _⟩
    · exact ⟨_, _, _, hv⟩
    · exact ⟨_, _, _, hv⟩
  go_wp2
  go_ret2
  refine ⟨rfl, Or.inr ?_, ?_, (hk1.grown hgrow (Lib.ownsRowF_kind hown)).setCell ⟨b, 1, none⟩ rfl _⟩
  · exact Lib.BuilderAtF.put (T := 48) (e := 5) hB hb2 (bs' := bs ++ Lib.strCells s) (by simpa [Lib.strCells_length] using hown') (by decide)
  · exact (hb1.grown hgrow (by have := hb1.size; omega) (fun k hk => (hown.lt k hk).1)).setCell (p := ⟨b, 1, none⟩) hB _

set_option maxHeartbeats 2000000 in
set_option maxRecDepth 100000 in
theorem wrString_any (B b : Nat) (l : List UInt8) (w : World) (h : WrB B b l w) (h0 : l ≠ []) :
    Calls Try.prog 20 #[.pointer (some ⟨b, 0, none⟩)] w fun e w' => e = .returned (.string ⟨l.toArray⟩) ∧ Below B w w' ∧ Lib.OthersKept 5 (some b) w w' := by
  obtain ⟨p, hAt⟩ : ∃ p, Lib.BuilderAtF 48 5 B b p (Lib.byteCells l) w := by
    rcases h with h | h
    · exact ⟨_, h⟩
    · exact ⟨_, h⟩
  obtain ⟨hB, v, hbk, hown, hne⟩ := hAt
  have hl0 : l.length ≠ 0 := by simpa using h0
  rw [Lib.byteCells_length] at hown
  obtain ⟨g, cap, cur, fz, rfl, hbg, hg, hfz, hnc, hcm, hcs, htake⟩ : ∃ g cap cur fz, v = .slice (some ⟨g, 0, none⟩) l.length cap ∧ B ≤ g ∧ w.heap[g]? = some (.cells cur 5 fz) ∧ fz.2 ≤ l.length * 1 ∧ l.length ≤ cap ∧ cap ≤ maxLen ∧ cur.size = cap * 1 ∧ cur.toList.take (l.length * 1) = Lib.byteCells l := by
    rcases hown.2 with ⟨_, hz⟩ | ⟨g, cap, cur, fz, hv, r⟩
    · exact absurd hz hl0
    · exact ⟨g, cap, cur, fz, hv, r⟩
  have c1 : w.drew.cell? ⟨b, 1, none⟩ = some (.slice (some ⟨g, 0, none⟩) l.length cap) := by
    have : w.drew.heap[b]? = some (.cells #[p, .slice (some ⟨g, 0, none⟩) l.length cap] 48 (0, 0)) := hbk
    rw [Lib.cell_of_heap this]; rfl
  have hSD := Lib.run_unsafeSliceData_row (P := Try.prog) w.drew #[44] 89 ⟨g, 0, none⟩ l.length cap (by omega)
  have hUS := Lib.run_unsafeString_row (P := Try.prog) w.drew 89 3 9 5 Try.underlying89 buildExtra.cellsByte g cur.size (by have hg' : w.drew.heap[g]? = some (.cells cur 5 fz) := hg; simp [World.shape?, hg']) l h0 (by omega) (by unfold maxLen at hcm; omega) (fun j x hx => hown.cells (g := g) rfl j (.int .u8 x.toNat) (by simp [Lib.byteCells, hx]))
  have mixed : Try.prog.follows .mixedOrders = true := buildLays169.mixed
  go_enter Try.func20, Try.ntmps20
  go_wp2
  go_region_o
  all_goals (go_wp2; go_ret; exact ⟨rfl, Lib.below_freeze (Below.drew (Below.refl B w)) (p := ⟨g, 0, none⟩) hbg _, ((Lib.OthersKept.refl _ _ w).drew).freeze ⟨g, 0, none⟩ _ ⟨cur, fz, hg⟩⟩)

end Go.Proofs.Ytpcacaohknkdlag

namespace Go.Proofs.Ytpcacaohknkdlag

open Go.RowKit

/-- The writer at block b has the text t. -/
def WrT (B b : Nat) (t : ByteArray) (w : World) : Prop := WrB B b t.data.toList w

/-- Behind a call, the writer has t; what else stood stands. -/
structure WrS (B b : Nat) (t : ByteArray) (w w' : World) : Prop where
  has : WrT B b t w'
  below : Below B w w'
  kept : Lib.OthersKept 5 (some b) w w'

theorem kept_of_below {b : Option Nat} {e : TypeId} {w w' : World} (h : Below w.heap.size w w') : Lib.OthersKept e b w w' := by
  intro k o hk _ _
  exact (h.block k (Array.getElem?_eq_some_iff.1 hk).1).trans hk

theorem WrS.refl {B b : Nat} {t : ByteArray} {w : World} (h : WrT B b t w) : WrS B b t w w := ⟨h, Below.refl _ _, Lib.OthersKept.refl _ _ _⟩

theorem WrS.trans {B b : Nat} {t u : ByteArray} {w w1 w2 : World} (h : WrS B b t w w1) (k : WrS B b u w1 w2) : WrS B b u w w2 := ⟨k.has, h.below.trans k.below, h.kept.trans k.kept⟩

theorem WrS.more {B b : Nat} {t : ByteArray} {w w1 w2 : World} (h : WrS B b t w w1) (k : Below w1.heap.size w1 w2) (hB : B ≤ w1.heap.size) : WrS B b t w w2 :=
  ⟨WrB.below h.has k, h.below.trans (k.mono hB), h.kept.trans (kept_of_below k)⟩

theorem WrS.row {B b : Nat} {t : ByteArray} {w w' : World} (h : WrS B b t w w') {g : Nat} {cs : Array Value} {ty : TypeId} (hg : w.heap[g]? = some (.cells cs ty (0, 0))) (hne : g ≠ b) (ht : ty ≠ 5) : w'.heap[g]? = some (.cells cs ty (0, 0)) :=
  kept_row h.kept hg hne ht

theorem WrT.lt {B b : Nat} {t : ByteArray} {w : World} (h : WrT B b t w) : B ≤ b ∧ b < w.heap.size := WrB.lt h

set_option maxHeartbeats 800000 in
theorem wrNumber_any (B b : Nat) (t : ByteArray) (n : Int) (w : World) (h : WrT B b t w) (h0 : 0 ≤ n) (h1 : n ≤ 1099511627776) (ht : t.size ≤ 1000000000) :
    Calls Try.prog 39 #[.pointer (some ⟨b, 0, none⟩), .int .i64 n] w fun e w' => e = .returned (.tuple #[]) ∧ WrS B b (t ++ numOut n) w w' := by
  have hlt := h.lt
  have hsn := numOut_le n
  have CN : Hid (∀ w, Calls Try.prog 67 #[.int .i64 n] w fun e w' => e = .returned (.tuple #[.string (numOut n), .int .i64 0]) ∧ Below w.heap.size w w') := fun w => number_ok n w h0 h1
  obtain ⟨s, hs⟩ : ∃ s, s = numOut n := ⟨_, rfl⟩
  rw [← hs] at CN hsn ⊢
  have HT := ghid h
  have hts : t.data.toList.length = t.size := by simp
  have HTS := ghid hts
  clear hs h h0 h1 hts
  go_enter Try.func39, Try.ntmps39
  go_wp2_with fail
  refine (CN.out _).mono ?_
  rintro e w1 ⟨rfl, hb1⟩
  have hz1 := hb1.size
  have CW := ghid (wrWrite_any B b t.data.toList s w1 (WrB.below HT.out hb1) (by have := HTS.out; omega) (by omega))
  have HS1 := ghid ((WrS.refl HT.out).more hb1 (by omega))
  clear hb1
  go_wp2_with fail
  refine CW.out.mono ?_
  rintro e w2 ⟨rfl, h2, hb2, hk2⟩
  have HS2 : Hid (WrS B b (t ++ s) w w2) := HS1.out.trans ⟨by unfold WrT; simpa using h2, hb2, hk2⟩
  clear h2 hb2 hk2
  go_wp2
  go_end0
  exact ⟨rfl, HS2.out⟩

set_option maxHeartbeats 800000 in
theorem wrText_any (B b : Nat) (t : ByteArray) (x : ByteArray) (w : World) (h : WrT B b t w) (h0 : x.size ≤ 5000) (ht : t.size ≤ 1000000000) :
    Calls Try.prog 69 #[.pointer (some ⟨b, 0, none⟩), .string x] w fun e w' => e = .returned (.tuple #[]) ∧ WrS B b (t ++ textOut x) w w' := by
  have hlt := h.lt
  have hsn := textOut_size x
  have CN : Hid (∀ w, Calls Try.prog 87 #[.string x] w fun e w' => e = .returned (.tuple #[.string (textOut x), .int .i64 0]) ∧ Below w.heap.size w w') := fun w => text_ok x w h0
  obtain ⟨s, hs⟩ : ∃ s, s = textOut x := ⟨_, rfl⟩
  rw [← hs] at CN hsn ⊢
  have HT := ghid h
  have hts : t.data.toList.length = t.size := by simp
  have HTS := ghid hts
  clear hs h hts
  go_enter Try.func69, Try.ntmps69
  go_wp2_with fail
  refine (CN.out _).mono ?_
  rintro e w1 ⟨rfl, hb1⟩
  have hz1 := hb1.size
  have CW := ghid (wrWrite_any B b t.data.toList s w1 (WrB.below HT.out hb1) (by have := HTS.out; omega) (by omega))
  have HS1 := ghid ((WrS.refl HT.out).more hb1 (by omega))
  clear hb1
  go_wp2_with fail
  refine CW.out.mono ?_
  rintro e w2 ⟨rfl, h2, hb2, hk2⟩
  have HS2 : Hid (WrS B b (t ++ s) w w2) := HS1.out.trans ⟨by unfold WrT; simpa using h2, hb2, hk2⟩
  clear h2 hb2 hk2
  go_wp2
  go_end0
  exact ⟨rfl, HS2.out⟩

end Go.Proofs.Ytpcacaohknkdlag
