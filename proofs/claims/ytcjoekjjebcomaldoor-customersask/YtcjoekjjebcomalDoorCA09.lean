/- append where there is room, and what lies behind a row's end. It names no program; slices.Delete of one call out of a row of the call's own (joined by program) -/
import Derived.Deep.RegionLaw
import Derived.WalkSpells
import Derived.Laws.OwnMore
import Derived.Test.YtcjoekjjebcomalDoorCA01
import Derived.Test.YtcjoekjjebcomalDoorCA04
namespace Go.Proofs.YtcjoekjjebcomalDoor

open Go.RowKit

section

variable {P : Program}

theorem gwp_append_room {w : World} {o : Oper} {a : Act} {K : Act → World → Prop} {Q : Exit → Act → World → Prop} (s x : Operand) (t : TypeId)
    (ho : o.op = .call { callee := .builtin .append, args := #[s, x], argTypes := #[t, t] })
    (base : Nat) (e : TypeId) (i : TypeInfo) (size : Nat) (ht : P.underlying t = some (.slice e)) (hi : P.info? e = some i) (hsize : i.size = size)
    (g n cap : Nat) (xs : List Value) (hs : a.eval s = .slice (some ⟨g, 0, none⟩) n cap) (hown : w.ownsRow base e size (.slice (some ⟨g, 0, none⟩) n cap) n xs)
    (ad : Addr) (m c : Nat) (news : List Value) (hx : a.eval x = .slice (some ad) m c) (hl : news.length = m * size) (hnews : ∀ j u, news[j]? = some u → w.cell? (ad.add j) = some u) (h1 : ∀ u ∈ news, u.oneCell' = true) (hroom : n + m ≤ cap)
    (h : ∀ w', w'.ownsRow base e size (.slice (some ⟨g, 0, none⟩) (n + m) cap) (n + m) (xs ++ news) → w.grownBy w' (some g) → K (a.put o.dst (.slice (some ⟨g, 0, none⟩) (n + m) cap)) w') : o.wp P a w K Q := by
  obtain ⟨w', hr, h2, h3⟩ := run_append_fits (P := P) w base t o.type e i size ht hi hsize g n cap xs hown ad m c news hl hnews h1 hroom
  unfold Oper.wp execOp
  simp only [ho, resolve, invoke, builtin, Sem.run_bind, Sem.run_pure, Result.andThen_ok, List.map_toArray, List.map_cons, List.map_nil, hs, hx, hr]
  exact h w' h2 h3

theorem gstep_append_room {w : World} {ops : Array Oper} {o : Oper} {a : Act} {K : Act → World → Prop} {Q : Exit → Act → World → Prop} {E : Prop} (hgd : o.guard = none) (s x : Operand) (t : TypeId)
    (ho : o.op = .call { callee := .builtin .append, args := #[s, x], argTypes := #[t, t] })
    (base : Nat) (e : TypeId) (i : TypeInfo) (size : Nat) (ht : P.underlying t = some (.slice e)) (hi : P.info? e = some i) (hsize : i.size = size)
    (g n cap : Nat) (xs : List Value) (hs : a.eval s = .slice (some ⟨g, 0, none⟩) n cap) (hown : w.ownsRow base e size (.slice (some ⟨g, 0, none⟩) n cap) n xs)
    (ad : Addr) (m c : Nat) (news : List Value) (hx : a.eval x = .slice (some ad) m c) (hl : news.length = m * size) (hnews : ∀ j u, news[j]? = some u → w.cell? (ad.add j) = some u) (h1 : ∀ u ∈ news, u.oneCell' = true) (hroom : n + m ≤ cap)
    (h : ∀ w', w'.ownsRow base e size (.slice (some ⟨g, 0, none⟩) (n + m) cap) (n + m) (xs ++ news) → w.grownBy w' (some g) → K (a.put o.dst (.slice (some ⟨g, 0, none⟩) (n + m) cap)) w') :
    if Region.wanted o (yielded ops a.tmps) = true then Oper.wp P o a w K Q else E := by
  have hw : Region.wanted o (yielded ops a.tmps) = true := by simp [Region.wanted, hgd]
  rw [if_pos hw]
  exact gwp_append_room s x t ho base e i size ht hi hsize g n cap xs hs hown ad m c news hx hl hnews h1 hroom h

end

theorem TouchG.setRow {w0 w : World} {S : Nat → Prop} (h : TouchG w0 w S) {g : Nat} (hg : S g) (cs : Array Value) : TouchG w0 (w.setRow g cs) S :=
  ⟨h.os, h.tape, h.output, by have := h.size; simpa using this, fun k hk hs => (setRow_other w g k _ (fun e => hs (by rw [e]; exact hg))).trans (h.block k hk hs)⟩

/-- What lies behind a row's end put anew: the row is as it was. -/
theorem grow_behind {w : World} {base g cap i size : Nat} {e : TypeId} {xs zs : List Value} {cur : Array Value} (h : w.ownsRow base e size (.slice (some ⟨g, 0, none⟩) i cap) i xs) (hc : w.heap[g]? = some (.cells cur e (0, 0))) (hz : i * size + zs.length ≤ cap * size) :
    (w.setRow g (cur.toList.take (i * size) ++ zs ++ cur.toList.drop (i * size + zs.length)).toArray).ownsRow base e size (.slice (some ⟨g, 0, none⟩) i cap) i xs := by
  rcases h.2 with ⟨h', _⟩ | ⟨g', cap', cur', h', hg, hh, hle, hcm, hcs, htk⟩
  · cases h'
  simp only [Value.slice.injEq, Option.some.injEq, Addr.mk.injEq, and_true, true_and] at h'
  obtain ⟨rfl, rfl⟩ := h'
  rw [hc] at hh
  simp only [Option.some.injEq, Obj.cells.injEq, and_true] at hh
  subst hh
  refine ⟨h.1, Or.inr ⟨g, cap, _, rfl, hg, setRow_heap _ _ _ _ _ _ hc, hle, hcm, ?_, ?_⟩⟩
  · simp only [List.size_toArray, List.length_append, List.length_take, List.length_drop, Array.length_toList, hcs]
    omega
  · rw [← htk]
    have hl : (cur.toList.take (i * size)).length = i * size := by rw [List.length_take, Array.length_toList, hcs]; omega
    have key : ∀ (A R : List Value), A.length = i * size → (A ++ R).take (i * size) = A := fun A R h => by rw [← h, List.take_left]
    rw [List.append_assoc]
    exact key _ _ hl

end Go.Proofs.YtcjoekjjebcomalDoor

namespace Go.Proofs.YtcjoekjjebcomalDoor

open Go.RowKit

theorem wait_zero_one : ∀ v ∈ (Builtin.zeroCells (Value.agg #[.int .i64 0, .int .i64 0, .string ⟨#[]⟩, .string ⟨#[]⟩, .int .i64 0]).cells 1).toList, v.oneCell' = true := by
  intro v hv
  simp only [Builtin.zeroCells, Value.cells, Array.toList_map, List.mem_map, Array.toList_range, List.mem_range] at hv
  obtain ⟨a, ha, rfl⟩ := hv
  have ha' : a < 5 := by simpa using ha
  rcases (by omega : a = 0 ∨ a = 1 ∨ a = 2 ∨ a = 3 ∨ a = 4) with rfl | rfl | rfl | rfl | rfl <;> rfl

set_option maxRecDepth 100000 in
set_option maxHeartbeats 3200000 in
theorem deleteW (g n i : Nat) (rs : List WaitD) (w : World) (base : Nat) (h : w.ownsRow base 55 5 (.slice (some ⟨g, 0, none⟩) n n) n (flatG waitCells rs)) (hn : n = rs.length) (hin : i < n) (h5 : n < 5) :
    Calls Tryd.prog 33 #[.slice (some ⟨g, 0, none⟩) n n, .int .i64 i, .int .i64 ((i : Int) + 1)] w fun e w' => e = .returned (.slice (some ⟨g, 0, none⟩) (n - 1) n) ∧ w'.ownsRow base 55 5 (.slice (some ⟨g, 0, none⟩) (n - 1) n) (n - 1) (flatG waitCells (rs.eraseIdx i)) ∧ TouchG w w' (fun b => b = g) := by
  have HO := ghid h
  obtain ⟨i0, hi, hz0, hz1, hz2⟩ := info_parts Tryd.infoWait
  have hrow := h
  have htk := grow_take hrow (by omega : i ≤ n)
  rw [flatG_take waitCells_len] at htk
  have HTK := ghid htk
  have HL2 : Hid ((flatG waitCells (rs.drop (i + 1))).length = (n - (i + 1)) * 5) := by unfold Hid; rw [flatG_length waitCells_len, List.length_drop, hn]
  have HONE : Hid (∀ v ∈ flatG waitCells (rs.drop (i + 1)), v.oneCell' = true) := flatG_one waitCells_one _
  have HNEW : Hid (∀ j u, (flatG waitCells (rs.drop (i + 1)))[j]? = some u → w.cell? ⟨g, (i + 1) * 5 + j, none⟩ = some u) := by
    intro j u hj
    have hjl := (List.getElem?_eq_some_iff.1 hj).1
    rw [HL2.out] at hjl
    rw [hrow.cellAt ((i + 1) * 5 + j) (by have : (i + 1) * 5 + (n - (i + 1)) * 5 = n * 5 := by rw [← Nat.add_mul]; congr 1; omega
                                          omega)]
    rw [← flatG_drop waitCells_len rs (i + 1) (by omega), List.getElem?_drop] at hj
    exact hj
  have HER : Hid (rs.take i ++ rs.drop (i + 1) = rs.eraseIdx i) := by unfold Hid; rw [List.eraseIdx_eq_take_drop_succ]
  have HEL : Hid ((rs.eraseIdx i).length = n - 1) := by unfold Hid; rw [List.length_eraseIdx, if_pos (by omega), hn]
  have hq1 : (0 : Int) ≤ (i : Int) + 1 := by omega
  have hq2 : (i : Int) + 1 ≤ n := by omega
  have hq3 : ((i : Int) == (i : Int) + 1) = false := by simpa using (show ¬ (i : Int) = (i : Int) + 1 by omega)
  have hto : ((i : Int) + 1).toNat = i + 1 := by omega
  have HN := ghid hn
  clear h hrow htk hn
  by_cases hl : i + 1 = n
  · subst hl
    have hni : ¬ i + 1 = i := by omega
    have hq4 : (i : Int) ≤ (i : Int) + 1 := by omega
    have hq5 : i ≤ i + 1 := by omega
    have HD0 : Hid (rs.drop (i + 1) = []) := by unfold Hid; exact List.drop_of_length_le (by rw [← HN.out]; exact Nat.le_refl _)
    go_enter Tryd.func33, Tryd.ntmps33
    go_wp2_with fail
    go_region_law (refine gstep_append_room rfl (.tmp 22) (.tmp 25) 23 rfl base 55 i0 5 Tryd.underlying23 hi hz1 g i (i + 1) (flatG waitCells (rs.take i)) (by simp [Act.eval, Act.put]) HTK.out ⟨g, 0, none⟩ 0 0 [] (by simp [Act.eval, Act.put]) rfl (by intro j u hj; simp at hj) (by intro u hu; simp at hu) (by omega) ?_; intro w1 hown1 hg1)
    have hb1 : w1.heap.size ≥ w.heap.size := hg1.size
    obtain ⟨cur, hcur, hcs⟩ : ∃ cur, w1.heap[g]? = some (.cells cur 55 (0, 0)) ∧ cur.size = (i + 1) * 5 := by
      rcases hown1.2 with ⟨h', _⟩ | ⟨g', cap', cur', h', _, hh, _, _, hcs', _⟩
      · cases h'
      · simp only [Value.slice.injEq, Option.some.injEq, Addr.mk.injEq, and_true, true_and] at h'
        obtain ⟨rfl, rfl⟩ := h'
        exact ⟨cur', hh, hcs'⟩
    obtain ⟨zs, hzl, hcl⟩ := run_clear_wide (P := Tryd.prog) w1 23 55 i0 _ Tryd.underlying23 hi hz0 wait_zero_one (by simp [Value.cells]) g ((i) * 5) 1 1 cur _ (by omega) hcur (by simp [Value.cells]; omega)
    obtain ⟨Wf, hWf⟩ : ∃ Wf, Wf = w1.setRow g (cur.toList.take ((i) * 5) ++ zs ++ cur.toList.drop ((i) * 5 + zs.length)).toArray := ⟨_, rfl⟩
    rw [← hWf] at hcl
    have hT1 : TouchG w w1 (fun b => b = g) := ⟨hg1.os, hg1.tape, hg1.output, hg1.size, fun k hk hs => hg1.block k hk (fun e => hs (by simpa using e))⟩
    have HT : Hid (TouchG w Wf (fun b => b = g)) := by unfold Hid; rw [hWf]; exact hT1.setRow (g := g) rfl _
    have HF : Hid (Wf.ownsRow base 55 5 (.slice (some ⟨g, 0, none⟩) (i) (i + 1)) (i) (flatG waitCells (rs.eraseIdx i))) := by
      unfold Hid
      rw [← HER.out, flatG_append, hWf]
      exact (by rw [HD0.out, flatG_nil, List.append_nil]; exact grow_behind (by simpa using hown1) hcur (by simp [Value.cells] at hzl; omega))
    clear hown1 hg1 hcur hWf hT1 hi hz0 hz1 hz2
    go_wp2
    go_ret
    exact ⟨rfl, HF.out, HT.out⟩
  · obtain ⟨m, rfl⟩ : ∃ m, n = m + 1 := ⟨n - 1, by omega⟩
    have hni : ¬ m + 1 = i := by omega
    have hnj : ¬ m + 1 = i + 1 := by omega
    have hnj2 : ¬ m = i := by omega
    have hq5 : i ≤ m + 1 := by omega
    have hq6 : i + 1 ≤ m + 1 := by omega
    have hq7 : i ≤ m := by omega
    have hq8 : (i : Int) ≤ (m : Int) + 1 := by omega
    have hq9 : (m : Int) ≤ (m : Int) + 1 := by omega
    go_enter Tryd.func33, Tryd.ntmps33
    go_wp2_with fail
    go_region_law (refine gstep_append_room rfl (.tmp 22) (.tmp 25) 23 rfl base 55 i0 5 Tryd.underlying23 hi hz1 g i (m + 1) (flatG waitCells (rs.take i)) (by simp [Act.eval, Act.put]) HTK.out ⟨g, (i + 1) * 5, none⟩ (m + 1 - (i + 1)) (m + 1 - (i + 1)) (flatG waitCells (rs.drop (i + 1))) (by simp [Act.eval, Act.put]) HL2.out (by intro j u hj; rw [gadd]; exact HNEW.out j u hj) HONE.out (by omega) ?_; intro w1 hown1 hg1)
    have hbeh : i + (m + 1 - (i + 1)) = m := by omega
    have hbeh2 : i + (m - i) = m := by omega
    rw [hbeh] at hown1
    try rw [hbeh]
    try rw [hbeh2]
    clear hbeh hbeh2
    have hb1 : w1.heap.size ≥ w.heap.size := hg1.size
    obtain ⟨cur, hcur, hcs⟩ : ∃ cur, w1.heap[g]? = some (.cells cur 55 (0, 0)) ∧ cur.size = (m + 1) * 5 := by
      rcases hown1.2 with ⟨h', _⟩ | ⟨g', cap', cur', h', _, hh, _, _, hcs', _⟩
      · cases h'
      · simp only [Value.slice.injEq, Option.some.injEq, Addr.mk.injEq, and_true, true_and] at h'
        obtain ⟨rfl, rfl⟩ := h'
        exact ⟨cur', hh, hcs'⟩
    obtain ⟨zs, hzl, hcl⟩ := run_clear_wide (P := Tryd.prog) w1 23 55 i0 _ Tryd.underlying23 hi hz0 wait_zero_one (by simp [Value.cells]) g (m * 5) 1 1 cur _ (by omega) hcur (by simp [Value.cells]; omega)
    obtain ⟨Wf, hWf⟩ : ∃ Wf, Wf = w1.setRow g (cur.toList.take (m * 5) ++ zs ++ cur.toList.drop (m * 5 + zs.length)).toArray := ⟨_, rfl⟩
    rw [← hWf] at hcl
    have hT1 : TouchG w w1 (fun b => b = g) := ⟨hg1.os, hg1.tape, hg1.output, hg1.size, fun k hk hs => hg1.block k hk (fun e => hs (by simpa using e))⟩
    have HT : Hid (TouchG w Wf (fun b => b = g)) := by unfold Hid; rw [hWf]; exact hT1.setRow (g := g) rfl _
    have HF : Hid (Wf.ownsRow base 55 5 (.slice (some ⟨g, 0, none⟩) m (m + 1)) m (flatG waitCells (rs.eraseIdx i))) := by
      unfold Hid
      rw [← HER.out, flatG_append, hWf]
      exact (by have := grow_behind hown1 hcur (zs := zs) (by simp [Value.cells] at hzl; omega); simpa using this)
    clear hown1 hg1 hcur hWf hT1 hi hz0 hz1 hz2
    go_wp2
    go_ret
    exact ⟨rfl, HF.out, HT.out⟩

end Go.Proofs.YtcjoekjjebcomalDoor
