/- One kept reply more, in its place. -/
import Derived.Test.YtmcdbdcabiccnafKeptInsert
namespace Go.Proofs.Ytmcdbdcabiccnaf
open Go.RowKit

theorem kinsert_at (g n i : Nat) (ks : List KeptD) (k : KeptD) (bx : Nat) (w : World) (base : Nat) (h : OwnK w base (.slice (some ⟨g, 0, none⟩) n n) ks) (hn : n = ks.length) (h5 : n < 5) (hin : i ≤ n) (hx : ∀ j u, (keptCells k)[j]? = some u → w.cell? ⟨bx, j, none⟩ = some u) (hbx : bx < w.heap.size) (hbase : base ≤ w.heap.size) (hk : k.text.size ≤ 140737488351232) :
    Calls Try.prog 31 #[.slice (some ⟨g, 0, none⟩) n n, .int .i64 i, .slice (some ⟨bx, 0, none⟩) 1 1] w fun e w' => ∃ v', e = .returned v' ∧ OwnK w' base v' (ks.take i ++ k :: ks.drop i) ∧ (∀ b, v'.ownBlock = some b → w.heap.size ≤ b) ∧ Below w.heap.size w w' := by
  have hrow := h.row
  rw [← hn] at hrow
  have fin : ∀ (v' : Value) (w' : World), w'.ownsRow w.heap.size 54 4 v' (n + 1) (flatG keptCells (ks.take i) ++ (keptCells k ++ flatG keptCells (ks.drop i))) → OwnK w' base v' (ks.take i ++ k :: ks.drop i) := by
    intro v' w' hr
    have hl : (ks.take i ++ k :: ks.drop i).length = n + 1 := by simp [List.length_take, List.length_drop]; omega
    refine ⟨by rw [hl, flatG_append, flatG_cons]; exact grow_mono hr hbase, by rw [hl]; omega, fun q hq => ?_⟩
    rcases List.mem_append.1 hq with hq | hq
    · exact h.modest q (List.mem_of_mem_take hq)
    · rcases List.mem_cons.1 hq with rfl | hq
      · exact hk
      · exact h.modest q (List.mem_of_mem_drop hq)
  by_cases hi : i = n
  · subst hi
    refine (kinsert_end g i ks k bx w base hrow hn h5 hx (keptCells_one k)).mono ?_
    rintro e w' ⟨v', rfl, hr, hb⟩
    refine ⟨v', rfl, fin v' w' ?_, fun b hb' => (hr.lt b hb').1, hb⟩
    rw [List.take_of_length_le (by omega), List.drop_of_length_le (by omega), flatG_nil, List.append_nil]
    exact hr
  · refine (kinsert_mid g n i ks k bx w base hrow hn h5 (by omega) hx hbx (keptCells_one k) (flatG_one keptCells_one ks)).mono ?_
    rintro e w' ⟨v', rfl, hr, hb⟩
    exact ⟨v', rfl, fin v' w' hr, fun b hb' => (hr.lt b hb').1, hb⟩
end Go.Proofs.Ytmcdbdcabiccnaf
