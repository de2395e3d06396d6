/- One session more, in its place. -/
import Derived.Test.YtmcdbdcabiccnafSessInsert
import Derived.Test.YtmcdbdcabiccnafSessMath
namespace Go.Proofs.Ytmcdbdcabiccnaf
open Go.RowKit

theorem gslice_one {w : World} {base : Nat} {e : TypeId} {size : Nat} {v : Value} {n : Nat} {xs : List Value} (h : w.ownsRow base e size v n xs) : v.oneCell' = true := by
  rcases h.2 with ⟨rfl, _⟩ | ⟨_, _, _, rfl, _⟩ <;> rfl

theorem sflat_one {w : World} {base : Nat} {rs : List (SessD × Value)} (h : Reps w base rs) : ∀ v ∈ flatG sessCells rs, v.oneCell' = true := by
  intro v hv
  obtain ⟨r, hr, hv⟩ := List.mem_flatMap.1 hv
  exact sessCells_one r (gslice_one (h.each r hr).row) v hv

theorem sinsert_at (g n i : Nat) (rs : List (SessD × Value)) (x : SessD) (bx : Nat) (w : World) (base : Nat) (h : OwnS w base (.slice (some ⟨g, 0, none⟩) n n) rs) (h4 : n < 5) (hin : i ≤ n) (hk : x.replies = []) (hx : ∀ j u, (sessCells (x, .slice none 0 0))[j]? = some u → w.cell? ⟨bx, j, none⟩ = some u) (hbx : bx < w.heap.size) (hbase : base ≤ w.heap.size) :
    Calls Try.prog 36 #[.slice (some ⟨g, 0, none⟩) n n, .int .i64 i, .slice (some ⟨bx, 0, none⟩) 1 1] w fun e w' => ∃ v', e = .returned v' ∧ OwnS w' base v' (rs.take i ++ (x, .slice none 0 0) :: rs.drop i) ∧ Below w.heap.size w w' := by
  have hn := h.len_eq
  have hrow := h.row
  rw [← hn] at hrow
  have fin : ∀ (v' : Value) (w' : World), w'.ownsRow w.heap.size 51 5 v' (n + 1) (flatG sessCells (rs.take i) ++ (sessCells (x, .slice none 0 0) ++ flatG sessCells (rs.drop i))) → Below w.heap.size w w' → OwnS w' base v' (rs.take i ++ (x, .slice none 0 0) :: rs.drop i) := by
    intro v' w' hr hb
    have hl : (rs.take i ++ (x, Value.slice none 0 0) :: rs.drop i).length = n + 1 := by simp [List.length_take, List.length_drop]; omega
    refine ⟨by rw [hl, flatG_append, flatG_cons]; exact grow_mono hr hbase, ?_, by rw [hl]; omega⟩
    refine Reps.mid (by rw [List.take_append_drop]; exact h.reps.below hb (Nat.le_refl _)) ?_ (fun b hb => by cases hb)
    show OwnK w' base (.slice none 0 0) x.replies
    rw [hk]
    exact OwnK.nil _ _
  by_cases hi : i = n
  · subst hi
    refine (sinsert_end g i rs (x, .slice none 0 0) bx w base hrow hn h4 hx (sessCells_one _ rfl)).mono ?_
    rintro e w' ⟨v', rfl, hr, hb⟩
    refine ⟨v', rfl, fin v' w' ?_ hb, hb⟩
    rw [List.take_of_length_le (by omega), List.drop_of_length_le (by omega), flatG_nil, List.append_nil]
    exact hr
  · refine (sinsert_mid g n i rs (x, .slice none 0 0) bx w base hrow hn h4 (by omega) hx hbx (sessCells_one _ rfl) (sflat_one h.reps)).mono ?_
    rintro e w' ⟨v', rfl, hr, hb⟩
    exact ⟨v', rfl, fin v' w' hr hb, hb⟩
end Go.Proofs.Ytmcdbdcabiccnaf
