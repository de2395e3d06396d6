/- slices.Clone of numbers: the same numbers, in new memory (joined by program) -/
import Derived.Lib.SliceRun
import Derived.Test.YtbmfahgekcnkaaiRC07
namespace Go.Proofs.Ytbmfahgekcnkaai

open Go.RowKit

theorem Try.infoInt : (Try.prog.info? 3).map (fun i => (i.zero, i.size, i.bytes)) = some (some (.int .i64 0), 1, 8) := by kernel_rfl

theorem intCells_one (xs : List Int) : ∀ u ∈ intCells xs, u.oneCell' = true := by
  intro u hu
  obtain ⟨x, _, rfl⟩ := List.mem_map.1 hu
  rfl

theorem intCells_at {w : World} {a : Addr} {xs : List Int} (h : 0 < xs.length → ∃ b off, a = ⟨b, off, none⟩ ∧ ∀ i x, xs[i]? = some x → w.cell? ⟨b, off + i, none⟩ = some (.int .i64 x)) :
    ∀ j u, (intCells xs)[j]? = some u → w.cell? (a.add j) = some u := by
  intro j u hu
  unfold intCells at hu
  rw [List.getElem?_map] at hu
  obtain ⟨x, hx, rfl⟩ := Option.map_eq_some_iff.1 hu
  have hj : j < xs.length := (List.getElem?_eq_some_iff.1 hx).1
  obtain ⟨b, off, rfl, hc⟩ := h (by omega)
  have e : (⟨b, off, none⟩ : Addr).add j = ⟨b, off + j, none⟩ := by unfold Addr.add; split <;> simp_all
  rw [e]
  exact hc j x hx

set_option maxHeartbeats 800000 in
theorem cloneInts (v : Value) (xs : List Int) (w : World) (B : Nat) (hv : IntsR w B v xs) (hB : B ≤ w.heap.size) :
    Calls Try.prog 68 #[v] w fun e w' => ∃ v', e = .returned v' ∧ w'.ownsRow w.heap.size 3 1 v' xs.length (intCells xs) ∧ Below w.heap.size w w' := by
  obtain ⟨i0, hi, hz0, hz1, hz2⟩ := info_parts Try.infoInt
  have q22 : ∀ (w : World) (a : Option Addr) (n c n' c' : Nat), (binOp .eql 73 (.slice a n c) (.slice none n' c')).run Try.prog w = .ok (.bool a.isNone) w := fun w a n c n' c' => Lib.run_eql_slice_nil w _ _ a n c n' c' Try.underlying73
  obtain ⟨ao, cap, rfl, h1, h2, h3, h4⟩ := hv
  cases ao with
  | none =>
    have hc0 := h3 rfl
    have hx : xs = [] := List.eq_nil_of_length_eq_zero (by omega)
    subst hx
    subst hc0
    clear h4 h3 h1 h2
    simp only [List.length_nil]
    go_enter Try.func68, Try.ntmps68
    go_wp2
    go_ret
    exact ⟨_, rfl, World.ownsRow_nil _ _ _ _, Below.refl _ _⟩
  | some a =>
    have hn : ∀ j u, (intCells xs)[j]? = some u → (w.alloc (.cells #[] 3)).cell? (a.add j) = some u := intCells_at fun hp => by
      obtain ⟨b, off, e, hlt, hc⟩ := h4 hp
      exact ⟨b, off, by simpa using e, fun i x hx => (((Below.refl w.heap.size w).alloc (Nat.le_refl _) (.cells #[] 3)).cell (p := ⟨b, off + i, none⟩) (by simp; omega)).trans (hc i x hx)⟩
    have HN : Hid (∀ j u, (intCells xs)[j]? = some u → (w.alloc (.cells #[] 3)).cell? (a.add j) = some u) := hn
    have HO : Hid ((w.alloc (.cells #[] 3)).ownsRow w.heap.size 3 1 (.slice (some ⟨w.heap.size, 0, none⟩) 0 0) 0 []) := World.ownsRow_lit w #[] 0 (Nat.le_refl _) (by unfold maxLen; omega) rfl
    clear hn h4 h3
    go_enter Try.func68, Try.ntmps68
    go_wp2_with (at_builtin; refine wpList_append_own _ rfl (.tmp 5) (.tmp 6) 73 rfl w.heap.size 3 i0 (.int .i64 0) 1 8 Try.underlying73 hi hz0 hz1 hz2 rfl (by decide) _ _ _ rfl HO.out a xs.length cap (intCells xs) rfl (by simp [intCells]) HN.out (intCells_one xs) (by unfold maxLen; omega) (by omega) (by simp) ?_)
    intro v1 w1 hown hgrow _
    have hb1 : Below w.heap.size w w1 := ((Below.refl w.heap.size w).alloc (Nat.le_refl _) (.cells #[] 3)).grown hgrow (by simp) (fun k hk => by simp [Value.ownBlock] at hk; omega)
    have hown2 : Hid (w1.ownsRow w.heap.size 3 1 v1 xs.length (intCells xs)) := by unfold Hid; simpa using hown
    clear hown hgrow
    go_wp2
    go_ret
    exact ⟨_, rfl, hown2.out, hb1⟩

end Go.Proofs.Ytbmfahgekcnkaai
