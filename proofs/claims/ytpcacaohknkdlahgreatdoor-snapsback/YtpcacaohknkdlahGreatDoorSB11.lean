/- Plain mathematics of Join; Plain mathematics of Leave. (Written by gen_leave.py.); Plain mathematics of Ready. (Written by gen_ready.py.); Plain mathematics of Keep. (Written by gen_keep.py.); Sessions that may be, and what the calls keep of them; whose sessions there are. Plain lists; Setting keeps pairs such that may be; what is replied may be kept. Plain lists; Plain mathematics of numbers as digits of seven bits. It imports no program (joined by program) -/
import Derived.WalkKit
import Derived.ProofKit
import Derived.Laws.BytesArg
import Derived.Test.YtpcacaohknkdlahGreatDoorSB00
import Derived.Test.YtpcacaohknkdlahGreatDoorSB02
namespace Go.Proofs.YtpcacaohknkdlahGreatDoor

open Go.RowKit

theorem joinE_zero {ls : List SessD} {i c : Int} (h : joinE ls i c = 0) : checkS ls i = 0 ∧ (1 ≤ c ∧ c ≤ 9) ∧ i ≠ 1073741824 := by
  unfold joinE at h
  by_cases h1 : checkS ls i = 0
  · by_cases h2 : (1 ≤ c ∧ c ≤ 9) ∧ i ≠ 1073741824
    · exact ⟨h1, h2⟩
    · rw [if_neg (by simpa using h1), if_neg h2] at h
      cases h
  · rw [if_pos h1] at h
    exact absurd h h1

theorem joinS_there {ls : List SessD} {i c : Int} {x : SessD} (ht : thereS ls c = true) (hx : ls[placeS ls c]? = some x) : joinS ls i c = (ls.set (placeS ls c) { x with last := i + 1 }, ⟨7, x.id, ⟨#[]⟩⟩) := by
  unfold joinS; rw [ht, hx]

theorem joinS_full {ls : List SessD} {i c : Int} (ht : thereS ls c = false) (h : ls.length = 4) : joinS ls i c = (ls, ⟨8, 0, ⟨#[]⟩⟩) := by
  unfold joinS; rw [ht]; simp [h]

theorem joinS_new {ls : List SessD} {i c : Int} (ht : thereS ls c = false) (h : ls.length ≠ 4) : joinS ls i c = (ls.take (placeS ls c) ++ ⟨c, i + 1, 0, i + 1, []⟩ :: ls.drop (placeS ls c), ⟨0, i + 1, ⟨#[]⟩⟩) := by
  unfold joinS; rw [ht]; simp [h]

theorem thereS_some {ls : List SessD} {c : Int} (ht : thereS ls c = true) : ∃ x, ls[placeS ls c]? = some x ∧ x.client = c := by
  unfold thereS at ht
  cases h : ls[placeS ls c]? with
  | none => rw [h] at ht; cases ht
  | some x => rw [h] at ht; exact ⟨x, rfl, by simpa using ht⟩

theorem map_at {ls : List SessD} {rs : List (SessD × Value)} {n : Nat} {x : SessD} (hrs : rs.map (·.1) = ls) (hx : ls[n]? = some x) : ∃ v, rs[n]? = some (x, v) := by
  rw [← hrs, List.getElem?_map] at hx
  obtain ⟨r, hr, rfl⟩ := Option.map_eq_some_iff.1 hx
  exact ⟨r.2, hr⟩

end Go.Proofs.YtpcacaohknkdlahGreatDoor

namespace Go.Proofs.YtpcacaohknkdlahGreatDoor

open Go.RowKit

theorem leaveS_there {ls : List SessD} {c : Int} (ht : thereS ls c = true) : leaveS ls c = (ls.eraseIdx (placeS ls c), ⟨0, 0, ⟨#[]⟩⟩) := by unfold leaveS; rw [if_pos ht]

theorem leaveS_away {ls : List SessD} {c : Int} (ht : thereS ls c = false) : leaveS ls c = (ls, ⟨11, 0, ⟨#[]⟩⟩) := by unfold leaveS; rw [if_neg (by simp [ht])]

theorem map_erase {ls : List SessD} {rs : List (SessD × Value)} {n : Nat} (hrs : rs.map (·.1) = ls) : (rs.eraseIdx n).map (·.1) = ls.eraseIdx n := by rw [← hrs, List.eraseIdx_eq_take_drop_succ, List.eraseIdx_eq_take_drop_succ, List.map_append, List.map_take, List.map_drop]

end Go.Proofs.YtpcacaohknkdlahGreatDoor

namespace Go.Proofs.YtpcacaohknkdlahGreatDoor

open Go.RowKit

theorem readyE_check {ls : List SessD} {i q u : Int} (h : checkS ls i ≠ 0) : readyE ls i q u = checkS ls i := by unfold readyE; rw [if_pos h]

theorem readyE_range {ls : List SessD} {i q u : Int} (h : checkS ls i = 0) (h2 : ¬ (i ≠ 1073741824 ∧ (1 ≤ q ∧ q ≤ 1048576) ∧ 0 ≤ u ∧ u ≤ q - 1)) : readyE ls i q u = 2 := by unfold readyE; rw [if_neg (by simpa using h), if_neg h2]

theorem readyE_ok {ls : List SessD} {i q u : Int} (h : checkS ls i = 0) (h2 : i ≠ 1073741824 ∧ (1 ≤ q ∧ q ≤ 1048576) ∧ 0 ≤ u ∧ u ≤ q - 1) : readyE ls i q u = 0 := by unfold readyE; rw [if_neg (by simpa using h), if_pos h2]

theorem readyE_zero {ls : List SessD} {i q u : Int} (h : readyE ls i q u = 0) : checkS ls i = 0 ∧ i ≠ 1073741824 ∧ (1 ≤ q ∧ q ≤ 1048576) ∧ 0 ≤ u ∧ u ≤ q - 1 := by
  by_cases h1 : checkS ls i = 0
  · by_cases h2 : i ≠ 1073741824 ∧ (1 ≤ q ∧ q ≤ 1048576) ∧ 0 ≤ u ∧ u ≤ q - 1
    · exact ⟨h1, h2⟩
    · rw [readyE_range h1 h2] at h
      cases h
  · rw [readyE_check h1] at h
    exact absurd h h1

theorem readyS_away {ls : List SessD} {i c s q u : Int} (ht : thereS ls c = false) : readyS ls i c s q u = (ls, ⟨11, 0, ⟨#[]⟩⟩, false) := by unfold readyS; rw [ht]

theorem readyS_other {ls : List SessD} {i c s q u : Int} {x : SessD} (ht : thereS ls c = true) (hx : ls[placeS ls c]? = some x) (h : x.id ≠ s) : readyS ls i c s q u = (ls, ⟨11, 0, ⟨#[]⟩⟩, false) := by unfold readyS; rw [ht, hx]; simp [h]

theorem readyS_here {ls : List SessD} {i c s q u : Int} {x : SessD} (ht : thereS ls c = true) (hx : ls[placeS ls c]? = some x) (h : x.id = s) : readyS ls i c s q u = (ls.set (placeS ls c) (hearD x (i + 1) u), answerD (hearD x (i + 1) u) q) := by unfold readyS; rw [ht, hx]; simp [h]

end Go.Proofs.YtpcacaohknkdlahGreatDoor

namespace Go.Proofs.YtpcacaohknkdlahGreatDoor

open Go.RowKit

theorem keepE_check {ls : List SessD} {i c : Int} {k : KeptD} (h : checkS ls i ≠ 0) : keepE ls i c k = checkS ls i := by unfold keepE; rw [if_pos h]

theorem keepE_away {ls : List SessD} {i c : Int} {k : KeptD} (h : checkS ls i = 0) (ht : thereS ls c = false) : keepE ls i c k = 11 := by unfold keepE; rw [if_neg (by simpa using h), ht]

theorem keepE_twice {ls : List SessD} {i c : Int} {k : KeptD} {x : SessD} (h : checkS ls i = 0) (ht : thereS ls c = true) (hx : ls[placeS ls c]? = some x) (hk : thereK x.replies k.seq = true) : keepE ls i c k = 7 := by unfold keepE; rw [if_neg (by simpa using h), ht, hx]; simp [hk]

theorem keepE_form {ls : List SessD} {i c : Int} {k : KeptD} {x : SessD} (h : checkS ls i = 0) (ht : thereS ls c = true) (hx : ls[placeS ls c]? = some x) (hk : thereK x.replies k.seq = false) (hf : formFrom x.acked x.acked (withK x.replies k) = false) : keepE ls i c k = 2 := by
  unfold keepE; rw [if_neg (by simpa using h), ht, hx]
  have e : sformB { x with replies := withK x.replies k } = false := hf
  simp [hk, e]

theorem keepE_ok {ls : List SessD} {i c : Int} {k : KeptD} {x : SessD} (h : checkS ls i = 0) (ht : thereS ls c = true) (hx : ls[placeS ls c]? = some x) (hk : thereK x.replies k.seq = false) (hf : formFrom x.acked x.acked (withK x.replies k) = true) : keepE ls i c k = 0 := by
  unfold keepE; rw [if_neg (by simpa using h), ht, hx]
  have e : sformB { x with replies := withK x.replies k } = true := hf
  simp [hk, e]

theorem keepS_there {ls : List SessD} {c : Int} {k : KeptD} {x : SessD} (hx : ls[placeS ls c]? = some x) : keepS ls c k = ls.set (placeS ls c) { x with replies := withK x.replies k } := by unfold keepS; rw [hx]

/-- How Keep ends. -/
theorem keep_cases (ls : List SessD) (i c : Int) (k : KeptD) : (checkS ls i ≠ 0 ∧ keepE ls i c k = checkS ls i) ∨ (checkS ls i = 0 ∧ thereS ls c = false ∧ keepE ls i c k = 11) ∨
    ∃ x, checkS ls i = 0 ∧ thereS ls c = true ∧ ls[placeS ls c]? = some x ∧ ((thereK x.replies k.seq = true ∧ keepE ls i c k = 7) ∨ (thereK x.replies k.seq = false ∧ formFrom x.acked x.acked (withK x.replies k) = false ∧ keepE ls i c k = 2) ∨ (thereK x.replies k.seq = false ∧ formFrom x.acked x.acked (withK x.replies k) = true ∧ keepE ls i c k = 0)) := by
  by_cases h : checkS ls i = 0
  · cases ht : thereS ls c with
    | false => exact Or.inr (Or.inl ⟨h, rfl, keepE_away h ht⟩)
    | true =>
      obtain ⟨x, hx, -⟩ := thereS_some ht
      refine Or.inr (Or.inr ⟨x, h, rfl, hx, ?_⟩)
      cases hk : thereK x.replies k.seq with
      | true => exact Or.inl ⟨rfl, keepE_twice h ht hx hk⟩
      | false =>
        cases hf : formFrom x.acked x.acked (withK x.replies k) with
        | false => exact Or.inr (Or.inl ⟨rfl, rfl, keepE_form h ht hx hk hf⟩)
        | true => exact Or.inr (Or.inr ⟨rfl, rfl, keepE_ok h ht hx hk hf⟩)
  · exact Or.inl ⟨h, keepE_check h⟩

end Go.Proofs.YtpcacaohknkdlahGreatDoor

namespace Go.Proofs.YtpcacaohknkdlahGreatDoor

open Go.RowKit

/-- The client has a session. -/
def HasC (ls : List SessD) (c : Int) : Prop := ∃ x ∈ ls, x.client = c

theorem placeS_leq (ls : List SessD) (c : Int) : placeS ls c ≤ ls.length := List.findIdx_le_length

theorem placeS_lt {ls : List SessD} {c : Int} {j : Nat} {x : SessD} (hj : j < placeS ls c) (hx : ls[j]? = some x) : x.client < c := by
  have := List.not_of_lt_findIdx (p := fun x : SessD => decide (c ≤ x.client)) (xs := ls) hj
  obtain ⟨hl, he⟩ := List.getElem?_eq_some_iff.1 hx
  rw [he] at this
  simpa using this

theorem placeS_ge {ls : List SessD} {c : Int} {x : SessD} (hx : ls[placeS ls c]? = some x) : c ≤ x.client := by
  obtain ⟨hl, he⟩ := List.getElem?_eq_some_iff.1 hx
  have h : decide (c ≤ (ls[placeS ls c]'hl).client) = true := List.findIdx_getElem (w := hl)
  rw [he] at h
  simpa using h

theorem order_at {ls : List SessD} (h : ls.Pairwise (fun a b => a.client < b.client)) {i j : Nat} {x y : SessD} (hij : i < j) (hx : ls[i]? = some x) (hy : ls[j]? = some y) : x.client < y.client := by
  obtain ⟨hi, rfl⟩ := List.getElem?_eq_some_iff.1 hx
  obtain ⟨hj, rfl⟩ := List.getElem?_eq_some_iff.1 hy
  exact List.pairwise_iff_getElem.1 h i j hi hj hij

/-- Behind the place all clients are greater, or the first is the client. -/
theorem after_place {ls : List SessD} (h : ls.Pairwise (fun a b => a.client < b.client)) {c : Int} (ht : thereS ls c = false) {j : Nat} {x : SessD} (hj : placeS ls c ≤ j) (hx : ls[j]? = some x) : c < x.client := by
  have hl : j < ls.length := (List.getElem?_eq_some_iff.1 hx).1
  have hp : placeS ls c < ls.length := by omega
  have hy : ls[placeS ls c]? = some ls[placeS ls c] := List.getElem?_eq_getElem hp
  have h1 := placeS_ge hy
  have h2 : ls[placeS ls c].client ≠ c := by
    unfold thereS at ht
    rw [hy] at ht
    simpa using ht
  by_cases e : placeS ls c = j
  · subst e
    rw [hy] at hx
    cases hx
    omega
  · have := order_at h (by omega) hy hx
    omega

theorem Fine.step {i j : Int} {x : SessD} (h : Fine i x) (hij : i ≤ j) : Fine j x := by
  refine ⟨?_, h.form⟩
  have := rangeB_iff.1 h.range
  exact rangeB_iff.2 (by omega)

theorem GoodS.step {ls : List SessD} {i j : Int} (h : GoodS ls i) (hij : i ≤ j) (hj : j ≤ 1073741824) : GoodS ls j :=
  ⟨by have := h.low; omega, hj, h.len, fun x hx => (h.fine x hx).step hij, h.order⟩

theorem GoodS.sub {ls xs : List SessD} {i : Int} (h : GoodS ls i) (hs : xs.Sublist ls) : GoodS xs i :=
  ⟨h.low, h.high, by have := h.len; have := hs.length_le; omega, fun x hx => h.fine x (hs.subset hx), h.order.sublist hs⟩

theorem GoodS.fresh {ls : List SessD} {i : Int} (h : GoodS ls i) (j : Int) : GoodS (freshS ls j) i := h.sub List.filter_sublist

theorem GoodS.leave {ls : List SessD} {i : Int} (h : GoodS ls i) (c : Int) : GoodS (leaveS ls c).1 i := by
  unfold leaveS
  split
  · exact h.sub (List.eraseIdx_sublist ..)
  · exact h

/-- One session put anew, of the same client. -/
theorem GoodS.put {ls : List SessD} {i : Int} (h : GoodS ls i) {p : Nat} {x y : SessD} (hx : ls[p]? = some x) (hc : y.client = x.client) (hy : Fine i y) : GoodS (ls.set p y) i := by
  refine ⟨h.low, h.high, by simpa using h.len, fun z hz => ?_, ?_⟩
  · rcases List.mem_or_eq_of_mem_set hz with hz | rfl
    · exact h.fine z hz
    · exact hy
  · have e : ∀ (j : Nat) (z : SessD), (ls.set p y)[j]? = some z → ∃ u : SessD, ls[j]? = some u ∧ u.client = z.client := by
      intro j z hz
      by_cases e : p = j
      · subst e
        rw [List.getElem?_set_self (List.getElem?_eq_some_iff.1 hx).1] at hz
        cases hz
        exact ⟨x, hx, hc.symm⟩
      · rw [List.getElem?_set_ne e] at hz
        exact ⟨z, hz, rfl⟩
    refine List.pairwise_iff_getElem.2 fun a b ha hb hab => ?_
    obtain ⟨u, hu, eu⟩ := e a _ (List.getElem?_eq_getElem ha)
    obtain ⟨v, hv, ev⟩ := e b _ (List.getElem?_eq_getElem hb)
    rw [← eu, ← ev]
    exact order_at h.order hab hu hv

theorem hasC_put {ls : List SessD} {p : Nat} {x y : SessD} (hx : ls[p]? = some x) (hc : y.client = x.client) (c : Int) : HasC (ls.set p y) c ↔ HasC ls c := by
  have hp := (List.getElem?_eq_some_iff.1 hx).1
  constructor
  · rintro ⟨z, hz, e⟩
    rcases List.mem_or_eq_of_mem_set hz with hz | rfl
    · exact ⟨z, hz, e⟩
    · exact ⟨x, List.mem_of_getElem? hx, by omega⟩
  · rintro ⟨z, hz, e⟩
    obtain ⟨j, hj⟩ := List.mem_iff_getElem?.1 hz
    by_cases ej : p = j
    · subst ej
      rw [hx] at hj
      cases hj
      exact ⟨y, List.mem_iff_getElem?.2 ⟨p, List.getElem?_set_self hp⟩, by omega⟩
    · exact ⟨z, List.mem_iff_getElem?.2 ⟨j, by rw [List.getElem?_set_ne ej]; exact hj⟩, e⟩

theorem GoodS.join {ls : List SessD} {i : Int} (h : GoodS ls i) (hi : i < 1073741824) {c : Int} (c1 : 1 ≤ c) (c2 : c ≤ 9) : GoodS (joinS ls i c).1 (i + 1) := by
  have hs := h.step (j := i + 1) (by omega) (by omega)
  have h0 := h.low
  cases ht : thereS ls c with
  | true =>
    obtain ⟨x, hx, e⟩ := thereS_some ht
    rw [joinS_there ht hx]
    have hf := hs.fine x (List.mem_of_getElem? hx)
    refine hs.put hx rfl ⟨?_, hf.form⟩
    have := rangeB_iff.1 hf.range
    refine rangeB_iff.2 ?_
    simp only
    omega
  | false =>
    by_cases h4 : ls.length = 4
    · rw [joinS_full ht h4]; exact hs
    · rw [joinS_new ht h4]
      have hp := placeS_leq ls c
      have hl := h.len
      refine ⟨hs.low, hs.high, by simp [List.length_take, List.length_drop]; omega, fun x hx => ?_, ?_⟩
      · rcases List.mem_append.1 hx with hx | hx
        · exact hs.fine x (List.mem_of_mem_take hx)
        · rcases List.mem_cons.1 hx with rfl | hx
          · exact ⟨rangeB_iff.2 (by simp only; omega), rfl⟩
          · exact hs.fine x (List.mem_of_mem_drop hx)
      · refine List.pairwise_append.2 ⟨h.order.sublist (List.take_sublist _ _), List.pairwise_cons.2 ⟨fun y hy => ?_, h.order.sublist (List.drop_sublist _ _)⟩, fun x hx y hy => ?_⟩
        · obtain ⟨j, hj⟩ := List.mem_iff_getElem?.1 hy
          rw [List.getElem?_drop] at hj
          exact after_place h.order ht (by omega) hj
        · obtain ⟨a, ha⟩ := List.mem_iff_getElem?.1 hx
          have hal : a < placeS ls c := by have := (List.getElem?_eq_some_iff.1 ha).1; rw [List.length_take] at this; omega
          rw [List.getElem?_take_of_lt hal] at ha
          have h1 := placeS_lt hal ha
          rcases List.mem_cons.1 hy with rfl | hy
          · exact h1
          · obtain ⟨j, hj⟩ := List.mem_iff_getElem?.1 hy
            rw [List.getElem?_drop] at hj
            have := after_place h.order ht (by omega) hj
            omega

theorem hasC_join {ls : List SessD} {i c a : Int} (ha : HasC ls a) : HasC (joinS ls i c).1 a := by
  cases ht : thereS ls c with
  | true =>
    obtain ⟨x, hx, e⟩ := thereS_some ht
    rw [joinS_there ht hx]
    exact (hasC_put (y := { x with last := i + 1 }) hx rfl a).2 ha
  | false =>
    by_cases h4 : ls.length = 4
    · rw [joinS_full ht h4]; exact ha
    · rw [joinS_new ht h4]
      obtain ⟨x, hx, e⟩ := ha
      refine ⟨x, ?_, e⟩
      rw [← List.take_append_drop (placeS ls c) ls] at hx
      rcases List.mem_append.1 hx with hx | hx
      · exact List.mem_append_left _ hx
      · exact List.mem_append_right _ (List.mem_cons_of_mem _ hx)

theorem hasC_leave {ls : List SessD} {c a : Int} (ha : HasC ls a) (hne : a ≠ c) : HasC (leaveS ls c).1 a := by
  cases ht : thereS ls c with
  | false => rw [leaveS_away ht]; exact ha
  | true =>
    rw [leaveS_there ht]
    obtain ⟨y, hy, ey⟩ := thereS_some ht
    obtain ⟨x, hx, e⟩ := ha
    obtain ⟨j, hj⟩ := List.mem_iff_getElem?.1 hx
    refine ⟨x, ?_, e⟩
    have hjn : j ≠ placeS ls c := by
      rintro rfl
      rw [hy] at hj
      cases hj
      omega
    exact List.mem_eraseIdx_iff_getElem?.2 ⟨j, hjn, hj⟩

/-- A session that heard a call may be. -/
theorem hearD_fine {i q u : Int} {x : SessD} (h : Fine i x) (hq : q ≤ 1048576) (hu : u ≤ q - 1) : Fine (i + 1) (hearD x (i + 1) u) := by
  have hr := rangeB_iff.1 h.range
  refine ⟨rangeB_iff.2 (by unfold hearD; simp only; omega), ?_⟩
  have hm := formFrom_mem h.form
  refine formFrom_of (fun k hk => ?_) ((formFrom_rise h.form).filter _)
  obtain ⟨h1, h2⟩ := List.mem_filter.1 hk
  have h3 := hm k h1
  have h4 : ¬ k.seq ≤ max x.acked u := by simpa using h2
  refine ⟨?_, ?_, h3.2.2⟩
  · show max x.acked u < k.seq; omega
  · show k.seq ≤ max x.acked u + 4; omega

theorem placeK_lt {ks : List KeptD} {q : Int} {j : Nat} {k : KeptD} (hj : j < placeK ks q) (hk : ks[j]? = some k) : k.seq < q := by
  have := List.not_of_lt_findIdx (p := fun k : KeptD => decide (q ≤ k.seq)) (xs := ks) hj
  obtain ⟨hl, he⟩ := List.getElem?_eq_some_iff.1 hk
  rw [he] at this
  simpa using this

theorem placeK_ge {ks : List KeptD} {q : Int} {k : KeptD} (hk : ks[placeK ks q]? = some k) : q ≤ k.seq := by
  obtain ⟨hl, he⟩ := List.getElem?_eq_some_iff.1 hk
  have h : decide (q ≤ (ks[placeK ks q]'hl).seq) = true := List.findIdx_getElem (w := hl)
  rw [he] at h
  simpa using h

theorem orderK_at {ks : List KeptD} (h : ks.Pairwise (fun a b => a.seq < b.seq)) {i j : Nat} {x y : KeptD} (hij : i < j) (hx : ks[i]? = some x) (hy : ks[j]? = some y) : x.seq < y.seq := by
  obtain ⟨hi, rfl⟩ := List.getElem?_eq_some_iff.1 hx
  obtain ⟨hj, rfl⟩ := List.getElem?_eq_some_iff.1 hy
  exact List.pairwise_iff_getElem.1 h i j hi hj hij

theorem afterK {ks : List KeptD} (h : ks.Pairwise (fun a b => a.seq < b.seq)) {q : Int} (ht : thereK ks q = false) {j : Nat} {k : KeptD} (hj : placeK ks q ≤ j) (hk : ks[j]? = some k) : q < k.seq := by
  have hl : j < ks.length := (List.getElem?_eq_some_iff.1 hk).1
  have hp : placeK ks q < ks.length := by omega
  have hy : ks[placeK ks q]? = some ks[placeK ks q] := List.getElem?_eq_getElem hp
  have h1 := placeK_ge hy
  have h2 : ks[placeK ks q].seq ≠ q := by
    unfold thereK at ht
    rw [hy] at ht
    simpa using ht
  by_cases e : placeK ks q = j
  · subst e
    rw [hy] at hk
    cases hk
    omega
  · have := orderK_at h (by omega) hy hk
    omega

/-- One reply more keeps the form. -/
theorem withK_form {a : Int} {ks : List KeptD} {k : KeptD} (h : formFrom a a ks = true) (ht : thereK ks k.seq = false) (h1 : a < k.seq) (h2 : k.seq ≤ a + 4) (hk : keptB k = true) : formFrom a a (withK ks k) = true := by
  have hm := formFrom_mem h
  have hr := formFrom_rise h
  have hp : placeK ks k.seq ≤ ks.length := List.findIdx_le_length
  unfold withK
  refine formFrom_of (fun y hy => ?_) ?_
  · rcases List.mem_append.1 hy with hy | hy
    · exact hm y (List.mem_of_mem_take hy)
    · rcases List.mem_cons.1 hy with rfl | hy
      · exact ⟨h1, h2, hk⟩
      · exact hm y (List.mem_of_mem_drop hy)
  · refine List.pairwise_append.2 ⟨hr.sublist (List.take_sublist _ _), List.pairwise_cons.2 ⟨fun y hy => ?_, hr.sublist (List.drop_sublist _ _)⟩, fun x hx y hy => ?_⟩
    · obtain ⟨j, hj⟩ := List.mem_iff_getElem?.1 hy
      rw [List.getElem?_drop] at hj
      exact afterK hr ht (by omega) hj
    · obtain ⟨b, hb⟩ := List.mem_iff_getElem?.1 hx
      have hbl : b < placeK ks k.seq := by have := (List.getElem?_eq_some_iff.1 hb).1; rw [List.length_take] at this; omega
      rw [List.getElem?_take_of_lt hbl] at hb
      have h1 := placeK_lt hbl hb
      rcases List.mem_cons.1 hy with rfl | hy
      · exact h1
      · obtain ⟨j, hj⟩ := List.mem_iff_getElem?.1 hy
        rw [List.getElem?_drop] at hj
        have := afterK hr ht (by omega) hj
        omega

/-- A call that is to be done: its session is there, and has no reply of that number. -/
theorem answerD_yes {x : SessD} {q : Int} (h : (answerD x q).2 = true) : x.acked < q ∧ q ≤ x.acked + 4 ∧ thereK x.replies q = false := by
  unfold answerD at h
  split at h
  · cases h
  · rename_i h1
    split at h
    · cases h
    · rename_i h2
      split at h
      · cases h
      · refine ⟨by omega, by omega, ?_⟩
        cases ht : thereK x.replies q with
        | false => rfl
        | true =>
          exfalso
          unfold thereK at ht
          cases hk : x.replies[placeK x.replies q]? with
          | none => rw [hk] at ht; cases ht
          | some k => exact h2 k (by unfold thereK; rw [hk] at ht ⊢; exact ht) hk

theorem readyS_todo {ls : List SessD} {i c s q u : Int} (h : (readyS ls i c s q u).2.2 = true) : ∃ x, thereS ls c = true ∧ ls[placeS ls c]? = some x ∧ x.client = c ∧ x.id = s ∧ (readyS ls i c s q u).1 = ls.set (placeS ls c) (hearD x (i + 1) u) ∧ (answerD (hearD x (i + 1) u) q).2 = true ∧ (readyS ls i c s q u).2 = answerD (hearD x (i + 1) u) q := by
  cases ht : thereS ls c with
  | false => rw [readyS_away ht] at h; cases h
  | true =>
    obtain ⟨x, hx, e⟩ := thereS_some ht
    by_cases hs : x.id = s
    · have er := readyS_here (i := i) (q := q) (u := u) ht hx hs
      rw [er] at h
      exact ⟨x, rfl, hx, e, hs, by rw [er], h, by rw [er]⟩
    · rw [readyS_other ht hx hs] at h; cases h

theorem GoodS.ready {ls : List SessD} {i : Int} (h : GoodS ls i) (hi : i < 1073741824) (c s : Int) {q u : Int} (hq : q ≤ 1048576) (hu : u ≤ q - 1) : GoodS (readyS ls i c s q u).1 (i + 1) := by
  have hs := h.step (j := i + 1) (by omega) (by omega)
  cases ht : thereS ls c with
  | false => rw [readyS_away ht]; exact hs
  | true =>
    obtain ⟨x, hx, e⟩ := thereS_some ht
    by_cases hsn : x.id = s
    · rw [readyS_here ht hx hsn]
      exact hs.put hx rfl (hearD_fine (h.fine x (List.mem_of_getElem? hx)) hq hu)
    · rw [readyS_other ht hx hsn]; exact hs

theorem hasC_ready {ls : List SessD} {i c s q u : Int} (a : Int) : HasC (readyS ls i c s q u).1 a ↔ HasC ls a := by
  cases ht : thereS ls c with
  | false => rw [readyS_away ht]
  | true =>
    obtain ⟨x, hx, e⟩ := thereS_some ht
    by_cases hsn : x.id = s
    · rw [readyS_here ht hx hsn]; exact hasC_put (y := hearD x (i + 1) u) hx rfl a
    · rw [readyS_other ht hx hsn]

/-- The place of a client does not turn where one session is put anew. -/
theorem place_put {ls : List SessD} (h : ls.Pairwise (fun a b => a.client < b.client)) {p : Nat} {x y : SessD} (hx : ls[p]? = some x) (hc : y.client = x.client) : placeS (ls.set p y) x.client = p ∧ (ls.set p y)[p]? = some y ∧ thereS (ls.set p y) x.client = true := by
  have hp := (List.getElem?_eq_some_iff.1 hx).1
  have hself : (ls.set p y)[p]? = some y := List.getElem?_set_self hp
  have e : placeS (ls.set p y) x.client = p := by
    have hlt : placeS (ls.set p y) x.client ≤ p := by
      by_cases hh : p < placeS (ls.set p y) x.client
      · have := placeS_lt hh hself; omega
      · omega
    have hge : p ≤ placeS (ls.set p y) x.client := by
      by_cases hh : placeS (ls.set p y) x.client < p
      · exfalso
        have hl : placeS (ls.set p y) x.client < (ls.set p y).length := by rw [List.length_set]; omega
        have hz := List.getElem?_eq_getElem hl
        have h1 := placeS_ge hz
        have hz' : ls[placeS (ls.set p y) x.client]? = some (ls.set p y)[placeS (ls.set p y) x.client] := by
          rw [← hz, List.getElem?_set_ne (by omega)]
        have := order_at h hh hz' hx
        omega
      · omega
    omega
  refine ⟨e, hself, ?_⟩
  unfold thereS
  rw [e, hself]
  simpa using hc

/-- Behind a call that is to be done its reply can be kept. -/
theorem keep_ready {ls : List SessD} {i : Int} (h : GoodS ls i) (hi : i < 1073741824) {c s q u : Int} (hq : q ≤ 1048576) (hu : u ≤ q - 1) (ht : (readyS ls i c s q u).2.2 = true) {rc rn : Int} {rt : ByteArray} (hr : replyB rc rn rt.size = true) :
    keepE (readyS ls i c s q u).1 (i + 1) c ⟨q, rc, rn, rt⟩ = 0 ∧ GoodS (keepS (readyS ls i c s q u).1 c ⟨q, rc, rn, rt⟩) (i + 1) ∧ ∀ a, HasC (keepS (readyS ls i c s q u).1 c ⟨q, rc, rn, rt⟩) a ↔ HasC ls a := by
  have hg := h.ready hi c s hq hu
  obtain ⟨x, -, hx, e, -, er, ha, -⟩ := readyS_todo ht
  obtain ⟨a1, a2, a3⟩ := answerD_yes ha
  have hf := hearD_fine (u := u) (h.fine x (List.mem_of_getElem? hx)) hq hu
  have hhc := hasC_ready (ls := ls) (i := i) (c := c) (s := s) (q := q) (u := u)
  rw [er] at hg hhc ⊢
  obtain ⟨p1, p2, p3⟩ := place_put h.order hx (y := hearD x (i + 1) u) rfl
  rw [e] at p1 p3
  have p2' : (ls.set (placeS ls c) (hearD x (i + 1) u))[placeS (ls.set (placeS ls c) (hearD x (i + 1) u)) c]? = some (hearD x (i + 1) u) := by rw [p1]; exact p2
  have hw : formFrom (hearD x (i + 1) u).acked (hearD x (i + 1) u).acked (withK (hearD x (i + 1) u).replies ⟨q, rc, rn, rt⟩) = true := withK_form hf.form a3 a1 a2 hr
  refine ⟨keepE_ok (checkS_of hg) p3 p2' a3 hw, ?_, fun a => ?_⟩
  · rw [keepS_there p2']
    exact hg.put p2' rfl ⟨hf.range, hw⟩
  · rw [keepS_there p2', hasC_put (y := { hearD x (i + 1) u with replies := withK (hearD x (i + 1) u).replies ⟨q, rc, rn, rt⟩ }) p2' rfl a]
    exact hhc a

end Go.Proofs.YtpcacaohknkdlahGreatDoor

namespace Go.Proofs.YtpcacaohknkdlahGreatDoor

open Go.RowKit

theorem PairD.ext' {x y : PairD} (h1 : x.name = y.name) (h2 : x.value = y.value) (h3 : x.version = y.version) : x = y := by
  cases x; cases y; simp_all

/-- Setting keeps pairs such that may be. -/
theorem setP_good {ps : List PairD} {nm val : ByteArray} (h : GoodP ps) (hn : nameB nm = true) (hv : val.size ≤ 12) : GoodP (setP ps nm val).1 := by
  cases ht : thereP ps nm with
  | true =>
    obtain ⟨x, hx, he⟩ := thereP_yes ht
    have hxx := h.each x (List.mem_of_getElem? hx)
    by_cases hf : x.version = 1073741824
    · rw [setP_full hx he hf]; exact h
    · rw [setP_there hx he hf]
      have key : ∀ (j : Nat) (y : PairD), (ps.set (placeP ps nm) ⟨x.name, val, x.version + 1⟩)[j]? = some y → ∃ z, ps[j]? = some z ∧ z.name = y.name := by
        intro j y hy
        by_cases e : placeP ps nm = j
        · subst e
          have hl := (List.getElem?_eq_some_iff.1 hx).1
          rw [List.getElem?_set_self hl] at hy
          cases hy
          exact ⟨x, hx, rfl⟩
        · rw [List.getElem?_set_ne e] at hy
          exact ⟨y, hy, rfl⟩
      refine ⟨by rw [List.length_set]; exact h.len, fun y hy => ?_, fun i j y z hij hy hz => ?_⟩
      · rcases List.mem_or_eq_of_mem_set hy with hy | rfl
        · exact h.each y hy
        · exact ⟨hxx.1, hv, by show 1 ≤ x.version + 1; omega, by show x.version + 1 ≤ 1073741824; omega⟩
      · obtain ⟨y', hy', ey⟩ := key i y hy
        obtain ⟨z', hz', ez⟩ := key j z hz
        rw [← ey, ← ez]
        exact h.order i j y' z' hij hy' hz'
  | false =>
    by_cases hf : ps.length = 5
    · rw [setP_noroom ht hf]; exact h
    · rw [setP_new ht hf]
      have hle := placeP_le ps nm
      have hlen := h.len
      refine ⟨?_, fun y hy => ?_, fun i j y z hij hy hz => ?_⟩
      · simp only [List.length_append, List.length_take, List.length_cons, List.length_drop]; omega
      · rcases List.mem_append.1 hy with hy | hy
        · exact h.each y (List.mem_of_mem_take hy)
        · rcases List.mem_cons.1 hy with rfl | hy
          · exact ⟨hn, hv, by show (1 : Int) ≤ 1; omega, by show (1 : Int) ≤ 1073741824; omega⟩
          · exact h.each y (List.mem_of_mem_drop hy)
      · have get : ∀ (k : Nat) (u : PairD), (ps.take (placeP ps nm) ++ ⟨nm, val, 1⟩ :: ps.drop (placeP ps nm))[k]? = some u → (k < placeP ps nm ∧ ps[k]? = some u) ∨ (k = placeP ps nm ∧ u = ⟨nm, val, 1⟩) ∨ (placeP ps nm < k ∧ ps[k - 1]? = some u) := by
          intro k u hu
          have hlt : (ps.take (placeP ps nm)).length = placeP ps nm := by rw [List.length_take]; omega
          by_cases a : k < placeP ps nm
          · rw [List.getElem?_append_left (by omega), List.getElem?_take_of_lt a] at hu
            exact Or.inl ⟨a, hu⟩
          · rw [List.getElem?_append_right (by omega), hlt] at hu
            by_cases b : k = placeP ps nm
            · subst b
              rw [Nat.sub_self, List.getElem?_cons_zero] at hu
              exact Or.inr (Or.inl ⟨rfl, by simpa using hu.symm⟩)
            · rw [show k - placeP ps nm = (k - placeP ps nm - 1) + 1 by omega, List.getElem?_cons_succ, List.getElem?_drop, show placeP ps nm + (k - placeP ps nm - 1) = k - 1 by omega] at hu
              exact Or.inr (Or.inr ⟨by omega, hu⟩)
        have above : ∀ (k : Nat) (u : PairD), placeP ps nm ≤ k → ps[k]? = some u → ltP nm u.name = true := by
          intro k u hk hu
          have hkl : k < ps.length := (List.getElem?_eq_some_iff.1 hu).1
          have hpl : placeP ps nm < ps.length := by omega
          have hx : ps[placeP ps nm]? = some ps[placeP ps nm] := List.getElem?_eq_getElem hpl
          have hgt : ltP nm ps[placeP ps nm].name = true := ltP_total (placeP_at hx) (thereP_no h ht _ _ hx)
          by_cases e : placeP ps nm = k
          · subst e
            rw [hx] at hu
            cases hu
            exact hgt
          · exact ltP_trans hgt (h.order _ k _ u (by omega) hx hu)
        rcases get i y hy with ⟨a1, a2⟩ | ⟨a1, rfl⟩ | ⟨a1, a2⟩
        · rcases get j z hz with ⟨b1, b2⟩ | ⟨b1, rfl⟩ | ⟨b1, b2⟩
          · exact h.order i j y z hij a2 b2
          · exact placeP_before a1 a2
          · exact h.order i (j - 1) y z (by omega) a2 b2
        · rcases get j z hz with ⟨b1, b2⟩ | ⟨b1, rfl⟩ | ⟨b1, b2⟩
          · omega
          · omega
          · exact above (j - 1) z (by omega) b2
        · rcases get j z hz with ⟨b1, b2⟩ | ⟨b1, rfl⟩ | ⟨b1, b2⟩
          · omega
          · omega
          · exact h.order (i - 1) (j - 1) y z (by omega) a2 b2

theorem setP_rep {ps : List PairD} {nm val : ByteArray} (h : GoodP ps) : 0 ≤ (setP ps nm val).2.1 ∧ (setP ps nm val).2.1 ≤ 15 ∧ 0 ≤ (setP ps nm val).2.2 ∧ (setP ps nm val).2.2 ≤ 1073741824 := by
  unfold setP
  split
  · rename_i x hx
    have hxx := h.each x (List.mem_of_getElem? hx)
    split
    · split
      · simp
      · simp only; omega
    · split <;> simp
  · split <;> simp

theorem getP_rep {ps : List PairD} {nm : ByteArray} (h : GoodP ps) : 0 ≤ (getP ps nm).1 ∧ (getP ps nm).1 ≤ 15 ∧ 0 ≤ (getP ps nm).2.1 ∧ (getP ps nm).2.1 ≤ 1073741824 ∧ (getP ps nm).2.2.size ≤ 12 := by
  have e0 : (⟨#[]⟩ : ByteArray).size = 0 := rfl
  unfold getP
  split
  · rename_i x hx
    have hxx := h.each x (List.mem_of_getElem? hx)
    split
    · simp only; omega
    · simp [e0]
  · simp [e0]

end Go.Proofs.YtpcacaohknkdlahGreatDoor

namespace Go.Proofs.YtpcacaohknkdlahGreatDoor

open Go.RowKit

/-- Digits of seven bits, the lowest first, 128 more on all but the last; at most f + 1 of them. -/
def enc : Nat → Int → List Int
  | 0, m => [m]
  | f + 1, m => if m < 128 then [m] else (m % 128 + 128) :: enc f (m / 128)

/-- The bytes of a number (up to 2^42). -/
def encN (n : Int) : List Int := enc 5 n

theorem enc_small (f : Nat) (m : Int) (h : m < 128) : enc f m = [m] := by
  cases f <;> simp [enc, h]

theorem enc_step (f : Nat) (m : Int) (h : ¬ m < 128) : enc (f + 1) m = (m % 128 + 128) :: enc f (m / 128) := by
  simp [enc, h]

theorem enc_length (f : Nat) : ∀ m, 1 ≤ (enc f m).length ∧ (enc f m).length ≤ f + 1 := by
  induction f with
  | zero => intro m; simp [enc]
  | succ f ih =>
    intro m
    by_cases h : m < 128
    · simp [enc, h]
    · have := ih (m / 128); simp [enc, h]; omega

theorem encN_length (n : Int) : 1 ≤ (encN n).length ∧ (encN n).length ≤ 6 := enc_length 5 n

/-- How far a number reaches with f more digits. -/
def reach : Nat → Int
  | 0 => 128
  | f + 1 => 128 * reach f

theorem reach_div (f : Nat) (m : Int) (h0 : 0 ≤ m) (h : m < reach (f + 1)) : 0 ≤ m / 128 ∧ m / 128 < reach f := by
  simp only [reach] at h
  omega

end Go.Proofs.YtpcacaohknkdlahGreatDoor
