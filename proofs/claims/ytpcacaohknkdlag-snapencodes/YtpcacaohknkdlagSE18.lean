/- What holds of each lock when a client is gone; Locks that may be, and what taking, freeing and going keep of them; who has them, or stands in their lines. Plain lists (joined by program) -/
import Derived.BigQuiet
import Derived.Test.YtpcacaohknkdlagSE17
import Derived.Test.YtpcacaohknkdlagSE16
import Derived.Test.YtpcacaohknkdlagSE09
namespace Go.Proofs.Ytpcacaohknkdlag

open Go.RowKit

theorem leave_facts {x : LockD} (h : LockOk x) {a : Int} (ha : 1 ≤ a) : (leaveX x a).holder ≠ a ∧ hasB a (leaveX x a).line = false ∧ (x.holder ≠ 0 → x.holder ≠ a → (leaveX x a).holder = x.holder) ∧ x.fence ≤ (leaveX x a).fence := by
  refine ⟨?_, ?_, ?_, (leaveX_name x a).2.1⟩
  · by_cases hw : x.holder = a
    · rw [leaveX_holder hw]
      obtain ⟨xn, xh, xf, xl⟩ := x
      simp only at hw
      cases xl with
      | nil => simp [giveUpX]; omega
      | cons b t =>
        have := (h.line.each b (by simp)).2.2
        simp only at this
        by_cases hm : xf = 1073741824
        · simp [giveUpX, hm]; omega
        · simp [giveUpX, hm]; omega
    · simp [leaveX, hw]
  · refine decide_eq_false fun hm => ?_
    by_cases hw : x.holder = a
    · rw [leaveX_holder hw] at hm
      obtain ⟨xn, xh, xf, xl⟩ := x
      simp only at hw
      cases xl with
      | nil => simp [giveUpX] at hm
      | cons b t =>
        by_cases hx : xf = 1073741824
        · simp [giveUpX, hx] at hm
        · have e : giveUpX ⟨xn, xh, xf, b :: t⟩ = ⟨xn, b, xf + 1, t⟩ := by simp [giveUpX, hx]
          rw [e] at hm
          exact (h.line.each a (by simp only at hm ⊢; simp [hm])).2.2 hw.symm
    · have e : leaveX x a = { x with line := x.line.filter (· != a) } := by simp [leaveX, hw]
      rw [e] at hm
      have := (List.mem_filter.1 hm).2
      simp at this
  · intro _ hw
    simp [leaveX, hw]

end Go.Proofs.Ytpcacaohknkdlag

namespace Go.Proofs.Ytpcacaohknkdlag

open Go.RowKit

/-- Locks that may be. -/
structure GoodL (ls : List LockD) : Prop where
  len : ls.length ≤ 5
  each : ∀ x ∈ ls, LockOk x ∧ 1 ≤ x.fence ∧ x.fence ≤ 1073741824
  chain : chainN ⟨#[]⟩ (ls.map (·.name))

theorem GoodL.of {ls : List LockD} (h : checkL ls = 0) : GoodL ls := by
  unfold checkL at h
  by_cases h5 : 5 < ls.length
  · rw [if_pos h5] at h; cases h
  · rw [if_neg h5, checkFrom_iff] at h
    exact ⟨by omega, h.1, h.2⟩

theorem GoodL.nil : GoodL [] := ⟨by simp, by simp, trivial⟩

theorem leN_anti {a b : ByteArray} (hne : eqN a b = false) (hle : leN a b = true) : leN b a = false := by
  have h : ltP a b = true := by
    cases hx : ltP a b with
    | true => rfl
    | false =>
      have h1 : leP a b = true := hle
      have h2 : eqP a b = false := hne
      unfold leP at h1
      unfold ltP at hx
      unfold eqP at h2
      rw [hx, h2] at h1
      cases h1
  exact leP_of_lt h

theorem giveUpX_high {x : LockD} (h : x.fence ≤ 1073741824) : (giveUpX x).fence ≤ 1073741824 := by
  obtain ⟨xn, xh, xf, xl⟩ := x
  simp only at h
  cases xl with
  | nil => simpa [giveUpX] using h
  | cons a t =>
    by_cases hm : xf = 1073741824
    · simp [giveUpX, hm]
    · simp [giveUpX, hm]; omega

theorem leaveX_high {x : LockD} (who : Int) (h : x.fence ≤ 1073741824) : (leaveX x who).fence ≤ 1073741824 := by
  by_cases hw : x.holder = who
  · rw [leaveX_holder hw]; exact giveUpX_high h
  · simpa [leaveX, hw] using h

theorem takeX_high {x : LockD} (who : Int) (wait : Bool) (h : x.fence ≤ 1073741824) : (takeX x who wait).1.fence ≤ 1073741824 := by
  unfold takeX meetX
  repeat' split
  all_goals (simp only; omega)

theorem GoodL.gone {ls : List LockD} (h : GoodL ls) (who : Int) : GoodL (goneL ls who) := by
  refine ⟨by simpa [goneL] using h.len, fun x hx => ?_, ?_⟩
  · obtain ⟨y, hy, rfl⟩ := List.mem_map.1 hx
    obtain ⟨h1, h2, h3⟩ := h.each y hy
    obtain ⟨e1, e2, e3⟩ := leaveX_name y who
    exact ⟨h1.leave who, by omega, leaveX_high who h3⟩
  · have : (goneL ls who).map (·.name) = ls.map (·.name) := by
      unfold goneL
      rw [List.map_map]
      exact List.map_congr_left fun y _ => (leaveX_name y who).1
    rw [this]
    exact h.chain

theorem GoodL.set {ls : List LockD} (h : GoodL ls) {i : Nat} {x y : LockD} (hx : ls[i]? = some x) (hy : LockOk y) (hn : y.name = x.name) (f1 : x.fence ≤ y.fence) (f2 : y.fence ≤ 1073741824) : GoodL (ls.set i y) := by
  have hxm := h.each x (List.mem_of_getElem? hx)
  refine ⟨by simpa using h.len, fun z hz => ?_, ?_⟩
  · rcases List.mem_or_eq_of_mem_set hz with hz | rfl
    · exact h.each z hz
    · exact ⟨hy, by omega, f2⟩
  · have : (ls.set i y).map (·.name) = ls.map (·.name) := by
      rw [List.map_set, hn]
      obtain ⟨hi, he⟩ := List.getElem?_eq_some_iff.1 hx
      refine List.ext_getElem (by simp) fun j h1 h2 => ?_
      rw [List.getElem_set]
      split
      · rename_i e; subst e; simp [he]
      · rfl
    rw [this]
    exact h.chain

theorem GoodL.free {ls : List LockD} (h : GoodL ls) (nm : ByteArray) (who : Int) : GoodL (freeL ls nm who).1 := by
  by_cases hat : atL ls nm < ls.length
  · obtain ⟨x, hx, -⟩ := atL_found hat
    rw [freeL_found hat hx]
    have hxm := h.each x (List.mem_of_getElem? hx)
    have := leaveX_name x who
    exact h.set hx (hxm.1.leave who) this.1 this.2.1 (leaveX_high who hxm.2.2)
  · unfold freeL
    rw [dif_neg hat]
    exact h

theorem chain_insG {nm : ByteArray} {x : LockD} (hx : x.name = nm) (ls : List LockD) : ∀ p, (∀ y ∈ ls, eqN y.name nm = false) → leN nm p = false → chainN p (ls.map (·.name)) → chainN p ((ls.take (placeL ls nm) ++ x :: ls.drop (placeL ls nm)).map (·.name)) := by
  induction ls with
  | nil => intro p _ h _; simp [placeL, chainN, hx, h]
  | cons y t ih =>
    intro p he h hc
    unfold placeL
    rw [List.findIdx_cons]
    cases hg : gtN y.name nm with
    | true =>
      simp only [cond_true, List.take_zero, List.drop_zero, List.nil_append, List.map_cons, chainN]
      refine ⟨by rw [hx]; exact h, ?_, hc.2⟩
      rw [hx]
      simpa [gtN] using hg
    | false =>
      simp only [cond_false, List.take_succ_cons, List.drop_succ_cons, List.cons_append, List.map_cons, chainN]
      refine ⟨hc.1, ih y.name (fun z hz => he z (by simp [hz])) ?_ hc.2⟩
      exact leN_anti (he y (by simp)) (by simpa [gtN] using hg)

theorem GoodL.take {ls : List LockD} (h : GoodL ls) {nm : ByteArray} (hn : nameB nm = true) {who : Int} (w1 : 1 ≤ who) (w2 : who ≤ 9) (wait : Bool) : GoodL (takeL ls nm who wait).1 := by
  by_cases hat : atL ls nm < ls.length
  · obtain ⟨x, hx, -⟩ := atL_found hat
    have e : ls[atL ls nm] = x := (List.getElem?_eq_some_iff.1 hx).2
    have hxm := h.each x (List.mem_of_getElem? hx)
    have := takeX_name x who wait
    unfold takeL
    rw [dif_pos hat, e]
    exact h.set hx (hxm.1.take w1 w2 wait) this.1 this.2.1 (takeX_high who wait hxm.2.2)
  · unfold takeL
    rw [dif_neg hat]
    by_cases h5 : ls.length = 5
    · rw [if_pos h5]; exact h
    rw [if_neg h5]
    have hpl : placeL ls nm ≤ ls.length := List.findIdx_le_length
    have hl := h.len
    have he : ∀ y ∈ ls, eqN y.name nm = false := fun y hy => by
      obtain ⟨j, hj⟩ := List.getElem?_of_mem hy
      exact atL_none hat j y hj
    refine ⟨by simp [List.length_take, List.length_drop]; omega, fun x hx => ?_, chain_insG (x := ⟨nm, who, 1, []⟩) (nm := nm) rfl ls _ he (leP_empty hn) h.chain⟩
    simp only at hx
    rcases List.mem_append.1 hx with hx | hx
    · exact h.each x (List.mem_of_mem_take hx)
    · rcases List.mem_cons.1 hx with rfl | hx
      · exact ⟨⟨hn, by simp only; omega, by simp only; omega, ⟨by simp, fun _ => rfl, by simp, by simp⟩⟩, by simp, by simp⟩
      · exact h.each x (List.mem_of_mem_drop hx)

/-- All that have a lock, or stand in a line, are such. -/
def Holds (H : Int → Prop) (ls : List LockD) : Prop := ∀ x ∈ ls, (x.holder ≠ 0 → H x.holder) ∧ ∀ a ∈ x.line, H a

theorem Holds.nil (H : Int → Prop) : Holds H [] := fun x hx => by cases hx

theorem Holds.mono {H K : Int → Prop} {ls : List LockD} (h : Holds H ls) (hk : ∀ a, H a → K a) : Holds K ls := fun x hx => ⟨fun h0 => hk _ ((h x hx).1 h0), fun a ha => hk _ ((h x hx).2 a ha)⟩

/-- Who has a lock that a client left, or stands in its line, did so ahead of it. -/
theorem leaveX_from (x : LockD) (who : Int) : ((leaveX x who).holder = 0 ∨ (leaveX x who).holder = x.holder ∨ (leaveX x who).holder ∈ x.line) ∧ ∀ a ∈ (leaveX x who).line, a ∈ x.line := by
  by_cases hw : x.holder = who
  · rw [leaveX_holder hw]
    obtain ⟨xn, xh, xf, xl⟩ := x
    cases xl with
    | nil => simp [giveUpX]
    | cons b t =>
      by_cases hm : xf = 1073741824
      · simp [giveUpX, hm]
      · have e : giveUpX ⟨xn, xh, xf, b :: t⟩ = ⟨xn, b, xf + 1, t⟩ := by simp [giveUpX, hm]
        rw [e]
        exact ⟨Or.inr (Or.inr (by simp)), fun a ha => List.mem_cons_of_mem _ ha⟩
  · have e : leaveX x who = { x with line := x.line.filter (· != who) } := by simp [leaveX, hw]
    rw [e]
    exact ⟨Or.inr (Or.inl rfl), fun a ha => (List.mem_filter.1 ha).1⟩

theorem Holds.leave {H : Int → Prop} {x : LockD} (hx : (x.holder ≠ 0 → H x.holder) ∧ ∀ a ∈ x.line, H a) (who : Int) : ((leaveX x who).holder ≠ 0 → H (leaveX x who).holder) ∧ ∀ a ∈ (leaveX x who).line, H a := by
  obtain ⟨h1, h2⟩ := leaveX_from x who
  refine ⟨fun h0 => ?_, fun a ha => hx.2 a (h2 a ha)⟩
  rcases h1 with e | e | e
  · exact absurd e h0
  · rw [e] at h0 ⊢; exact hx.1 h0
  · exact hx.2 _ e

theorem Holds.gone {H : Int → Prop} {ls : List LockD} (h : Holds H ls) (hg : GoodL ls) {who : Int} (hw : 1 ≤ who) : Holds (fun a => H a ∧ a ≠ who) (goneL ls who) := by
  intro x hx
  obtain ⟨y, hy, rfl⟩ := List.mem_map.1 hx
  obtain ⟨k1, k2⟩ := Holds.leave (h y hy) who
  obtain ⟨l1, l2, -⟩ := leave_facts (hg.each y hy).1 hw
  refine ⟨fun h0 => ⟨k1 h0, l1⟩, fun a ha => ⟨k2 a ha, fun e => ?_⟩⟩
  subst e
  exact of_decide_eq_false l2 ha

theorem Holds.set {H : Int → Prop} {ls : List LockD} (h : Holds H ls) {i : Nat} {y : LockD} (hy : (y.holder ≠ 0 → H y.holder) ∧ ∀ a ∈ y.line, H a) : Holds H (ls.set i y) := by
  intro x hx
  rcases List.mem_or_eq_of_mem_set hx with hx | rfl
  · exact h x hx
  · exact hy

theorem Holds.free {H : Int → Prop} {ls : List LockD} (h : Holds H ls) (nm : ByteArray) (who : Int) : Holds H (freeL ls nm who).1 := by
  by_cases hat : atL ls nm < ls.length
  · obtain ⟨x, hx, -⟩ := atL_found hat
    rw [freeL_found hat hx]
    exact h.set (Holds.leave (h x (List.mem_of_getElem? hx)) who)
  · unfold freeL
    rw [dif_neg hat]
    exact h

theorem Holds.takeX {H : Int → Prop} {x : LockD} (hx : (x.holder ≠ 0 → H x.holder) ∧ ∀ a ∈ x.line, H a) {who : Int} (hw : H who) (wait : Bool) : ((takeX x who wait).1.holder ≠ 0 → H (takeX x who wait).1.holder) ∧ ∀ a ∈ (takeX x who wait).1.line, H a := by
  unfold Go.Proofs.Ytpcacaohknkdlag.takeX meetX
  repeat' split
  · exact hx
  · exact hx
  · refine ⟨hx.1, fun a ha => ?_⟩
    rcases List.mem_append.1 ha with ha | ha
    · exact hx.2 a ha
    · have : a = who := by simpa using ha
      rw [this]; exact hw
  · exact hx
  · exact hx
  · exact ⟨fun _ => hw, hx.2⟩

theorem Holds.take {H : Int → Prop} {ls : List LockD} (h : Holds H ls) (nm : ByteArray) {who : Int} (hw : H who) (wait : Bool) : Holds H (takeL ls nm who wait).1 := by
  by_cases hat : atL ls nm < ls.length
  · obtain ⟨x, hx, -⟩ := atL_found hat
    have e : ls[atL ls nm] = x := (List.getElem?_eq_some_iff.1 hx).2
    unfold takeL
    rw [dif_pos hat, e]
    exact h.set (Holds.takeX (h x (List.mem_of_getElem? hx)) hw wait)
  · unfold takeL
    rw [dif_neg hat]
    split
    · exact h
    · intro x hx
      simp only at hx
      rcases List.mem_append.1 hx with hx | hx
      · exact h x (List.mem_of_mem_take hx)
      · rcases List.mem_cons.1 hx with rfl | hx
        · exact ⟨fun _ => hw, by simp⟩
        · exact h x (List.mem_of_mem_drop hx)

end Go.Proofs.Ytpcacaohknkdlag
