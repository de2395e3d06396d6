/- A region that draws its order, by an invariant over what has come up: one step an operation, whatever the order. It imports no program. -/
import Derived.WalkKit
import Derived.ProofKit
import Derived.RegionTactic
namespace Go.Proofs.YtnclipjepefpjaeDoor
open Go.RowKit

section
variable {P : Program} {ops : Array Oper} {Q : Exit → Act → World → Prop} {md : Region.Mode}

/-- What has come up, operation i with it. -/
def upon (d : Nat → Bool) (i : Nat) : Nat → Bool := fun j => if j = i then true else d j

/-- Has an operation come up? -/
def came (l : Array Bool) (i : Nat) : Bool := l.getD i true

theorem came_set (l : Array Bool) (i : Nat) : came (l.setIfInBounds i true) = upon (came l) i := by
  funext j
  unfold came upon
  by_cases h : j = i
  · subst h
    rw [if_pos rfl]
    by_cases hj : j < l.size
    · simp [Array.getD, hj]
    · simp [Array.getD, hj]
  · rw [if_neg h]
    simp only [Array.getD_eq_getD_getElem?]
    rw [Array.getElem?_setIfInBounds_ne (by omega)]

theorem mem_ready {l : Array Bool} {i : Nat} (h : i ∈ Region.ready md ops l) : ∃ o, ops[i]? = some o ∧ came l i = false ∧ ∀ e ∈ o.after, Region.binds md e = true → l.getD e.on false = true := by
  unfold Region.ready at h
  obtain ⟨h1, h2⟩ := List.mem_filter.1 h
  rw [Bool.and_eq_true] at h2
  obtain ⟨h3, h4⟩ := h2
  cases ho : ops[i]? with
  | none => rw [ho] at h4; simp at h4
  | some o =>
    rw [ho] at h4
    simp only [Option.map_some, Option.getD_some] at h4
    refine ⟨o, rfl, by simpa [came] using h3, fun e he hb => ?_⟩
    have := Array.all_eq_true_iff_forall_mem.1 h4 e he
    rw [hb] at this
    simpa using this

theorem ready_nil {l : Array Bool} (h : Region.ready md ops l = []) {i : Nat} {o : Oper} (ho : ops[i]? = some o) (hc : came l i = false) : ∃ e ∈ o.after, Region.binds md e = true ∧ l.getD e.on false = false := by
  apply Classical.byContradiction
  intro hn
  have hi : i < ops.size := (Array.getElem?_eq_some_iff.1 ho).1
  have : i ∈ Region.ready md ops l := by
    unfold Region.ready
    refine List.mem_filter.2 ⟨List.mem_range.2 hi, ?_⟩
    rw [Bool.and_eq_true, ho]
    refine ⟨by simpa [came] using hc, ?_⟩
    simp only [Option.map_some, Option.getD_some]
    refine Array.all_eq_true_iff_forall_mem.2 fun e he => ?_
    cases hb : Region.binds md e with
    | false => rfl
    | true =>
      cases hg : l.getD e.on false with
      | true => rfl
      | false => exact absurd ⟨e, he, hb, hg⟩ hn
  rw [h] at this
  cases this

/-- How many have not come up. -/
def tocome (l : Array Bool) : Nat := l.toList.countP (· == false)

theorem tocome_set {l : Array Bool} {i : Nat} (hi : i < l.size) (h : came l i = false) : tocome (l.setIfInBounds i true) + 1 = tocome l := by
  unfold tocome
  have hl : i < l.toList.length := by simpa using hi
  have hv : l.toList[i] = false := by simpa [came, Array.getD, hi] using h
  have e : (l.setIfInBounds i true).toList = l.toList.set i true := by simp
  rw [e]
  have := List.countP_set (p := (· == false)) (l := l.toList) (i := i) (a := true) hl
  rw [hv] at this
  simp only [beq_self_eq_true, if_true] at this
  have hpos : 0 < l.toList.countP (· == false) := List.countP_pos_iff.2 ⟨false, by rw [← hv]; exact List.getElem_mem hl, rfl⟩
  have e2 : (true == false) = false := rfl
  rw [e2] at this
  simp only [Bool.false_eq_true, if_false] at this
  omega

theorem getD_came {l : Array Bool} {i : Nat} (hi : i < l.size) : l.getD i false = came l i := by
  simp [came, Array.getD, hi]

theorem wpAny_inv (I : (Nat → Bool) → Act → World → Prop) (hon : ∀ (i : Nat) (o : Oper), ops[i]? = some o → ∀ e ∈ o.after, e.on < ops.size)
    (hdone : ∀ d a w, I d a w → (∀ (i : Nat) (o : Oper), ops[i]? = some o → d i = false → ∃ e ∈ o.after, Region.binds md e = true ∧ d e.on = false) → Q .normal a w)
    (hstep : ∀ (d : Nat → Bool) (a : Act) (w : World) (i : Nat) (o : Oper), I d a w → ops[i]? = some o → d i = false → (∀ e ∈ o.after, Region.binds md e = true → d e.on = true) → wpOp P ops Q i (fun a' w' => I (upon d i) a' w') a w) :
    ∀ (fuel : Nat) (l : Array Bool) (a : Act) (w : World), l.size = ops.size → tocome l ≤ fuel → I (came l) a w → wpAny P md ops Q fuel l a w := by
  have dn : ∀ (l : Array Bool) (a : Act) (w : World), l.size = ops.size → I (came l) a w → Region.ready md ops l = [] → Q .normal a w := by
    intro l a w hs hI hr
    refine hdone _ a w hI fun i o ho hc => ?_
    obtain ⟨e, he, hb, hg⟩ := ready_nil hr ho hc
    exact ⟨e, he, hb, by rw [← getD_came (by rw [hs]; exact hon i o ho e he)]; exact hg⟩
  intro fuel
  induction fuel with
  | zero =>
    intro l a w hs ht hI
    have hr : Region.ready md ops l = [] := by
      cases hx : Region.ready md ops l with
      | nil => rfl
      | cons i t =>
        have hi : i ∈ Region.ready md ops l := by rw [hx]; simp
        obtain ⟨o, ho, hc, -⟩ := mem_ready hi
        have := tocome_set (by rw [hs]; exact (Array.getElem?_eq_some_iff.1 ho).1) hc
        omega
    exact ⟨hr, dn l a w hs hI hr⟩
  | succ fuel ih =>
    intro l a w hs ht hI
    refine ⟨dn l a w hs hI, fun i hi => ?_⟩
    obtain ⟨o, ho, hc, hd⟩ := mem_ready hi
    have hil : i < l.size := by rw [hs]; exact (Array.getElem?_eq_some_iff.1 ho).1
    refine wpOp_mono (K := fun a' w' => I (upon (came l) i) a' w') (fun a' w' hI' => ?_) (hstep _ a w i o hI ho hc fun e he hb => by rw [← getD_came (by rw [hs]; exact hon i o ho e he)]; exact hd e he hb)
    refine ih _ a' w' (by simpa using hs) ?_ (by rw [came_set]; exact hI')
    have := tocome_set hil hc
    omega

theorem wpOp_plain {i : Nat} {o : Oper} {K : Act → World → Prop} {a : Act} {w : World} (ho : ops[i]? = some o) (hg : o.guard = none)
    (h : ∀ K' : Act → World → Prop, (∀ a w, K a w → K' a w) → Oper.wp P o a w K' Q) : wpOp P ops Q i K a w :=
  wpOp_step ho fun K' hK => by
    have hw : Region.wanted o (yielded ops a.tmps) = true := by simp [Region.wanted, hg]
    rw [if_pos hw]
    exact h K' hK

/-- Where each waits for earlier ones alone, and none may come up: all have come up. -/
theorem all_came {d : Nat → Bool} (hlt : ∀ (i : Nat) (o : Oper), ops[i]? = some o → ∀ e ∈ o.after, e.on < i)
    (hnr : ∀ (i : Nat) (o : Oper), ops[i]? = some o → d i = false → ∃ e ∈ o.after, Region.binds md e = true ∧ d e.on = false) : ∀ i, i < ops.size → d i = true := by
  intro i
  induction i using Nat.strongRecOn with
  | ind i ih =>
    intro hi
    cases hd : d i with
    | true => rfl
    | false =>
      obtain ⟨e, he, -, hf⟩ := hnr i ops[i] (Array.getElem?_eq_getElem hi) hd
      have h1 := hlt i _ (Array.getElem?_eq_getElem hi) e he
      rw [ih e.on h1 (by omega)] at hf
      cases hf

/-- A REGION THAT DRAWS ITS ORDER, BY AN INVARIANT. -/
theorem wp_region_inv {id : Nat} {a : Act} {w : World} (hm : P.follows .mixedOrders = true) (I : (Nat → Bool) → Act → World → Prop)
    (honB : ((List.range ops.size).all fun i => ((ops[i]?).map fun o => o.after.all fun e => decide (e.on < i)).getD true) = true)
    (hstart : I (fun i => decide (ops.size ≤ i)) a w.drew)
    (hdone : ∀ (d : Nat → Bool) (a : Act) (w : World), I d a w → (∀ i, i < ops.size → d i = true) → Q .normal a w)
    (hstep : ∀ (d : Nat → Bool) (a : Act) (w : World) (i : Nat) (o : Oper), I d a w → ops[i]? = some o → d i = false → (∀ e ∈ o.after, Region.binds .any e = true → d e.on = true) → wpOp P ops Q i (fun a' w' => I (upon d i) a' w') a w) :
    (Code.region id ops true).wp P Q a w := by
  have hlt : ∀ (i : Nat) (o : Oper), ops[i]? = some o → ∀ e ∈ o.after, e.on < i := fun i o ho e he => by
    have hi : i < ops.size := (Array.getElem?_eq_some_iff.1 ho).1
    have h1 := List.all_eq_true.1 honB i (List.mem_range.2 hi)
    rw [ho] at h1
    exact of_decide_eq_true (Array.all_eq_true_iff_forall_mem.1 h1 e he)
  have hon : ∀ (i : Nat) (o : Oper), ops[i]? = some o → ∀ e ∈ o.after, e.on < ops.size := fun i o ho e he => Nat.lt_trans (hlt i o ho e he) (Array.getElem?_eq_some_iff.1 ho).1
  refine wp_region_any hm (wpAny_inv I hon (fun d a w hI hnr => hdone d a w hI (all_came hlt hnr)) hstep ops.size _ a _ (by simp) ?_ ?_)
  · unfold tocome
    have := List.countP_le_length (p := (· == false)) (l := (Array.replicate ops.size false).toList)
    simpa using this
  · have e : came (Array.replicate ops.size false) = fun i => decide (ops.size ≤ i) := by
      funext i
      unfold came
      by_cases h : i < ops.size
      · simp [Array.getD, h]
      · simp [Array.getD, h]
        omega
    rw [e]
    exact hstart
end
end Go.Proofs.YtnclipjepefpjaeDoor
