/- A region that draws its order, by an invariant over what has come up: one step an operation, whatever the order. It imports no program; tackroomkeep.Op: an operation of a raw thing (joined by program) -/
import Derived.WalkKit
import Derived.ProofKit
import Derived.RegionTactic
import Derived.Deep.DeepCutAuto
import Derived.Deep.RegionWith
import Derived.Deep.RegionHeld3
import Derived.Test.YtcjoekjjebcomalDoorCA22
namespace Go.Proofs.YtcjoekjjebcomalDoor

open Go.RowKit

section

variable {P : Program} {ops : Array Oper} {Q : Exit → Act → World → Prop} {md : Region.Mode}

/-- What has come up, operation i with it. -/
def upon (d : Nat → Bool) (i : Nat) : Nat → Bool := fun j => if j = i then true else d j

/-- Has an operation come up? -/
def came (l : Array Bool) (i : Nat) : Bool := l.getD i true

theorem came_set (l : Array Bool) (i : Nat) : came (l.setIfInBounds i true) = upon (came l) i := by
  funext j
  unfold came upon
  by_cases h : j = i
  · subst h
    rw [if_pos rfl]
    by_cases hj : j < l.size
    · simp [Array.getD, hj]
    · simp [Array.getD, hj]
  · rw [if_neg h]
    simp only [Array.getD_eq_getD_getElem?]
    rw [Array.getElem?_setIfInBounds_ne (by omega)]

theorem mem_ready {l : Array Bool} {i : Nat} (h : i ∈ Region.ready md ops l) : ∃ o, ops[i]? = some o ∧ came l i = false ∧ ∀ e ∈ o.after, Region.binds md e = true → l.getD e.on false = true := by
  unfold Region.ready at h
  obtain ⟨h1, h2⟩ := List.mem_filter.1 h
  rw [Bool.and_eq_true] at h2
  obtain ⟨h3, h4⟩ := h2
  cases ho : ops[i]? with
  | none => rw [ho] at h4; simp at h4
  | some o =>
    rw [ho] at h4
    simp only [Option.map_some, Option.getD_some] at h4
    refine ⟨o, rfl, by simpa [came] using h3, fun e he hb => ?_⟩
    have := Array.all_eq_true_iff_forall_mem.1 h4 e he
    rw [hb] at this
    simpa using this

theorem ready_nil {l : Array Bool} (h : Region.ready md ops l = []) {i : Nat} {o : Oper} (ho : ops[i]? = some o) (hc : came l i = false) : ∃ e ∈ o.after, Region.binds md e = true ∧ l.getD e.on false = false := by
  apply Classical.byContradiction
  intro hn
  have hi : i < ops.size := (Array.getElem?_eq_some_iff.1 ho).1
  have : i ∈ Region.ready md ops l := by
    unfold Region.ready
    refine List.mem_filter.2 ⟨List.mem_range.2 hi, ?_⟩
    rw [Bool.and_eq_true, ho]
    refine ⟨by simpa [came] using hc, ?_⟩
    simp only [Option.map_some, Option.getD_some]
    refine Array.all_eq_true_iff_forall_mem.2 fun e he => ?_
    cases hb : Region.binds md e with
    | false => rfl
    | true =>
      cases hg : l.getD e.on false with
      | true => rfl
      | false => exact absurd ⟨e, he, hb, hg⟩ hn
  rw [h] at this
  cases this

/-- How many have not come up. -/
def tocome (l : Array Bool) : Nat := l.toList.countP (· == false)

theorem tocome_set {l : Array Bool} {i : Nat} (hi : i < l.size) (h : came l i = false) : tocome (l.setIfInBounds i true) + 1 = tocome l := by
  unfold tocome
  have hl : i < l.toList.length := by simpa using hi
  have hv : l.toList[i] = false := by simpa [came, Array.getD, hi] using h
  have e : (l.setIfInBounds i true).toList = l.toList.set i true := by simp
  rw [e]
  have := List.countP_set (p := (· == false)) (l := l.toList) (i := i) (a := true) hl
  rw [hv] at this
  simp only [beq_self_eq_true, if_true] at this
  have hpos : 0 < l.toList.countP (· == false) := List.countP_pos_iff.2 ⟨false, by rw [← hv]; exact List.getElem_mem hl, rfl⟩
  have e2 : (true == false) = false := rfl
  rw [e2] at this
  simp only [Bool.false_eq_true, if_false] at this
  omega

theorem getD_came {l : Array Bool} {i : Nat} (hi : i < l.size) : l.getD i false = came l i := by
  simp [came, Array.getD, hi]

theorem wpAny_inv (I : (Nat → Bool) → Act → World → Prop) (hon : ∀ (i : Nat) (o : Oper), ops[i]? = some o → ∀ e ∈ o.after, e.on < ops.size)
    (hdone : ∀ d a w, I d a w → (∀ (i : Nat) (o : Oper), ops[i]? = some o → d i = false → ∃ e ∈ o.after, Region.binds md e = true ∧ d e.on = false) → Q .normal a w)
    (hstep : ∀ (d : Nat → Bool) (a : Act) (w : World) (i : Nat) (o : Oper), I d a w → ops[i]? = some o → d i = false → (∀ e ∈ o.after, Region.binds md e = true → d e.on = true) → wpOp P ops Q i (fun a' w' => I (upon d i) a' w') a w) :
    ∀ (fuel : Nat) (l : Array Bool) (a : Act) (w : World), l.size = ops.size → tocome l ≤ fuel → I (came l) a w → wpAny P md ops Q fuel l a w := by
  have dn : ∀ (l : Array Bool) (a : Act) (w : World), l.size = ops.size → I (came l) a w → Region.ready md ops l = [] → Q .normal a w := by
    intro l a w hs hI hr
    refine hdone _ a w hI fun i o ho hc => ?_
    obtain ⟨e, he, hb, hg⟩ := ready_nil hr ho hc
    exact ⟨e, he, hb, by rw [← getD_came (by rw [hs]; exact hon i o ho e he)]; exact hg⟩
  intro fuel
  induction fuel with
  | zero =>
    intro l a w hs ht hI
    have hr : Region.ready md ops l = [] := by
      cases hx : Region.ready md ops l with
      | nil => rfl
      | cons i t =>
        have hi : i ∈ Region.ready md ops l := by rw [hx]; simp
        obtain ⟨o, ho, hc, -⟩ := mem_ready hi
        have := tocome_set (by rw [hs]; exact (Array.getElem?_eq_some_iff.1 ho).1) hc
        omega
    exact ⟨hr, dn l a w hs hI hr⟩
  | succ fuel ih =>
    intro l a w hs ht hI
    refine ⟨dn l a w hs hI, fun i hi => ?_⟩
    obtain ⟨o, ho, hc, hd⟩ := mem_ready hi
    have hil : i < l.size := by rw [hs]; exact (Array.getElem?_eq_some_iff.1 ho).1
    refine wpOp_mono (K := fun a' w' => I (upon (came l) i) a' w') (fun a' w' hI' => ?_) (hstep _ a w i o hI ho hc fun e he hb => by rw [← getD_came (by rw [hs]; exact hon i o ho e he)]; exact hd e he hb)
    refine ih _ a' w' (by simpa using hs) ?_ (by rw [came_set]; exact hI')
    have := tocome_set hil hc
    omega

theorem wpOp_plain {i : Nat} {o : Oper} {K : Act → World → Prop} {a : Act} {w : World} (ho : ops[i]? = some o) (hg : o.guard = none)
    (h : ∀ K' : Act → World → Prop, (∀ a w, K a w → K' a w) → Oper.wp P o a w K' Q) : wpOp P ops Q i K a w :=
  wpOp_step ho fun K' hK => by
    have hw : Region.wanted o (yielded ops a.tmps) = true := by simp [Region.wanted, hg]
    rw [if_pos hw]
    exact h K' hK

/-- Where each waits for earlier ones alone, and none may come up: all have come up. -/
theorem all_came {d : Nat → Bool} (hlt : ∀ (i : Nat) (o : Oper), ops[i]? = some o → ∀ e ∈ o.after, e.on < i)
    (hnr : ∀ (i : Nat) (o : Oper), ops[i]? = some o → d i = false → ∃ e ∈ o.after, Region.binds md e = true ∧ d e.on = false) : ∀ i, i < ops.size → d i = true := by
  intro i
  induction i using Nat.strongRecOn with
  | ind i ih =>
    intro hi
    cases hd : d i with
    | true => rfl
    | false =>
      obtain ⟨e, he, -, hf⟩ := hnr i ops[i] (Array.getElem?_eq_getElem hi) hd
      have h1 := hlt i _ (Array.getElem?_eq_getElem hi) e he
      rw [ih e.on h1 (by omega)] at hf
      cases hf

/-- A REGION THAT DRAWS ITS ORDER, BY AN INVARIANT. -/
theorem wp_region_inv {id : Nat} {a : Act} {w : World} (hm : P.follows .mixedOrders = true) (I : (Nat → Bool) → Act → World → Prop)
    (honB : ((List.range ops.size).all fun i => ((ops[i]?).map fun o => o.after.all fun e => decide (e.on < i)).getD true) = true)
    (hstart : I (fun i => decide (ops.size ≤ i)) a w.drew)
    (hdone : ∀ (d : Nat → Bool) (a : Act) (w : World), I d a w → (∀ i, i < ops.size → d i = true) → Q .normal a w)
    (hstep : ∀ (d : Nat → Bool) (a : Act) (w : World) (i : Nat) (o : Oper), I d a w → ops[i]? = some o → d i = false → (∀ e ∈ o.after, Region.binds .any e = true → d e.on = true) → wpOp P ops Q i (fun a' w' => I (upon d i) a' w') a w) :
    (Code.region id ops true).wp P Q a w := by
  have hlt : ∀ (i : Nat) (o : Oper), ops[i]? = some o → ∀ e ∈ o.after, e.on < i := fun i o ho e he => by
    have hi : i < ops.size := (Array.getElem?_eq_some_iff.1 ho).1
    have h1 := List.all_eq_true.1 honB i (List.mem_range.2 hi)
    rw [ho] at h1
    exact of_decide_eq_true (Array.all_eq_true_iff_forall_mem.1 h1 e he)
  have hon : ∀ (i : Nat) (o : Oper), ops[i]? = some o → ∀ e ∈ o.after, e.on < ops.size := fun i o ho e he => Nat.lt_trans (hlt i o ho e he) (Array.getElem?_eq_some_iff.1 ho).1
  refine wp_region_any hm (wpAny_inv I hon (fun d a w hI hnr => hdone d a w hI (all_came hlt hnr)) hstep ops.size _ a _ (by simp) ?_ ?_)
  · unfold tocome
    have := List.countP_le_length (p := (· == false)) (l := (Array.replicate ops.size false).toList)
    simpa using this
  · have e : came (Array.replicate ops.size false) = fun i => decide (ops.size ≤ i) := by
      funext i
      unfold came
      by_cases h : i < ops.size
      · simp [Array.getD, h]
      · simp [Array.getD, h]
        omega
    rw [e]
    exact hstart

end

end Go.Proofs.YtcjoekjjebcomalDoor

namespace Go.Proofs.YtcjoekjjebcomalDoor

open Go.RowKit

/-- The kind of an operation, by a number below 9. -/
def opK (p : Int) : Int := if p = 0 then 1 else if p < 3 then 2 else if p < 5 then 3 else if p = 5 then 4 else if p < 8 then 5 else 6

theorem opK_bd (p : Int) : 1 ≤ opK p ∧ opK p ≤ 6 := by unfold opK; repeat' split <;> omega

theorem ohid {p : Prop} (h : p) : Hid p := h

/-- The world ahead of Op's first region: the raw thing boxed, the result's block. -/
def opW (w : World) (x0 x1 x2 x3 : Int) : World := (w.alloc (.cells #[.int .i64 x0, .int .i64 x1, .int .i64 x2, .int .i64 x3] 42)).alloc (.cells #[.int .i64 0, .string ⟨#[]⟩, .string ⟨#[]⟩, .int .i64 0] 32)

/-- The table of kinds. -/
def kindsT : Array Value := #[.int .i64 1, .int .i64 2, .int .i64 2, .int .i64 3, .int .i64 3, .int .i64 4, .int .i64 5, .int .i64 5, .int .i64 6]

/-- What holds in Op's first region, whatever has come up. -/
structure OpI (w : World) (x0 x1 x2 x3 p0 : Int) (nm : ByteArray) (d : Nat → Bool) (s3 s4 s5 s6 s7 s8 s9 s10 s11 s12 s13 : Value) (bB bA : Nat) (wx : World) : Prop where
  hb : Below (w.heap.size + 2) (opW w x0 x1 x2 x3) wx
  h0 : d 0 = true → s4 = .slice (some ⟨bB, 0, none⟩) 9 9 ∧ w.heap.size + 2 ≤ bB ∧ wx.heap[bB]? = some (.cells kindsT 3 (0, 0))
  h1 : d 1 = true → s5 = .pointer (some ⟨w.heap.size, 0, none⟩)
  h2 : d 2 = true → s6 = .int .i64 x0
  h3 : d 3 = true → s7 = .int .i64 p0
  h4 : d 4 = true → s8 = .pointer (some ⟨bB, p0.toNat, none⟩)
  h5 : d 5 = true → s9 = .int .i64 (opK p0)
  h6 : d 6 = true → s10 = .pointer (some ⟨w.heap.size, 1, none⟩)
  h7 : d 7 = true → s11 = .int .i64 x1
  h8 : d 8 = true → s12 = .string nm
  h9 : d 9 = true → s13 = .agg #[.int .i64 (opK p0), .string nm, .string ⟨#[]⟩, .int .i64 0]
  h10 : d 10 = true → s3 = .pointer (some ⟨bA, 0, none⟩) ∧ w.heap.size + 2 ≤ bA ∧ wx.heap[bA]? = some (.cells (if d 11 = true then #[.int .i64 (opK p0), .string nm, .string ⟨#[]⟩, .int .i64 0] else #[.int .i64 0, .string ⟨#[]⟩, .string ⟨#[]⟩, .int .i64 0]) 32 (0, 0))
  h411 : d 4 = true → d 0 = true
  h11 : d 11 = true → d 10 = true

theorem opW_box (w : World) (x0 x1 x2 x3 : Int) {wx : World} (hb : Below (w.heap.size + 2) (opW w x0 x1 x2 x3) wx) : wx.heap[w.heap.size]? = some (.cells #[.int .i64 x0, .int .i64 x1, .int .i64 x2, .int .i64 x3] 42 (0, 0)) := by
  rw [hb.block _ (by omega)]
  unfold opW
  rw [Below.heap_alloc _ _ _ (by simp)]
  exact heap_alloc_new w _

theorem kindsT_at {p : Int} (h0 : 0 ≤ p) (h9 : p < 9) : kindsT[p.toNat]? = some (.int .i64 (opK p)) := by
  rcases (by omega : p = 0 ∨ p = 1 ∨ p = 2 ∨ p = 3 ∨ p = 4 ∨ p = 5 ∨ p = 6 ∨ p = 7 ∨ p = 8) with rfl | rfl | rfl | rfl | rfl | rfl | rfl | rfl | rfl <;> rfl

/-- The cells of an operation, put into its block. -/
theorem op_cells {W : World} {ob : Nat} (h : W.heap[ob]? = some (.cells #[.int .i64 0, .string ⟨#[]⟩, .string ⟨#[]⟩, .int .i64 0] 32 (0, 0))) (a b c d : Value) :
    ((((W.setCell ⟨ob, 0, none⟩ a).setCell ⟨ob, 1, none⟩ b).setCell ⟨ob, 2, none⟩ c).setCell ⟨ob, 3, none⟩ d).heap[ob]? = some (.cells #[a, b, c, d] 32 (0, 0)) := by
  have g1 := heap_setCell_same W ob 0 _ 32 a h
  have g2 := heap_setCell_same _ ob 1 _ 32 b g1
  have g3 := heap_setCell_same _ ob 2 _ 32 c g2
  have g4 := heap_setCell_same _ ob 3 _ 32 d g3
  simpa using g4

theorem block_set4 {W : World} {b g : Nat} {u : Obj} (h : W.heap[b]? = some u) (hne : b ≠ g) (x y z v : Value) : ((((W.setCell ⟨g, 0, none⟩ x).setCell ⟨g, 1, none⟩ y).setCell ⟨g, 2, none⟩ z).setCell ⟨g, 3, none⟩ v).heap[b]? = some u := by
  rw [heap_setCell_other _ _ _ _ (by simpa using hne), heap_setCell_other _ _ _ _ (by simpa using hne), heap_setCell_other _ _ _ _ (by simpa using hne), heap_setCell_other _ _ _ _ (by simpa using hne)]
  exact h

theorem below_set4 {B : Nat} {w0 W : World} (h : Below B w0 W) {g : Nat} (hg : B ≤ g) (x y z v : Value) : Below B w0 ((((W.setCell ⟨g, 0, none⟩ x).setCell ⟨g, 1, none⟩ y).setCell ⟨g, 2, none⟩ z).setCell ⟨g, 3, none⟩ v) :=
  (((h.setCell (by simpa using hg) x).setCell (by simpa using hg) y).setCell (by simpa using hg) z).setCell (by simpa using hg) v

theorem block_alloc {W : World} {b : Nat} {o u : Obj} (h : W.heap[b]? = some u) : (W.alloc o).heap[b]? = some u := by
  rw [Below.heap_alloc _ _ _ (Array.getElem?_eq_some_iff.1 h).1]
  exact h

set_option maxRecDepth 100000 in
set_option maxHeartbeats 3200000 in
theorem keepOp_any (x0 x1 x2 x3 : Int) (w : World) (f0 : -9223372036854775808 ≤ x0 ∧ x0 ≤ 9223372036854775807) (f1 : -9223372036854775808 ≤ x1 ∧ x1 ≤ 9223372036854775807) (f2 : -9223372036854775808 ≤ x2 ∧ x2 ≤ 9223372036854775807) (f3 : -9223372036854775808 ≤ x3 ∧ x3 ≤ 9223372036854775807) :
    Calls Tryd.prog 9 #[.agg #[.int .i64 x0, .int .i64 x1, .int .i64 x2, .int .i64 x3]] w fun e w' => ∃ (s : ByteArray) (n : Int), e = .returned (.agg #[.int .i64 (opK (pickZ x0 9)), .string (nameK x1), .string s, .int .i64 n]) ∧
      (opK (pickZ x0 9) = 5 → s.size ≤ 3 ∧ n = 1 + pickZ x3 4) ∧ (opK (pickZ x0 9) ≠ 5 → s = ⟨#[]⟩ ∧ n = 0) ∧ Below w.heap.size w w' := by
  have hp0 := pickZ_bd x0 9 (by omega)
  have hp2 := pickZ_bd x2 90 (by omega)
  have hp3 := pickZ_bd x3 4 (by omega)
  have CP0 := fun w => picked_any x0 9 w f0.1 f0.2 (by omega) (by omega)
  have CP2 := fun w => picked_any x2 90 w f2.1 f2.2 (by omega) (by omega)
  have CP3 := fun w => picked_any x3 4 w f3.1 f3.2 (by omega) (by omega)
  have CN := fun w => keepName_exact x1 w f1.1 f1.2
  obtain ⟨p0, e0⟩ : ∃ p, p = pickZ x0 9 := ⟨_, rfl⟩
  obtain ⟨p2, e2⟩ : ∃ p, p = pickZ x2 90 := ⟨_, rfl⟩
  obtain ⟨p3, e3⟩ : ∃ p, p = pickZ x3 4 := ⟨_, rfl⟩
  obtain ⟨nm, e1⟩ : ∃ p, p = nameK x1 := ⟨_, rfl⟩
  rw [← e0] at CP0 hp0 ⊢
  rw [← e2] at CP2 hp2
  rw [← e3] at CP3 hp3 ⊢
  rw [← e1] at CN ⊢
  clear e0 e1 e2 e3 f0 f1 f2 f3
  go_enter Tryd.func9, Tryd.ntmps9
  go_upto_region 1 with fail
  go_cut [3] (fun p wx => ∃ ob, p = .pointer (some ⟨ob, 0, none⟩) ∧ wx.heap[ob]? = some (.cells #[.int .i64 (opK p0), .string nm, .string ⟨#[]⟩, .int .i64 0] 32 (0, 0)) ∧ w.heap.size + 2 ≤ ob ∧ Below (w.heap.size + 2) ((w.alloc (.cells #[.int .i64 x0, .int .i64 x1, .int .i64 x2, .int .i64 x3] 42)).alloc (.cells #[.int .i64 0, .string ⟨#[]⟩, .string ⟨#[]⟩, .int .i64 0] 32)) wx)
  case first =>
    obtain ⟨hp1, hp9⟩ := hp0
    refine wp_region_inv (by kernel_rfl) (fun d a wx => ∃ (s3 s4 s5 s6 s7 s8 s9 s10 s11 s12 s13 : Value) (bB bA : Nat), a = ⟨#[.agg #[.int .i64 x0, .int .i64 x1, .int .i64 x2, .int .i64 x3], .pointer (some ⟨w.heap.size, 0, none⟩), .pointer (some ⟨w.heap.size + 1, 0, none⟩), s3, s4, s5, s6, s7, s8, s9, s10, s11, s12, s13, undef, undef, undef, undef, undef, undef, undef, undef, undef, undef, undef, undef, undef, undef, undef], []⟩ ∧ OpI w x0 x1 x2 x3 p0 nm d s3 s4 s5 s6 s7 s8 s9 s10 s11 s12 s13 bB bA wx) (by kernel_rfl) ?_ ?_ ?_
    · refine ⟨_, _, _, _, _, _, _, _, _, _, _, 0, 0, rfl, ?_⟩
      refine ⟨?_, ?_, ?_, ?_, ?_, ?_, ?_, ?_, ?_, ?_, ?_, ?_, ?_, ?_⟩
      · exact ((Below.refl _ _).drew)
      all_goals
        intro h
        simp at h
    · rintro d a wx ⟨s3, s4, s5, s6, s7, s8, s9, s10, s11, s12, s13, bB, bA, rfl, H⟩ hall
      obtain ⟨rfl, hA1, hA2⟩ := H.h10 (hall 10 (by simp))
      have d11 : d 11 = true := hall 11 (by simp)
      rw [d11] at hA2
      simp only [if_true] at hA2
      go_wp2
      go_meet
      exact ⟨bA, rfl, hA2, hA1, H.hb⟩
    · rintro d a wx i o ⟨s3, s4, s5, s6, s7, s8, s9, s10, s11, s12, s13, bB, bA, rfl, H⟩ ho hd hdep
      obtain ⟨hb, h0, h1, h2, h3, h4, h5, h6, h7, h8, h9, h10, h411, h11⟩ := H
      match i, ho with
      | 0, ho =>
        have ho' := ho
        simp only [List.getElem?_toArray, List.getElem?_cons_zero, Option.some.injEq] at ho'
        refine wpOp_plain ho (by rw [← ho']) (fun K hK => ?_)
        subst ho'
        have hsz : w.heap.size + 2 ≤ wx.heap.size := by have := hb.size; simpa [opW] using this
        clear ho hdep
        go_simp
        exact hK _ _ ⟨_, _, _, _, _, _, _, _, _, _, _, wx.heap.size, bA, rfl, ⟨(hb.alloc hsz _), (fun _ => ⟨rfl, hsz, heap_alloc_new wx _⟩), (fun h => h1 (by simpa [upon] using h)), (fun h => h2 (by simpa [upon] using h)), (fun h => h3 (by simpa [upon] using h)), (fun h => by have q := h411 (by simpa [upon] using h); rw [hd] at q; cases q), (fun h => h5 (by simpa [upon] using h)), (fun h => h6 (by simpa [upon] using h)), (fun h => h7 (by simpa [upon] using h)), (fun h => h8 (by simpa [upon] using h)), (fun h => h9 (by simpa [upon] using h)), (fun h => by obtain ⟨q1, q2, q3⟩ := h10 (by simpa [upon] using h); refine ⟨q1, q2, ?_⟩; rw [show upon d _ 11 = d 11 by simp [upon]]; exact block_alloc q3), (fun _ => by simp [upon]), (fun h => by have := h11 (by simpa [upon] using h); simpa [upon] using this)⟩⟩
      | 1, ho =>
        have ho' := ho
        simp only [List.getElem?_toArray, List.getElem?_cons_zero, List.getElem?_cons_succ, Option.some.injEq] at ho'
        refine wpOp_plain ho (by rw [← ho']) (fun K hK => ?_)
        subst ho'
        clear ho hdep
        go_simp
        exact hK _ _ ⟨_, _, _, _, _, _, _, _, _, _, _, bB, bA, rfl, ⟨hb, (fun h => h0 (by simpa [upon] using h)), (fun _ => rfl), (fun h => h2 (by simpa [upon] using h)), (fun h => h3 (by simpa [upon] using h)), (fun h => h4 (by simpa [upon] using h)), (fun h => h5 (by simpa [upon] using h)), (fun h => h6 (by simpa [upon] using h)), (fun h => h7 (by simpa [upon] using h)), (fun h => h8 (by simpa [upon] using h)), (fun h => h9 (by simpa [upon] using h)), (fun h => by have := h10 (by simpa [upon] using h); simpa [upon] using this), (fun h => by have := h411 (by simpa [upon] using h); simpa [upon] using this), (fun h => by have := h11 (by simpa [upon] using h); simpa [upon] using this)⟩⟩
      | 2, ho =>
        have ho' := ho
        simp only [List.getElem?_toArray, List.getElem?_cons_zero, List.getElem?_cons_succ, Option.some.injEq] at ho'
        refine wpOp_plain ho (by rw [← ho']) (fun K hK => ?_)
        subst ho'
        have q1 : d 1 = true := hdep ⟨1, .data⟩ (by simp) rfl
        obtain rfl := h1 q1
        have c0 : wx.cell? ⟨w.heap.size, 0, none⟩ = some (.int .i64 x0) := cell_of_row wx w.heap.size 0 _ _ _ (opW_box w x0 x1 x2 x3 hb)
        clear ho hdep
        go_simp
        exact hK _ _ ⟨_, _, _, _, _, _, _, _, _, _, _, bB, bA, rfl, ⟨hb, (fun h => h0 (by simpa [upon] using h)), (fun h => h1 (by simpa [upon] using h)), (fun _ => rfl), (fun h => h3 (by simpa [upon] using h)), (fun h => h4 (by simpa [upon] using h)), (fun h => h5 (by simpa [upon] using h)), (fun h => h6 (by simpa [upon] using h)), (fun h => h7 (by simpa [upon] using h)), (fun h => h8 (by simpa [upon] using h)), (fun h => h9 (by simpa [upon] using h)), (fun h => by have := h10 (by simpa [upon] using h); simpa [upon] using this), (fun h => by have := h411 (by simpa [upon] using h); simpa [upon] using this), (fun h => by have := h11 (by simpa [upon] using h); simpa [upon] using this)⟩⟩
      | 3, ho =>
        have ho' := ho
        simp only [List.getElem?_toArray, List.getElem?_cons_zero, List.getElem?_cons_succ, Option.some.injEq] at ho'
        refine wpOp_plain ho (by rw [← ho']) (fun K hK => ?_)
        subst ho'
        have q2 : d 2 = true := hdep ⟨2, .data⟩ (by simp) rfl
        obtain rfl := h2 q2
        clear ho hdep
        go_simp
        refine (CP0 _).mono ?_
        rintro e w1 ⟨rfl, rfl⟩
        exact hK _ _ ⟨_, _, _, _, _, _, _, _, _, _, _, bB, bA, rfl, ⟨hb, (fun h => h0 (by simpa [upon] using h)), (fun h => h1 (by simpa [upon] using h)), (fun h => h2 (by simpa [upon] using h)), (fun _ => rfl), (fun h => h4 (by simpa [upon] using h)), (fun h => h5 (by simpa [upon] using h)), (fun h => h6 (by simpa [upon] using h)), (fun h => h7 (by simpa [upon] using h)), (fun h => h8 (by simpa [upon] using h)), (fun h => h9 (by simpa [upon] using h)), (fun h => by have := h10 (by simpa [upon] using h); simpa [upon] using this), (fun h => by have := h411 (by simpa [upon] using h); simpa [upon] using this), (fun h => by have := h11 (by simpa [upon] using h); simpa [upon] using this)⟩⟩
      | 4, ho =>
        have ho' := ho
        simp only [List.getElem?_toArray, List.getElem?_cons_zero, List.getElem?_cons_succ, Option.some.injEq] at ho'
        refine wpOp_plain ho (by rw [← ho']) (fun K hK => ?_)
        subst ho'
        have q0 : d 0 = true := hdep ⟨0, .data⟩ (by simp) rfl
        have q3 : d 3 = true := hdep ⟨3, .data⟩ (by simp) rfl
        obtain ⟨rfl, hB1, hB2⟩ := h0 q0
        obtain rfl := h3 q3
        clear ho hdep
        go_simp
        exact hK _ _ ⟨_, _, _, _, _, _, _, _, _, _, _, bB, bA, rfl, ⟨hb, (fun _ => ⟨rfl, hB1, hB2⟩), (fun h => h1 (by simpa [upon] using h)), (fun h => h2 (by simpa [upon] using h)), (fun h => h3 (by simpa [upon] using h)), (fun _ => rfl), (fun h => h5 (by simpa [upon] using h)), (fun h => h6 (by simpa [upon] using h)), (fun h => h7 (by simpa [upon] using h)), (fun h => h8 (by simpa [upon] using h)), (fun h => h9 (by simpa [upon] using h)), (fun h => by have := h10 (by simpa [upon] using h); simpa [upon] using this), (fun _ => by simpa [upon] using q0), (fun h => by have := h11 (by simpa [upon] using h); simpa [upon] using this)⟩⟩
      | 5, ho =>
        have ho' := ho
        simp only [List.getElem?_toArray, List.getElem?_cons_zero, List.getElem?_cons_succ, Option.some.injEq] at ho'
        refine wpOp_plain ho (by rw [← ho']) (fun K hK => ?_)
        subst ho'
        have q4 : d 4 = true := hdep ⟨4, .data⟩ (by simp) rfl
        obtain rfl := h4 q4
        obtain ⟨-, hB1, hB2⟩ := h0 (h411 q4)
        have c0 : wx.cell? ⟨bB, p0.toNat, none⟩ = some (.int .i64 (opK p0)) := (cell_of_row wx bB p0.toNat _ _ _ hB2).trans (kindsT_at hp1 hp9)
        clear ho hdep
        go_simp
        exact hK _ _ ⟨_, _, _, _, _, _, _, _, _, _, _, bB, bA, rfl, ⟨hb, (fun _ => ⟨rfl, hB1, hB2⟩), (fun h => h1 (by simpa [upon] using h)), (fun h => h2 (by simpa [upon] using h)), (fun h => h3 (by simpa [upon] using h)), (fun h => h4 (by simpa [upon] using h)), (fun _ => rfl), (fun h => h6 (by simpa [upon] using h)), (fun h => h7 (by simpa [upon] using h)), (fun h => h8 (by simpa [upon] using h)), (fun h => h9 (by simpa [upon] using h)), (fun h => by have := h10 (by simpa [upon] using h); simpa [upon] using this), (fun h => by have := h411 (by simpa [upon] using h); simpa [upon] using this), (fun h => by have := h11 (by simpa [upon] using h); simpa [upon] using this)⟩⟩
      | 6, ho =>
        have ho' := ho
        simp only [List.getElem?_toArray, List.getElem?_cons_zero, List.getElem?_cons_succ, Option.some.injEq] at ho'
        refine wpOp_plain ho (by rw [← ho']) (fun K hK => ?_)
        subst ho'
        clear ho hdep
        go_simp
        exact hK _ _ ⟨_, _, _, _, _, _, _, _, _, _, _, bB, bA, rfl, ⟨hb, (fun h => h0 (by simpa [upon] using h)), (fun h => h1 (by simpa [upon] using h)), (fun h => h2 (by simpa [upon] using h)), (fun h => h3 (by simpa [upon] using h)), (fun h => h4 (by simpa [upon] using h)), (fun h => h5 (by simpa [upon] using h)), (fun _ => rfl), (fun h => h7 (by simpa [upon] using h)), (fun h => h8 (by simpa [upon] using h)), (fun h => h9 (by simpa [upon] using h)), (fun h => by have := h10 (by simpa [upon] using h); simpa [upon] using this), (fun h => by have := h411 (by simpa [upon] using h); simpa [upon] using this), (fun h => by have := h11 (by simpa [upon] using h); simpa [upon] using this)⟩⟩
      | 7, ho =>
        have ho' := ho
        simp only [List.getElem?_toArray, List.getElem?_cons_zero, List.getElem?_cons_succ, Option.some.injEq] at ho'
        refine wpOp_plain ho (by rw [← ho']) (fun K hK => ?_)
        subst ho'
        have q6 : d 6 = true := hdep ⟨6, .data⟩ (by simp) rfl
        obtain rfl := h6 q6
        have c0 : wx.cell? ⟨w.heap.size, 1, none⟩ = some (.int .i64 x1) := cell_of_row wx w.heap.size 1 _ _ _ (opW_box w x0 x1 x2 x3 hb)
        clear ho hdep
        go_simp
        exact hK _ _ ⟨_, _, _, _, _, _, _, _, _, _, _, bB, bA, rfl, ⟨hb, (fun h => h0 (by simpa [upon] using h)), (fun h => h1 (by simpa [upon] using h)), (fun h => h2 (by simpa [upon] using h)), (fun h => h3 (by simpa [upon] using h)), (fun h => h4 (by simpa [upon] using h)), (fun h => h5 (by simpa [upon] using h)), (fun h => h6 (by simpa [upon] using h)), (fun _ => rfl), (fun h => h8 (by simpa [upon] using h)), (fun h => h9 (by simpa [upon] using h)), (fun h => by have := h10 (by simpa [upon] using h); simpa [upon] using this), (fun h => by have := h411 (by simpa [upon] using h); simpa [upon] using this), (fun h => by have := h11 (by simpa [upon] using h); simpa [upon] using this)⟩⟩
      | 8, ho =>
        have ho' := ho
        simp only [List.getElem?_toArray, List.getElem?_cons_zero, List.getElem?_cons_succ, Option.some.injEq] at ho'
        refine wpOp_plain ho (by rw [← ho']) (fun K hK => ?_)
        subst ho'
        have q7 : d 7 = true := hdep ⟨7, .data⟩ (by simp) rfl
        obtain rfl := h7 q7
        have hsz : w.heap.size + 2 ≤ wx.heap.size := by have := hb.size; simpa [opW] using this
        clear ho hdep
        go_simp
        refine (CN _).mono ?_
        rintro e w1 ⟨rfl, rfl⟩
        exact hK _ _ ⟨_, _, _, _, _, _, _, _, _, _, _, bB, bA, rfl, ⟨(hb.alloc hsz _), (fun h => by obtain ⟨q1, q2, q3⟩ := h0 (by simpa [upon] using h); exact ⟨q1, q2, block_alloc q3⟩), (fun h => h1 (by simpa [upon] using h)), (fun h => h2 (by simpa [upon] using h)), (fun h => h3 (by simpa [upon] using h)), (fun h => h4 (by simpa [upon] using h)), (fun h => h5 (by simpa [upon] using h)), (fun h => h6 (by simpa [upon] using h)), (fun h => h7 (by simpa [upon] using h)), (fun _ => rfl), (fun h => h9 (by simpa [upon] using h)), (fun h => by obtain ⟨q1, q2, q3⟩ := h10 (by simpa [upon] using h); refine ⟨q1, q2, ?_⟩; rw [show upon d _ 11 = d 11 by simp [upon]]; exact block_alloc q3), (fun h => by have := h411 (by simpa [upon] using h); simpa [upon] using this), (fun h => by have := h11 (by simpa [upon] using h); simpa [upon] using this)⟩⟩
      | 9, ho =>
        have ho' := ho
        simp only [List.getElem?_toArray, List.getElem?_cons_zero, List.getElem?_cons_succ, Option.some.injEq] at ho'
        refine wpOp_plain ho (by rw [← ho']) (fun K hK => ?_)
        subst ho'
        have q5 : d 5 = true := hdep ⟨5, .data⟩ (by simp) rfl
        have q8 : d 8 = true := hdep ⟨8, .data⟩ (by simp) rfl
        obtain rfl := h5 q5
        obtain rfl := h8 q8
        clear ho hdep
        go_simp
        exact hK _ _ ⟨_, _, _, _, _, _, _, _, _, _, _, bB, bA, rfl, ⟨hb, (fun h => h0 (by simpa [upon] using h)), (fun h => h1 (by simpa [upon] using h)), (fun h => h2 (by simpa [upon] using h)), (fun h => h3 (by simpa [upon] using h)), (fun h => h4 (by simpa [upon] using h)), (fun h => h5 (by simpa [upon] using h)), (fun h => h6 (by simpa [upon] using h)), (fun h => h7 (by simpa [upon] using h)), (fun h => h8 (by simpa [upon] using h)), (fun _ => rfl), (fun h => by have := h10 (by simpa [upon] using h); simpa [upon] using this), (fun h => by have := h411 (by simpa [upon] using h); simpa [upon] using this), (fun h => by have := h11 (by simpa [upon] using h); simpa [upon] using this)⟩⟩
      | 10, ho =>
        have ho' := ho
        simp only [List.getElem?_toArray, List.getElem?_cons_zero, List.getElem?_cons_succ, Option.some.injEq] at ho'
        refine wpOp_plain ho (by rw [← ho']) (fun K hK => ?_)
        subst ho'
        have hsz : w.heap.size + 2 ≤ wx.heap.size := by have := hb.size; simpa [opW] using this
        have n11 : d 11 = false := by cases hx : d 11 with | false => rfl | true => exact absurd (h11 hx) (by rw [hd]; simp)
        clear ho hdep
        go_simp
        exact hK _ _ ⟨_, _, _, _, _, _, _, _, _, _, _, bB, wx.heap.size, rfl, ⟨(hb.alloc hsz _), (fun h => by obtain ⟨q1, q2, q3⟩ := h0 (by simpa [upon] using h); exact ⟨q1, q2, block_alloc q3⟩), (fun h => h1 (by simpa [upon] using h)), (fun h => h2 (by simpa [upon] using h)), (fun h => h3 (by simpa [upon] using h)), (fun h => h4 (by simpa [upon] using h)), (fun h => h5 (by simpa [upon] using h)), (fun h => h6 (by simpa [upon] using h)), (fun h => h7 (by simpa [upon] using h)), (fun h => h8 (by simpa [upon] using h)), (fun h => h9 (by simpa [upon] using h)), (fun _ => ⟨rfl, hsz, by have q4 := heap_alloc_new wx (.cells #[.int .i64 0, .string ⟨#[]⟩, .string ⟨#[]⟩, .int .i64 0] 32); simpa [upon, n11] using q4⟩), (fun h => by have := h411 (by simpa [upon] using h); simpa [upon] using this), (fun _ => by simp [upon])⟩⟩
      | 11, ho =>
        have ho' := ho
        simp only [List.getElem?_toArray, List.getElem?_cons_zero, List.getElem?_cons_succ, Option.some.injEq] at ho'
        refine wpOp_plain ho (by rw [← ho']) (fun K hK => ?_)
        subst ho'
        have q10 : d 10 = true := hdep ⟨10, .data⟩ (by simp) rfl
        have q9 : d 9 = true := hdep ⟨9, .data⟩ (by simp) rfl
        obtain rfl := h9 q9
        obtain ⟨rfl, hA1, hA2⟩ := h10 q10
        rw [hd] at hA2
        simp only [Bool.false_eq_true, if_false] at hA2
        have t0 : wx.cell? ⟨bA, 0, none⟩ = some (.int .i64 0) := cell_of_row wx bA 0 _ _ _ hA2
        have t1 : wx.cell? ⟨bA, 1, none⟩ = some (.string ⟨#[]⟩) := cell_of_row wx bA 1 _ _ _ hA2
        have t2 : wx.cell? ⟨bA, 2, none⟩ = some (.string ⟨#[]⟩) := cell_of_row wx bA 2 _ _ _ hA2
        have t3 : wx.cell? ⟨bA, 3, none⟩ = some (.int .i64 0) := cell_of_row wx bA 3 _ _ _ hA2
        have tf : ∀ j, wx.frozen? ⟨bA, j, none⟩ = false := fun j => frozen_of_row wx bA j _ _ hA2
        clear ho hdep
        go_simp
        exact hK _ _ ⟨_, _, _, _, _, _, _, _, _, _, _, bB, bA, rfl, ⟨(below_set4 hb hA1 _ _ _ _), (fun h => by obtain ⟨z1, z2, z3⟩ := h0 (by simpa [upon] using h); exact ⟨z1, z2, block_set4 z3 (fun e => by subst e; rw [hA2] at z3; simp at z3) _ _ _ _⟩), (fun h => h1 (by simpa [upon] using h)), (fun h => h2 (by simpa [upon] using h)), (fun h => h3 (by simpa [upon] using h)), (fun h => h4 (by simpa [upon] using h)), (fun h => h5 (by simpa [upon] using h)), (fun h => h6 (by simpa [upon] using h)), (fun h => h7 (by simpa [upon] using h)), (fun h => h8 (by simpa [upon] using h)), (fun h => h9 (by simpa [upon] using h)), (fun _ => ⟨rfl, hA1, by have q4 := op_cells hA2 (.int .i64 (opK p0)) (.string nm) (.string ⟨#[]⟩) (.int .i64 0); simpa [upon] using q4⟩), (fun h => by have := h411 (by simpa [upon] using h); simpa [upon] using this), (fun _ => by simpa [upon] using q10)⟩⟩
      | (n + 12), ho => simp at ho
  case rest =>
    obtain ⟨ob, rfl, hX, hob, hb⟩ := hcut
    have b0 := opW_box w x0 x1 x2 x3 hb
    have b1 : wc.heap[w.heap.size + 1]? = some (.cells #[.int .i64 0, .string ⟨#[]⟩, .string ⟨#[]⟩, .int .i64 0] 32 (0, 0)) := by
      rw [hb.block _ (by omega)]
      simpa using heap_alloc_new (w.alloc (.cells #[.int .i64 x0, .int .i64 x1, .int .i64 x2, .int .i64 x3] 42)) (.cells #[.int .i64 0, .string ⟨#[]⟩, .string ⟨#[]⟩, .int .i64 0] 32)
    have y2 : wc.cell? ⟨w.heap.size, 2, none⟩ = some (.int .i64 x2) := cell_of_row wc w.heap.size 2 _ _ _ b0
    have y3 : wc.cell? ⟨w.heap.size, 3, none⟩ = some (.int .i64 x3) := cell_of_row wc w.heap.size 3 _ _ _ b0
    have z0 : wc.cell? ⟨w.heap.size + 1, 0, none⟩ = some (.int .i64 0) := cell_of_row wc (w.heap.size + 1) 0 _ _ _ b1
    have z1 : wc.cell? ⟨w.heap.size + 1, 1, none⟩ = some (.string ⟨#[]⟩) := cell_of_row wc (w.heap.size + 1) 1 _ _ _ b1
    have z2 : wc.cell? ⟨w.heap.size + 1, 2, none⟩ = some (.string ⟨#[]⟩) := cell_of_row wc (w.heap.size + 1) 2 _ _ _ b1
    have z3 : wc.cell? ⟨w.heap.size + 1, 3, none⟩ = some (.int .i64 0) := cell_of_row wc (w.heap.size + 1) 3 _ _ _ b1
    have zf : ∀ j, wc.frozen? ⟨w.heap.size + 1, j, none⟩ = false := fun j => frozen_of_row wc (w.heap.size + 1) j _ _ b1
    have t0 : wc.cell? ⟨ob, 0, none⟩ = some (.int .i64 (opK p0)) := cell_of_row wc ob 0 _ _ _ hX
    have t1 : wc.cell? ⟨ob, 1, none⟩ = some (.string nm) := cell_of_row wc ob 1 _ _ _ hX
    have t2 : wc.cell? ⟨ob, 2, none⟩ = some (.string ⟨#[]⟩) := cell_of_row wc ob 2 _ _ _ hX
    have t3 : wc.cell? ⟨ob, 3, none⟩ = some (.int .i64 0) := cell_of_row wc ob 3 _ _ _ hX
    have tf : ∀ j, wc.frozen? ⟨ob, j, none⟩ = false := fun j => frozen_of_row wc ob j _ _ hX
    have q1 : ob ≠ w.heap.size := by omega
    have q2 : w.heap.size ≠ ob := by omega
    have q3 : ob ≠ w.heap.size + 1 := by omega
    have q4 : w.heap.size + 1 ≠ ob := by omega
    have HB := ohid (((Below.refl w.heap.size w).alloc (Nat.le_refl _) (.cells #[.int .i64 x0, .int .i64 x1, .int .i64 x2, .int .i64 x3] 42)).alloc (by simp) (.cells #[.int .i64 0, .string ⟨#[]⟩, .string ⟨#[]⟩, .int .i64 0] 32) |>.trans (hb.mono (by omega)))
    have HOB := ohid hob
    have g1 : w.heap.size ≤ ob := by omega
    clear hX hob hb b0 b1 CP0 CN hp0
    obtain ⟨h0, h90⟩ := hp2
    obtain ⟨h30, h34⟩ := hp3
    by_cases h5 : opK p0 = 5
    · rw [h5] at t0
      have H5 := ohid h5
      clear h5
      have HC2 := ohid CP2
      have HC3 := ohid CP3
      clear CP2 CP3
      have hw1 : IntKind.i64.wrap (1 + p3) = 1 + p3 := by rw [IntKind.wrap_i64]; omega
      go_wp2_with fail
      go_region_held3 (fun w' => w'.cell? ⟨w.heap.size, 2, none⟩ = some (.int .i64 x2) ∧ w'.cell? ⟨w.heap.size, 3, none⟩ = some (.int .i64 x3)) (go_keep) (first
        | (go_at_call_of 5 (Value.int IntKind.i64 90); refine (HC2.out _).mono ?_; rintro e w1 ⟨rfl, rfl⟩)
        | (go_at_call_of 5 (Value.int IntKind.i64 4); refine (HC3.out _).mono ?_; rintro e w1 ⟨rfl, rfl⟩)
        | (go_at_call 21; refine (itoa_any p2 h0 (by omega) _).mono ?_; rintro e w1 ⟨s, rfl, hsz, rfl⟩; have hs2 : (⟨#[118]⟩ : ByteArray).size + s.size ≤ 3 := (by show 1 + s.size ≤ 3; omega); have hs4 : ∀ w : World, (Op.stringOp .add ⟨#[118]⟩ s).run Tryd.prog w = .ok (.string (⟨#[118]⟩ ++ s)) w := fun w => run_string_add_sum w ⟨#[118]⟩ s (by omega)))
      all_goals
        go_wp2
        refine bodyPost_ret (v := .agg #[.int .i64 5, .string nm, .string (⟨#[118]⟩ ++ s), .int .i64 (1 + p3)]) (by simp [results, Tryd.results9, go_sem, z0, z1, z2, z3]) rfl ⟨_, _, by rw [H5.out], fun _ => ⟨by rw [ByteArray.size_append]; exact hs2, rfl⟩, fun h => absurd H5.out h, ?_⟩
        exact ((((((HB.out.setCell (by simpa using g1) _).setCell (by simpa using g1) _).setCell (by simp) _).setCell (by simp) _).setCell (by simp) _).setCell (by simp) _).drew
    · have h5b : (opK p0 == 5) = false := by simpa using h5
      go_wp2
      refine bodyPost_ret (v := .agg #[.int .i64 (opK p0), .string nm, .string ⟨#[]⟩, .int .i64 0]) (by simp [results, Tryd.results9, go_sem, z0, z1, z2, z3]) rfl ⟨_, _, rfl, fun h => absurd h h5, fun _ => ⟨rfl, rfl⟩, ?_⟩
      exact (((HB.out.setCell (by simp) _).setCell (by simp) _).setCell (by simp) _).setCell (by simp) _

end Go.Proofs.YtcjoekjjebcomalDoor
