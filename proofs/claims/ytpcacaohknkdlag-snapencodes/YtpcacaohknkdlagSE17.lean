/- lock.Gone; The parts of a good lock, and what taking, freeing and leaving keep of it. Plain lists (joined by program) -/
import Derived.Test.YtpcacaohknkdlagSE16
namespace Go.Proofs.Ytpcacaohknkdlag

open Go.RowKit

/-- What Gone leaves. -/
def goneL (ls : List LockD) (who : Int) : List LockD := ls.map (leaveX · who)

end Go.Proofs.Ytpcacaohknkdlag

namespace Go.Proofs.Ytpcacaohknkdlag

open Go.RowKit

/-- The parts of a good line. -/
structure LineOk (xs : List Int) (h : Int) : Prop where
  len : xs.length ≤ 3
  free : h = 0 → xs = []
  each : ∀ x ∈ xs, 1 ≤ x ∧ x ≤ 9 ∧ x ≠ h
  nodup : xs.Nodup

theorem LineOk.mk' {xs : List Int} {h : Int} (hl : lineB xs h = true) : LineOk xs h := by
  obtain ⟨h1, h2, h3⟩ := lineB_yes hl
  refine ⟨h1, fun h0 => ?_, fun x hx => ?_, nodup_line hl⟩
  · cases xs with
    | nil => rfl
    | cons a t => exact absurd ⟨h0, by simp⟩ h2
  · obtain ⟨i, hi⟩ := List.getElem?_of_mem hx
    have := h3 i x hi
    exact ⟨this.1, this.2.1, this.2.2.1⟩

theorem LineOk.line {xs : List Int} {h : Int} (k : LineOk xs h) : lineB xs h = true := by
  cases hl : lineB xs h with
  | true => rfl
  | false =>
    obtain ⟨i, x, hx, hb⟩ := lineB_no hl k.len (fun hh => by rw [k.free hh.1] at hh; simp at hh)
    have hm := List.mem_of_getElem? hx
    have := k.each x hm
    rcases hb with hb | hb | hb | hb
    · omega
    · omega
    · exact absurd hb this.2.2
    · exfalso
      obtain ⟨j, hj, -⟩ := hasB_first hb
      obtain ⟨hi, he⟩ := List.getElem?_eq_some_iff.1 hx
      have hji : j < i := by
        have := (List.getElem?_eq_some_iff.1 hj).1
        rw [List.length_take] at this
        omega
      rw [List.getElem?_take, if_pos hji] at hj
      obtain ⟨hj', he'⟩ := List.getElem?_eq_some_iff.1 hj
      exact (List.pairwise_iff_getElem.1 k.nodup j i hj' hi hji) (by rw [he, he'])

/-- The parts of a good lock. -/
structure LockOk (x : LockD) : Prop where
  name : nameB x.name = true
  low : 0 ≤ x.holder
  high : x.holder ≤ 9
  line : LineOk x.line x.holder

theorem LockOk.mk' {x : LockD} (h : formB x = true) : LockOk x := by
  obtain ⟨_, h1, h2, h3, h4⟩ := form_line h
  exact ⟨h4, h1, h2, LineOk.mk' h3⟩

theorem LockOk.form {x : LockD} (h : LockOk x) : formB x = true := by
  unfold formB
  rw [h.name, h.line.line, decide_eq_true (p := 0 ≤ x.holder ∧ x.holder ≤ 9) ⟨h.low, h.high⟩]
  rfl

theorem LockOk.giveUp {x : LockD} (h : LockOk x) : LockOk (giveUpX x) := by
  obtain ⟨xn, xh, xf, xl⟩ := x
  have hl := h.line
  simp only at hl
  cases xl with
  | nil => exact ⟨h.name, by simp [giveUpX], by simp [giveUpX], ⟨by simp [giveUpX], fun _ => by simp [giveUpX], by simp [giveUpX], by simp [giveUpX]⟩⟩
  | cons a t =>
    have ha := hl.each a (by simp)
    have hn := List.nodup_cons.1 hl.nodup
    by_cases hm : xf = 1073741824
    · have e : giveUpX ⟨xn, xh, xf, a :: t⟩ = ⟨xn, 0, xf, []⟩ := by simp [giveUpX, hm]
      rw [e]
      exact ⟨h.name, by simp, by simp, ⟨by simp, fun _ => rfl, by simp, by simp⟩⟩
    · have e : giveUpX ⟨xn, xh, xf, a :: t⟩ = ⟨xn, a, xf + 1, t⟩ := by simp [giveUpX, hm]
      rw [e]
      refine ⟨h.name, by simp only; omega, by simp only; omega, ⟨by have := hl.len; simp at this ⊢; omega, fun h0 => by simp only at h0; omega, fun y hy => ?_, hn.2⟩⟩
      have := hl.each y (by simp [hy])
      exact ⟨this.1, this.2.1, fun e => hn.1 (by simp only at e; rw [← e]; exact hy)⟩

theorem LockOk.leave {x : LockD} (h : LockOk x) (who : Int) : LockOk (leaveX x who) := by
  by_cases hw : x.holder = who
  · rw [leaveX_holder hw]; exact h.giveUp
  · have e : leaveX x who = { x with line := x.line.filter (· != who) } := by simp [leaveX, hw]
    rw [e]
    refine ⟨h.name, h.low, h.high, ⟨Nat.le_trans (List.length_filter_le _ _) h.line.len, fun h0 => ?_, fun y hy => h.line.each y (List.mem_filter.1 hy).1, h.line.nodup.filter _⟩⟩
    simp only at h0 ⊢
    rw [h.line.free h0]
    rfl

theorem LockOk.take {x : LockD} (h : LockOk x) {who : Int} (w1 : 1 ≤ who) (w2 : who ≤ 9) (wait : Bool) : LockOk (takeX x who wait).1 := by
  unfold takeX
  split
  · exact h
  · rename_i hw
    split
    · unfold meetX
      split
      · rename_i hq
        split
        · exact h
        · rename_i h3
          have hl := h.line.len
          refine ⟨h.name, h.low, h.high, ⟨by simp; omega, fun h0 => by simp only at h0; contradiction, fun y hy => ?_, ?_⟩⟩
          · rcases List.mem_append.1 hy with hy | hy
            · exact h.line.each y hy
            · have : y = who := by simpa using hy
              subst this
              exact ⟨w1, w2, fun e => hw e.symm⟩
          · refine List.nodup_append.2 ⟨h.line.nodup, by simp, fun a ha b hb => ?_⟩
            have : b = who := by simpa using hb
            subst this
            intro e
            subst e
            obtain ⟨j, hj⟩ := List.getElem?_of_mem ha
            exact hasB_none hq.2 j hj
      · exact h
    · rename_i h0
      have h0' : x.holder = 0 := by simpa using h0
      split
      · exact h
      · refine ⟨h.name, by simp only; omega, by simp only; omega, ⟨h.line.len, fun _ => h.line.free h0', fun y hy => ?_, h.line.nodup⟩⟩
        simp only at hy
        rw [h.line.free h0'] at hy
        cases hy

theorem giveUpX_name (x : LockD) : (giveUpX x).name = x.name ∧ x.fence ≤ (giveUpX x).fence ∧ (giveUpX x).fence ≤ x.fence + 1 := by
  obtain ⟨xn, xh, xf, xl⟩ := x
  cases xl with
  | nil => simp [giveUpX]; omega
  | cons a t =>
    by_cases h : xf = 1073741824
    · simp [giveUpX, h]
    · simp [giveUpX, h]; omega

theorem leaveX_name (x : LockD) (who : Int) : (leaveX x who).name = x.name ∧ x.fence ≤ (leaveX x who).fence ∧ (leaveX x who).fence ≤ x.fence + 1 := by
  by_cases hw : x.holder = who
  · rw [leaveX_holder hw]; exact giveUpX_name x
  · simp [leaveX, hw]; omega

theorem takeX_name (x : LockD) (who : Int) (wait : Bool) : (takeX x who wait).1.name = x.name ∧ x.fence ≤ (takeX x who wait).1.fence ∧ (takeX x who wait).1.fence ≤ x.fence + 1 := by
  unfold takeX meetX
  repeat' split
  all_goals (refine ⟨rfl, ?_, ?_⟩ <;> simp only <;> omega)

/-- Names in their order, behind a name. -/
def chainN : ByteArray → List ByteArray → Prop
  | _, [] => True
  | p, x :: t => leN x p = false ∧ chainN x t

theorem checkFrom_iff (ls : List LockD) : ∀ p, checkFrom p ls = 0 ↔ (∀ x ∈ ls, LockOk x ∧ 1 ≤ x.fence ∧ x.fence ≤ 1073741824) ∧ chainN p (ls.map (·.name)) := by
  induction ls with
  | nil => intro p; simp [checkFrom, chainN]
  | cons y t ih =>
    intro p
    unfold checkFrom
    constructor
    · intro h
      cases hf : formB y with
      | false => rw [hf] at h; simp at h
      | true =>
        rw [hf] at h
        simp only [Bool.true_eq_false, if_false] at h
        by_cases hr : y.fence < 1 ∨ 1073741824 < y.fence
        · rw [if_pos hr] at h; cases h
        · rw [if_neg hr] at h
          by_cases ho : leN y.name p = true
          · rw [if_pos ho] at h; cases h
          · rw [if_neg ho] at h
            obtain ⟨h1, h2⟩ := (ih y.name).1 h
            refine ⟨fun x hx => ?_, by simpa using ho, h2⟩
            rcases List.mem_cons.1 hx with rfl | hx
            · exact ⟨LockOk.mk' hf, by omega, by omega⟩
            · exact h1 x hx
    · rintro ⟨h1, h2, h3⟩
      obtain ⟨k1, k2, k3⟩ := h1 y (by simp)
      rw [if_neg (by rw [k1.form]; simp), if_neg (by omega), if_neg (by simp only at h2; rw [h2]; simp)]
      exact (ih y.name).2 ⟨fun x hx => h1 x (by simp [hx]), h3⟩

end Go.Proofs.Ytpcacaohknkdlag
