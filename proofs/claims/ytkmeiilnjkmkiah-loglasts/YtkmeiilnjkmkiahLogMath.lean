/- Logs as plain lists: what may be, what the calls do. Plain mathematics; no program. -/
import Derived.Test.YtkmeiilnjkmkiahCmdDecMath
namespace Go.Proofs.Ytkmeiilnjkmkiah
open Go.RowKit

/-- A log, as plain data. -/
structure LogD where
  base : Int
  ents : List ByteArray

/-- What Decode refuses of entries, one by one. -/
def firstE : List ByteArray → Int
  | [] => 0
  | t :: r => if decE t ≠ 0 then decE t else firstE r

theorem firstE_zero {ts : List ByteArray} : firstE ts = 0 ↔ ∀ t ∈ ts, decE t = 0 := by
  induction ts with
  | nil => simp [firstE]
  | cons t r ih =>
    unfold firstE
    by_cases h : decE t = 0
    · rw [if_neg (by simpa using h), ih]
      simp [h]
    · rw [if_pos h]
      simp [h]

theorem firstE_sub {ts us : List ByteArray} (h : firstE ts = 0) (hs : us.Sublist ts) : firstE us = 0 := firstE_zero.2 fun t ht => firstE_zero.1 h t (hs.subset ht)

/-- What is wrong with a log; 0: nothing. -/
def logE (l : LogD) : Int := if ¬ (0 ≤ l.base ∧ l.base ≤ 1073741424) then 2 else if 400 < l.ents.length then 1 else firstE l.ents

def lastL (l : LogD) : Int := l.base + l.ents.length

theorem logE_ok {l : LogD} (h0 : 0 ≤ l.base) (h1 : l.base ≤ 1073741424) (h2 : l.ents.length ≤ 400) (h3 : firstE l.ents = 0) : logE l = 0 := by
  unfold logE
  rw [if_neg (by simp; omega), if_neg (by omega), h3]

/-- Of entries that are put: those that are not passed over. -/
def overL (l : LogD) (behind : Int) (more : List ByteArray) : List ByteArray := more.drop (l.base - behind).toNat
/-- How many entries stand ahead of them. -/
def aheadL (l : LogD) (behind : Int) : Nat := (behind - l.base).toNat
/-- Do entries open with these? -/
def opens (p t : List ByteArray) : Bool := decide (p = t.take p.length)

theorem opens_iff {p t : List ByteArray} : opens p t = true ↔ p = t.take p.length := by simp [opens]

/-- The entries behind a put. -/
def newL (l : LogD) (behind : Int) (more : List ByteArray) : List ByteArray :=
  if opens (overL l behind more) (l.ents.drop (aheadL l behind)) = true then l.ents else l.ents.take (aheadL l behind) ++ overL l behind more

def putE (l : LogD) (behind : Int) (more : List ByteArray) : Int :=
  if logE l ≠ 0 then logE l else if ¬ (0 ≤ behind ∧ behind ≤ 1073741824) then 2 else if 400 < more.length then 1 else if lastL l < behind then 13
  else if firstE (overL l behind more) ≠ 0 then firstE (overL l behind more) else if 400 < (newL l behind more).length then 8 else 0
def putL (l : LogD) (behind : Int) (more : List ByteArray) : LogD := if putE l behind more = 0 then ⟨l.base, newL l behind more⟩ else ⟨0, []⟩

def behindE (l : LogD) (index many : Int) : Int := if logE l ≠ 0 then logE l else if index < l.base ∨ many < 0 then 2 else 0
def behindL (l : LogD) (index many : Int) : List ByteArray := if behindE l index many = 0 then (l.ents.drop (index - l.base).toNat).take many.toNat else []

def cutE (l : LogD) (index : Int) : Int := if logE l ≠ 0 then logE l else if ¬ (l.base ≤ index ∧ index ≤ lastL l) then 2 else if 1073741424 < index then 8 else 0
def cutL (l : LogD) (index : Int) : LogD := if cutE l index = 0 then ⟨index, l.ents.drop (index - l.base).toNat⟩ else ⟨0, []⟩

def entE (l : LogD) (index : Int) : Int := if logE l ≠ 0 then logE l else if ¬ (l.base + 1 ≤ index ∧ index ≤ lastL l) then 6 else 0
def entL (l : LogD) (index : Int) : ByteArray := if entE l index = 0 then l.ents.getD (index - l.base - 1).toNat ⟨#[]⟩ else ⟨#[]⟩

/-- What was put behind an index stands there. -/
theorem newL_facts {a b : List ByteArray} {k : Nat} (hk : k ≤ a.length) : (newL ⟨0, a⟩ k b).take k = a.take k ∧ ((newL ⟨0, a⟩ k b).drop k).take b.length = b ∧ opens b ((newL ⟨0, a⟩ k b).drop k) = true ∧ k + b.length ≤ (newL ⟨0, a⟩ k b).length ∧ (newL ⟨0, a⟩ k b).length ≤ a.length + b.length ∧ ∀ t ∈ newL ⟨0, a⟩ k b, t ∈ a ∨ t ∈ b := by
  have e1 : overL ⟨0, a⟩ k b = b := by unfold overL; simp
  have e2 : aheadL ⟨0, a⟩ k = k := by unfold aheadL; simp
  unfold newL
  rw [e1, e2]
  by_cases h : opens b (a.drop k) = true
  · rw [if_pos h]
    have hp := opens_iff.1 h
    have hl : b.length ≤ a.length - k := by
      have := congrArg List.length hp
      rw [List.length_take, List.length_drop] at this
      omega
    exact ⟨rfl, hp.symm, h, by simp only; omega, by simp only; omega, fun t ht => Or.inl ht⟩
  · rw [if_neg h]
    have hlk : (a.take k).length = k := by rw [List.length_take]; omega
    have ed : (a.take k ++ b).drop k = b := by
      have := List.drop_left (l₁ := a.take k) (l₂ := b)
      rwa [hlk] at this
    refine ⟨?_, ?_, ?_, ?_, ?_, fun t ht => ?_⟩
    · have := List.take_left (l₁ := a.take k) (l₂ := b)
      rwa [hlk] at this
    · rw [ed, List.take_length]
    · rw [ed]; exact opens_iff.2 (List.take_length).symm
    · rw [List.length_append, hlk]; omega
    · rw [List.length_append, hlk]; omega
    · rcases List.mem_append.1 ht with ht | ht
      · exact Or.inl (List.mem_of_mem_take ht)
      · exact Or.inr ht

theorem put_ok {a b : List ByteArray} {k : Nat} (hk : k ≤ a.length) (ha : firstE a = 0) (hb : firstE b = 0) (hla : a.length ≤ 100) (hlb : b.length ≤ 100) : putE ⟨0, a⟩ k b = 0 ∧ putL ⟨0, a⟩ k b = ⟨0, newL ⟨0, a⟩ k b⟩ := by
  have hf := newL_facts (b := b) hk
  have e1 : overL ⟨0, a⟩ k b = b := by unfold overL; simp
  have he : putE ⟨0, a⟩ k b = 0 := by
    unfold putE
    rw [logE_ok (l := ⟨0, a⟩) (by simp) (by simp) (by simp only; omega) ha, if_neg (by simp), if_neg (by simp; omega), if_neg (by omega), if_neg (by unfold lastL; simp only; omega), e1, hb, if_neg (by simp), if_neg (by omega)]
  exact ⟨he, by unfold putL; rw [if_pos he]⟩

theorem put_first {a : List ByteArray} (ha : firstE a = 0) (hla : a.length ≤ 100) : putE ⟨0, []⟩ 0 a = 0 ∧ putL ⟨0, []⟩ 0 a = ⟨0, a⟩ := by
  have h := put_ok (a := []) (b := a) (k := 0) (by simp) rfl ha (by simp) hla
  have e : newL ⟨0, []⟩ ((0 : Nat) : Int) a = a := by
    have hf := newL_facts (a := []) (b := a) (k := 0) (by simp)
    have h2 := hf.2.1
    rw [List.drop_zero, List.take_of_length_le (by have := hf.2.2.2.2.1; simpa using this)] at h2
    exact h2
  rw [e] at h
  exact h

theorem put_again {a b : List ByteArray} {k : Nat} (hp : opens b (a.drop k) = true) : newL ⟨0, a⟩ k b = a := by
  have e1 : overL ⟨0, a⟩ k b = b := by unfold overL; simp
  have e2 : aheadL ⟨0, a⟩ k = k := by unfold aheadL; simp
  unfold newL
  rw [e1, e2, if_pos hp]

theorem put_gap {a b : List ByteArray} (ha : firstE a = 0) (hla : a.length ≤ 100) (hlb : b.length ≤ 100) : putE ⟨0, a⟩ ((a.length : Int) + 1) b = 13 := by
  unfold putE
  rw [logE_ok (l := ⟨0, a⟩) (by simp) (by simp) (by simp only; omega) ha, if_neg (by simp), if_neg (by simp; omega), if_neg (by omega), if_pos (by unfold lastL; simp only; omega)]

theorem behind_ok {a : List ByteArray} {i m : Nat} (ha : firstE a = 0) (hla : a.length ≤ 400) : behindE ⟨0, a⟩ i m = 0 ∧ behindL ⟨0, a⟩ i m = (a.drop i).take m := by
  have he : behindE ⟨0, a⟩ i m = 0 := by
    unfold behindE
    rw [logE_ok (l := ⟨0, a⟩) (by simp) (by simp) hla ha, if_neg (by simp), if_neg (by simp only; omega)]
  exact ⟨he, by unfold behindL; rw [if_pos he]; simp⟩

theorem cut_ok {a : List ByteArray} {k : Nat} (hk : k ≤ a.length) (ha : firstE a = 0) (hla : a.length ≤ 400) : cutE ⟨0, a⟩ k = 0 ∧ cutL ⟨0, a⟩ k = ⟨k, a.drop k⟩ := by
  have he : cutE ⟨0, a⟩ k = 0 := by
    unfold cutE
    rw [logE_ok (l := ⟨0, a⟩) (by simp) (by simp) hla ha, if_neg (by simp), if_neg (by unfold lastL; simp only; omega), if_neg (by omega)]
  exact ⟨he, by unfold cutL; rw [if_pos he]; simp⟩

theorem at_cut {a : List ByteArray} {k : Nat} (hk : k ≤ a.length) (ha : firstE a = 0) (hla : a.length ≤ 400) : logE ⟨k, a.drop k⟩ = 0 ∧ lastL ⟨k, a.drop k⟩ = a.length ∧ entE ⟨k, a.drop k⟩ k = 6 ∧ ∀ (i : Nat) (t : ByteArray), k < i → a[i - 1]? = some t → entE ⟨k, a.drop k⟩ i = 0 ∧ entL ⟨k, a.drop k⟩ i = t := by
  have hl : logE ⟨k, a.drop k⟩ = 0 := logE_ok (l := ⟨k, a.drop k⟩) (by simp only; omega) (by simp only; omega) (by simp only [List.length_drop]; omega) (firstE_sub ha (List.drop_sublist _ _))
  refine ⟨hl, by unfold lastL; simp only [List.length_drop]; omega, ?_, fun i t hi ht => ?_⟩
  · unfold entE
    rw [hl, if_neg (by simp), if_pos (by simp only; omega)]
  · have hil := (List.getElem?_eq_some_iff.1 ht).1
    have he : entE ⟨k, a.drop k⟩ i = 0 := by
      unfold entE lastL
      rw [hl, if_neg (by simp), if_neg (by simp only [List.length_drop]; omega)]
    refine ⟨he, ?_⟩
    unfold entL
    rw [if_pos he]
    simp only [List.getD_eq_getElem?_getD, List.getElem?_drop]
    rw [show k + ((i : Int) - (k : Int) - 1).toNat = i - 1 by omega, ht]
    rfl
end Go.Proofs.Ytkmeiilnjkmkiah
