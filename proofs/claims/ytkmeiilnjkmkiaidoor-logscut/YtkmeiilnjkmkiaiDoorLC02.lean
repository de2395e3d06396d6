/- Plain mathematics of reading a command from bytes: what is read, and what is wrong first. It imports no program; Logs as plain lists: what may be, what the calls do. Plain mathematics; no program (joined by program) -/
import Derived.Test.YtkmeiilnjkmkiaiDoorLC00
import Derived.Test.YtkmeiilnjkmkiaiDoorLC01
namespace Go.Proofs.YtkmeiilnjkmkiaiDoor

open Go.RowKit

/-- A command, as plain data. -/
structure CmdD where
  kind : Int
  client : Int
  session : Int
  seq : Int
  acked : Int
  ok : Int
  a : ByteArray
  b : ByteArray
  n : Int

def CmdD.zero : CmdD := ⟨0, 0, 0, 0, 0, 0, ⟨#[]⟩, ⟨#[]⟩, 0⟩

def CmdD.err (c : CmdD) : Int := cmdE c.kind c.client c.session c.seq c.acked c.ok c.a c.b c.n

/-- The number at the front of bytes, how many bytes it has, what is wrong. -/
def numR (s : ByteArray) : Int × Nat × Int :=
  if cd s.data.toList = 0 then (0, 0, 5)
  else if 6 < cd s.data.toList ∨ (1 < cd s.data.toList ∧ (s.data.toList.getD (cd s.data.toList - 1) 0).toNat = 0) then (0, 0, 4)
  else if 1099511627776 < dec (s.data.toList.take (cd s.data.toList)) then (0, 0, 4)
  else (dec (s.data.toList.take (cd s.data.toList)), cd s.data.toList, 0)

/-- What ReadNumber answers. -/
def readN (s : ByteArray) : Int × ByteArray × Int := if (numR s).2.2 = 0 then ((numR s).1, s.extract (numR s).2.1 s.size, 0) else (0, ⟨#[]⟩, (numR s).2.2)

/-- What ReadText answers. -/
def readT (s : ByteArray) : ByteArray × ByteArray × Int :=
  if (numR s).2.2 ≠ 0 then (⟨#[]⟩, ⟨#[]⟩, (numR s).2.2)
  else if 5000 < (numR s).1 then (⟨#[]⟩, ⟨#[]⟩, 1)
  else if (s.size : Int) - (numR s).2.1 < (numR s).1 then (⟨#[]⟩, ⟨#[]⟩, 5)
  else (s.extract (numR s).2.1 ((numR s).2.1 + (numR s).1.toNat), s.extract ((numR s).2.1 + (numR s).1.toNat) s.size, 0)

theorem numR_err (s : ByteArray) : (numR s).2.2 = 0 ∨ (numR s).2.2 = 4 ∨ (numR s).2.2 = 5 := by
  unfold numR
  split
  · simp
  · split
    · simp
    · split
      · simp
      · simp

theorem numR_ok (s : ByteArray) (h : (numR s).2.2 = 0) : 0 ≤ (numR s).1 ∧ (numR s).1 ≤ 1099511627776 ∧ 1 ≤ (numR s).2.1 ∧ (numR s).2.1 ≤ 6 ∧ (numR s).2.1 ≤ s.size := by
  have hl := cd_le s.data.toList
  have hz : s.data.toList.length = s.size := by simp
  have hd := dec_nonneg (s.data.toList.take (cd s.data.toList))
  revert h
  unfold numR
  split
  · intro h; simp at h
  · split
    · intro h; simp at h
    · split
      · intro h; simp at h
      · intro _
        refine ⟨hd, by show dec _ ≤ _; omega, by show 1 ≤ cd _; omega, by show cd _ ≤ 6; omega, by show cd _ ≤ s.size; omega⟩

/-- A reader: what is left, and what was wrong first. One number more. -/
def stepN (r : ByteArray × Int) : Int × ByteArray × Int := if r.2 = 0 then readN r.1 else (0, r.1, r.2)

/-- One text more. -/
def stepT (r : ByteArray × Int) : ByteArray × ByteArray × Int := if r.2 = 0 then readT r.1 else (⟨#[]⟩, r.1, r.2)

/-- What of a Call is read behind its head. -/
def decCall (k c : Int) (s : ByteArray) : CmdD × ByteArray × Int :=
  let r0 := stepN (s, 0)
  let r1 := stepN r0.2
  let r2 := stepN r1.2
  let r3 := stepN r2.2
  let r4 := stepN r3.2
  let r5 := stepT r4.2
  let r6 := stepT r5.2
  (⟨k, c, r0.1, r1.1, r2.1, r3.1, r5.1, r6.1, r4.1⟩, r6.2)

/-- What was wrong behind all: also bytes that nobody read. -/
def endE (r : ByteArray × Int) : Int := if r.2 = 0 ∧ r.1.size ≠ 0 then 4 else r.2

/-- What is read behind the head. -/
def decBody (s : ByteArray) : CmdD × ByteArray × Int :=
  if ((s.data.toList.getD 0 0).toNat : Int) = 2 then decCall (s.data.toList.getD 0 0).toNat (s.data.toList.getD 1 0).toNat (s.extract 2 s.size)
  else (⟨(s.data.toList.getD 0 0).toNat, (s.data.toList.getD 1 0).toNat, 0, 0, 0, 0, ⟨#[]⟩, ⟨#[]⟩, 0⟩, s.extract 2 s.size, 0)

/-- What Decode refuses. -/
def decE (s : ByteArray) : Int :=
  if 5000 < s.size then 1 else if s.size < 2 then 5
  else if endE (decBody s).2 ≠ 0 then endE (decBody s).2 else (decBody s).1.err

/-- What Decode answers. -/
def decL (s : ByteArray) : CmdD := if decE s = 0 then (decBody s).1 else CmdD.zero

end Go.Proofs.YtkmeiilnjkmkiaiDoor

namespace Go.Proofs.YtkmeiilnjkmkiaiDoor

open Go.RowKit

/-- A log, as plain data. -/
structure LogD where
  base : Int
  ents : List ByteArray

/-- What Decode refuses of entries, one by one. -/
def firstE : List ByteArray → Int
  | [] => 0
  | t :: r => if decE t ≠ 0 then decE t else firstE r

theorem firstE_zero {ts : List ByteArray} : firstE ts = 0 ↔ ∀ t ∈ ts, decE t = 0 := by
  induction ts with
  | nil => simp [firstE]
  | cons t r ih =>
    unfold firstE
    by_cases h : decE t = 0
    · rw [if_neg (by simpa using h), ih]
      simp [h]
    · rw [if_pos h]
      simp [h]

theorem firstE_sub {ts us : List ByteArray} (h : firstE ts = 0) (hs : us.Sublist ts) : firstE us = 0 := firstE_zero.2 fun t ht => firstE_zero.1 h t (hs.subset ht)

/-- What is wrong with a log; 0: nothing. -/
def logE (l : LogD) : Int := if ¬ (0 ≤ l.base ∧ l.base ≤ 1073741424) then 2 else if 400 < l.ents.length then 1 else firstE l.ents

def lastL (l : LogD) : Int := l.base + l.ents.length

theorem logE_ok {l : LogD} (h0 : 0 ≤ l.base) (h1 : l.base ≤ 1073741424) (h2 : l.ents.length ≤ 400) (h3 : firstE l.ents = 0) : logE l = 0 := by
  unfold logE
  rw [if_neg (by simp; omega), if_neg (by omega), h3]

/-- Of entries that are put: those that are not passed over. -/
def overL (l : LogD) (behind : Int) (more : List ByteArray) : List ByteArray := more.drop (l.base - behind).toNat

/-- How many entries stand ahead of them. -/
def aheadL (l : LogD) (behind : Int) : Nat := (behind - l.base).toNat

/-- Do entries open with these? -/
def opens (p t : List ByteArray) : Bool := decide (p = t.take p.length)

theorem opens_iff {p t : List ByteArray} : opens p t = true ↔ p = t.take p.length := by simp [opens]

/-- The entries behind a put. -/
def newL (l : LogD) (behind : Int) (more : List ByteArray) : List ByteArray :=
  if opens (overL l behind more) (l.ents.drop (aheadL l behind)) = true then l.ents else l.ents.take (aheadL l behind) ++ overL l behind more

def putE (l : LogD) (behind : Int) (more : List ByteArray) : Int :=
  if logE l ≠ 0 then logE l else if ¬ (0 ≤ behind ∧ behind ≤ 1073741824) then 2 else if 400 < more.length then 1 else if lastL l < behind then 13
  else if firstE (overL l behind more) ≠ 0 then firstE (overL l behind more) else if 400 < (newL l behind more).length then 8 else 0

def putL (l : LogD) (behind : Int) (more : List ByteArray) : LogD := if putE l behind more = 0 then ⟨l.base, newL l behind more⟩ else ⟨0, []⟩

def cutE (l : LogD) (index : Int) : Int := if logE l ≠ 0 then logE l else if ¬ (l.base ≤ index ∧ index ≤ lastL l) then 2 else if 1073741424 < index then 8 else 0

def cutL (l : LogD) (index : Int) : LogD := if cutE l index = 0 then ⟨index, l.ents.drop (index - l.base).toNat⟩ else ⟨0, []⟩

def entE (l : LogD) (index : Int) : Int := if logE l ≠ 0 then logE l else if ¬ (l.base + 1 ≤ index ∧ index ≤ lastL l) then 6 else 0

def entL (l : LogD) (index : Int) : ByteArray := if entE l index = 0 then l.ents.getD (index - l.base - 1).toNat ⟨#[]⟩ else ⟨#[]⟩

/-- What was put behind an index stands there. -/
theorem newL_facts {a b : List ByteArray} {k : Nat} (hk : k ≤ a.length) : (newL ⟨0, a⟩ k b).take k = a.take k ∧ ((newL ⟨0, a⟩ k b).drop k).take b.length = b ∧ opens b ((newL ⟨0, a⟩ k b).drop k) = true ∧ k + b.length ≤ (newL ⟨0, a⟩ k b).length ∧ (newL ⟨0, a⟩ k b).length ≤ a.length + b.length ∧ ∀ t ∈ newL ⟨0, a⟩ k b, t ∈ a ∨ t ∈ b := by
  have e1 : overL ⟨0, a⟩ k b = b := by unfold overL; simp
  have e2 : aheadL ⟨0, a⟩ k = k := by unfold aheadL; simp
  unfold newL
  rw [e1, e2]
  by_cases h : opens b (a.drop k) = true
  · rw [if_pos h]
    have hp := opens_iff.1 h
    have hl : b.length ≤ a.length - k := by
      have := congrArg List.length hp
      rw [List.length_take, List.length_drop] at this
      omega
    exact ⟨rfl, hp.symm, h, by simp only; omega, by simp only; omega, fun t ht => Or.inl ht⟩
  · rw [if_neg h]
    have hlk : (a.take k).length = k := by rw [List.length_take]; omega
    have ed : (a.take k ++ b).drop k = b := by
      have := List.drop_left (l₁ := a.take k) (l₂ := b)
      rwa [hlk] at this
    refine ⟨?_, ?_, ?_, ?_, ?_, fun t ht => ?_⟩
    · have := List.take_left (l₁ := a.take k) (l₂ := b)
      rwa [hlk] at this
    · rw [ed, List.take_length]
    · rw [ed]; exact opens_iff.2 (List.take_length).symm
    · rw [List.length_append, hlk]; omega
    · rw [List.length_append, hlk]; omega
    · rcases List.mem_append.1 ht with ht | ht
      · exact Or.inl (List.mem_of_mem_take ht)
      · exact Or.inr ht

theorem put_ok {a b : List ByteArray} {k : Nat} (hk : k ≤ a.length) (ha : firstE a = 0) (hb : firstE b = 0) (hla : a.length ≤ 100) (hlb : b.length ≤ 100) : putE ⟨0, a⟩ k b = 0 ∧ putL ⟨0, a⟩ k b = ⟨0, newL ⟨0, a⟩ k b⟩ := by
  have hf := newL_facts (b := b) hk
  have e1 : overL ⟨0, a⟩ k b = b := by unfold overL; simp
  have he : putE ⟨0, a⟩ k b = 0 := by
    unfold putE
    rw [logE_ok (l := ⟨0, a⟩) (by simp) (by simp) (by simp only; omega) ha, if_neg (by simp), if_neg (by simp; omega), if_neg (by omega), if_neg (by unfold lastL; simp only; omega), e1, hb, if_neg (by simp), if_neg (by omega)]
  exact ⟨he, by unfold putL; rw [if_pos he]⟩

theorem put_first {a : List ByteArray} (ha : firstE a = 0) (hla : a.length ≤ 100) : putE ⟨0, []⟩ 0 a = 0 ∧ putL ⟨0, []⟩ 0 a = ⟨0, a⟩ := by
  have h := put_ok (a := []) (b := a) (k := 0) (by simp) rfl ha (by simp) hla
  have e : newL ⟨0, []⟩ ((0 : Nat) : Int) a = a := by
    have hf := newL_facts (a := []) (b := a) (k := 0) (by simp)
    have h2 := hf.2.1
    rw [List.drop_zero, List.take_of_length_le (by have := hf.2.2.2.2.1; simpa using this)] at h2
    exact h2
  rw [e] at h
  exact h

theorem cut_ok {a : List ByteArray} {k : Nat} (hk : k ≤ a.length) (ha : firstE a = 0) (hla : a.length ≤ 400) : cutE ⟨0, a⟩ k = 0 ∧ cutL ⟨0, a⟩ k = ⟨k, a.drop k⟩ := by
  have he : cutE ⟨0, a⟩ k = 0 := by
    unfold cutE
    rw [logE_ok (l := ⟨0, a⟩) (by simp) (by simp) hla ha, if_neg (by simp), if_neg (by unfold lastL; simp only; omega), if_neg (by omega)]
  exact ⟨he, by unfold cutL; rw [if_pos he]; simp⟩

theorem at_cut {a : List ByteArray} {k : Nat} (hk : k ≤ a.length) (ha : firstE a = 0) (hla : a.length ≤ 400) : logE ⟨k, a.drop k⟩ = 0 ∧ lastL ⟨k, a.drop k⟩ = a.length ∧ entE ⟨k, a.drop k⟩ k = 6 ∧ ∀ (i : Nat) (t : ByteArray), k < i → a[i - 1]? = some t → entE ⟨k, a.drop k⟩ i = 0 ∧ entL ⟨k, a.drop k⟩ i = t := by
  have hl : logE ⟨k, a.drop k⟩ = 0 := logE_ok (l := ⟨k, a.drop k⟩) (by simp only; omega) (by simp only; omega) (by simp only [List.length_drop]; omega) (firstE_sub ha (List.drop_sublist _ _))
  refine ⟨hl, by unfold lastL; simp only [List.length_drop]; omega, ?_, fun i t hi ht => ?_⟩
  · unfold entE
    rw [hl, if_neg (by simp), if_pos (by simp only; omega)]
  · have hil := (List.getElem?_eq_some_iff.1 ht).1
    have he : entE ⟨k, a.drop k⟩ i = 0 := by
      unfold entE lastL
      rw [hl, if_neg (by simp), if_neg (by simp only [List.length_drop]; omega)]
    refine ⟨he, ?_⟩
    unfold entL
    rw [if_pos he]
    simp only [List.getD_eq_getElem?_getD, List.getElem?_drop]
    rw [show k + ((i : Int) - (k : Int) - 1).toNat = i - 1 by omega, ht]
    rfl

end Go.Proofs.YtkmeiilnjkmkiaiDoor
