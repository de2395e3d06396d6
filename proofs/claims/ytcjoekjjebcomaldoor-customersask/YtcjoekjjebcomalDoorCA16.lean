/- Plain mathematics of reading a number from the front of bytes. It imports no program; Plain mathematics of reading a command from bytes: what is read, and what is wrong first. It imports no program (joined by program) -/
import Derived.Test.YtcjoekjjebcomalDoorCA14
import Derived.Test.YtcjoekjjebcomalDoorCA00
namespace Go.Proofs.YtcjoekjjebcomalDoor

open Go.RowKit

/-- How many digits the number at the front has; 0: the bytes end within it. -/
def cd : List UInt8 → Nat
  | [] => 0
  | c :: t => if c.toNat < 128 then 1 else if cd t = 0 then 0 else cd t + 1

theorem cd_le (l : List UInt8) : cd l ≤ l.length := by
  induction l with
  | nil => simp [cd]
  | cons c t ih => simp only [cd, List.length_cons]; split <;> (try split) <;> omega

theorem cd_hit (l : List UInt8) : ∀ k, k < l.length → (∀ j, j < k → 128 ≤ (l.getD j 0).toNat) → (l.getD k 0).toNat < 128 → cd l = k + 1 := by
  induction l with
  | nil => intro k hk; simp at hk
  | cons c t ih =>
    intro k hk hall hlt
    cases k with
    | zero => simp at hlt; simp [cd, hlt]
    | succ k =>
      have h0 := hall 0 (by omega)
      have := ih k (by simpa using hk) (fun j hj => by simpa using hall (j + 1) (by omega)) (by simpa using hlt)
      simp at h0
      simp [cd, this]; omega

theorem cd_miss (l : List UInt8) : (∀ j, j < l.length → 128 ≤ (l.getD j 0).toNat) → cd l = 0 := by
  induction l with
  | nil => intro _; rfl
  | cons c t ih =>
    intro hall
    have h0 := hall 0 (by simp)
    have := ih (fun j hj => by simpa using hall (j + 1) (by simpa using hj))
    simp at h0
    simp [cd, this]; omega

/-- The number that digits tell, the lowest first. -/
def dec : List UInt8 → Int
  | [] => 0
  | c :: t => (c.toNat : Int) % 128 + 128 * dec t

theorem dec_nonneg (l : List UInt8) : 0 ≤ dec l := by
  induction l with
  | nil => simp [dec]
  | cons c t ih => simp only [dec]; omega

theorem reach_pos (f : Nat) : 0 < reach f := by
  induction f with
  | zero => simp [reach]
  | succ f ih => simp only [reach]; omega

theorem dec_lt (l : List UInt8) : ∀ f : Nat, l.length ≤ f + 1 → dec l < reach f := by
  induction l with
  | nil => intro f _; exact reach_pos f
  | cons c t ih =>
    intro f hf
    cases f with
    | zero =>
      have : t = [] := by cases t with
        | nil => rfl
        | cons a b => simp at hf
      subst this
      simp [dec, reach]; omega
    | succ f => have := ih f (by simpa using hf); simp only [dec, reach]; omega

theorem reach5 : reach 5 = 4398046511104 := by simp [reach]

theorem dec_drop (l : List UInt8) (k : Nat) (hk : k < l.length) : dec (l.drop k) = ((l.getD k 0).toNat : Int) % 128 + 128 * dec (l.drop (k + 1)) := by
  rw [List.drop_eq_getElem_cons hk, dec]
  simp [List.getElem?_eq_getElem hk]

theorem dec_end (l : List UInt8) : dec (l.drop l.length) = 0 := by simp [dec]

end Go.Proofs.YtcjoekjjebcomalDoor

namespace Go.Proofs.YtcjoekjjebcomalDoor

open Go.RowKit

/-- A command, as plain data. -/
structure CmdD where
  kind : Int
  client : Int
  session : Int
  seq : Int
  acked : Int
  ok : Int
  a : ByteArray
  b : ByteArray
  n : Int

def CmdD.zero : CmdD := ⟨0, 0, 0, 0, 0, 0, ⟨#[]⟩, ⟨#[]⟩, 0⟩

def CmdD.err (c : CmdD) : Int := cmdE c.kind c.client c.session c.seq c.acked c.ok c.a c.b c.n

/-- The number at the front of bytes, how many bytes it has, what is wrong. -/
def numR (s : ByteArray) : Int × Nat × Int :=
  if cd s.data.toList = 0 then (0, 0, 5)
  else if 6 < cd s.data.toList ∨ (1 < cd s.data.toList ∧ (s.data.toList.getD (cd s.data.toList - 1) 0).toNat = 0) then (0, 0, 4)
  else if 1099511627776 < dec (s.data.toList.take (cd s.data.toList)) then (0, 0, 4)
  else (dec (s.data.toList.take (cd s.data.toList)), cd s.data.toList, 0)

/-- What ReadNumber answers. -/
def readN (s : ByteArray) : Int × ByteArray × Int := if (numR s).2.2 = 0 then ((numR s).1, s.extract (numR s).2.1 s.size, 0) else (0, ⟨#[]⟩, (numR s).2.2)

/-- What ReadText answers. -/
def readT (s : ByteArray) : ByteArray × ByteArray × Int :=
  if (numR s).2.2 ≠ 0 then (⟨#[]⟩, ⟨#[]⟩, (numR s).2.2)
  else if 5000 < (numR s).1 then (⟨#[]⟩, ⟨#[]⟩, 1)
  else if (s.size : Int) - (numR s).2.1 < (numR s).1 then (⟨#[]⟩, ⟨#[]⟩, 5)
  else (s.extract (numR s).2.1 ((numR s).2.1 + (numR s).1.toNat), s.extract ((numR s).2.1 + (numR s).1.toNat) s.size, 0)

theorem numR_err (s : ByteArray) : (numR s).2.2 = 0 ∨ (numR s).2.2 = 4 ∨ (numR s).2.2 = 5 := by
  unfold numR
  split
  · simp
  · split
    · simp
    · split
      · simp
      · simp

theorem numR_ok (s : ByteArray) (h : (numR s).2.2 = 0) : 0 ≤ (numR s).1 ∧ (numR s).1 ≤ 1099511627776 ∧ 1 ≤ (numR s).2.1 ∧ (numR s).2.1 ≤ 6 ∧ (numR s).2.1 ≤ s.size := by
  have hl := cd_le s.data.toList
  have hz : s.data.toList.length = s.size := by simp
  have hd := dec_nonneg (s.data.toList.take (cd s.data.toList))
  revert h
  unfold numR
  split
  · intro h; simp at h
  · split
    · intro h; simp at h
    · split
      · intro h; simp at h
      · intro _
        refine ⟨hd, by show dec _ ≤ _; omega, by show 1 ≤ cd _; omega, by show cd _ ≤ 6; omega, by show cd _ ≤ s.size; omega⟩

/-- A reader: what is left, and what was wrong first. One number more. -/
def stepN (r : ByteArray × Int) : Int × ByteArray × Int := if r.2 = 0 then readN r.1 else (0, r.1, r.2)

/-- One text more. -/
def stepT (r : ByteArray × Int) : ByteArray × ByteArray × Int := if r.2 = 0 then readT r.1 else (⟨#[]⟩, r.1, r.2)

/-- What of a Call is read behind its head. -/
def decCall (k c : Int) (s : ByteArray) : CmdD × ByteArray × Int :=
  let r0 := stepN (s, 0)
  let r1 := stepN r0.2
  let r2 := stepN r1.2
  let r3 := stepN r2.2
  let r4 := stepN r3.2
  let r5 := stepT r4.2
  let r6 := stepT r5.2
  (⟨k, c, r0.1, r1.1, r2.1, r3.1, r5.1, r6.1, r4.1⟩, r6.2)

/-- What was wrong behind all: also bytes that nobody read. -/
def endE (r : ByteArray × Int) : Int := if r.2 = 0 ∧ r.1.size ≠ 0 then 4 else r.2

/-- What is read behind the head. -/
def decBody (s : ByteArray) : CmdD × ByteArray × Int :=
  if ((s.data.toList.getD 0 0).toNat : Int) = 2 then decCall (s.data.toList.getD 0 0).toNat (s.data.toList.getD 1 0).toNat (s.extract 2 s.size)
  else (⟨(s.data.toList.getD 0 0).toNat, (s.data.toList.getD 1 0).toNat, 0, 0, 0, 0, ⟨#[]⟩, ⟨#[]⟩, 0⟩, s.extract 2 s.size, 0)

/-- What Decode refuses. -/
def decE (s : ByteArray) : Int :=
  if 5000 < s.size then 1 else if s.size < 2 then 5
  else if endE (decBody s).2 ≠ 0 then endE (decBody s).2 else (decBody s).1.err

/-- What Decode answers. -/
def decL (s : ByteArray) : CmdD := if decE s = 0 then (decBody s).1 else CmdD.zero

end Go.Proofs.YtcjoekjjebcomalDoor
