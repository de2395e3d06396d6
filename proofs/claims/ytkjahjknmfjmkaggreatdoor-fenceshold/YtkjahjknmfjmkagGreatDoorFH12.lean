/- Setting keeps pairs such that may be; what is replied may be kept. Plain lists; Plain mathematics of numbers as digits of seven bits. It imports no program; Plain mathematics of reading a number from the front of bytes. It imports no program; Plain mathematics of commands: what is wrong with an operation, or a command, first. It imports no program; Plain mathematics of reading a command from bytes: what is read, and what is wrong first. It imports no program; What an entry does to a state, in plain lists: it stays one that may be, and who has a lock has a session (joined by program) -/
import Derived.WalkKit
import Derived.ProofKit
import Derived.Laws.BytesArg
import Derived.Test.YtkjahjknmfjmkagGreatDoorFH02
import Derived.Test.YtkjahjknmfjmkagGreatDoorFH01
import Derived.Test.YtkjahjknmfjmkagGreatDoorFH03
import Derived.Test.YtkjahjknmfjmkagGreatDoorFH11
namespace Go.Proofs.YtkjahjknmfjmkagGreatDoor

open Go.RowKit

theorem PairD.ext' {x y : PairD} (h1 : x.name = y.name) (h2 : x.value = y.value) (h3 : x.version = y.version) : x = y := by
  cases x; cases y; simp_all

/-- Setting keeps pairs such that may be. -/
theorem setP_good {ps : List PairD} {nm val : ByteArray} (h : GoodP ps) (hn : nameB nm = true) (hv : val.size ≤ 12) : GoodP (setP ps nm val).1 := by
  cases ht : thereP ps nm with
  | true =>
    obtain ⟨x, hx, he⟩ := thereP_yes ht
    have hxx := h.each x (List.mem_of_getElem? hx)
    by_cases hf : x.version = 1073741824
    · rw [setP_full hx he hf]; exact h
    · rw [setP_there hx he hf]
      have key : ∀ (j : Nat) (y : PairD), (ps.set (placeP ps nm) ⟨x.name, val, x.version + 1⟩)[j]? = some y → ∃ z, ps[j]? = some z ∧ z.name = y.name := by
        intro j y hy
        by_cases e : placeP ps nm = j
        · subst e
          have hl := (List.getElem?_eq_some_iff.1 hx).1
          rw [List.getElem?_set_self hl] at hy
          cases hy
          exact ⟨x, hx, rfl⟩
        · rw [List.getElem?_set_ne e] at hy
          exact ⟨y, hy, rfl⟩
      refine ⟨by rw [List.length_set]; exact h.len, fun y hy => ?_, fun i j y z hij hy hz => ?_⟩
      · rcases List.mem_or_eq_of_mem_set hy with hy | rfl
        · exact h.each y hy
        · exact ⟨hxx.1, hv, by show 1 ≤ x.version + 1; omega, by show x.version + 1 ≤ 1073741824; omega⟩
      · obtain ⟨y', hy', ey⟩ := key i y hy
        obtain ⟨z', hz', ez⟩ := key j z hz
        rw [← ey, ← ez]
        exact h.order i j y' z' hij hy' hz'
  | false =>
    by_cases hf : ps.length = 5
    · rw [setP_noroom ht hf]; exact h
    · rw [setP_new ht hf]
      have hle := placeP_le ps nm
      have hlen := h.len
      refine ⟨?_, fun y hy => ?_, fun i j y z hij hy hz => ?_⟩
      · simp only [List.length_append, List.length_take, List.length_cons, List.length_drop]; omega
      · rcases List.mem_append.1 hy with hy | hy
        · exact h.each y (List.mem_of_mem_take hy)
        · rcases List.mem_cons.1 hy with rfl | hy
          · exact ⟨hn, hv, by show (1 : Int) ≤ 1; omega, by show (1 : Int) ≤ 1073741824; omega⟩
          · exact h.each y (List.mem_of_mem_drop hy)
      · have get : ∀ (k : Nat) (u : PairD), (ps.take (placeP ps nm) ++ ⟨nm, val, 1⟩ :: ps.drop (placeP ps nm))[k]? = some u → (k < placeP ps nm ∧ ps[k]? = some u) ∨ (k = placeP ps nm ∧ u = ⟨nm, val, 1⟩) ∨ (placeP ps nm < k ∧ ps[k - 1]? = some u) := by
          intro k u hu
          have hlt : (ps.take (placeP ps nm)).length = placeP ps nm := by rw [List.length_take]; omega
          by_cases a : k < placeP ps nm
          · rw [List.getElem?_append_left (by omega), List.getElem?_take_of_lt a] at hu
            exact Or.inl ⟨a, hu⟩
          · rw [List.getElem?_append_right (by omega), hlt] at hu
            by_cases b : k = placeP ps nm
            · subst b
              rw [Nat.sub_self, List.getElem?_cons_zero] at hu
              exact Or.inr (Or.inl ⟨rfl, by simpa using hu.symm⟩)
            · rw [show k - placeP ps nm = (k - placeP ps nm - 1) + 1 by omega, List.getElem?_cons_succ, List.getElem?_drop, show placeP ps nm + (k - placeP ps nm - 1) = k - 1 by omega] at hu
              exact Or.inr (Or.inr ⟨by omega, hu⟩)
        have above : ∀ (k : Nat) (u : PairD), placeP ps nm ≤ k → ps[k]? = some u → ltP nm u.name = true := by
          intro k u hk hu
          have hkl : k < ps.length := (List.getElem?_eq_some_iff.1 hu).1
          have hpl : placeP ps nm < ps.length := by omega
          have hx : ps[placeP ps nm]? = some ps[placeP ps nm] := List.getElem?_eq_getElem hpl
          have hgt : ltP nm ps[placeP ps nm].name = true := ltP_total (placeP_at hx) (thereP_no h ht _ _ hx)
          by_cases e : placeP ps nm = k
          · subst e
            rw [hx] at hu
            cases hu
            exact hgt
          · exact ltP_trans hgt (h.order _ k _ u (by omega) hx hu)
        rcases get i y hy with ⟨a1, a2⟩ | ⟨a1, rfl⟩ | ⟨a1, a2⟩
        · rcases get j z hz with ⟨b1, b2⟩ | ⟨b1, rfl⟩ | ⟨b1, b2⟩
          · exact h.order i j y z hij a2 b2
          · exact placeP_before a1 a2
          · exact h.order i (j - 1) y z (by omega) a2 b2
        · rcases get j z hz with ⟨b1, b2⟩ | ⟨b1, rfl⟩ | ⟨b1, b2⟩
          · omega
          · omega
          · exact above (j - 1) z (by omega) b2
        · rcases get j z hz with ⟨b1, b2⟩ | ⟨b1, rfl⟩ | ⟨b1, b2⟩
          · omega
          · omega
          · exact h.order (i - 1) (j - 1) y z (by omega) a2 b2

theorem setP_rep {ps : List PairD} {nm val : ByteArray} (h : GoodP ps) : 0 ≤ (setP ps nm val).2.1 ∧ (setP ps nm val).2.1 ≤ 15 ∧ 0 ≤ (setP ps nm val).2.2 ∧ (setP ps nm val).2.2 ≤ 1073741824 := by
  unfold setP
  split
  · rename_i x hx
    have hxx := h.each x (List.mem_of_getElem? hx)
    split
    · split
      · simp
      · simp only; omega
    · split <;> simp
  · split <;> simp

theorem getP_rep {ps : List PairD} {nm : ByteArray} (h : GoodP ps) : 0 ≤ (getP ps nm).1 ∧ (getP ps nm).1 ≤ 15 ∧ 0 ≤ (getP ps nm).2.1 ∧ (getP ps nm).2.1 ≤ 1073741824 ∧ (getP ps nm).2.2.size ≤ 12 := by
  have e0 : (⟨#[]⟩ : ByteArray).size = 0 := rfl
  unfold getP
  split
  · rename_i x hx
    have hxx := h.each x (List.mem_of_getElem? hx)
    split
    · simp only; omega
    · simp [e0]
  · simp [e0]

end Go.Proofs.YtkjahjknmfjmkagGreatDoor

namespace Go.Proofs.YtkjahjknmfjmkagGreatDoor

open Go.RowKit

/-- Digits of seven bits, the lowest first, 128 more on all but the last; at most f + 1 of them. -/
def enc : Nat → Int → List Int
  | 0, m => [m]
  | f + 1, m => if m < 128 then [m] else (m % 128 + 128) :: enc f (m / 128)

/-- The bytes of a number (up to 2^42). -/
def encN (n : Int) : List Int := enc 5 n

theorem enc_small (f : Nat) (m : Int) (h : m < 128) : enc f m = [m] := by
  cases f <;> simp [enc, h]

theorem enc_step (f : Nat) (m : Int) (h : ¬ m < 128) : enc (f + 1) m = (m % 128 + 128) :: enc f (m / 128) := by
  simp [enc, h]

theorem enc_length (f : Nat) : ∀ m, 1 ≤ (enc f m).length ∧ (enc f m).length ≤ f + 1 := by
  induction f with
  | zero => intro m; simp [enc]
  | succ f ih =>
    intro m
    by_cases h : m < 128
    · simp [enc, h]
    · have := ih (m / 128); simp [enc, h]; omega

theorem encN_length (n : Int) : 1 ≤ (encN n).length ∧ (encN n).length ≤ 6 := enc_length 5 n

/-- How far a number reaches with f more digits. -/
def reach : Nat → Int
  | 0 => 128
  | f + 1 => 128 * reach f

theorem reach_div (f : Nat) (m : Int) (h0 : 0 ≤ m) (h : m < reach (f + 1)) : 0 ≤ m / 128 ∧ m / 128 < reach f := by
  simp only [reach] at h
  omega

end Go.Proofs.YtkjahjknmfjmkagGreatDoor

namespace Go.Proofs.YtkjahjknmfjmkagGreatDoor

open Go.RowKit

/-- How many digits the number at the front has; 0: the bytes end within it. -/
def cd : List UInt8 → Nat
  | [] => 0
  | c :: t => if c.toNat < 128 then 1 else if cd t = 0 then 0 else cd t + 1

theorem cd_le (l : List UInt8) : cd l ≤ l.length := by
  induction l with
  | nil => simp [cd]
  | cons c t ih => simp only [cd, List.length_cons]; split <;> (try split) <;> omega

theorem cd_hit (l : List UInt8) : ∀ k, k < l.length → (∀ j, j < k → 128 ≤ (l.getD j 0).toNat) → (l.getD k 0).toNat < 128 → cd l = k + 1 := by
  induction l with
  | nil => intro k hk; simp at hk
  | cons c t ih =>
    intro k hk hall hlt
    cases k with
    | zero => simp at hlt; simp [cd, hlt]
    | succ k =>
      have h0 := hall 0 (by omega)
      have := ih k (by simpa using hk) (fun j hj => by simpa using hall (j + 1) (by omega)) (by simpa using hlt)
      simp at h0
      simp [cd, this]; omega

theorem cd_miss (l : List UInt8) : (∀ j, j < l.length → 128 ≤ (l.getD j 0).toNat) → cd l = 0 := by
  induction l with
  | nil => intro _; rfl
  | cons c t ih =>
    intro hall
    have h0 := hall 0 (by simp)
    have := ih (fun j hj => by simpa using hall (j + 1) (by simpa using hj))
    simp at h0
    simp [cd, this]; omega

/-- The number that digits tell, the lowest first. -/
def dec : List UInt8 → Int
  | [] => 0
  | c :: t => (c.toNat : Int) % 128 + 128 * dec t

theorem dec_nonneg (l : List UInt8) : 0 ≤ dec l := by
  induction l with
  | nil => simp [dec]
  | cons c t ih => simp only [dec]; omega

theorem reach_pos (f : Nat) : 0 < reach f := by
  induction f with
  | zero => simp [reach]
  | succ f ih => simp only [reach]; omega

theorem dec_lt (l : List UInt8) : ∀ f : Nat, l.length ≤ f + 1 → dec l < reach f := by
  induction l with
  | nil => intro f _; exact reach_pos f
  | cons c t ih =>
    intro f hf
    cases f with
    | zero =>
      have : t = [] := by cases t with
        | nil => rfl
        | cons a b => simp at hf
      subst this
      simp [dec, reach]; omega
    | succ f => have := ih f (by simpa using hf); simp only [dec, reach]; omega

theorem reach5 : reach 5 = 4398046511104 := by simp [reach]

theorem dec_drop (l : List UInt8) (k : Nat) (hk : k < l.length) : dec (l.drop k) = ((l.getD k 0).toNat : Int) % 128 + 128 * dec (l.drop (k + 1)) := by
  rw [List.drop_eq_getElem_cons hk, dec]
  simp [List.getElem?_eq_getElem hk]

theorem dec_end (l : List UInt8) : dec (l.drop l.length) = 0 := by simp [dec]

end Go.Proofs.YtkjahjknmfjmkagGreatDoor

namespace Go.Proofs.YtkjahjknmfjmkagGreatDoor

open Go.RowKit

/-- What is wrong with an operation (0: nothing). -/
def opE (k : Int) (a b : ByteArray) (n : Int) : Int :=
  if ¬ (1 ≤ k ∧ k ≤ 6) then 3
  else if nameB a = false ∨ (k ≠ 5 ∧ b.size ≠ 0) then 4
  else if 12 < b.size then 1
  else if k = 5 then (if 1 ≤ n ∧ n ≤ 1073741824 then 0 else 2)
  else if n = 0 then 0 else 2

/-- What is wrong with a command (0: nothing). -/
def cmdE (k c s q u ok : Int) (a b : ByteArray) (n : Int) : Int :=
  if ¬ (1 ≤ k ∧ k ≤ 3) then 3
  else if ¬ (1 ≤ c ∧ c ≤ 9) then 2
  else if k = 2 then (if (1 ≤ s ∧ s ≤ 1073741824) ∧ (1 ≤ q ∧ q ≤ 1048576) ∧ (0 ≤ u ∧ u ≤ q - 1) then opE ok a b n else 2)
  else if s = 0 ∧ q = 0 ∧ u = 0 ∧ ok = 0 ∧ a.size = 0 ∧ b.size = 0 ∧ n = 0 then 0 else 4

theorem size_zero {s : ByteArray} (h : s.size = 0) : s = ⟨#[]⟩ := by
  apply ByteArray.ext
  have : s.data.size = 0 := h
  exact Array.eq_empty_of_size_eq_zero this

end Go.Proofs.YtkjahjknmfjmkagGreatDoor

namespace Go.Proofs.YtkjahjknmfjmkagGreatDoor

open Go.RowKit

/-- A command, as plain data. -/
structure CmdD where
  kind : Int
  client : Int
  session : Int
  seq : Int
  acked : Int
  ok : Int
  a : ByteArray
  b : ByteArray
  n : Int

def CmdD.zero : CmdD := ⟨0, 0, 0, 0, 0, 0, ⟨#[]⟩, ⟨#[]⟩, 0⟩

def CmdD.err (c : CmdD) : Int := cmdE c.kind c.client c.session c.seq c.acked c.ok c.a c.b c.n

/-- The number at the front of bytes, how many bytes it has, what is wrong. -/
def numR (s : ByteArray) : Int × Nat × Int :=
  if cd s.data.toList = 0 then (0, 0, 5)
  else if 6 < cd s.data.toList ∨ (1 < cd s.data.toList ∧ (s.data.toList.getD (cd s.data.toList - 1) 0).toNat = 0) then (0, 0, 4)
  else if 1099511627776 < dec (s.data.toList.take (cd s.data.toList)) then (0, 0, 4)
  else (dec (s.data.toList.take (cd s.data.toList)), cd s.data.toList, 0)

/-- What ReadNumber answers. -/
def readN (s : ByteArray) : Int × ByteArray × Int := if (numR s).2.2 = 0 then ((numR s).1, s.extract (numR s).2.1 s.size, 0) else (0, ⟨#[]⟩, (numR s).2.2)

/-- What ReadText answers. -/
def readT (s : ByteArray) : ByteArray × ByteArray × Int :=
  if (numR s).2.2 ≠ 0 then (⟨#[]⟩, ⟨#[]⟩, (numR s).2.2)
  else if 5000 < (numR s).1 then (⟨#[]⟩, ⟨#[]⟩, 1)
  else if (s.size : Int) - (numR s).2.1 < (numR s).1 then (⟨#[]⟩, ⟨#[]⟩, 5)
  else (s.extract (numR s).2.1 ((numR s).2.1 + (numR s).1.toNat), s.extract ((numR s).2.1 + (numR s).1.toNat) s.size, 0)

theorem numR_err (s : ByteArray) : (numR s).2.2 = 0 ∨ (numR s).2.2 = 4 ∨ (numR s).2.2 = 5 := by
  unfold numR
  split
  · simp
  · split
    · simp
    · split
      · simp
      · simp

theorem numR_ok (s : ByteArray) (h : (numR s).2.2 = 0) : 0 ≤ (numR s).1 ∧ (numR s).1 ≤ 1099511627776 ∧ 1 ≤ (numR s).2.1 ∧ (numR s).2.1 ≤ 6 ∧ (numR s).2.1 ≤ s.size := by
  have hl := cd_le s.data.toList
  have hz : s.data.toList.length = s.size := by simp
  have hd := dec_nonneg (s.data.toList.take (cd s.data.toList))
  revert h
  unfold numR
  split
  · intro h; simp at h
  · split
    · intro h; simp at h
    · split
      · intro h; simp at h
      · intro _
        refine ⟨hd, by show dec _ ≤ _; omega, by show 1 ≤ cd _; omega, by show cd _ ≤ 6; omega, by show cd _ ≤ s.size; omega⟩

/-- A reader: what is left, and what was wrong first. One number more. -/
def stepN (r : ByteArray × Int) : Int × ByteArray × Int := if r.2 = 0 then readN r.1 else (0, r.1, r.2)

/-- One text more. -/
def stepT (r : ByteArray × Int) : ByteArray × ByteArray × Int := if r.2 = 0 then readT r.1 else (⟨#[]⟩, r.1, r.2)

/-- What of a Call is read behind its head. -/
def decCall (k c : Int) (s : ByteArray) : CmdD × ByteArray × Int :=
  let r0 := stepN (s, 0)
  let r1 := stepN r0.2
  let r2 := stepN r1.2
  let r3 := stepN r2.2
  let r4 := stepN r3.2
  let r5 := stepT r4.2
  let r6 := stepT r5.2
  (⟨k, c, r0.1, r1.1, r2.1, r3.1, r5.1, r6.1, r4.1⟩, r6.2)

/-- What was wrong behind all: also bytes that nobody read. -/
def endE (r : ByteArray × Int) : Int := if r.2 = 0 ∧ r.1.size ≠ 0 then 4 else r.2

/-- What is read behind the head. -/
def decBody (s : ByteArray) : CmdD × ByteArray × Int :=
  if ((s.data.toList.getD 0 0).toNat : Int) = 2 then decCall (s.data.toList.getD 0 0).toNat (s.data.toList.getD 1 0).toNat (s.extract 2 s.size)
  else (⟨(s.data.toList.getD 0 0).toNat, (s.data.toList.getD 1 0).toNat, 0, 0, 0, 0, ⟨#[]⟩, ⟨#[]⟩, 0⟩, s.extract 2 s.size, 0)

/-- What Decode refuses. -/
def decE (s : ByteArray) : Int :=
  if 5000 < s.size then 1 else if s.size < 2 then 5
  else if endE (decBody s).2 ≠ 0 then endE (decBody s).2 else (decBody s).1.err

/-- What Decode answers. -/
def decL (s : ByteArray) : CmdD := if decE s = 0 then (decBody s).1 else CmdD.zero

end Go.Proofs.YtkjahjknmfjmkagGreatDoor

namespace Go.Proofs.YtkjahjknmfjmkagGreatDoor

open Go.RowKit

/-- Has the client one of these sessions? -/
def hasS (ls : List SessD) (c : Int) : Bool := ls.any fun x => decide (x.client = c)

theorem hasS_iff {ls : List SessD} {c : Int} : hasS ls c = true ↔ HasC ls c := by
  unfold hasS HasC
  rw [List.any_eq_true]
  constructor
  · rintro ⟨x, hx, e⟩
    exact ⟨x, hx, by simpa using e⟩
  · rintro ⟨x, hx, e⟩
    exact ⟨x, hx, by simpa using e⟩

/-- The locks behind clients of whom no session is fresh. -/
def dropL (fresh : List SessD) (ks : List LockD) (ss : List SessD) : List LockD := ss.foldl (fun ks x => if hasS fresh x.client = true then ks else goneL ks x.client) ks

/-- Without what is idle. -/
def dropM (s : StateD) : StateD := { s with locks := dropL (freshS s.sess s.index) s.locks s.sess, sess := freshS s.sess s.index }

/-- What an operation does, and its reply. -/
def operM (s : StateD) (c k : Int) (a b : ByteArray) (n : Int) : StateD × ReplyD :=
  if k = 1 then ({ s with locks := (takeL s.locks a c false).1 }, ⟨(takeL s.locks a c false).2.1, (takeL s.locks a c false).2.2, ⟨#[]⟩⟩)
  else if k = 2 then ({ s with locks := (takeL s.locks a c true).1 }, ⟨(takeL s.locks a c true).2.1, (takeL s.locks a c true).2.2, ⟨#[]⟩⟩)
  else if k = 3 then ({ s with locks := (freeL s.locks a c).1 }, ⟨(freeL s.locks a c).2.1, (freeL s.locks a c).2.2, ⟨#[]⟩⟩)
  else if k = 4 then (s, ⟨0, (whoL s.locks a).1, ⟨#[]⟩⟩)
  else if k = 5 then (if (whoL s.locks a).1 = c ∧ (whoL s.locks a).2 = n then ({ s with pairs := (setP s.pairs a b).1 }, ⟨(setP s.pairs a b).2.1, (setP s.pairs a b).2.2, ⟨#[]⟩⟩) else (s, ⟨10, (whoL s.locks a).1, ⟨#[]⟩⟩))
  else (s, ⟨(getP s.pairs a).1, (getP s.pairs a).2.1, (getP s.pairs a).2.2⟩)

/-- A call, and its reply. -/
def callM (s : StateD) (x : CmdD) : StateD × ReplyD :=
  if (readyS s.sess s.index x.client x.session x.seq x.acked).2.2 = true then
    ({ (operM { s with sess := (readyS s.sess s.index x.client x.session x.seq x.acked).1 } x.client x.ok x.a x.b x.n).1 with
        sess := keepS (readyS s.sess s.index x.client x.session x.seq x.acked).1 x.client ⟨x.seq, (operM { s with sess := (readyS s.sess s.index x.client x.session x.seq x.acked).1 } x.client x.ok x.a x.b x.n).2.code, (operM { s with sess := (readyS s.sess s.index x.client x.session x.seq x.acked).1 } x.client x.ok x.a x.b x.n).2.n, (operM { s with sess := (readyS s.sess s.index x.client x.session x.seq x.acked).1 } x.client x.ok x.a x.b x.n).2.text⟩ },
      (operM { s with sess := (readyS s.sess s.index x.client x.session x.seq x.acked).1 } x.client x.ok x.a x.b x.n).2)
  else ({ s with sess := (readyS s.sess s.index x.client x.session x.seq x.acked).1 }, (readyS s.sess s.index x.client x.session x.seq x.acked).2.1)

/-- A command, and its reply. -/
def obeyM (s : StateD) (x : CmdD) : StateD × ReplyD :=
  if x.kind = 1 then ({ s with sess := (joinS s.sess s.index x.client).1 }, (joinS s.sess s.index x.client).2)
  else if x.kind = 3 then ({ s with locks := goneL s.locks x.client, sess := (leaveS s.sess x.client).1 }, (leaveS s.sess x.client).2)
  else callM s x

/-- The next entry: the state behind it, and its reply. -/
def applyM (s : StateD) (x : CmdD) : StateD × ReplyD :=
  ({ (obeyM (dropM s) x).1 with index := s.index + 1 }, (obeyM (dropM s) x).2)

/-- A state that may be. -/
structure GoodM (s : StateD) : Prop where
  sess : GoodS s.sess s.index
  locks : GoodL s.locks
  pairs : GoodP s.pairs

theorem GoodM.of {s : StateD} (h : checkM s = 0) : GoodM s := by
  obtain ⟨h1, h2, h3⟩ := checkM_zero h
  exact ⟨checkS_zero h1, GoodL.of h2, checkP_good h3⟩

theorem GoodM.check {s : StateD} (h : GoodM s) : checkM s = 0 := by
  rw [checkM_pairs (checkS_of h.sess) h.locks.check]
  exact h.pairs.check

theorem GoodL.drop {fresh : List SessD} {ss : List SessD} : ∀ {ks : List LockD}, GoodL ks → GoodL (dropL fresh ks ss) := by
  induction ss with
  | nil => intro ks h; exact h
  | cons x r ih =>
    intro ks h
    unfold dropL
    rw [List.foldl_cons]
    refine ih ?_
    split
    · exact h
    · exact h.gone _

/-- Behind the idle ones all that have locks are fresh, or had no session. -/
theorem holds_drop {fresh : List SessD} {ss : List SessD} : ∀ {ks : List LockD} {H : Int → Prop}, GoodL ks → (∀ x ∈ ss, 1 ≤ x.client) → Holds H ks → Holds (fun a => H a ∧ ∀ x ∈ ss, hasS fresh x.client = false → a ≠ x.client) (dropL fresh ks ss) := by
  induction ss with
  | nil => intro ks H _ _ h; exact h.mono fun a ha => ⟨ha, fun x hx => by cases hx⟩
  | cons x r ih =>
    intro ks H hg hc h
    unfold dropL
    rw [List.foldl_cons]
    split
    · rename_i hf
      refine (ih hg (fun y hy => hc y (by simp [hy])) h).mono fun a ha => ⟨ha.1, fun y hy hn => ?_⟩
      rcases List.mem_cons.1 hy with rfl | hy
      · rw [hf] at hn; cases hn
      · exact ha.2 y hy hn
    · refine (ih (hg.gone _) (fun y hy => hc y (by simp [hy])) (h.gone hg (hc x (by simp)))).mono fun a ha => ⟨ha.1.1, fun y hy hn => ?_⟩
      rcases List.mem_cons.1 hy with rfl | hy
      · exact ha.1.2
      · exact ha.2 y hy hn

/-- All that have a lock, or stand in a line, have a session. -/
def HeldM (s : StateD) : Prop := Holds (HasC s.sess) s.locks

theorem GoodM.drop {s : StateD} (h : GoodM s) : GoodM (dropM s) := ⟨h.sess.fresh _, h.locks.drop, h.pairs⟩

theorem HeldM.drop {s : StateD} (h : HeldM s) (hg : GoodM s) : HeldM (dropM s) := by
  refine (holds_drop hg.locks (fun x hx => ?_) h).mono fun a ha => ?_
  · have := rangeB_iff.1 (hg.sess.fine x hx).range
    exact this.1
  · obtain ⟨⟨x, hx, e⟩, h2⟩ := ha
    show HasC (freshS s.sess s.index) a
    rw [← hasS_iff]
    cases hn : hasS (freshS s.sess s.index) a with
    | true => rfl
    | false => exact absurd e.symm (h2 x hx (by rw [e]; exact hn))

/-- An operation that may be asked. -/
structure OpOk (c k : Int) (a b : ByteArray) (n : Int) : Prop where
  client : 1 ≤ c ∧ c ≤ 9
  kind : 1 ≤ k ∧ k ≤ 6
  name : nameB a = true
  value : b.size ≤ 12

theorem opE_zero {k : Int} {a b : ByteArray} {n : Int} (h : opE k a b n = 0) : (1 ≤ k ∧ k ≤ 6) ∧ nameB a = true ∧ b.size ≤ 12 := by
  unfold opE at h
  by_cases h1 : 1 ≤ k ∧ k ≤ 6
  · rw [if_neg (by simpa using h1)] at h
    by_cases h2 : nameB a = false ∨ (k ≠ 5 ∧ b.size ≠ 0)
    · rw [if_pos h2] at h; cases h
    · rw [if_neg h2] at h
      by_cases h3 : 12 < b.size
      · rw [if_pos h3] at h; cases h
      · refine ⟨h1, ?_, by omega⟩
        cases hn : nameB a with
        | true => rfl
        | false => exact absurd (Or.inl hn) h2
  · rw [if_pos h1] at h; cases h

/-- What a Call that may be keeps to. -/
theorem cmdE_parts {k c s q u ok : Int} {a b : ByteArray} {n : Int} (h : cmdE k c s q u ok a b n = 0) : (1 ≤ k ∧ k ≤ 3) ∧ (1 ≤ c ∧ c ≤ 9) ∧ (k = 2 → (1 ≤ s ∧ s ≤ 1073741824) ∧ (1 ≤ q ∧ q ≤ 1048576) ∧ (0 ≤ u ∧ u ≤ q - 1) ∧ opE ok a b n = 0) := by
  unfold cmdE at h
  by_cases h1 : 1 ≤ k ∧ k ≤ 3
  · rw [if_neg (by simpa using h1)] at h
    by_cases h2 : 1 ≤ c ∧ c ≤ 9
    · rw [if_neg (by simpa using h2)] at h
      refine ⟨h1, h2, fun hk => ?_⟩
      rw [if_pos hk] at h
      by_cases h3 : (1 ≤ s ∧ s ≤ 1073741824) ∧ (1 ≤ q ∧ q ≤ 1048576) ∧ (0 ≤ u ∧ u ≤ q - 1)
      · rw [if_pos h3] at h
        exact ⟨h3.1, h3.2.1, h3.2.2, h⟩
      · rw [if_neg h3] at h; cases h
    · rw [if_pos h2] at h; cases h
  · rw [if_pos h1] at h; cases h

/-- What an operation does to what may be. -/
theorem operM_good {s : StateD} (hl : GoodL s.locks) (hp : GoodP s.pairs) {c k : Int} {a b : ByteArray} {n : Int} (ho : OpOk c k a b n) :
    GoodL (operM s c k a b n).1.locks ∧ GoodP (operM s c k a b n).1.pairs ∧ replyB (operM s c k a b n).2.code (operM s c k a b n).2.n (operM s c k a b n).2.text.size = true ∧ (operM s c k a b n).1.index = s.index ∧ (operM s c k a b n).1.sess = s.sess := by
  obtain ⟨c1, c2⟩ := ho.client
  have e0 : (⟨#[]⟩ : ByteArray).size = 0 := rfl
  unfold operM
  split
  · have := hl.takeRep a c false
    exact ⟨hl.take ho.name c1 c2 false, hp, replyB_iff.2 ⟨this.1, this.2.1, this.2.2.1, this.2.2.2, by simp only; omega⟩, rfl, rfl⟩
  · split
    · have := hl.takeRep a c true
      exact ⟨hl.take ho.name c1 c2 true, hp, replyB_iff.2 ⟨this.1, this.2.1, this.2.2.1, this.2.2.2, by simp only; omega⟩, rfl, rfl⟩
    · split
      · have := hl.freeRep a c
        exact ⟨hl.free a c, hp, replyB_iff.2 ⟨this.1, this.2.1, this.2.2.1, this.2.2.2, by simp only; omega⟩, rfl, rfl⟩
      · split
        · have := hl.whoRep a
          exact ⟨hl, hp, replyB_iff.2 (by simp only; omega), rfl, rfl⟩
        · split
          · split
            · have := setP_rep (val := b) hp (nm := a)
              exact ⟨hl, setP_good hp ho.name ho.value, replyB_iff.2 (by simp only; omega), rfl, rfl⟩
            · have := hl.whoRep a
              exact ⟨hl, hp, replyB_iff.2 (by simp only; omega), rfl, rfl⟩
          · have := getP_rep hp (nm := a)
            exact ⟨hl, hp, replyB_iff.2 (by simp only; omega), rfl, rfl⟩

theorem operM_holds {H : Int → Prop} {s : StateD} (h : Holds H s.locks) {c k : Int} {a b : ByteArray} {n : Int} (hc : H c) : Holds H (operM s c k a b n).1.locks := by
  unfold operM
  split
  · exact h.take a hc false
  · split
    · exact h.take a hc true
    · split
      · exact h.free a c
      · split
        · exact h
        · split
          · split
            · exact h
            · exact h
          · exact h

/-- A command that may be obeyed: what is asked of the state on the way. -/
theorem callM_good {s : StateD} (h : GoodM s) (hi : s.index < 1073741824) {x : CmdD} (hx : x.err = 0) (hk : x.kind = 2) :
    GoodM { (callM s x).1 with index := s.index + 1 } ∧ (HeldM s → HeldM { (callM s x).1 with index := s.index + 1 }) := by
  obtain ⟨-, hc, h2⟩ := cmdE_parts hx
  obtain ⟨-, hq, hu, ho⟩ := h2 hk
  obtain ⟨o1, o2, o3⟩ := opE_zero ho
  have hop : OpOk x.client x.ok x.a x.b x.n := ⟨hc, o1, o2, o3⟩
  have hr := h.sess.ready hi x.client x.session (q := x.seq) (u := x.acked) hq.2 hu.2
  have hrc := fun a => hasC_ready (ls := s.sess) (i := s.index) (c := x.client) (s := x.session) (q := x.seq) (u := x.acked) a
  unfold callM
  split
  · rename_i ht
    obtain ⟨g1, g2, g3, g4, g5⟩ := operM_good (s := { s with sess := (readyS s.sess s.index x.client x.session x.seq x.acked).1 }) h.locks h.pairs hop
    obtain ⟨k1, k2, k3⟩ := keep_ready h.sess hi hq.2 hu.2 ht g3
    refine ⟨⟨k2, g1, g2⟩, fun hh => ?_⟩
    obtain ⟨y, -, hy, e, -⟩ := readyS_todo ht
    have hcc : HasC s.sess x.client := ⟨y, List.mem_of_getElem? hy, e⟩
    exact (operM_holds (H := HasC s.sess) (s := { s with sess := (readyS s.sess s.index x.client x.session x.seq x.acked).1 }) hh hcc).mono fun a ha => (k3 a).2 ha
  · exact ⟨⟨hr, h.locks, h.pairs⟩, fun hh => hh.mono fun a ha => (hrc a).2 ha⟩

theorem obeyM_good {s : StateD} (h : GoodM s) (hi : s.index < 1073741824) {x : CmdD} (hx : x.err = 0) :
    GoodM { (obeyM s x).1 with index := s.index + 1 } ∧ (HeldM s → HeldM { (obeyM s x).1 with index := s.index + 1 }) := by
  obtain ⟨hk, hc, -⟩ := cmdE_parts hx
  unfold obeyM
  split
  · refine ⟨⟨h.sess.join hi hc.1 hc.2, h.locks, h.pairs⟩, fun hh => hh.mono fun a ha => hasC_join ha⟩
  · split
    · have hs : GoodS (leaveS s.sess x.client).1 (s.index + 1) := (h.sess.leave _).step (by omega) (by omega)
      refine ⟨⟨hs, h.locks.gone _, h.pairs⟩, fun hh => ?_⟩
      exact (Holds.gone hh h.locks hc.1).mono fun a ha => hasC_leave ha.1 ha.2
    · exact callM_good h hi hx (by omega)

/-- WHATEVER COMES a state stays one that may be; who has a lock has a session. -/
theorem applyM_good {s : StateD} (h : GoodM s) (hi : s.index < 1073741824) {x : CmdD} (hx : x.err = 0) : GoodM (applyM s x).1 ∧ (HeldM s → HeldM (applyM s x).1) := by
  have k := obeyM_good (s := dropM s) h.drop hi hx
  exact ⟨k.1, fun hh => k.2 (hh.drop h)⟩

theorem applyM_index (s : StateD) (x : CmdD) : (applyM s x).1.index = s.index + 1 := rfl

end Go.Proofs.YtkjahjknmfjmkagGreatDoor
