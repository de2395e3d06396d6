/- Plain mathematics of reading a number from the front of bytes. It imports no program; Plain mathematics of commands: what is wrong with an operation, or a command, first. It imports no program; Plain mathematics of reading a command from bytes: what is read, and what is wrong first. It imports no program; What an entry does to a state, in plain lists: it stays one that may be, and who has a lock has a session; A block's cells, read, and kept behind callees. It names no program; A state in a block of its own: what it reads as, and what stores leave of it; A row of pairs of the call's own: kept, put anew; pair.place, by slices.IndexFunc with its closure; the document's pairAt; Rows of pairs, put anew one by one (joined by program) -/
import Derived.Laws.Cover1
import Derived.Deep.QuietTactic
import Derived.BigQuiet
import Derived.Deep.DeepCutAuto
import Derived.Deep.RegionWith
import Derived.Test.YtpcacaohknkdlahGreatDoorSB11
import Derived.Test.YtpcacaohknkdlahGreatDoorSB01
import Derived.Test.YtpcacaohknkdlahGreatDoorSB02
import Derived.Test.YtpcacaohknkdlahGreatDoorSB10
import Derived.Test.YtpcacaohknkdlahGreatDoorSB00
import Derived.Test.YtpcacaohknkdlahGreatDoorSB03
namespace Go.Proofs.YtpcacaohknkdlahGreatDoor

open Go.RowKit

/-- How many digits the number at the front has; 0: the bytes end within it. -/
def cd : List UInt8 → Nat
  | [] => 0
  | c :: t => if c.toNat < 128 then 1 else if cd t = 0 then 0 else cd t + 1

theorem cd_le (l : List UInt8) : cd l ≤ l.length := by
  induction l with
  | nil => simp [cd]
  | cons c t ih => simp only [cd, List.length_cons]; split <;> (try split) <;> omega

theorem cd_hit (l : List UInt8) : ∀ k, k < l.length → (∀ j, j < k → 128 ≤ (l.getD j 0).toNat) → (l.getD k 0).toNat < 128 → cd l = k + 1 := by
  induction l with
  | nil => intro k hk; simp at hk
  | cons c t ih =>
    intro k hk hall hlt
    cases k with
    | zero => simp at hlt; simp [cd, hlt]
    | succ k =>
      have h0 := hall 0 (by omega)
      have := ih k (by simpa using hk) (fun j hj => by simpa using hall (j + 1) (by omega)) (by simpa using hlt)
      simp at h0
      simp [cd, this]; omega

theorem cd_miss (l : List UInt8) : (∀ j, j < l.length → 128 ≤ (l.getD j 0).toNat) → cd l = 0 := by
  induction l with
  | nil => intro _; rfl
  | cons c t ih =>
    intro hall
    have h0 := hall 0 (by simp)
    have := ih (fun j hj => by simpa using hall (j + 1) (by simpa using hj))
    simp at h0
    simp [cd, this]; omega

/-- The number that digits tell, the lowest first. -/
def dec : List UInt8 → Int
  | [] => 0
  | c :: t => (c.toNat : Int) % 128 + 128 * dec t

theorem dec_nonneg (l : List UInt8) : 0 ≤ dec l := by
  induction l with
  | nil => simp [dec]
  | cons c t ih => simp only [dec]; omega

theorem reach_pos (f : Nat) : 0 < reach f := by
  induction f with
  | zero => simp [reach]
  | succ f ih => simp only [reach]; omega

theorem dec_lt (l : List UInt8) : ∀ f : Nat, l.length ≤ f + 1 → dec l < reach f := by
  induction l with
  | nil => intro f _; exact reach_pos f
  | cons c t ih =>
    intro f hf
    cases f with
    | zero =>
      have : t = [] := by cases t with
        | nil => rfl
        | cons a b => simp at hf
      subst this
      simp [dec, reach]; omega
    | succ f => have := ih f (by simpa using hf); simp only [dec, reach]; omega

theorem reach5 : reach 5 = 4398046511104 := by simp [reach]

theorem dec_drop (l : List UInt8) (k : Nat) (hk : k < l.length) : dec (l.drop k) = ((l.getD k 0).toNat : Int) % 128 + 128 * dec (l.drop (k + 1)) := by
  rw [List.drop_eq_getElem_cons hk, dec]
  simp [List.getElem?_eq_getElem hk]

theorem dec_end (l : List UInt8) : dec (l.drop l.length) = 0 := by simp [dec]

end Go.Proofs.YtpcacaohknkdlahGreatDoor

namespace Go.Proofs.YtpcacaohknkdlahGreatDoor

open Go.RowKit

/-- What is wrong with an operation (0: nothing). -/
def opE (k : Int) (a b : ByteArray) (n : Int) : Int :=
  if ¬ (1 ≤ k ∧ k ≤ 6) then 3
  else if nameB a = false ∨ (k ≠ 5 ∧ b.size ≠ 0) then 4
  else if 12 < b.size then 1
  else if k = 5 then (if 1 ≤ n ∧ n ≤ 1073741824 then 0 else 2)
  else if n = 0 then 0 else 2

/-- What is wrong with a command (0: nothing). -/
def cmdE (k c s q u ok : Int) (a b : ByteArray) (n : Int) : Int :=
  if ¬ (1 ≤ k ∧ k ≤ 3) then 3
  else if ¬ (1 ≤ c ∧ c ≤ 9) then 2
  else if k = 2 then (if (1 ≤ s ∧ s ≤ 1073741824) ∧ (1 ≤ q ∧ q ≤ 1048576) ∧ (0 ≤ u ∧ u ≤ q - 1) then opE ok a b n else 2)
  else if s = 0 ∧ q = 0 ∧ u = 0 ∧ ok = 0 ∧ a.size = 0 ∧ b.size = 0 ∧ n = 0 then 0 else 4

theorem size_zero {s : ByteArray} (h : s.size = 0) : s = ⟨#[]⟩ := by
  apply ByteArray.ext
  have : s.data.size = 0 := h
  exact Array.eq_empty_of_size_eq_zero this

end Go.Proofs.YtpcacaohknkdlahGreatDoor

namespace Go.Proofs.YtpcacaohknkdlahGreatDoor

open Go.RowKit

/-- A command, as plain data. -/
structure CmdD where
  kind : Int
  client : Int
  session : Int
  seq : Int
  acked : Int
  ok : Int
  a : ByteArray
  b : ByteArray
  n : Int

def CmdD.zero : CmdD := ⟨0, 0, 0, 0, 0, 0, ⟨#[]⟩, ⟨#[]⟩, 0⟩

def CmdD.err (c : CmdD) : Int := cmdE c.kind c.client c.session c.seq c.acked c.ok c.a c.b c.n

/-- The number at the front of bytes, how many bytes it has, what is wrong. -/
def numR (s : ByteArray) : Int × Nat × Int :=
  if cd s.data.toList = 0 then (0, 0, 5)
  else if 6 < cd s.data.toList ∨ (1 < cd s.data.toList ∧ (s.data.toList.getD (cd s.data.toList - 1) 0).toNat = 0) then (0, 0, 4)
  else if 1099511627776 < dec (s.data.toList.take (cd s.data.toList)) then (0, 0, 4)
  else (dec (s.data.toList.take (cd s.data.toList)), cd s.data.toList, 0)

/-- What ReadNumber answers. -/
def readN (s : ByteArray) : Int × ByteArray × Int := if (numR s).2.2 = 0 then ((numR s).1, s.extract (numR s).2.1 s.size, 0) else (0, ⟨#[]⟩, (numR s).2.2)

/-- What ReadText answers. -/
def readT (s : ByteArray) : ByteArray × ByteArray × Int :=
  if (numR s).2.2 ≠ 0 then (⟨#[]⟩, ⟨#[]⟩, (numR s).2.2)
  else if 5000 < (numR s).1 then (⟨#[]⟩, ⟨#[]⟩, 1)
  else if (s.size : Int) - (numR s).2.1 < (numR s).1 then (⟨#[]⟩, ⟨#[]⟩, 5)
  else (s.extract (numR s).2.1 ((numR s).2.1 + (numR s).1.toNat), s.extract ((numR s).2.1 + (numR s).1.toNat) s.size, 0)

theorem numR_err (s : ByteArray) : (numR s).2.2 = 0 ∨ (numR s).2.2 = 4 ∨ (numR s).2.2 = 5 := by
  unfold numR
  split
  · simp
  · split
    · simp
    · split
      · simp
      · simp

theorem numR_ok (s : ByteArray) (h : (numR s).2.2 = 0) : 0 ≤ (numR s).1 ∧ (numR s).1 ≤ 1099511627776 ∧ 1 ≤ (numR s).2.1 ∧ (numR s).2.1 ≤ 6 ∧ (numR s).2.1 ≤ s.size := by
  have hl := cd_le s.data.toList
  have hz : s.data.toList.length = s.size := by simp
  have hd := dec_nonneg (s.data.toList.take (cd s.data.toList))
  revert h
  unfold numR
  split
  · intro h; simp at h
  · split
    · intro h; simp at h
    · split
      · intro h; simp at h
      · intro _
        refine ⟨hd, by show dec _ ≤ _; omega, by show 1 ≤ cd _; omega, by show cd _ ≤ 6; omega, by show cd _ ≤ s.size; omega⟩

/-- A reader: what is left, and what was wrong first. One number more. -/
def stepN (r : ByteArray × Int) : Int × ByteArray × Int := if r.2 = 0 then readN r.1 else (0, r.1, r.2)

/-- One text more. -/
def stepT (r : ByteArray × Int) : ByteArray × ByteArray × Int := if r.2 = 0 then readT r.1 else (⟨#[]⟩, r.1, r.2)

/-- What of a Call is read behind its head. -/
def decCall (k c : Int) (s : ByteArray) : CmdD × ByteArray × Int :=
  let r0 := stepN (s, 0)
  let r1 := stepN r0.2
  let r2 := stepN r1.2
  let r3 := stepN r2.2
  let r4 := stepN r3.2
  let r5 := stepT r4.2
  let r6 := stepT r5.2
  (⟨k, c, r0.1, r1.1, r2.1, r3.1, r5.1, r6.1, r4.1⟩, r6.2)

/-- What was wrong behind all: also bytes that nobody read. -/
def endE (r : ByteArray × Int) : Int := if r.2 = 0 ∧ r.1.size ≠ 0 then 4 else r.2

/-- What is read behind the head. -/
def decBody (s : ByteArray) : CmdD × ByteArray × Int :=
  if ((s.data.toList.getD 0 0).toNat : Int) = 2 then decCall (s.data.toList.getD 0 0).toNat (s.data.toList.getD 1 0).toNat (s.extract 2 s.size)
  else (⟨(s.data.toList.getD 0 0).toNat, (s.data.toList.getD 1 0).toNat, 0, 0, 0, 0, ⟨#[]⟩, ⟨#[]⟩, 0⟩, s.extract 2 s.size, 0)

/-- What Decode refuses. -/
def decE (s : ByteArray) : Int :=
  if 5000 < s.size then 1 else if s.size < 2 then 5
  else if endE (decBody s).2 ≠ 0 then endE (decBody s).2 else (decBody s).1.err

/-- What Decode answers. -/
def decL (s : ByteArray) : CmdD := if decE s = 0 then (decBody s).1 else CmdD.zero

end Go.Proofs.YtpcacaohknkdlahGreatDoor

namespace Go.Proofs.YtpcacaohknkdlahGreatDoor

open Go.RowKit

/-- Has the client one of these sessions? -/
def hasS (ls : List SessD) (c : Int) : Bool := ls.any fun x => decide (x.client = c)

theorem hasS_iff {ls : List SessD} {c : Int} : hasS ls c = true ↔ HasC ls c := by
  unfold hasS HasC
  rw [List.any_eq_true]
  constructor
  · rintro ⟨x, hx, e⟩
    exact ⟨x, hx, by simpa using e⟩
  · rintro ⟨x, hx, e⟩
    exact ⟨x, hx, by simpa using e⟩

/-- The locks behind clients of whom no session is fresh. -/
def dropL (fresh : List SessD) (ks : List LockD) (ss : List SessD) : List LockD := ss.foldl (fun ks x => if hasS fresh x.client = true then ks else goneL ks x.client) ks

/-- Without what is idle. -/
def dropM (s : StateD) : StateD := { s with locks := dropL (freshS s.sess s.index) s.locks s.sess, sess := freshS s.sess s.index }

/-- What an operation does, and its reply. -/
def operM (s : StateD) (c k : Int) (a b : ByteArray) (n : Int) : StateD × ReplyD :=
  if k = 1 then ({ s with locks := (takeL s.locks a c false).1 }, ⟨(takeL s.locks a c false).2.1, (takeL s.locks a c false).2.2, ⟨#[]⟩⟩)
  else if k = 2 then ({ s with locks := (takeL s.locks a c true).1 }, ⟨(takeL s.locks a c true).2.1, (takeL s.locks a c true).2.2, ⟨#[]⟩⟩)
  else if k = 3 then ({ s with locks := (freeL s.locks a c).1 }, ⟨(freeL s.locks a c).2.1, (freeL s.locks a c).2.2, ⟨#[]⟩⟩)
  else if k = 4 then (s, ⟨0, (whoL s.locks a).1, ⟨#[]⟩⟩)
  else if k = 5 then (if (whoL s.locks a).1 = c ∧ (whoL s.locks a).2 = n then ({ s with pairs := (setP s.pairs a b).1 }, ⟨(setP s.pairs a b).2.1, (setP s.pairs a b).2.2, ⟨#[]⟩⟩) else (s, ⟨10, (whoL s.locks a).1, ⟨#[]⟩⟩))
  else (s, ⟨(getP s.pairs a).1, (getP s.pairs a).2.1, (getP s.pairs a).2.2⟩)

/-- A call, and its reply. -/
def callM (s : StateD) (x : CmdD) : StateD × ReplyD :=
  if (readyS s.sess s.index x.client x.session x.seq x.acked).2.2 = true then
    ({ (operM { s with sess := (readyS s.sess s.index x.client x.session x.seq x.acked).1 } x.client x.ok x.a x.b x.n).1 with
        sess := keepS (readyS s.sess s.index x.client x.session x.seq x.acked).1 x.client ⟨x.seq, (operM { s with sess := (readyS s.sess s.index x.client x.session x.seq x.acked).1 } x.client x.ok x.a x.b x.n).2.code, (operM { s with sess := (readyS s.sess s.index x.client x.session x.seq x.acked).1 } x.client x.ok x.a x.b x.n).2.n, (operM { s with sess := (readyS s.sess s.index x.client x.session x.seq x.acked).1 } x.client x.ok x.a x.b x.n).2.text⟩ },
      (operM { s with sess := (readyS s.sess s.index x.client x.session x.seq x.acked).1 } x.client x.ok x.a x.b x.n).2)
  else ({ s with sess := (readyS s.sess s.index x.client x.session x.seq x.acked).1 }, (readyS s.sess s.index x.client x.session x.seq x.acked).2.1)

/-- A command, and its reply. -/
def obeyM (s : StateD) (x : CmdD) : StateD × ReplyD :=
  if x.kind = 1 then ({ s with sess := (joinS s.sess s.index x.client).1 }, (joinS s.sess s.index x.client).2)
  else if x.kind = 3 then ({ s with locks := goneL s.locks x.client, sess := (leaveS s.sess x.client).1 }, (leaveS s.sess x.client).2)
  else callM s x

/-- The next entry: the state behind it, and its reply. -/
def applyM (s : StateD) (x : CmdD) : StateD × ReplyD :=
  ({ (obeyM (dropM s) x).1 with index := s.index + 1 }, (obeyM (dropM s) x).2)

/-- A state that may be. -/
structure GoodM (s : StateD) : Prop where
  sess : GoodS s.sess s.index
  locks : GoodL s.locks
  pairs : GoodP s.pairs

theorem GoodM.of {s : StateD} (h : checkM s = 0) : GoodM s := by
  obtain ⟨h1, h2, h3⟩ := checkM_zero h
  exact ⟨checkS_zero h1, GoodL.of h2, checkP_good h3⟩

theorem GoodM.check {s : StateD} (h : GoodM s) : checkM s = 0 := by
  rw [checkM_pairs (checkS_of h.sess) h.locks.check]
  exact h.pairs.check

theorem GoodL.drop {fresh : List SessD} {ss : List SessD} : ∀ {ks : List LockD}, GoodL ks → GoodL (dropL fresh ks ss) := by
  induction ss with
  | nil => intro ks h; exact h
  | cons x r ih =>
    intro ks h
    unfold dropL
    rw [List.foldl_cons]
    refine ih ?_
    split
    · exact h
    · exact h.gone _

/-- Behind the idle ones all that have locks are fresh, or had no session. -/
theorem holds_drop {fresh : List SessD} {ss : List SessD} : ∀ {ks : List LockD} {H : Int → Prop}, GoodL ks → (∀ x ∈ ss, 1 ≤ x.client) → Holds H ks → Holds (fun a => H a ∧ ∀ x ∈ ss, hasS fresh x.client = false → a ≠ x.client) (dropL fresh ks ss) := by
  induction ss with
  | nil => intro ks H _ _ h; exact h.mono fun a ha => ⟨ha, fun x hx => by cases hx⟩
  | cons x r ih =>
    intro ks H hg hc h
    unfold dropL
    rw [List.foldl_cons]
    split
    · rename_i hf
      refine (ih hg (fun y hy => hc y (by simp [hy])) h).mono fun a ha => ⟨ha.1, fun y hy hn => ?_⟩
      rcases List.mem_cons.1 hy with rfl | hy
      · rw [hf] at hn; cases hn
      · exact ha.2 y hy hn
    · refine (ih (hg.gone _) (fun y hy => hc y (by simp [hy])) (h.gone hg (hc x (by simp)))).mono fun a ha => ⟨ha.1.1, fun y hy hn => ?_⟩
      rcases List.mem_cons.1 hy with rfl | hy
      · exact ha.1.2
      · exact ha.2 y hy hn

/-- All that have a lock, or stand in a line, have a session. -/
def HeldM (s : StateD) : Prop := Holds (HasC s.sess) s.locks

theorem GoodM.drop {s : StateD} (h : GoodM s) : GoodM (dropM s) := ⟨h.sess.fresh _, h.locks.drop, h.pairs⟩

theorem HeldM.drop {s : StateD} (h : HeldM s) (hg : GoodM s) : HeldM (dropM s) := by
  refine (holds_drop hg.locks (fun x hx => ?_) h).mono fun a ha => ?_
  · have := rangeB_iff.1 (hg.sess.fine x hx).range
    exact this.1
  · obtain ⟨⟨x, hx, e⟩, h2⟩ := ha
    show HasC (freshS s.sess s.index) a
    rw [← hasS_iff]
    cases hn : hasS (freshS s.sess s.index) a with
    | true => rfl
    | false => exact absurd e.symm (h2 x hx (by rw [e]; exact hn))

/-- An operation that may be asked. -/
structure OpOk (c k : Int) (a b : ByteArray) (n : Int) : Prop where
  client : 1 ≤ c ∧ c ≤ 9
  kind : 1 ≤ k ∧ k ≤ 6
  name : nameB a = true
  value : b.size ≤ 12

theorem opE_zero {k : Int} {a b : ByteArray} {n : Int} (h : opE k a b n = 0) : (1 ≤ k ∧ k ≤ 6) ∧ nameB a = true ∧ b.size ≤ 12 := by
  unfold opE at h
  by_cases h1 : 1 ≤ k ∧ k ≤ 6
  · rw [if_neg (by simpa using h1)] at h
    by_cases h2 : nameB a = false ∨ (k ≠ 5 ∧ b.size ≠ 0)
    · rw [if_pos h2] at h; cases h
    · rw [if_neg h2] at h
      by_cases h3 : 12 < b.size
      · rw [if_pos h3] at h; cases h
      · refine ⟨h1, ?_, by omega⟩
        cases hn : nameB a with
        | true => rfl
        | false => exact absurd (Or.inl hn) h2
  · rw [if_pos h1] at h; cases h

/-- What a Call that may be keeps to. -/
theorem cmdE_parts {k c s q u ok : Int} {a b : ByteArray} {n : Int} (h : cmdE k c s q u ok a b n = 0) : (1 ≤ k ∧ k ≤ 3) ∧ (1 ≤ c ∧ c ≤ 9) ∧ (k = 2 → (1 ≤ s ∧ s ≤ 1073741824) ∧ (1 ≤ q ∧ q ≤ 1048576) ∧ (0 ≤ u ∧ u ≤ q - 1) ∧ opE ok a b n = 0) := by
  unfold cmdE at h
  by_cases h1 : 1 ≤ k ∧ k ≤ 3
  · rw [if_neg (by simpa using h1)] at h
    by_cases h2 : 1 ≤ c ∧ c ≤ 9
    · rw [if_neg (by simpa using h2)] at h
      refine ⟨h1, h2, fun hk => ?_⟩
      rw [if_pos hk] at h
      by_cases h3 : (1 ≤ s ∧ s ≤ 1073741824) ∧ (1 ≤ q ∧ q ≤ 1048576) ∧ (0 ≤ u ∧ u ≤ q - 1)
      · rw [if_pos h3] at h
        exact ⟨h3.1, h3.2.1, h3.2.2, h⟩
      · rw [if_neg h3] at h; cases h
    · rw [if_pos h2] at h; cases h
  · rw [if_pos h1] at h; cases h

/-- What an operation does to what may be. -/
theorem operM_good {s : StateD} (hl : GoodL s.locks) (hp : GoodP s.pairs) {c k : Int} {a b : ByteArray} {n : Int} (ho : OpOk c k a b n) :
    GoodL (operM s c k a b n).1.locks ∧ GoodP (operM s c k a b n).1.pairs ∧ replyB (operM s c k a b n).2.code (operM s c k a b n).2.n (operM s c k a b n).2.text.size = true ∧ (operM s c k a b n).1.index = s.index ∧ (operM s c k a b n).1.sess = s.sess := by
  obtain ⟨c1, c2⟩ := ho.client
  have e0 : (⟨#[]⟩ : ByteArray).size = 0 := rfl
  unfold operM
  split
  · have := hl.takeRep a c false
    exact ⟨hl.take ho.name c1 c2 false, hp, replyB_iff.2 ⟨this.1, this.2.1, this.2.2.1, this.2.2.2, by simp only; omega⟩, rfl, rfl⟩
  · split
    · have := hl.takeRep a c true
      exact ⟨hl.take ho.name c1 c2 true, hp, replyB_iff.2 ⟨this.1, this.2.1, this.2.2.1, this.2.2.2, by simp only; omega⟩, rfl, rfl⟩
    · split
      · have := hl.freeRep a c
        exact ⟨hl.free a c, hp, replyB_iff.2 ⟨this.1, this.2.1, this.2.2.1, this.2.2.2, by simp only; omega⟩, rfl, rfl⟩
      · split
        · have := hl.whoRep a
          exact ⟨hl, hp, replyB_iff.2 (by simp only; omega), rfl, rfl⟩
        · split
          · split
            · have := setP_rep (val := b) hp (nm := a)
              exact ⟨hl, setP_good hp ho.name ho.value, replyB_iff.2 (by simp only; omega), rfl, rfl⟩
            · have := hl.whoRep a
              exact ⟨hl, hp, replyB_iff.2 (by simp only; omega), rfl, rfl⟩
          · have := getP_rep hp (nm := a)
            exact ⟨hl, hp, replyB_iff.2 (by simp only; omega), rfl, rfl⟩

theorem operM_holds {H : Int → Prop} {s : StateD} (h : Holds H s.locks) {c k : Int} {a b : ByteArray} {n : Int} (hc : H c) : Holds H (operM s c k a b n).1.locks := by
  unfold operM
  split
  · exact h.take a hc false
  · split
    · exact h.take a hc true
    · split
      · exact h.free a c
      · split
        · exact h
        · split
          · split
            · exact h
            · exact h
          · exact h

/-- A command that may be obeyed: what is asked of the state on the way. -/
theorem callM_good {s : StateD} (h : GoodM s) (hi : s.index < 1073741824) {x : CmdD} (hx : x.err = 0) (hk : x.kind = 2) :
    GoodM { (callM s x).1 with index := s.index + 1 } ∧ (HeldM s → HeldM { (callM s x).1 with index := s.index + 1 }) := by
  obtain ⟨-, hc, h2⟩ := cmdE_parts hx
  obtain ⟨-, hq, hu, ho⟩ := h2 hk
  obtain ⟨o1, o2, o3⟩ := opE_zero ho
  have hop : OpOk x.client x.ok x.a x.b x.n := ⟨hc, o1, o2, o3⟩
  have hr := h.sess.ready hi x.client x.session (q := x.seq) (u := x.acked) hq.2 hu.2
  have hrc := fun a => hasC_ready (ls := s.sess) (i := s.index) (c := x.client) (s := x.session) (q := x.seq) (u := x.acked) a
  unfold callM
  split
  · rename_i ht
    obtain ⟨g1, g2, g3, g4, g5⟩ := operM_good (s := { s with sess := (readyS s.sess s.index x.client x.session x.seq x.acked).1 }) h.locks h.pairs hop
    obtain ⟨k1, k2, k3⟩ := keep_ready h.sess hi hq.2 hu.2 ht g3
    refine ⟨⟨k2, g1, g2⟩, fun hh => ?_⟩
    obtain ⟨y, -, hy, e, -⟩ := readyS_todo ht
    have hcc : HasC s.sess x.client := ⟨y, List.mem_of_getElem? hy, e⟩
    exact (operM_holds (H := HasC s.sess) (s := { s with sess := (readyS s.sess s.index x.client x.session x.seq x.acked).1 }) hh hcc).mono fun a ha => (k3 a).2 ha
  · exact ⟨⟨hr, h.locks, h.pairs⟩, fun hh => hh.mono fun a ha => (hrc a).2 ha⟩

theorem obeyM_good {s : StateD} (h : GoodM s) (hi : s.index < 1073741824) {x : CmdD} (hx : x.err = 0) :
    GoodM { (obeyM s x).1 with index := s.index + 1 } ∧ (HeldM s → HeldM { (obeyM s x).1 with index := s.index + 1 }) := by
  obtain ⟨hk, hc, -⟩ := cmdE_parts hx
  unfold obeyM
  split
  · refine ⟨⟨h.sess.join hi hc.1 hc.2, h.locks, h.pairs⟩, fun hh => hh.mono fun a ha => hasC_join ha⟩
  · split
    · have hs : GoodS (leaveS s.sess x.client).1 (s.index + 1) := (h.sess.leave _).step (by omega) (by omega)
      refine ⟨⟨hs, h.locks.gone _, h.pairs⟩, fun hh => ?_⟩
      exact (Holds.gone hh h.locks hc.1).mono fun a ha => hasC_leave ha.1 ha.2
    · exact callM_good h hi hx (by omega)

/-- WHATEVER COMES a state stays one that may be; who has a lock has a session. -/
theorem applyM_good {s : StateD} (h : GoodM s) (hi : s.index < 1073741824) {x : CmdD} (hx : x.err = 0) : GoodM (applyM s x).1 ∧ (HeldM s → HeldM (applyM s x).1) := by
  have k := obeyM_good (s := dropM s) h.drop hi hx
  exact ⟨k.1, fun hh => k.2 (hh.drop h)⟩

theorem applyM_index (s : StateD) (x : CmdD) : (applyM s x).1.index = s.index + 1 := rfl

end Go.Proofs.YtpcacaohknkdlahGreatDoor

namespace Go.Proofs.YtpcacaohknkdlahGreatDoor

open Go.RowKit

/-- A block's cells, read. -/
theorem cells_of {w : World} {g : Nat} {cs : Array Value} {t : TypeId} (h : w.heap[g]? = some (.cells cs t (0, 0))) (j : Nat) : w.cell? ⟨g, j, none⟩ = cs[j]? := cell_of_row w g j _ _ _ h

theorem heap_set {w : World} {p j : Nat} {cs : Array Value} {t : TypeId} (h : w.heap[p]? = some (.cells cs t (0, 0))) (u : Value) : (w.setCell ⟨p, j, none⟩ u).heap[p]? = some (.cells (cs.setIfInBounds j u) t (0, 0)) := by
  simp only [World.setCell]
  rw [Array.getElem?_modify, h]
  simp

/-- What the walk wants of a state's block. -/
theorem state_cells {w : World} {p : Nat} {x0 x1 x2 x3 : Value} {t : TypeId} (h : w.heap[p]? = some (.cells #[x0, x1, x2, x3] t (0, 0))) :
    w.cell? ⟨p, 0, none⟩ = some x0 ∧ w.cell? ⟨p, 1, none⟩ = some x1 ∧ w.cell? ⟨p, 2, none⟩ = some x2 ∧ w.cell? ⟨p, 3, none⟩ = some x3 ∧ (∀ j, w.frozen? ⟨p, j, none⟩ = false) ∧ p < w.heap.size :=
  ⟨cells_of h 0, cells_of h 1, cells_of h 2, cells_of h 3, fun j => frozen_of_row w p j _ _ h, (Array.getElem?_eq_some_iff.1 h).1⟩

theorem reply_cells {w : World} {p : Nat} {x0 x1 x2 : Value} {t : TypeId} (h : w.heap[p]? = some (.cells #[x0, x1, x2] t (0, 0))) :
    w.cell? ⟨p, 0, none⟩ = some x0 ∧ w.cell? ⟨p, 1, none⟩ = some x1 ∧ w.cell? ⟨p, 2, none⟩ = some x2 ∧ (∀ j, w.frozen? ⟨p, j, none⟩ = false) ∧ p < w.heap.size :=
  ⟨cells_of h 0, cells_of h 1, cells_of h 2, fun j => frozen_of_row w p j _ _ h, (Array.getElem?_eq_some_iff.1 h).1⟩

/-- Behind a callee that left all that lay. -/
theorem behind {w W w2 : World} {p : Nat} {o1 : Obj} (hp : w.heap[p]? = some o1) (hW : Below w.heap.size w W) (hb : Below W.heap.size W w2) : w2.heap[p]? = some o1 := by
  have hl := (Array.getElem?_eq_some_iff.1 hp).1
  rw [hb.block p (by have := hW.size; omega), hW.block p hl, hp]

theorem two_newB {w w2 : World} {A R : Obj} (hb : Below (w.heap.size + 2) ((w.alloc A).alloc R) w2) : w2.heap[w.heap.size + 1]? = some R ∧ w2.heap[w.heap.size]? = some A := by
  have h1 := heap_alloc_new (w.alloc A) R
  rw [World.size_alloc] at h1
  have h2 : ((w.alloc A).alloc R).heap[w.heap.size]? = some A := by
    rw [Below.heap_alloc _ _ _ (by simp)]
    exact heap_alloc_new w A
  exact ⟨(hb.block _ (by omega)).trans h1, (hb.block _ (by omega)).trans h2⟩

end Go.Proofs.YtpcacaohknkdlahGreatDoor

namespace Go.Proofs.YtpcacaohknkdlahGreatDoor

open Go.RowKit

/-- A block that holds no part of pairs, of sessions, of locks. -/
structure Foreign (w : World) (g : Nat) : Prop where
  pair : ∀ o x, ¬ PairAt w g o x
  kept : ∀ o x, ¬ KeptAt w g o x
  sess : ∀ B o x, ¬ SessAt w B g o x
  kind : ∃ cs t fr, w.heap[g]? = some (.cells cs t fr) ∧ t ≠ 86 ∧ t ≠ 3

theorem touch_cell {w w' : World} {S : Nat → Prop} (ht : TouchG w w' S) {b : Nat} (hb : b < w.heap.size) (hs : ¬ S b) (o : Nat) : w'.cell? ⟨b, o, none⟩ = w.cell? ⟨b, o, none⟩ :=
  World.cell?_of_block (ht.block b hb hs)

theorem PairsR.touch {w w' : World} {B : Nat} {v : Value} {ps : List PairD} {S : Nat → Prop} (h : PairsR w B v ps) (hB : B ≤ w.heap.size) (ht : TouchG w w' S) (hf : ∀ g, g < w.heap.size → S g → Foreign w g) : PairsR w' B v ps := by
  obtain ⟨ao, cap, rfl, h1, h2, h3, h4⟩ := h
  refine ⟨ao, cap, rfl, h1, h2, h3, fun hp => ?_⟩
  obtain ⟨b, off, rfl, hlt, hc⟩ := h4 hp
  have hs : ¬ S b := fun hs => by
    obtain ⟨x, hx⟩ : ∃ x, ps[0]? = some x := ⟨_, List.getElem?_eq_getElem hp⟩
    exact (hf b (by omega) hs).pair _ x (hc 0 x hx)
  refine ⟨b, off, rfl, hlt, fun i x hx => ?_⟩
  obtain ⟨c0, c1, c2, h5⟩ := hc i x hx
  have key := touch_cell ht (b := b) (by omega) hs
  exact ⟨(key _).trans c0, (key _).trans c1, (key _).trans c2, h5⟩

theorem KeptsR.touch {w w' : World} {B : Nat} {v : Value} {ks : List KeptD} {S : Nat → Prop} (h : KeptsR w B v ks) (hB : B ≤ w.heap.size) (ht : TouchG w w' S) (hf : ∀ g, g < w.heap.size → S g → Foreign w g) : KeptsR w' B v ks := by
  obtain ⟨ao, cap, rfl, h1, h2, h3, h4⟩ := h
  refine ⟨ao, cap, rfl, h1, h2, h3, fun hp => ?_⟩
  obtain ⟨b, off, rfl, hlt, hc⟩ := h4 hp
  have hs : ¬ S b := fun hs => by
    obtain ⟨x, hx⟩ : ∃ x, ks[0]? = some x := ⟨_, List.getElem?_eq_getElem hp⟩
    exact (hf b (by omega) hs).kept _ x (hc 0 x hx)
  refine ⟨b, off, rfl, hlt, fun i x hx => ?_⟩
  obtain ⟨c0, c1, c2, c3, h5⟩ := hc i x hx
  have key := touch_cell ht (b := b) (by omega) hs
  exact ⟨(key _).trans c0, (key _).trans c1, (key _).trans c2, (key _).trans c3, h5⟩

theorem SessR.touch {w w' : World} {B : Nat} {v : Value} {ls : List SessD} {S : Nat → Prop} (h : SessR w B v ls) (hB : B ≤ w.heap.size) (ht : TouchG w w' S) (hf : ∀ g, g < w.heap.size → S g → Foreign w g) : SessR w' B v ls := by
  obtain ⟨ao, cap, rfl, h1, h2, h3, h4⟩ := h
  refine ⟨ao, cap, rfl, h1, h2, h3, fun hp => ?_⟩
  obtain ⟨b, off, rfl, hlt, hc⟩ := h4 hp
  have hs : ¬ S b := fun hs => by
    obtain ⟨x, hx⟩ : ∃ x, ls[0]? = some x := ⟨_, List.getElem?_eq_getElem hp⟩
    exact (hf b (by omega) hs).sess B _ x (hc 0 x hx)
  refine ⟨b, off, rfl, hlt, fun i x hx => ?_⟩
  obtain ⟨lv, c0, c1, c2, c3, c4, h5⟩ := hc i x hx
  have key := touch_cell ht (b := b) (by omega) hs
  exact ⟨lv, (key _).trans c0, (key _).trans c1, (key _).trans c2, (key _).trans c3, (key _).trans c4, h5.touch hB ht hf⟩

theorem LocksO.touch {w w' : World} {base : Nat} {v : Value} {ls : List LockD} {S : Nat → Prop} (h : LocksO w base v ls) (ht : TouchG w w' S) (hf : ∀ g, g < w.heap.size → S g → Foreign w g) : LocksO w' base v ls := by
  obtain ⟨rs, rfl, h⟩ := h
  refine ⟨rs, rfl, h.keep (fun b hb => ?_) (fun b hb => ?_)⟩
  · have hlt := (h.row.lt b hb).2
    refine ht.block b hlt (fun hs => ?_)
    obtain ⟨cs, t, fr, hg, t1, -⟩ := (hf b hlt hs).kind
    rcases h.row.2 with ⟨e, _⟩ | ⟨g, cap, cur, e, _, hg', _⟩
    · rw [e] at hb; cases hb
    · rw [e] at hb
      have : g = b := by simpa [Value.ownBlock] using hb
      subst this
      rw [hg'] at hg
      simp only [Option.some.injEq, Obj.cells.injEq] at hg
      exact t1 hg.2.1.symm
  · have hlt := (h.lines.lt hb).2
    refine ht.block b hlt (fun hs => ?_)
    obtain ⟨cs, t, fr, hg, -, t2⟩ := (hf b hlt hs).kind
    obtain ⟨r, hr, e⟩ := mem_lineBlocks.1 hb
    rcases (h.lines.each r hr).1.2 with ⟨e2, _⟩ | ⟨g, cap, cur, e2, _, hg', _⟩
    · rw [e2] at e; cases e
    · rw [e2] at e
      have : g = b := by simpa [Value.ownBlock] using e
      subst this
      rw [hg'] at hg
      simp only [Option.some.injEq, Obj.cells.injEq] at hg
      exact t2 hg.2.1.symm

theorem foreign_state {w : World} {g : Nat} {i : Int} {lo po so : Option Addr} {ln lc pn pc sn sc : Nat} (h : w.heap[g]? = some (.cells #[.int .i64 i, .slice lo ln lc, .slice po pn pc, .slice so sn sc] 27 (0, 0))) : Foreign w g := by
  have hc := cells_of h
  refine ⟨fun o x hx => ?_, fun o x hx => ?_, fun B o x hx => ?_, ⟨_, _, _, h, by decide, by decide⟩⟩
  · have := hx.1
    rw [hc] at this
    match o, this with
    | 0, e => simp at e
    | 1, e => simp at e
    | 2, e => simp at e
    | 3, e => simp at e
    | n + 4, e => simp at e
  · have h1 := hx.1
    have h2 := hx.2.1
    rw [hc] at h1 h2
    match o, h1, h2 with
    | 0, _, e => simp at e
    | 1, e, _ => simp at e
    | 2, e, _ => simp at e
    | 3, e, _ => simp at e
    | n + 4, e, _ => simp at e
  · obtain ⟨lv, h1, h2, -⟩ := hx
    rw [hc] at h1 h2
    match o, h1, h2 with
    | 0, _, e => simp at e
    | 1, e, _ => simp at e
    | 2, e, _ => simp at e
    | 3, e, _ => simp at e
    | n + 4, e, _ => simp at e

theorem foreign_reply {w : World} {g : Nat} {c n : Int} {s : ByteArray} (h : w.heap[g]? = some (.cells #[.int .i64 c, .int .i64 n, .string s] 43 (0, 0))) : Foreign w g := by
  have hc := cells_of h
  refine ⟨fun o x hx => ?_, fun o x hx => ?_, fun B o x hx => ?_, ⟨_, _, _, h, by decide, by decide⟩⟩
  · have h1 := hx.1
    have h2 := hx.2.1
    rw [hc] at h1 h2
    match o, h1, h2 with
    | 0, e, _ => simp at e
    | 1, e, _ => simp at e
    | 2, _, e => simp at e
    | n + 3, e, _ => simp at e
  · have h1 := hx.1
    have h3 := hx.2.2.1
    rw [hc] at h1 h3
    match o, h1, h3 with
    | 0, _, e => simp at e
    | 1, _, e => simp at e
    | 2, e, _ => simp at e
    | n + 3, e, _ => simp at e
  · obtain ⟨lv, h1, h2, h3, -⟩ := hx
    rw [hc] at h1 h3
    match o, h1, h3 with
    | 0, _, e => simp at e
    | 1, _, e => simp at e
    | 2, e, _ => simp at e
    | n + 3, e, _ => simp at e

/-- The state s lies in block p. -/
def StB (w : World) (p : Nat) (s : StateD) : Prop :=
  ∃ (lo po so : Option Addr) (ln lc pn pc sn sc : Nat), w.heap[p]? = some (.cells #[.int .i64 s.index, .slice lo ln lc, .slice po pn pc, .slice so sn sc] 27 (0, 0)) ∧
    LocksO w 0 (.slice lo ln lc) s.locks ∧ PairsR w w.heap.size (.slice po pn pc) s.pairs ∧ SessR w w.heap.size (.slice so sn sc) s.sess

theorem StB.lt {w : World} {p : Nat} {s : StateD} (h : StB w p s) : p < w.heap.size := by
  obtain ⟨_, _, _, _, _, _, _, _, _, h, -⟩ := h
  exact (Array.getElem?_eq_some_iff.1 h).1

theorem StB.foreign {w : World} {p : Nat} {s : StateD} (h : StB w p s) : Foreign w p := by
  obtain ⟨_, _, _, _, _, _, _, _, _, h, -⟩ := h
  exact foreign_state h

/-- Stores into other blocks, that hold nothing of it. -/
theorem StB.touch {w w' : World} {p : Nat} {s : StateD} {S : Nat → Prop} (h : StB w p s) (ht : TouchG w w' S) (hp : ¬ S p) (hf : ∀ g, g < w.heap.size → S g → Foreign w g) : StB w' p s := by
  have hlt := h.lt
  obtain ⟨lo, po, so, ln, lc, pn, pc, sn, sc, h0, h1, h2, h3⟩ := h
  exact ⟨lo, po, so, ln, lc, pn, pc, sn, sc, (ht.block p hlt hp).trans h0, h1.touch ht hf, (h2.touch (Nat.le_refl _) ht hf).mono ht.size, (h3.touch (Nat.le_refl _) ht hf).mono ht.size⟩

theorem StB.below {w w' : World} {p : Nat} {s : StateD} (h : StB w p s) (hb : Below w.heap.size w w') : StB w' p s :=
  h.touch (TouchG.of_below hb (Nat.le_refl _) (fun _ => False)) (fun h => h) (fun _ _ h => h.elim)

/-- A field of it put anew: the locks. -/
theorem StB.setLocks {w : World} {p : Nat} {s : StateD} {lo : Option Addr} {ln lc : Nat} {ls : List LockD} (h : StB w p s) (hl : LocksO w 0 (.slice lo ln lc) ls) : StB (w.setCell ⟨p, 1, none⟩ (.slice lo ln lc)) p { s with locks := ls } := by
  have hf := h.foreign
  obtain ⟨lo', po, so, ln', lc', pn, pc, sn, sc, h0, h1, h2, h3⟩ := h
  have ht := (TouchG.refl w (fun b => b = p)).setCell (a := ⟨p, 1, none⟩) (Or.inl rfl) (.slice lo ln lc)
  have hf' : ∀ g, g < w.heap.size → g = p → Foreign w g := fun g _ e => e ▸ hf
  exact ⟨lo, po, so, ln, lc, pn, pc, sn, sc, by rw [heap_set h0]; rfl, hl.touch ht hf', (h2.touch (Nat.le_refl _) ht hf').mono ht.size, (h3.touch (Nat.le_refl _) ht hf').mono ht.size⟩

theorem StB.setPairs {w : World} {p : Nat} {s : StateD} {po : Option Addr} {pn pc : Nat} {ps : List PairD} (h : StB w p s) (hp : PairsR w w.heap.size (.slice po pn pc) ps) : StB (w.setCell ⟨p, 2, none⟩ (.slice po pn pc)) p { s with pairs := ps } := by
  have hf := h.foreign
  obtain ⟨lo, po', so, ln, lc, pn', pc', sn, sc, h0, h1, h2, h3⟩ := h
  have ht := (TouchG.refl w (fun b => b = p)).setCell (a := ⟨p, 2, none⟩) (Or.inl rfl) (.slice po pn pc)
  have hf' : ∀ g, g < w.heap.size → g = p → Foreign w g := fun g _ e => e ▸ hf
  exact ⟨lo, po, so, ln, lc, pn, pc, sn, sc, by rw [heap_set h0]; rfl, h1.touch ht hf', (hp.touch (Nat.le_refl _) ht hf').mono ht.size, (h3.touch (Nat.le_refl _) ht hf').mono ht.size⟩

theorem StB.setSess {w : World} {p : Nat} {s : StateD} {so : Option Addr} {sn sc : Nat} {ss : List SessD} (h : StB w p s) (hs : SessR w w.heap.size (.slice so sn sc) ss) : StB (w.setCell ⟨p, 3, none⟩ (.slice so sn sc)) p { s with sess := ss } := by
  have hf := h.foreign
  obtain ⟨lo, po, so', ln, lc, pn, pc, sn', sc', h0, h1, h2, h3⟩ := h
  have ht := (TouchG.refl w (fun b => b = p)).setCell (a := ⟨p, 3, none⟩) (Or.inl rfl) (.slice so sn sc)
  have hf' : ∀ g, g < w.heap.size → g = p → Foreign w g := fun g _ e => e ▸ hf
  exact ⟨lo, po, so, ln, lc, pn, pc, sn, sc, by rw [heap_set h0]; rfl, h1.touch ht hf', (h2.touch (Nat.le_refl _) ht hf').mono ht.size, (hs.touch (Nat.le_refl _) ht hf').mono ht.size⟩

theorem StB.setIndex {w : World} {p : Nat} {s : StateD} (h : StB w p s) (i : Int) : StB (w.setCell ⟨p, 0, none⟩ (.int .i64 i)) p { s with index := i } := by
  have hf := h.foreign
  obtain ⟨lo, po, so, ln, lc, pn, pc, sn, sc, h0, h1, h2, h3⟩ := h
  have ht := (TouchG.refl w (fun b => b = p)).setCell (a := ⟨p, 0, none⟩) (Or.inl rfl) (.int .i64 i)
  have hf' : ∀ g, g < w.heap.size → g = p → Foreign w g := fun g _ e => e ▸ hf
  exact ⟨lo, po, so, ln, lc, pn, pc, sn, sc, by rw [heap_set h0]; rfl, h1.touch ht hf', (h2.touch (Nat.le_refl _) ht hf').mono ht.size, (h3.touch (Nat.le_refl _) ht hf').mono ht.size⟩

/-- A reply put into its block. -/
theorem StB.reply {w : World} {p r : Nat} {s : StateD} {c0 n0 : Int} {t0 : ByteArray} (h : StB w p s) (hr : w.heap[r]? = some (.cells #[.int .i64 c0, .int .i64 n0, .string t0] 43 (0, 0))) (hne : r ≠ p) (c n : Int) (t : ByteArray) :
    StB (((w.setCell ⟨r, 0, none⟩ (.int .i64 c)).setCell ⟨r, 1, none⟩ (.int .i64 n)).setCell ⟨r, 2, none⟩ (.string t)) p s ∧ (((w.setCell ⟨r, 0, none⟩ (.int .i64 c)).setCell ⟨r, 1, none⟩ (.int .i64 n)).setCell ⟨r, 2, none⟩ (.string t)).heap[r]? = some (.cells #[.int .i64 c, .int .i64 n, .string t] 43 (0, 0)) := by
  refine ⟨h.touch (S := fun b => b = r) ((((TouchG.refl w (fun b => b = r)).setCell (a := ⟨r, 0, none⟩) (Or.inl rfl) _).setCell (a := ⟨r, 1, none⟩) (Or.inl rfl) _).setCell (a := ⟨r, 2, none⟩) (Or.inl rfl) _) (fun e => hne e.symm) (fun g _ e => e ▸ foreign_reply hr), ?_⟩
  rw [heap_set (heap_set (heap_set hr _) _) _]
  rfl

theorem touch_reply {w0 w : World} {S : Nat → Prop} {r : Nat} (h : TouchG w0 w S) (hr : S r ∨ w0.heap.size ≤ r) (x y z : Value) : TouchG w0 (((w.setCell ⟨r, 0, none⟩ x).setCell ⟨r, 1, none⟩ y).setCell ⟨r, 2, none⟩ z) S :=
  ((h.setCell (a := ⟨r, 0, none⟩) hr x).setCell (a := ⟨r, 1, none⟩) hr y).setCell (a := ⟨r, 2, none⟩) hr z

/-- The value v is the state s, its locks in memory of their own. -/
def StateO (w : World) (v : Value) (s : StateD) : Prop :=
  ∃ (lo po so : Option Addr) (ln lc pn pc sn sc : Nat), v = .agg #[.int .i64 s.index, .slice lo ln lc, .slice po pn pc, .slice so sn sc] ∧
    LocksO w 0 (.slice lo ln lc) s.locks ∧ PairsR w w.heap.size (.slice po pn pc) s.pairs ∧ SessR w w.heap.size (.slice so sn sc) s.sess

theorem StateO.reads {w : World} {v : Value} {s : StateD} (h : StateO w v s) : StateR w w.heap.size v s := by
  obtain ⟨lo, po, so, ln, lc, pn, pc, sn, sc, rfl, h1, h2, h3⟩ := h
  exact ⟨_, _, _, rfl, h1.reads (Nat.le_refl _), h2, h3⟩

theorem StateO.touch {w w' : World} {v : Value} {s : StateD} {S : Nat → Prop} (h : StateO w v s) (ht : TouchG w w' S) (hf : ∀ g, g < w.heap.size → S g → Foreign w g) : StateO w' v s := by
  obtain ⟨lo, po, so, ln, lc, pn, pc, sn, sc, rfl, h1, h2, h3⟩ := h
  exact ⟨lo, po, so, ln, lc, pn, pc, sn, sc, rfl, h1.touch ht hf, (h2.touch (Nat.le_refl _) ht hf).mono ht.size, (h3.touch (Nat.le_refl _) ht hf).mono ht.size⟩

theorem StateO.below {w w' : World} {v : Value} {s : StateD} (h : StateO w v s) (hb : Below w.heap.size w w') : StateO w' v s :=
  h.touch (TouchG.of_below hb (Nat.le_refl _) (fun _ => False)) (fun _ _ h => h.elim)

theorem LocksO.nil (w : World) : LocksO w 0 (.slice none 0 0) [] := ⟨[], rfl, ⟨World.ownsRow_nil _ _ _ _, Lines.nil _ _, by simp [lineBlocks], by simp⟩⟩

/-- The state in a new block. -/
theorem StateO.boxed {w : World} {x0 x1 x2 x3 : Value} {s : StateD} (h : StateO w (.agg #[x0, x1, x2, x3]) s) : StB (w.alloc (.cells #[x0, x1, x2, x3] 27)) w.heap.size s := by
  obtain ⟨lo, po, so, ln, lc, pn, pc, sn, sc, e, h1, h2, h3⟩ := h
  simp only [Value.agg.injEq, Array.mk.injEq, List.cons.injEq, and_true] at e
  obtain ⟨rfl, rfl, rfl, rfl⟩ := e
  have hb : Below w.heap.size w (w.alloc (.cells #[.int .i64 s.index, .slice lo ln lc, .slice po pn pc, .slice so sn sc] 27)) := (Below.refl _ _).alloc (Nat.le_refl _) _
  exact ⟨lo, po, so, ln, lc, pn, pc, sn, sc, heap_alloc_new w _, h1.below hb (Nat.le_refl _), (h2.below hb (Nat.le_refl _)).mono hb.size, (h3.below hb (Nat.le_refl _)).mono hb.size⟩

/-- The state put into a block that held one. -/
theorem StB.put {w : World} {p : Nat} {s s' : StateD} {x0 x1 x2 x3 : Value} (h : StB w p s) (ho : StateO w (.agg #[x0, x1, x2, x3]) s') : StB ((((w.setCell ⟨p, 0, none⟩ x0).setCell ⟨p, 1, none⟩ x1).setCell ⟨p, 2, none⟩ x2).setCell ⟨p, 3, none⟩ x3) p s' := by
  have hf := h.foreign
  obtain ⟨lo', po', so', ln', lc', pn', pc', sn', sc', h0, -⟩ := h
  obtain ⟨lo, po, so, ln, lc, pn, pc, sn, sc, e, h1, h2, h3⟩ := ho
  simp only [Value.agg.injEq, Array.mk.injEq, List.cons.injEq, and_true] at e
  obtain ⟨rfl, rfl, rfl, rfl⟩ := e
  have ht := ((((TouchG.refl w (fun b => b = p)).setCell (a := ⟨p, 0, none⟩) (Or.inl rfl) (.int .i64 s'.index)).setCell (a := ⟨p, 1, none⟩) (Or.inl rfl) (.slice lo ln lc)).setCell (a := ⟨p, 2, none⟩) (Or.inl rfl) (.slice po pn pc)).setCell (a := ⟨p, 3, none⟩) (Or.inl rfl) (.slice so sn sc)
  have hf' : ∀ g, g < w.heap.size → g = p → Foreign w g := fun g _ e => e ▸ hf
  exact ⟨lo, po, so, ln, lc, pn, pc, sn, sc, by rw [heap_set (heap_set (heap_set (heap_set h0 _) _) _) _]; rfl, h1.touch ht hf', (h2.touch (Nat.le_refl _) ht hf').mono ht.size, (h3.touch (Nat.le_refl _) ht hf').mono ht.size⟩

theorem touch_state {w0 w : World} {S : Nat → Prop} {r : Nat} (h : TouchG w0 w S) (hr : S r ∨ w0.heap.size ≤ r) (x y z u : Value) : TouchG w0 ((((w.setCell ⟨r, 0, none⟩ x).setCell ⟨r, 1, none⟩ y).setCell ⟨r, 2, none⟩ z).setCell ⟨r, 3, none⟩ u) S :=
  (((h.setCell (a := ⟨r, 0, none⟩) hr x).setCell (a := ⟨r, 1, none⟩) hr y).setCell (a := ⟨r, 2, none⟩) hr z).setCell (a := ⟨r, 3, none⟩) hr u

end Go.Proofs.YtpcacaohknkdlahGreatDoor

namespace Go.Proofs.YtpcacaohknkdlahGreatDoor

open Go.RowKit

theorem prow_keep {w w' : World} {base : Nat} {e : TypeId} {size : Nat} {v : Value} {n : Nat} {xs : List Value} (h : w.ownsRow base e size v n xs) (hk : ∀ b, v.ownBlock = some b → w'.heap[b]? = w.heap[b]?) : w'.ownsRow base e size v n xs := by
  obtain ⟨h1, h2⟩ := h
  refine ⟨h1, ?_⟩
  rcases h2 with h2 | ⟨g, cap, cur, rfl, hg, hh, r⟩
  · exact Or.inl h2
  · exact Or.inr ⟨g, cap, cur, rfl, hg, by rw [hk g rfl]; exact hh, r⟩

theorem prow_below {w w' : World} {base : Nat} {e : TypeId} {size : Nat} {v : Value} {n : Nat} {xs : List Value} (h : w.ownsRow base e size v n xs) {B : Nat} (hb : Below B w w') (hB : w.heap.size ≤ B) : w'.ownsRow base e size v n xs :=
  prow_keep h fun b hbk => hb.block b (by have := (h.lt b hbk).2; omega)

/-- A row with something in it lies in a block. -/
theorem prow_some {w : World} {base : Nat} {e : TypeId} {size : Nat} {v : Value} {n : Nat} {xs : List Value} (h : w.ownsRow base e size v n xs) (hn : 0 < n) : ∃ g cap, v = .slice (some ⟨g, 0, none⟩) n cap ∧ base ≤ g ∧ g < w.heap.size ∧ n ≤ cap := by
  have hlt := h.lt
  rcases h.2 with ⟨rfl, rfl⟩ | ⟨g, cap, cur, rfl, hg, hh, hle, _⟩
  · omega
  · exact ⟨g, cap, rfl, hg, (hlt g rfl).2, hle⟩

/-- Three stores in another block. -/
theorem prow_low3 {w : World} {base : Nat} {e : TypeId} {size : Nat} {v : Value} {n : Nat} {xs : List Value} (h : w.ownsRow base e size v n xs) {b : Nat} (hb : b < base) (x y z : Value) : (((w.setCell ⟨b, 0, none⟩ x).setCell ⟨b, 1, none⟩ y).setCell ⟨b, 2, none⟩ z).ownsRow base e size v n xs :=
  prow_keep h fun c hc => by
    have := (h.lt c hc).1
    rw [heap_setCell_other _ _ _ _ (by simp; omega), heap_setCell_other _ _ _ _ (by simp; omega), heap_setCell_other _ _ _ _ (by simp; omega)]

theorem flatP_set {ps : List PairD} {i : Nat} {x : PairD} (h : ps[i]? = some x) (val : ByteArray) (ver : Int) : ((flatP ps).set (i * 3 + 1) (.string val)).set (i * 3 + 2) (.int .i64 ver) = flatP (ps.set i ⟨x.name, val, ver⟩) := by
  induction ps generalizing i with
  | nil => simp at h
  | cons q t ih =>
    have e : ∀ q t, flatP (q :: t) = pairCells q ++ flatP t := fun q t => by simp [flatP]
    cases i with
    | zero =>
      have : q = x := by simpa using h
      subst this
      rw [List.set_cons_zero, e, e]
      simp [pairCells]
    | succ i =>
      rw [List.set_cons_succ, e, e]
      have hl : (pairCells q).length = 3 := rfl
      have := ih (i := i) (by simpa using h)
      rw [← this]
      rw [List.set_append_right _ _ (by omega), List.set_append_right _ _ (by omega), hl, show (i + 1) * 3 + 1 - 3 = i * 3 + 1 by omega, show (i + 1) * 3 + 2 - 3 = i * 3 + 2 by omega]

/-- A pair's value and version put anew. -/
theorem prow_put {w : World} {base : Nat} {g n cap i : Nat} {ps : List PairD} {x : PairD} (h : w.ownsRow base 90 3 (.slice (some ⟨g, 0, none⟩) n cap) n (flatP ps)) (hx : ps[i]? = some x) (val : ByteArray) (ver : Int) :
    ((w.setCell ⟨g, i * 3 + 1, none⟩ (.string val)).setCell ⟨g, i * 3 + 2, none⟩ (.int .i64 ver)).ownsRow base 90 3 (.slice (some ⟨g, 0, none⟩) n cap) n (flatP (ps.set i ⟨x.name, val, ver⟩)) := by
  have h1 := (h.stored (i * 3 + 1) (.string val)).1
  have h2 := (h1.stored (i * 3 + 2) (.int .i64 ver)).1
  rwa [flatP_set hx] at h2

theorem prow_cells {w : World} {base : Nat} {g n cap i : Nat} {ps : List PairD} {x : PairD} (h : w.ownsRow base 90 3 (.slice (some ⟨g, 0, none⟩) n cap) n (flatP ps)) (hx : ps[i]? = some x) (hn : n = ps.length) :
    w.cell? ⟨g, i * 3, none⟩ = some (.string x.name) ∧ w.cell? ⟨g, i * 3 + 1, none⟩ = some (.string x.value) ∧ w.cell? ⟨g, i * 3 + 2, none⟩ = some (.int .i64 x.version) ∧ ∀ j, w.frozen? ⟨g, j, none⟩ = false := by
  have hi : i < ps.length := (List.getElem?_eq_some_iff.1 hx).1
  have key : ∀ j, j < 3 → w.cell? ⟨g, i * 3 + j, none⟩ = (pairCells x)[j]? := fun j hj => by
    rw [h.cellAt (i * 3 + j) (by omega), flatP_at hx j hj]
  exact ⟨by simpa [pairCells] using key 0 (by omega), by simpa [pairCells] using key 1 (by omega), by simpa [pairCells] using key 2 (by omega), fun j => h.frozenAt j⟩

end Go.Proofs.YtpcacaohknkdlahGreatDoor

namespace Go.Proofs.YtpcacaohknkdlahGreatDoor

open Go.RowKit

theorem pret_bool {a b : Bool} (h : a = b) : Ending.returned (.bool a) = .returned (.bool b) := by rw [h]

theorem place1_any (nm xn xv : ByteArray) (xe : Int) (b : Nat) (w : World) (hc : w.cell? ⟨b, 0, none⟩ = some (.string nm)) (hb : b < w.heap.size) :
    Calls Tryz.prog 160 #[.agg #[.string xn, .string xv, .int .i64 xe], .pointer (some ⟨b, 0, none⟩)] w fun e w' => e = .returned (.bool (!ltP xn nm)) ∧ Below w.heap.size w w' := by
  go_enter Tryz.func160, Tryz.ntmps160
  go_wp2
  go_ret
  exact ⟨pret_bool (by simp [ltP]), (Below.refl _ _).alloc (Nat.le_refl _) _⟩

set_option maxHeartbeats 800000 in
theorem indexPlace (v : Value) (ps : List PairD) (nm : ByteArray) (b0 : Nat) (w : World) (B : Nat) (hv : PairsR w B v ps) (hB : B ≤ w.heap.size) (hc0 : w.cell? ⟨b0, 0, none⟩ = some (.string nm)) (hb0 : b0 < w.heap.size) (hn : placeP ps nm < ps.length) :
    Calls Tryz.prog 159 #[v, .func (.func 160) #[] #[.pointer (some ⟨b0, 0, none⟩)]] w fun e w' => e = .returned (.int .i64 (placeP ps nm : Nat)) ∧ Below w.heap.size w w' := by
  obtain ⟨ao, cap, rfl, h1, h2, h3, h4⟩ := hv
  have HN : Hid (∀ x, ps[placeP ps nm]? = some x → ltP x.name nm = false) := fun x hx => placeP_at hx
  have HM : Hid (∀ (j : Nat) (x : PairD), j < placeP ps nm → ps[j]? = some x → ltP x.name nm = true) := fun j x hj hx => placeP_before hj hx
  obtain ⟨n, hne⟩ : ∃ n, n = placeP ps nm := ⟨_, rfl⟩
  rw [← hne] at HN HM hn ⊢
  clear hne
  go_enter Tryz.func159, Tryz.ntmps159
  go_wp2
  go_loopw [8] (fun i wr => ∃ k : Nat, k ≤ n ∧ i = .int .i64 k ∧ Below w.heap.size w wr) (fun i _ => ps.length - (intOf i).toNat)
  case atStart => exact ⟨0, Nat.zero_le _, rfl, Below.refl _ _⟩
  case round =>
    obtain ⟨k, hk, rfl, hb⟩ := hrel
    have hlt : k < ps.length := by omega
    obtain ⟨b, off, rfl, hbB, hc⟩ := h4 (by omega)
    obtain ⟨x, hx⟩ : ∃ x, ps[k]? = some x := ⟨_, List.getElem?_eq_getElem hlt⟩
    obtain ⟨c0, c1, c2, hs⟩ := (hc k x hx).below (by omega) hb
    have HX : Hid (ps[k]? = some x) := hx
    have C := place1_any nm x.name x.value x.version b0 wr ((hb.cell (p := ⟨b0, 0, none⟩) hb0).trans hc0) (by have := hb.size; omega)
    have hsz := hb.size
    clear hx hc h4 hs
    by_cases hkn : k = n
    · subst hkn
      rw [HN.out x HX.out] at C
      go_wp2_with fail
      refine C.mono ?_
      rintro e w1 ⟨rfl, hb1⟩
      have hb2 := hb.trans (hb1.mono hsz)
      clear hb1 C
      go_wp2
      go_ret
      exact ⟨rfl, hb2⟩
    · have hkn' : k < n := by omega
      rw [HM.out k x hkn' HX.out] at C
      clear hkn
      go_wp2_with fail
      refine C.mono ?_
      rintro e w1 ⟨rfl, hb1⟩
      have hb2 := hb.trans (hb1.mono hsz)
      clear hb1 C
      go_wp2
      go_roundw
      case rel => exact ⟨k + 1, by omega, by go_num, hb2⟩
      case measure => simp [intOf]; omega

set_option maxHeartbeats 800000 in
theorem indexPlace_none (v : Value) (ps : List PairD) (nm : ByteArray) (b0 : Nat) (w : World) (B : Nat) (hv : PairsR w B v ps) (hB : B ≤ w.heap.size) (hc0 : w.cell? ⟨b0, 0, none⟩ = some (.string nm)) (hb0 : b0 < w.heap.size) (hn : ¬ placeP ps nm < ps.length) :
    Calls Tryz.prog 159 #[v, .func (.func 160) #[] #[.pointer (some ⟨b0, 0, none⟩)]] w fun e w' => e = .returned (.int .i64 (-1)) ∧ Below w.heap.size w w' := by
  obtain ⟨ao, cap, rfl, h1, h2, h3, h4⟩ := hv
  have HM : Hid (∀ (j : Nat) (x : PairD), ps[j]? = some x → ltP x.name nm = true) := fun j x hx => placeP_before (by have := (List.getElem?_eq_some_iff.1 hx).1; omega) hx
  clear hn
  go_enter Tryz.func159, Tryz.ntmps159
  go_wp2
  go_loopw [8] (fun i wr => ∃ k : Nat, k ≤ ps.length ∧ i = .int .i64 k ∧ Below w.heap.size w wr) (fun i _ => ps.length - (intOf i).toNat)
  case atStart => exact ⟨0, Nat.zero_le _, rfl, Below.refl _ _⟩
  case round =>
    obtain ⟨k, hk, rfl, hb⟩ := hrel
    by_cases hlt : k < ps.length
    · obtain ⟨b, off, rfl, hbB, hc⟩ := h4 (by omega)
      obtain ⟨x, hx⟩ : ∃ x, ps[k]? = some x := ⟨_, List.getElem?_eq_getElem hlt⟩
      obtain ⟨c0, c1, c2, hs⟩ := (hc k x hx).below (by omega) hb
      have C := place1_any nm x.name x.value x.version b0 wr ((hb.cell (p := ⟨b0, 0, none⟩) hb0).trans hc0) (by have := hb.size; omega)
      have hsz := hb.size
      rw [HM.out k x hx] at C
      clear hx hc h4 hs
      go_wp2_with fail
      refine C.mono ?_
      rintro e w1 ⟨rfl, hb1⟩
      have hb2 := hb.trans (hb1.mono hsz)
      clear hb1 C
      go_wp2
      go_roundw
      case rel => exact ⟨k + 1, by omega, by go_num, hb2⟩
      case measure => simp [intOf]; omega
    · go_wp2
      go_ret
      exact ⟨rfl, hb⟩

set_option maxHeartbeats 800000 in
theorem place_any (v : Value) (ps : List PairD) (nm : ByteArray) (w : World) (B : Nat) (hv : PairsR w B v ps) (hB : B ≤ w.heap.size) :
    Calls Tryz.prog 140 #[v, .string nm] w fun e w' => e = .returned (.tuple #[.int .i64 (placeP ps nm : Nat), .bool (thereP ps nm)]) ∧ Below w.heap.size w w' := by
  have hlen := hv.len
  by_cases hn : placeP ps nm < ps.length
  · obtain ⟨x, hx⟩ : ∃ x, ps[placeP ps nm]? = some x := ⟨_, List.getElem?_eq_getElem hn⟩
    have ht : thereP ps nm = (x.name.toList == nm.toList) := by unfold thereP; rw [hx]; rfl
    have C := fun w' (hb : Below w.heap.size w w') b0 hc0 hb0 => indexPlace v ps nm b0 w' B (hv.below hb hB) (by have := hb.size; omega) hc0 hb0 hn
    have HC := phid C
    obtain ⟨ao, cap, rfl, h1, h2, h3, h4⟩ := hv
    obtain ⟨b, off, rfl, hbB, hc⟩ := h4 (by omega)
    obtain ⟨c0, -⟩ := hc _ x hx
    rw [ht]
    obtain ⟨n, hne⟩ : ∃ n, n = placeP ps nm := ⟨_, rfl⟩
    rw [← hne] at HC hn c0 ⊢
    obtain ⟨xn, xv, xe⟩ := x
    simp only at c0 ⊢
    clear C hx ht h4 hc hne
    go_enter Tryz.func140, Tryz.ntmps140
    go_wp2_with fail
    refine (HC.out _ ((Below.refl _ _).alloc (Nat.le_refl _) _) w.heap.size (by simp) (by simp)).mono ?_
    rintro e w1 ⟨rfl, hb1⟩
    have HB := phid (((Below.refl w.heap.size w).alloc (Nat.le_refl _) (.cells #[.string nm] 9)).trans (hb1.mono (by simp)))
    have d0 : w1.cell? ⟨b, off + n * 3, none⟩ = some (.string xn) := (HB.out.cell (p := ⟨b, off + n * 3, none⟩) (by show b < w.heap.size; omega)).trans c0
    have d1 : w1.cell? ⟨w.heap.size, 0, none⟩ = some (.string nm) := (hb1.cell (p := ⟨w.heap.size, 0, none⟩) (by simp)).trans (by simp)
    have hz1 : w.heap.size < w1.heap.size := by have := hb1.size; simp at this; omega
    clear hb1 c0
    go_wp2_with fail
    go_quiet (fail)
    go_wp2
    refine bodyPost_ret (v := .tuple #[.int .i64 n, .bool (xn.toList == nm.toList)]) (by simp [results, Tryz.results140, go_sem]) rfl ?_
    exact ⟨rfl, HB.out.trans (pairs_drewN_below _ _ _)⟩
  · have ht : thereP ps nm = false := by unfold thereP; rw [List.getElem?_eq_none (by omega)]
    have hpe : placeP ps nm = ps.length := by have := placeP_le ps nm; omega
    have C := fun w' (hb : Below w.heap.size w w') b0 hc0 hb0 => indexPlace_none v ps nm b0 w' B (hv.below hb hB) (by have := hb.size; omega) hc0 hb0 hn
    have HC := phid C
    obtain ⟨ao, cap, rfl, h1, h2, h3, h4⟩ := hv
    rw [ht, hpe]
    clear C ht h4 hpe hn
    go_enter Tryz.func140, Tryz.ntmps140
    go_wp2_with fail
    refine (HC.out _ ((Below.refl _ _).alloc (Nat.le_refl _) _) w.heap.size (by simp) (by simp)).mono ?_
    rintro e w1 ⟨rfl, hb1⟩
    have HB := phid (((Below.refl w.heap.size w).alloc (Nat.le_refl _) (.cells #[.string nm] 9)).trans (hb1.mono (by simp)))
    clear hb1
    go_wp2
    refine bodyPost_ret (v := .tuple #[.int .i64 ps.length, .bool false]) (by simp [results, Tryz.results140, go_sem]) rfl ?_
    exact ⟨rfl, HB.out⟩

end Go.Proofs.YtpcacaohknkdlahGreatDoor

namespace Go.Proofs.YtpcacaohknkdlahGreatDoor

open Go.RowKit

theorem pbcell {W w1 : World} (hb : Below W.heap.size W w1) : (∀ b o, b < W.heap.size → w1.cell? ⟨b, o, none⟩ = W.cell? ⟨b, o, none⟩) ∧ (∀ b o, b < W.heap.size → w1.frozen? ⟨b, o, none⟩ = W.frozen? ⟨b, o, none⟩) :=
  ⟨fun b o h => hb.cell (p := ⟨b, o, none⟩) h, fun b o h => hb.frozen (p := ⟨b, o, none⟩) h⟩

theorem three_of {α : Type} (Z : List α) (h : 3 ≤ Z.length) : ∃ z0 z1 z2 Z', Z = z0 :: z1 :: z2 :: Z' := by
  match Z, h with
  | z0 :: z1 :: z2 :: Z', _ => exact ⟨z0, z1, z2, Z', rfl⟩

theorem set3 {α : Type} (A Z : List α) (z0 z1 z2 a b c : α) (n : Nat) (hA : A.length = n) :
    (((A ++ z0 :: z1 :: z2 :: Z).set n a).set (n + 1) b).set (n + 2) c = A ++ a :: b :: c :: Z := by
  subst hA
  simp

/-- Three cells put into a row. -/
theorem put3_own {w : World} {base : Nat} {e : TypeId} {g n cap k : Nat} {A Z : List Value} {z0 z1 z2 : Value} (h : w.ownsRow base e 3 (.slice (some ⟨g, 0, none⟩) n cap) n (A ++ z0 :: z1 :: z2 :: Z)) (hA : A.length = k * 3) (a b c : Value) :
    (((w.setCell ⟨g, k * 3, none⟩ a).setCell ⟨g, k * 3 + 1, none⟩ b).setCell ⟨g, k * 3 + 2, none⟩ c).ownsRow base e 3 (.slice (some ⟨g, 0, none⟩) n cap) n (A ++ a :: b :: c :: Z) := by
  have h1 := (h.stored (k * 3) a).1
  have h2 := (h1.stored (k * 3 + 1) b).1
  have h3 := (h2.stored (k * 3 + 2) c).1
  rwa [set3 A Z z0 z1 z2 a b c (k * 3) hA] at h3

theorem put3_below {B : Nat} {w0 w : World} (h : Below B w0 w) {g k : Nat} (hg : B ≤ g) (a b c : Value) :
    Below B w0 (((w.setCell ⟨g, k * 3, none⟩ a).setCell ⟨g, k * 3 + 1, none⟩ b).setCell ⟨g, k * 3 + 2, none⟩ c) :=
  ((h.setCell (by simpa using hg) a).setCell (by simpa using hg) b).setCell (by simpa using hg) c

/-- The local pair, its texts put anew. -/
theorem pclone_cell {wr w1 w2 : World} {xn xv : ByteArray} {xe : Int}
    (hb1 : Below (wr.heap.size + 1) (wr.alloc (.cells #[.string xn, .string xv, .int .i64 xe] 90)) w1) (hb2 : Below w1.heap.size w1 w2) :
    ((w2.setCell ⟨wr.heap.size, 0, none⟩ (.string xn)).setCell ⟨wr.heap.size, 1, none⟩ (.string xv)).heap[wr.heap.size]? = some (.cells #[.string xn, .string xv, .int .i64 xe] 90 (0, 0)) ∧
    Below wr.heap.size wr ((w2.setCell ⟨wr.heap.size, 0, none⟩ (.string xn)).setCell ⟨wr.heap.size, 1, none⟩ (.string xv)) := by
  have hz1 : wr.heap.size + 1 ≤ w1.heap.size := by have := hb1.size; simpa using this
  have g2 : w2.heap[wr.heap.size]? = some (.cells #[.string xn, .string xv, .int .i64 xe] 90 (0, 0)) := by
    rw [hb2.block _ (by omega), hb1.block _ (by omega)]
    exact heap_alloc_new wr _
  have g3 := heap_setCell_same w2 wr.heap.size 0 _ 90 (.string xn) g2
  have g4 := heap_setCell_same _ wr.heap.size 1 _ 90 (.string xv) g3
  refine ⟨by simpa using g4, ?_⟩
  exact ((((Below.refl wr.heap.size wr).alloc (Nat.le_refl _) _).trans (hb1.mono (by omega))).trans (hb2.mono (by omega))).setCell (by simp) _ |>.setCell (by simp) _

end Go.Proofs.YtpcacaohknkdlahGreatDoor
