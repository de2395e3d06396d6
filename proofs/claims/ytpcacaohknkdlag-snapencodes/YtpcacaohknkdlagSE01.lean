/- Rows of elements of several cells each: what a value reads as, and a row of a call's own. No program is named but for the seat's namespace; Sessions as plain data: what may be, and what the calls do. Plain mathematics; no program (joined by program) -/
import Derived.WalkKit
import Derived.ProofKit
import Derived.WalkLawsBesides
import Derived.Laws.Rows
import Derived.Laws.CopyOwn
import Derived.Laws.AppendOwn
import Derived.Below
namespace Go.Proofs.Ytpcacaohknkdlag

open Go.RowKit

theorem ghid {p : Prop} (h : p) : Hid p := h

theorem g_drewN_below (B : Nat) (w : World) (n : Nat) : Below B w (w.drewN n) := ⟨rfl, rfl, rfl, Nat.le_refl _, fun _ _ => rfl⟩

theorem gcell {W w1 : World} (hb : Below W.heap.size W w1) : (∀ b o, b < W.heap.size → w1.cell? ⟨b, o, none⟩ = W.cell? ⟨b, o, none⟩) ∧ (∀ b o, b < W.heap.size → w1.frozen? ⟨b, o, none⟩ = W.frozen? ⟨b, o, none⟩) :=
  ⟨fun b o h => hb.cell (p := ⟨b, o, none⟩) h, fun b o h => hb.frozen (p := ⟨b, o, none⟩) h⟩

section

variable {α : Type} {c : α → List Value} {m : Nat}

end

section

variable {w w' : World} {base : Nat} {e : TypeId} {size : Nat} {v : Value} {n : Nat} {xs : List Value}

end

/-- w' is w but for blocks in S, and new ones. -/
structure TouchG (w w' : World) (S : Nat → Prop) : Prop where
  os : w'.os = w.os
  tape : w'.tape = w.tape
  output : w'.output = w.output
  size : w.heap.size ≤ w'.heap.size
  block : ∀ k, k < w.heap.size → ¬ S k → w'.heap[k]? = w.heap[k]?

theorem TouchG.refl (w : World) (S : Nat → Prop) : TouchG w w S := ⟨rfl, rfl, rfl, Nat.le_refl _, fun _ _ _ => rfl⟩

theorem TouchG.setCell {w0 w : World} {S : Nat → Prop} (h : TouchG w0 w S) {a : Addr} (ha : S a.block ∨ w0.heap.size ≤ a.block) (u : Value) : TouchG w0 (w.setCell a u) S :=
  ⟨h.os, h.tape, h.output, by have := h.size; simpa [World.setCell] using this, fun k hk hs => (Below.heap_setCell _ _ _ _ (by rintro rfl; rcases ha with ha | ha; exact hs ha; omega)).trans (h.block k hk hs)⟩

theorem TouchG.grown {w0 w w' : World} {S : Nat → Prop} {row : Option Nat} (h : TouchG w0 w S) (hg : w.grownBy w' row) (hr : ∀ k, row = some k → S k ∨ w0.heap.size ≤ k) : TouchG w0 w' S :=
  ⟨hg.os.trans h.os, hg.tape.trans h.tape, hg.output.trans h.output, Nat.le_trans h.size hg.size, fun k hk hs => (hg.block k (by have := h.size; omega) (fun e => by rcases hr k e.symm with h' | h'; exact hs h'; omega)).trans (h.block k hk hs)⟩

theorem TouchG.trans {a b c : World} {S T : Nat → Prop} (h : TouchG a b S) (k : TouchG b c T) (hs : ∀ i, i < a.heap.size → T i → S i) : TouchG a c S :=
  ⟨k.os.trans h.os, k.tape.trans h.tape, k.output.trans h.output, Nat.le_trans h.size k.size, fun i hi hn => (k.block i (by have := h.size; omega) (fun ht => hn (hs i hi ht))).trans (h.block i hi hn)⟩

theorem TouchG.below {w w' : World} {S : Nat → Prop} (h : TouchG w w' S) {B : Nat} (hB : B ≤ w.heap.size) (hs : ∀ k, S k → B ≤ k) : Below B w w' :=
  ⟨h.os, h.tape, h.output, h.size, fun k hk => h.block k (by omega) (fun e => by have := hs k e; omega)⟩

theorem TouchG.drew {w0 w : World} {S : Nat → Prop} (h : TouchG w0 w S) (n : Nat) : TouchG w0 (w.drewN n) S := ⟨h.os, h.tape, h.output, h.size, h.block⟩

section

variable {P : Program}

end

end Go.Proofs.Ytpcacaohknkdlag

namespace Go.Proofs.Ytpcacaohknkdlag

/-- A kept reply, as plain data. -/
structure KeptD where
  seq : Int
  code : Int
  n : Int
  text : ByteArray

/-- A session, as plain data. -/
structure SessD where
  client : Int
  id : Int
  acked : Int
  last : Int
  replies : List KeptD

/-- May a reply be kept? -/
def replyB (code n : Int) (size : Nat) : Bool := decide (0 ≤ code ∧ code ≤ 15 ∧ 0 ≤ n ∧ n ≤ 1073741824 ∧ size ≤ 12)

def keptB (k : KeptD) : Bool := replyB k.code k.n k.text.size

/-- May these replies be, behind a number? -/
def formFrom (acked : Int) : Int → List KeptD → Bool
  | _, [] => true
  | ahead, k :: r => decide (ahead + 1 ≤ k.seq) && (decide (k.seq ≤ acked + 4) && (keptB k && formFrom acked k.seq r))

def sformB (x : SessD) : Bool := formFrom x.acked x.acked x.replies

/-- May the numbers of a session be? -/
def rangeB (x : SessD) (index : Int) : Bool :=
  decide (1 ≤ x.client ∧ x.client ≤ 9 ∧ 0 ≤ x.acked ∧ x.acked ≤ 1048576 ∧ 1 ≤ x.id ∧ x.id ≤ index ∧ x.id ≤ x.last ∧ x.last ≤ index)

/-- What is wrong with sessions, behind a client. -/
def checkFromS (index : Int) : Int → List SessD → Int
  | _, [] => 0
  | ahead, x :: r => if rangeB x index = false then 2 else if sformB x = false then 4 else if x.client ≤ ahead then 14 else checkFromS index x.client r

/-- What is wrong with sessions; 0: nothing. -/
def checkS (ls : List SessD) (index : Int) : Int :=
  if index < 0 ∨ 1073741824 < index then 2 else if 4 < ls.length then 1 else checkFromS index 0 ls

theorem checkFromS_nil (i h : Int) : checkFromS i h [] = 0 := rfl

theorem checkFromS_range {i h : Int} {x : SessD} {r : List SessD} (h1 : rangeB x i = false) : checkFromS i h (x :: r) = 2 := by unfold checkFromS; rw [if_pos h1]

theorem checkFromS_form {i h : Int} {x : SessD} {r : List SessD} (h1 : rangeB x i = true) (h2 : sformB x = false) : checkFromS i h (x :: r) = 4 := by unfold checkFromS; rw [if_neg (by simp [h1]), if_pos h2]

theorem checkFromS_order {i h : Int} {x : SessD} {r : List SessD} (h1 : rangeB x i = true) (h2 : sformB x = true) (h3 : x.client ≤ h) : checkFromS i h (x :: r) = 14 := by unfold checkFromS; rw [if_neg (by simp [h1]), if_neg (by simp [h2]), if_pos h3]

theorem checkFromS_next {i h : Int} {x : SessD} {r : List SessD} (h1 : rangeB x i = true) (h2 : sformB x = true) (h3 : ¬ x.client ≤ h) : checkFromS i h (x :: r) = checkFromS i x.client r := by rw [checkFromS, if_neg (by simp [h1]), if_neg (by simp [h2]), if_neg h3]

theorem formFrom_nil (a h : Int) : formFrom a h [] = true := rfl

theorem formFrom_cons (a h : Int) (k : KeptD) (r : List KeptD) : formFrom a h (k :: r) = (decide (h + 1 ≤ k.seq) && (decide (k.seq ≤ a + 4) && (keptB k && formFrom a k.seq r))) := rfl

theorem replyB_iff {c n : Int} {z : Nat} : replyB c n z = true ↔ 0 ≤ c ∧ c ≤ 15 ∧ 0 ≤ n ∧ n ≤ 1073741824 ∧ z ≤ 12 := by simp [replyB]

theorem rangeB_iff {x : SessD} {i : Int} : rangeB x i = true ↔ 1 ≤ x.client ∧ x.client ≤ 9 ∧ 0 ≤ x.acked ∧ x.acked ≤ 1048576 ∧ 1 ≤ x.id ∧ x.id ≤ i ∧ x.id ≤ x.last ∧ x.last ≤ i := by simp [rangeB]

/-- What a session that may be keeps to. -/
structure Fine (index : Int) (x : SessD) : Prop where
  range : rangeB x index = true
  form : sformB x = true

theorem checkFromS_zero {index : Int} : ∀ {ahead : Int} {ls : List SessD}, checkFromS index ahead ls = 0 → (∀ x ∈ ls, Fine index x ∧ ahead < x.client) ∧ ls.Pairwise (fun a b => a.client < b.client)
  | _, [], _ => ⟨fun x hx => absurd hx (by simp), List.Pairwise.nil⟩
  | ahead, x :: r, h => by
    unfold checkFromS at h
    by_cases h1 : rangeB x index = false
    · simp [h1] at h
    · by_cases h2 : sformB x = false
      · simp [h1, h2] at h
      · by_cases h3 : x.client ≤ ahead
        · simp [h1, h2, h3] at h
        · simp only [h1, h2, h3, if_false] at h
          obtain ⟨ha, hp⟩ := checkFromS_zero h
          refine ⟨fun y hy => ?_, List.Pairwise.cons (fun y hy => (ha y hy).2) hp⟩
          rcases List.mem_cons.1 hy with rfl | hy
          · exact ⟨⟨by simpa using h1, by simpa using h2⟩, by omega⟩
          · exact ⟨(ha y hy).1, by have := (ha y hy).2; omega⟩

/-- Sessions that may be. -/
structure GoodS (ls : List SessD) (index : Int) : Prop where
  low : 0 ≤ index
  high : index ≤ 1073741824
  len : ls.length ≤ 4
  fine : ∀ x ∈ ls, Fine index x
  order : ls.Pairwise (fun a b => a.client < b.client)

theorem checkS_zero {ls : List SessD} {index : Int} (h : checkS ls index = 0) : GoodS ls index := by
  unfold checkS at h
  by_cases h1 : index < 0 ∨ 1073741824 < index
  · simp [h1] at h
  · by_cases h2 : 4 < ls.length
    · simp [h1, h2] at h
    · simp only [h1, h2, if_false] at h
      obtain ⟨ha, hp⟩ := checkFromS_zero h
      exact ⟨by omega, by omega, by omega, fun x hx => (ha x hx).1, hp⟩

/-- How many replies there are at most. -/
theorem formFrom_len {a : Int} : ∀ {h : Int} {ks : List KeptD}, formFrom a h ks = true → (ks.length : Int) ≤ max (a + 4 - h) 0
  | _, [], _ => by simp; omega
  | h, k :: r, hf => by
    rw [formFrom_cons] at hf
    simp only [Bool.and_eq_true, decide_eq_true_eq] at hf
    have := formFrom_len hf.2.2.2
    simp only [List.length_cons]
    omega

theorem sformB_len {x : SessD} (h : sformB x = true) : x.replies.length ≤ 4 := by
  have := formFrom_len h
  omega

theorem formFrom_mem {a : Int} : ∀ {h : Int} {ks : List KeptD}, formFrom a h ks = true → ∀ k ∈ ks, h < k.seq ∧ k.seq ≤ a + 4 ∧ keptB k = true
  | _, [], _, k, hk => absurd hk (by simp)
  | h, q :: r, hf, k, hk => by
    rw [formFrom_cons] at hf
    simp only [Bool.and_eq_true, decide_eq_true_eq] at hf
    rcases List.mem_cons.1 hk with rfl | hk
    · exact ⟨by omega, hf.2.1, hf.2.2.1⟩
    · have := formFrom_mem hf.2.2.2 k hk
      exact ⟨by omega, this.2⟩

/-- Without those that said nothing for so long. -/
def freshP (index : Int) (x : SessD) : Bool := decide (index < x.last + 40)

def freshS (ls : List SessD) (index : Int) : List SessD := ls.filter (freshP index)

/-- Where a client's session is, or would be. -/
def placeS (ls : List SessD) (client : Int) : Nat := ls.findIdx fun x => decide (client ≤ x.client)

def thereS (ls : List SessD) (client : Int) : Bool := match ls[placeS ls client]? with
  | some x => decide (x.client = client)
  | none => false

/-- What the call's reply is: code, number, text. -/
structure ReplyD where
  code : Int
  n : Int
  text : ByteArray

def leaveS (ls : List SessD) (client : Int) : List SessD × ReplyD :=
  if thereS ls client = true then (ls.eraseIdx (placeS ls client), ⟨0, 0, ⟨#[]⟩⟩) else (ls, ⟨11, 0, ⟨#[]⟩⟩)

end Go.Proofs.Ytpcacaohknkdlag
