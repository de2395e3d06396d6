/- Sessions as plain data: what may be, and what the calls do. Plain mathematics; no program. -/
namespace Go.Proofs.Ytkjahjknmfjmkag

/-- A kept reply, as plain data. -/
structure KeptD where
  seq : Int
  code : Int
  n : Int
  text : ByteArray

/-- A session, as plain data. -/
structure SessD where
  client : Int
  id : Int
  acked : Int
  last : Int
  replies : List KeptD

/-- May a reply be kept? -/
def replyB (code n : Int) (size : Nat) : Bool := decide (0 ≤ code ∧ code ≤ 15 ∧ 0 ≤ n ∧ n ≤ 1073741824 ∧ size ≤ 12)

def keptB (k : KeptD) : Bool := replyB k.code k.n k.text.size

/-- May these replies be, behind a number? -/
def formFrom (acked : Int) : Int → List KeptD → Bool
  | _, [] => true
  | ahead, k :: r => decide (ahead + 1 ≤ k.seq) && (decide (k.seq ≤ acked + 4) && (keptB k && formFrom acked k.seq r))

def sformB (x : SessD) : Bool := formFrom x.acked x.acked x.replies

/-- May the numbers of a session be? -/
def rangeB (x : SessD) (index : Int) : Bool :=
  decide (1 ≤ x.client ∧ x.client ≤ 9 ∧ 0 ≤ x.acked ∧ x.acked ≤ 1048576 ∧ 1 ≤ x.id ∧ x.id ≤ index ∧ x.id ≤ x.last ∧ x.last ≤ index)

/-- What is wrong with sessions, behind a client. -/
def checkFromS (index : Int) : Int → List SessD → Int
  | _, [] => 0
  | ahead, x :: r => if rangeB x index = false then 2 else if sformB x = false then 4 else if x.client ≤ ahead then 14 else checkFromS index x.client r

/-- What is wrong with sessions; 0: nothing. -/
def checkS (ls : List SessD) (index : Int) : Int :=
  if index < 0 ∨ 1073741824 < index then 2 else if 4 < ls.length then 1 else checkFromS index 0 ls

theorem checkFromS_nil (i h : Int) : checkFromS i h [] = 0 := rfl
theorem checkFromS_range {i h : Int} {x : SessD} {r : List SessD} (h1 : rangeB x i = false) : checkFromS i h (x :: r) = 2 := by unfold checkFromS; rw [if_pos h1]
theorem checkFromS_form {i h : Int} {x : SessD} {r : List SessD} (h1 : rangeB x i = true) (h2 : sformB x = false) : checkFromS i h (x :: r) = 4 := by unfold checkFromS; rw [if_neg (by simp [h1]), if_pos h2]
theorem checkFromS_order {i h : Int} {x : SessD} {r : List SessD} (h1 : rangeB x i = true) (h2 : sformB x = true) (h3 : x.client ≤ h) : checkFromS i h (x :: r) = 14 := by unfold checkFromS; rw [if_neg (by simp [h1]), if_neg (by simp [h2]), if_pos h3]
theorem checkFromS_next {i h : Int} {x : SessD} {r : List SessD} (h1 : rangeB x i = true) (h2 : sformB x = true) (h3 : ¬ x.client ≤ h) : checkFromS i h (x :: r) = checkFromS i x.client r := by rw [checkFromS, if_neg (by simp [h1]), if_neg (by simp [h2]), if_neg h3]

theorem formFrom_nil (a h : Int) : formFrom a h [] = true := rfl

theorem formFrom_cons (a h : Int) (k : KeptD) (r : List KeptD) : formFrom a h (k :: r) = (decide (h + 1 ≤ k.seq) && (decide (k.seq ≤ a + 4) && (keptB k && formFrom a k.seq r))) := rfl

theorem replyB_iff {c n : Int} {z : Nat} : replyB c n z = true ↔ 0 ≤ c ∧ c ≤ 15 ∧ 0 ≤ n ∧ n ≤ 1073741824 ∧ z ≤ 12 := by simp [replyB]

theorem rangeB_iff {x : SessD} {i : Int} : rangeB x i = true ↔ 1 ≤ x.client ∧ x.client ≤ 9 ∧ 0 ≤ x.acked ∧ x.acked ≤ 1048576 ∧ 1 ≤ x.id ∧ x.id ≤ i ∧ x.id ≤ x.last ∧ x.last ≤ i := by simp [rangeB]

/-- What a session that may be keeps to. -/
structure Fine (index : Int) (x : SessD) : Prop where
  range : rangeB x index = true
  form : sformB x = true

theorem checkFromS_zero {index : Int} : ∀ {ahead : Int} {ls : List SessD}, checkFromS index ahead ls = 0 → (∀ x ∈ ls, Fine index x ∧ ahead < x.client) ∧ ls.Pairwise (fun a b => a.client < b.client)
  | _, [], _ => ⟨fun x hx => absurd hx (by simp), List.Pairwise.nil⟩
  | ahead, x :: r, h => by
    unfold checkFromS at h
    by_cases h1 : rangeB x index = false
    · simp [h1] at h
    · by_cases h2 : sformB x = false
      · simp [h1, h2] at h
      · by_cases h3 : x.client ≤ ahead
        · simp [h1, h2, h3] at h
        · simp only [h1, h2, h3, if_false] at h
          obtain ⟨ha, hp⟩ := checkFromS_zero h
          refine ⟨fun y hy => ?_, List.Pairwise.cons (fun y hy => (ha y hy).2) hp⟩
          rcases List.mem_cons.1 hy with rfl | hy
          · exact ⟨⟨by simpa using h1, by simpa using h2⟩, by omega⟩
          · exact ⟨(ha y hy).1, by have := (ha y hy).2; omega⟩

/-- Sessions that may be. -/
structure GoodS (ls : List SessD) (index : Int) : Prop where
  low : 0 ≤ index
  high : index ≤ 1073741824
  len : ls.length ≤ 4
  fine : ∀ x ∈ ls, Fine index x
  order : ls.Pairwise (fun a b => a.client < b.client)

theorem checkS_zero {ls : List SessD} {index : Int} (h : checkS ls index = 0) : GoodS ls index := by
  unfold checkS at h
  by_cases h1 : index < 0 ∨ 1073741824 < index
  · simp [h1] at h
  · by_cases h2 : 4 < ls.length
    · simp [h1, h2] at h
    · simp only [h1, h2, if_false] at h
      obtain ⟨ha, hp⟩ := checkFromS_zero h
      exact ⟨by omega, by omega, by omega, fun x hx => (ha x hx).1, hp⟩

theorem checkFromS_of {index : Int} : ∀ {ahead : Int} {ls : List SessD}, (∀ x ∈ ls, Fine index x ∧ ahead < x.client) → ls.Pairwise (fun a b => a.client < b.client) → checkFromS index ahead ls = 0
  | _, [], _, _ => rfl
  | ahead, x :: r, h, hp => by
    unfold checkFromS
    have hx := h x (by simp)
    rw [hx.1.range, hx.1.form]
    have h3 : ¬ x.client ≤ ahead := by omega
    rw [List.pairwise_cons] at hp
    simp [h3]
    exact checkFromS_of (fun y hy => ⟨(h y (by simp [hy])).1, hp.1 y hy⟩) hp.2

theorem checkS_of {ls : List SessD} {index : Int} (h : GoodS ls index) : checkS ls index = 0 := by
  unfold checkS
  rw [if_neg (by have := h.low; have := h.high; omega), if_neg (by have := h.len; omega)]
  exact checkFromS_of (fun x hx => ⟨h.fine x hx, by have := rangeB_iff.1 (h.fine x hx).range; omega⟩) h.order

/-- How many replies there are at most. -/
theorem formFrom_len {a : Int} : ∀ {h : Int} {ks : List KeptD}, formFrom a h ks = true → (ks.length : Int) ≤ max (a + 4 - h) 0
  | _, [], _ => by simp; omega
  | h, k :: r, hf => by
    rw [formFrom_cons] at hf
    simp only [Bool.and_eq_true, decide_eq_true_eq] at hf
    have := formFrom_len hf.2.2.2
    simp only [List.length_cons]
    omega

theorem sformB_len {x : SessD} (h : sformB x = true) : x.replies.length ≤ 4 := by
  have := formFrom_len h
  omega

theorem formFrom_mem {a : Int} : ∀ {h : Int} {ks : List KeptD}, formFrom a h ks = true → ∀ k ∈ ks, h < k.seq ∧ k.seq ≤ a + 4 ∧ keptB k = true
  | _, [], _, k, hk => absurd hk (by simp)
  | h, q :: r, hf, k, hk => by
    rw [formFrom_cons] at hf
    simp only [Bool.and_eq_true, decide_eq_true_eq] at hf
    rcases List.mem_cons.1 hk with rfl | hk
    · exact ⟨by omega, hf.2.1, hf.2.2.1⟩
    · have := formFrom_mem hf.2.2.2 k hk
      exact ⟨by omega, this.2⟩

theorem formFrom_rise {a : Int} : ∀ {h : Int} {ks : List KeptD}, formFrom a h ks = true → ks.Pairwise (fun x y => x.seq < y.seq)
  | _, [], _ => List.Pairwise.nil
  | h, q :: r, hf => by
    rw [formFrom_cons] at hf
    simp only [Bool.and_eq_true, decide_eq_true_eq] at hf
    exact List.Pairwise.cons (fun y hy => (formFrom_mem hf.2.2.2 y hy).1) (formFrom_rise hf.2.2.2)

theorem formFrom_of {a : Int} : ∀ {h : Int} {ks : List KeptD}, (∀ k ∈ ks, h < k.seq ∧ k.seq ≤ a + 4 ∧ keptB k = true) → ks.Pairwise (fun x y => x.seq < y.seq) → formFrom a h ks = true
  | _, [], _, _ => rfl
  | h, q :: r, hk, hp => by
    rw [formFrom_cons]
    have := hk q (by simp)
    rw [List.pairwise_cons] at hp
    simp only [Bool.and_eq_true, decide_eq_true_eq]
    exact ⟨by omega, this.2.1, this.2.2, formFrom_of (fun y hy => ⟨hp.1 y hy, (hk y (by simp [hy])).2⟩) hp.2⟩

/-- Without those that said nothing for so long. -/
def freshP (index : Int) (x : SessD) : Bool := decide (index < x.last + 40)
def freshS (ls : List SessD) (index : Int) : List SessD := ls.filter (freshP index)

/-- Where a client's session is, or would be. -/
def placeS (ls : List SessD) (client : Int) : Nat := ls.findIdx fun x => decide (client ≤ x.client)
def thereS (ls : List SessD) (client : Int) : Bool := match ls[placeS ls client]? with
  | some x => decide (x.client = client)
  | none => false

/-- Where a reply is, or would be. -/
def placeK (ks : List KeptD) (seq : Int) : Nat := ks.findIdx fun k => decide (seq ≤ k.seq)
def thereK (ks : List KeptD) (seq : Int) : Bool := match ks[placeK ks seq]? with
  | some k => decide (k.seq = seq)
  | none => false

def joinE (ls : List SessD) (index client : Int) : Int :=
  if checkS ls index ≠ 0 then checkS ls index else if (1 ≤ client ∧ client ≤ 9) ∧ index ≠ 1073741824 then 0 else 2

/-- What the call's reply is: code, number, text. -/
structure ReplyD where
  code : Int
  n : Int
  text : ByteArray

def joinS (ls : List SessD) (index client : Int) : List SessD × ReplyD :=
  match thereS ls client, ls[placeS ls client]? with
  | true, some x => (ls.set (placeS ls client) { x with last := index + 1 }, ⟨7, x.id, ⟨#[]⟩⟩)
  | _, _ => if ls.length = 4 then (ls, ⟨8, 0, ⟨#[]⟩⟩) else (ls.take (placeS ls client) ++ ⟨client, index + 1, 0, index + 1, []⟩ :: ls.drop (placeS ls client), ⟨0, index + 1, ⟨#[]⟩⟩)

def leaveS (ls : List SessD) (client : Int) : List SessD × ReplyD :=
  if thereS ls client = true then (ls.eraseIdx (placeS ls client), ⟨0, 0, ⟨#[]⟩⟩) else (ls, ⟨11, 0, ⟨#[]⟩⟩)

def readyE (ls : List SessD) (index seq acked : Int) : Int :=
  if checkS ls index ≠ 0 then checkS ls index else if index ≠ 1073741824 ∧ (1 ≤ seq ∧ seq ≤ 1048576) ∧ 0 ≤ acked ∧ acked ≤ seq - 1 then 0 else 2

/-- A session that heard a call. -/
def hearD (x : SessD) (entry acked : Int) : SessD :=
  { x with last := entry, acked := max x.acked acked, replies := x.replies.filter fun k => !decide (k.seq ≤ max x.acked acked) }

/-- What a call is answered without being done; true: it is to be done. -/
def answerD (x : SessD) (seq : Int) : ReplyD × Bool :=
  if seq ≤ x.acked then (⟨12, 0, ⟨#[]⟩⟩, false)
  else match thereK x.replies seq, x.replies[placeK x.replies seq]? with
    | true, some k => (⟨k.code, k.n, k.text⟩, false)
    | _, _ => if x.acked + 4 < seq then (⟨2, 0, ⟨#[]⟩⟩, false) else (⟨0, 0, ⟨#[]⟩⟩, true)

def readyS (ls : List SessD) (index client session seq acked : Int) : List SessD × ReplyD × Bool :=
  match thereS ls client, ls[placeS ls client]? with
  | true, some x => if x.id = session then (ls.set (placeS ls client) (hearD x (index + 1) acked), answerD (hearD x (index + 1) acked) seq) else (ls, ⟨11, 0, ⟨#[]⟩⟩, false)
  | _, _ => (ls, ⟨11, 0, ⟨#[]⟩⟩, false)

/-- One reply more. -/
def withK (ks : List KeptD) (k : KeptD) : List KeptD := ks.take (placeK ks k.seq) ++ k :: ks.drop (placeK ks k.seq)

def keepE (ls : List SessD) (index client : Int) (k : KeptD) : Int :=
  if checkS ls index ≠ 0 then checkS ls index
  else match thereS ls client, ls[placeS ls client]? with
    | true, some x => if thereK x.replies k.seq = true then 7 else if sformB { x with replies := withK x.replies k } = true then 0 else 2
    | _, _ => 11

def keepS (ls : List SessD) (client : Int) (k : KeptD) : List SessD :=
  match ls[placeS ls client]? with
  | some x => ls.set (placeS ls client) { x with replies := withK x.replies k }
  | none => ls

end Go.Proofs.Ytkjahjknmfjmkag
