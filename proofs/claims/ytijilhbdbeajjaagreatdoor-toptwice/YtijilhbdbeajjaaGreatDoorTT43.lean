/- TopCatch, in plain lists: who is told all, and applies it, is where the leader is. Plain mathematics; Where entries come from, and what mails tell. Plain mathematics; TopOnce, in plain lists: a call is done once at most. Plain mathematics; TopReplies, in plain lists: all replies to a call are the same, but for those that tell that it is known, or that there is no session. Plain mathematics; TopReplies, in plain lists: a book of who asked what in which session; all mails of a call tell the same. Plain mathematics; TopFences, in plain lists: each time a lock is given its fence is higher, and a value is set by who has its lock alone. Plain mathematics; tackroomkeep.picked: a number from 0 to many - 1; tackroomkeep.name: one of three names; A region that draws its order, by an invariant over what has come up: one step an operation, whatever the order. It imports no program; tackroomkeep.Op: an operation of a raw thing; strconv.Itoa of a number below 100: which text it is; tackroomkeep.Op: which operation is made of a raw thing. (Made of KeepOp's proof.) (joined by program) -/
import Derived.Test.YtijilhbdbeajjaaGreatDoorRows
import Derived.WalkKit
import Derived.ProofKit
import Derived.WalkLawsBesides
import Derived.RegionTactic
import Derived.Lib.Hide
import Derived.Lib.ItoaWalk
import Derived.Deep.DeepCutAuto
import Derived.Deep.RegionWith
import Derived.Deep.RegionHeld3
import Derived.Test.YtijilhbdbeajjaaGreatDoorTT42
import Derived.Test.YtijilhbdbeajjaaGreatDoorTT09
import Derived.Test.YtijilhbdbeajjaaGreatDoorTT22
namespace Go.Proofs.YtijilhbdbeajjaaGreatDoor

open Go.RowKit

/-- How far it is told: p from the leader's first entry on, q all. -/
structure ToldT (s t : TownD) (p q : Nat → Prop) : Prop where
  leader : t.leader = s.leader
  log : t.lead.log = s.lead.log
  right : ∀ x, t.right x = s.right x
  some : ∀ j, j < 3 → j ≠ s.leader → p j → s.first ≤ s.right (t.rep j)
  all : ∀ j, j < 3 → j ≠ s.leader → q j → s.right (t.rep j) = s.last ∧ t.comm.length = s.last

theorem ToldT.ship {s t : TownD} {p q : Nat → Prop} {n : Nat} (h : ToldT s t p q) (ht : TownG t n) (hn : n < 400) {k : Nat} (hk : k < 3) :
    ToldT s (t.ship k 400).1 (fun j => p j ∨ j = k) (fun j => q j ∨ j = k ∧ p k) ∧ TownG (t.ship k 400).1 (n + 1) := by
  obtain ⟨e1, e2, e3, e4, e5, e6, e7⟩ := ship_all ht hn hk
  have hg := (ship_went ht hn hk 400).town
  have hf : t.first = s.first := by unfold TownD.first; rw [h.log]
  have hl : t.last = s.last := by unfold TownD.last; rw [h.log]
  obtain ⟨bl, il, hlr⟩ := hg.town.reps _ hg.town.lead
  have hlr' : RepT (t.ship k 400).1.comm (n + 1) (t.ship k 400).1.lead bl il := hlr
  have hle : (t.ship k 400).1.comm.length ≤ t.last := by
    have := hg.town.led.1
    rw [e2] at this
    exact this
  refine ⟨⟨e1.trans h.leader, e2.trans h.log, fun x => (e4 x).trans (h.right x), fun j hj hjl hp => ?_, fun j hj hjl hq => ?_⟩, hg⟩
  · by_cases e : j = k
    · subst e
      have := (e7 (by rw [h.leader]; exact hjl)).1
      rw [hf, h.right] at this
      exact this
    · rw [e3 j hj e]
      exact h.some j hj hjl (hp.resolve_right e)
  · by_cases e : j = k
    · subst e
      by_cases hpk : p j
      · have h1 := h.some j hj hjl hpk
        have h2 := (e7 (by rw [h.leader]; exact hjl)).2 (by rw [hf, h.right]; exact h1)
        rw [hl, h.right] at h2
        exact h2
      · have hqj : q j := hq.resolve_right fun e => hpk e.2
        have h1 := h.all j hj hjl hqj
        have h2 := e7 (by rw [h.leader]; exact hjl)
        have h3 : t.first ≤ t.right (t.rep j) := by
          rw [h.right, h1.1]
          rw [hf]
          unfold TownD.first TownD.last
          omega
        have h4 := h2.2 h3
        rw [hl, h.right] at h4
        exact h4
    · have hqj : q j := hq.resolve_right fun x => e x.1
      have h1 := h.all j hj hjl hqj
      rw [e3 j hj e]
      refine ⟨h1.1, ?_⟩
      rw [hl] at hle
      omega

end Go.Proofs.YtijilhbdbeajjaaGreatDoor

namespace Go.Proofs.YtijilhbdbeajjaaGreatDoor

open Go.RowKit

/-- All entries are such. -/
structure EntsT (P : ByteArray → Prop) (t : TownD) : Prop where
  reps : ∀ j, ∀ e ∈ (t.rep j).log.ents, P e
  comm : ∀ e ∈ t.comm, P e

section

variable {P : ByteArray → Prop} {t : TownD}

theorem newL_mem {l : LogD} {i : Int} {more : List ByteArray} {e : ByteArray} (h : e ∈ newL l i more) : e ∈ l.ents ∨ e ∈ more := by
  unfold newL at h
  split at h
  · exact .inl h
  · rcases List.mem_append.1 h with h | h
    · exact .inl (List.mem_of_mem_take h)
    · exact .inr (List.mem_of_mem_drop h)

theorem hearL_mem {r : RepD} {i : Int} {more : List ByteArray} {e : ByteArray} (h : e ∈ (hearL r i more).log.ents) : e ∈ r.log.ents ∨ e ∈ more := by
  unfold hearL putL at h
  split at h
  · simp only at h
    split at h
    · exact newL_mem h
    · cases h
  · cases h

theorem behindL_mem {l : LogD} {i m : Int} {e : ByteArray} (h : e ∈ behindL l i m) : e ∈ l.ents := by
  unfold behindL at h
  split at h
  · exact List.mem_of_mem_drop (List.mem_of_mem_take h)
  · cases h

theorem instL_mem {r : RepD} {s e : ByteArray} (h : e ∈ (instL r s).log.ents) : e ∈ r.log.ents := by
  unfold instL at h
  split at h
  · exact behindL_mem h
  · cases h

theorem compL_mem {r : RepD} {e : ByteArray} (h : e ∈ (compL r).log.ents) : e ∈ r.log.ents := by
  unfold compL cutL at h
  split at h
  · simp only at h
    split at h
    · exact List.mem_of_mem_drop h
    · cases h
  · cases h

theorem restL_mem {r : RepD} {e : ByteArray} (h : e ∈ (restL r).log.ents) : e ∈ r.log.ents := by
  unfold restL at h
  split at h
  · exact h
  · cases h

theorem goL_mem {r : RepD} {u : Int} {e : ByteArray} (h : e ∈ (goL r u).log.ents) : e ∈ r.log.ents := by
  unfold goL at h
  split at h
  · exact h
  · cases h

theorem rep_or (t : TownD) (k : Nat) (r : RepD) (j : Nat) : (t.setRep k r).rep j = r ∨ (t.setRep k r).rep j = t.rep j := by
  unfold TownD.rep TownD.setRep
  simp only [List.getD_eq_getElem?_getD, List.getElem?_set]
  by_cases e : k = j
  · subst e
    by_cases h : k < t.reps.length
    · left; simp [h]
    · right; simp [h]
  · right; simp [e]

theorem EntsT.setRep (h : EntsT P t) (k : Nat) {r : RepD} (hr : ∀ e ∈ r.log.ents, P e) : EntsT P (t.setRep k r) :=
  ⟨fun j e he => by
    rcases rep_or t k r j with e1 | e1
    · rw [e1] at he; exact hr e he
    · rw [e1] at he; exact h.reps j e he, h.comm⟩

theorem must_mem (h : EntsT P t) {i : Nat} {e : ByteArray} (he : t.must i = some e) : P e := by
  unfold TownD.must at he
  split at he
  · exact h.comm e (List.mem_of_getElem? he)
  · split at he
    · exact h.reps _ e (List.mem_of_getElem? he)
    · cases he

theorem EntsT.commit1 (h : EntsT P t) (k : Nat) : EntsT P (t.commit1 k) := by
  unfold TownD.commit1
  split
  · exact h
  · refine ⟨h.reps, fun e he => ?_⟩
    rcases List.mem_append.1 he with he | he
    · exact h.comm e he
    · obtain ⟨j, -, hj⟩ := List.mem_filterMap.1 he
      exact must_mem h hj

theorem EntsT.commit (h : EntsT P t) : EntsT P t.commit := ((h.commit1 0).commit1 1).commit1 2

theorem EntsT.added (h : EntsT P t) {e : Int} {s : ByteArray} (hs : e = 0 → P s) : EntsT P (t.added e s).1 := by
  unfold TownD.added
  split
  · exact h
  · rename_i h0
    split
    · exact h
    · refine h.setRep _ fun x hx => ?_
      rcases hearL_mem hx with hx | hx
      · exact h.reps _ x hx
      · rw [List.mem_singleton.1 hx]
        exact hs (by simpa using h0)

theorem EntsT.ship (h : EntsT P t) (k : Nat) (many : Int) : EntsT P (t.ship k many).1 := by
  unfold TownD.ship
  repeat' split
  all_goals first
    | exact h
    | skip
  · exact (h.setRep k fun x hx => h.reps _ x (instL_mem hx)).commit
  · refine (h.setRep k fun x hx => ?_).commit
    rcases hearL_mem hx with hx | hx
    · exact h.reps _ x hx
    · exact h.reps _ x (behindL_mem hx)

theorem EntsT.apply (h : EntsT P t) (k : Nat) (many : Int) : EntsT P (t.apply k many).1 := by
  unfold TownD.apply
  by_cases h0 : many < 0
  · rw [if_pos h0]; exact h
  · rw [if_neg h0]
    by_cases h1 : goE (t.rep k) (t.may k many) = 0
    · rw [if_neg (by simpa using h1)]
      have := h.setRep k (r := goL (t.rep k) (t.may k many)) fun x hx => h.reps _ x (goL_mem hx)
      exact ⟨this.reps, this.comm⟩
    · rw [if_pos h1]; exact h

theorem EntsT.replica (h : EntsT P t) (a : ActD) : EntsT P (t.replica a).1 := by
  unfold TownD.replica
  by_cases hr : 0 ≤ a.r ∧ a.r ≤ 2
  · rw [if_neg (fun e => e hr)]
    by_cases k4 : a.kind = 4
    · rw [if_pos k4]; exact h.ship _ _
    · rw [if_neg k4]
      by_cases k8 : a.kind = 8
      · rw [if_pos k8]
        by_cases hrt : t.right (t.rep a.r.toNat) < t.comm.length
        · rw [if_pos hrt]; exact h
        · rw [if_neg hrt]
          exact EntsT.commit (t := { t with leader := a.r.toNat }) ⟨h.reps, h.comm⟩
      · rw [if_neg k8]
        by_cases k5 : a.kind = 5
        · rw [if_pos k5]; exact h.apply _ _
        · rw [if_neg k5]
          by_cases k6 : a.kind = 6
          · rw [if_pos k6]
            by_cases e : compE (t.rep a.r.toNat) = 0
            · rw [if_neg (by simpa using e)]
              exact h.setRep _ fun x hx => h.reps _ x (compL_mem hx)
            · rw [if_pos e]; exact h
          · rw [if_neg k6]
            by_cases e : repE (t.rep a.r.toNat) = 0
            · rw [if_neg (by simpa using e)]
              exact h.setRep _ fun x hx => h.reps _ x (restL_mem hx)
            · rw [if_pos e]; exact h
  · rw [if_pos hr]; exact h

end

/-- The mail of an entry. -/
def mailAt (cm : List ByteArray) (j : Nat) (e : ByteArray) : MailD := ⟨(decL e).client, (decL e).seq, (applyM (upS cm j) (decL e)).2⟩

theorem upS_next {cm : List ByteArray} {j : Nat} {e : ByteArray} (h : cm[j]? = some e) : upS cm (j + 1) = (applyM (upS cm j) (decL e)).1 := by
  have e1 : cm.take (j + 1) = cm.take j ++ [e] := by rw [List.take_add_one, h]; rfl
  unfold upS
  rw [e1, runE_append]
  rfl

theorem mails_at (cm : List ByteArray) : ∀ (l : List ByteArray) (i : Nat), (∀ k e, l[k]? = some e → cm[i + k]? = some e) → ∀ m ∈ mailsE (upS cm i) l, ∃ j e, cm[j]? = some e ∧ m = mailAt cm j e
  | [], _, _, m, hm => by cases hm
  | x :: r, i, h, m, hm => by
    have hx := h 0 x rfl
    rcases List.mem_cons.1 hm with rfl | hm
    · exact ⟨i, x, hx, rfl⟩
    · rw [← upS_next (by simpa using hx)] at hm
      exact mails_at cm r (i + 1) (fun k e hk => by rw [show i + 1 + k = i + (k + 1) by omega]; exact h (k + 1) e hk) m hm

/-- Mails are of entries that are committed. -/
def MailsT (t : TownD) : Prop := ∀ m ∈ t.mails, ∃ j e, t.comm[j]? = some e ∧ m = mailAt t.comm j e

theorem mailAt_front {cm x : List ByteArray} {j : Nat} {e : ByteArray} (h : cm[j]? = some e) : mailAt (cm ++ x) j e = mailAt cm j e := by
  unfold mailAt
  rw [upS_front (by have := (List.getElem?_eq_some_iff.1 h).1; omega)]

theorem MailsT.grow {t u : TownD} (h : MailsT t) {x : List ByteArray} (hc : u.comm = t.comm ++ x) (hm : ∀ m ∈ u.mails, m ∈ t.mails) : MailsT u := fun m hu => by
  obtain ⟨j, e, h1, h2⟩ := h m (hm m hu)
  refine ⟨j, e, ?_, ?_⟩
  · rw [hc, List.getElem?_append_left (List.getElem?_eq_some_iff.1 h1).1]; exact h1
  · rw [hc, mailAt_front h1]; exact h2

/-- Mails that a leader sends. -/
theorem apply_mails {t : TownD} {n : Nat} (h : TownG t n) (hn : n < 400) (hm : MailsT t) {k : Nat} (hk : k < 3) (many : Int) : MailsT (t.apply k many).1 := by
  unfold TownD.apply
  by_cases h0 : many < 0
  · rw [if_pos h0]; exact hm
  · rw [if_neg h0]
    obtain ⟨b, i, hr⟩ := h.town.reps k hk
    obtain ⟨e1, -, -, e4⟩ := apply_parts h.town (by omega) hk (many := many) (by omega) hr
    rw [if_neg (by simpa using e1)]
    intro m hmm
    have hmm' : m ∈ (if k = t.leader then t.mails ++ (goM (t.rep k) (t.may k many)).take (60 - t.mails.length) else t.mails) := hmm
    show ∃ j e, t.comm[j]? = some e ∧ m = mailAt t.comm j e
    split at hmm'
    · rcases List.mem_append.1 hmm' with hx | hx
      · exact hm m hx
      · have hx := List.mem_of_mem_take hx
        unfold goM at hx
        rw [if_pos e1, e4, hr.state] at hx
        refine mails_at t.comm _ i (fun j e hj => ?_) m hx
        rw [List.getElem?_take] at hj
        split at hj
        · rw [List.getElem?_drop] at hj; exact hj
        · cases hj
    · exact hm m hmm'

end Go.Proofs.YtijilhbdbeajjaaGreatDoor

namespace Go.Proofs.YtijilhbdbeajjaaGreatDoor

open Go.RowKit

/-- A session knows a call: it was told to be known, or its reply is kept. -/
def HasQ (x : SessD) (q : Int) : Prop := q ≤ x.acked ∨ ∃ k ∈ x.replies, k.seq = q

/-- Calls that are done (client, session, number): their sessions are not to come, and know them. -/
def DoneS (D : Int → Int → Int → Prop) (ls : List SessD) (i : Int) : Prop := ∀ c d q, D c d q → d ≤ i ∧ ∀ x ∈ ls, x.client = c → x.id = d → HasQ x q

section

variable {D : Int → Int → Int → Prop} {ls : List SessD} {i : Int}

theorem DoneS.sub (h : DoneS D ls i) {us : List SessD} (hs : us.Sublist ls) : DoneS D us i := fun c d q hd => ⟨(h c d q hd).1, fun x hx => (h c d q hd).2 x (hs.subset hx)⟩

theorem DoneS.later (h : DoneS D ls i) {j : Int} (hj : i ≤ j) : DoneS D ls j := fun c d q hd => ⟨by have := (h c d q hd).1; omega, (h c d q hd).2⟩

theorem DoneS.put (h : DoneS D ls i) {p : Nat} {x y : SessD} (hx : ls[p]? = some x) (hc : y.client = x.client) (hi : y.id = x.id) (hq : ∀ q, HasQ x q → HasQ y q) : DoneS D (ls.set p y) i := fun c d q hd => by
  refine ⟨(h c d q hd).1, fun z hz ec ed => ?_⟩
  rcases List.mem_or_eq_of_mem_set hz with hz | rfl
  · exact (h c d q hd).2 z hz ec ed
  · exact hq q ((h c d q hd).2 x (List.mem_of_getElem? hx) (hc ▸ ec) (hi ▸ ed))

theorem DoneS.join (h : DoneS D ls i) (c : Int) : DoneS D (joinS ls i c).1 (i + 1) := by
  cases ht : thereS ls c with
  | true =>
    obtain ⟨x, hx, e⟩ := thereS_some ht
    rw [joinS_there ht hx]
    exact (h.later (by omega)).put (y := { x with last := i + 1 }) hx rfl rfl fun q hq => hq
  | false =>
    by_cases h4 : ls.length = 4
    · rw [joinS_full ht h4]; exact h.later (by omega)
    · rw [joinS_new ht h4]
      intro a d q hd
      obtain ⟨h1, h2⟩ := h a d q hd
      refine ⟨by omega, fun x hx ea ed => ?_⟩
      rcases List.mem_append.1 hx with hx | hx
      · exact h2 x (List.mem_of_mem_take hx) ea ed
      · rcases List.mem_cons.1 hx with rfl | hx
        · simp only at ed
          omega
        · exact h2 x (List.mem_of_mem_drop hx) ea ed

theorem DoneS.leave (h : DoneS D ls i) (c : Int) : DoneS D (leaveS ls c).1 i := by
  unfold leaveS
  split
  · exact h.sub (List.eraseIdx_sublist ..)
  · exact h

theorem has_hear {x : SessD} {q e u : Int} (h : HasQ x q) : HasQ (hearD x e u) q := by
  rcases h with h | ⟨k, hk, e'⟩
  · exact .inl (by show q ≤ max x.acked u; omega)
  · by_cases hm : q ≤ max x.acked u
    · exact .inl hm
    · exact .inr ⟨k, List.mem_filter.2 ⟨hk, by simp only [Bool.not_eq_true', decide_eq_false_iff_not]; rw [e']; exact hm⟩, e'⟩

theorem DoneS.ready (h : DoneS D ls i) (c s q u : Int) : DoneS D (readyS ls i c s q u).1 (i + 1) := by
  have h' := h.later (j := i + 1) (by omega)
  cases ht : thereS ls c with
  | false => rw [readyS_away ht]; exact h'
  | true =>
    obtain ⟨x, hx, e⟩ := thereS_some ht
    by_cases hsn : x.id = s
    · rw [readyS_here ht hx hsn]
      exact h'.put hx rfl rfl fun q hq => has_hear hq
    · rw [readyS_other ht hx hsn]; exact h'

theorem mem_with {ks : List KeptD} {k y : KeptD} : y ∈ withK ks k ↔ y = k ∨ y ∈ ks := by
  unfold withK
  conv => rhs; rw [← List.take_append_drop (placeK ks k.seq) ks]
  simp only [List.mem_append, List.mem_cons]
  constructor
  · rintro (h | h | h)
    · exact .inr (.inl h)
    · exact .inl h
    · exact .inr (.inr h)
  · rintro (h | h | h)
    · exact .inr (.inl h)
    · exact .inl h
    · exact .inr (.inr h)

theorem has_with {x : SessD} {k : KeptD} {q : Int} (h : HasQ x q) : HasQ { x with replies := withK x.replies k } q := by
  rcases h with h | ⟨y, hy, e⟩
  · exact .inl h
  · exact .inr ⟨y, mem_with.2 (.inr hy), e⟩

theorem DoneS.keep (h : DoneS D ls i) (c : Int) (k : KeptD) : DoneS D (keepS ls c k) i := by
  unfold keepS
  split
  · rename_i x hx
    exact h.put (y := { x with replies := withK x.replies k }) hx rfl rfl fun q hq => has_with hq
  · exact h

end

end Go.Proofs.YtijilhbdbeajjaaGreatDoor

namespace Go.Proofs.YtijilhbdbeajjaaGreatDoor

open Go.RowKit

/-- All that is kept is of calls that were done. -/
def KeptD' (D : Int → Int → Int → ReplyD → Prop) (ls : List SessD) : Prop := ∀ x ∈ ls, ∀ k ∈ x.replies, D x.client x.id k.seq ⟨k.code, k.n, k.text⟩

section

variable {D : Int → Int → Int → ReplyD → Prop} {ls : List SessD} {i : Int}

theorem KeptD'.sub (h : KeptD' D ls) {us : List SessD} (hs : us.Sublist ls) : KeptD' D us := fun x hx => h x (hs.subset hx)

theorem KeptD'.put (h : KeptD' D ls) {p : Nat} {x y : SessD} (hx : ls[p]? = some x) (hc : y.client = x.client) (hi : y.id = x.id) (hq : ∀ k ∈ y.replies, k ∈ x.replies) : KeptD' D (ls.set p y) := fun z hz k hk => by
  rcases List.mem_or_eq_of_mem_set hz with hz | rfl
  · exact h z hz k hk
  · rw [hc, hi]
    exact h x (List.mem_of_getElem? hx) k (hq k hk)

theorem KeptD'.join (h : KeptD' D ls) (i c : Int) : KeptD' D (joinS ls i c).1 := by
  cases ht : thereS ls c with
  | true =>
    obtain ⟨x, hx, e⟩ := thereS_some ht
    rw [joinS_there ht hx]
    exact h.put (y := { x with last := i + 1 }) hx rfl rfl fun k hk => hk
  | false =>
    by_cases h4 : ls.length = 4
    · rw [joinS_full ht h4]; exact h
    · rw [joinS_new ht h4]
      intro x hx
      rcases List.mem_append.1 hx with hx | hx
      · exact h x (List.mem_of_mem_take hx)
      · rcases List.mem_cons.1 hx with rfl | hx
        · intro k hk; cases hk
        · exact h x (List.mem_of_mem_drop hx)

theorem KeptD'.leave (h : KeptD' D ls) (c : Int) : KeptD' D (leaveS ls c).1 := by
  unfold leaveS
  split
  · exact h.sub (List.eraseIdx_sublist ..)
  · exact h

theorem KeptD'.ready (h : KeptD' D ls) (i c s q u : Int) : KeptD' D (readyS ls i c s q u).1 := by
  cases ht : thereS ls c with
  | false => rw [readyS_away ht]; exact h
  | true =>
    obtain ⟨x, hx, e⟩ := thereS_some ht
    by_cases hsn : x.id = s
    · rw [readyS_here ht hx hsn]
      exact h.put hx rfl rfl fun k hk => (List.mem_filter.1 hk).1
    · rw [readyS_other ht hx hsn]; exact h

theorem KeptD'.more (h : KeptD' D ls) {D' : Int → Int → Int → ReplyD → Prop} (hd : ∀ c d q r, D c d q r → D' c d q r) : KeptD' D' ls := fun x hx k hk => hd _ _ _ _ (h x hx k hk)

theorem KeptD'.keep (h : KeptD' D ls) (c : Int) (k : KeptD) (hk : ∀ x, ls[placeS ls c]? = some x → D x.client x.id k.seq ⟨k.code, k.n, k.text⟩) : KeptD' D (keepS ls c k) := by
  unfold keepS
  split
  · rename_i x hx
    intro z hz y hy
    rcases List.mem_or_eq_of_mem_set hz with hz | rfl
    · exact h z hz y hy
    · rcases mem_with.1 hy with rfl | hy
      · exact hk x hx
      · exact h x (List.mem_of_getElem? hx) y hy
  · exact h

end

end Go.Proofs.YtijilhbdbeajjaaGreatDoor

namespace Go.Proofs.YtijilhbdbeajjaaGreatDoor

open Go.RowKit

/-- The calls (client, number, session) that were begun, and the clients. -/
structure BookT (B : Int → Int → Int → Prop) (t : TownD) : Prop where
  waits : ∀ c ∈ t.custs, ∀ w ∈ c.waits, B c.id w.seq c.session
  next : ∀ c ∈ t.custs, ∀ q s, B c.id q s → q < c.next
  one : ∀ {c q s s'}, B c q s → B c q s' → s = s'

/-- An entry is a Join, or a call of the book. -/
def EntryB (B : Int → Int → Int → Prop) (e : ByteArray) : Prop := ((decL e).kind = 1 ∧ (decL e).seq = 0) ∨ ((decL e).kind = 2 ∧ B (decL e).client (decL e).seq (decL e).session ∧ (decL e).seq ≤ (decL e).acked + 4)

/-- All of it. -/
structure AllT (B : Int → Int → Int → Prop) (t : TownD) : Prop where
  book : BookT B t
  ents : EntsT (EntryB B) t
  mails : MailsT t

section

variable {B : Int → Int → Int → Prop} {t : TownD} {n : Nat}

theorem BookT.same (h : BookT B t) {u : TownD} (hc : u.custs = t.custs) : BookT B u := ⟨by rw [hc]; exact h.waits, by rw [hc]; exact h.next, h.one⟩

theorem BookT.put (h : BookT B t) {k : Nat} {c c' : CustD} (hk : t.custs[k]? = some c) (hid : c'.id = c.id) (hn : c.next ≤ c'.next) (hw : ∀ w ∈ c'.waits, B c'.id w.seq c'.session) : BookT B (t.setCust k c') := by
  refine ⟨fun x hx => ?_, fun x hx q s hb => ?_, h.one⟩
  · rcases List.mem_or_eq_of_mem_set (show x ∈ t.custs.set k c' from hx) with hx | rfl
    · exact h.waits x hx
    · exact hw
  · rcases List.mem_or_eq_of_mem_set (show x ∈ t.custs.set k c' from hx) with hx | rfl
    · exact h.next x hx q s hb
    · rw [hid] at hb
      have := h.next c (List.mem_of_getElem? hk) q s hb
      omega

theorem hello_entry {c : CustD} (h : GoodC c) : EntryB B (helloT c) := by
  have hx2 : (⟨1, c.id, 0, 0, 0, 0, ⟨#[]⟩, ⟨#[]⟩, 0⟩ : CmdD).err = 0 := by
    have hi := h.id
    show cmdE 1 c.id 0 0 0 0 ⟨#[]⟩ ⟨#[]⟩ 0 = 0
    unfold cmdE
    rw [if_neg (by omega), if_neg (by omega), if_neg (by omega), if_pos ⟨rfl, rfl, rfl, rfl, rfl, rfl, rfl⟩]
  have e := (dec_all _ hx2).2
  left
  unfold helloT
  rw [e]
  exact ⟨rfl, rfl⟩

theorem ask_entry (h : BookT B t) {c : CustD} (hc : c ∈ t.custs) (hg : GoodC c) {k : Int} (hr : requestE c k = 0) : EntryB B (askT c k.toNat) := by
  unfold requestE at hr
  rw [if_neg (by simpa using hg.check)] at hr
  have hk : 0 ≤ k ∧ k ≤ (c.waits.length : Int) - 1 := Classical.byContradiction fun e => by rw [if_pos e] at hr; omega
  obtain ⟨x, hx⟩ : ∃ x, c.waits[k.toNat]? = some x := ⟨_, List.getElem?_eq_getElem (by omega)⟩
  have hm := List.mem_of_getElem? hx
  have e := (dec_all _ (ask_err hg hx)).2
  have h3 := (hg.each x hm).2.2.1
  have hkf := known_first (c := c) (by omega)
  right
  unfold askT
  rw [hx]
  simp only
  rw [e]
  exact ⟨rfl, h.waits c hc x hm, by simp only; omega⟩

/-- The book with one call more. -/
def moreB (B : Int → Int → Int → Prop) (c : CustD) : Int → Int → Int → Prop := fun i q s => B i q s ∨ (i = c.id ∧ q = c.next ∧ s = c.session)

theorem BookT.start (h : BookT B t) (hg : TownG t n) {k : Nat} {c : CustD} (hk : t.custs[k]? = some c) {ok on : Int} {oa ob : ByteArray} : BookT (moreB B c) (t.setCust k (startL c ok oa ob on)) := by
  have hm := List.mem_of_getElem? hk
  refine ⟨fun x hx => ?_, fun x hx q s hb => ?_, fun {i q s s'} h1 h2 => ?_⟩
  · rcases List.mem_or_eq_of_mem_set (show x ∈ t.custs.set k _ from hx) with hx | rfl
    · exact fun w hw => .inl (h.waits x hx w hw)
    · intro w hw
      rcases List.mem_append.1 hw with hw | hw
      · exact .inl (h.waits c hm w hw)
      · rw [List.mem_singleton.1 hw]
        exact .inr ⟨rfl, rfl, rfl⟩
  · obtain ⟨j, hj⟩ := List.mem_iff_getElem?.1 hx
    have hj' : (t.custs.set k (startL c ok oa ob on))[j]? = some x := hj
    by_cases e : k = j
    · subst e
      rw [List.getElem?_set_self (List.getElem?_eq_some_iff.1 hk).1] at hj'
      cases hj'
      show q < c.next + 1
      rcases hb with hb | ⟨-, e2, -⟩
      · have := h.next c hm q s hb
        omega
      · omega
    · rw [List.getElem?_set_ne e] at hj'
      rcases hb with hb | ⟨e1, -, -⟩
      · exact h.next x (List.mem_of_getElem? hj') q s hb
      · have h1 := hg.ids j x hj'
        have h2 := hg.ids k c hk
        omega
  · rcases h1 with h1 | ⟨a1, a2, a3⟩
    · rcases h2 with h2 | ⟨b1, b2, b3⟩
      · exact h.one h1 h2
      · rw [b1, b2] at h1
        have := h.next c hm _ _ h1
        omega
    · rcases h2 with h2 | ⟨b1, b2, b3⟩
      · rw [a1, a2] at h2
        have := h.next c hm _ _ h2
        omega
      · rw [a3, b3]

theorem EntsT.more {P Q : ByteArray → Prop} (h : EntsT P t) (hpq : ∀ e, P e → Q e) : EntsT Q t := ⟨fun j e he => hpq e (h.reps j e he), fun e he => hpq e (h.comm e he)⟩

theorem EntsT.same {P : ByteArray → Prop} (h : EntsT P t) {u : TownD} (hr : u.reps = t.reps) (hc : u.comm = t.comm) : EntsT P u :=
  ⟨fun j e he => h.reps j e (by unfold TownD.rep at he ⊢; rw [hr] at he; exact he), fun e he => h.comm e (by rw [hc] at he; exact he)⟩

theorem MailsT.same (h : MailsT t) {u : TownD} (hc : u.comm = t.comm) (hm : ∀ m ∈ u.mails, m ∈ t.mails) : MailsT u := h.grow (x := []) (by simp [hc]) hm

theorem entry_more {c : CustD} (e : ByteArray) (h : EntryB B e) : EntryB (moreB B c) e := by
  rcases h with h | ⟨h1, h2, h3⟩
  · exact .inl h
  · exact .inr ⟨h1, .inl h2, h3⟩

theorem added_rest (t : TownD) (e : Int) (s : ByteArray) : (t.added e s).1.custs = t.custs ∧ (t.added e s).1.mails = t.mails ∧ (t.added e s).1.comm = t.comm := by
  unfold TownD.added
  by_cases h0 : e = 0
  · rw [if_neg (by simpa using h0)]
    by_cases h1 : hearE t.lead (lastL t.lead.log) [s] = 0
    · rw [if_neg (by simpa using h1)]; exact ⟨rfl, rfl, rfl⟩
    · rw [if_pos h1]; exact ⟨rfl, rfl, rfl⟩
  · rw [if_pos h0]; exact ⟨rfl, rfl, rfl⟩

theorem AllT.added (h : AllT B t) {e : Int} {s : ByteArray} (hs : e = 0 → EntryB B s) : AllT B (t.added e s).1 := by
  obtain ⟨h1, h2, h3⟩ := added_rest t e s
  exact ⟨h.book.same h1, h.ents.added hs, h.mails.same h3 (by rw [h2]; exact fun _ h => h)⟩

theorem AllT.client (h : AllT B t) (hg : TownG t n) (a : ActD) : ∃ B', AllT B' (t.client a).1 := by
  unfold TownD.client
  by_cases hc : 0 ≤ a.c ∧ a.c ≤ (t.custs.length : Int) - 1
  · rw [if_neg (fun e => e hc)]
    obtain ⟨hat, hgc⟩ := cust_at hg hc
    simp only
    by_cases k1 : a.kind = 1
    · rw [if_pos k1]
      exact ⟨B, h.added fun _ => hello_entry hgc⟩
    · rw [if_neg k1]
      by_cases k3 : a.kind = 3
      · rw [if_pos k3]
        exact ⟨B, h.added fun e => ask_entry h.book (List.mem_of_getElem? hat) hgc e⟩
      · rw [if_neg k3]
        by_cases hs : startE (t.custs.getD a.c.toNat .zero) a.ok a.oa a.ob a.on = 0
        · rw [if_neg (by simpa using hs)]
          exact ⟨moreB B (t.custs.getD a.c.toNat .zero), h.book.start hg hat, (h.ents.more fun e he => entry_more e he).same rfl rfl, h.mails.same rfl fun _ h => h⟩
        · rw [if_pos hs]
          exact ⟨B, h⟩
  · rw [if_pos hc]
    exact ⟨B, h⟩

theorem commit1_rest (t : TownD) (k : Nat) : (t.commit1 k).custs = t.custs ∧ (t.commit1 k).mails = t.mails := by
  unfold TownD.commit1
  split <;> exact ⟨rfl, rfl⟩

theorem commit_rest (t : TownD) : t.commit.custs = t.custs ∧ t.commit.mails = t.mails := by
  obtain ⟨a1, a2⟩ := commit1_rest t 0
  obtain ⟨b1, b2⟩ := commit1_rest (t.commit1 0) 1
  obtain ⟨c1, c2⟩ := commit1_rest ((t.commit1 0).commit1 1) 2
  exact ⟨c1.trans (b1.trans a1), c2.trans (b2.trans a2)⟩

theorem ship_rest (t : TownD) (k : Nat) (many : Int) : (t.ship k many).1.custs = t.custs ∧ (t.ship k many).1.mails = t.mails := by
  unfold TownD.ship
  by_cases h0 : k = t.leader ∨ many < 0
  · rw [if_pos h0]; exact ⟨rfl, rfl⟩
  · rw [if_neg h0]
    by_cases hb : (t.right (t.rep k) : Int) < t.lead.log.base
    · rw [if_pos hb]
      by_cases he : instE (t.rep k) t.lead.snap = 0
      · rw [if_neg (by simpa using he)]
        exact commit_rest _
      · rw [if_pos he]; exact ⟨rfl, rfl⟩
    · rw [if_neg hb]
      by_cases he : behindE t.lead.log (t.right (t.rep k)) many = 0
      · rw [if_neg (by simpa using he)]
        by_cases hf : hearE (t.rep k) (t.right (t.rep k)) (behindL t.lead.log (t.right (t.rep k)) many) = 0
        · rw [if_neg (by simpa using hf)]
          exact commit_rest _
        · rw [if_pos hf]; exact ⟨rfl, rfl⟩
      · rw [if_pos he]; exact ⟨rfl, rfl⟩

theorem apply_custs (t : TownD) (k : Nat) (many : Int) : (t.apply k many).1.custs = t.custs := by
  unfold TownD.apply
  by_cases h0 : many < 0
  · rw [if_pos h0]
  · rw [if_neg h0]
    by_cases h1 : goE (t.rep k) (t.may k many) = 0
    · rw [if_neg (by simpa using h1)]; rfl
    · rw [if_pos h1]

theorem replica_rest (t : TownD) (a : ActD) : (t.replica a).1.custs = t.custs ∧ (a.kind ≠ 5 → (t.replica a).1.mails = t.mails) := by
  unfold TownD.replica
  by_cases hr : 0 ≤ a.r ∧ a.r ≤ 2
  · rw [if_neg (fun e => e hr)]
    by_cases k4 : a.kind = 4
    · rw [if_pos k4]; exact ⟨(ship_rest t _ _).1, fun _ => (ship_rest t _ _).2⟩
    · rw [if_neg k4]
      by_cases k8 : a.kind = 8
      · rw [if_pos k8]
        by_cases hrt : t.right (t.rep a.r.toNat) < t.comm.length
        · rw [if_pos hrt]; exact ⟨rfl, fun _ => rfl⟩
        · rw [if_neg hrt]
          have := commit_rest { t with leader := a.r.toNat }
          exact ⟨this.1, fun _ => this.2⟩
      · rw [if_neg k8]
        by_cases k5 : a.kind = 5
        · rw [if_pos k5]; exact ⟨apply_custs t _ _, fun e => absurd k5 e⟩
        · rw [if_neg k5]
          by_cases k6 : a.kind = 6
          · rw [if_pos k6]
            by_cases e : compE (t.rep a.r.toNat) = 0
            · rw [if_neg (by simpa using e)]; exact ⟨rfl, fun _ => rfl⟩
            · rw [if_pos e]; exact ⟨rfl, fun _ => rfl⟩
          · rw [if_neg k6]
            by_cases e : repE (t.rep a.r.toNat) = 0
            · rw [if_neg (by simpa using e)]; exact ⟨rfl, fun _ => rfl⟩
            · rw [if_pos e]; exact ⟨rfl, fun _ => rfl⟩
  · rw [if_pos hr]; exact ⟨rfl, fun _ => rfl⟩

theorem AllT.replica (h : AllT B t) (hg : TownG t n) (hn : n < 400) (a : ActD) : AllT B (t.replica a).1 := by
  obtain ⟨h1, h2⟩ := replica_rest t a
  refine ⟨h.book.same h1, h.ents.replica a, ?_⟩
  by_cases k5 : a.kind = 5
  · unfold TownD.replica
    by_cases hr : 0 ≤ a.r ∧ a.r ≤ 2
    · rw [if_neg (fun e => e hr), if_neg (by omega), if_neg (by omega), if_pos k5]
      exact apply_mails hg hn h.mails (by omega) _
    · rw [if_pos hr]; exact h.mails
  · obtain ⟨x, hx⟩ := (replica_went hg hn a).comm
    exact h.mails.grow hx (by rw [h2 k5]; exact fun _ h => h)

theorem AllT.deliver (h : AllT B t) (hg : TownG t n) (m : MailD) : AllT B (t.deliver m).1 := by
  unfold TownD.deliver
  by_cases hi : t.custs.findIdx (fun c => c.id == m.client) < t.custs.length
  · rw [if_pos hi]
    simp only
    obtain ⟨hat, hgc⟩ := cust_at hg (c := (t.custs.findIdx (fun c => c.id == m.client) : Int)) (by omega)
    simp only [Int.toNat_natCast] at hat hgc
    revert hat hgc
    generalize t.custs.findIdx (fun c => c.id == m.client) = i
    generalize t.custs.getD i .zero = c
    intro hat hgc
    by_cases he : chearE c m.client m.seq m.reply.code m.reply.n = 0
    · rw [if_neg (by simpa using he)]
      have hold := h.book.waits c (List.mem_of_getElem? hat)
      refine ⟨h.book.put hat ?_ ?_ ?_, h.ents.same rfl rfl, h.mails.same rfl fun _ h => h⟩
      · unfold chearL
        split
        · split <;> rfl
        · split <;> rfl
      · unfold chearL
        split
        · split <;> exact Int.le_refl _
        · split <;> exact Int.le_refl _
      · unfold chearL
        by_cases hq : m.seq = 0
        · rw [if_pos hq]
          have hs : c.waits = [] := by
            unfold chearE at he
            rw [if_neg (by simpa using hgc.check)] at he
            by_cases hcl : m.client = c.id
            · rw [if_neg (by simpa using hcl), if_pos hq] at he
              by_cases hse : 0 < c.session
              · rw [if_pos hse] at he; omega
              · have := hgc.held
                have := hgc.session
                cases hw : c.waits with
                | nil => rfl
                | cons y r => exfalso; have := hgc.held (by rw [hw]; simp); omega
            · rw [if_pos hcl] at he; omega
          split
          · show ∀ w ∈ c.waits, _
            rw [hs]; intro w hw; cases hw
          · rw [hs]; intro w hw; cases hw
        · rw [if_neg hq]
          split
          · intro w hw; cases hw
          · intro w hw
            exact hold w (List.mem_filter.1 hw).1
    · rw [if_pos he]; exact h
  · rw [if_neg hi]; exact h

theorem AllT.fewer (h : AllT B t) {ms : List MailD} (hm : ∀ m ∈ ms, m ∈ t.mails) : AllT B { t with mails := ms } := ⟨h.book.same rfl, h.ents.same rfl rfl, h.mails.same rfl hm⟩

theorem AllT.mailed (h : AllT B t) (hg : TownG t n) (a : ActD) : AllT B (t.mailed a).1 := by
  unfold TownD.mailed
  by_cases hk : 0 ≤ a.k ∧ a.k ≤ (t.mails.length : Int) - 1
  · rw [if_neg (fun e => e hk)]
    simp only
    have hlt : a.k.toNat < t.mails.length := by omega
    by_cases k11 : a.kind = 11
    · rw [if_pos k11]
      by_cases h60 : 60 ≤ t.mails.length
      · rw [if_pos h60]; exact h
      · rw [if_neg h60]
        refine h.fewer fun m hm => ?_
        rcases List.mem_append.1 hm with hm | hm
        · exact hm
        · rw [List.mem_singleton.1 hm, List.getD_eq_getElem?_getD, List.getElem?_eq_getElem hlt]
          exact List.getElem_mem hlt
    · rw [if_neg k11]
      have hf : AllT B { t with mails := t.mails.eraseIdx a.k.toNat } := h.fewer fun m hm => (List.eraseIdx_sublist _ _).subset hm
      by_cases k10 : a.kind = 10
      · rw [if_pos k10]; exact hf
      · rw [if_neg k10]
        exact hf.deliver (mails_any hg _) _
  · rw [if_pos hk]; exact h

theorem AllT.step (h : AllT B t) (hg : TownG t n) (hn : n < 400) (a : ActD) : ∃ B', AllT B' (t.step a).1 := by
  unfold TownD.step
  by_cases h1 : 1 ≤ a.kind ∧ a.kind ≤ 3
  · rw [if_pos h1]; exact h.client hg a
  · rw [if_neg h1]
    by_cases h2 : 4 ≤ a.kind ∧ a.kind ≤ 8
    · rw [if_pos h2]; exact ⟨B, h.replica hg hn a⟩
    · rw [if_neg h2]
      by_cases h3 : 9 ≤ a.kind ∧ a.kind ≤ 11
      · rw [if_pos h3]; exact ⟨B, h.mailed hg a⟩
      · rw [if_neg h3]; exact ⟨B, h⟩

end

end Go.Proofs.YtijilhbdbeajjaaGreatDoor

namespace Go.Proofs.YtijilhbdbeajjaaGreatDoor

open Go.RowKit

/-- Every lock is still there; who has it anew has a higher fence. -/
def RoseX (x y : LockD) : Prop := y.name = x.name ∧ x.fence ≤ y.fence ∧ (y.holder ≠ 0 → y.holder ≠ x.holder → x.fence < y.fence)

def RoseL (ls us : List LockD) : Prop := ∀ x ∈ ls, ∃ y ∈ us, RoseX x y

theorem RoseX.refl (x : LockD) : RoseX x x := ⟨rfl, Int.le_refl _, fun _ h => absurd rfl h⟩

theorem RoseX.trans {x y z : LockD} (h1 : RoseX x y) (h2 : RoseX y z) : RoseX x z := by
  refine ⟨h2.1.trans h1.1, by have := h1.2.1; have := h2.2.1; omega, fun a b => ?_⟩
  by_cases e : z.holder = y.holder
  · have := h1.2.2 (by rw [← e]; exact a) (by rw [← e]; exact b)
    have := h2.2.1
    omega
  · have := h2.2.2 a e
    have := h1.2.1
    omega

theorem RoseL.refl (ls : List LockD) : RoseL ls ls := fun x hx => ⟨x, hx, RoseX.refl x⟩

theorem RoseL.trans {a b c : List LockD} (h1 : RoseL a b) (h2 : RoseL b c) : RoseL a c := fun x hx => by
  obtain ⟨y, hy, e1⟩ := h1 x hx
  obtain ⟨z, hz, e2⟩ := h2 y hy
  exact ⟨z, hz, e1.trans e2⟩

/-- Names are told apart. -/
theorem chain_pair : ∀ {p : ByteArray} {ns : List ByteArray}, chainN p ns → (p :: ns).Pairwise fun a b => ltP a b = true
  | _, [], _ => by simp
  | p, x :: t, h => by
    have h1 := chain_pair h.2
    have h2 : ltP p x = true := leP_false h.1
    refine List.pairwise_cons.2 ⟨fun y hy => ?_, h1⟩
    rcases List.mem_cons.1 hy with rfl | hy
    · exact h2
    · exact ltP_trans h2 ((List.pairwise_cons.1 h1).1 y hy)

theorem GoodL.same {ls : List LockD} (h : GoodL ls) {x y : LockD} (hx : x ∈ ls) (hy : y ∈ ls) (e : x.name = y.name) : x = y := by
  have hp := (List.pairwise_cons.1 (chain_pair h.chain)).2
  rw [List.pairwise_map] at hp
  obtain ⟨i, hi, e1⟩ := List.mem_iff_getElem.1 hx
  obtain ⟨j, hj, e2⟩ := List.mem_iff_getElem.1 hy
  have hp := List.pairwise_iff_getElem.1 hp
  rcases Nat.lt_trichotomy i j with hij | hij | hij
  · have := hp i j hi hj hij
    rw [e1, e2, e, ltP_irrefl] at this
    cases this
  · subst hij
    rw [← e1, ← e2]
  · have := hp j i hj hi hij
    rw [e1, e2, e, ltP_irrefl] at this
    cases this

end Go.Proofs.YtijilhbdbeajjaaGreatDoor

namespace Go.Proofs.YtijilhbdbeajjaaGreatDoor

open Go.RowKit

/-- What picked answers. -/
def pickZ (n m : Int) : Int := if n < 0 then (-(n + 1)) % m else n % m

theorem pickZ_bd (n m : Int) (h : 0 < m) : 0 ≤ pickZ n m ∧ pickZ n m < m := by
  unfold pickZ
  split
  · exact ⟨Int.emod_nonneg _ (by omega), Int.emod_lt_of_pos _ h⟩
  · exact ⟨Int.emod_nonneg _ (by omega), Int.emod_lt_of_pos _ h⟩

theorem pick_neg (n m : Int) (h : n < 0) : -((n + 1).tmod m) = pickZ n m := by
  have e : n + 1 = -(-(n + 1)) := by omega
  unfold pickZ
  rw [if_pos h]
  conv => lhs; rw [e, Int.neg_tmod, Int.tmod_eq_emod_of_nonneg (by omega)]
  omega

theorem pick_pos (n m : Int) (h : ¬ n < 0) : n % m = pickZ n m := by unfold pickZ; rw [if_neg h]

theorem picked_any (n m : Int) (w : World) (h1 : -9223372036854775808 ≤ n) (h2 : n ≤ 9223372036854775807) (h3 : 0 < m) (h4 : m ≤ 9223372036854775807) :
    Calls Tryz.prog 16 #[.int .i64 n, .int .i64 m] w fun e w' => e = .returned (.int .i64 (pickZ n m)) ∧ w' = w := by
  by_cases h : n < 0
  · have H : Hid (-((n + 1).tmod m) = pickZ n m) := pick_neg n m h
    go_enter Tryz.func16, Tryz.ntmps16
    go_wp2
    go_ret
    exact ⟨by rw [← H.out]; rfl, rfl⟩
  · have H : Hid (n % m = pickZ n m) := pick_pos n m h
    go_enter Tryz.func16, Tryz.ntmps16
    go_wp2
    go_ret
    exact ⟨by rw [← H.out]; rfl, rfl⟩

end Go.Proofs.YtijilhbdbeajjaaGreatDoor

namespace Go.Proofs.YtijilhbdbeajjaaGreatDoor

open Go.RowKit

/-- What name answers. -/
def nameK (n : Int) : ByteArray := if pickZ n 3 = 0 then ⟨#[97]⟩ else if pickZ n 3 = 1 then ⟨#[98]⟩ else ⟨#[107, 101, 121]⟩

theorem nameK_of (n : Int) : nameK n = ⟨#[97]⟩ ∨ nameK n = ⟨#[98]⟩ ∨ nameK n = ⟨#[107, 101, 121]⟩ := by
  unfold nameK
  split
  · exact Or.inl rfl
  · split
    · exact Or.inr (Or.inl rfl)
    · exact Or.inr (Or.inr rfl)

theorem keepName_exact (n : Int) (w : World) (h1 : -9223372036854775808 ≤ n) (h2 : n ≤ 9223372036854775807) :
    Calls Tryz.prog 65 #[.int .i64 n] w fun e w' => e = .returned (.string (nameK n)) ∧ w' = w.alloc (.cells #[.string ⟨#[97]⟩, .string ⟨#[98]⟩, .string ⟨#[107, 101, 121]⟩] 9) := by
  have hp := pickZ_bd n 3 (by omega)
  have CP := fun w => picked_any n 3 w h1 h2 (by omega) (by omega)
  unfold nameK
  obtain ⟨p, hpe⟩ : ∃ p, p = pickZ n 3 := ⟨_, rfl⟩
  rw [← hpe] at CP hp ⊢
  clear hpe
  rcases (by omega : p = 0 ∨ p = 1 ∨ p = 2) with rfl | rfl | rfl
  all_goals
    go_enter Tryz.func65, Tryz.ntmps65
    go_wp2_with fail
    refine (CP _).mono ?_
    rintro e w1 ⟨rfl, rfl⟩
    go_wp2
    go_ret
    exact ⟨by simp, rfl⟩

end Go.Proofs.YtijilhbdbeajjaaGreatDoor

namespace Go.Proofs.YtijilhbdbeajjaaGreatDoor

open Go.RowKit

section

variable {P : Program} {ops : Array Oper} {Q : Exit → Act → World → Prop} {md : Region.Mode}

/-- What has come up, operation i with it. -/
def upon (d : Nat → Bool) (i : Nat) : Nat → Bool := fun j => if j = i then true else d j

/-- Has an operation come up? -/
def came (l : Array Bool) (i : Nat) : Bool := l.getD i true

theorem came_set (l : Array Bool) (i : Nat) : came (l.setIfInBounds i true) = upon (came l) i := by
  funext j
  unfold came upon
  by_cases h : j = i
  · subst h
    rw [if_pos rfl]
    by_cases hj : j < l.size
    · simp [Array.getD, hj]
    · simp [Array.getD, hj]
  · rw [if_neg h]
    simp only [Array.getD_eq_getD_getElem?]
    rw [Array.getElem?_setIfInBounds_ne (by omega)]

theorem mem_ready {l : Array Bool} {i : Nat} (h : i ∈ Region.ready md ops l) : ∃ o, ops[i]? = some o ∧ came l i = false ∧ ∀ e ∈ o.after, Region.binds md e = true → l.getD e.on false = true := by
  unfold Region.ready at h
  obtain ⟨h1, h2⟩ := List.mem_filter.1 h
  rw [Bool.and_eq_true] at h2
  obtain ⟨h3, h4⟩ := h2
  cases ho : ops[i]? with
  | none => rw [ho] at h4; simp at h4
  | some o =>
    rw [ho] at h4
    simp only [Option.map_some, Option.getD_some] at h4
    refine ⟨o, rfl, by simpa [came] using h3, fun e he hb => ?_⟩
    have := Array.all_eq_true_iff_forall_mem.1 h4 e he
    rw [hb] at this
    simpa using this

theorem ready_nil {l : Array Bool} (h : Region.ready md ops l = []) {i : Nat} {o : Oper} (ho : ops[i]? = some o) (hc : came l i = false) : ∃ e ∈ o.after, Region.binds md e = true ∧ l.getD e.on false = false := by
  apply Classical.byContradiction
  intro hn
  have hi : i < ops.size := (Array.getElem?_eq_some_iff.1 ho).1
  have : i ∈ Region.ready md ops l := by
    unfold Region.ready
    refine List.mem_filter.2 ⟨List.mem_range.2 hi, ?_⟩
    rw [Bool.and_eq_true, ho]
    refine ⟨by simpa [came] using hc, ?_⟩
    simp only [Option.map_some, Option.getD_some]
    refine Array.all_eq_true_iff_forall_mem.2 fun e he => ?_
    cases hb : Region.binds md e with
    | false => rfl
    | true =>
      cases hg : l.getD e.on false with
      | true => rfl
      | false => exact absurd ⟨e, he, hb, hg⟩ hn
  rw [h] at this
  cases this

/-- How many have not come up. -/
def tocome (l : Array Bool) : Nat := l.toList.countP (· == false)

theorem tocome_set {l : Array Bool} {i : Nat} (hi : i < l.size) (h : came l i = false) : tocome (l.setIfInBounds i true) + 1 = tocome l := by
  unfold tocome
  have hl : i < l.toList.length := by simpa using hi
  have hv : l.toList[i] = false := by simpa [came, Array.getD, hi] using h
  have e : (l.setIfInBounds i true).toList = l.toList.set i true := by simp
  rw [e]
  have := List.countP_set (p := (· == false)) (l := l.toList) (i := i) (a := true) hl
  rw [hv] at this
  simp only [beq_self_eq_true, if_true] at this
  have hpos : 0 < l.toList.countP (· == false) := List.countP_pos_iff.2 ⟨false, by rw [← hv]; exact List.getElem_mem hl, rfl⟩
  have e2 : (true == false) = false := rfl
  rw [e2] at this
  simp only [Bool.false_eq_true, if_false] at this
  omega

theorem getD_came {l : Array Bool} {i : Nat} (hi : i < l.size) : l.getD i false = came l i := by
  simp [came, Array.getD, hi]

theorem wpAny_inv (I : (Nat → Bool) → Act → World → Prop) (hon : ∀ (i : Nat) (o : Oper), ops[i]? = some o → ∀ e ∈ o.after, e.on < ops.size)
    (hdone : ∀ d a w, I d a w → (∀ (i : Nat) (o : Oper), ops[i]? = some o → d i = false → ∃ e ∈ o.after, Region.binds md e = true ∧ d e.on = false) → Q .normal a w)
    (hstep : ∀ (d : Nat → Bool) (a : Act) (w : World) (i : Nat) (o : Oper), I d a w → ops[i]? = some o → d i = false → (∀ e ∈ o.after, Region.binds md e = true → d e.on = true) → wpOp P ops Q i (fun a' w' => I (upon d i) a' w') a w) :
    ∀ (fuel : Nat) (l : Array Bool) (a : Act) (w : World), l.size = ops.size → tocome l ≤ fuel → I (came l) a w → wpAny P md ops Q fuel l a w := by
  have dn : ∀ (l : Array Bool) (a : Act) (w : World), l.size = ops.size → I (came l) a w → Region.ready md ops l = [] → Q .normal a w := by
    intro l a w hs hI hr
    refine hdone _ a w hI fun i o ho hc => ?_
    obtain ⟨e, he, hb, hg⟩ := ready_nil hr ho hc
    exact ⟨e, he, hb, by rw [← getD_came (by rw [hs]; exact hon i o ho e he)]; exact hg⟩
  intro fuel
  induction fuel with
  | zero =>
    intro l a w hs ht hI
    have hr : Region.ready md ops l = [] := by
      cases hx : Region.ready md ops l with
      | nil => rfl
      | cons i t =>
        have hi : i ∈ Region.ready md ops l := by rw [hx]; simp
        obtain ⟨o, ho, hc, -⟩ := mem_ready hi
        have := tocome_set (by rw [hs]; exact (Array.getElem?_eq_some_iff.1 ho).1) hc
        omega
    exact ⟨hr, dn l a w hs hI hr⟩
  | succ fuel ih =>
    intro l a w hs ht hI
    refine ⟨dn l a w hs hI, fun i hi => ?_⟩
    obtain ⟨o, ho, hc, hd⟩ := mem_ready hi
    have hil : i < l.size := by rw [hs]; exact (Array.getElem?_eq_some_iff.1 ho).1
    refine wpOp_mono (K := fun a' w' => I (upon (came l) i) a' w') (fun a' w' hI' => ?_) (hstep _ a w i o hI ho hc fun e he hb => by rw [← getD_came (by rw [hs]; exact hon i o ho e he)]; exact hd e he hb)
    refine ih _ a' w' (by simpa using hs) ?_ (by rw [came_set]; exact hI')
    have := tocome_set hil hc
    omega

theorem wpOp_plain {i : Nat} {o : Oper} {K : Act → World → Prop} {a : Act} {w : World} (ho : ops[i]? = some o) (hg : o.guard = none)
    (h : ∀ K' : Act → World → Prop, (∀ a w, K a w → K' a w) → Oper.wp P o a w K' Q) : wpOp P ops Q i K a w :=
  wpOp_step ho fun K' hK => by
    have hw : Region.wanted o (yielded ops a.tmps) = true := by simp [Region.wanted, hg]
    rw [if_pos hw]
    exact h K' hK

/-- Where each waits for earlier ones alone, and none may come up: all have come up. -/
theorem all_came {d : Nat → Bool} (hlt : ∀ (i : Nat) (o : Oper), ops[i]? = some o → ∀ e ∈ o.after, e.on < i)
    (hnr : ∀ (i : Nat) (o : Oper), ops[i]? = some o → d i = false → ∃ e ∈ o.after, Region.binds md e = true ∧ d e.on = false) : ∀ i, i < ops.size → d i = true := by
  intro i
  induction i using Nat.strongRecOn with
  | ind i ih =>
    intro hi
    cases hd : d i with
    | true => rfl
    | false =>
      obtain ⟨e, he, -, hf⟩ := hnr i ops[i] (Array.getElem?_eq_getElem hi) hd
      have h1 := hlt i _ (Array.getElem?_eq_getElem hi) e he
      rw [ih e.on h1 (by omega)] at hf
      cases hf

/-- A REGION THAT DRAWS ITS ORDER, BY AN INVARIANT. -/
theorem wp_region_inv {id : Nat} {a : Act} {w : World} (hm : P.follows .mixedOrders = true) (I : (Nat → Bool) → Act → World → Prop)
    (honB : ((List.range ops.size).all fun i => ((ops[i]?).map fun o => o.after.all fun e => decide (e.on < i)).getD true) = true)
    (hstart : I (fun i => decide (ops.size ≤ i)) a w.drew)
    (hdone : ∀ (d : Nat → Bool) (a : Act) (w : World), I d a w → (∀ i, i < ops.size → d i = true) → Q .normal a w)
    (hstep : ∀ (d : Nat → Bool) (a : Act) (w : World) (i : Nat) (o : Oper), I d a w → ops[i]? = some o → d i = false → (∀ e ∈ o.after, Region.binds .any e = true → d e.on = true) → wpOp P ops Q i (fun a' w' => I (upon d i) a' w') a w) :
    (Code.region id ops true).wp P Q a w := by
  have hlt : ∀ (i : Nat) (o : Oper), ops[i]? = some o → ∀ e ∈ o.after, e.on < i := fun i o ho e he => by
    have hi : i < ops.size := (Array.getElem?_eq_some_iff.1 ho).1
    have h1 := List.all_eq_true.1 honB i (List.mem_range.2 hi)
    rw [ho] at h1
    exact of_decide_eq_true (Array.all_eq_true_iff_forall_mem.1 h1 e he)
  have hon : ∀ (i : Nat) (o : Oper), ops[i]? = some o → ∀ e ∈ o.after, e.on < ops.size := fun i o ho e he => Nat.lt_trans (hlt i o ho e he) (Array.getElem?_eq_some_iff.1 ho).1
  refine wp_region_any hm (wpAny_inv I hon (fun d a w hI hnr => hdone d a w hI (all_came hlt hnr)) hstep ops.size _ a _ (by simp) ?_ ?_)
  · unfold tocome
    have := List.countP_le_length (p := (· == false)) (l := (Array.replicate ops.size false).toList)
    simpa using this
  · have e : came (Array.replicate ops.size false) = fun i => decide (ops.size ≤ i) := by
      funext i
      unfold came
      by_cases h : i < ops.size
      · simp [Array.getD, h]
      · simp [Array.getD, h]
        omega
    rw [e]
    exact hstart

end

end Go.Proofs.YtijilhbdbeajjaaGreatDoor

namespace Go.Proofs.YtijilhbdbeajjaaGreatDoor

open Go.RowKit

/-- The kind of an operation, by a number below 9. -/
def opK (p : Int) : Int := if p = 0 then 1 else if p < 3 then 2 else if p < 5 then 3 else if p = 5 then 4 else if p < 8 then 5 else 6

theorem ohid {p : Prop} (h : p) : Hid p := h

/-- The world ahead of Op's first region: the raw thing boxed, the result's block. -/
def opW (w : World) (x0 x1 x2 x3 : Int) : World := (w.alloc (.cells #[.int .i64 x0, .int .i64 x1, .int .i64 x2, .int .i64 x3] 100)).alloc (.cells #[.int .i64 0, .string ⟨#[]⟩, .string ⟨#[]⟩, .int .i64 0] 38)

/-- The table of kinds. -/
def kindsT : Array Value := #[.int .i64 1, .int .i64 2, .int .i64 2, .int .i64 3, .int .i64 3, .int .i64 4, .int .i64 5, .int .i64 5, .int .i64 6]

/-- What holds in Op's first region, whatever has come up. -/
structure OpI (w : World) (x0 x1 x2 x3 p0 : Int) (nm : ByteArray) (d : Nat → Bool) (s3 s4 s5 s6 s7 s8 s9 s10 s11 s12 s13 : Value) (bB bA : Nat) (wx : World) : Prop where
  hb : Below (w.heap.size + 2) (opW w x0 x1 x2 x3) wx
  h0 : d 0 = true → s4 = .slice (some ⟨bB, 0, none⟩) 9 9 ∧ w.heap.size + 2 ≤ bB ∧ wx.heap[bB]? = some (.cells kindsT 3 (0, 0))
  h1 : d 1 = true → s5 = .pointer (some ⟨w.heap.size, 0, none⟩)
  h2 : d 2 = true → s6 = .int .i64 x0
  h3 : d 3 = true → s7 = .int .i64 p0
  h4 : d 4 = true → s8 = .pointer (some ⟨bB, p0.toNat, none⟩)
  h5 : d 5 = true → s9 = .int .i64 (opK p0)
  h6 : d 6 = true → s10 = .pointer (some ⟨w.heap.size, 1, none⟩)
  h7 : d 7 = true → s11 = .int .i64 x1
  h8 : d 8 = true → s12 = .string nm
  h9 : d 9 = true → s13 = .agg #[.int .i64 (opK p0), .string nm, .string ⟨#[]⟩, .int .i64 0]
  h10 : d 10 = true → s3 = .pointer (some ⟨bA, 0, none⟩) ∧ w.heap.size + 2 ≤ bA ∧ wx.heap[bA]? = some (.cells (if d 11 = true then #[.int .i64 (opK p0), .string nm, .string ⟨#[]⟩, .int .i64 0] else #[.int .i64 0, .string ⟨#[]⟩, .string ⟨#[]⟩, .int .i64 0]) 38 (0, 0))
  h411 : d 4 = true → d 0 = true
  h11 : d 11 = true → d 10 = true

theorem opW_box (w : World) (x0 x1 x2 x3 : Int) {wx : World} (hb : Below (w.heap.size + 2) (opW w x0 x1 x2 x3) wx) : wx.heap[w.heap.size]? = some (.cells #[.int .i64 x0, .int .i64 x1, .int .i64 x2, .int .i64 x3] 100 (0, 0)) := by
  rw [hb.block _ (by omega)]
  unfold opW
  rw [Below.heap_alloc _ _ _ (by simp)]
  exact heap_alloc_new w _

theorem kindsT_at {p : Int} (h0 : 0 ≤ p) (h9 : p < 9) : kindsT[p.toNat]? = some (.int .i64 (opK p)) := by
  rcases (by omega : p = 0 ∨ p = 1 ∨ p = 2 ∨ p = 3 ∨ p = 4 ∨ p = 5 ∨ p = 6 ∨ p = 7 ∨ p = 8) with rfl | rfl | rfl | rfl | rfl | rfl | rfl | rfl | rfl <;> rfl

/-- The cells of an operation, put into its block. -/
theorem op_cells {W : World} {ob : Nat} (h : W.heap[ob]? = some (.cells #[.int .i64 0, .string ⟨#[]⟩, .string ⟨#[]⟩, .int .i64 0] 38 (0, 0))) (a b c d : Value) :
    ((((W.setCell ⟨ob, 0, none⟩ a).setCell ⟨ob, 1, none⟩ b).setCell ⟨ob, 2, none⟩ c).setCell ⟨ob, 3, none⟩ d).heap[ob]? = some (.cells #[a, b, c, d] 38 (0, 0)) := by
  have g1 := heap_setCell_same W ob 0 _ 38 a h
  have g2 := heap_setCell_same _ ob 1 _ 38 b g1
  have g3 := heap_setCell_same _ ob 2 _ 38 c g2
  have g4 := heap_setCell_same _ ob 3 _ 38 d g3
  simpa using g4

theorem block_set4 {W : World} {b g : Nat} {u : Obj} (h : W.heap[b]? = some u) (hne : b ≠ g) (x y z v : Value) : ((((W.setCell ⟨g, 0, none⟩ x).setCell ⟨g, 1, none⟩ y).setCell ⟨g, 2, none⟩ z).setCell ⟨g, 3, none⟩ v).heap[b]? = some u := by
  rw [heap_setCell_other _ _ _ _ (by simpa using hne), heap_setCell_other _ _ _ _ (by simpa using hne), heap_setCell_other _ _ _ _ (by simpa using hne), heap_setCell_other _ _ _ _ (by simpa using hne)]
  exact h

theorem below_set4 {B : Nat} {w0 W : World} (h : Below B w0 W) {g : Nat} (hg : B ≤ g) (x y z v : Value) : Below B w0 ((((W.setCell ⟨g, 0, none⟩ x).setCell ⟨g, 1, none⟩ y).setCell ⟨g, 2, none⟩ z).setCell ⟨g, 3, none⟩ v) :=
  (((h.setCell (by simpa using hg) x).setCell (by simpa using hg) y).setCell (by simpa using hg) z).setCell (by simpa using hg) v

theorem block_alloc {W : World} {b : Nat} {o u : Obj} (h : W.heap[b]? = some u) : (W.alloc o).heap[b]? = some u := by
  rw [Below.heap_alloc _ _ _ (Array.getElem?_eq_some_iff.1 h).1]
  exact h

end Go.Proofs.YtijilhbdbeajjaaGreatDoor

namespace Go.Proofs.YtijilhbdbeajjaaGreatDoor

open Go.RowKit

/-- The digits of a number below 100. -/
def smallT (i : Int) : ByteArray := if i < 10 then ⟨#[UInt8.ofNat (48 + i.toNat)]⟩ else ⟨#[UInt8.ofNat (48 + i.toNat / 10), UInt8.ofNat (48 + i.toNat % 10)]⟩

theorem smallT_size (i : Int) : (smallT i).size ≤ 2 := by
  unfold smallT
  split
  · show 1 ≤ 2; omega
  · show 2 ≤ 2; omega

set_option maxHeartbeats 2000000 in
set_option maxRecDepth 100000 in
theorem small_text (i : Int) (h0 : 0 ≤ i) (h1 : i < 100) (w : World) :
    Calls Tryz.prog 188 #[.int .i64 i] w fun e w' => e = .returned (.string (smallT i)) ∧ w' = w := by
  go_enter Tryz.func188, Tryz.ntmps188
  go_name_bytes_deep 45 SM hSM
  have eSM : SM.size = 200 := by rw [← hSM]; decide +kernel
  have tSM : ∀ k : Nat, k < 100 → ¬ k < 10 → SM.extract (k * 2) (k * 2 + 2) = ⟨#[UInt8.ofNat (48 + k / 10), UInt8.ofNat (48 + k % 10)]⟩ := by rw [← hSM]; decide +kernel
  clear hSM
  go_name_bytes_deep 30 DG hDG
  have eDG : DG.size = 36 := by rw [← hDG]; decide +kernel
  have tDG : ∀ k : Nat, k < 10 → DG.extract k (k + 1) = ⟨#[UInt8.ofNat (48 + k)]⟩ := by rw [← hDG]; decide +kernel
  clear hDG
  have hT : smallT i = if i < 10 then DG.extract i.toNat (i + 1).toNat else SM.extract (i * 2).toNat (i * 2 + 2).toNat := by
    unfold smallT
    by_cases h : i < 10
    · rw [if_pos h, if_pos h, show (i + 1).toNat = i.toNat + 1 by omega, tDG _ (by omega)]
    · rw [if_neg h, if_neg h, show (i * 2).toNat = i.toNat * 2 by omega, show (i * 2 + 2).toNat = i.toNat * 2 + 2 by omega, tSM _ (by omega) (by omega)]
  clear tSM tDG
  rw [hT]
  clear hT
  by_cases h : i < 10
  · rw [if_pos h]
    have hsl : ∀ w, (Instr.slice 9 (.string DG) (some (.int .i64 i)) (some (.int .i64 (i + 1))) none).run Tryz.prog w = .ok (.string (DG.extract i.toNat (i + 1).toNat)) w := fun w => by
      rw [run_slice_string w 9 DG .i64 .i64 _ _ Tryz.underlying9 (by omega) (by omega) (by rw [eDG]; omega)]
    go_wp2
    go_ret
    exact ⟨rfl, rfl⟩
  · rw [if_neg h]
    have hsl : ∀ w, (Instr.slice 9 (.string SM) (some (.int .i64 (i * 2))) (some (.int .i64 (i * 2 + 2))) none).run Tryz.prog w = .ok (.string (SM.extract (i * 2).toNat (i * 2 + 2).toNat)) w := fun w => by
      rw [run_slice_string w 9 SM .i64 .i64 _ _ Tryz.underlying9 (by omega) (by omega) (by rw [eSM]; omega)]
    go_wp2
    go_ret
    exact ⟨rfl, rfl⟩

theorem formatInt_text (i : Int) (h0 : 0 ≤ i) (h1 : i < 100) (w : World) :
    Calls Tryz.prog 144 #[.int .i64 i, .int .i64 10] w fun e w' => e = .returned (.string (smallT i)) ∧ w' = w := by
  have C := small_text i h0 h1
  generalize smallT i = s at C ⊢
  go_enter Tryz.func144, Tryz.ntmps144
  go_wp2_with fail
  refine (C _).mono ?_
  rintro e w1 ⟨rfl, rfl⟩
  go_wp2
  go_ret
  exact ⟨rfl, rfl⟩

theorem inItoa_text (i : Int) (h0 : 0 ≤ i) (h1 : i < 100) (w : World) :
    Calls Tryz.prog 101 #[.int .i64 i] w fun e w' => e = .returned (.string (smallT i)) ∧ w' = w := by
  have C := formatInt_text i h0 h1
  generalize smallT i = s at C ⊢
  go_enter Tryz.func101, Tryz.ntmps101
  go_wp2_with fail
  refine (C _).mono ?_
  rintro e w1 ⟨rfl, rfl⟩
  go_wp2
  go_ret
  exact ⟨rfl, rfl⟩

theorem itoa_text (i : Int) (h0 : 0 ≤ i) (h1 : i < 100) (w : World) :
    Calls Tryz.prog 66 #[.int .i64 i] w fun e w' => e = .returned (.string (smallT i)) ∧ w' = w := by
  have C := inItoa_text i h0 h1
  generalize smallT i = s at C ⊢
  go_enter Tryz.func66, Tryz.ntmps66
  go_wp2_with fail
  refine (C _).mono ?_
  rintro e w1 ⟨rfl, rfl⟩
  go_wp2
  go_ret
  exact ⟨rfl, rfl⟩

end Go.Proofs.YtijilhbdbeajjaaGreatDoor

namespace Go.Proofs.YtijilhbdbeajjaaGreatDoor

open Go.RowKit

set_option maxRecDepth 100000 in
set_option maxHeartbeats 3200000 in
theorem keepOp_text (x0 x1 x2 x3 : Int) (w : World) (f0 : -9223372036854775808 ≤ x0 ∧ x0 ≤ 9223372036854775807) (f1 : -9223372036854775808 ≤ x1 ∧ x1 ≤ 9223372036854775807) (f2 : -9223372036854775808 ≤ x2 ∧ x2 ≤ 9223372036854775807) (f3 : -9223372036854775808 ≤ x3 ∧ x3 ≤ 9223372036854775807) :
    Calls Tryz.prog 37 #[.agg #[.int .i64 x0, .int .i64 x1, .int .i64 x2, .int .i64 x3]] w fun e w' => ∃ (s : ByteArray) (n : Int), e = .returned (.agg #[.int .i64 (opK (pickZ x0 9)), .string (nameK x1), .string s, .int .i64 n]) ∧
      (opK (pickZ x0 9) = 5 → s = ⟨#[118]⟩ ++ smallT (pickZ x2 90) ∧ n = 1 + pickZ x3 4) ∧ (opK (pickZ x0 9) ≠ 5 → s = ⟨#[]⟩ ∧ n = 0) ∧ Below w.heap.size w w' := by
  have hp0 := pickZ_bd x0 9 (by omega)
  have hp2 := pickZ_bd x2 90 (by omega)
  have hp3 := pickZ_bd x3 4 (by omega)
  have CP0 := fun w => picked_any x0 9 w f0.1 f0.2 (by omega) (by omega)
  have CP2 := fun w => picked_any x2 90 w f2.1 f2.2 (by omega) (by omega)
  have CP3 := fun w => picked_any x3 4 w f3.1 f3.2 (by omega) (by omega)
  have CN := fun w => keepName_exact x1 w f1.1 f1.2
  obtain ⟨p0, e0⟩ : ∃ p, p = pickZ x0 9 := ⟨_, rfl⟩
  obtain ⟨p2, e2⟩ : ∃ p, p = pickZ x2 90 := ⟨_, rfl⟩
  obtain ⟨p3, e3⟩ : ∃ p, p = pickZ x3 4 := ⟨_, rfl⟩
  obtain ⟨nm, e1⟩ : ∃ p, p = nameK x1 := ⟨_, rfl⟩
  rw [← e0] at CP0 hp0 ⊢
  rw [← e2] at CP2 hp2 ⊢
  have CT := fun w => itoa_text p2 (by omega) (by omega) w
  obtain ⟨tx, et⟩ : ∃ s, s = smallT p2 := ⟨_, rfl⟩
  have hsz : tx.size ≤ 2 := et ▸ smallT_size p2
  rw [← et] at CT ⊢
  clear et
  rw [← e3] at CP3 hp3 ⊢
  rw [← e1] at CN ⊢
  clear e0 e1 e2 e3 f0 f1 f2 f3
  go_enter Tryz.func37, Tryz.ntmps37
  go_upto_region 1 with fail
  go_cut [3] (fun p wx => ∃ ob, p = .pointer (some ⟨ob, 0, none⟩) ∧ wx.heap[ob]? = some (.cells #[.int .i64 (opK p0), .string nm, .string ⟨#[]⟩, .int .i64 0] 38 (0, 0)) ∧ w.heap.size + 2 ≤ ob ∧ Below (w.heap.size + 2) ((w.alloc (.cells #[.int .i64 x0, .int .i64 x1, .int .i64 x2, .int .i64 x3] 100)).alloc (.cells #[.int .i64 0, .string ⟨#[]⟩, .string ⟨#[]⟩, .int .i64 0] 38)) wx)
  case first =>
    obtain ⟨hp1, hp9⟩ := hp0
    refine wp_region_inv (by kernel_rfl) (fun d a wx => ∃ (s3 s4 s5 s6 s7 s8 s9 s10 s11 s12 s13 : Value) (bB bA : Nat), a = ⟨#[.agg #[.int .i64 x0, .int .i64 x1, .int .i64 x2, .int .i64 x3], .pointer (some ⟨w.heap.size, 0, none⟩), .pointer (some ⟨w.heap.size + 1, 0, none⟩), s3, s4, s5, s6, s7, s8, s9, s10, s11, s12, s13, undef, undef, undef, undef, undef, undef, undef, undef, undef, undef, undef, undef, undef, undef, undef], []⟩ ∧ OpI w x0 x1 x2 x3 p0 nm d s3 s4 s5 s6 s7 s8 s9 s10 s11 s12 s13 bB bA wx) (by kernel_rfl) ?_ ?_ ?_
    · refine ⟨_, _, _, _, _, _, _, _, _, _, _, 0, 0, rfl, ?_⟩
      refine ⟨?_, ?_, ?_, ?_, ?_, ?_, ?_, ?_, ?_, ?_, ?_, ?_, ?_, ?_⟩
      · exact ((Below.refl _ _).drew)
      all_goals
        intro h
        simp at h
    · rintro d a wx ⟨s3, s4, s5, s6, s7, s8, s9, s10, s11, s12, s13, bB, bA, rfl, H⟩ hall
      obtain ⟨rfl, hA1, hA2⟩ := H.h10 (hall 10 (by simp))
      have d11 : d 11 = true := hall 11 (by simp)
      rw [d11] at hA2
      simp only [if_true] at hA2
      go_wp2
      go_meet
      exact ⟨bA, rfl, hA2, hA1, H.hb⟩
    · rintro d a wx i o ⟨s3, s4, s5, s6, s7, s8, s9, s10, s11, s12, s13, bB, bA, rfl, H⟩ ho hd hdep
      obtain ⟨hb, h0, h1, h2, h3, h4, h5, h6, h7, h8, h9, h10, h411, h11⟩ := H
      match i, ho with
      | 0, ho =>
        have ho' := ho
        simp only [List.getElem?_toArray, List.getElem?_cons_zero, Option.some.injEq] at ho'
        refine wpOp_plain ho (by rw [← ho']) (fun K hK => ?_)
        subst ho'
        have hsz : w.heap.size + 2 ≤ wx.heap.size := by have := hb.size; simpa [opW] using this
        clear ho hdep
        go_simp
        exact hK _ _ ⟨_, _, _, _, _, _, _, _, _, _, _, wx.heap.size, bA, rfl, ⟨(hb.alloc hsz _), (fun _ => ⟨rfl, hsz, heap_alloc_new wx _⟩), (fun h => h1 (by simpa [upon] using h)), (fun h => h2 (by simpa [upon] using h)), (fun h => h3 (by simpa [upon] using h)), (fun h => by have q := h411 (by simpa [upon] using h); rw [hd] at q; cases q), (fun h => h5 (by simpa [upon] using h)), (fun h => h6 (by simpa [upon] using h)), (fun h => h7 (by simpa [upon] using h)), (fun h => h8 (by simpa [upon] using h)), (fun h => h9 (by simpa [upon] using h)), (fun h => by obtain ⟨q1, q2, q3⟩ := h10 (by simpa [upon] using h); refine ⟨q1, q2, ?_⟩; rw [show upon d _ 11 = d 11 by simp [upon]]; exact block_alloc q3), (fun _ => by simp [upon]), (fun h => by have := h11 (by simpa [upon] using h); simpa [upon] using this)⟩⟩
      | 1, ho =>
        have ho' := ho
        simp only [List.getElem?_toArray, List.getElem?_cons_zero, List.getElem?_cons_succ, Option.some.injEq] at ho'
        refine wpOp_plain ho (by rw [← ho']) (fun K hK => ?_)
        subst ho'
        clear ho hdep
        go_simp
        exact hK _ _ ⟨_, _, _, _, _, _, _, _, _, _, _, bB, bA, rfl, ⟨hb, (fun h => h0 (by simpa [upon] using h)), (fun _ => rfl), (fun h => h2 (by simpa [upon] using h)), (fun h => h3 (by simpa [upon] using h)), (fun h => h4 (by simpa [upon] using h)), (fun h => h5 (by simpa [upon] using h)), (fun h => h6 (by simpa [upon] using h)), (fun h => h7 (by simpa [upon] using h)), (fun h => h8 (by simpa [upon] using h)), (fun h => h9 (by simpa [upon] using h)), (fun h => by have := h10 (by simpa [upon] using h); simpa [upon] using this), (fun h => by have := h411 (by simpa [upon] using h); simpa [upon] using this), (fun h => by have := h11 (by simpa [upon] using h); simpa [upon] using this)⟩⟩
      | 2, ho =>
        have ho' := ho
        simp only [List.getElem?_toArray, List.getElem?_cons_zero, List.getElem?_cons_succ, Option.some.injEq] at ho'
        refine wpOp_plain ho (by rw [← ho']) (fun K hK => ?_)
        subst ho'
        have q1 : d 1 = true := hdep ⟨1, .data⟩ (by simp) rfl
        obtain rfl := h1 q1
        have c0 : wx.cell? ⟨w.heap.size, 0, none⟩ = some (.int .i64 x0) := cell_of_row wx w.heap.size 0 _ _ _ (opW_box w x0 x1 x2 x3 hb)
        clear ho hdep
        go_simp
        exact hK _ _ ⟨_, _, _, _, _, _, _, _, _, _, _, bB, bA, rfl, ⟨hb, (fun h => h0 (by simpa [upon] using h)), (fun h => h1 (by simpa [upon] using h)), (fun _ => rfl), (fun h => h3 (by simpa [upon] using h)), (fun h => h4 (by simpa [upon] using h)), (fun h => h5 (by simpa [upon] using h)), (fun h => h6 (by simpa [upon] using h)), (fun h => h7 (by simpa [upon] using h)), (fun h => h8 (by simpa [upon] using h)), (fun h => h9 (by simpa [upon] using h)), (fun h => by have := h10 (by simpa [upon] using h); simpa [upon] using this), (fun h => by have := h411 (by simpa [upon] using h); simpa [upon] using this), (fun h => by have := h11 (by simpa [upon] using h); simpa [upon] using this)⟩⟩
      | 3, ho =>
        have ho' := ho
        simp only [List.getElem?_toArray, List.getElem?_cons_zero, List.getElem?_cons_succ, Option.some.injEq] at ho'
        refine wpOp_plain ho (by rw [← ho']) (fun K hK => ?_)
        subst ho'
        have q2 : d 2 = true := hdep ⟨2, .data⟩ (by simp) rfl
        obtain rfl := h2 q2
        clear ho hdep
        go_simp
        refine (CP0 _).mono ?_
        rintro e w1 ⟨rfl, rfl⟩
        exact hK _ _ ⟨_, _, _, _, _, _, _, _, _, _, _, bB, bA, rfl, ⟨hb, (fun h => h0 (by simpa [upon] using h)), (fun h => h1 (by simpa [upon] using h)), (fun h => h2 (by simpa [upon] using h)), (fun _ => rfl), (fun h => h4 (by simpa [upon] using h)), (fun h => h5 (by simpa [upon] using h)), (fun h => h6 (by simpa [upon] using h)), (fun h => h7 (by simpa [upon] using h)), (fun h => h8 (by simpa [upon] using h)), (fun h => h9 (by simpa [upon] using h)), (fun h => by have := h10 (by simpa [upon] using h); simpa [upon] using this), (fun h => by have := h411 (by simpa [upon] using h); simpa [upon] using this), (fun h => by have := h11 (by simpa [upon] using h); simpa [upon] using this)⟩⟩
      | 4, ho =>
        have ho' := ho
        simp only [List.getElem?_toArray, List.getElem?_cons_zero, List.getElem?_cons_succ, Option.some.injEq] at ho'
        refine wpOp_plain ho (by rw [← ho']) (fun K hK => ?_)
        subst ho'
        have q0 : d 0 = true := hdep ⟨0, .data⟩ (by simp) rfl
        have q3 : d 3 = true := hdep ⟨3, .data⟩ (by simp) rfl
        obtain ⟨rfl, hB1, hB2⟩ := h0 q0
        obtain rfl := h3 q3
        clear ho hdep
        go_simp
        exact hK _ _ ⟨_, _, _, _, _, _, _, _, _, _, _, bB, bA, rfl, ⟨hb, (fun _ => ⟨rfl, hB1, hB2⟩), (fun h => h1 (by simpa [upon] using h)), (fun h => h2 (by simpa [upon] using h)), (fun h => h3 (by simpa [upon] using h)), (fun _ => rfl), (fun h => h5 (by simpa [upon] using h)), (fun h => h6 (by simpa [upon] using h)), (fun h => h7 (by simpa [upon] using h)), (fun h => h8 (by simpa [upon] using h)), (fun h => h9 (by simpa [upon] using h)), (fun h => by have := h10 (by simpa [upon] using h); simpa [upon] using this), (fun _ => by simpa [upon] using q0), (fun h => by have := h11 (by simpa [upon] using h); simpa [upon] using this)⟩⟩
      | 5, ho =>
        have ho' := ho
        simp only [List.getElem?_toArray, List.getElem?_cons_zero, List.getElem?_cons_succ, Option.some.injEq] at ho'
        refine wpOp_plain ho (by rw [← ho']) (fun K hK => ?_)
        subst ho'
        have q4 : d 4 = true := hdep ⟨4, .data⟩ (by simp) rfl
        obtain rfl := h4 q4
        obtain ⟨-, hB1, hB2⟩ := h0 (h411 q4)
        have c0 : wx.cell? ⟨bB, p0.toNat, none⟩ = some (.int .i64 (opK p0)) := (cell_of_row wx bB p0.toNat _ _ _ hB2).trans (kindsT_at hp1 hp9)
        clear ho hdep
        go_simp
        exact hK _ _ ⟨_, _, _, _, _, _, _, _, _, _, _, bB, bA, rfl, ⟨hb, (fun _ => ⟨rfl, hB1, hB2⟩), (fun h => h1 (by simpa [upon] using h)), (fun h => h2 (by simpa [upon] using h)), (fun h => h3 (by simpa [upon] using h)), (fun h => h4 (by simpa [upon] using h)), (fun _ => rfl), (fun h => h6 (by simpa [upon] using h)), (fun h => h7 (by simpa [upon] using h)), (fun h => h8 (by simpa [upon] using h)), (fun h => h9 (by simpa [upon] using h)), (fun h => by have := h10 (by simpa [upon] using h); simpa [upon] using this), (fun h => by have := h411 (by simpa [upon] using h); simpa [upon] using this), (fun h => by have := h11 (by simpa [upon] using h); simpa [upon] using this)⟩⟩
      | 6, ho =>
        have ho' := ho
        simp only [List.getElem?_toArray, List.getElem?_cons_zero, List.getElem?_cons_succ, Option.some.injEq] at ho'
        refine wpOp_plain ho (by rw [← ho']) (fun K hK => ?_)
        subst ho'
        clear ho hdep
        go_simp
        exact hK _ _ ⟨_, _, _, _, _, _, _, _, _, _, _, bB, bA, rfl, ⟨hb, (fun h => h0 (by simpa [upon] using h)), (fun h => h1 (by simpa [upon] using h)), (fun h => h2 (by simpa [upon] using h)), (fun h => h3 (by simpa [upon] using h)), (fun h => h4 (by simpa [upon] using h)), (fun h => h5 (by simpa [upon] using h)), (fun _ => rfl), (fun h => h7 (by simpa [upon] using h)), (fun h => h8 (by simpa [upon] using h)), (fun h => h9 (by simpa [upon] using h)), (fun h => by have := h10 (by simpa [upon] using h); simpa [upon] using this), (fun h => by have := h411 (by simpa [upon] using h); simpa [upon] using this), (fun h => by have := h11 (by simpa [upon] using h); simpa [upon] using this)⟩⟩
      | 7, ho =>
        have ho' := ho
        simp only [List.getElem?_toArray, List.getElem?_cons_zero, List.getElem?_cons_succ, Option.some.injEq] at ho'
        refine wpOp_plain ho (by rw [← ho']) (fun K hK => ?_)
        subst ho'
        have q6 : d 6 = true := hdep ⟨6, .data⟩ (by simp) rfl
        obtain rfl := h6 q6
        have c0 : wx.cell? ⟨w.heap.size, 1, none⟩ = some (.int .i64 x1) := cell_of_row wx w.heap.size 1 _ _ _ (opW_box w x0 x1 x2 x3 hb)
        clear ho hdep
        go_simp
        exact hK _ _ ⟨_, _, _, _, _, _, _, _, _, _, _, bB, bA, rfl, ⟨hb, (fun h => h0 (by simpa [upon] using h)), (fun h => h1 (by simpa [upon] using h)), (fun h => h2 (by simpa [upon] using h)), (fun h => h3 (by simpa [upon] using h)), (fun h => h4 (by simpa [upon] using h)), (fun h => h5 (by simpa [upon] using h)), (fun h => h6 (by simpa [upon] using h)), (fun _ => rfl), (fun h => h8 (by simpa [upon] using h)), (fun h => h9 (by simpa [upon] using h)), (fun h => by have := h10 (by simpa [upon] using h); simpa [upon] using this), (fun h => by have := h411 (by simpa [upon] using h); simpa [upon] using this), (fun h => by have := h11 (by simpa [upon] using h); simpa [upon] using this)⟩⟩
      | 8, ho =>
        have ho' := ho
        simp only [List.getElem?_toArray, List.getElem?_cons_zero, List.getElem?_cons_succ, Option.some.injEq] at ho'
        refine wpOp_plain ho (by rw [← ho']) (fun K hK => ?_)
        subst ho'
        have q7 : d 7 = true := hdep ⟨7, .data⟩ (by simp) rfl
        obtain rfl := h7 q7
        have hsz : w.heap.size + 2 ≤ wx.heap.size := by have := hb.size; simpa [opW] using this
        clear ho hdep
        go_simp
        refine (CN _).mono ?_
        rintro e w1 ⟨rfl, rfl⟩
        exact hK _ _ ⟨_, _, _, _, _, _, _, _, _, _, _, bB, bA, rfl, ⟨(hb.alloc hsz _), (fun h => by obtain ⟨q1, q2, q3⟩ := h0 (by simpa [upon] using h); exact ⟨q1, q2, block_alloc q3⟩), (fun h => h1 (by simpa [upon] using h)), (fun h => h2 (by simpa [upon] using h)), (fun h => h3 (by simpa [upon] using h)), (fun h => h4 (by simpa [upon] using h)), (fun h => h5 (by simpa [upon] using h)), (fun h => h6 (by simpa [upon] using h)), (fun h => h7 (by simpa [upon] using h)), (fun _ => rfl), (fun h => h9 (by simpa [upon] using h)), (fun h => by obtain ⟨q1, q2, q3⟩ := h10 (by simpa [upon] using h); refine ⟨q1, q2, ?_⟩; rw [show upon d _ 11 = d 11 by simp [upon]]; exact block_alloc q3), (fun h => by have := h411 (by simpa [upon] using h); simpa [upon] using this), (fun h => by have := h11 (by simpa [upon] using h); simpa [upon] using this)⟩⟩
      | 9, ho =>
        have ho' := ho
        simp only [List.getElem?_toArray, List.getElem?_cons_zero, List.getElem?_cons_succ, Option.some.injEq] at ho'
        refine wpOp_plain ho (by rw [← ho']) (fun K hK => ?_)
        subst ho'
        have q5 : d 5 = true := hdep ⟨5, .data⟩ (by simp) rfl
        have q8 : d 8 = true := hdep ⟨8, .data⟩ (by simp) rfl
        obtain rfl := h5 q5
        obtain rfl := h8 q8
        clear ho hdep
        go_simp
        exact hK _ _ ⟨_, _, _, _, _, _, _, _, _, _, _, bB, bA, rfl, ⟨hb, (fun h => h0 (by simpa [upon] using h)), (fun h => h1 (by simpa [upon] using h)), (fun h => h2 (by simpa [upon] using h)), (fun h => h3 (by simpa [upon] using h)), (fun h => h4 (by simpa [upon] using h)), (fun h => h5 (by simpa [upon] using h)), (fun h => h6 (by simpa [upon] using h)), (fun h => h7 (by simpa [upon] using h)), (fun h => h8 (by simpa [upon] using h)), (fun _ => rfl), (fun h => by have := h10 (by simpa [upon] using h); simpa [upon] using this), (fun h => by have := h411 (by simpa [upon] using h); simpa [upon] using this), (fun h => by have := h11 (by simpa [upon] using h); simpa [upon] using this)⟩⟩
      | 10, ho =>
        have ho' := ho
        simp only [List.getElem?_toArray, List.getElem?_cons_zero, List.getElem?_cons_succ, Option.some.injEq] at ho'
        refine wpOp_plain ho (by rw [← ho']) (fun K hK => ?_)
        subst ho'
        have hsz : w.heap.size + 2 ≤ wx.heap.size := by have := hb.size; simpa [opW] using this
        have n11 : d 11 = false := by cases hx : d 11 with | false => rfl | true => exact absurd (h11 hx) (by rw [hd]; simp)
        clear ho hdep
        go_simp
        exact hK _ _ ⟨_, _, _, _, _, _, _, _, _, _, _, bB, wx.heap.size, rfl, ⟨(hb.alloc hsz _), (fun h => by obtain ⟨q1, q2, q3⟩ := h0 (by simpa [upon] using h); exact ⟨q1, q2, block_alloc q3⟩), (fun h => h1 (by simpa [upon] using h)), (fun h => h2 (by simpa [upon] using h)), (fun h => h3 (by simpa [upon] using h)), (fun h => h4 (by simpa [upon] using h)), (fun h => h5 (by simpa [upon] using h)), (fun h => h6 (by simpa [upon] using h)), (fun h => h7 (by simpa [upon] using h)), (fun h => h8 (by simpa [upon] using h)), (fun h => h9 (by simpa [upon] using h)), (fun _ => ⟨rfl, hsz, by have q4 := heap_alloc_new wx (.cells #[.int .i64 0, .string ⟨#[]⟩, .string ⟨#[]⟩, .int .i64 0] 38); simpa [upon, n11] using q4⟩), (fun h => by have := h411 (by simpa [upon] using h); simpa [upon] using this), (fun _ => by simp [upon])⟩⟩
      | 11, ho =>
        have ho' := ho
        simp only [List.getElem?_toArray, List.getElem?_cons_zero, List.getElem?_cons_succ, Option.some.injEq] at ho'
        refine wpOp_plain ho (by rw [← ho']) (fun K hK => ?_)
        subst ho'
        have q10 : d 10 = true := hdep ⟨10, .data⟩ (by simp) rfl
        have q9 : d 9 = true := hdep ⟨9, .data⟩ (by simp) rfl
        obtain rfl := h9 q9
        obtain ⟨rfl, hA1, hA2⟩ := h10 q10
        rw [hd] at hA2
        simp only [Bool.false_eq_true, if_false] at hA2
        have t0 : wx.cell? ⟨bA, 0, none⟩ = some (.int .i64 0) := cell_of_row wx bA 0 _ _ _ hA2
        have t1 : wx.cell? ⟨bA, 1, none⟩ = some (.string ⟨#[]⟩) := cell_of_row wx bA 1 _ _ _ hA2
        have t2 : wx.cell? ⟨bA, 2, none⟩ = some (.string ⟨#[]⟩) := cell_of_row wx bA 2 _ _ _ hA2
        have t3 : wx.cell? ⟨bA, 3, none⟩ = some (.int .i64 0) := cell_of_row wx bA 3 _ _ _ hA2
        have tf : ∀ j, wx.frozen? ⟨bA, j, none⟩ = false := fun j => frozen_of_row wx bA j _ _ hA2
        clear ho hdep
        go_simp
        exact hK _ _ ⟨_, _, _, _, _, _, _, _, _, _, _, bB, bA, rfl, ⟨(below_set4 hb hA1 _ _ _ _), (fun h => by obtain ⟨z1, z2, z3⟩ := h0 (by simpa [upon] using h); exact ⟨z1, z2, block_set4 z3 (fun e => by subst e; rw [hA2] at z3; simp at z3) _ _ _ _⟩), (fun h => h1 (by simpa [upon] using h)), (fun h => h2 (by simpa [upon] using h)), (fun h => h3 (by simpa [upon] using h)), (fun h => h4 (by simpa [upon] using h)), (fun h => h5 (by simpa [upon] using h)), (fun h => h6 (by simpa [upon] using h)), (fun h => h7 (by simpa [upon] using h)), (fun h => h8 (by simpa [upon] using h)), (fun h => h9 (by simpa [upon] using h)), (fun _ => ⟨rfl, hA1, by have q4 := op_cells hA2 (.int .i64 (opK p0)) (.string nm) (.string ⟨#[]⟩) (.int .i64 0); simpa [upon] using q4⟩), (fun h => by have := h411 (by simpa [upon] using h); simpa [upon] using this), (fun _ => by simpa [upon] using q10)⟩⟩
      | (n + 12), ho => simp at ho
  case rest =>
    obtain ⟨ob, rfl, hX, hob, hb⟩ := hcut
    have b0 := opW_box w x0 x1 x2 x3 hb
    have b1 : wc.heap[w.heap.size + 1]? = some (.cells #[.int .i64 0, .string ⟨#[]⟩, .string ⟨#[]⟩, .int .i64 0] 38 (0, 0)) := by
      rw [hb.block _ (by omega)]
      simpa using heap_alloc_new (w.alloc (.cells #[.int .i64 x0, .int .i64 x1, .int .i64 x2, .int .i64 x3] 100)) (.cells #[.int .i64 0, .string ⟨#[]⟩, .string ⟨#[]⟩, .int .i64 0] 38)
    have y2 : wc.cell? ⟨w.heap.size, 2, none⟩ = some (.int .i64 x2) := cell_of_row wc w.heap.size 2 _ _ _ b0
    have y3 : wc.cell? ⟨w.heap.size, 3, none⟩ = some (.int .i64 x3) := cell_of_row wc w.heap.size 3 _ _ _ b0
    have z0 : wc.cell? ⟨w.heap.size + 1, 0, none⟩ = some (.int .i64 0) := cell_of_row wc (w.heap.size + 1) 0 _ _ _ b1
    have z1 : wc.cell? ⟨w.heap.size + 1, 1, none⟩ = some (.string ⟨#[]⟩) := cell_of_row wc (w.heap.size + 1) 1 _ _ _ b1
    have z2 : wc.cell? ⟨w.heap.size + 1, 2, none⟩ = some (.string ⟨#[]⟩) := cell_of_row wc (w.heap.size + 1) 2 _ _ _ b1
    have z3 : wc.cell? ⟨w.heap.size + 1, 3, none⟩ = some (.int .i64 0) := cell_of_row wc (w.heap.size + 1) 3 _ _ _ b1
    have zf : ∀ j, wc.frozen? ⟨w.heap.size + 1, j, none⟩ = false := fun j => frozen_of_row wc (w.heap.size + 1) j _ _ b1
    have t0 : wc.cell? ⟨ob, 0, none⟩ = some (.int .i64 (opK p0)) := cell_of_row wc ob 0 _ _ _ hX
    have t1 : wc.cell? ⟨ob, 1, none⟩ = some (.string nm) := cell_of_row wc ob 1 _ _ _ hX
    have t2 : wc.cell? ⟨ob, 2, none⟩ = some (.string ⟨#[]⟩) := cell_of_row wc ob 2 _ _ _ hX
    have t3 : wc.cell? ⟨ob, 3, none⟩ = some (.int .i64 0) := cell_of_row wc ob 3 _ _ _ hX
    have tf : ∀ j, wc.frozen? ⟨ob, j, none⟩ = false := fun j => frozen_of_row wc ob j _ _ hX
    have q1 : ob ≠ w.heap.size := by omega
    have q2 : w.heap.size ≠ ob := by omega
    have q3 : ob ≠ w.heap.size + 1 := by omega
    have q4 : w.heap.size + 1 ≠ ob := by omega
    have HB := ohid (((Below.refl w.heap.size w).alloc (Nat.le_refl _) (.cells #[.int .i64 x0, .int .i64 x1, .int .i64 x2, .int .i64 x3] 100)).alloc (by simp) (.cells #[.int .i64 0, .string ⟨#[]⟩, .string ⟨#[]⟩, .int .i64 0] 38) |>.trans (hb.mono (by omega)))
    have HOB := ohid hob
    have g1 : w.heap.size ≤ ob := by omega
    clear hX hob hb b0 b1 CP0 CN hp0
    obtain ⟨h0, h90⟩ := hp2
    obtain ⟨h30, h34⟩ := hp3
    by_cases h5 : opK p0 = 5
    · rw [h5] at t0
      have H5 := ohid h5
      clear h5
      have HC2 := ohid CP2
      have HC3 := ohid CP3
      have HCT := ohid CT
      clear CP2 CP3 CT
      have hw1 : IntKind.i64.wrap (1 + p3) = 1 + p3 := by rw [IntKind.wrap_i64]; omega
      go_wp2_with fail
      go_region_held3 (fun w' => w'.cell? ⟨w.heap.size, 2, none⟩ = some (.int .i64 x2) ∧ w'.cell? ⟨w.heap.size, 3, none⟩ = some (.int .i64 x3)) (go_keep) (first
        | (go_at_call_of 16 (Value.int IntKind.i64 90); refine (HC2.out _).mono ?_; rintro e w1 ⟨rfl, rfl⟩)
        | (go_at_call_of 16 (Value.int IntKind.i64 4); refine (HC3.out _).mono ?_; rintro e w1 ⟨rfl, rfl⟩)
        | (go_at_call 66; refine (HCT.out _).mono ?_; rintro e w1 ⟨rfl, rfl⟩; have hs2 : (⟨#[118]⟩ : ByteArray).size + tx.size ≤ 3 := (by show 1 + tx.size ≤ 3; omega); have hs4 : ∀ w : World, (Op.stringOp .add ⟨#[118]⟩ tx).run Tryz.prog w = .ok (.string (⟨#[118]⟩ ++ tx)) w := fun w => run_string_add_sum w ⟨#[118]⟩ tx (by omega)))
      all_goals
        go_wp2
        refine bodyPost_ret (v := .agg #[.int .i64 5, .string nm, .string (⟨#[118]⟩ ++ tx), .int .i64 (1 + p3)]) (by simp [results, Tryz.results37, go_sem, z0, z1, z2, z3]) rfl ⟨_, _, by rw [H5.out], fun _ => ⟨rfl, rfl⟩, fun h => absurd H5.out h, ?_⟩
        exact ((((((HB.out.setCell (by simpa using g1) _).setCell (by simpa using g1) _).setCell (by simp) _).setCell (by simp) _).setCell (by simp) _).setCell (by simp) _).drew
    · have h5b : (opK p0 == 5) = false := by simpa using h5
      go_wp2
      refine bodyPost_ret (v := .agg #[.int .i64 (opK p0), .string nm, .string ⟨#[]⟩, .int .i64 0]) (by simp [results, Tryz.results37, go_sem, z0, z1, z2, z3]) rfl ⟨_, _, rfl, fun h => absurd h h5, fun _ => ⟨rfl, rfl⟩, ?_⟩
      exact (((HB.out.setCell (by simp) _).setCell (by simp) _).setCell (by simp) _).setCell (by simp) _

end Go.Proofs.YtijilhbdbeajjaaGreatDoor
