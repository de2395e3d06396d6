/- The block of a row is of its elements' type. (Its sister KTagFree.lean, laid in its place, asks nothing: for the laws that open such rows as arguments.); Pairs as they lie in memory: what a value reads as; a row of pairs that a call owns; Sessions as plain data: what may be, and what the calls do. Plain mathematics; no program; Sessions as they lie in memory: what a value reads as; A state as it lies in memory: what a value reads as; A state's value, by its parts; Locks in memory of a call's own: a row of locks, each with a line of its own; One lock of a row put anew; A state in a block of its own: what it reads as, and what stores leave of it; Replicas as plain data, and in memory: what a value reads as; Lists of numbers that are only read: the document's has, slices.Index, slices.Contains, the law's sameInts; Plain mathematics of locks: when may they be; what is wrong first (joined by program) -/
import Derived.Test.YtijilhbdbeajjaaGreatDoorRows
import Derived.WalkKit
import Derived.ProofKit
import Derived.WalkLawsBesides
import Derived.Laws.Rows
import Derived.Below
import Derived.Deep.QuietTactic
import Derived.BigQuiet
import Derived.Test.YtijilhbdbeajjaaGreatDoorTT00
namespace Go.Proofs.YtijilhbdbeajjaaGreatDoor

open Go.RowKit

def TagB (t : TypeId) (w : World) (b : Nat) : Prop := ∃ cs fr, w.heap[b]? = some (.cells cs t fr)

theorem TagB.block {t : TypeId} {w w' : World} {b : Nat} (h : TagB t w b) (e : w'.heap[b]? = w.heap[b]?) : TagB t w' b := by
  obtain ⟨cs, fr, h⟩ := h
  exact ⟨cs, fr, e.trans h⟩

theorem TagB.of {t : TypeId} {w : World} {b : Nat} {cs : Array Value} {fr : Nat × Nat} (h : w.heap[b]? = some (.cells cs t fr)) : TagB t w b := ⟨cs, fr, h⟩

theorem TagB.not {t t' : TypeId} {w : World} {b : Nat} {cs : Array Value} {fr : Nat × Nat} (h : TagB t w b) (hb : w.heap[b]? = some (.cells cs t' fr)) : t' = t := by
  obtain ⟨cs', fr', h'⟩ := h
  rw [hb] at h'
  simp only [Option.some.injEq, Obj.cells.injEq] at h'
  exact h'.2.1

theorem TagB.row {t : TypeId} {w : World} {base m g n c n' : Nat} {xs : List Value} (h : w.ownsRow base t m (.slice (some ⟨g, 0, none⟩) n c) n' xs) : TagB t w g := by
  rcases h.2 with ⟨e, _⟩ | ⟨g', cap, cur, e, _, hg, _⟩
  · cases e
  · simp only [Value.slice.injEq, Option.some.injEq, Addr.mk.injEq, and_true] at e
    obtain ⟨rfl, -⟩ := e
    exact TagB.of hg

end Go.Proofs.YtijilhbdbeajjaaGreatDoor

namespace Go.Proofs.YtijilhbdbeajjaaGreatDoor

open Go.RowKit

theorem phid {p : Prop} (h : p) : Hid p := h

/-- A pair, as plain data. -/
structure PairD where
  name : ByteArray
  value : ByteArray
  version : Int

/-- The cells of a pair. -/
def pairCells (x : PairD) : List Value := [.string x.name, .string x.value, .int .i64 x.version]

def flatP (ps : List PairD) : List Value := ps.flatMap pairCells

/-- The pair x lies at ⟨b, o, none⟩. -/
def PairAt (w : World) (b o : Nat) (x : PairD) : Prop :=
  w.cell? ⟨b, o, none⟩ = some (.string x.name) ∧ w.cell? ⟨b, o + 1, none⟩ = some (.string x.value) ∧ w.cell? ⟨b, o + 2, none⟩ = some (.int .i64 x.version) ∧
    x.name.size ≤ 140737488351232 ∧ x.value.size ≤ 140737488351232 ∧ TagB 89 w b

/-- The value v reads in w as the pairs ps; all their memory lies below block B. -/
def PairsR (w : World) (B : Nat) (v : Value) (ps : List PairD) : Prop :=
  ∃ ao cap, v = .slice ao ps.length cap ∧ ps.length ≤ cap ∧ ps.length * 40 ≤ 140737488351232 ∧ (ao = none → cap = 0) ∧
    (0 < ps.length → ∃ b off, ao = some ⟨b, off, none⟩ ∧ b < B ∧ ∀ (i : Nat) (x : PairD), ps[i]? = some x → PairAt w b (off + i * 3) x)

theorem PairAt.below {w w' : World} {B b o : Nat} {x : PairD} (h : PairAt w b o x) (hlt : b < B) (hb : Below B w w') : PairAt w' b o x := by
  obtain ⟨c0, c1, c2, hs⟩ := h
  have key : ∀ o', w'.cell? ⟨b, o', none⟩ = w.cell? ⟨b, o', none⟩ := fun o' => hb.cell (p := ⟨b, o', none⟩) hlt
  exact ⟨(key _).trans c0, (key _).trans c1, (key _).trans c2, hs.1, hs.2.1, hs.2.2.block (hb.block b hlt)⟩

theorem PairsR.below {w w' : World} {B : Nat} {v : Value} {ps : List PairD} (h : PairsR w B v ps) {B' : Nat} (hb : Below B' w w') (hB : B ≤ B') : PairsR w' B v ps := by
  obtain ⟨ao, cap, rfl, h1, h2, h3, h4⟩ := h
  refine ⟨ao, cap, rfl, h1, h2, h3, fun hp => ?_⟩
  obtain ⟨b, off, rfl, hlt, hc⟩ := h4 hp
  exact ⟨b, off, rfl, hlt, fun i x hx => (hc i x hx).below (by omega) hb⟩

theorem PairsR.mono {w : World} {B B' : Nat} {v : Value} {ps : List PairD} (h : PairsR w B v ps) (hB : B ≤ B') : PairsR w B' v ps := by
  obtain ⟨ao, cap, rfl, h1, h2, h3, h4⟩ := h
  refine ⟨ao, cap, rfl, h1, h2, h3, fun hp => ?_⟩
  obtain ⟨b, off, rfl, hlt, hc⟩ := h4 hp
  exact ⟨b, off, rfl, by omega, hc⟩

theorem PairsR.len {w : World} {B : Nat} {v : Value} {ps : List PairD} (h : PairsR w B v ps) : ps.length * 40 ≤ 140737488351232 := by
  obtain ⟨_, _, _, _, h2, _⟩ := h
  exact h2

theorem PairsR.nil (w : World) (B : Nat) : PairsR w B (.slice none 0 0) [] := ⟨none, 0, rfl, Nat.le_refl _, by simp, fun _ => rfl, fun h => absurd h (by simp)⟩

/-- Texts that are not too long for any machine. -/
def Modest (ps : List PairD) : Prop := ∀ x ∈ ps, x.name.size ≤ 140737488351232 ∧ x.value.size ≤ 140737488351232

theorem PairsR.modest {w : World} {B : Nat} {v : Value} {ps : List PairD} (h : PairsR w B v ps) : Modest ps := by
  obtain ⟨ao, cap, rfl, h1, h2, h3, h4⟩ := h
  intro x hx
  obtain ⟨i, hi⟩ := List.mem_iff_getElem?.1 hx
  obtain ⟨b, off, rfl, hlt, hc⟩ := h4 (by have := (List.getElem?_eq_some_iff.1 hi).1; omega)
  exact ⟨(hc i x hi).2.2.2.1, (hc i x hi).2.2.2.2.1⟩

theorem pairs_drewN_below (B : Nat) (w : World) (n : Nat) : Below B w (w.drewN n) := ⟨rfl, rfl, rfl, Nat.le_refl _, fun _ _ => rfl⟩

theorem flatP_length (ps : List PairD) : (flatP ps).length = ps.length * 3 := by
  induction ps with
  | nil => rfl
  | cons r t ih => simp only [flatP, List.flatMap_cons, List.length_append] at ih ⊢; simp only [pairCells, List.length_cons, List.length_nil, ih]; omega

theorem flatP_append (a b : List PairD) : flatP (a ++ b) = flatP a ++ flatP b := by simp [flatP]

theorem flatP_snoc (a : List PairD) (x : PairD) : flatP (a ++ [x]) = flatP a ++ pairCells x := by simp [flatP]

theorem flatP_at {ps : List PairD} {i : Nat} {r : PairD} (h : ps[i]? = some r) (j : Nat) (hj : j < 3) : (flatP ps)[i * 3 + j]? = (pairCells r)[j]? := by
  induction ps generalizing i with
  | nil => simp at h
  | cons q t ih =>
    have e : flatP (q :: t) = pairCells q ++ flatP t := by simp [flatP]
    have hl : (pairCells q).length = 3 := rfl
    rw [e]
    cases i with
    | zero =>
      have : q = r := by simpa using h
      subst this
      rw [Nat.zero_mul, Nat.zero_add, List.getElem?_append_left (by omega)]
    | succ i =>
      rw [List.getElem?_append_right (by omega), hl, show (i + 1) * 3 + j - 3 = i * 3 + j by omega]
      exact ih (by simpa using h)

theorem pairCells_one (x : PairD) : ∀ v ∈ pairCells x, v.oneCell' = true := by
  intro v hv
  simp only [pairCells, List.mem_cons, List.not_mem_nil, or_false] at hv
  rcases hv with rfl | rfl | rfl <;> rfl

theorem flatP_one (ps : List PairD) : ∀ v ∈ flatP ps, v.oneCell' = true := by
  intro v hv
  obtain ⟨r, hr, hv⟩ := List.mem_flatMap.1 hv
  exact pairCells_one r v hv

/-- Pairs that are owned read as they are. -/
theorem pairs_reads {w : World} {base B : Nat} {v : Value} {ps : List PairD} (h : w.ownsRow base 89 3 v ps.length (flatP ps)) (hm : Modest ps) (hl : ps.length * 40 ≤ 140737488351232) (hB : w.heap.size ≤ B) : PairsR w B v ps := by
  rcases h.2 with ⟨rfl, hn⟩ | ⟨g, cap, cur, rfl, _, hg, hle, hcm, hcs, htake⟩
  · have : ps = [] := List.eq_nil_of_length_eq_zero hn
    subst this
    exact PairsR.nil _ _
  · refine ⟨some ⟨g, 0, none⟩, cap, rfl, hle, hl, (by intro h; cases h), fun _ => ⟨g, 0, rfl, ?_, fun i x hx => ?_⟩⟩
    · have := (h.lt g rfl).2; omega
    · have hi : i < ps.length := (List.getElem?_eq_some_iff.1 hx).1
      have key : ∀ j, j < 3 → w.cell? ⟨g, 0 + i * 3 + j, none⟩ = (pairCells x)[j]? := fun j hj => by
        rw [Nat.zero_add, h.cellAt (i * 3 + j) (by omega), flatP_at hx j hj]
      exact ⟨by simpa [pairCells] using key 0 (by omega), by simpa [pairCells] using key 1 (by omega), by simpa [pairCells] using key 2 (by omega), (hm x (List.mem_of_getElem? hx)).1, (hm x (List.mem_of_getElem? hx)).2, TagB.of hg⟩

theorem Tryz.infoPair : (Tryz.prog.info? 89).map (fun i => (i.zero, i.size, i.bytes)) = some (some (.agg #[.string ⟨#[]⟩, .string ⟨#[]⟩, .int .i64 0]), 3, 40) := by kernel_rfl

/-- The cells of a value's row, as a copy or an append wants them. -/
theorem PairsR.cells {w : World} {b off : Nat} {ps : List PairD} (hc : ∀ (i : Nat) (x : PairD), ps[i]? = some x → PairAt w b (off + i * 3) x) : ∀ (j : Nat) (u : Value), (flatP ps)[j]? = some u → w.cell? ⟨b, off + j, none⟩ = some u := by
  intro j u hj
  have hjl : j < ps.length * 3 := by rw [← flatP_length]; exact (List.getElem?_eq_some_iff.1 hj).1
  obtain ⟨x, hx⟩ : ∃ x, ps[j / 3]? = some x := ⟨_, List.getElem?_eq_getElem (by omega)⟩
  obtain ⟨c0, c1, c2, -⟩ := hc _ x hx
  have e := flatP_at hx (j % 3) (by omega)
  rw [show j / 3 * 3 + j % 3 = j by omega, hj] at e
  rcases (by omega : j % 3 = 0 ∨ j % 3 = 1 ∨ j % 3 = 2) with h | h | h
  · rw [h] at e
    rw [show off + j = off + j / 3 * 3 by omega, c0, e]; rfl
  · rw [h] at e
    rw [show off + j = off + j / 3 * 3 + 1 by omega, c1, e]; rfl
  · rw [h] at e
    rw [show off + j = off + j / 3 * 3 + 2 by omega, c2, e]; rfl

end Go.Proofs.YtijilhbdbeajjaaGreatDoor

namespace Go.Proofs.YtijilhbdbeajjaaGreatDoor

/-- A kept reply, as plain data. -/
structure KeptD where
  seq : Int
  code : Int
  n : Int
  text : ByteArray

/-- A session, as plain data. -/
structure SessD where
  client : Int
  id : Int
  acked : Int
  last : Int
  replies : List KeptD

/-- May a reply be kept? -/
def replyB (code n : Int) (size : Nat) : Bool := decide (0 ≤ code ∧ code ≤ 15 ∧ 0 ≤ n ∧ n ≤ 1073741824 ∧ size ≤ 12)

def keptB (k : KeptD) : Bool := replyB k.code k.n k.text.size

/-- May these replies be, behind a number? -/
def formFrom (acked : Int) : Int → List KeptD → Bool
  | _, [] => true
  | ahead, k :: r => decide (ahead + 1 ≤ k.seq) && (decide (k.seq ≤ acked + 4) && (keptB k && formFrom acked k.seq r))

def sformB (x : SessD) : Bool := formFrom x.acked x.acked x.replies

/-- May the numbers of a session be? -/
def rangeB (x : SessD) (index : Int) : Bool :=
  decide (1 ≤ x.client ∧ x.client ≤ 9 ∧ 0 ≤ x.acked ∧ x.acked ≤ 1048576 ∧ 1 ≤ x.id ∧ x.id ≤ index ∧ x.id ≤ x.last ∧ x.last ≤ index)

/-- What is wrong with sessions, behind a client. -/
def checkFromS (index : Int) : Int → List SessD → Int
  | _, [] => 0
  | ahead, x :: r => if rangeB x index = false then 2 else if sformB x = false then 4 else if x.client ≤ ahead then 14 else checkFromS index x.client r

/-- What is wrong with sessions; 0: nothing. -/
def checkS (ls : List SessD) (index : Int) : Int :=
  if index < 0 ∨ 1073741824 < index then 2 else if 4 < ls.length then 1 else checkFromS index 0 ls

theorem checkFromS_nil (i h : Int) : checkFromS i h [] = 0 := rfl

theorem checkFromS_range {i h : Int} {x : SessD} {r : List SessD} (h1 : rangeB x i = false) : checkFromS i h (x :: r) = 2 := by unfold checkFromS; rw [if_pos h1]

theorem checkFromS_form {i h : Int} {x : SessD} {r : List SessD} (h1 : rangeB x i = true) (h2 : sformB x = false) : checkFromS i h (x :: r) = 4 := by unfold checkFromS; rw [if_neg (by simp [h1]), if_pos h2]

theorem checkFromS_order {i h : Int} {x : SessD} {r : List SessD} (h1 : rangeB x i = true) (h2 : sformB x = true) (h3 : x.client ≤ h) : checkFromS i h (x :: r) = 14 := by unfold checkFromS; rw [if_neg (by simp [h1]), if_neg (by simp [h2]), if_pos h3]

theorem checkFromS_next {i h : Int} {x : SessD} {r : List SessD} (h1 : rangeB x i = true) (h2 : sformB x = true) (h3 : ¬ x.client ≤ h) : checkFromS i h (x :: r) = checkFromS i x.client r := by rw [checkFromS, if_neg (by simp [h1]), if_neg (by simp [h2]), if_neg h3]

theorem formFrom_nil (a h : Int) : formFrom a h [] = true := rfl

theorem formFrom_cons (a h : Int) (k : KeptD) (r : List KeptD) : formFrom a h (k :: r) = (decide (h + 1 ≤ k.seq) && (decide (k.seq ≤ a + 4) && (keptB k && formFrom a k.seq r))) := rfl

theorem replyB_iff {c n : Int} {z : Nat} : replyB c n z = true ↔ 0 ≤ c ∧ c ≤ 15 ∧ 0 ≤ n ∧ n ≤ 1073741824 ∧ z ≤ 12 := by simp [replyB]

theorem rangeB_iff {x : SessD} {i : Int} : rangeB x i = true ↔ 1 ≤ x.client ∧ x.client ≤ 9 ∧ 0 ≤ x.acked ∧ x.acked ≤ 1048576 ∧ 1 ≤ x.id ∧ x.id ≤ i ∧ x.id ≤ x.last ∧ x.last ≤ i := by simp [rangeB]

/-- What a session that may be keeps to. -/
structure Fine (index : Int) (x : SessD) : Prop where
  range : rangeB x index = true
  form : sformB x = true

theorem checkFromS_zero {index : Int} : ∀ {ahead : Int} {ls : List SessD}, checkFromS index ahead ls = 0 → (∀ x ∈ ls, Fine index x ∧ ahead < x.client) ∧ ls.Pairwise (fun a b => a.client < b.client)
  | _, [], _ => ⟨fun x hx => absurd hx (by simp), List.Pairwise.nil⟩
  | ahead, x :: r, h => by
    unfold checkFromS at h
    by_cases h1 : rangeB x index = false
    · simp [h1] at h
    · by_cases h2 : sformB x = false
      · simp [h1, h2] at h
      · by_cases h3 : x.client ≤ ahead
        · simp [h1, h2, h3] at h
        · simp only [h1, h2, h3, if_false] at h
          obtain ⟨ha, hp⟩ := checkFromS_zero h
          refine ⟨fun y hy => ?_, List.Pairwise.cons (fun y hy => (ha y hy).2) hp⟩
          rcases List.mem_cons.1 hy with rfl | hy
          · exact ⟨⟨by simpa using h1, by simpa using h2⟩, by omega⟩
          · exact ⟨(ha y hy).1, by have := (ha y hy).2; omega⟩

/-- Sessions that may be. -/
structure GoodS (ls : List SessD) (index : Int) : Prop where
  low : 0 ≤ index
  high : index ≤ 1073741824
  len : ls.length ≤ 4
  fine : ∀ x ∈ ls, Fine index x
  order : ls.Pairwise (fun a b => a.client < b.client)

theorem checkS_zero {ls : List SessD} {index : Int} (h : checkS ls index = 0) : GoodS ls index := by
  unfold checkS at h
  by_cases h1 : index < 0 ∨ 1073741824 < index
  · simp [h1] at h
  · by_cases h2 : 4 < ls.length
    · simp [h1, h2] at h
    · simp only [h1, h2, if_false] at h
      obtain ⟨ha, hp⟩ := checkFromS_zero h
      exact ⟨by omega, by omega, by omega, fun x hx => (ha x hx).1, hp⟩

theorem checkFromS_of {index : Int} : ∀ {ahead : Int} {ls : List SessD}, (∀ x ∈ ls, Fine index x ∧ ahead < x.client) → ls.Pairwise (fun a b => a.client < b.client) → checkFromS index ahead ls = 0
  | _, [], _, _ => rfl
  | ahead, x :: r, h, hp => by
    unfold checkFromS
    have hx := h x (by simp)
    rw [hx.1.range, hx.1.form]
    have h3 : ¬ x.client ≤ ahead := by omega
    rw [List.pairwise_cons] at hp
    simp [h3]
    exact checkFromS_of (fun y hy => ⟨(h y (by simp [hy])).1, hp.1 y hy⟩) hp.2

theorem checkS_of {ls : List SessD} {index : Int} (h : GoodS ls index) : checkS ls index = 0 := by
  unfold checkS
  rw [if_neg (by have := h.low; have := h.high; omega), if_neg (by have := h.len; omega)]
  exact checkFromS_of (fun x hx => ⟨h.fine x hx, by have := rangeB_iff.1 (h.fine x hx).range; omega⟩) h.order

/-- How many replies there are at most. -/
theorem formFrom_len {a : Int} : ∀ {h : Int} {ks : List KeptD}, formFrom a h ks = true → (ks.length : Int) ≤ max (a + 4 - h) 0
  | _, [], _ => by simp; omega
  | h, k :: r, hf => by
    rw [formFrom_cons] at hf
    simp only [Bool.and_eq_true, decide_eq_true_eq] at hf
    have := formFrom_len hf.2.2.2
    simp only [List.length_cons]
    omega

theorem sformB_len {x : SessD} (h : sformB x = true) : x.replies.length ≤ 4 := by
  have := formFrom_len h
  omega

theorem formFrom_mem {a : Int} : ∀ {h : Int} {ks : List KeptD}, formFrom a h ks = true → ∀ k ∈ ks, h < k.seq ∧ k.seq ≤ a + 4 ∧ keptB k = true
  | _, [], _, k, hk => absurd hk (by simp)
  | h, q :: r, hf, k, hk => by
    rw [formFrom_cons] at hf
    simp only [Bool.and_eq_true, decide_eq_true_eq] at hf
    rcases List.mem_cons.1 hk with rfl | hk
    · exact ⟨by omega, hf.2.1, hf.2.2.1⟩
    · have := formFrom_mem hf.2.2.2 k hk
      exact ⟨by omega, this.2⟩

theorem formFrom_rise {a : Int} : ∀ {h : Int} {ks : List KeptD}, formFrom a h ks = true → ks.Pairwise (fun x y => x.seq < y.seq)
  | _, [], _ => List.Pairwise.nil
  | h, q :: r, hf => by
    rw [formFrom_cons] at hf
    simp only [Bool.and_eq_true, decide_eq_true_eq] at hf
    exact List.Pairwise.cons (fun y hy => (formFrom_mem hf.2.2.2 y hy).1) (formFrom_rise hf.2.2.2)

theorem formFrom_of {a : Int} : ∀ {h : Int} {ks : List KeptD}, (∀ k ∈ ks, h < k.seq ∧ k.seq ≤ a + 4 ∧ keptB k = true) → ks.Pairwise (fun x y => x.seq < y.seq) → formFrom a h ks = true
  | _, [], _, _ => rfl
  | h, q :: r, hk, hp => by
    rw [formFrom_cons]
    have := hk q (by simp)
    rw [List.pairwise_cons] at hp
    simp only [Bool.and_eq_true, decide_eq_true_eq]
    exact ⟨by omega, this.2.1, this.2.2, formFrom_of (fun y hy => ⟨hp.1 y hy, (hk y (by simp [hy])).2⟩) hp.2⟩

/-- Without those that said nothing for so long. -/
def freshP (index : Int) (x : SessD) : Bool := decide (index < x.last + 40)

def freshS (ls : List SessD) (index : Int) : List SessD := ls.filter (freshP index)

/-- Where a client's session is, or would be. -/
def placeS (ls : List SessD) (client : Int) : Nat := ls.findIdx fun x => decide (client ≤ x.client)

def thereS (ls : List SessD) (client : Int) : Bool := match ls[placeS ls client]? with
  | some x => decide (x.client = client)
  | none => false

/-- Where a reply is, or would be. -/
def placeK (ks : List KeptD) (seq : Int) : Nat := ks.findIdx fun k => decide (seq ≤ k.seq)

def thereK (ks : List KeptD) (seq : Int) : Bool := match ks[placeK ks seq]? with
  | some k => decide (k.seq = seq)
  | none => false

def joinE (ls : List SessD) (index client : Int) : Int :=
  if checkS ls index ≠ 0 then checkS ls index else if (1 ≤ client ∧ client ≤ 9) ∧ index ≠ 1073741824 then 0 else 2

/-- What the call's reply is: code, number, text. -/
structure ReplyD where
  code : Int
  n : Int
  text : ByteArray

def joinS (ls : List SessD) (index client : Int) : List SessD × ReplyD :=
  match thereS ls client, ls[placeS ls client]? with
  | true, some x => (ls.set (placeS ls client) { x with last := index + 1 }, ⟨7, x.id, ⟨#[]⟩⟩)
  | _, _ => if ls.length = 4 then (ls, ⟨8, 0, ⟨#[]⟩⟩) else (ls.take (placeS ls client) ++ ⟨client, index + 1, 0, index + 1, []⟩ :: ls.drop (placeS ls client), ⟨0, index + 1, ⟨#[]⟩⟩)

def leaveS (ls : List SessD) (client : Int) : List SessD × ReplyD :=
  if thereS ls client = true then (ls.eraseIdx (placeS ls client), ⟨0, 0, ⟨#[]⟩⟩) else (ls, ⟨11, 0, ⟨#[]⟩⟩)

def readyE (ls : List SessD) (index seq acked : Int) : Int :=
  if checkS ls index ≠ 0 then checkS ls index else if index ≠ 1073741824 ∧ (1 ≤ seq ∧ seq ≤ 1048576) ∧ 0 ≤ acked ∧ acked ≤ seq - 1 then 0 else 2

/-- A session that heard a call. -/
def hearD (x : SessD) (entry acked : Int) : SessD :=
  { x with last := entry, acked := max x.acked acked, replies := x.replies.filter fun k => !decide (k.seq ≤ max x.acked acked) }

/-- What a call is answered without being done; true: it is to be done. -/
def answerD (x : SessD) (seq : Int) : ReplyD × Bool :=
  if seq ≤ x.acked then (⟨12, 0, ⟨#[]⟩⟩, false)
  else match thereK x.replies seq, x.replies[placeK x.replies seq]? with
    | true, some k => (⟨k.code, k.n, k.text⟩, false)
    | _, _ => if x.acked + 4 < seq then (⟨2, 0, ⟨#[]⟩⟩, false) else (⟨0, 0, ⟨#[]⟩⟩, true)

def readyS (ls : List SessD) (index client session seq acked : Int) : List SessD × ReplyD × Bool :=
  match thereS ls client, ls[placeS ls client]? with
  | true, some x => if x.id = session then (ls.set (placeS ls client) (hearD x (index + 1) acked), answerD (hearD x (index + 1) acked) seq) else (ls, ⟨11, 0, ⟨#[]⟩⟩, false)
  | _, _ => (ls, ⟨11, 0, ⟨#[]⟩⟩, false)

/-- One reply more. -/
def withK (ks : List KeptD) (k : KeptD) : List KeptD := ks.take (placeK ks k.seq) ++ k :: ks.drop (placeK ks k.seq)

def keepE (ls : List SessD) (index client : Int) (k : KeptD) : Int :=
  if checkS ls index ≠ 0 then checkS ls index
  else match thereS ls client, ls[placeS ls client]? with
    | true, some x => if thereK x.replies k.seq = true then 7 else if sformB { x with replies := withK x.replies k } = true then 0 else 2
    | _, _ => 11

def keepS (ls : List SessD) (client : Int) (k : KeptD) : List SessD :=
  match ls[placeS ls client]? with
  | some x => ls.set (placeS ls client) { x with replies := withK x.replies k }
  | none => ls

end Go.Proofs.YtijilhbdbeajjaaGreatDoor

namespace Go.Proofs.YtijilhbdbeajjaaGreatDoor

open Go.RowKit

/-- The cells of a kept reply. -/
def keptCells (k : KeptD) : List Value := [.int .i64 k.seq, .int .i64 k.code, .int .i64 k.n, .string k.text]

theorem keptCells_len (k : KeptD) : (keptCells k).length = 4 := rfl

theorem keptCells_one (x : KeptD) : ∀ v ∈ keptCells x, v.oneCell' = true := by
  intro v hv
  simp only [keptCells, List.mem_cons, List.not_mem_nil, or_false] at hv
  rcases hv with rfl | rfl | rfl | rfl <;> rfl

/-- The kept reply k lies at ⟨b, o, none⟩. -/
def KeptAt (w : World) (b o : Nat) (k : KeptD) : Prop :=
  w.cell? ⟨b, o, none⟩ = some (.int .i64 k.seq) ∧ w.cell? ⟨b, o + 1, none⟩ = some (.int .i64 k.code) ∧ w.cell? ⟨b, o + 2, none⟩ = some (.int .i64 k.n) ∧ w.cell? ⟨b, o + 3, none⟩ = some (.string k.text) ∧
    k.text.size ≤ 140737488351232 ∧ TagB 168 w b

/-- The value v reads in w as the kept replies ks; all their memory lies below block B. -/
def KeptsR (w : World) (B : Nat) (v : Value) (ks : List KeptD) : Prop :=
  ∃ ao cap, v = .slice ao ks.length cap ∧ ks.length ≤ cap ∧ ks.length * 40 ≤ 140737488351232 ∧ (ao = none → cap = 0) ∧
    (0 < ks.length → ∃ b off, ao = some ⟨b, off, none⟩ ∧ b < B ∧ ∀ (i : Nat) (x : KeptD), ks[i]? = some x → KeptAt w b (off + i * 4) x)

/-- The session x lies at ⟨b, o, none⟩. -/
def SessAt (w : World) (B : Nat) (b o : Nat) (x : SessD) : Prop :=
  ∃ lv, w.cell? ⟨b, o, none⟩ = some (.int .i64 x.client) ∧ w.cell? ⟨b, o + 1, none⟩ = some (.int .i64 x.id) ∧ w.cell? ⟨b, o + 2, none⟩ = some (.int .i64 x.acked) ∧
    w.cell? ⟨b, o + 3, none⟩ = some (.int .i64 x.last) ∧ w.cell? ⟨b, o + 4, none⟩ = some lv ∧ KeptsR w B lv x.replies ∧ TagB 121 w b

/-- The value v reads in w as the sessions ls; all their memory lies below block B. -/
def SessR (w : World) (B : Nat) (v : Value) (ls : List SessD) : Prop :=
  ∃ ao cap, v = .slice ao ls.length cap ∧ ls.length ≤ cap ∧ ls.length * 56 ≤ 140737488351232 ∧ (ao = none → cap = 0) ∧
    (0 < ls.length → ∃ b off, ao = some ⟨b, off, none⟩ ∧ b < B ∧ ∀ (i : Nat) (x : SessD), ls[i]? = some x → SessAt w B b (off + i * 5) x)

theorem KeptAt.below {w w' : World} {B b o : Nat} {x : KeptD} (h : KeptAt w b o x) (hlt : b < B) (hb : Below B w w') : KeptAt w' b o x := by
  obtain ⟨c0, c1, c2, c3, hs⟩ := h
  have key : ∀ o', w'.cell? ⟨b, o', none⟩ = w.cell? ⟨b, o', none⟩ := fun o' => hb.cell (p := ⟨b, o', none⟩) hlt
  exact ⟨(key _).trans c0, (key _).trans c1, (key _).trans c2, (key _).trans c3, hs.1, hs.2.block (hb.block b hlt)⟩

theorem KeptsR.below {w w' : World} {B : Nat} {v : Value} {xs : List KeptD} (h : KeptsR w B v xs) {B' : Nat} (hb : Below B' w w') (hB : B ≤ B') : KeptsR w' B v xs := by
  obtain ⟨ao, cap, rfl, h1, h2, h3, h4⟩ := h
  refine ⟨ao, cap, rfl, h1, h2, h3, fun hp => ?_⟩
  obtain ⟨b, off, rfl, hlt, hc⟩ := h4 hp
  exact ⟨b, off, rfl, hlt, fun i x hx => (hc i x hx).below (by omega) hb⟩

theorem KeptsR.mono {w : World} {B B' : Nat} {v : Value} {xs : List KeptD} (h : KeptsR w B v xs) (hB : B ≤ B') : KeptsR w B' v xs := by
  obtain ⟨ao, cap, rfl, h1, h2, h3, h4⟩ := h
  refine ⟨ao, cap, rfl, h1, h2, h3, fun hp => ?_⟩
  obtain ⟨b, off, rfl, hlt, hc⟩ := h4 hp
  exact ⟨b, off, rfl, by omega, hc⟩

theorem KeptsR.len {w : World} {B : Nat} {v : Value} {xs : List KeptD} (h : KeptsR w B v xs) : xs.length * 40 ≤ 140737488351232 := by
  obtain ⟨_, _, _, _, h2, _⟩ := h
  exact h2

theorem KeptsR.nil (w : World) (B : Nat) : KeptsR w B (.slice none 0 0) [] := ⟨none, 0, rfl, Nat.le_refl _, by simp, fun _ => rfl, fun h => absurd h (by simp)⟩

theorem SessAt.below {w w' : World} {B b o : Nat} {x : SessD} (h : SessAt w B b o x) (hlt : b < B) {B' : Nat} (hb : Below B' w w') (hB : B ≤ B') : SessAt w' B b o x := by
  obtain ⟨lv, c0, c1, c2, c3, c4, hl⟩ := h
  have key : ∀ o', w'.cell? ⟨b, o', none⟩ = w.cell? ⟨b, o', none⟩ := fun o' => hb.cell (p := ⟨b, o', none⟩) (by simp; omega)
  exact ⟨lv, (key _).trans c0, (key _).trans c1, (key _).trans c2, (key _).trans c3, (key _).trans c4, hl.1.below hb hB, hl.2.block (hb.block b (by omega))⟩

theorem SessAt.mono {w : World} {B B' b o : Nat} {x : SessD} (h : SessAt w B b o x) (hB : B ≤ B') : SessAt w B' b o x := by
  obtain ⟨lv, c0, c1, c2, c3, c4, hl⟩ := h
  exact ⟨lv, c0, c1, c2, c3, c4, hl.1.mono hB, hl.2⟩

theorem SessR.below {w w' : World} {B : Nat} {v : Value} {ls : List SessD} (h : SessR w B v ls) {B' : Nat} (hb : Below B' w w') (hB : B ≤ B') : SessR w' B v ls := by
  obtain ⟨ao, cap, rfl, h1, h2, h3, h4⟩ := h
  refine ⟨ao, cap, rfl, h1, h2, h3, fun hp => ?_⟩
  obtain ⟨b, off, rfl, hlt, hc⟩ := h4 hp
  exact ⟨b, off, rfl, hlt, fun i x hx => (hc i x hx).below hlt hb hB⟩

theorem SessR.mono {w : World} {B B' : Nat} {v : Value} {ls : List SessD} (h : SessR w B v ls) (hB : B ≤ B') : SessR w B' v ls := by
  obtain ⟨ao, cap, rfl, h1, h2, h3, h4⟩ := h
  refine ⟨ao, cap, rfl, h1, h2, h3, fun hp => ?_⟩
  obtain ⟨b, off, rfl, hlt, hc⟩ := h4 hp
  exact ⟨b, off, rfl, by omega, fun i x hx => (hc i x hx).mono hB⟩

theorem SessR.len {w : World} {B : Nat} {v : Value} {ls : List SessD} (h : SessR w B v ls) : ls.length * 56 ≤ 140737488351232 := by
  obtain ⟨_, _, _, _, h2, _⟩ := h
  exact h2

theorem SessR.nil (w : World) (B : Nat) : SessR w B (.slice none 0 0) [] := ⟨none, 0, rfl, Nat.le_refl _, by simp, fun _ => rfl, fun h => absurd h (by simp)⟩

theorem Tryz.infoKept : (Tryz.prog.info? 168).map (fun i => (i.zero, i.size, i.bytes)) = some (some (.agg #[.int .i64 0, .int .i64 0, .int .i64 0, .string ⟨#[]⟩]), 4, 40) := by kernel_rfl

theorem Tryz.infoSess : (Tryz.prog.info? 121).map (fun i => (i.zero, i.size, i.bytes)) = some (some (.agg #[.int .i64 0, .int .i64 0, .int .i64 0, .int .i64 0, .slice none 0 0]), 5, 56) := by kernel_rfl

end Go.Proofs.YtijilhbdbeajjaaGreatDoor

namespace Go.Proofs.YtijilhbdbeajjaaGreatDoor

open Go.RowKit

/-- A state, as plain data. -/
structure StateD where
  index : Int
  locks : List LockD
  pairs : List PairD
  sess : List SessD

/-- The value v reads in w as the state s; all its memory lies below block B. -/
def StateR (w : World) (B : Nat) (v : Value) (s : StateD) : Prop :=
  ∃ lv pv sv, v = .agg #[.int .i64 s.index, lv, pv, sv] ∧ LocksR w B lv s.locks ∧ PairsR w B pv s.pairs ∧ SessR w B sv s.sess

theorem StateR.below {w w' : World} {B : Nat} {v : Value} {s : StateD} (h : StateR w B v s) {B' : Nat} (hb : Below B' w w') (hB : B ≤ B') : StateR w' B v s := by
  obtain ⟨lv, pv, sv, rfl, h1, h2, h3⟩ := h
  exact ⟨lv, pv, sv, rfl, h1.below hb hB, h2.below hb hB, h3.below hb hB⟩

theorem StateR.mono {w : World} {B B' : Nat} {v : Value} {s : StateD} (h : StateR w B v s) (hB : B ≤ B') : StateR w B' v s := by
  obtain ⟨lv, pv, sv, rfl, h1, h2, h3⟩ := h
  exact ⟨lv, pv, sv, rfl, h1.mono hB, h2.mono hB, h3.mono hB⟩

theorem LocksR.slice {w : World} {B : Nat} {v : Value} {ls : List LockD} (h : LocksR w B v ls) : ∃ ao cap, v = .slice ao ls.length cap := by
  obtain ⟨ao, cap, rfl, -⟩ := h
  exact ⟨ao, cap, rfl⟩

theorem PairsR.slice {w : World} {B : Nat} {v : Value} {ls : List PairD} (h : PairsR w B v ls) : ∃ ao cap, v = .slice ao ls.length cap := by
  obtain ⟨ao, cap, rfl, -⟩ := h
  exact ⟨ao, cap, rfl⟩

theorem SessR.slice {w : World} {B : Nat} {v : Value} {ls : List SessD} (h : SessR w B v ls) : ∃ ao cap, v = .slice ao ls.length cap := by
  obtain ⟨ao, cap, rfl, -⟩ := h
  exact ⟨ao, cap, rfl⟩

end Go.Proofs.YtijilhbdbeajjaaGreatDoor

namespace Go.Proofs.YtijilhbdbeajjaaGreatDoor

open Go.RowKit

theorem StateR.shape {w : World} {B : Nat} {v : Value} {s : StateD} (h : StateR w B v s) : ∃ lo ln lc po pn pc so sn sc, v = .agg #[.int .i64 s.index, .slice lo ln lc, .slice po pn pc, .slice so sn sc] := by
  obtain ⟨lv, pv, sv, rfl, h1, h2, h3⟩ := h
  obtain ⟨lo, lc, rfl, -⟩ := h1
  obtain ⟨po, pc, rfl, -⟩ := h2
  obtain ⟨so, sc, rfl, -⟩ := h3
  exact ⟨_, _, _, _, _, _, _, _, _, rfl⟩

end Go.Proofs.YtijilhbdbeajjaaGreatDoor

namespace Go.Proofs.YtijilhbdbeajjaaGreatDoor

open Go.RowKit

def intCells (xs : List Int) : List Value := xs.map (Value.int .i64)

/-- The cells of a lock, its line at a value. -/
def lockCells (r : LockD × Value) : List Value := [.string r.1.name, .int .i64 r.1.holder, .int .i64 r.1.fence, r.2]

def flat (rs : List (LockD × Value)) : List Value := rs.flatMap lockCells

/-- The blocks of the lines. -/
def lineBlocks (rs : List (LockD × Value)) : List Nat := rs.flatMap fun r => r.2.ownBlock.toList

/-- Each line is owned, in a block of its own. -/
structure Lines (w : World) (base : Nat) (rs : List (LockD × Value)) : Prop where
  each : ∀ r ∈ rs, w.ownsRow base 3 1 r.2 r.1.line.length (intCells r.1.line) ∧ r.1.line.length * 8 ≤ 140737488351232 ∧ r.1.name.size ≤ 140737488351232
  nodup : (lineBlocks rs).Nodup

/-- The value v owns the locks rs: the row, and a line each. -/
structure OwnL (w : World) (base : Nat) (v : Value) (rs : List (LockD × Value)) : Prop where
  row : w.ownsRow base 82 4 v rs.length (flat rs)
  lines : Lines w base rs
  apart : ∀ b ∈ lineBlocks rs, v.ownBlock ≠ some b
  len : rs.length * 56 ≤ 140737488351232

theorem ownsRow_keep {w w' : World} {base : Nat} {e : TypeId} {size : Nat} {v : Value} {n : Nat} {xs : List Value} (h : w.ownsRow base e size v n xs) (hk : ∀ b, v.ownBlock = some b → w'.heap[b]? = w.heap[b]?) : w'.ownsRow base e size v n xs := by
  obtain ⟨h1, h2⟩ := h
  refine ⟨h1, ?_⟩
  rcases h2 with h2 | ⟨g, cap, cur, rfl, hg, hh, r⟩
  · exact Or.inl h2
  · exact Or.inr ⟨g, cap, cur, rfl, hg, by rw [hk g rfl]; exact hh, r⟩

theorem ownsRow_base {w : World} {base base' : Nat} {e : TypeId} {size : Nat} {v : Value} {n : Nat} {xs : List Value} (h : w.ownsRow base e size v n xs) (hk : ∀ b, v.ownBlock = some b → base' ≤ b) : w.ownsRow base' e size v n xs := by
  obtain ⟨h1, h2⟩ := h
  refine ⟨h1, ?_⟩
  rcases h2 with h2 | ⟨g, cap, cur, rfl, hg, hh, r⟩
  · exact Or.inl h2
  · exact Or.inr ⟨g, cap, cur, rfl, hk g rfl, hh, r⟩

theorem ownsRow_mono {w : World} {base base' : Nat} {e : TypeId} {size : Nat} {v : Value} {n : Nat} {xs : List Value} (h : w.ownsRow base e size v n xs) (hb : base' ≤ base) : w.ownsRow base' e size v n xs :=
  ownsRow_base h fun b hbk => Nat.le_trans hb (h.lt b hbk).1

theorem ownsRow_below {w w' : World} {base : Nat} {e : TypeId} {size : Nat} {v : Value} {n : Nat} {xs : List Value} (h : w.ownsRow base e size v n xs) {B : Nat} (hb : Below B w w') (hB : w.heap.size ≤ B) : w'.ownsRow base e size v n xs :=
  ownsRow_keep h fun b hbk => hb.block b (by have := (h.lt b hbk).2; omega)

theorem mem_lineBlocks {rs : List (LockD × Value)} {b : Nat} : b ∈ lineBlocks rs ↔ ∃ r ∈ rs, r.2.ownBlock = some b := by
  unfold lineBlocks
  rw [List.mem_flatMap]
  constructor
  · rintro ⟨r, hr, hb⟩
    exact ⟨r, hr, by simpa using hb⟩
  · rintro ⟨r, hr, hb⟩
    exact ⟨r, hr, by simp [hb]⟩

theorem Lines.lt {w : World} {base : Nat} {rs : List (LockD × Value)} (h : Lines w base rs) {b : Nat} (hb : b ∈ lineBlocks rs) : base ≤ b ∧ b < w.heap.size := by
  obtain ⟨r, hr, hbk⟩ := mem_lineBlocks.1 hb
  exact (h.each r hr).1.lt b hbk

theorem Lines.keep {w w' : World} {base : Nat} {rs : List (LockD × Value)} (h : Lines w base rs) (hk : ∀ b ∈ lineBlocks rs, w'.heap[b]? = w.heap[b]?) : Lines w' base rs :=
  ⟨fun r hr => ⟨ownsRow_keep (h.each r hr).1 fun b hb => hk b (mem_lineBlocks.2 ⟨r, hr, hb⟩), (h.each r hr).2⟩, h.nodup⟩

theorem Lines.mono {w : World} {base base' : Nat} {rs : List (LockD × Value)} (h : Lines w base rs) (hb : base' ≤ base) : Lines w base' rs :=
  ⟨fun r hr => ⟨ownsRow_mono (h.each r hr).1 hb, (h.each r hr).2⟩, h.nodup⟩

theorem Lines.below {w w' : World} {base : Nat} {rs : List (LockD × Value)} (h : Lines w base rs) {B : Nat} (hb : Below B w w') (hB : w.heap.size ≤ B) : Lines w' base rs :=
  h.keep fun b hbk => hb.block b (by have := (h.lt hbk).2; omega)

theorem Lines.nil (w : World) (base : Nat) : Lines w base [] := ⟨fun r hr => absurd hr (by simp), by simp [lineBlocks]⟩

theorem lineBlocks_snoc (rs : List (LockD × Value)) (r : LockD × Value) : lineBlocks (rs ++ [r]) = lineBlocks rs ++ r.2.ownBlock.toList := by simp [lineBlocks]

theorem flat_snoc (rs : List (LockD × Value)) (r : LockD × Value) : flat (rs ++ [r]) = flat rs ++ lockCells r := by simp [flat]

theorem flat_length (rs : List (LockD × Value)) : (flat rs).length = rs.length * 4 := by
  induction rs with
  | nil => rfl
  | cons r t ih => simp only [flat, List.flatMap_cons, List.length_append] at ih ⊢; simp only [lockCells, List.length_cons, List.length_nil, ih]; omega

/-- One line more, in a block that none of the others has. -/
theorem Lines.snoc {w : World} {base : Nat} {rs : List (LockD × Value)} {r : LockD × Value} (h : Lines w base rs) (hr : w.ownsRow base 3 1 r.2 r.1.line.length (intCells r.1.line)) (hl : r.1.line.length * 8 ≤ 140737488351232) (hn : r.1.name.size ≤ 140737488351232)
    (hne : ∀ b, r.2.ownBlock = some b → b ∉ lineBlocks rs) : Lines w base (rs ++ [r]) := by
  refine ⟨fun q hq => ?_, ?_⟩
  · rcases List.mem_append.1 hq with hq | hq
    · exact h.each q hq
    · have : q = r := by simpa using hq
      subst this
      exact ⟨hr, hl, hn⟩
  · rw [lineBlocks_snoc]
    refine List.nodup_append.2 ⟨h.nodup, ?_, ?_⟩
    · cases hb : r.2.ownBlock <;> simp
    · intro a ha b hb hab
      subst hab
      exact hne a (by simpa using hb) ha

/-- What is owned reads as it is. -/
theorem ownsRow_ints {w : World} {base B : Nat} {v : Value} {xs : List Int} (h : w.ownsRow base 3 1 v xs.length (intCells xs)) (hl : xs.length * 8 ≤ 140737488351232) (hB : w.heap.size ≤ B) : IntsR w B v xs := by
  rcases h.2 with ⟨rfl, hn⟩ | ⟨g, cap, cur, rfl, _, hg, hle, hcm, hcs, htake⟩
  · have : xs = [] := List.eq_nil_of_length_eq_zero hn
    subst this
    exact ⟨none, 0, rfl, Nat.le_refl _, hl, fun _ => rfl, fun h => absurd h (by simp)⟩
  · refine ⟨some ⟨g, 0, none⟩, cap, rfl, hle, hl, (by intro h; cases h), fun _ => ⟨g, 0, rfl, ?_, fun i x hx => ?_⟩⟩
    · have := (h.lt g rfl).2; omega
    · have hi : i < xs.length := (List.getElem?_eq_some_iff.1 hx).1
      have := h.cellAt i (by omega)
      rw [Nat.zero_add, this]
      simp [intCells, hx]

theorem flat_at {rs : List (LockD × Value)} {i : Nat} {r : LockD × Value} (h : rs[i]? = some r) (j : Nat) (hj : j < 4) : (flat rs)[i * 4 + j]? = (lockCells r)[j]? := by
  induction rs generalizing i with
  | nil => simp at h
  | cons q t ih =>
    have e : flat (q :: t) = lockCells q ++ flat t := by simp [flat]
    have hl : (lockCells q).length = 4 := rfl
    rw [e]
    cases i with
    | zero =>
      have : q = r := by simpa using h
      subst this
      rw [Nat.zero_mul, Nat.zero_add, List.getElem?_append_left (by omega)]
    | succ i =>
      rw [List.getElem?_append_right (by omega), hl, show (i + 1) * 4 + j - 4 = i * 4 + j by omega]
      exact ih (by simpa using h)

/-- Locks that are owned read as they are. -/
theorem OwnL.reads {w : World} {base B : Nat} {v : Value} {rs : List (LockD × Value)} (h : OwnL w base v rs) (hB : w.heap.size ≤ B) : LocksR w B v (rs.map (·.1)) := by
  have hrow := h.row
  rcases hrow.2 with ⟨rfl, hn⟩ | ⟨g, cap, cur, rfl, _, hg, hle, hcm, hcs, htake⟩
  · have : rs = [] := List.eq_nil_of_length_eq_zero hn
    subst this
    exact ⟨none, 0, rfl, Nat.le_refl _, by simp, fun _ => rfl, fun h => absurd h (by simp)⟩
  · refine ⟨some ⟨g, 0, none⟩, cap, by rw [List.length_map], by rw [List.length_map]; exact hle, by rw [List.length_map]; exact h.len, (by intro h; cases h), fun _ => ⟨g, 0, rfl, ?_, fun i x hx => ?_⟩⟩
    · have := (hrow.lt g rfl).2; omega
    · rw [List.getElem?_map] at hx
      obtain ⟨r, hr, rfl⟩ := Option.map_eq_some_iff.1 hx
      have hi : i < rs.length := (List.getElem?_eq_some_iff.1 hr).1
      have key : ∀ j, j < 4 → w.cell? ⟨g, 0 + i * 4 + j, none⟩ = (lockCells r)[j]? := fun j hj => by
        rw [Nat.zero_add, hrow.cellAt (i * 4 + j) (by omega), flat_at hr j hj]
      have he := h.lines.each r (List.mem_of_getElem? hr)
      exact ⟨r.2, by simpa [lockCells] using key 0 (by omega), by simpa [lockCells] using key 1 (by omega), by simpa [lockCells] using key 2 (by omega), by simpa [lockCells] using key 3 (by omega), ownsRow_ints he.1 he.2.1 hB, he.2.2⟩

theorem OwnL.keep {w w' : World} {base : Nat} {v : Value} {rs : List (LockD × Value)} (h : OwnL w base v rs) (hr : ∀ b, v.ownBlock = some b → w'.heap[b]? = w.heap[b]?) (hk : ∀ b ∈ lineBlocks rs, w'.heap[b]? = w.heap[b]?) : OwnL w' base v rs :=
  ⟨ownsRow_keep h.row hr, h.lines.keep hk, h.apart, h.len⟩

theorem OwnL.below {w w' : World} {base : Nat} {v : Value} {rs : List (LockD × Value)} (h : OwnL w base v rs) {B : Nat} (hb : Below B w w') (hB : w.heap.size ≤ B) : OwnL w' base v rs :=
  h.keep (fun b hbk => hb.block b (by have := (h.row.lt b hbk).2; omega)) (fun b hbk => hb.block b (by have := (h.lines.lt hbk).2; omega))

theorem OwnL.mono {w : World} {base base' : Nat} {v : Value} {rs : List (LockD × Value)} (h : OwnL w base v rs) (hb : base' ≤ base) : OwnL w base' v rs :=
  ⟨ownsRow_mono h.row hb, h.lines.mono hb, h.apart, h.len⟩

/-- The value v owns the locks ls, all in blocks from base on. -/
def LocksO (w : World) (base : Nat) (v : Value) (ls : List LockD) : Prop := ∃ rs, rs.map (·.1) = ls ∧ OwnL w base v rs

theorem LocksO.reads {w : World} {base B : Nat} {v : Value} {ls : List LockD} (h : LocksO w base v ls) (hB : w.heap.size ≤ B) : LocksR w B v ls := by
  obtain ⟨rs, rfl, h⟩ := h
  exact h.reads hB

theorem LocksO.below {w w' : World} {base : Nat} {v : Value} {ls : List LockD} (h : LocksO w base v ls) {B : Nat} (hb : Below B w w') (hB : w.heap.size ≤ B) : LocksO w' base v ls := by
  obtain ⟨rs, rfl, h⟩ := h
  exact ⟨rs, rfl, h.below hb hB⟩

theorem LocksO.mono {w : World} {base base' : Nat} {v : Value} {ls : List LockD} (h : LocksO w base v ls) (hb : base' ≤ base) : LocksO w base' v ls := by
  obtain ⟨rs, rfl, h⟩ := h
  exact ⟨rs, rfl, h.mono hb⟩

end Go.Proofs.YtijilhbdbeajjaaGreatDoor

namespace Go.Proofs.YtijilhbdbeajjaaGreatDoor

open Go.RowKit

/-- w' is w but for blocks in S, and new ones. -/
structure Touch (w w' : World) (S : Nat → Prop) : Prop where
  os : w'.os = w.os
  tape : w'.tape = w.tape
  output : w'.output = w.output
  size : w.heap.size ≤ w'.heap.size
  block : ∀ k, k < w.heap.size → ¬ S k → w'.heap[k]? = w.heap[k]?

/-- The blocks of a row and its lines. -/
def OwnB (g : Nat) (rs : List (LockD × Value)) (k : Nat) : Prop := k = g ∨ k ∈ lineBlocks rs

theorem Touch.refl (w : World) (S : Nat → Prop) : Touch w w S := ⟨rfl, rfl, rfl, Nat.le_refl _, fun _ _ _ => rfl⟩

theorem Touch.setCell {w0 w : World} {S : Nat → Prop} (h : Touch w0 w S) {a : Addr} (ha : S a.block ∨ w0.heap.size ≤ a.block) (u : Value) : Touch w0 (w.setCell a u) S :=
  ⟨h.os, h.tape, h.output, by have := h.size; simpa [World.setCell] using this, fun k hk hs => (Below.heap_setCell _ _ _ _ (by rintro rfl; rcases ha with ha | ha; exact hs ha; omega)).trans (h.block k hk hs)⟩

theorem Touch.grown {w0 w w' : World} {S : Nat → Prop} {row : Option Nat} (h : Touch w0 w S) (hg : w.grownBy w' row) (hr : ∀ k, row = some k → S k) : Touch w0 w' S :=
  ⟨hg.os.trans h.os, hg.tape.trans h.tape, hg.output.trans h.output, Nat.le_trans h.size hg.size, fun k hk hs => (hg.block k (by have := h.size; omega) (fun e => hs (hr k e.symm))).trans (h.block k hk hs)⟩

theorem Touch.of_below {w w' : World} {B : Nat} (h : Below B w w') (hB : w.heap.size ≤ B) (S : Nat → Prop) : Touch w w' S := ⟨h.os, h.tape, h.output, h.size, fun k hk _ => h.block k (by omega)⟩

theorem Touch.trans {a b c : World} {S T : Nat → Prop} (h : Touch a b S) (k : Touch b c T) (hs : ∀ i, i < a.heap.size → T i → S i) : Touch a c S :=
  ⟨k.os.trans h.os, k.tape.trans h.tape, k.output.trans h.output, Nat.le_trans h.size k.size, fun i hi hn => (k.block i (by have := h.size; omega) (fun ht => hn (hs i hi ht))).trans (h.block i hi hn)⟩

theorem Touch.below {w w' : World} {S : Nat → Prop} (h : Touch w w' S) {B : Nat} (hB : B ≤ w.heap.size) (hs : ∀ k, S k → B ≤ k) : Below B w w' :=
  ⟨h.os, h.tape, h.output, h.size, fun k hk => h.block k (by omega) (fun e => by have := hs k e; omega)⟩

theorem Touch.cell {w w' : World} {S : Nat → Prop} (h : Touch w w' S) {a : Addr} (ha : a.block < w.heap.size) (hs : ¬ S a.block) : w'.cell? a = w.cell? a := World.cell?_of_block (w := w) (h.block a.block ha hs)

theorem Touch.frozen {w w' : World} {S : Nat → Prop} (h : Touch w w' S) {a : Addr} (ha : a.block < w.heap.size) (hs : ¬ S a.block) : w'.frozen? a = w.frozen? a := World.frozen?_of_block (w := w) (h.block a.block ha hs)

theorem flat_mid (p s : List (LockD × Value)) (r : LockD × Value) : flat (p ++ r :: s) = flat p ++ (lockCells r ++ flat s) := by simp [flat]

theorem lineBlocks_mid (p s : List (LockD × Value)) (r : LockD × Value) : lineBlocks (p ++ r :: s) = lineBlocks p ++ (r.2.ownBlock.toList ++ lineBlocks s) := by simp [lineBlocks]

theorem mid_at {p s : List (LockD × Value)} {r : LockD × Value} : (p ++ r :: s)[p.length]? = some r := by simp

theorem split_at {rs : List (LockD × Value)} {i : Nat} {r : LockD × Value} (h : rs[i]? = some r) : ∃ p s, rs = p ++ r :: s ∧ p.length = i := by
  obtain ⟨hi, he⟩ := List.getElem?_eq_some_iff.1 h
  refine ⟨rs.take i, rs.drop (i + 1), ?_, by rw [List.length_take]; omega⟩
  rw [← he, ← List.drop_eq_getElem_cons hi, List.take_append_drop]

section

variable {w w' : World} {base g n cap : Nat} {v : Value} {p s rs : List (LockD × Value)} {r r' : LockD × Value}

theorem OwnL.cellAt (h : OwnL w base (.slice (some ⟨g, 0, none⟩) n cap) (p ++ r :: s)) (j : Nat) (hj : j < 4) : w.cell? ⟨g, p.length * 4 + j, none⟩ = (lockCells r)[j]? := by
  have hrow := h.row
  have hn : n = (p ++ r :: s).length := by
    rcases hrow.2 with ⟨e, _⟩ | ⟨_, _, _, e, _⟩
    · cases e
    · simp only [Value.slice.injEq] at e; exact e.2.1
  subst hn
  rw [hrow.cellAt (p.length * 4 + j) (by simp; omega), flat_at mid_at j hj]

theorem OwnL.len_eq (h : OwnL w base (.slice (some ⟨g, 0, none⟩) n cap) (p ++ r :: s)) : n = (p ++ r :: s).length := by
  rcases h.row.2 with ⟨e, _⟩ | ⟨_, _, _, e, _⟩
  · cases e
  · simp only [Value.slice.injEq] at e; exact e.2.1

theorem OwnL.frozenAt (h : OwnL w base (.slice (some ⟨g, 0, none⟩) n cap) (p ++ r :: s)) (j : Nat) : w.frozen? ⟨g, j, none⟩ = false := by
  have hn := h.len_eq
  have := h.row
  rw [← hn] at this
  exact this.frozenAt j

theorem OwnL.block (h : OwnL w base (.slice (some ⟨g, 0, none⟩) n cap) (p ++ r :: s)) : base ≤ g ∧ g < w.heap.size := h.row.lt g rfl

theorem OwnL.line (h : OwnL w base v (p ++ r :: s)) : w.ownsRow base 3 1 r.2 r.1.line.length (intCells r.1.line) ∧ r.1.line.length * 8 ≤ 140737488351232 ∧ r.1.name.size ≤ 140737488351232 :=
  h.lines.each r (by simp)

theorem OwnL.lineNe (h : OwnL w base (.slice (some ⟨g, 0, none⟩) n cap) (p ++ r :: s)) {b : Nat} (hb : r.2.ownBlock = some b) : b ≠ g := by
  intro e
  subst e
  exact h.apart b (mem_lineBlocks.2 ⟨r, by simp, hb⟩) rfl

/-- The row put anew at one lock, the other lines left alone. -/
theorem OwnL.put (h : OwnL w base v (p ++ r :: s)) (hrow : w'.ownsRow base 82 4 v (p ++ r' :: s).length (flat (p ++ r' :: s)))
    (hr : w'.ownsRow base 3 1 r'.2 r'.1.line.length (intCells r'.1.line)) (hl : r'.1.line.length * 8 ≤ 140737488351232) (hn : r'.1.name.size ≤ 140737488351232)
    (hk : ∀ b ∈ lineBlocks p ++ lineBlocks s, w'.heap[b]? = w.heap[b]?)
    (hnew : ∀ b, r'.2.ownBlock = some b → r.2.ownBlock = some b ∨ w.heap.size ≤ b) : OwnL w' base v (p ++ r' :: s) := by
  have hnd := h.lines.nodup
  rw [lineBlocks_mid] at hnd
  have hlt : ∀ b ∈ lineBlocks (p ++ r :: s), b < w.heap.size := fun b hb => (h.lines.lt hb).2
  rw [lineBlocks_mid] at hlt
  have hfresh : ∀ b, r'.2.ownBlock = some b → b ∉ lineBlocks p ∧ b ∉ lineBlocks s := by
    intro b hb
    rcases hnew b hb with e | e
    · rw [e] at hnd
      simp only [Option.toList_some, List.singleton_append] at hnd
      have h1 := List.nodup_append.1 hnd
      exact ⟨fun hm => h1.2.2 b hm b (by simp) rfl, (List.nodup_cons.1 h1.2.1).1⟩
    · exact ⟨fun hm => absurd (hlt b (by simp [hm])) (by omega), fun hm => absurd (hlt b (by simp [hm])) (by omega)⟩
  refine ⟨hrow, ⟨fun q hq => ?_, ?_⟩, ?_, ?_⟩
  · rcases List.mem_append.1 hq with hq | hq
    · have he := h.lines.each q (by simp [hq])
      exact ⟨ownsRow_keep he.1 fun b hb => hk b (List.mem_append_left _ (mem_lineBlocks.2 ⟨q, hq, hb⟩)), he.2⟩
    · rcases List.mem_cons.1 hq with rfl | hq
      · exact ⟨hr, hl, hn⟩
      · have he := h.lines.each q (by simp [hq])
        exact ⟨ownsRow_keep he.1 fun b hb => hk b (List.mem_append_right _ (mem_lineBlocks.2 ⟨q, hq, hb⟩)), he.2⟩
  · rw [lineBlocks_mid]
    have h1 := List.nodup_append.1 hnd
    have h2 := List.nodup_append.1 h1.2.1
    refine List.nodup_append.2 ⟨h1.1, List.nodup_append.2 ⟨?_, h2.2.1, ?_⟩, ?_⟩
    · cases r'.2.ownBlock <;> simp
    · intro a ha b hb hab
      subst hab
      exact (hfresh a (by simpa using ha)).2 hb
    · intro a ha b hb hab
      subst hab
      rcases List.mem_append.1 hb with hb | hb
      · exact (hfresh a (by simpa using hb)).1 ha
      · exact h1.2.2 a ha a (List.mem_append_right _ hb) rfl
  · intro b hb e
    rw [lineBlocks_mid] at hb
    rcases List.mem_append.1 hb with hb | hb
    · exact h.apart b (by rw [lineBlocks_mid]; exact List.mem_append_left _ hb) e
    · rcases List.mem_append.1 hb with hb | hb
      · rcases hnew b (by simpa using hb) with e2 | e2
        · exact h.apart b (by rw [lineBlocks_mid]; simp [e2]) e
        · have := (h.row.lt b e).2
          omega
      · exact h.apart b (by rw [lineBlocks_mid]; exact List.mem_append_right _ (List.mem_append_right _ hb)) e
  · have := h.len
    simpa using this

theorem set_mid (p s : List (LockD × Value)) (r : LockD × Value) (j : Nat) (u : Value) (hj : j < 4) : (flat (p ++ r :: s)).set (p.length * 4 + j) u = flat p ++ ((lockCells r).set j u ++ flat s) := by
  have hl : (lockCells r).length = 4 := rfl
  rw [flat_mid, List.set_append_right _ _ (by rw [flat_length]; omega), flat_length, show p.length * 4 + j - p.length * 4 = j by omega, List.set_append_left _ _ (by omega)]

/-- One cell of a lock put anew: the row. -/
theorem row_set (h : w.ownsRow base 82 4 (.slice (some ⟨g, 0, none⟩) n cap) (p ++ r :: s).length (flat (p ++ r :: s))) (hn : n = (p ++ r :: s).length) (j : Nat) (u : Value) (hj : j < 4) (hr : (lockCells r).set j u = lockCells r') :
    (w.setCell ⟨g, p.length * 4 + j, none⟩ u).ownsRow base 82 4 (.slice (some ⟨g, 0, none⟩) n cap) (p ++ r' :: s).length (flat (p ++ r' :: s)) := by
  subst hn
  have := (h.stored (p.length * 4 + j) u).1
  rw [set_mid p s r j u hj, hr, ← flat_mid] at this
  have e : (p ++ r' :: s).length = (p ++ r :: s).length := by simp
  rw [e]
  exact this

/-- The holder put anew. -/
theorem OwnL.setHolder (h : OwnL w base (.slice (some ⟨g, 0, none⟩) n cap) (p ++ r :: s)) (a : Int) :
    OwnL (w.setCell ⟨g, p.length * 4 + 1, none⟩ (.int .i64 a)) base (.slice (some ⟨g, 0, none⟩) n cap) (p ++ ({ r.1 with holder := a }, r.2) :: s) := by
  have hl := h.line
  have key : ∀ b, b ≠ g → (w.setCell ⟨g, p.length * 4 + 1, none⟩ (.int .i64 a)).heap[b]? = w.heap[b]? := fun b hb => heap_setCell_other _ _ _ _ (by simpa using hb)
  refine h.put (row_set h.row h.len_eq 1 _ (by omega) rfl) (ownsRow_keep hl.1 fun b hb => key b (h.lineNe hb)) hl.2.1 hl.2.2 (fun b hb => key b ?_) (fun b hb => Or.inl hb)
  intro e
  exact h.apart b (by rw [lineBlocks_mid]; rcases List.mem_append.1 hb with hb | hb <;> simp [hb]) (by rw [e]; rfl)

/-- The fence put anew. -/
theorem OwnL.setFence (h : OwnL w base (.slice (some ⟨g, 0, none⟩) n cap) (p ++ r :: s)) (a : Int) :
    OwnL (w.setCell ⟨g, p.length * 4 + 2, none⟩ (.int .i64 a)) base (.slice (some ⟨g, 0, none⟩) n cap) (p ++ ({ r.1 with fence := a }, r.2) :: s) := by
  have hl := h.line
  have key : ∀ b, b ≠ g → (w.setCell ⟨g, p.length * 4 + 2, none⟩ (.int .i64 a)).heap[b]? = w.heap[b]? := fun b hb => heap_setCell_other _ _ _ _ (by simpa using hb)
  refine h.put (row_set h.row h.len_eq 2 _ (by omega) rfl) (ownsRow_keep hl.1 fun b hb => key b (h.lineNe hb)) hl.2.1 hl.2.2 (fun b hb => key b ?_) (fun b hb => Or.inl hb)
  intro e
  exact h.apart b (by rw [lineBlocks_mid]; rcases List.mem_append.1 hb with hb | hb <;> simp [hb]) (by rw [e]; rfl)

/-- The line put anew, behind a step that wrote the old line's block alone, and new ones. -/
theorem OwnL.setLine {w1 : World} {lv : Value} {xs : List Int} (h : OwnL w base (.slice (some ⟨g, 0, none⟩) n cap) (p ++ r :: s)) (hg : w.grownBy w1 r.2.ownBlock) (ho : w1.ownsRow base 3 1 lv xs.length (intCells xs)) (hl : xs.length * 8 ≤ 140737488351232)
    (hnew : ∀ b, lv.ownBlock = some b → r.2.ownBlock = some b ∨ w.heap.size ≤ b) :
    OwnL (w1.setCell ⟨g, p.length * 4 + 3, none⟩ lv) base (.slice (some ⟨g, 0, none⟩) n cap) (p ++ ({ r.1 with line := xs }, lv) :: s) := by
  have hgb := h.block
  have hln := h.line
  have hrne : r.2.ownBlock ≠ some g := fun e => h.lineNe e rfl
  have hgrow : w1.heap[g]? = w.heap[g]? := hg.block g hgb.2 (Ne.symm hrne)
  have key : ∀ b, b ≠ g → (w1.setCell ⟨g, p.length * 4 + 3, none⟩ lv).heap[b]? = w1.heap[b]? := fun b hb => heap_setCell_other _ _ _ _ (by simpa using hb)
  refine h.put (row_set (ownsRow_keep h.row fun b hb => ?_) h.len_eq 3 _ (by omega) rfl) (ownsRow_keep ho fun b hb => key b ?_) hl hln.2.2 (fun b hb => ?_) hnew
  · have : g = b := by simpa [Value.ownBlock] using hb
    rw [← this]; exact hgrow
  · rcases hnew b hb with e | e
    · exact h.lineNe e
    · omega
  · have hbm : b ∈ lineBlocks (p ++ r :: s) := by rw [lineBlocks_mid]; rcases List.mem_append.1 hb with hb | hb <;> simp [hb]
    rw [key b (fun e => h.apart b hbm (by rw [e]; rfl))]
    refine hg.block b (h.lines.lt hbm).2 fun e => ?_
    have hnd := h.lines.nodup
    rw [lineBlocks_mid, ← e] at hnd
    simp only [Option.toList_some, List.singleton_append] at hnd
    have h1 := List.nodup_append.1 hnd
    rcases List.mem_append.1 hb with hb | hb
    · exact h1.2.2 b hb b (by simp) rfl
    · exact (List.nodup_cons.1 h1.2.1).1 hb

theorem OwnL.ownB (h : OwnL w base (.slice (some ⟨g, 0, none⟩) n cap) rs) : ∀ k, OwnB g rs k → base ≤ k ∧ k < w.heap.size := by
  rintro k (rfl | hk)
  · exact h.row.lt k rfl
  · exact h.lines.lt hk

end

end Go.Proofs.YtijilhbdbeajjaaGreatDoor

namespace Go.Proofs.YtijilhbdbeajjaaGreatDoor

open Go.RowKit

/-- A block that holds no part of pairs, of sessions, of locks. -/
structure Foreign (w : World) (g : Nat) : Prop where
  pair : ∀ o x, ¬ PairAt w g o x
  kept : ∀ o x, ¬ KeptAt w g o x
  sess : ∀ B o x, ¬ SessAt w B g o x
  kind : ∃ cs t fr, w.heap[g]? = some (.cells cs t fr) ∧ t ≠ 82 ∧ t ≠ 3

theorem touch_cell {w w' : World} {S : Nat → Prop} (ht : TouchG w w' S) {b : Nat} (hb : b < w.heap.size) (hs : ¬ S b) (o : Nat) : w'.cell? ⟨b, o, none⟩ = w.cell? ⟨b, o, none⟩ :=
  World.cell?_of_block (ht.block b hb hs)

theorem PairsR.touch {w w' : World} {B : Nat} {v : Value} {ps : List PairD} {S : Nat → Prop} (h : PairsR w B v ps) (hB : B ≤ w.heap.size) (ht : TouchG w w' S) (hf : ∀ g, g < w.heap.size → S g → Foreign w g) : PairsR w' B v ps := by
  obtain ⟨ao, cap, rfl, h1, h2, h3, h4⟩ := h
  refine ⟨ao, cap, rfl, h1, h2, h3, fun hp => ?_⟩
  obtain ⟨b, off, rfl, hlt, hc⟩ := h4 hp
  have hs : ¬ S b := fun hs => by
    obtain ⟨x, hx⟩ : ∃ x, ps[0]? = some x := ⟨_, List.getElem?_eq_getElem hp⟩
    exact (hf b (by omega) hs).pair _ x (hc 0 x hx)
  refine ⟨b, off, rfl, hlt, fun i x hx => ?_⟩
  obtain ⟨c0, c1, c2, h5⟩ := hc i x hx
  have key := touch_cell ht (b := b) (by omega) hs
  exact ⟨(key _).trans c0, (key _).trans c1, (key _).trans c2, h5.1, h5.2.1, h5.2.2.block (ht.block b (by omega) hs)⟩

theorem KeptsR.touch {w w' : World} {B : Nat} {v : Value} {ks : List KeptD} {S : Nat → Prop} (h : KeptsR w B v ks) (hB : B ≤ w.heap.size) (ht : TouchG w w' S) (hf : ∀ g, g < w.heap.size → S g → Foreign w g) : KeptsR w' B v ks := by
  obtain ⟨ao, cap, rfl, h1, h2, h3, h4⟩ := h
  refine ⟨ao, cap, rfl, h1, h2, h3, fun hp => ?_⟩
  obtain ⟨b, off, rfl, hlt, hc⟩ := h4 hp
  have hs : ¬ S b := fun hs => by
    obtain ⟨x, hx⟩ : ∃ x, ks[0]? = some x := ⟨_, List.getElem?_eq_getElem hp⟩
    exact (hf b (by omega) hs).kept _ x (hc 0 x hx)
  refine ⟨b, off, rfl, hlt, fun i x hx => ?_⟩
  obtain ⟨c0, c1, c2, c3, h5⟩ := hc i x hx
  have key := touch_cell ht (b := b) (by omega) hs
  exact ⟨(key _).trans c0, (key _).trans c1, (key _).trans c2, (key _).trans c3, h5.1, h5.2.block (ht.block b (by omega) hs)⟩

theorem SessR.touch {w w' : World} {B : Nat} {v : Value} {ls : List SessD} {S : Nat → Prop} (h : SessR w B v ls) (hB : B ≤ w.heap.size) (ht : TouchG w w' S) (hf : ∀ g, g < w.heap.size → S g → Foreign w g) : SessR w' B v ls := by
  obtain ⟨ao, cap, rfl, h1, h2, h3, h4⟩ := h
  refine ⟨ao, cap, rfl, h1, h2, h3, fun hp => ?_⟩
  obtain ⟨b, off, rfl, hlt, hc⟩ := h4 hp
  have hs : ¬ S b := fun hs => by
    obtain ⟨x, hx⟩ : ∃ x, ls[0]? = some x := ⟨_, List.getElem?_eq_getElem hp⟩
    exact (hf b (by omega) hs).sess B _ x (hc 0 x hx)
  refine ⟨b, off, rfl, hlt, fun i x hx => ?_⟩
  obtain ⟨lv, c0, c1, c2, c3, c4, h5⟩ := hc i x hx
  have key := touch_cell ht (b := b) (by omega) hs
  exact ⟨lv, (key _).trans c0, (key _).trans c1, (key _).trans c2, (key _).trans c3, (key _).trans c4, h5.1.touch hB ht hf, h5.2.block (ht.block b (by omega) hs)⟩

theorem LocksO.touch {w w' : World} {base : Nat} {v : Value} {ls : List LockD} {S : Nat → Prop} (h : LocksO w base v ls) (ht : TouchG w w' S) (hf : ∀ g, g < w.heap.size → S g → Foreign w g) : LocksO w' base v ls := by
  obtain ⟨rs, rfl, h⟩ := h
  refine ⟨rs, rfl, h.keep (fun b hb => ?_) (fun b hb => ?_)⟩
  · have hlt := (h.row.lt b hb).2
    refine ht.block b hlt (fun hs => ?_)
    obtain ⟨cs, t, fr, hg, t1, -⟩ := (hf b hlt hs).kind
    rcases h.row.2 with ⟨e, _⟩ | ⟨g, cap, cur, e, _, hg', _⟩
    · rw [e] at hb; cases hb
    · rw [e] at hb
      have : g = b := by simpa [Value.ownBlock] using hb
      subst this
      rw [hg'] at hg
      simp only [Option.some.injEq, Obj.cells.injEq] at hg
      exact t1 hg.2.1.symm
  · have hlt := (h.lines.lt hb).2
    refine ht.block b hlt (fun hs => ?_)
    obtain ⟨cs, t, fr, hg, -, t2⟩ := (hf b hlt hs).kind
    obtain ⟨r, hr, e⟩ := mem_lineBlocks.1 hb
    rcases (h.lines.each r hr).1.2 with ⟨e2, _⟩ | ⟨g, cap, cur, e2, _, hg', _⟩
    · rw [e2] at e; cases e
    · rw [e2] at e
      have : g = b := by simpa [Value.ownBlock] using e
      subst this
      rw [hg'] at hg
      simp only [Option.some.injEq, Obj.cells.injEq] at hg
      exact t2 hg.2.1.symm

theorem foreign_state {w : World} {g : Nat} {i : Int} {lo po so : Option Addr} {ln lc pn pc sn sc : Nat} (h : w.heap[g]? = some (.cells #[.int .i64 i, .slice lo ln lc, .slice po pn pc, .slice so sn sc] 48 (0, 0))) : Foreign w g := by
  have hc := cells_of h
  refine ⟨fun o x hx => ?_, fun o x hx => ?_, fun B o x hx => ?_, ⟨_, _, _, h, by decide, by decide⟩⟩
  · have := hx.1
    rw [hc] at this
    match o, this with
    | 0, e => simp at e
    | 1, e => simp at e
    | 2, e => simp at e
    | 3, e => simp at e
    | n + 4, e => simp at e
  · have h1 := hx.1
    have h2 := hx.2.1
    rw [hc] at h1 h2
    match o, h1, h2 with
    | 0, _, e => simp at e
    | 1, e, _ => simp at e
    | 2, e, _ => simp at e
    | 3, e, _ => simp at e
    | n + 4, e, _ => simp at e
  · obtain ⟨lv, h1, h2, -⟩ := hx
    rw [hc] at h1 h2
    match o, h1, h2 with
    | 0, _, e => simp at e
    | 1, e, _ => simp at e
    | 2, e, _ => simp at e
    | 3, e, _ => simp at e
    | n + 4, e, _ => simp at e

theorem foreign_reply {w : World} {g : Nat} {c n : Int} {s : ByteArray} (h : w.heap[g]? = some (.cells #[.int .i64 c, .int .i64 n, .string s] 73 (0, 0))) : Foreign w g := by
  have hc := cells_of h
  refine ⟨fun o x hx => ?_, fun o x hx => ?_, fun B o x hx => ?_, ⟨_, _, _, h, by decide, by decide⟩⟩
  · have h1 := hx.1
    have h2 := hx.2.1
    rw [hc] at h1 h2
    match o, h1, h2 with
    | 0, e, _ => simp at e
    | 1, e, _ => simp at e
    | 2, _, e => simp at e
    | n + 3, e, _ => simp at e
  · have h1 := hx.1
    have h3 := hx.2.2.1
    rw [hc] at h1 h3
    match o, h1, h3 with
    | 0, _, e => simp at e
    | 1, _, e => simp at e
    | 2, e, _ => simp at e
    | n + 3, e, _ => simp at e
  · obtain ⟨lv, h1, h2, h3, -⟩ := hx
    rw [hc] at h1 h3
    match o, h1, h3 with
    | 0, _, e => simp at e
    | 1, _, e => simp at e
    | 2, e, _ => simp at e
    | n + 3, e, _ => simp at e

/-- The state s lies in block p. -/
def StB (w : World) (p : Nat) (s : StateD) : Prop :=
  ∃ (lo po so : Option Addr) (ln lc pn pc sn sc : Nat), w.heap[p]? = some (.cells #[.int .i64 s.index, .slice lo ln lc, .slice po pn pc, .slice so sn sc] 48 (0, 0)) ∧
    LocksO w 0 (.slice lo ln lc) s.locks ∧ PairsR w w.heap.size (.slice po pn pc) s.pairs ∧ SessR w w.heap.size (.slice so sn sc) s.sess

theorem StB.lt {w : World} {p : Nat} {s : StateD} (h : StB w p s) : p < w.heap.size := by
  obtain ⟨_, _, _, _, _, _, _, _, _, h, -⟩ := h
  exact (Array.getElem?_eq_some_iff.1 h).1

theorem StB.foreign {w : World} {p : Nat} {s : StateD} (h : StB w p s) : Foreign w p := by
  obtain ⟨_, _, _, _, _, _, _, _, _, h, -⟩ := h
  exact foreign_state h

/-- Stores into other blocks, that hold nothing of it. -/
theorem StB.touch {w w' : World} {p : Nat} {s : StateD} {S : Nat → Prop} (h : StB w p s) (ht : TouchG w w' S) (hp : ¬ S p) (hf : ∀ g, g < w.heap.size → S g → Foreign w g) : StB w' p s := by
  have hlt := h.lt
  obtain ⟨lo, po, so, ln, lc, pn, pc, sn, sc, h0, h1, h2, h3⟩ := h
  exact ⟨lo, po, so, ln, lc, pn, pc, sn, sc, (ht.block p hlt hp).trans h0, h1.touch ht hf, (h2.touch (Nat.le_refl _) ht hf).mono ht.size, (h3.touch (Nat.le_refl _) ht hf).mono ht.size⟩

theorem StB.below {w w' : World} {p : Nat} {s : StateD} (h : StB w p s) (hb : Below w.heap.size w w') : StB w' p s :=
  h.touch (TouchG.of_below hb (Nat.le_refl _) (fun _ => False)) (fun h => h) (fun _ _ h => h.elim)

/-- A field of it put anew: the locks. -/
theorem StB.setLocks {w : World} {p : Nat} {s : StateD} {lo : Option Addr} {ln lc : Nat} {ls : List LockD} (h : StB w p s) (hl : LocksO w 0 (.slice lo ln lc) ls) : StB (w.setCell ⟨p, 1, none⟩ (.slice lo ln lc)) p { s with locks := ls } := by
  have hf := h.foreign
  obtain ⟨lo', po, so, ln', lc', pn, pc, sn, sc, h0, h1, h2, h3⟩ := h
  have ht := (TouchG.refl w (fun b => b = p)).setCell (a := ⟨p, 1, none⟩) (Or.inl rfl) (.slice lo ln lc)
  have hf' : ∀ g, g < w.heap.size → g = p → Foreign w g := fun g _ e => e ▸ hf
  exact ⟨lo, po, so, ln, lc, pn, pc, sn, sc, by rw [heap_set h0]; rfl, hl.touch ht hf', (h2.touch (Nat.le_refl _) ht hf').mono ht.size, (h3.touch (Nat.le_refl _) ht hf').mono ht.size⟩

theorem StB.setPairs {w : World} {p : Nat} {s : StateD} {po : Option Addr} {pn pc : Nat} {ps : List PairD} (h : StB w p s) (hp : PairsR w w.heap.size (.slice po pn pc) ps) : StB (w.setCell ⟨p, 2, none⟩ (.slice po pn pc)) p { s with pairs := ps } := by
  have hf := h.foreign
  obtain ⟨lo, po', so, ln, lc, pn', pc', sn, sc, h0, h1, h2, h3⟩ := h
  have ht := (TouchG.refl w (fun b => b = p)).setCell (a := ⟨p, 2, none⟩) (Or.inl rfl) (.slice po pn pc)
  have hf' : ∀ g, g < w.heap.size → g = p → Foreign w g := fun g _ e => e ▸ hf
  exact ⟨lo, po, so, ln, lc, pn, pc, sn, sc, by rw [heap_set h0]; rfl, h1.touch ht hf', (hp.touch (Nat.le_refl _) ht hf').mono ht.size, (h3.touch (Nat.le_refl _) ht hf').mono ht.size⟩

theorem StB.setSess {w : World} {p : Nat} {s : StateD} {so : Option Addr} {sn sc : Nat} {ss : List SessD} (h : StB w p s) (hs : SessR w w.heap.size (.slice so sn sc) ss) : StB (w.setCell ⟨p, 3, none⟩ (.slice so sn sc)) p { s with sess := ss } := by
  have hf := h.foreign
  obtain ⟨lo, po, so', ln, lc, pn, pc, sn', sc', h0, h1, h2, h3⟩ := h
  have ht := (TouchG.refl w (fun b => b = p)).setCell (a := ⟨p, 3, none⟩) (Or.inl rfl) (.slice so sn sc)
  have hf' : ∀ g, g < w.heap.size → g = p → Foreign w g := fun g _ e => e ▸ hf
  exact ⟨lo, po, so, ln, lc, pn, pc, sn, sc, by rw [heap_set h0]; rfl, h1.touch ht hf', (h2.touch (Nat.le_refl _) ht hf').mono ht.size, (hs.touch (Nat.le_refl _) ht hf').mono ht.size⟩

theorem StB.setIndex {w : World} {p : Nat} {s : StateD} (h : StB w p s) (i : Int) : StB (w.setCell ⟨p, 0, none⟩ (.int .i64 i)) p { s with index := i } := by
  have hf := h.foreign
  obtain ⟨lo, po, so, ln, lc, pn, pc, sn, sc, h0, h1, h2, h3⟩ := h
  have ht := (TouchG.refl w (fun b => b = p)).setCell (a := ⟨p, 0, none⟩) (Or.inl rfl) (.int .i64 i)
  have hf' : ∀ g, g < w.heap.size → g = p → Foreign w g := fun g _ e => e ▸ hf
  exact ⟨lo, po, so, ln, lc, pn, pc, sn, sc, by rw [heap_set h0]; rfl, h1.touch ht hf', (h2.touch (Nat.le_refl _) ht hf').mono ht.size, (h3.touch (Nat.le_refl _) ht hf').mono ht.size⟩

/-- A reply put into its block. -/
theorem StB.reply {w : World} {p r : Nat} {s : StateD} {c0 n0 : Int} {t0 : ByteArray} (h : StB w p s) (hr : w.heap[r]? = some (.cells #[.int .i64 c0, .int .i64 n0, .string t0] 73 (0, 0))) (hne : r ≠ p) (c n : Int) (t : ByteArray) :
    StB (((w.setCell ⟨r, 0, none⟩ (.int .i64 c)).setCell ⟨r, 1, none⟩ (.int .i64 n)).setCell ⟨r, 2, none⟩ (.string t)) p s ∧ (((w.setCell ⟨r, 0, none⟩ (.int .i64 c)).setCell ⟨r, 1, none⟩ (.int .i64 n)).setCell ⟨r, 2, none⟩ (.string t)).heap[r]? = some (.cells #[.int .i64 c, .int .i64 n, .string t] 73 (0, 0)) := by
  refine ⟨h.touch (S := fun b => b = r) ((((TouchG.refl w (fun b => b = r)).setCell (a := ⟨r, 0, none⟩) (Or.inl rfl) _).setCell (a := ⟨r, 1, none⟩) (Or.inl rfl) _).setCell (a := ⟨r, 2, none⟩) (Or.inl rfl) _) (fun e => hne e.symm) (fun g _ e => e ▸ foreign_reply hr), ?_⟩
  rw [heap_set (heap_set (heap_set hr _) _) _]
  rfl

theorem touch_reply {w0 w : World} {S : Nat → Prop} {r : Nat} (h : TouchG w0 w S) (hr : S r ∨ w0.heap.size ≤ r) (x y z : Value) : TouchG w0 (((w.setCell ⟨r, 0, none⟩ x).setCell ⟨r, 1, none⟩ y).setCell ⟨r, 2, none⟩ z) S :=
  ((h.setCell (a := ⟨r, 0, none⟩) hr x).setCell (a := ⟨r, 1, none⟩) hr y).setCell (a := ⟨r, 2, none⟩) hr z

/-- Behind two new blocks and a callee that left all that lay. -/
theorem two_new {w w2 : World} {A R : Obj} (hb : Below (((w.alloc A).alloc R).drew).heap.size ((w.alloc A).alloc R).drew w2) : w2.heap[w.heap.size + 1]? = some R ∧ w2.heap[w.heap.size]? = some A := by
  have h1 := heap_alloc_new (w.alloc A) R
  rw [World.size_alloc] at h1
  have h2 : ((w.alloc A).alloc R).heap[w.heap.size]? = some A := by
    rw [Below.heap_alloc _ _ _ (by simp)]
    exact heap_alloc_new w A
  exact ⟨(hb.block _ (by simp)).trans h1, (hb.block _ (by simp; omega)).trans h2⟩

/-- The value v is the state s, its locks in memory of their own. -/
def StateO (w : World) (v : Value) (s : StateD) : Prop :=
  ∃ (lo po so : Option Addr) (ln lc pn pc sn sc : Nat), v = .agg #[.int .i64 s.index, .slice lo ln lc, .slice po pn pc, .slice so sn sc] ∧
    LocksO w 0 (.slice lo ln lc) s.locks ∧ PairsR w w.heap.size (.slice po pn pc) s.pairs ∧ SessR w w.heap.size (.slice so sn sc) s.sess

theorem StateO.reads {w : World} {v : Value} {s : StateD} (h : StateO w v s) : StateR w w.heap.size v s := by
  obtain ⟨lo, po, so, ln, lc, pn, pc, sn, sc, rfl, h1, h2, h3⟩ := h
  exact ⟨_, _, _, rfl, h1.reads (Nat.le_refl _), h2, h3⟩

theorem StateO.touch {w w' : World} {v : Value} {s : StateD} {S : Nat → Prop} (h : StateO w v s) (ht : TouchG w w' S) (hf : ∀ g, g < w.heap.size → S g → Foreign w g) : StateO w' v s := by
  obtain ⟨lo, po, so, ln, lc, pn, pc, sn, sc, rfl, h1, h2, h3⟩ := h
  exact ⟨lo, po, so, ln, lc, pn, pc, sn, sc, rfl, h1.touch ht hf, (h2.touch (Nat.le_refl _) ht hf).mono ht.size, (h3.touch (Nat.le_refl _) ht hf).mono ht.size⟩

theorem StateO.below {w w' : World} {v : Value} {s : StateD} (h : StateO w v s) (hb : Below w.heap.size w w') : StateO w' v s :=
  h.touch (TouchG.of_below hb (Nat.le_refl _) (fun _ => False)) (fun _ _ h => h.elim)

theorem LocksO.nil (w : World) : LocksO w 0 (.slice none 0 0) [] := ⟨[], rfl, ⟨World.ownsRow_nil _ _ _ _, Lines.nil _ _, by simp [lineBlocks], by simp⟩⟩

/-- The state put into a block that held one. -/
theorem StB.put {w : World} {p : Nat} {s s' : StateD} {x0 x1 x2 x3 : Value} (h : StB w p s) (ho : StateO w (.agg #[x0, x1, x2, x3]) s') : StB ((((w.setCell ⟨p, 0, none⟩ x0).setCell ⟨p, 1, none⟩ x1).setCell ⟨p, 2, none⟩ x2).setCell ⟨p, 3, none⟩ x3) p s' := by
  have hf := h.foreign
  obtain ⟨lo', po', so', ln', lc', pn', pc', sn', sc', h0, -⟩ := h
  obtain ⟨lo, po, so, ln, lc, pn, pc, sn, sc, e, h1, h2, h3⟩ := ho
  simp only [Value.agg.injEq, Array.mk.injEq, List.cons.injEq, and_true] at e
  obtain ⟨rfl, rfl, rfl, rfl⟩ := e
  have ht := ((((TouchG.refl w (fun b => b = p)).setCell (a := ⟨p, 0, none⟩) (Or.inl rfl) (.int .i64 s'.index)).setCell (a := ⟨p, 1, none⟩) (Or.inl rfl) (.slice lo ln lc)).setCell (a := ⟨p, 2, none⟩) (Or.inl rfl) (.slice po pn pc)).setCell (a := ⟨p, 3, none⟩) (Or.inl rfl) (.slice so sn sc)
  have hf' : ∀ g, g < w.heap.size → g = p → Foreign w g := fun g _ e => e ▸ hf
  exact ⟨lo, po, so, ln, lc, pn, pc, sn, sc, by rw [heap_set (heap_set (heap_set (heap_set h0 _) _) _) _]; rfl, h1.touch ht hf', (h2.touch (Nat.le_refl _) ht hf').mono ht.size, (h3.touch (Nat.le_refl _) ht hf').mono ht.size⟩

end Go.Proofs.YtijilhbdbeajjaaGreatDoor

namespace Go.Proofs.YtijilhbdbeajjaaGreatDoor

open Go.RowKit

def StateD.zero : StateD := ⟨0, [], [], []⟩

/-- A replica, as plain data. -/
structure RepD where
  log : LogD
  snap : ByteArray
  state : StateD

def RepD.zero : RepD := ⟨⟨0, []⟩, ⟨#[]⟩, .zero⟩

/-- The value v reads in w as the replica r. -/
def RepR (w : World) (B : Nat) (v : Value) (r : RepD) : Prop :=
  ∃ (eo lo po so : Option Addr) (ec ln lc pn pc sn sc : Nat), v = .agg #[.int .i64 r.log.base, .slice eo r.log.ents.length ec, .string r.snap, .int .i64 r.state.index, .slice lo ln lc, .slice po pn pc, .slice so sn sc] ∧
    TextsR w B (.slice eo r.log.ents.length ec) r.log.ents ∧ r.snap.size ≤ 140737488351232 ∧ LocksR w B (.slice lo ln lc) r.state.locks ∧ PairsR w B (.slice po pn pc) r.state.pairs ∧ SessR w B (.slice so sn sc) r.state.sess

theorem RepR.below {w w' : World} {B : Nat} {v : Value} {r : RepD} (h : RepR w B v r) {B' : Nat} (hb : Below B' w w') (hB : B ≤ B') : RepR w' B v r := by
  obtain ⟨eo, lo, po, so, ec, ln, lc, pn, pc, sn, sc, rfl, h1, h2, h3, h4, h5⟩ := h
  exact ⟨eo, lo, po, so, ec, ln, lc, pn, pc, sn, sc, rfl, h1.below hb hB, h2, h3.below hb hB, h4.below hb hB, h5.below hb hB⟩

theorem RepR.mono {w : World} {B B' : Nat} {v : Value} {r : RepD} (h : RepR w B v r) (hB : B ≤ B') : RepR w B' v r := by
  obtain ⟨eo, lo, po, so, ec, ln, lc, pn, pc, sn, sc, rfl, h1, h2, h3, h4, h5⟩ := h
  exact ⟨eo, lo, po, so, ec, ln, lc, pn, pc, sn, sc, rfl, h1.mono hB, h2, h3.mono hB, h4.mono hB, h5.mono hB⟩

theorem LocksR.nil (w : World) (B : Nat) : LocksR w B (.slice none 0 0) [] := ⟨none, 0, rfl, Nat.le_refl _, by simp, fun _ => rfl, fun h => absurd h (by simp)⟩

theorem RepR.nil (w : World) (B : Nat) : RepR w B (.agg #[.int .i64 0, .slice none 0 0, .string ⟨#[]⟩, .int .i64 0, .slice none 0 0, .slice none 0 0, .slice none 0 0]) .zero :=
  ⟨none, none, none, none, 0, 0, 0, 0, 0, 0, 0, rfl, TextsR.nil _ _, by show (0 : Nat) ≤ _; omega, LocksR.nil _ _, PairsR.nil _ _, SessR.nil _ _⟩

/-- A replica's parts: its log, its state. -/
theorem RepR.parts {w : World} {B : Nat} {v : Value} {r : RepD} (h : RepR w B v r) : ∃ (eo lo po so : Option Addr) (ec ln lc pn pc sn sc : Nat), v = .agg #[.int .i64 r.log.base, .slice eo r.log.ents.length ec, .string r.snap, .int .i64 r.state.index, .slice lo ln lc, .slice po pn pc, .slice so sn sc] ∧
    LogR w B (.agg #[.int .i64 r.log.base, .slice eo r.log.ents.length ec]) r.log ∧ r.snap.size ≤ 140737488351232 ∧ StateR w B (.agg #[.int .i64 r.state.index, .slice lo ln lc, .slice po pn pc, .slice so sn sc]) r.state := by
  obtain ⟨eo, lo, po, so, ec, ln, lc, pn, pc, sn, sc, rfl, h1, h2, h3, h4, h5⟩ := h
  exact ⟨eo, lo, po, so, ec, ln, lc, pn, pc, sn, sc, rfl, ⟨_, rfl, h1⟩, h2, ⟨_, _, _, rfl, h3, h4, h5⟩⟩

/-- A replica of a log, a snapshot and a state. -/
theorem RepR.of {w : World} {B : Nat} {r : RepD} {e0 s0 l0 p0 x0 : Value} {b i : Int} (h1 : LogR w B (.agg #[.int .i64 b, e0]) r.log) (h2 : r.snap.size ≤ 140737488351232) (h3 : StateR w B (.agg #[.int .i64 i, l0, p0, x0]) r.state) (hs : s0 = .string r.snap) : RepR w B (.agg #[.int .i64 b, e0, s0, .int .i64 i, l0, p0, x0]) r := by
  obtain ⟨eo, ec, e, k0⟩ := h1.shape
  obtain ⟨lv, pv, sv, e', k1, k2, k3⟩ := h3
  simp only [Value.agg.injEq, Array.mk.injEq, List.cons.injEq, Value.int.injEq, true_and, and_true] at e e'
  obtain ⟨rfl, rfl⟩ := e
  obtain ⟨rfl, rfl, rfl, rfl⟩ := e'
  subst hs
  obtain ⟨lo, lc, rfl⟩ := k1.slice
  obtain ⟨po, pc, rfl⟩ := k2.slice
  obtain ⟨so, sc, rfl⟩ := k3.slice
  exact ⟨_, _, _, _, _, _, _, _, _, _, _, rfl, k0, h2, k1, k2, k3⟩

/-- What the walk wants of a replica's block. -/
theorem seven_cells {w : World} {p : Nat} {x0 x1 x2 x3 x4 x5 x6 : Value} {t : TypeId} (h : w.heap[p]? = some (.cells #[x0, x1, x2, x3, x4, x5, x6] t (0, 0))) :
    w.cell? ⟨p, 0, none⟩ = some x0 ∧ w.cell? ⟨p, 1, none⟩ = some x1 ∧ w.cell? ⟨p, 2, none⟩ = some x2 ∧ w.cell? ⟨p, 3, none⟩ = some x3 ∧ w.cell? ⟨p, 4, none⟩ = some x4 ∧ w.cell? ⟨p, 5, none⟩ = some x5 ∧ w.cell? ⟨p, 6, none⟩ = some x6 ∧ (∀ j, w.frozen? ⟨p, j, none⟩ = false) ∧ p < w.heap.size :=
  ⟨cells_of h 0, cells_of h 1, cells_of h 2, cells_of h 3, cells_of h 4, cells_of h 5, cells_of h 6, fun j => frozen_of_row w p j _ _ h, (Array.getElem?_eq_some_iff.1 h).1⟩

theorem set5 {w : World} {p : Nat} {x0 x1 x2 x3 x4 : Value} {t : TypeId} (h : w.heap[p]? = some (.cells #[x0, x1, x2, x3, x4] t (0, 0))) (a0 a1 a2 a3 a4 : Value) :
    (((((w.setCell ⟨p, 0, none⟩ a0).setCell ⟨p, 1, none⟩ a1).setCell ⟨p, 2, none⟩ a2).setCell ⟨p, 3, none⟩ a3).setCell ⟨p, 4, none⟩ a4).heap[p]? = some (.cells #[a0, a1, a2, a3, a4] t (0, 0)) := by
  rw [heap_set (heap_set (heap_set (heap_set (heap_set h _) _) _) _) _]
  rfl

theorem set7 {w : World} {p : Nat} {x0 x1 x2 x3 x4 x5 x6 : Value} {t : TypeId} (h : w.heap[p]? = some (.cells #[x0, x1, x2, x3, x4, x5, x6] t (0, 0))) (a0 a1 a2 a3 a4 a5 a6 : Value) :
    (((((((w.setCell ⟨p, 0, none⟩ a0).setCell ⟨p, 1, none⟩ a1).setCell ⟨p, 2, none⟩ a2).setCell ⟨p, 3, none⟩ a3).setCell ⟨p, 4, none⟩ a4).setCell ⟨p, 5, none⟩ a5).setCell ⟨p, 6, none⟩ a6).heap[p]? = some (.cells #[a0, a1, a2, a3, a4, a5, a6] t (0, 0)) := by
  rw [heap_set (heap_set (heap_set (heap_set (heap_set (heap_set (heap_set h _) _) _) _) _) _) _]
  rfl

theorem zset5 {B : Nat} {w0 w : World} {b : Nat} (h : Below B w0 w) (hb : B ≤ b) (a0 a1 a2 a3 a4 : Value) : Below B w0 (((((w.setCell ⟨b, 0, none⟩ a0).setCell ⟨b, 1, none⟩ a1).setCell ⟨b, 2, none⟩ a2).setCell ⟨b, 3, none⟩ a3).setCell ⟨b, 4, none⟩ a4) :=
  ((((h.setCell hb a0).setCell hb a1).setCell hb a2).setCell hb a3).setCell hb a4

/-- A result put into its block, that lay behind. -/
theorem zset7 {B : Nat} {w0 w : World} {b : Nat} (h : Below B w0 w) (hb : B ≤ b) (a0 a1 a2 a3 a4 a5 a6 : Value) : Below B w0 (((((((w.setCell ⟨b, 0, none⟩ a0).setCell ⟨b, 1, none⟩ a1).setCell ⟨b, 2, none⟩ a2).setCell ⟨b, 3, none⟩ a3).setCell ⟨b, 4, none⟩ a4).setCell ⟨b, 5, none⟩ a5).setCell ⟨b, 6, none⟩ a6) :=
  ((((((h.setCell hb a0).setCell hb a1).setCell hb a2).setCell hb a3).setCell hb a4).setCell hb a5).setCell hb a6

theorem touch7 {w : World} (p : Nat) (a0 a1 a2 a3 a4 a5 a6 : Value) : TouchG w (((((((w.setCell ⟨p, 0, none⟩ a0).setCell ⟨p, 1, none⟩ a1).setCell ⟨p, 2, none⟩ a2).setCell ⟨p, 3, none⟩ a3).setCell ⟨p, 4, none⟩ a4).setCell ⟨p, 5, none⟩ a5).setCell ⟨p, 6, none⟩ a6) (fun b => b = p) :=
  ((((((((TouchG.refl w (fun b => b = p)).setCell (a := ⟨p, 0, none⟩) (Or.inl rfl) a0).setCell (a := ⟨p, 1, none⟩) (Or.inl rfl) a1).setCell (a := ⟨p, 2, none⟩) (Or.inl rfl) a2).setCell (a := ⟨p, 3, none⟩) (Or.inl rfl) a3).setCell (a := ⟨p, 4, none⟩) (Or.inl rfl) a4).setCell (a := ⟨p, 5, none⟩) (Or.inl rfl) a5).setCell (a := ⟨p, 6, none⟩) (Or.inl rfl) a6)

theorem NewR.set7 {n : Nat} {w : World} {R : World → Prop} (h : NewR n w R) {p : Nat} (hp : p < n) (a0 a1 a2 a3 a4 a5 a6 : Value) : NewR n (((((((w.setCell ⟨p, 0, none⟩ a0).setCell ⟨p, 1, none⟩ a1).setCell ⟨p, 2, none⟩ a2).setCell ⟨p, 3, none⟩ a3).setCell ⟨p, 4, none⟩ a4).setCell ⟨p, 5, none⟩ a5).setCell ⟨p, 6, none⟩ a6) R :=
  h.touch (touch7 p a0 a1 a2 a3 a4 a5 a6) fun _ _ e => e ▸ hp

/-- Two blocks of a replica's type ahead of a callee: the replica, the result. -/
theorem boxes7 {w w1 : World} {o r : Obj} (hb1 : Below (w.heap.size + 1 + 1) ((w.alloc o).alloc r) w1) : w1.heap[w.heap.size]? = some o ∧ w1.heap[w.heap.size + 1]? = some r ∧ Below w.heap.size w w1 := by
  obtain ⟨h1, h2⟩ := two_newB hb1
  exact ⟨h2, h1, (((Below.refl w.heap.size w).alloc (Nat.le_refl _) o).alloc (by simp) r).trans (hb1.mono (by omega))⟩

end Go.Proofs.YtijilhbdbeajjaaGreatDoor

namespace Go.Proofs.YtijilhbdbeajjaaGreatDoor

open Go.RowKit

/-- Is a number in a list? -/
def hasB (x : Int) (xs : List Int) : Bool := decide (x ∈ xs)

theorem hasB_first {x : Int} {xs : List Int} (h : hasB x xs = true) : ∃ i : Nat, xs[i]? = some x ∧ ∀ j : Nat, j < i → xs[j]? ≠ some x := by
  obtain ⟨j, hj⟩ := List.mem_iff_getElem?.1 (of_decide_eq_true h)
  induction j using Nat.strongRecOn with
  | ind j ih =>
    by_cases hm : ∃ i : Nat, i < j ∧ xs[i]? = some x
    · obtain ⟨i, hi, hx⟩ := hm
      exact ih i hi hx
    · exact ⟨j, hj, fun i hi hx => hm ⟨i, hi, hx⟩⟩

theorem hasB_none {x : Int} {xs : List Int} (h : hasB x xs = false) (j : Nat) : xs[j]? ≠ some x := fun hj => of_decide_eq_false h (List.mem_of_getElem? hj)

theorem ret_bool {a b : Bool} (h : a = b) : Ending.returned (.bool a) = .returned (.bool b) := by rw [h]

set_option maxHeartbeats 400000 in
theorem index_found (v : Value) (xs : List Int) (x : Int) (n : Nat) (w : World) (B : Nat) (hv : IntsR w B v xs) (hn : xs[n]? = some x) (hm : ∀ j, j < n → xs[j]? ≠ some x) :
    Calls Tryz.prog 178 #[v, .int .i64 x] w fun e w' => e = .returned (.int .i64 n) ∧ w' = w := by
  obtain ⟨ao, cap, rfl, h1, h2, h3, h4⟩ := hv
  have HN : Hid (xs[n]? = some x) := hn
  have HM : Hid (∀ j, j < n → xs[j]? ≠ some x) := hm
  have hnl : n < xs.length := (List.getElem?_eq_some_iff.1 hn).1
  clear hn hm
  go_enter Tryz.func178, Tryz.ntmps178
  go_wp2
  go_loop [8] (fun i => ∃ k : Nat, k ≤ n ∧ i = .int .i64 k) (fun i => xs.length - (intOf i).toNat)
  case atStart => exact ⟨0, Nat.zero_le _, rfl⟩
  case round =>
    obtain ⟨k, hk, rfl⟩ := hrel
    have hlt : k < xs.length := by omega
    obtain ⟨b, off, rfl, hb, hc⟩ := h4 (by omega)
    obtain ⟨y, hy⟩ : ∃ y, xs[k]? = some y := ⟨_, List.getElem?_eq_getElem hlt⟩
    have hcell := hc k y hy
    have HY : Hid (xs[k]? = some y) := hy
    clear hy hc h4
    by_cases hkn : k = n
    · subst hkn
      have hyx : x = y := by have := HY.out; rw [HN.out] at this; simpa using this
      clear HN HY
      subst hyx
      go_wp2
      go_ret
      exact ⟨rfl, rfl⟩
    · have hkn' : k < n := by omega
      have hyx : ¬ x = y := by rintro rfl; exact HM.out k hkn' HY.out
      clear hkn
      go_wp2
      go_round
      case rel => exact ⟨k + 1, by omega, by go_num⟩
      case measure => simp [intOf]; omega

set_option maxHeartbeats 400000 in
theorem index_none (v : Value) (xs : List Int) (x : Int) (w : World) (B : Nat) (hv : IntsR w B v xs) (hm : ∀ j : Nat, xs[j]? ≠ some x) :
    Calls Tryz.prog 178 #[v, .int .i64 x] w fun e w' => e = .returned (.int .i64 (-1)) ∧ w' = w := by
  obtain ⟨ao, cap, rfl, h1, h2, h3, h4⟩ := hv
  have HM : Hid (∀ j : Nat, xs[j]? ≠ some x) := hm
  clear hm
  go_enter Tryz.func178, Tryz.ntmps178
  go_wp2
  go_loop [8] (fun i => ∃ k : Nat, k ≤ xs.length ∧ i = .int .i64 k) (fun i => xs.length - (intOf i).toNat)
  case atStart => exact ⟨0, Nat.zero_le _, rfl⟩
  case round =>
    obtain ⟨k, hk, rfl⟩ := hrel
    by_cases hlt : k < xs.length
    · obtain ⟨b, off, rfl, hb, hc⟩ := h4 (by omega)
      obtain ⟨y, hy⟩ : ∃ y, xs[k]? = some y := ⟨_, List.getElem?_eq_getElem hlt⟩
      have hcell := hc k y hy
      have hyx : ¬ x = y := by rintro rfl; exact HM.out k hy
      clear hy hc h4
      go_wp2
      go_round
      case rel => exact ⟨k + 1, by omega, by go_num⟩
      case measure => simp [intOf]; omega
    · go_wp2
      go_ret
      exact ⟨rfl, rfl⟩

theorem contains_any (v : Value) (xs : List Int) (x : Int) (w : World) (B : Nat) (hv : IntsR w B v xs) :
    Calls Tryz.prog 187 #[v, .int .i64 x] w fun e w' => e = .returned (.bool (hasB x xs)) ∧ w' = w := by
  cases h : hasB x xs with
  | true =>
    obtain ⟨n, hn, hm⟩ := hasB_first h
    have hnl : n < xs.length := (List.getElem?_eq_some_iff.1 hn).1
    have hlen := hv.len
    have C := index_found v xs x n w B hv hn hm
    clear hv hn hm h
    go_enter Tryz.func187, Tryz.ntmps187
    go_wp2_with fail
    refine C.mono ?_
    rintro e w1 ⟨rfl, rfl⟩
    go_wp2
    go_ret
    exact ⟨rfl, rfl⟩
  | false =>
    have C := index_none v xs x w B hv (hasB_none h)
    clear hv h
    go_enter Tryz.func187, Tryz.ntmps187
    go_wp2_with fail
    refine C.mono ?_
    rintro e w1 ⟨rfl, rfl⟩
    go_wp2
    go_ret
    exact ⟨rfl, rfl⟩

end Go.Proofs.YtijilhbdbeajjaaGreatDoor

namespace Go.Proofs.YtijilhbdbeajjaaGreatDoor

open Go.RowKit

/-- Is the number at place i of a line one that may not stand there? -/
def badB (xs : List Int) (h : Int) (i : Nat) : Bool :=
  match xs[i]? with
  | none => false
  | some x => !decide (1 ≤ x ∧ x ≤ 9) || decide (x = h) || hasB x (xs.take i)

/-- May the line be that of a lock with this holder? -/
def lineB (xs : List Int) (h : Int) : Bool := decide (xs.length ≤ 3 ∧ ¬ (h = 0 ∧ 0 < xs.length)) && (List.range xs.length).all fun i => !badB xs h i

/-- May the name, the holder and the line be those of a lock? -/
def formB (x : LockD) : Bool := nameB x.name && decide (0 ≤ x.holder ∧ x.holder ≤ 9) && lineB x.line x.holder

/-- Is a text at most another one? -/
def leN (a b : ByteArray) : Bool := Op.bytesLess a.toList b.toList || a.toList == b.toList

/-- Locks one by one, the name of the one ahead given. -/
def checkFrom : ByteArray → List LockD → Int
  | _, [] => 0
  | p, x :: t => if formB x = false then 4 else if x.fence < 1 ∨ 1073741824 < x.fence then 2 else if leN x.name p = true then 14 else checkFrom x.name t

/-- What is wrong with locks; 0: nothing. -/
def checkL (ls : List LockD) : Int := if 5 < ls.length then 1 else checkFrom ⟨#[]⟩ ls

theorem lineB_yes {xs : List Int} {h : Int} (hl : lineB xs h = true) : xs.length ≤ 3 ∧ ¬ (h = 0 ∧ 0 < xs.length) ∧ ∀ i x, xs[i]? = some x → 1 ≤ x ∧ x ≤ 9 ∧ x ≠ h ∧ hasB x (xs.take i) = false := by
  unfold lineB at hl
  rw [Bool.and_eq_true] at hl
  obtain ⟨h1, h2⟩ := hl
  have h1 := of_decide_eq_true h1
  refine ⟨h1.1, h1.2, fun i x hx => ?_⟩
  have hi : i < xs.length := (List.getElem?_eq_some_iff.1 hx).1
  have := List.all_eq_true.1 h2 i (List.mem_range.2 hi)
  simp only [badB, hx, Bool.not_eq_true', Bool.or_eq_false_iff, Bool.not_eq_false'] at this
  have h3 := of_decide_eq_true this.1.1
  exact ⟨h3.1, h3.2, of_decide_eq_false this.1.2, this.2⟩

theorem lineB_no {xs : List Int} {h : Int} (hl : lineB xs h = false) (h1 : xs.length ≤ 3) (h2 : ¬ (h = 0 ∧ 0 < xs.length)) :
    ∃ i x, xs[i]? = some x ∧ (x < 1 ∨ 9 < x ∨ x = h ∨ hasB x (xs.take i) = true) := by
  unfold lineB at hl
  rw [decide_eq_true (p := xs.length ≤ 3 ∧ ¬ (h = 0 ∧ 0 < xs.length)) ⟨h1, h2⟩, Bool.true_and] at hl
  obtain ⟨i, hi, hb⟩ := List.all_eq_false.1 hl
  have hi' := List.mem_range.1 hi
  refine ⟨i, xs[i], List.getElem?_eq_getElem hi', ?_⟩
  simp only [badB, List.getElem?_eq_getElem hi', Bool.not_eq_true', Bool.or_eq_false_iff, not_and] at hb
  cases hh : hasB xs[i] (xs.take i) with
  | true => exact Or.inr (Or.inr (Or.inr rfl))
  | false =>
    rw [hh] at hb
    simp at hb
    omega

/-- The first places of what a value reads as. -/
theorem ints_take {w : World} {B b off k cap : Nat} {xs : List Int} (hk : k ≤ xs.length) (h1 : xs.length ≤ cap) (h2 : xs.length * 8 ≤ 140737488351232) (hb : b < B)
    (hc : ∀ i x, xs[i]? = some x → w.cell? ⟨b, off + i, none⟩ = some (.int .i64 x)) : IntsR w B (.slice (some ⟨b, off, none⟩) k cap) (xs.take k) := by
  refine ⟨some ⟨b, off, none⟩, cap, by rw [List.length_take, Nat.min_eq_left hk], by rw [List.length_take]; omega, by rw [List.length_take]; omega, (by intro h; cases h), fun _ => ⟨b, off, rfl, hb, fun i x hx => hc i x ?_⟩⟩
  rw [List.getElem?_take] at hx
  split at hx
  · exact hx
  · cases hx

end Go.Proofs.YtijilhbdbeajjaaGreatDoor
