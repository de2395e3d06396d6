/- Plain mathematics of pairs that are set one behind another: they stay such that may be; what is set is got; What a Set does behind commands that were made: plain lists; slices.DeleteFunc over a row of sessions whose replies lie elsewhere, with whatever closure: how many are left. (Written by gen_delrow.py.); slices.Clone of sessions: the row anew, the replies where they were; FencesHold's closures: whose session it is, and whether it is fresh; slices.Equal of pairs: what reads as one list is equal (joined by program) -/
import Derived.Lib.SliceRun
import Derived.Laws.StructEq
import Derived.BigQuiet
import Derived.Test.YtkjahjknmfjmkagGreatDoorFH12
import Derived.Test.YtkjahjknmfjmkagGreatDoorFH46
import Derived.Test.YtkjahjknmfjmkagGreatDoorFH45
import Derived.Test.YtkjahjknmfjmkagGreatDoorFH47
import Derived.Test.YtkjahjknmfjmkagGreatDoorFH23
import Derived.Test.YtkjahjknmfjmkagGreatDoorFH00
namespace Go.Proofs.YtkjahjknmfjmkagGreatDoor

open Go.RowKit

theorem thereP_of_mem {ps : List PairD} (h : GoodP ps) {x : PairD} (hx : x ∈ ps) : ps[placeP ps x.name]? = some x ∧ thereP ps x.name = true := by
  obtain ⟨i, hi⟩ := List.mem_iff_getElem?.1 hx
  obtain ⟨e, ht⟩ := placeP_of h hi rfl
  exact ⟨by rw [e]; exact hi, ht⟩

/-- What is got of a pair that is there. -/
theorem getP_mem {ps : List PairD} (h : GoodP ps) {x : PairD} (hx : x ∈ ps) : getP ps x.name = (0, x.version, x.value) := getP_there (thereP_of_mem h hx).1 rfl

/-- Pairs of three names, set a few times. -/
structure KeepP (m : Int) (ps : List PairD) : Prop where
  good : GoodP ps
  names : ∀ x ∈ ps, x.name = ⟨#[97]⟩ ∨ x.name = ⟨#[98]⟩ ∨ x.name = ⟨#[107, 101, 121]⟩
  low : ∀ x ∈ ps, x.version ≤ m

theorem KeepP.nil : KeepP 0 [] := ⟨⟨by simp, fun x hx => (by cases hx), fun i j x y _ hx => (by simp at hx)⟩, fun x hx => (by cases hx), fun x hx => (by cases hx)⟩

theorem KeepP.len {m : Int} {ps : List PairD} (h : KeepP m ps) : ps.length ≤ 3 := by
  match ps, h with
  | [], _ => simp
  | [_], _ => simp
  | [_, _], _ => simp
  | [_, _, _], _ => simp
  | a :: b :: c :: d :: t, h =>
    exfalso
    have o := h.good.order
    have ab := ltP_ne (o 0 1 a b (by omega) rfl rfl)
    have ac := ltP_ne (o 0 2 a c (by omega) rfl rfl)
    have ad := ltP_ne (o 0 3 a d (by omega) rfl rfl)
    have bc := ltP_ne (o 1 2 b c (by omega) rfl rfl)
    have bd := ltP_ne (o 1 3 b d (by omega) rfl rfl)
    have cd := ltP_ne (o 2 3 c d (by omega) rfl rfl)
    rcases h.names a (by simp) with ea | ea | ea <;> rcases h.names b (by simp) with eb | eb | eb <;> rcases h.names c (by simp) with ec | ec | ec <;> rcases h.names d (by simp) with ed | ed | ed <;> rw [ea, eb] at ab <;> rw [ea, ec] at ac <;> rw [ea, ed] at ad <;> rw [eb, ec] at bc <;> rw [eb, ed] at bd <;> rw [ec, ed] at cd <;> first | exact absurd rfl ab | exact absurd rfl ac | exact absurd rfl ad | exact absurd rfl bc | exact absurd rfl bd | exact absurd rfl cd

theorem isK_name {nm : ByteArray} (h : nm = ⟨#[97]⟩ ∨ nm = ⟨#[98]⟩ ∨ nm = ⟨#[107, 101, 121]⟩) : nameB nm = true := by
  rcases h with rfl | rfl | rfl <;> decide

/-- What a set does to them: its reply, what is got ahead of it, the pairs behind it. -/
theorem KeepP.set {m : Int} {ps : List PairD} (h : KeepP m ps) (hm : 0 ≤ m) (hm2 : m < 1073741824) {nm val : ByteArray} (hn : nm = ⟨#[97]⟩ ∨ nm = ⟨#[98]⟩ ∨ nm = ⟨#[107, 101, 121]⟩) (hv : val.size ≤ 12) :
    refuseP ps nm val = 0 ∧ (setP ps nm val).2.1 = 0 ∧ (setP ps nm val).2.2 = (getP ps nm).2.1 + 1 ∧ 0 ≤ (getP ps nm).2.1 ∧ (getP ps nm).2.1 ≤ m ∧ KeepP (m + 1) (setP ps nm val).1 ∧
      (∃ n, (⟨nm, val, n⟩ : PairD) ∈ (setP ps nm val).1) ∧ (∀ y ∈ (setP ps nm val).1, (y.name = nm ∧ y.value = val) ∨ (y ∈ ps ∧ y.name ≠ nm)) ∧ (∀ y ∈ ps, y.name ≠ nm → y ∈ (setP ps nm val).1) ∧
      (setP ps nm val).1.length = (if thereP ps nm = true then ps.length else ps.length + 1) := by
  have hnb := isK_name hn
  have hg := setP_good (val := val) h.good hnb hv
  have h3 := h.len
  have hr : refuseP ps nm val = 0 := by
    unfold refuseP
    rw [if_neg (by rw [h.good.check]; simp), if_neg (by rw [hnb]; simp), if_neg (by omega)]
  refine ⟨hr, ?_⟩
  cases ht : thereP ps nm with
  | true =>
    obtain ⟨x, hx, he⟩ := thereP_yes ht
    have hxm := List.mem_of_getElem? hx
    have hxx := h.good.each x hxm
    have hxl := h.low x hxm
    have hf : ¬ x.version = 1073741824 := by omega
    have e1 := setP_there (val := val) hx he hf
    have e2 := getP_there hx he
    rw [e1] at hg
    rw [e1, e2]
    have hl := (List.getElem?_eq_some_iff.1 hx).1
    refine ⟨rfl, rfl, by simp only; omega, hxl, ⟨hg, fun y hy => ?_, fun y hy => ?_⟩, ⟨x.version + 1, ?_⟩, fun y hy => ?_, fun y hy hne => ?_, ?_⟩
    · rcases List.mem_or_eq_of_mem_set hy with hy | rfl
      · exact h.names y hy
      · exact h.names x hxm
    · rcases List.mem_or_eq_of_mem_set hy with hy | rfl
      · have := h.low y hy; omega
      · show x.version + 1 ≤ m + 1; omega
    · have k := List.mem_iff_getElem?.2 ⟨_, List.getElem?_set_self (a := (⟨x.name, val, x.version + 1⟩ : PairD)) hl⟩
      rw [he] at k
      simp only
      rw [he]
      exact k
    · obtain ⟨j, hj⟩ := List.mem_iff_getElem?.1 hy
      by_cases e : placeP ps nm = j
      · rw [← e] at hj
        simp only at hj
        rw [List.getElem?_set_self hl] at hj
        cases hj
        exact Or.inl ⟨he, rfl⟩
      · simp only at hj
        rw [List.getElem?_set_ne e] at hj
        have hym := List.mem_of_getElem? hj
        refine Or.inr ⟨hym, fun en => e ?_⟩
        exact (placeP_of h.good hj en).1
    · obtain ⟨j, hj⟩ := List.mem_iff_getElem?.1 hy
      by_cases e : placeP ps nm = j
      · rw [← e, hx] at hj
        cases hj
        exact absurd he hne
      · exact List.mem_iff_getElem?.2 ⟨j, by simp only; rw [List.getElem?_set_ne e]; exact hj⟩
    · simp
  | false =>
    have e1 := setP_new (val := val) ht (by omega)
    have e2 := getP_none ht
    rw [e1] at hg
    rw [e1, e2]
    refine ⟨rfl, rfl, by simp, hm, ⟨hg, fun y hy => ?_, fun y hy => ?_⟩, ⟨1, by simp⟩, fun y hy => ?_, fun y hy hne => ?_, ?_⟩
    · simp only at hy
      rcases List.mem_append.1 hy with hy | hy
      · exact h.names y (List.mem_of_mem_take hy)
      · rcases List.mem_cons.1 hy with rfl | hy
        · exact hn
        · exact h.names y (List.mem_of_mem_drop hy)
    · simp only at hy
      rcases List.mem_append.1 hy with hy | hy
      · have := h.low y (List.mem_of_mem_take hy); omega
      · rcases List.mem_cons.1 hy with rfl | hy
        · show (1 : Int) ≤ m + 1; omega
        · have := h.low y (List.mem_of_mem_drop hy); omega
    · simp only at hy
      have no : ∀ z ∈ ps, z.name ≠ nm := fun z hz => by
        obtain ⟨j, hj⟩ := List.mem_iff_getElem?.1 hz
        exact thereP_no h.good ht j z hj
      rcases List.mem_append.1 hy with hy | hy
      · exact Or.inr ⟨List.mem_of_mem_take hy, no y (List.mem_of_mem_take hy)⟩
      · rcases List.mem_cons.1 hy with rfl | hy
        · exact Or.inl ⟨rfl, rfl⟩
        · exact Or.inr ⟨List.mem_of_mem_drop hy, no y (List.mem_of_mem_drop hy)⟩
    · simp only
      rw [← List.take_append_drop (placeP ps nm) ps] at hy
      rcases List.mem_append.1 hy with hy | hy
      · exact List.mem_append_left _ hy
      · exact List.mem_append_right _ (List.mem_cons_of_mem _ hy)
    · have := placeP_le ps nm
      simp; omega

end Go.Proofs.YtkjahjknmfjmkagGreatDoor

namespace Go.Proofs.YtkjahjknmfjmkagGreatDoor

open Go.RowKit

/-- What was told to be known is low. -/
def AckS (m : Int) (ls : List SessD) : Prop := ∀ x ∈ ls, x.acked ≤ m

theorem AckS.put {m : Int} {ls : List SessD} (h : AckS m ls) {y : SessD} (hy : y.acked ≤ m) (p : Nat) : AckS m (ls.set p y) := fun z hz => by
  rcases List.mem_or_eq_of_mem_set hz with hz | rfl
  · exact h z hz
  · exact hy

theorem AckS.sub {m : Int} {ls xs : List SessD} (h : AckS m ls) (hs : xs.Sublist ls) : AckS m xs := fun x hx => h x (hs.subset hx)

theorem AckS.join {m : Int} {ls : List SessD} (h : AckS m ls) (hm : 0 ≤ m) (i c : Int) : AckS m (joinS ls i c).1 := by
  cases ht : thereS ls c with
  | true =>
    obtain ⟨x, hx, e⟩ := thereS_some ht
    rw [joinS_there ht hx]
    exact h.put (y := { x with last := i + 1 }) (h x (List.mem_of_getElem? hx)) _
  | false =>
    by_cases h4 : ls.length = 4
    · rw [joinS_full ht h4]; exact h
    · rw [joinS_new ht h4]
      intro x hx
      rcases List.mem_append.1 hx with hx | hx
      · exact h x (List.mem_of_mem_take hx)
      · rcases List.mem_cons.1 hx with rfl | hx
        · exact hm
        · exact h x (List.mem_of_mem_drop hx)

theorem AckS.leave {m : Int} {ls : List SessD} (h : AckS m ls) (c : Int) : AckS m (leaveS ls c).1 := by
  unfold leaveS
  split
  · exact h.sub (List.eraseIdx_sublist ..)
  · exact h

theorem AckS.ready {m : Int} {ls : List SessD} (h : AckS m ls) (i c s : Int) {q u : Int} (hu : u ≤ m) : AckS m (readyS ls i c s q u).1 := by
  cases ht : thereS ls c with
  | false => rw [readyS_away ht]; exact h
  | true =>
    obtain ⟨x, hx, e⟩ := thereS_some ht
    by_cases hsn : x.id = s
    · rw [readyS_here ht hx hsn]
      refine h.put (y := hearD x (i + 1) u) ?_ _
      have := h x (List.mem_of_getElem? hx)
      show max x.acked u ≤ m
      omega
    · rw [readyS_other ht hx hsn]; exact h

theorem AckS.keep {m : Int} {ls : List SessD} (h : AckS m ls) (c : Int) (k : KeptD) : AckS m (keepS ls c k) := by
  unfold keepS
  split
  · rename_i x hx
    exact h.put (y := { x with replies := withK x.replies k }) (h x (List.mem_of_getElem? hx)) _
  · exact h

theorem KeepP.mono {m m' : Int} {ps : List PairD} (h : KeepP m ps) (hm : m ≤ m') : KeepP m' ps := ⟨h.good, h.names, fun x hx => by have := h.low x hx; omega⟩

theorem operM_pairs {s : StateD} {m : Int} (h : KeepP m s.pairs) (hm : 0 ≤ m) (hm2 : m < 1073741824) {c k : Int} {a b : ByteArray} {n : Int} (ha : a = ⟨#[97]⟩ ∨ a = ⟨#[98]⟩ ∨ a = ⟨#[107, 101, 121]⟩) (hb : b.size ≤ 12) : KeepP (m + 1) (operM s c k a b n).1.pairs := by
  have h' := h.mono (m' := m + 1) (by omega)
  unfold operM
  split
  · exact h'
  · split
    · exact h'
    · split
      · exact h'
      · split
        · exact h'
        · split
          · split
            · exact (h.set hm hm2 ha hb).2.2.2.2.2.1
            · exact h'
          · exact h'

/-- What stays behind each of the commands that are made. -/
structure KeepM (m : Nat) (s : StateD) : Prop where
  pairs : KeepP s.index s.pairs
  acked : AckS m s.sess

theorem applyM_keep {m : Nat} {s : StateD} (h : KeepM m s) (h0 : 0 ≤ s.index) (hi : s.index < 1073741824) {x : CmdD} (hx : KeepX m x) : KeepM m (applyM s x).1 := by
  obtain ⟨hk, hc, h2⟩ := cmdE_parts hx.err
  have hp' := h.pairs.mono (m' := s.index + 1) (by omega)
  have hd : AckS m (freshS s.sess s.index) := h.acked.sub List.filter_sublist
  show KeepM m { (obeyM (dropM s) x).1 with index := s.index + 1 }
  unfold obeyM
  split
  · exact ⟨hp', hd.join (by omega) _ _⟩
  · split
    · exact ⟨hp', hd.leave _⟩
    · have hk2 : x.kind = 2 := by omega
      obtain ⟨-, hq, hu, ho⟩ := h2 hk2
      obtain ⟨-, -, o3⟩ := opE_zero ho
      have hxa := hx.seq
      have hr := hd.ready (dropM s).index x.client x.session (q := x.seq) (u := x.acked) (by omega)
      unfold callM
      split
      · refine ⟨?_, ?_⟩
        · exact operM_pairs (s := { dropM s with sess := (readyS (dropM s).sess (dropM s).index x.client x.session x.seq x.acked).1 }) (m := s.index) h.pairs h0 hi (hx.name hk2) o3
        · exact AckS.keep hr _ _
      · exact ⟨hp', hr⟩

theorem runM_keep (m : Nat) (xs : List CmdD) (hok : ∀ x ∈ xs, KeepX m x) (hl : xs.length ≤ 1000) (k : Nat) (hk : k ≤ xs.length) : KeepM m (runM (xs.take k)) := by
  induction k with
  | zero => exact ⟨KeepP.nil, fun x hx => (by cases hx)⟩
  | succ k ih =>
    have hlt : k < xs.length := by omega
    have hx := hok xs[k] (List.getElem_mem hlt)
    obtain ⟨-, -, h3⟩ := runM_good xs (fun x hx => (hok x hx).err) hl k (by omega)
    rw [List.take_succ_eq_append_getElem hlt, runM_snoc]
    exact applyM_keep (ih (by omega)) (by rw [h3]; omega) (by rw [h3]; omega) hx

/-- All are fresh: nothing is dropped. -/
theorem dropM_all {s : StateD} (h : ∀ y ∈ s.sess, freshP s.index y = true) : dropM s = s := by
  have e : freshS s.sess s.index = s.sess := List.filter_eq_self.2 h
  unfold dropM
  rw [e]
  have key : ∀ (ss : List SessD) (ks : List LockD), (∀ y ∈ ss, y ∈ s.sess) → dropL s.sess ks ss = ks := by
    intro ss
    induction ss with
    | nil => intro ks _; rfl
    | cons x r ih =>
      intro ks hs
      unfold dropL
      rw [List.foldl_cons, if_pos (hasS_iff.2 ⟨x, hs x (by simp), rfl⟩)]
      exact ih ks (fun y hy => hs y (by simp [hy]))
  rw [key _ _ (fun y hy => hy)]

/-- The Set that is asked. -/
def setC (x : SessD) (seq : Int) (nm : ByteArray) (k : Int) : CmdD := ⟨2, x.client, x.id, seq, x.acked, 5, nm, ⟨#[110, 101, 119]⟩, k⟩

/-- What is asked of the session: its next number. -/
structure NextQ (x : SessD) (seq : Int) : Prop where
  above : x.acked < seq
  room : seq ≤ x.acked + 4
  new : ∀ k ∈ x.replies, k.seq < seq

theorem setC_ok {s : StateD} {m : Nat} (hm : m ≤ 100) (hg : GoodM s) (hk : KeepM m s) (hi : s.index ≤ 100) {x : SessD} (hx : x ∈ s.sess) {seq : Int} (hq : NextQ x seq) {nm : ByteArray} (hn : nameB nm = true) {k : Int} (hk1 : 1 ≤ k) (hk4 : k ≤ 4) : (setC x seq nm k).err = 0 := by
  have hr := rangeB_iff.1 (hg.sess.fine x hx).range
  have ha := hk.acked x hx
  have h1 := hq.above
  have h2 := hq.room
  show cmdE 2 x.client x.id seq x.acked 5 nm ⟨#[110, 101, 119]⟩ k = 0
  rw [cmdE_callYes (by omega) ⟨⟨by omega, by omega⟩, ⟨by omega, by omega⟩, ⟨by omega, by omega⟩⟩]
  rw [opE_past (by omega) hn (.inl rfl), if_neg (by decide), if_pos rfl, if_pos (by omega)]

/-- An idle session: the Set is refused. -/
theorem setC_idle {s : StateD} (hg : GoodM s) {x : SessD} (hx : x ∈ s.sess) (hf : freshP s.index x = false) (seq : Int) (nm : ByteArray) (k : Int) : (applyM s (setC x seq nm k)).2.code = 11 ∧ (applyM s (setC x seq nm k)).1.pairs = s.pairs := by
  have ht : thereS (freshS s.sess s.index) x.client = false := by
    cases ht : thereS (freshS s.sess s.index) x.client with
    | false => rfl
    | true =>
      obtain ⟨y, hy, e⟩ := thereS_some ht
      have hym := List.mem_of_getElem? hy
      obtain ⟨h1, h2⟩ := List.mem_filter.1 hym
      rw [one_sess hg.sess.order h1 hx e, hf] at h2
      cases h2
  have e : (readyS (dropM s).sess (dropM s).index (setC x seq nm k).client (setC x seq nm k).session (setC x seq nm k).seq (setC x seq nm k).acked) = (freshS s.sess s.index, ⟨11, 0, ⟨#[]⟩⟩, false) := readyS_away ht
  have eo : obeyM (dropM s) (setC x seq nm k) = callM (dropM s) (setC x seq nm k) := rfl
  have ec : callM (dropM s) (setC x seq nm k) = ({ dropM s with sess := freshS s.sess s.index }, ⟨11, 0, ⟨#[]⟩⟩) := by
    unfold callM
    rw [e]
    rfl
  unfold applyM
  rw [eo, ec]
  exact ⟨rfl, rfl⟩

/-- All sessions fresh: the operation is done. -/
theorem setC_done {s : StateD} (hg : GoodM s) (hf : ∀ y ∈ s.sess, freshP s.index y = true) {x : SessD} (hx : x ∈ s.sess) {seq : Int} (hq : NextQ x seq) (nm : ByteArray) (k : Int) :
    (applyM s (setC x seq nm k)).2 = (operM { s with sess := s.sess.set (placeS s.sess x.client) (hearD x (s.index + 1) x.acked) } x.client 5 nm ⟨#[110, 101, 119]⟩ k).2 ∧ (applyM s (setC x seq nm k)).1.pairs = (operM { s with sess := s.sess.set (placeS s.sess x.client) (hearD x (s.index + 1) x.acked) } x.client 5 nm ⟨#[110, 101, 119]⟩ k).1.pairs := by
  obtain ⟨p1, p2⟩ := place_of hg.sess.order hx
  have e0 := readyS_here (i := s.index) (s := x.id) (q := seq) (u := x.acked) p2 p1 rfl
  have hform := (hg.sess.fine x hx).form
  have hmem := formFrom_mem hform
  have ha : answerD (hearD x (s.index + 1) x.acked) seq = (⟨0, 0, ⟨#[]⟩⟩, true) := by
    have e1 : (hearD x (s.index + 1) x.acked).acked = x.acked := by show max x.acked x.acked = x.acked; omega
    have hno : thereK (hearD x (s.index + 1) x.acked).replies seq = false := by
      cases ht : thereK (hearD x (s.index + 1) x.acked).replies seq with
      | false => rfl
      | true =>
        unfold thereK at ht
        split at ht
        · rename_i y hy
          have hym := List.mem_of_getElem? hy
          obtain ⟨h1, h2⟩ := List.mem_filter.1 hym
          have := hq.new y h1
          have : y.seq = seq := by simpa using ht
          omega
        · cases ht
    unfold answerD
    rw [e1, if_neg (by have := hq.above; omega), hno]
    simp only
    rw [if_neg (by have := hq.room; omega)]
  have e : readyS s.sess s.index (setC x seq nm k).client (setC x seq nm k).session (setC x seq nm k).seq (setC x seq nm k).acked = (s.sess.set (placeS s.sess x.client) (hearD x (s.index + 1) x.acked), ⟨0, 0, ⟨#[]⟩⟩, true) := by
    rw [← ha]; exact e0
  have eo : obeyM (dropM s) (setC x seq nm k) = callM s (setC x seq nm k) := by rw [dropM_all hf]; rfl
  unfold applyM
  rw [eo]
  unfold callM
  rw [e]
  exact ⟨rfl, rfl⟩

/-- Who has not the lock with that fence changes nothing. -/
theorem setC_held {s : StateD} (hg : GoodM s) (hf : ∀ y ∈ s.sess, freshP s.index y = true) {x : SessD} (hx : x ∈ s.sess) {seq : Int} (hq : NextQ x seq) {nm : ByteArray} {k : Int} (hn : ¬ ((whoL s.locks nm).1 = x.client ∧ (whoL s.locks nm).2 = k)) :
    (applyM s (setC x seq nm k)).2.code = 10 ∧ (applyM s (setC x seq nm k)).2.n = (whoL s.locks nm).1 ∧ (applyM s (setC x seq nm k)).1.pairs = s.pairs := by
  obtain ⟨e1, e2⟩ := setC_done hg hf hx hq nm k
  have e : operM { s with sess := s.sess.set (placeS s.sess x.client) (hearD x (s.index + 1) x.acked) } x.client 5 nm ⟨#[110, 101, 119]⟩ k = ({ s with sess := s.sess.set (placeS s.sess x.client) (hearD x (s.index + 1) x.acked) }, ⟨10, (whoL s.locks nm).1, ⟨#[]⟩⟩) := by
    unfold operM
    rw [if_neg (by omega), if_neg (by omega), if_neg (by omega), if_neg (by omega), if_pos rfl, if_neg hn]
  rw [e1, e2, e]
  exact ⟨rfl, rfl, rfl⟩

/-- Who has the lock with that fence sets the value. -/
theorem setC_set {s : StateD} {m : Nat} (hg : GoodM s) (hk : KeepM m s) (hi : s.index < 1073741824) (hf : ∀ y ∈ s.sess, freshP s.index y = true) {x : SessD} (hx : x ∈ s.sess) {seq : Int} (hq : NextQ x seq) {nm : ByteArray} (hnm : nm = ⟨#[97]⟩ ∨ nm = ⟨#[98]⟩ ∨ nm = ⟨#[107, 101, 121]⟩) {k : Int} (hn : (whoL s.locks nm).1 = x.client ∧ (whoL s.locks nm).2 = k) :
    (applyM s (setC x seq nm k)).2.code = 0 ∧ getP (applyM s (setC x seq nm k)).1.pairs nm = (0, (applyM s (setC x seq nm k)).2.n, ⟨#[110, 101, 119]⟩) ∧ GoodP (applyM s (setC x seq nm k)).1.pairs := by
  obtain ⟨e1, e2⟩ := setC_done hg hf hx hq nm k
  have e : operM { s with sess := s.sess.set (placeS s.sess x.client) (hearD x (s.index + 1) x.acked) } x.client 5 nm ⟨#[110, 101, 119]⟩ k = ({ s with sess := s.sess.set (placeS s.sess x.client) (hearD x (s.index + 1) x.acked), pairs := (setP s.pairs nm ⟨#[110, 101, 119]⟩).1 }, ⟨(setP s.pairs nm ⟨#[110, 101, 119]⟩).2.1, (setP s.pairs nm ⟨#[110, 101, 119]⟩).2.2, ⟨#[]⟩⟩) := by
    unfold operM
    rw [if_neg (by omega), if_neg (by omega), if_neg (by omega), if_neg (by omega), if_pos rfl, if_pos hn]
  obtain ⟨-, h1, -, -, -, h5, -, -, -, -⟩ := hk.pairs.set hg.sess.low hi hnm (val := ⟨#[110, 101, 119]⟩) (by decide)
  rw [e1, e2, e]
  refine ⟨h1, ?_, h5.good⟩
  show getP (setP s.pairs nm ⟨#[110, 101, 119]⟩).1 nm = (0, (setP s.pairs nm ⟨#[110, 101, 119]⟩).2.2, ⟨#[110, 101, 119]⟩)
  cases ht : thereP s.pairs nm with
  | true =>
    obtain ⟨y, hy, he⟩ := thereP_yes ht
    have hl := hk.pairs.low y (List.mem_of_getElem? hy)
    have eS := setP_there (val := ⟨#[110, 101, 119]⟩) hy he (by omega)
    have hgd := h5.good
    rw [eS] at hgd ⊢
    have hmm : (⟨y.name, ⟨#[110, 101, 119]⟩, y.version + 1⟩ : PairD) ∈ s.pairs.set (placeP s.pairs nm) ⟨y.name, ⟨#[110, 101, 119]⟩, y.version + 1⟩ := List.mem_iff_getElem?.2 ⟨_, List.getElem?_set_self (List.getElem?_eq_some_iff.1 hy).1⟩
    have := getP_mem hgd hmm
    rw [he] at this ⊢
    exact this
  | false =>
    have hl := hk.pairs.len
    have eS := setP_new (val := ⟨#[110, 101, 119]⟩) ht (by omega)
    have hgd := h5.good
    rw [eS] at hgd ⊢
    exact getP_mem (x := ⟨nm, ⟨#[110, 101, 119]⟩, 1⟩) hgd (by simp)

end Go.Proofs.YtkjahjknmfjmkagGreatDoor

namespace Go.Proofs.YtkjahjknmfjmkagGreatDoor

open Go.RowKit

set_option maxRecDepth 100000 in
set_option maxHeartbeats 3200000 in
theorem deleteFuncR (g n cap : Nat) (rs : List (SessD × Value)) (cl : Nat) (lb : Array Value) (p : SessD → Bool) (w : World) (base : Nat) (h : w.ownsRow base 41 5 (.slice (some ⟨g, 0, none⟩) n cap) n (flatG sessCells rs)) (hn : n = rs.length) (hlen : rs.length * 56 ≤ 140737488351232) (hsl : ∀ r ∈ rs, ∃ lo m lc, r.2 = .slice lo m lc) (hrd : SessR w w.heap.size (.slice (some ⟨g, 0, none⟩) n cap) (rs.map (·.1)))
    (eg : ∀ args w, (callFunc cl args).run Tryz.prog w = .ok (.enter cl args) w) (hp : PredS cl lb p (rs.map (·.1)) (fun b => b = g) w) :
    Calls Tryz.prog 21 #[.slice (some ⟨g, 0, none⟩) n cap, .func (.func cl) #[] lb] w fun e w' => ∃ m, e = .returned (.slice (some ⟨g, 0, none⟩) m cap) ∧ m = (rs.filter fun r => !p r.1).length ∧ TouchG w w' (fun b => b = g) := by
  have CI := indexS _ _ cl lb p _ w w.heap.size hrd (Nat.le_refl _) eg hp
  have HP := ghid hp
  have HO := ghid h
  have hgb := h.lt g rfl
  have HSL := ghid hsl
  obtain ⟨i0, hi, hz0, hz1, hz2⟩ := info_parts Tryz.infoSess
  rcases first_or_none (fun r : SessD × Value => p r.1) rs with ⟨k0, r0, hr0, hpr0, hbef⟩ | hnone
  · skip
    have hk0 : k0 < rs.length := (List.getElem?_eq_some_iff.1 hr0).1
    have hI := (idxI_found (p := p) (ls := rs.map (·.1)) (k := k0) (x := r0.1) (by rw [List.getElem?_map, hr0]; rfl) hpr0 (fun j y hj hy => by
      rw [List.getElem?_map] at hy
      obtain ⟨r, hr, rfl⟩ := Option.map_eq_some_iff.1 hy
      exact hbef j r hj hr)).1
    rw [hI] at CI
    have HST : Hid (KeptInvG (fun r : SessD × Value => !p r.1) rs rs k0 (k0 + 1)) := KeptInvG.start hr0 (by simp [hpr0]) (fun j y hj hy => by simp [hbef j y hj hy])
    have hne1 : ((k0 : Int) == -1) = false := beq_eq_false_iff_ne.2 (by omega)
    subst hn
    clear h hp hbef hr0 hI hsl hrd
    go_enter Tryz.func21, Tryz.ntmps21
    go_wp2_with fail
    refine CI.mono ?_
    rintro e w1 ⟨rfl, hb1⟩
    go_wp2
    go_loopw [5, 6] (fun iv jv wr => ∃ (i j : Nat) (ys : List (SessD × Value)), iv = .int .i64 i ∧ jv = .int .i64 j ∧ KeptInvG (fun r : SessD × Value => !p r.1) rs ys i j ∧ wr.ownsRow base 41 5 (.slice (some ⟨g, 0, none⟩) rs.length cap) rs.length (flatG sessCells ys) ∧ TouchG w wr (fun b => b = g)) (fun _ jv _ => rs.length - (intOf jv).toNat)
    case atStart => exact ⟨k0, k0 + 1, rs, rfl, by go_num, HST.out, grow_below HO.out hb1 (Nat.le_refl _), TouchG.of_below hb1 (Nat.le_refl _) _⟩
    case round =>
      clear HST hb1 CI
      obtain ⟨i, j, ys, rfl, rfl, hK, hrow, hT⟩ := hrel
      have hij := hK.lt
      have hjl := hK.le
      have hyl := hK.len
      have hsz := hT.size
      have HK := ghid hK
      have HYL := ghid hyl
      have HR := ghid hrow
      have HT := ghid hT
      have hgr : g < wr.heap.size := by omega
      clear hK hT
      by_cases hlt : j < rs.length
      · obtain ⟨r, hr⟩ : ∃ r, rs[j]? = some r := ⟨_, List.getElem?_eq_getElem hlt⟩
        have hyj : ys[j]? = some r := (HK.out.back j (Nat.le_refl _)).trans hr
        obtain ⟨y, hyi⟩ : ∃ y, ys[i]? = some y := ⟨_, List.getElem?_eq_getElem (by omega)⟩
        have key : ∀ q z, ys[q]? = some z → ∀ o, o < 5 → wr.cell? ⟨g, q * 5 + o, none⟩ = (sessCells z)[o]? := fun q z hz o ho => by
          have hq : q < ys.length := (List.getElem?_eq_some_iff.1 hz).1
          rw [hrow.cellAt (q * 5 + o) (by omega), flatG_at sessCells_len hz o ho]
        obtain ⟨lo, ln, lc, hlv⟩ := HSL.out r (List.mem_of_getElem? hr)
        obtain ⟨⟨xc, xi, xa, xt, xk⟩, xv⟩ := r
        obtain ⟨⟨yc, yi, ya, yt, yk⟩, yv⟩ := y
        simp only at hlv
        subst hlv
        have c0 := key j _ hyj 0 (by omega)
        have c1 := key j _ hyj 1 (by omega)
        have c2 := key j _ hyj 2 (by omega)
        have c3 := key j _ hyj 3 (by omega)
        have c4 := key j _ hyj 4 (by omega)
        have d0 := key i _ hyi 0 (by omega)
        have d1 := key i _ hyi 1 (by omega)
        have d2 := key i _ hyi 2 (by omega)
        have d3 := key i _ hyi 3 (by omega)
        have d4 := key i _ hyi 4 (by omega)
        simp only [sessCells, List.getElem?_cons_zero, List.getElem?_cons_succ, Nat.add_zero] at c0 c1 c2 c3 c4 d0 d1 d2 d3 d4
        have df : ∀ o, wr.frozen? ⟨g, o, none⟩ = false := fun o => hrow.frozenAt o
        have HX := ghid hr
        have HYI := ghid hyi
        have hba : Below wr.heap.size wr (wr.alloc (.cells #[.int .i64 xc, .int .i64 xi, .int .i64 xa, .int .i64 xt, .slice lo ln lc] 41)) := (Below.refl _ _).alloc (Nat.le_refl _) _
        have HBA := ghid hba
        have C := HP.out ⟨xc, xi, xa, xt, xk⟩ lo ln lc (wr.alloc (.cells #[.int .i64 xc, .int .i64 xi, .int .i64 xa, .int .i64 xt, .slice lo ln lc] 41)) (List.mem_map.2 ⟨_, List.mem_of_getElem? hr, rfl⟩) (HT.out.trans (TouchG.of_below hba (Nat.le_refl _) (fun _ => False)) (fun _ _ h => h.elim))
        simp only at C
        have hgne : g ≠ wr.heap.size := by omega
        have hgne' : wr.heap.size ≠ g := by omega
        clear key hr hyj hyi hba hrow hyl
        cases hq : p ⟨xc, xi, xa, xt, xk⟩ with
        | true =>
          rw [hq] at C
          have HN := ghid (HK.out.skip HX.out (by simp [hq]))
          clear hq
          go_wp2_with fail
          refine C.mono ?_
          rintro e w2 ⟨rfl, hb2⟩
          have HB2 := ghid (HBA.out.trans (hb2.mono (by simp)))
          clear hb2 C c0 c1 c2 c3 c4 d0 d1 d2 d3 d4
          go_wp2
          go_roundw
          case rel => exact ⟨i, j + 1, ys, rfl, by go_num, HN.out, grow_below HR.out HB2.out (Nat.le_refl _), HT.out.trans (TouchG.of_below HB2.out (Nat.le_refl _) (fun _ => False)) (fun _ _ h => h.elim)⟩
          case measure => simp [intOf]; omega
        | false =>
          rw [hq] at C
          have HN := ghid (HK.out.keep HX.out (by simp [hq]))
          clear hq
          go_wp2_with fail
          refine C.mono ?_
          rintro e w2 ⟨rfl, hb2⟩
          obtain ⟨hc2, hf2⟩ := gcell hb2
          have hz2 : wr.heap.size < w2.heap.size := by have := hb2.size; simp at this; omega
          have hz3 : g < w2.heap.size := by omega
          have HB2 := ghid (HBA.out.trans (hb2.mono (by simp)))
          clear hb2 C
          go_wp2
          go_roundw
          case rel => exact ⟨i + 1, j + 1, ys.set i (⟨xc, xi, xa, xt, xk⟩, .slice lo ln lc), by go_num, by go_num, HN.out, srow_put (grow_below HR.out HB2.out (Nat.le_refl _)) HYI.out (⟨xc, xi, xa, xt, xk⟩, .slice lo ln lc), (HT.out.trans (TouchG.of_below HB2.out (Nat.le_refl _) (fun _ => False)) (fun _ _ h => h.elim)).put5 rfl _ _ _ _ _⟩
          case measure => simp [intOf]; omega
      · have hje : j = rs.length := by omega
        subst hje
        obtain ⟨cur, hcur, hcs, hnc⟩ : ∃ cur, wr.heap[g]? = some (.cells cur 41 (0, 0)) ∧ cur.size = cap * 5 ∧ rs.length ≤ cap := by
          rcases hrow.2 with ⟨h', _⟩ | ⟨g', cap', cur', h', _, hh, hle', _, hcs', _⟩
          · cases h'
          · simp only [Value.slice.injEq, Option.some.injEq, Addr.mk.injEq, and_true, true_and] at h'
            obtain ⟨rfl, rfl⟩ := h'
            exact ⟨cur', hh, hcs', hle'⟩
        obtain ⟨zs, hzl, hcl⟩ := run_clear_wide (P := Tryz.prog) wr 25 41 i0 _ Tryz.underlying25 hi hz0 sess_zero_one (by simp [Value.cells]) g (i * 5) (rs.length - i) (cap - i) cur _ (by omega) hcur (by simp [Value.cells]; omega)
        obtain ⟨Wf, hWf⟩ : ∃ Wf, Wf = wr.setRow g (cur.toList.take (i * 5) ++ zs ++ cur.toList.drop (i * 5 + zs.length)).toArray := ⟨_, rfl⟩
        rw [← hWf] at hcl
        have HN : Hid (i = (rs.filter fun r => !p r.1).length) := by
          have hd := HK.out.done
          unfold Hid
          rw [← hd, List.length_take]
          omega
        have HT2 : Hid (TouchG w Wf (fun b => b = g)) := by unfold Hid; rw [hWf]; exact HT.out.setRow (g := g) rfl _
        have hci1 : ¬ cap = i := by omega
        have hci2 : i ≤ cap := by omega
        clear hrow hcur hyl hWf hzl
        go_wp2
        go_ret
        exact ⟨i, rfl, HN.out, HT2.out⟩
  · have hI := (idxI_none (p := p) (ls := rs.map (·.1)) (fun j y hy => by
      rw [List.getElem?_map] at hy
      obtain ⟨r, hr, rfl⟩ := Option.map_eq_some_iff.1 hy
      exact hnone j r hr)).1
    rw [hI] at CI
    have hfil : (rs.filter fun r => !p r.1) = rs := by
      rw [List.filter_eq_self]
      intro r hr
      obtain ⟨j, hj⟩ := List.mem_iff_getElem?.1 hr
      simpa using hnone j r hj
    rw [hfil]
    subst hn
    clear h hp hnone hI hfil hsl hrd hi hz0 hz1 hz2
    go_enter Tryz.func21, Tryz.ntmps21
    go_wp2_with fail
    refine CI.mono ?_
    rintro e w1 ⟨rfl, hb1⟩
    go_wp2
    go_ret
    exact ⟨_, rfl, rfl, TouchG.of_below hb1 (Nat.le_refl _) _⟩

end Go.Proofs.YtkjahjknmfjmkagGreatDoor

namespace Go.Proofs.YtkjahjknmfjmkagGreatDoor

open Go.RowKit

/-- The cells of sessions, as they lie. -/
theorem sess_rows {w : World} {B b off : Nat} {ls : List SessD} (h : ∀ (i : Nat) (x : SessD), ls[i]? = some x → SessAt w B b (off + i * 5) x) :
    ∃ rs : List (SessD × Value), rs.map (·.1) = ls ∧ (∀ r ∈ rs, KeptsR w B r.2 r.1.replies) ∧ ∀ (j : Nat) (u : Value), (flatG sessCells rs)[j]? = some u → w.cell? ⟨b, off + j, none⟩ = some u := by
  induction ls generalizing off with
  | nil => exact ⟨[], rfl, fun r hr => (by cases hr), fun j u hu => by simp [flatG] at hu⟩
  | cons x r ih =>
    obtain ⟨rs, e, hk, hc⟩ := ih (off := off + 5) (fun i y hy => by
      have := h (i + 1) y hy
      rwa [show off + (i + 1) * 5 = off + 5 + i * 5 by omega] at this)
    obtain ⟨lv, c0, c1, c2, c3, c4, hl⟩ := h 0 x rfl
    rw [Nat.zero_mul, Nat.add_zero] at c0 c1 c2 c3 c4
    refine ⟨(x, lv) :: rs, by rw [List.map_cons, e], fun q hq => ?_, fun j u hu => ?_⟩
    · rcases List.mem_cons.1 hq with rfl | hq
      · exact hl
      · exact hk q hq
    · rw [flatG_cons] at hu
      by_cases hj : j < 5
      · rw [List.getElem?_append_left (by simpa [sessCells] using hj)] at hu
        rcases (by omega : j = 0 ∨ j = 1 ∨ j = 2 ∨ j = 3 ∨ j = 4) with rfl | rfl | rfl | rfl | rfl <;> simp [sessCells] at hu <;> subst hu <;> assumption
      · rw [List.getElem?_append_right (by simp [sessCells]; omega)] at hu
        have := hc (j - 5) u (by simpa [sessCells] using hu)
        rwa [show off + 5 + (j - 5) = off + j by omega] at this

theorem sess_rows_one {w : World} {B : Nat} {rs : List (SessD × Value)} (hk : ∀ r ∈ rs, KeptsR w B r.2 r.1.replies) : ∀ u ∈ flatG sessCells rs, u.oneCell' = true := by
  intro u hu
  obtain ⟨r, hr, hur⟩ := List.mem_flatMap.1 hu
  obtain ⟨ao, cap, e, -⟩ := hk r hr
  exact sessCells_one r (by rw [e]; rfl) u hur

/-- A row of sessions in memory of its own, the replies elsewhere, reads as the sessions. -/
theorem sess_row_reads {w : World} {base B : Nat} {v : Value} {rs : List (SessD × Value)} (hrow : w.ownsRow base 41 5 v rs.length (flatG sessCells rs)) (hlen : rs.length * 56 ≤ 140737488351232) (hk : ∀ r ∈ rs, KeptsR w B r.2 r.1.replies) (hB : w.heap.size ≤ B) : SessR w B v (rs.map (·.1)) := by
  rcases hrow.2 with ⟨rfl, hn⟩ | ⟨g, cap, cur, rfl, _, hg, hle, hcm, hcs, htake⟩
  · have : rs = [] := List.eq_nil_of_length_eq_zero hn
    subst this
    exact SessR.nil _ _
  · refine ⟨some ⟨g, 0, none⟩, cap, by rw [List.length_map], by rw [List.length_map]; exact hle, by rw [List.length_map]; exact hlen, (by intro h; cases h), fun _ => ⟨g, 0, rfl, ?_, fun i x hx => ?_⟩⟩
    · have := (hrow.lt g rfl).2; omega
    · rw [List.getElem?_map] at hx
      obtain ⟨r, hr, rfl⟩ := Option.map_eq_some_iff.1 hx
      have hi : i < rs.length := (List.getElem?_eq_some_iff.1 hr).1
      have key : ∀ j, j < 5 → w.cell? ⟨g, 0 + i * 5 + j, none⟩ = (sessCells r)[j]? := fun j hj => by
        rw [Nat.zero_add, hrow.cellAt (i * 5 + j) (by omega), flatG_at sessCells_len hr j hj]
      exact ⟨r.2, by simpa [sessCells] using key 0 (by omega), by simpa [sessCells] using key 1 (by omega), by simpa [sessCells] using key 2 (by omega), by simpa [sessCells] using key 3 (by omega), by simpa [sessCells] using key 4 (by omega), hk r (List.mem_of_getElem? hr)⟩

set_option maxRecDepth 100000 in
set_option maxHeartbeats 1600000 in
theorem cloneSess (v : Value) (ls : List SessD) (w : World) (B : Nat) (hv : SessR w B v ls) (hB : B ≤ w.heap.size) (hne : 0 < ls.length) :
    Calls Tryz.prog 22 #[v] w fun e w' => ∃ (v' : Value) (rs : List (SessD × Value)), e = .returned v' ∧ rs.map (·.1) = ls ∧ w'.ownsRow w.heap.size 41 5 v' rs.length (flatG sessCells rs) ∧ (∀ r ∈ rs, KeptsR w' B r.2 r.1.replies) ∧ Below w.heap.size w w' := by
  obtain ⟨i0, hi, hz0, hz1, hz2⟩ := info_parts Tryz.infoSess
  have q22 : ∀ (w : World) (a : Option Addr) (n c n' c' : Nat), (binOp .eql 25 (.slice a n c) (.slice none n' c')).run Tryz.prog w = .ok (.bool a.isNone) w := fun w a n c n' c' => Lib.run_eql_slice_nil w _ _ a n c n' c' Tryz.underlying25
  obtain ⟨ao, cap, rfl, h1, h2, h3, h4⟩ := hv
  obtain ⟨b, off, rfl, hbB, hc⟩ := h4 hne
  obtain ⟨rs, hrs, hk, hcells⟩ := sess_rows hc
  have hln : rs.length = ls.length := by rw [← hrs, List.length_map]
  have HK := ghid hk
  have HONE := ghid (sess_rows_one hk)
  have HRS := ghid hrs
  have hn : ∀ j u, (flatG sessCells rs)[j]? = some u → (w.alloc (.cells #[] 41)).cell? ((⟨b, off, none⟩ : Addr).add j) = some u := fun j u hu => by
    rw [gadd]
    exact (((Below.refl w.heap.size w).alloc (Nat.le_refl _) (.cells #[] 41)).cell (p := ⟨b, off + j, none⟩) (by show b < w.heap.size; omega)).trans (hcells j u hu)
  have HN := ghid hn
  have HO : Hid ((w.alloc (.cells #[] 41)).ownsRow w.heap.size 41 5 (.slice (some ⟨w.heap.size, 0, none⟩) 0 0) 0 []) := World.ownsRow_lit w #[] 0 (Nat.le_refl _) (by unfold maxLen; omega) rfl
  have HFL : Hid ((flatG sessCells rs).length = ls.length * 5) := by unfold Hid; rw [flatG_length sessCells_len, hln]
  have HLN := ghid hln
  clear hn hc h4 h3 hk hcells hln hrs
  go_enter Tryz.func22, Tryz.ntmps22
  go_wp2_with (at_builtin; refine wpList_append_own _ rfl (.tmp 5) (.tmp 6) 25 rfl w.heap.size 41 i0 _ 5 56 Tryz.underlying25 hi hz0 hz1 hz2 rfl (by decide) _ _ _ rfl HO.out ⟨b, off, none⟩ ls.length cap (flatG sessCells rs) rfl HFL.out HN.out HONE.out (by unfold maxLen; omega) (by omega) (by simp) ?_)
  intro v1 w1 hown hgrow _
  have hb1 : Below w.heap.size w w1 := ((Below.refl w.heap.size w).alloc (Nat.le_refl _) (.cells #[] 41)).grown hgrow (by simp) (fun k hk => by simp [Value.ownBlock] at hk; omega)
  have hown2 : Hid (w1.ownsRow w.heap.size 41 5 v1 rs.length (flatG sessCells rs)) := by unfold Hid; rw [HLN.out]; simpa using hown
  clear hown hgrow
  go_wp2
  go_ret
  exact ⟨_, rs, rfl, HRS.out, hown2.out, fun r hr => (HK.out r hr).below hb1 hB, hb1⟩

end Go.Proofs.YtkjahjknmfjmkagGreatDoor

namespace Go.Proofs.YtkjahjknmfjmkagGreatDoor

open Go.RowKit

theorem fence1_any (x : SessD) (ao : Option Addr) (n c : Nat) (cl : Int) (b0 : Nat) (w : World) (hc0 : w.cell? ⟨b0, 0, none⟩ = some (.int .i64 cl)) (hb0 : b0 < w.heap.size) :
    Calls Tryz.prog 15 #[.agg #[.int .i64 x.client, .int .i64 x.id, .int .i64 x.acked, .int .i64 x.last, .slice ao n c], .pointer (some ⟨b0, 0, none⟩)] w fun e w' => e = .returned (.bool (x.client == cl)) ∧ Below w.heap.size w w' := by
  go_enter Tryz.func15, Tryz.ntmps15
  go_wp2
  go_ret
  exact ⟨rfl, (Below.refl _ _).alloc (Nat.le_refl _) _⟩

/-- Where the client's session is. -/
theorem fenceIndex (v : Value) (ls : List SessD) (c : Int) (b0 : Nat) (w : World) (B : Nat) (hv : SessR w B v ls) (hB : B ≤ w.heap.size) (hc : w.heap[b0]? = some (.cells #[.int .i64 c] 3 (0, 0))) :
    Calls Tryz.prog 14 #[v, .func (.func 15) #[] #[.pointer (some ⟨b0, 0, none⟩)]] w fun e w' => e = .returned (.int .i64 (idxI (fun x : SessD => x.client == c) ls)) ∧ Below w.heap.size w w' := by
  have hlt := (Array.getElem?_eq_some_iff.1 hc).1
  exact indexS v ls 15 #[.pointer (some ⟨b0, 0, none⟩)] (fun x => x.client == c) (fun _ => False) w B hv hB (enters_of Tryz.func15 (by decide) rfl) (fun x ao n k w' _ hw => by
    have hz := hw.size
    refine fence1_any x ao n k c b0 w' ?_ (by omega)
    exact (World.cell?_of_block (hw.block b0 hlt (fun h => h))).trans (cells_of hc 0))

theorem fence2_any (x : SessD) (ao : Option Addr) (n c : Nat) (ix : Int) (p : Nat) (w : World) (hc0 : w.cell? ⟨p, 0, none⟩ = some (.int .i64 ix)) (hp : p < w.heap.size) (h0 : 0 ≤ ix) (h1 : ix ≤ 1073741824) (h2 : 0 ≤ x.last) (h3 : x.last ≤ 1073741824) :
    Calls Tryz.prog 23 #[.agg #[.int .i64 x.client, .int .i64 x.id, .int .i64 x.acked, .int .i64 x.last, .slice ao n c], .pointer (some ⟨p, 0, none⟩)] w fun e w' => e = .returned (.bool (decide (ix + 1 - x.last ≤ 40))) ∧ Below w.heap.size w w' := by
  obtain ⟨xc, xi, xa, xl, xr⟩ := x
  simp only at h2 h3 ⊢
  go_enter Tryz.func23, Tryz.ntmps23
  go_wp2
  go_ret
  exact ⟨rfl, (Below.refl _ _).alloc (Nat.le_refl _) _⟩

theorem fresh_same (ix : Int) : (fun x : SessD => decide (ix + 1 - x.last ≤ 40)) = freshP ix := by
  funext x
  unfold freshP
  rw [Bool.eq_iff_iff]
  simp only [decide_eq_true_eq]
  omega

/-- How many are idle. -/
theorem fenceStill (g n cap : Nat) (rs : List (SessD × Value)) (s : StateD) (p : Nat) (w : World) (base : Nat) (h : w.ownsRow base 41 5 (.slice (some ⟨g, 0, none⟩) n cap) n (flatG sessCells rs)) (hn : n = rs.length) (hlen : rs.length * 56 ≤ 140737488351232) (hk : ∀ r ∈ rs, KeptsR w w.heap.size r.2 r.1.replies) (hrs : rs.map (·.1) = s.sess)
    (hg : GoodM s) {x1 x2 x3 : Value} (hp : w.heap[p]? = some (.cells #[.int .i64 s.index, x1, x2, x3] 27 (0, 0))) (hne : p ≠ g) :
    Calls Tryz.prog 21 #[.slice (some ⟨g, 0, none⟩) n cap, .func (.func 23) #[] #[.pointer (some ⟨p, 0, none⟩)]] w fun e w' => ∃ m, e = .returned (.slice (some ⟨g, 0, none⟩) m cap) ∧ m = (rs.filter fun r => !freshP s.index r.1).length ∧ TouchG w w' (fun b => b = g) := by
  subst hn
  have hlt := (Array.getElem?_eq_some_iff.1 hp).1
  refine deleteFuncR g rs.length cap rs 23 #[.pointer (some ⟨p, 0, none⟩)] (freshP s.index) w base h rfl hlen (fun r hr => ?_) (sess_row_reads h hlen hk (Nat.le_refl _)) (enters_of Tryz.func23 (by decide) rfl) (fun x ao n k w' hx hw => ?_)
  · obtain ⟨ao, c, e, -⟩ := hk r hr
    exact ⟨_, _, _, e⟩
  · rw [hrs] at hx
    have hz := hw.size
    have hr := rangeB_iff.1 (hg.sess.fine x hx).range
    have hlo := hg.sess.low
    have hhi := hg.sess.high
    have e := congrFun (fresh_same s.index) x
    rw [← e]
    exact fence2_any x ao n k s.index p w' ((World.cell?_of_block (hw.block p hlt hne)).trans (cells_of hp 0)) (by omega) hlo hhi (by omega) (by omega)

end Go.Proofs.YtkjahjknmfjmkagGreatDoor

namespace Go.Proofs.YtkjahjknmfjmkagGreatDoor

open Go.RowKit

theorem pair_ne (n v : ByteArray) (e : Int) (w : World) : (binOp .neq 66 (.agg #[.string n, .string v, .int .i64 e]) (.agg #[.string n, .string v, .int .i64 e])).run Tryz.prog w = .ok (.bool false) w := by
  have u3 := Tryz.underlying3
  have a3 := Tryz.isAgg3
  have z3 := Tryz.sizeOf3
  have u9 := Tryz.underlying9
  have a9 := Tryz.isAgg9
  have z9 := Tryz.sizeOf9
  have hS : Tryz.prog.underlying 66 = some (.struct (Tryz.prog.fieldsOf 66)) := by kernel_rfl
  have hp : Tryz.prog.stoodInHeld 66 = false := by kernel_rfl
  rw [run_neq_struct, show (10000 : Nat) = 9999 + 1 from rfl, run_equalIn_agg w 9999 66 _ _ hS hp]
  simp only [Program.fieldsOf, Tryz.underlying66]
  go_simp

set_option maxRecDepth 100000 in
set_option maxHeartbeats 1600000 in
theorem equalPairs (v u : Value) (ps : List PairD) (w : World) (B B' : Nat) (hv : PairsR w B v ps) (hu : PairsR w B' u ps) :
    Calls Tryz.prog 20 #[v, u] w fun e w' => e = .returned (.bool true) ∧ ∃ n, w' = w.drewN n := by
  obtain ⟨ao, cap, rfl, h1, h2, h3, h4⟩ := hv
  obtain ⟨au, cau, rfl, g1, g2, g3, g4⟩ := hu
  go_enter Tryz.func20, Tryz.ntmps20
  go_wp2
  go_loopw [13] (fun i wr => ∃ k n : Nat, k ≤ ps.length ∧ i = .int .i64 k ∧ wr = w.drewN n) (fun i _ => ps.length - (intOf i).toNat)
  case atStart => exact ⟨0, 0, Nat.zero_le _, rfl, rfl⟩
  case round =>
    obtain ⟨k, n, hk, rfl, rfl⟩ := hrel
    by_cases hlt : k < ps.length
    · obtain ⟨b, off, rfl, hb, hc⟩ := h4 (by omega)
      obtain ⟨b', off', rfl, hb', hc'⟩ := g4 (by omega)
      obtain ⟨x, hx⟩ : ∃ x, ps[k]? = some x := ⟨_, List.getElem?_eq_getElem hlt⟩
      obtain ⟨c0, c1, c2, -⟩ := hc k x hx
      obtain ⟨d0, d1, d2, -⟩ := hc' k x hx
      obtain ⟨xn, xv, xe⟩ := x
      simp only at c0 c1 c2 d0 d1 d2
      have hq := fun w => pair_ne xn xv xe w
      have hgd : Tryz.prog.eqGuardType Tryz.prog.depth 66 = false := by kernel_rfl
      clear hx hc h4 hc' g4
      go_wp2
      go_quiet (fail)
      go_wp2
      go_roundw
      case rel => exact ⟨k + 1, _, by omega, by go_num, rfl⟩
      case measure => simp [intOf]; omega
    · go_wp2
      go_ret
      exact ⟨rfl, n, rfl⟩

end Go.Proofs.YtkjahjknmfjmkagGreatDoor
