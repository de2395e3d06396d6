/- Plain mathematics of pairs: when may they be; where a name stands; what is set, what is got; pair.Check, and the document's PairsFault: what is wrong with pairs; session.within, isClient, inRange, mayBeKept, inForm, Check; session.inForm, session.Check; machine.Check; Locks in memory of a call's own: a row of locks, each with a line of its own; One lock of a row put anew (joined by program) -/
import Derived.Laws.Cover1
import Derived.Deep.QuietTactic
import Derived.BigQuiet
import Derived.Laws.Rows
import Derived.Test.YtpcacaohknkdlahGreatDoorSB00
import Derived.Test.YtpcacaohknkdlahGreatDoorSB01
namespace Go.Proofs.YtpcacaohknkdlahGreatDoor

open Go.RowKit

/-- Is a text below another one? Are two one? -/
def ltP (a b : ByteArray) : Bool := Op.bytesLess a.toList b.toList

def eqP (a b : ByteArray) : Bool := a.toList == b.toList

def leP (a b : ByteArray) : Bool := Op.bytesLess a.toList b.toList || a.toList == b.toList

theorem less_irrefl : ∀ (x : List UInt8), Op.bytesLess x x = false
  | [] => rfl
  | a :: x => by simp [Op.bytesLess, less_irrefl x]

theorem less_trans : ∀ (x y z : List UInt8), Op.bytesLess x y = true → Op.bytesLess y z = true → Op.bytesLess x z = true
  | _, [], _, h, _ => by simp [Op.bytesLess] at h
  | _, _ :: _, [], _, h => by simp [Op.bytesLess] at h
  | [], _ :: _, _ :: _, _, _ => by simp [Op.bytesLess]
  | a :: x, b :: y, c :: z, h1, h2 => by
    simp only [Op.bytesLess, Bool.or_eq_true, decide_eq_true_eq, Bool.and_eq_true, beq_iff_eq] at h1 h2 ⊢
    rcases h1 with h1 | ⟨rfl, h1⟩
    · rcases h2 with h2 | ⟨rfl, h2⟩
      · exact Or.inl (UInt8.lt_trans h1 h2)
      · exact Or.inl h1
    · rcases h2 with h2 | ⟨rfl, h2⟩
      · exact Or.inl h2
      · exact Or.inr ⟨rfl, less_trans x y z h1 h2⟩

theorem less_total : ∀ (x y : List UInt8), Op.bytesLess x y = false → x ≠ y → Op.bytesLess y x = true
  | [], [], _, h => absurd rfl h
  | _ :: _, [], _, _ => by simp [Op.bytesLess]
  | [], _ :: _, h, _ => by simp [Op.bytesLess] at h
  | a :: x, b :: y, h, hne => by
    simp only [Op.bytesLess, Bool.or_eq_false_iff, decide_eq_false_iff_not, Bool.and_eq_false_iff, beq_eq_false_iff_ne] at h
    simp only [Op.bytesLess, Bool.or_eq_true, decide_eq_true_eq, Bool.and_eq_true, beq_iff_eq]
    obtain ⟨h1, h2⟩ := h
    by_cases e : a = b
    · subst e
      right
      refine ⟨rfl, less_total x y ?_ (fun e => hne (by rw [e]))⟩
      rcases h2 with h2 | h2
      · exact absurd rfl h2
      · exact h2
    · left
      rw [UInt8.lt_iff_toNat_lt] at h1 ⊢
      have : a.toNat ≠ b.toNat := fun h => e (UInt8.toNat_inj.1 h)
      omega

theorem toList_inj {a b : ByteArray} (h : a.toList = b.toList) : a = b := by
  rw [ByteArray.toList_eq, ByteArray.toList_eq] at h
  have : a.data = b.data := Array.toList_inj.1 (by simpa using h)
  cases a; cases b; simp_all

theorem eqP_iff {a b : ByteArray} : eqP a b = true ↔ a = b := by
  unfold eqP
  rw [beq_iff_eq]
  exact ⟨toList_inj, fun h => by rw [h]⟩

theorem eqP_false {a b : ByteArray} : eqP a b = false ↔ a ≠ b := by
  rw [← Bool.not_eq_true, eqP_iff]

theorem ltP_irrefl (a : ByteArray) : ltP a a = false := less_irrefl _

theorem ltP_trans {a b c : ByteArray} (h1 : ltP a b = true) (h2 : ltP b c = true) : ltP a c = true := less_trans _ _ _ h1 h2

theorem ltP_total {a b : ByteArray} (h : ltP a b = false) (hne : a ≠ b) : ltP b a = true := less_total _ _ h (fun e => hne (toList_inj e))

theorem ltP_ne {a b : ByteArray} (h : ltP a b = true) : a ≠ b := by rintro rfl; rw [ltP_irrefl] at h; cases h

theorem leP_false {a b : ByteArray} (h : leP a b = false) : ltP b a = true := by
  unfold leP at h
  rw [Bool.or_eq_false_iff] at h
  exact ltP_total h.1 (fun e => by rw [e] at h; simp at h)

theorem leP_of_lt {a b : ByteArray} (h : ltP b a = true) : leP a b = false := by
  unfold leP
  rw [Bool.or_eq_false_iff]
  refine ⟨?_, ?_⟩
  · cases hx : Op.bytesLess a.toList b.toList with
    | false => rfl
    | true =>
      have := ltP_trans h hx
      rw [ltP_irrefl] at this
      cases this
  · have := ltP_ne h
    cases hx : (a.toList == b.toList) with
    | false => rfl
    | true => exact absurd (toList_inj (beq_iff_eq.1 hx)).symm this

/-- Pairs one by one, the name of the one ahead given. -/
def checkPF : ByteArray → List PairD → Int
  | _, [] => 0
  | p, x :: t => if nameB x.name = false then 4 else if 12 < x.value.size then 1 else if x.version < 1 ∨ 1073741824 < x.version then 2 else if leP x.name p = true then 14 else checkPF x.name t

/-- What is wrong with pairs; 0: nothing. -/
def checkP (ps : List PairD) : Int := if 5 < ps.length then 1 else checkPF ⟨#[]⟩ ps

/-- What Set refuses. -/
def refuseP (ps : List PairD) (nm val : ByteArray) : Int := if checkP ps ≠ 0 then checkP ps else if nameB nm = false then 4 else if 12 < val.size then 1 else 0

theorem checkPF_each {p : ByteArray} {ps : List PairD} (h : checkPF p ps = 0) :
    (∀ x ∈ ps, nameB x.name = true ∧ x.value.size ≤ 12 ∧ 1 ≤ x.version ∧ x.version ≤ 1073741824 ∧ ltP p x.name = true) ∧ ∀ (i j : Nat) (x y : PairD), i < j → ps[i]? = some x → ps[j]? = some y → ltP x.name y.name = true := by
  induction ps generalizing p with
  | nil => exact ⟨fun x hx => (by cases hx), fun i j x y _ hx => (by simp at hx)⟩
  | cons a t ih =>
    unfold checkPF at h
    split at h
    · cases h
    · rename_i h1
      split at h
      · cases h
      · rename_i h2
        split at h
        · cases h
        · rename_i h3
          split at h
          · cases h
          · rename_i h4
            obtain ⟨e1, e2⟩ := ih h
            have h4' : ltP p a.name = true := leP_false (by simpa using h4)
            refine ⟨fun x hx => ?_, fun i j x y hij hx hy => ?_⟩
            · rcases List.mem_cons.1 hx with rfl | hx
              · exact ⟨by simpa using h1, by omega, by omega, by omega, h4'⟩
              · obtain ⟨g1, g2, g3, g4, g5⟩ := e1 x hx
                exact ⟨g1, g2, g3, g4, ltP_trans h4' g5⟩
            · cases j with
              | zero => omega
              | succ j =>
                rw [List.getElem?_cons_succ] at hy
                cases i with
                | zero =>
                  rw [List.getElem?_cons_zero] at hx
                  cases hx
                  exact (e1 y (List.mem_of_getElem? hy)).2.2.2.2
                | succ i =>
                  rw [List.getElem?_cons_succ] at hx
                  exact e2 i j x y (by omega) hx hy

theorem checkPF_of {p : ByteArray} {ps : List PairD} (h1 : ∀ x ∈ ps, nameB x.name = true ∧ x.value.size ≤ 12 ∧ 1 ≤ x.version ∧ x.version ≤ 1073741824 ∧ ltP p x.name = true)
    (h2 : ∀ (i j : Nat) (x y : PairD), i < j → ps[i]? = some x → ps[j]? = some y → ltP x.name y.name = true) : checkPF p ps = 0 := by
  induction ps generalizing p with
  | nil => rfl
  | cons a t ih =>
    obtain ⟨g1, g2, g3, g4, g5⟩ := h1 a (by simp)
    unfold checkPF
    rw [if_neg (by rw [g1]; simp), if_neg (by omega), if_neg (by omega), if_neg (by rw [leP_of_lt g5]; simp)]
    refine ih (fun x hx => ?_) (fun i j x y hij hx hy => h2 (i + 1) (j + 1) x y (by omega) hx hy)
    obtain ⟨k1, k2, k3, k4, _⟩ := h1 x (by simp [hx])
    obtain ⟨j, hj⟩ := List.mem_iff_getElem?.1 hx
    exact ⟨k1, k2, k3, k4, h2 0 (j + 1) a x (by omega) rfl hj⟩

theorem ltP_empty {a : ByteArray} (h : nameB a = true) : ltP ⟨#[]⟩ a = true := by
  obtain ⟨h1, _, _⟩ := nameB_yes h
  have e : (⟨#[]⟩ : ByteArray).toList = [] := by rw [ByteArray.toList_eq]
  unfold ltP
  rw [e]
  cases hl : a.toList with
  | nil =>
    rw [ByteArray.toList_eq] at hl
    have := congrArg List.length hl
    simp at this
    have h2 : a.size = 0 := by rw [← ByteArray.size_data]; simpa using this
    omega
  | cons c t => simp [Op.bytesLess]

theorem leP_empty {a : ByteArray} (h : nameB a = true) : leP a ⟨#[]⟩ = false := leP_of_lt (ltP_empty h)

/-- Pairs that may be. -/
structure GoodP (ps : List PairD) : Prop where
  len : ps.length ≤ 5
  each : ∀ x ∈ ps, nameB x.name = true ∧ x.value.size ≤ 12 ∧ 1 ≤ x.version ∧ x.version ≤ 1073741824
  order : ∀ (i j : Nat) (x y : PairD), i < j → ps[i]? = some x → ps[j]? = some y → ltP x.name y.name = true

theorem checkP_good {ps : List PairD} (h : checkP ps = 0) : GoodP ps := by
  unfold checkP at h
  split at h
  · cases h
  · obtain ⟨h1, h2⟩ := checkPF_each h
    exact ⟨by omega, fun x hx => by obtain ⟨a, b, c, d, _⟩ := h1 x hx; exact ⟨a, b, c, d⟩, h2⟩

theorem GoodP.check {ps : List PairD} (h : GoodP ps) : checkP ps = 0 := by
  unfold checkP
  rw [if_neg (by have := h.len; omega)]
  exact checkPF_of (fun x hx => by obtain ⟨a, b, c, d⟩ := h.each x hx; exact ⟨a, b, c, d, ltP_empty a⟩) h.order

/-- The place of a name: the first that is not below it. -/
def placeP (ps : List PairD) (nm : ByteArray) : Nat := ps.findIdx fun x => !ltP x.name nm

/-- Is the name there? -/
def thereP (ps : List PairD) (nm : ByteArray) : Bool :=
  match ps[placeP ps nm]? with
  | some x => eqP x.name nm
  | none => false

theorem placeP_le (ps : List PairD) (nm : ByteArray) : placeP ps nm ≤ ps.length := List.findIdx_le_length

theorem placeP_before {ps : List PairD} {nm : ByteArray} {j : Nat} {x : PairD} (hj : j < placeP ps nm) (hx : ps[j]? = some x) : ltP x.name nm = true := by
  have hl : j < ps.length := (List.getElem?_eq_some_iff.1 hx).1
  have := List.not_of_lt_findIdx hj
  rw [(List.getElem?_eq_some_iff.1 hx).2] at this
  simpa using this

theorem placeP_at {ps : List PairD} {nm : ByteArray} {x : PairD} (hx : ps[placeP ps nm]? = some x) : ltP x.name nm = false := by
  obtain ⟨hl, he⟩ := List.getElem?_eq_some_iff.1 hx
  have h : (!ltP (ps[placeP ps nm]'hl).name nm) = true := List.findIdx_getElem (w := hl)
  rw [he] at h
  simpa using h

theorem thereP_yes {ps : List PairD} {nm : ByteArray} (h : thereP ps nm = true) : ∃ x, ps[placeP ps nm]? = some x ∧ x.name = nm := by
  unfold thereP at h
  split at h
  · rename_i x hx
    exact ⟨x, hx, eqP_iff.1 h⟩
  · cases h

/-- In order: a name that is not at its place is nowhere. -/
theorem thereP_no {ps : List PairD} {nm : ByteArray} (hg : GoodP ps) (h : thereP ps nm = false) (j : Nat) (y : PairD) (hy : ps[j]? = some y) : y.name ≠ nm := by
  by_cases a : j < placeP ps nm
  · exact ltP_ne (placeP_before a hy)
  · have hjl : j < ps.length := (List.getElem?_eq_some_iff.1 hy).1
    have hpl : placeP ps nm < ps.length := by omega
    have hx : ps[placeP ps nm]? = some ps[placeP ps nm] := List.getElem?_eq_getElem hpl
    have hne : ps[placeP ps nm].name ≠ nm := by
      unfold thereP at h
      rw [hx] at h
      exact eqP_false.1 h
    have hgt : ltP nm ps[placeP ps nm].name = true := ltP_total (placeP_at hx) hne
    by_cases b : j = placeP ps nm
    · subst b
      rw [hx] at hy
      cases hy
      exact hne
    · have := hg.order _ j _ y (by omega) hx hy
      exact (ltP_ne (ltP_trans hgt this)).symm

/-- What Set answers: the pairs, the reply's Code and N. -/
def setP (ps : List PairD) (nm val : ByteArray) : List PairD × Int × Int :=
  match ps[placeP ps nm]? with
  | some x =>
    if eqP x.name nm = true then
      if x.version = 1073741824 then (ps, 8, 0) else (ps.set (placeP ps nm) ⟨x.name, val, x.version + 1⟩, 0, x.version + 1)
    else if ps.length = 5 then (ps, 8, 0) else (ps.take (placeP ps nm) ++ ⟨nm, val, 1⟩ :: ps.drop (placeP ps nm), 0, 1)
  | none => if ps.length = 5 then (ps, 8, 0) else (ps.take (placeP ps nm) ++ ⟨nm, val, 1⟩ :: ps.drop (placeP ps nm), 0, 1)

theorem setP_there {ps : List PairD} {nm val : ByteArray} {x : PairD} (hx : ps[placeP ps nm]? = some x) (he : x.name = nm) (hv : ¬ x.version = 1073741824) : setP ps nm val = (ps.set (placeP ps nm) ⟨x.name, val, x.version + 1⟩, 0, x.version + 1) := by
  unfold setP
  rw [hx]
  simp only
  rw [if_pos (eqP_iff.2 he), if_neg hv]

theorem setP_full {ps : List PairD} {nm val : ByteArray} {x : PairD} (hx : ps[placeP ps nm]? = some x) (he : x.name = nm) (hv : x.version = 1073741824) : setP ps nm val = (ps, 8, 0) := by
  unfold setP
  rw [hx]
  simp only
  rw [if_pos (eqP_iff.2 he), if_pos hv]

theorem setP_new {ps : List PairD} {nm val : ByteArray} (h : thereP ps nm = false) (hl : ¬ ps.length = 5) : setP ps nm val = (ps.take (placeP ps nm) ++ ⟨nm, val, 1⟩ :: ps.drop (placeP ps nm), 0, 1) := by
  unfold setP
  unfold thereP at h
  split
  · rename_i x hx
    rw [hx] at h
    simp only at h
    rw [if_neg (by rw [h]; simp), if_neg hl]
  · rw [if_neg hl]

theorem setP_noroom {ps : List PairD} {nm val : ByteArray} (h : thereP ps nm = false) (hl : ps.length = 5) : setP ps nm val = (ps, 8, 0) := by
  unfold setP
  unfold thereP at h
  split
  · rename_i x hx
    rw [hx] at h
    simp only at h
    rw [if_neg (by rw [h]; simp), if_pos hl]
  · rw [if_pos hl]

/-- What Get answers: the reply. -/
def getP (ps : List PairD) (nm : ByteArray) : Int × Int × ByteArray :=
  match ps[placeP ps nm]? with
  | some x => if eqP x.name nm = true then (0, x.version, x.value) else (6, 0, ⟨#[]⟩)
  | none => (6, 0, ⟨#[]⟩)

theorem getP_there {ps : List PairD} {nm : ByteArray} {x : PairD} (hx : ps[placeP ps nm]? = some x) (he : x.name = nm) : getP ps nm = (0, x.version, x.value) := by
  unfold getP
  rw [hx]
  simp only
  rw [if_pos (eqP_iff.2 he)]

theorem getP_none {ps : List PairD} {nm : ByteArray} (h : thereP ps nm = false) : getP ps nm = (6, 0, ⟨#[]⟩) := by
  unfold getP
  unfold thereP at h
  split
  · rename_i x hx
    rw [hx] at h
    simp only at h
    rw [if_neg (by rw [h]; simp)]
  · rfl

end Go.Proofs.YtpcacaohknkdlahGreatDoor

namespace Go.Proofs.YtpcacaohknkdlahGreatDoor

open Go.RowKit

theorem pdrop_cons {α : Type} {l : List α} {k : Nat} {x : α} (h : l[k]? = some x) : l.drop k = x :: l.drop (k + 1) := by
  obtain ⟨hk, he⟩ := List.getElem?_eq_some_iff.1 h
  rw [List.drop_eq_getElem_cons hk, he]

theorem pret_i64 {a b : Int} (h : a = b) : Ending.returned (.int .i64 a) = .returned (.int .i64 b) := by rw [h]

set_option maxRecDepth 100000 in
set_option maxHeartbeats 1600000 in
theorem pairCheck_any (v : Value) (ps : List PairD) (w : World) (B : Nat) (hv : PairsR w B v ps) (hB : B ≤ w.heap.size) :
    Calls Tryz.prog 30 #[v] w fun e w' => e = .returned (.int .i64 (checkP ps)) ∧ Below w.heap.size w w' := by
  obtain ⟨ao, cap, rfl, h1, h2, h3, h4⟩ := hv
  by_cases c1 : 5 < ps.length
  · have e1 : checkP ps = 1 := by simp [checkP, c1]
    rw [e1]
    clear e1
    go_enter Tryz.func30, Tryz.ntmps30
    go_wp2
    go_ret
    exact ⟨rfl, Below.refl _ _⟩
  · have e1 : checkP ps = checkPF ⟨#[]⟩ ps := by simp [checkP, c1]
    rw [e1]
    clear e1
    go_enter Tryz.func30, Tryz.ntmps30
    go_wp2
    go_loopw [3, 11] (fun p i wr => ∃ (k : Nat) (nm : ByteArray), k ≤ ps.length ∧ i = .int .i64 k ∧ p = .string nm ∧ checkPF nm (ps.drop k) = checkPF ⟨#[]⟩ ps ∧ Below w.heap.size w wr)
      (fun _ i _ => ps.length - (intOf i).toNat)
    case atStart => exact ⟨0, ⟨#[]⟩, Nat.zero_le _, rfl, rfl, by simp, Below.refl _ _⟩
    case round =>
      obtain ⟨k, nm, hk, rfl, rfl, heq, hb⟩ := hrel
      have HE : Hid (checkPF nm (ps.drop k) = checkPF ⟨#[]⟩ ps) := heq
      clear heq
      by_cases hlt : k < ps.length
      · obtain ⟨b, off, rfl, hbB, hc⟩ := h4 (by omega)
        obtain ⟨x, hx⟩ : ∃ x, ps[k]? = some x := ⟨_, List.getElem?_eq_getElem hlt⟩
        have HX : Hid (ps.drop k = x :: ps.drop (k + 1)) := pdrop_cons hx
        obtain ⟨c0, c1, c2, hs0, hs1⟩ := (hc k x hx).below (by omega) hb
        have hsz := hb.size
        clear hx hc h4
        obtain ⟨xn, xv, xe⟩ := x
        simp only at c0 c1 c2 hs0 hs1
        have HF : Hid (checkPF nm (ps.drop k) = if nameB xn = false then 4 else if 12 < xv.size then 1 else if xe < 1 ∨ 1073741824 < xe then 2 else if leP xn nm = true then 14 else checkPF xn (ps.drop (k + 1))) := by
          unfold Hid; rw [HX.out]; rfl
        clear HX
        go_wp2_with fail
        refine (name_any xn _ (by omega)).mono ?_
        rintro e w1 ⟨rfl, rfl⟩
        have HB := phid (hb.alloc hb.size (.cells #[.string xn, .string xv, .int .i64 xe] 90))
        clear hb
        cases hform : nameB xn with
        | false =>
          rw [hform] at HF
          go_wp2
          go_ret
          exact ⟨pret_i64 (by rw [← HE.out, HF.out]; rfl), HB.out⟩
        | true =>
          rw [hform] at HF
          by_cases f0 : 12 < xv.size
          · go_wp2
            go_ret
            exact ⟨pret_i64 (by rw [← HE.out, HF.out]; simp [f0]), HB.out⟩
          · by_cases f1 : xe < 1
            · go_wp2
              go_ret
              exact ⟨pret_i64 (by rw [← HE.out, HF.out]; simp [f0, f1]), HB.out⟩
            · by_cases f2 : 1073741824 < xe
              · go_wp2
                go_ret
                exact ⟨pret_i64 (by rw [← HE.out, HF.out]; simp [f0, f2]), HB.out⟩
              · have HF2 : Hid (checkPF nm (ps.drop k) = if leP xn nm = true then 14 else checkPF xn (ps.drop (k + 1))) := by
                  unfold Hid; rw [HF.out, if_neg (by simp), if_neg f0, if_neg (by omega)]
                clear HF
                cases hle : leP xn nm with
                | true =>
                  rw [hle] at HF2
                  have hle2 : (Op.bytesLess xn.toList nm.toList || xn.toList == nm.toList) = true := hle
                  clear hle
                  go_wp2
                  go_ret
                  exact ⟨pret_i64 (by rw [← HE.out, HF2.out]; rfl), HB.out⟩
                | false =>
                  rw [hle] at HF2
                  have hle2 : (Op.bytesLess xn.toList nm.toList || xn.toList == nm.toList) = false := hle
                  clear hle
                  go_wp2
                  go_roundw
                  case rel => exact ⟨k + 1, xn, by omega, by go_num, rfl, by rw [← HE.out, HF2.out]; rfl, HB.out⟩
                  case measure => simp [intOf]; omega
      · go_wp2
        go_ret
        exact ⟨pret_i64 (by rw [← HE.out, List.drop_of_length_le (by omega)]; rfl), hb⟩

end Go.Proofs.YtpcacaohknkdlahGreatDoor

namespace Go.Proofs.YtpcacaohknkdlahGreatDoor

open Go.RowKit

theorem sret_bool {a b : Bool} (h : a = b) : Ending.returned (.bool a) = .returned (.bool b) := by rw [h]

theorem swithin_yes (n a b : Int) (w : World) (h1 : a ≤ n) (h2 : n ≤ b) :
    Calls Tryz.prog 62 #[.int .i64 n, .int .i64 a, .int .i64 b] w fun e w' => e = .returned (.bool true) ∧ w' = w := by
  go_enter Tryz.func62, Tryz.ntmps62
  go_wp2
  go_ret
  exact ⟨rfl, rfl⟩

theorem swithin_no (n a b : Int) (w : World) (h : n < a ∨ b < n) :
    Calls Tryz.prog 62 #[.int .i64 n, .int .i64 a, .int .i64 b] w fun e w' => e = .returned (.bool false) ∧ w' = w := by
  by_cases h1 : a ≤ n
  · have h2 : ¬ n ≤ b := by omega
    go_enter Tryz.func62, Tryz.ntmps62
    go_wp2
    go_ret
    exact ⟨rfl, rfl⟩
  · go_enter Tryz.func62, Tryz.ntmps62
    go_wp2
    go_ret
    exact ⟨rfl, rfl⟩

theorem sclient_yes (n : Int) (w : World) (h1 : 1 ≤ n) (h2 : n ≤ 9) :
    Calls Tryz.prog 95 #[.int .i64 n] w fun e w' => e = .returned (.bool true) ∧ w' = w := by
  go_enter Tryz.func95, Tryz.ntmps95
  go_wp2_with fail
  refine (swithin_yes n 1 9 _ h1 h2).mono ?_
  rintro e w' ⟨rfl, hw⟩
  subst hw
  go_wp2
  go_ret
  exact ⟨rfl, rfl⟩

theorem sclient_no (n : Int) (w : World) (h : n < 1 ∨ 9 < n) :
    Calls Tryz.prog 95 #[.int .i64 n] w fun e w' => e = .returned (.bool false) ∧ w' = w := by
  go_enter Tryz.func95, Tryz.ntmps95
  go_wp2_with fail
  refine (swithin_no n 1 9 _ h).mono ?_
  rintro e w' ⟨rfl, hw⟩
  subst hw
  go_wp2
  go_ret
  exact ⟨rfl, rfl⟩

set_option maxHeartbeats 800000 in
theorem inRange_yes (c d a t i : Int) (lv : Value) (w : World) (h : (1 ≤ c ∧ c ≤ 9) ∧ (0 ≤ a ∧ a ≤ 1048576) ∧ (1 ≤ d ∧ d ≤ i) ∧ d ≤ t ∧ t ≤ i) :
    Calls Tryz.prog 63 #[.agg #[.int .i64 c, .int .i64 d, .int .i64 a, .int .i64 t, lv], .int .i64 i] w fun e w' => e = .returned (.bool true) ∧ Below w.heap.size w w' := by
  obtain ⟨⟨h1, h2⟩, ⟨h3, h4⟩, ⟨h5, h6⟩, h7, h8⟩ := h
  go_enter Tryz.func63, Tryz.ntmps63
  go_wp2_with fail
  refine (sclient_yes c _ h1 h2).mono ?_
  rintro e w1 ⟨rfl, hw⟩
  subst hw
  go_wp2_with fail
  refine (swithin_yes a 0 1048576 _ h3 h4).mono ?_
  rintro e w1 ⟨rfl, hw⟩
  subst hw
  go_wp2_with fail
  refine (swithin_yes d 1 i _ h5 h6).mono ?_
  rintro e w1 ⟨rfl, hw⟩
  subst hw
  go_wp2_with fail
  refine (swithin_yes t d i _ h7 h8).mono ?_
  rintro e w1 ⟨rfl, hw⟩
  subst hw
  go_wp2
  go_ret
  exact ⟨rfl, (Below.refl _ _).alloc (Nat.le_refl _) _⟩

set_option maxHeartbeats 1600000 in
theorem inRange_no (c d a t i : Int) (lv : Value) (w : World) (h : ¬ ((1 ≤ c ∧ c ≤ 9) ∧ (0 ≤ a ∧ a ≤ 1048576) ∧ (1 ≤ d ∧ d ≤ i) ∧ d ≤ t ∧ t ≤ i)) :
    Calls Tryz.prog 63 #[.agg #[.int .i64 c, .int .i64 d, .int .i64 a, .int .i64 t, lv], .int .i64 i] w fun e w' => e = .returned (.bool false) ∧ Below w.heap.size w w' := by
  by_cases k1 : 1 ≤ c ∧ c ≤ 9
  · obtain ⟨h1, h2⟩ := k1
    by_cases k2 : 0 ≤ a ∧ a ≤ 1048576
    · obtain ⟨h3, h4⟩ := k2
      by_cases k3 : 1 ≤ d ∧ d ≤ i
      · obtain ⟨h5, h6⟩ := k3
        have h7 : t < d ∨ i < t := by omega
        clear h
        go_enter Tryz.func63, Tryz.ntmps63
        go_wp2_with fail
        refine (sclient_yes c _ h1 h2).mono ?_
        rintro e w1 ⟨rfl, hw⟩
        subst hw
        go_wp2_with fail
        refine (swithin_yes a 0 1048576 _ h3 h4).mono ?_
        rintro e w1 ⟨rfl, hw⟩
        subst hw
        go_wp2_with fail
        refine (swithin_yes d 1 i _ h5 h6).mono ?_
        rintro e w1 ⟨rfl, hw⟩
        subst hw
        go_wp2_with fail
        refine (swithin_no t d i _ h7).mono ?_
        rintro e w1 ⟨rfl, hw⟩
        subst hw
        go_wp2
        go_ret
        exact ⟨rfl, (Below.refl _ _).alloc (Nat.le_refl _) _⟩
      · have h5 : d < 1 ∨ i < d := by omega
        clear h k3
        go_enter Tryz.func63, Tryz.ntmps63
        go_wp2_with fail
        refine (sclient_yes c _ h1 h2).mono ?_
        rintro e w1 ⟨rfl, hw⟩
        subst hw
        go_wp2_with fail
        refine (swithin_yes a 0 1048576 _ h3 h4).mono ?_
        rintro e w1 ⟨rfl, hw⟩
        subst hw
        go_wp2_with fail
        refine (swithin_no d 1 i _ h5).mono ?_
        rintro e w1 ⟨rfl, hw⟩
        subst hw
        go_wp2
        go_ret
        exact ⟨rfl, (Below.refl _ _).alloc (Nat.le_refl _) _⟩
    · have h3 : a < 0 ∨ 1048576 < a := by omega
      clear h k2
      go_enter Tryz.func63, Tryz.ntmps63
      go_wp2_with fail
      refine (sclient_yes c _ h1 h2).mono ?_
      rintro e w1 ⟨rfl, hw⟩
      subst hw
      go_wp2_with fail
      refine (swithin_no a 0 1048576 _ h3).mono ?_
      rintro e w1 ⟨rfl, hw⟩
      subst hw
      go_wp2
      go_ret
      exact ⟨rfl, (Below.refl _ _).alloc (Nat.le_refl _) _⟩
  · have h1 : c < 1 ∨ 9 < c := by omega
    clear h k1
    go_enter Tryz.func63, Tryz.ntmps63
    go_wp2_with fail
    refine (sclient_no c _ h1).mono ?_
    rintro e w1 ⟨rfl, hw⟩
    subst hw
    go_wp2
    go_ret
    exact ⟨rfl, (Below.refl _ _).alloc (Nat.le_refl _) _⟩

set_option maxHeartbeats 800000 in
theorem mayBe_yes (c n : Int) (s : ByteArray) (w : World) (h : replyB c n s.size = true) :
    Calls Tryz.prog 96 #[.agg #[.int .i64 c, .int .i64 n, .string s]] w fun e w' => e = .returned (.bool true) ∧ Below w.heap.size w w' := by
  obtain ⟨h1, h2, h3, h4, h5⟩ := replyB_iff.1 h
  clear h
  go_enter Tryz.func96, Tryz.ntmps96
  go_wp2_with (go_at_call 62; refine (swithin_yes _ _ _ _ h3 h4).mono ?_; rintro e w' ⟨rfl, hw⟩; subst hw)
  go_ret
  exact ⟨sret_bool (a := decide ((s.size : Int) ≤ 12)) (by simp; omega), (Below.refl _ _).alloc (Nat.le_refl _) _⟩

set_option maxHeartbeats 1600000 in
theorem mayBe_no (c n : Int) (s : ByteArray) (w : World) (hs : s.size ≤ 140737488351232) (h : replyB c n s.size = false) :
    Calls Tryz.prog 96 #[.agg #[.int .i64 c, .int .i64 n, .string s]] w fun e w' => e = .returned (.bool false) ∧ Below w.heap.size w w' := by
  have h' : ¬ (0 ≤ c ∧ c ≤ 15 ∧ 0 ≤ n ∧ n ≤ 1073741824 ∧ s.size ≤ 12) := fun k => by rw [replyB_iff.2 k] at h; cases h
  clear h
  by_cases h1 : 0 ≤ c
  · by_cases h2 : c ≤ 15
    · by_cases k : 0 ≤ n ∧ n ≤ 1073741824
      · obtain ⟨h3, h4⟩ := k
        have h5 : ¬ s.size ≤ 12 := by omega
        clear h'
        go_enter Tryz.func96, Tryz.ntmps96
        go_wp2_with (go_at_call 62; refine (swithin_yes _ _ _ _ h3 h4).mono ?_; rintro e w' ⟨rfl, hw⟩; subst hw)
        go_ret
        exact ⟨sret_bool (a := decide ((s.size : Int) ≤ 12)) (by simp; omega), (Below.refl _ _).alloc (Nat.le_refl _) _⟩
      · have h3 : n < 0 ∨ 1073741824 < n := by omega
        clear h' k
        go_enter Tryz.func96, Tryz.ntmps96
        go_wp2_with (go_at_call 62; refine (swithin_no _ _ _ _ h3).mono ?_; rintro e w' ⟨rfl, hw⟩; subst hw)
        go_ret
        exact ⟨rfl, (Below.refl _ _).alloc (Nat.le_refl _) _⟩
    · clear h'
      go_enter Tryz.func96, Tryz.ntmps96
      go_wp2
      go_ret
      exact ⟨rfl, (Below.refl _ _).alloc (Nat.le_refl _) _⟩
  · clear h'
    go_enter Tryz.func96, Tryz.ntmps96
    go_wp2
    go_ret
    exact ⟨rfl, (Below.refl _ _).alloc (Nat.le_refl _) _⟩

end Go.Proofs.YtpcacaohknkdlahGreatDoor

namespace Go.Proofs.YtpcacaohknkdlahGreatDoor

open Go.RowKit

theorem kdrop {ks : List KeptD} {k : Nat} {y : KeptD} (h : ks[k]? = some y) : ks.drop k = y :: ks.drop (k + 1) := by
  obtain ⟨hi, he⟩ := List.getElem?_eq_some_iff.1 h
  rw [← he, ← List.drop_eq_getElem_cons hi]

set_option maxRecDepth 100000 in
set_option maxHeartbeats 1600000 in
theorem sinForm_any (c d a t : Int) (lv : Value) (ks : List KeptD) (w : World) (B : Nat) (hv : KeptsR w B lv ks) (hB : B ≤ w.heap.size) (ha0 : 0 ≤ a) (ha1 : a ≤ 1048576) :
    Calls Tryz.prog 64 #[.agg #[.int .i64 c, .int .i64 d, .int .i64 a, .int .i64 t, lv]] w fun e w' => e = .returned (.bool (formFrom a a ks)) ∧ Below w.heap.size w w' := by
  obtain ⟨ao, cap, rfl, h1, h2, h3, h4⟩ := hv
  obtain ⟨W1, hW1⟩ : ∃ W1, W1 = w.alloc (.cells #[.int .i64 c, .int .i64 d, .int .i64 a, .int .i64 t, .slice ao ks.length cap] 95) := ⟨_, rfl⟩
  have hb0 : Below w.heap.size w W1 := by rw [hW1]; exact (Below.refl _ _).alloc (Nat.le_refl _) _
  have hg0 : W1.heap[w.heap.size]? = some (.cells #[.int .i64 c, .int .i64 d, .int .i64 a, .int .i64 t, .slice ao ks.length cap] 95 (0, 0)) := by rw [hW1]; exact heap_alloc_new w _
  have hz0 : W1.heap.size = w.heap.size + 1 := by rw [hW1]; simp
  have HB0 := ghid hb0
  have HG0 := ghid hg0
  go_enter Tryz.func64, Tryz.ntmps64
  go_wp2
  rw [← hW1]
  clear hW1 hb0 hg0
  go_loopw [3, 11] (fun s i wr => ∃ (k : Nat) (hd : Int), k ≤ ks.length ∧ s = .int .i64 hd ∧ i = .int .i64 k ∧ Hid (formFrom a hd (ks.drop k) = formFrom a a ks) ∧ a ≤ hd ∧ hd ≤ a + 4 ∧ Below (w.heap.size + 1) W1 wr) (fun _ i _ => ks.length - (intOf i).toNat)
  case atStart => exact ⟨0, a, Nat.zero_le _, rfl, rfl, by simp [Hid], Int.le_refl _, by omega, Below.refl _ _⟩
  case round =>
    obtain ⟨k, hd, hk, rfl, rfl, HF, hd1, hd2, hb⟩ := hrel
    have hsz : w.heap.size + 1 ≤ wr.heap.size := by have := hb.size; omega
    have hba : Below w.heap.size w wr := HB0.out.trans (hb.mono (by omega))
    have HBA := ghid hba
    by_cases hlt : k < ks.length
    · obtain ⟨b, off, rfl, hbB, hc⟩ := h4 (by omega)
      obtain ⟨y, hy⟩ : ∃ y, ks[k]? = some y := ⟨_, List.getElem?_eq_getElem hlt⟩
      obtain ⟨c0, c1, c2, c3, hs⟩ := (hc k y hy).below (by omega) hba
      have xa : wr.cell? ⟨w.heap.size, 2, none⟩ = some (.int .i64 a) := cell_of_row wr w.heap.size 2 _ _ _ ((hb.block _ (by omega)).trans HG0.out)
      have HD : Hid (formFrom a hd (y :: ks.drop (k + 1)) = formFrom a a ks) := by unfold Hid; rw [← kdrop hy]; exact HF.out
      have HB := ghid hb
      clear hy hc h4 HF hb hba
      have hbr : b < wr.heap.size := by omega
      have hwr : w.heap.size < wr.heap.size := by omega
      obtain ⟨ys, yc, yn, yt⟩ := y
      simp only at c0 c1 c2 c3 hs
      by_cases q1 : hd + 1 ≤ ys ∧ ys ≤ a + 4
      · obtain ⟨q2, q3⟩ := q1
        by_cases q4 : replyB yc yn yt.size = true
        · have HN : Hid (formFrom a ys (ks.drop (k + 1)) = formFrom a a ks) := by
            have := HD.out
            unfold Hid
            rw [formFrom_cons] at this
            simp only [keptB, q4, decide_eq_true q2, decide_eq_true q3, Bool.true_and] at this
            exact this
          have Q4 := ghid q4
          clear q4 HD
          go_wp2_with fail
          refine (swithin_yes ys (hd + 1) (a + 4) _ q2 q3).mono ?_
          rintro e w1 ⟨rfl, hw⟩
          subst hw
          go_wp2_with fail
          refine (mayBe_yes yc yn yt _ Q4.out).mono ?_
          rintro e w1 ⟨rfl, hb1⟩
          obtain ⟨hc1, hf1⟩ := gcell hb1
          have hz1 : wr.heap.size < w1.heap.size := by have := hb1.size; simp at this; omega
          go_wp2
          go_roundw
          case rel => exact ⟨k + 1, ys, by omega, rfl, by go_num, HN, by omega, by omega, (HB.out.trans (((Below.refl _ _).alloc (by omega) _).trans (hb1.mono (by simp; omega))))⟩
          case measure => simp [intOf]; omega
        · have q5 : replyB yc yn yt.size = false := by simpa using q4
          have HN : Hid (formFrom a a ks = false) := by
            have := HD.out
            unfold Hid
            rw [formFrom_cons] at this
            simp only [keptB, q5, decide_eq_true q2, decide_eq_true q3, Bool.true_and, Bool.false_and] at this
            exact this.symm
          have Q5 := ghid q5
          clear q4 q5 HD
          go_wp2_with fail
          refine (swithin_yes ys (hd + 1) (a + 4) _ q2 q3).mono ?_
          rintro e w1 ⟨rfl, hw⟩
          subst hw
          go_wp2_with fail
          refine (mayBe_no yc yn yt _ hs Q5.out).mono ?_
          rintro e w1 ⟨rfl, hb1⟩
          go_wp2
          go_ret
          exact ⟨by rw [HN.out]; rfl, HBA.out.trans (((Below.refl _ _).alloc (by omega) _).trans (hb1.mono (by simp; omega)))⟩
      · have HN : Hid (formFrom a a ks = false) := by
          have := HD.out
          unfold Hid
          rw [formFrom_cons] at this
          by_cases q2 : hd + 1 ≤ ys
          · have q3 : ¬ ys ≤ a + 4 := fun e => q1 ⟨q2, e⟩
            simp only [decide_eq_true q2, decide_eq_false q3, Bool.true_and, Bool.false_and] at this
            exact this.symm
          · simp only [decide_eq_false q2, Bool.false_and] at this
            exact this.symm
        have q2 : ys < hd + 1 ∨ a + 4 < ys := by omega
        clear HD q1
        go_wp2_with fail
        refine (swithin_no ys (hd + 1) (a + 4) _ q2).mono ?_
        rintro e w1 ⟨rfl, hw⟩
        subst hw
        go_wp2
        go_ret
        exact ⟨by rw [HN.out]; rfl, HBA.out.trans ((Below.refl _ _).alloc (by omega) _)⟩
    · have HN : Hid (formFrom a a ks = true) := by
        have := HF.out
        unfold Hid
        rw [List.drop_of_length_le (by omega), formFrom_nil] at this
        exact this.symm
      clear HF
      go_wp2
      go_ret
      exact ⟨by rw [HN.out]; rfl, hba⟩

theorem sdrop {ks : List SessD} {k : Nat} {y : SessD} (h : ks[k]? = some y) : ks.drop k = y :: ks.drop (k + 1) := by
  obtain ⟨hi, he⟩ := List.getElem?_eq_some_iff.1 h
  rw [← he, ← List.drop_eq_getElem_cons hi]

set_option maxRecDepth 100000 in
set_option maxHeartbeats 3200000 in
theorem sessCheck_any (v : Value) (ls : List SessD) (i : Int) (w : World) (B : Nat) (hv : SessR w B v ls) (hB : B ≤ w.heap.size) :
    Calls Tryz.prog 28 #[v, .int .i64 i] w fun e w' => e = .returned (.int .i64 (checkS ls i)) ∧ Below w.heap.size w w' := by
  obtain ⟨ao, cap, rfl, h1, h2, h3, h4⟩ := hv
  by_cases k1 : 0 ≤ i ∧ i ≤ 1073741824
  · obtain ⟨g1, g2⟩ := k1
    by_cases k2 : 4 < ls.length
    · have e : checkS ls i = 1 := by unfold checkS; rw [if_neg (by omega), if_pos k2]
      rw [e]
      clear e h4
      go_enter Tryz.func28, Tryz.ntmps28
      go_wp2_with fail
      refine (swithin_yes i 0 1073741824 _ g1 g2).mono ?_
      rintro e w1 ⟨rfl, hw⟩
      subst hw
      go_wp2
      go_ret
      exact ⟨rfl, Below.refl _ _⟩
    · have e : checkS ls i = checkFromS i 0 ls := by unfold checkS; rw [if_neg (by omega), if_neg k2]
      rw [e]
      clear e
      go_enter Tryz.func28, Tryz.ntmps28
      go_wp2_with fail
      refine (swithin_yes i 0 1073741824 _ g1 g2).mono ?_
      rintro e w1 ⟨rfl, hw⟩
      subst hw
      go_wp2
      go_loopw [5, 16] (fun s j wr => ∃ (k : Nat) (hd : Int), k ≤ ls.length ∧ s = .int .i64 hd ∧ j = .int .i64 k ∧ Hid (checkFromS i hd (ls.drop k) = checkFromS i 0 ls) ∧ Below w1.heap.size w1 wr) (fun _ j _ => ls.length - (intOf j).toNat)
      case atStart => exact ⟨0, 0, Nat.zero_le _, rfl, rfl, by simp [Hid], Below.refl _ _⟩
      case round =>
        obtain ⟨k, hd, hk, rfl, rfl, HF, hb⟩ := hrel
        have hsz := hb.size
        by_cases hlt : k < ls.length
        · obtain ⟨b, off, rfl, hbB, hc⟩ := h4 (by omega)
          obtain ⟨y, hy⟩ : ∃ y, ls[k]? = some y := ⟨_, List.getElem?_eq_getElem hlt⟩
          obtain ⟨lv, c0, c1, c2, c3, c4, hl⟩ := (hc k y hy).below (by omega) hb hB
          have HD : Hid (checkFromS i hd (y :: ls.drop (k + 1)) = checkFromS i 0 ls) := by unfold Hid; rw [← sdrop hy]; exact HF.out
          have HB := ghid hb
          have HL := ghid hl
          clear hy hc h4 HF hb
          have hbr : b < wr.heap.size := by omega
          obtain ⟨yc, yi, ya, yl, yk⟩ := y
          obtain ⟨lo, lc, rfl, -⟩ := hl
          simp only at c0 c1 c2 c3 c4 HL
          have hba : Below wr.heap.size wr (wr.alloc (.cells #[.int .i64 yc, .int .i64 yi, .int .i64 ya, .int .i64 yl, .slice lo yk.length lc] 95)) := (Below.refl _ _).alloc (Nat.le_refl _) _
          have HBA := ghid hba
          clear hba
          by_cases q1 : (1 ≤ yc ∧ yc ≤ 9) ∧ (0 ≤ ya ∧ ya ≤ 1048576) ∧ (1 ≤ yi ∧ yi ≤ i) ∧ yi ≤ yl ∧ yl ≤ i
          · have r1 : rangeB ⟨yc, yi, ya, yl, yk⟩ i = true := by rw [rangeB_iff]; simp only; omega
            have C := sinForm_any yc yi ya yl (.slice lo yk.length lc) yk
            cases hf : formFrom ya ya yk with
            | true =>
              have f1 : sformB ⟨yc, yi, ya, yl, yk⟩ = true := hf
              rw [hf] at C
              have HC := ghid C
              clear C hf
              by_cases q3 : yc ≤ hd
              · have HN : Hid (checkFromS i 0 ls = 14) := HD.out.symm.trans (checkFromS_order r1 f1 q3)
                clear HD r1 f1
                go_wp2_with fail
                refine (inRange_yes yc yi ya yl i _ _ q1).mono ?_
                rintro e w2 ⟨rfl, hb2⟩
                obtain ⟨hc2, hf2⟩ := gcell hb2
                have hz2 : wr.heap.size < w2.heap.size := by have := hb2.size; simp at this; omega
                go_wp2_with fail
                refine (HC.out _ B ((HL.out.below HBA.out (by omega)).below hb2 (by simp; omega)) (by omega) q1.2.1.1 q1.2.1.2).mono ?_
                rintro e w3 ⟨rfl, hb3⟩
                obtain ⟨hc3, hf3⟩ := gcell hb3
                have hz3 : w2.heap.size ≤ w3.heap.size := hb3.size
                have hz4 : wr.heap.size < w3.heap.size := by omega
                have HB3 := ghid (HB.out.trans ((HBA.out.mono hsz).trans ((hb2.mono (by simp; omega)).trans (hb3.mono (by omega)))))
                go_wp2
                go_ret
                exact ⟨by rw [HN.out]; rfl, HB3.out⟩
              · have HN : Hid (checkFromS i yc (ls.drop (k + 1)) = checkFromS i 0 ls) := (checkFromS_next r1 f1 q3).symm.trans HD.out
                clear HD r1 f1
                go_wp2_with fail
                refine (inRange_yes yc yi ya yl i _ _ q1).mono ?_
                rintro e w2 ⟨rfl, hb2⟩
                obtain ⟨hc2, hf2⟩ := gcell hb2
                have hz2 : wr.heap.size < w2.heap.size := by have := hb2.size; simp at this; omega
                go_wp2_with fail
                refine (HC.out _ B ((HL.out.below HBA.out (by omega)).below hb2 (by simp; omega)) (by omega) q1.2.1.1 q1.2.1.2).mono ?_
                rintro e w3 ⟨rfl, hb3⟩
                obtain ⟨hc3, hf3⟩ := gcell hb3
                have hz3 : w2.heap.size ≤ w3.heap.size := hb3.size
                have hz4 : wr.heap.size < w3.heap.size := by omega
                have HB3 := ghid (HB.out.trans ((HBA.out.mono hsz).trans ((hb2.mono (by simp; omega)).trans (hb3.mono (by omega)))))
                go_wp2
                go_roundw
                case rel => exact ⟨k + 1, yc, by omega, rfl, by go_num, HN, HB3.out⟩
                case measure => simp [intOf]; omega
            | false =>
              have f1 : sformB ⟨yc, yi, ya, yl, yk⟩ = false := hf
              rw [hf] at C
              have HC := ghid C
              have HN : Hid (checkFromS i 0 ls = 4) := HD.out.symm.trans (checkFromS_form r1 f1)
              clear C hf HD r1 f1
              go_wp2_with fail
              refine (inRange_yes yc yi ya yl i _ _ q1).mono ?_
              rintro e w2 ⟨rfl, hb2⟩
              obtain ⟨hc2, hf2⟩ := gcell hb2
              have hz2 : wr.heap.size < w2.heap.size := by have := hb2.size; simp at this; omega
              go_wp2_with fail
              refine (HC.out _ B ((HL.out.below HBA.out (by omega)).below hb2 (by simp; omega)) (by omega) q1.2.1.1 q1.2.1.2).mono ?_
              rintro e w3 ⟨rfl, hb3⟩
              obtain ⟨hc3, hf3⟩ := gcell hb3
              have hz3 : w2.heap.size ≤ w3.heap.size := hb3.size
              have hz4 : wr.heap.size < w3.heap.size := by omega
              have HB3 := ghid (HB.out.trans ((HBA.out.mono hsz).trans ((hb2.mono (by simp; omega)).trans (hb3.mono (by omega)))))
              go_wp2
              go_ret
              exact ⟨by rw [HN.out]; rfl, HB3.out⟩
          · have r1 : rangeB ⟨yc, yi, ya, yl, yk⟩ i = false := by
              cases h : rangeB ⟨yc, yi, ya, yl, yk⟩ i
              · rfl
              · exact absurd (rangeB_iff.1 h) (by simp only; omega)
            have HN : Hid (checkFromS i 0 ls = 2) := HD.out.symm.trans (checkFromS_range r1)
            clear HD r1
            go_wp2_with fail
            refine (inRange_no yc yi ya yl i _ _ q1).mono ?_
            rintro e w2 ⟨rfl, hb2⟩
            have HB3 := ghid (HB.out.trans ((HBA.out.mono hsz).trans (hb2.mono (by simp; omega))))
            go_wp2
            go_ret
            exact ⟨by rw [HN.out]; rfl, HB3.out⟩
        · have HN : Hid (checkFromS i 0 ls = 0) := by
            have := HF.out
            unfold Hid
            rw [List.drop_of_length_le (by omega), checkFromS_nil] at this
            exact this.symm
          clear HF
          go_wp2
          go_ret
          exact ⟨by rw [HN.out]; rfl, hb⟩
  · have e : checkS ls i = 2 := by unfold checkS; rw [if_pos (by omega)]
    rw [e]
    have g1 : i < 0 ∨ 1073741824 < i := by omega
    clear e h4 k1
    go_enter Tryz.func28, Tryz.ntmps28
    go_wp2_with fail
    refine (swithin_no i 0 1073741824 _ g1).mono ?_
    rintro e w1 ⟨rfl, hw⟩
    subst hw
    go_wp2
    go_ret
    exact ⟨rfl, Below.refl _ _⟩

end Go.Proofs.YtpcacaohknkdlahGreatDoor

namespace Go.Proofs.YtpcacaohknkdlahGreatDoor

open Go.RowKit

/-- What is wrong with a state; 0: nothing. -/
def checkM (s : StateD) : Int := if checkS s.sess s.index ≠ 0 then checkS s.sess s.index else if checkL s.locks ≠ 0 then checkL s.locks else checkP s.pairs

theorem checkM_sess {s : StateD} (h : checkS s.sess s.index ≠ 0) : checkM s = checkS s.sess s.index := by unfold checkM; rw [if_pos h]

theorem checkM_locks {s : StateD} (h : checkS s.sess s.index = 0) (h2 : checkL s.locks ≠ 0) : checkM s = checkL s.locks := by unfold checkM; rw [if_neg (by simpa using h), if_pos h2]

theorem checkM_pairs {s : StateD} (h : checkS s.sess s.index = 0) (h2 : checkL s.locks = 0) : checkM s = checkP s.pairs := by unfold checkM; rw [if_neg (by simpa using h), if_neg (by simpa using h2)]

theorem checkM_zero {s : StateD} (h : checkM s = 0) : checkS s.sess s.index = 0 ∧ checkL s.locks = 0 ∧ checkP s.pairs = 0 := by
  by_cases h1 : checkS s.sess s.index = 0
  · by_cases h2 : checkL s.locks = 0
    · exact ⟨h1, h2, by rw [checkM_pairs h1 h2] at h; exact h⟩
    · rw [checkM_locks h1 h2] at h; exact absurd h h2
  · rw [checkM_sess h1] at h; exact absurd h h1

/-- The three checks of a state, a case each. -/
theorem checkM_cases (s : StateD) : (checkS s.sess s.index ≠ 0 ∧ checkM s = checkS s.sess s.index) ∨ (checkS s.sess s.index = 0 ∧ checkL s.locks ≠ 0 ∧ checkM s = checkL s.locks) ∨ (checkS s.sess s.index = 0 ∧ checkL s.locks = 0 ∧ checkM s = checkP s.pairs) := by
  by_cases h1 : checkS s.sess s.index = 0
  · by_cases h2 : checkL s.locks = 0
    · exact Or.inr (Or.inr ⟨h1, h2, checkM_pairs h1 h2⟩)
    · exact Or.inr (Or.inl ⟨h1, h2, checkM_locks h1 h2⟩)
  · exact Or.inl ⟨h1, checkM_sess h1⟩

set_option maxHeartbeats 800000 in
theorem machCheck_any (v : Value) (s : StateD) (w : World) (B : Nat) (hv : StateR w B v s) (hB : B ≤ w.heap.size) :
    Calls Tryz.prog 13 #[v] w fun e w' => e = .returned (.int .i64 (checkM s)) ∧ Below w.heap.size w w' := by
  obtain ⟨lv, pv, sv, rfl, h1, h2, h3⟩ := hv
  have CS := ghid (fun (w' : World) (hb : Below w.heap.size w w') => sessCheck_any sv s.sess s.index w' B (h3.below hb hB) (by have := hb.size; omega))
  have CL := ghid (fun (w' : World) (hb : Below w.heap.size w w') => check_any lv s.locks w' B (h1.below hb hB) (by have := hb.size; omega))
  have CP := ghid (fun (w' : World) (hb : Below w.heap.size w w') => pairCheck_any pv s.pairs w' B (h2.below hb hB) (by have := hb.size; omega))
  have HC := ghid (checkM_cases s)
  obtain ⟨lo, lc, rfl⟩ := h1.slice
  obtain ⟨po, pc, rfl⟩ := h2.slice
  obtain ⟨so, sc, rfl⟩ := h3.slice
  obtain ⟨ln, hln⟩ : ∃ n, n = s.locks.length := ⟨_, rfl⟩
  obtain ⟨pn, hpn⟩ : ∃ n, n = s.pairs.length := ⟨_, rfl⟩
  obtain ⟨sn, hsn⟩ : ∃ n, n = s.sess.length := ⟨_, rfl⟩
  obtain ⟨ix, hix⟩ : ∃ n, n = s.index := ⟨_, rfl⟩
  obtain ⟨c1, hc1⟩ : ∃ n, n = checkS s.sess s.index := ⟨_, rfl⟩
  obtain ⟨c2, hc2⟩ : ∃ n, n = checkL s.locks := ⟨_, rfl⟩
  obtain ⟨c3, hc3⟩ : ∃ n, n = checkP s.pairs := ⟨_, rfl⟩
  obtain ⟨c0, hc0⟩ : ∃ n, n = checkM s := ⟨_, rfl⟩
  rw [← hsn, ← hc1, ← hix] at CS
  rw [← hln, ← hc2] at CL
  rw [← hpn, ← hc3] at CP
  rw [← hc1, ← hc2, ← hc3, ← hc0] at HC
  rw [← hc0, ← hix, ← hln, ← hpn, ← hsn]
  have hb0 : Below w.heap.size w (w.alloc (.cells #[.int .i64 ix, .slice lo ln lc, .slice po pn pc, .slice so sn sc] 27)) := (Below.refl _ _).alloc (Nat.le_refl _) _
  have HB0 := ghid hb0
  clear h1 h2 h3 hln hpn hsn hix hc1 hc2 hc3 hc0 hb0
  rcases HC.out with ⟨e1, e0⟩ | ⟨e1, e2, e0⟩ | ⟨e1, e2, e0⟩
  · subst e0
    have hn : (c0 != 0) = true := by simpa using e1
    clear HC e1
    go_enter Tryz.func13, Tryz.ntmps13
    go_wp2_with fail
    refine (CS.out _ HB0.out).mono ?_
    rintro e w1 ⟨rfl, hb1⟩
    have HB1 := ghid (HB0.out.trans (hb1.mono (by simp)))
    clear hb1
    go_wp2
    go_ret
    exact ⟨rfl, HB1.out⟩
  · subst e0 e1
    have hn : (c0 != 0) = true := by simpa using e2
    clear HC e2
    go_enter Tryz.func13, Tryz.ntmps13
    go_wp2_with fail
    refine (CS.out _ HB0.out).mono ?_
    rintro e w1 ⟨rfl, hb1⟩
    have HB1 := ghid (HB0.out.trans (hb1.mono (by simp)))
    obtain ⟨k1, k2⟩ := gcell hb1
    clear hb1
    go_wp2_with fail
    refine (CL.out _ HB1.out).mono ?_
    rintro e w2 ⟨rfl, hb2⟩
    have HB2 := ghid (HB1.out.trans (hb2.mono HB1.out.size))
    clear hb2
    go_wp2
    go_ret
    exact ⟨rfl, HB2.out⟩
  · subst e0 e1 e2
    clear HC
    go_enter Tryz.func13, Tryz.ntmps13
    go_wp2_with fail
    refine (CS.out _ HB0.out).mono ?_
    rintro e w1 ⟨rfl, hb1⟩
    have HB1 := ghid (HB0.out.trans (hb1.mono (by simp)))
    obtain ⟨k1, k2⟩ := gcell hb1
    have hz1 : w.heap.size < w1.heap.size := by have := hb1.size; simp at this; omega
    clear hb1
    go_wp2_with fail
    refine (CL.out _ HB1.out).mono ?_
    rintro e w2 ⟨rfl, hb2⟩
    have HB2 := ghid (HB1.out.trans (hb2.mono HB1.out.size))
    obtain ⟨k3, k4⟩ := gcell hb2
    clear hb2
    go_wp2_with fail
    refine (CP.out _ HB2.out).mono ?_
    rintro e w3 ⟨rfl, hb3⟩
    have HB3 := ghid (HB2.out.trans (hb3.mono HB2.out.size))
    clear hb3
    go_wp2
    go_ret
    exact ⟨rfl, HB3.out⟩

end Go.Proofs.YtpcacaohknkdlahGreatDoor

namespace Go.Proofs.YtpcacaohknkdlahGreatDoor

open Go.RowKit

def intCells (xs : List Int) : List Value := xs.map (Value.int .i64)

/-- The cells of a lock, its line at a value. -/
def lockCells (r : LockD × Value) : List Value := [.string r.1.name, .int .i64 r.1.holder, .int .i64 r.1.fence, r.2]

def flat (rs : List (LockD × Value)) : List Value := rs.flatMap lockCells

/-- The blocks of the lines. -/
def lineBlocks (rs : List (LockD × Value)) : List Nat := rs.flatMap fun r => r.2.ownBlock.toList

/-- Each line is owned, in a block of its own. -/
structure Lines (w : World) (base : Nat) (rs : List (LockD × Value)) : Prop where
  each : ∀ r ∈ rs, w.ownsRow base 3 1 r.2 r.1.line.length (intCells r.1.line) ∧ r.1.line.length * 8 ≤ 140737488351232 ∧ r.1.name.size ≤ 140737488351232
  nodup : (lineBlocks rs).Nodup

/-- The value v owns the locks rs: the row, and a line each. -/
structure OwnL (w : World) (base : Nat) (v : Value) (rs : List (LockD × Value)) : Prop where
  row : w.ownsRow base 86 4 v rs.length (flat rs)
  lines : Lines w base rs
  apart : ∀ b ∈ lineBlocks rs, v.ownBlock ≠ some b
  len : rs.length * 56 ≤ 140737488351232

theorem ownsRow_keep {w w' : World} {base : Nat} {e : TypeId} {size : Nat} {v : Value} {n : Nat} {xs : List Value} (h : w.ownsRow base e size v n xs) (hk : ∀ b, v.ownBlock = some b → w'.heap[b]? = w.heap[b]?) : w'.ownsRow base e size v n xs := by
  obtain ⟨h1, h2⟩ := h
  refine ⟨h1, ?_⟩
  rcases h2 with h2 | ⟨g, cap, cur, rfl, hg, hh, r⟩
  · exact Or.inl h2
  · exact Or.inr ⟨g, cap, cur, rfl, hg, by rw [hk g rfl]; exact hh, r⟩

theorem ownsRow_base {w : World} {base base' : Nat} {e : TypeId} {size : Nat} {v : Value} {n : Nat} {xs : List Value} (h : w.ownsRow base e size v n xs) (hk : ∀ b, v.ownBlock = some b → base' ≤ b) : w.ownsRow base' e size v n xs := by
  obtain ⟨h1, h2⟩ := h
  refine ⟨h1, ?_⟩
  rcases h2 with h2 | ⟨g, cap, cur, rfl, hg, hh, r⟩
  · exact Or.inl h2
  · exact Or.inr ⟨g, cap, cur, rfl, hk g rfl, hh, r⟩

theorem ownsRow_mono {w : World} {base base' : Nat} {e : TypeId} {size : Nat} {v : Value} {n : Nat} {xs : List Value} (h : w.ownsRow base e size v n xs) (hb : base' ≤ base) : w.ownsRow base' e size v n xs :=
  ownsRow_base h fun b hbk => Nat.le_trans hb (h.lt b hbk).1

theorem ownsRow_below {w w' : World} {base : Nat} {e : TypeId} {size : Nat} {v : Value} {n : Nat} {xs : List Value} (h : w.ownsRow base e size v n xs) {B : Nat} (hb : Below B w w') (hB : w.heap.size ≤ B) : w'.ownsRow base e size v n xs :=
  ownsRow_keep h fun b hbk => hb.block b (by have := (h.lt b hbk).2; omega)

theorem mem_lineBlocks {rs : List (LockD × Value)} {b : Nat} : b ∈ lineBlocks rs ↔ ∃ r ∈ rs, r.2.ownBlock = some b := by
  unfold lineBlocks
  rw [List.mem_flatMap]
  constructor
  · rintro ⟨r, hr, hb⟩
    exact ⟨r, hr, by simpa using hb⟩
  · rintro ⟨r, hr, hb⟩
    exact ⟨r, hr, by simp [hb]⟩

theorem Lines.lt {w : World} {base : Nat} {rs : List (LockD × Value)} (h : Lines w base rs) {b : Nat} (hb : b ∈ lineBlocks rs) : base ≤ b ∧ b < w.heap.size := by
  obtain ⟨r, hr, hbk⟩ := mem_lineBlocks.1 hb
  exact (h.each r hr).1.lt b hbk

theorem Lines.keep {w w' : World} {base : Nat} {rs : List (LockD × Value)} (h : Lines w base rs) (hk : ∀ b ∈ lineBlocks rs, w'.heap[b]? = w.heap[b]?) : Lines w' base rs :=
  ⟨fun r hr => ⟨ownsRow_keep (h.each r hr).1 fun b hb => hk b (mem_lineBlocks.2 ⟨r, hr, hb⟩), (h.each r hr).2⟩, h.nodup⟩

theorem Lines.mono {w : World} {base base' : Nat} {rs : List (LockD × Value)} (h : Lines w base rs) (hb : base' ≤ base) : Lines w base' rs :=
  ⟨fun r hr => ⟨ownsRow_mono (h.each r hr).1 hb, (h.each r hr).2⟩, h.nodup⟩

theorem Lines.below {w w' : World} {base : Nat} {rs : List (LockD × Value)} (h : Lines w base rs) {B : Nat} (hb : Below B w w') (hB : w.heap.size ≤ B) : Lines w' base rs :=
  h.keep fun b hbk => hb.block b (by have := (h.lt hbk).2; omega)

theorem Lines.nil (w : World) (base : Nat) : Lines w base [] := ⟨fun r hr => absurd hr (by simp), by simp [lineBlocks]⟩

theorem lineBlocks_snoc (rs : List (LockD × Value)) (r : LockD × Value) : lineBlocks (rs ++ [r]) = lineBlocks rs ++ r.2.ownBlock.toList := by simp [lineBlocks]

theorem flat_snoc (rs : List (LockD × Value)) (r : LockD × Value) : flat (rs ++ [r]) = flat rs ++ lockCells r := by simp [flat]

theorem flat_length (rs : List (LockD × Value)) : (flat rs).length = rs.length * 4 := by
  induction rs with
  | nil => rfl
  | cons r t ih => simp only [flat, List.flatMap_cons, List.length_append] at ih ⊢; simp only [lockCells, List.length_cons, List.length_nil, ih]; omega

/-- One line more, in a block that none of the others has. -/
theorem Lines.snoc {w : World} {base : Nat} {rs : List (LockD × Value)} {r : LockD × Value} (h : Lines w base rs) (hr : w.ownsRow base 3 1 r.2 r.1.line.length (intCells r.1.line)) (hl : r.1.line.length * 8 ≤ 140737488351232) (hn : r.1.name.size ≤ 140737488351232)
    (hne : ∀ b, r.2.ownBlock = some b → b ∉ lineBlocks rs) : Lines w base (rs ++ [r]) := by
  refine ⟨fun q hq => ?_, ?_⟩
  · rcases List.mem_append.1 hq with hq | hq
    · exact h.each q hq
    · have : q = r := by simpa using hq
      subst this
      exact ⟨hr, hl, hn⟩
  · rw [lineBlocks_snoc]
    refine List.nodup_append.2 ⟨h.nodup, ?_, ?_⟩
    · cases hb : r.2.ownBlock <;> simp
    · intro a ha b hb hab
      subst hab
      exact hne a (by simpa using hb) ha

/-- What is owned reads as it is. -/
theorem ownsRow_ints {w : World} {base B : Nat} {v : Value} {xs : List Int} (h : w.ownsRow base 3 1 v xs.length (intCells xs)) (hl : xs.length * 8 ≤ 140737488351232) (hB : w.heap.size ≤ B) : IntsR w B v xs := by
  rcases h.2 with ⟨rfl, hn⟩ | ⟨g, cap, cur, rfl, _, hg, hle, hcm, hcs, htake⟩
  · have : xs = [] := List.eq_nil_of_length_eq_zero hn
    subst this
    exact ⟨none, 0, rfl, Nat.le_refl _, hl, fun _ => rfl, fun h => absurd h (by simp)⟩
  · refine ⟨some ⟨g, 0, none⟩, cap, rfl, hle, hl, (by intro h; cases h), fun _ => ⟨g, 0, rfl, ?_, fun i x hx => ?_⟩⟩
    · have := (h.lt g rfl).2; omega
    · have hi : i < xs.length := (List.getElem?_eq_some_iff.1 hx).1
      have := h.cellAt i (by omega)
      rw [Nat.zero_add, this]
      simp [intCells, hx]

theorem flat_at {rs : List (LockD × Value)} {i : Nat} {r : LockD × Value} (h : rs[i]? = some r) (j : Nat) (hj : j < 4) : (flat rs)[i * 4 + j]? = (lockCells r)[j]? := by
  induction rs generalizing i with
  | nil => simp at h
  | cons q t ih =>
    have e : flat (q :: t) = lockCells q ++ flat t := by simp [flat]
    have hl : (lockCells q).length = 4 := rfl
    rw [e]
    cases i with
    | zero =>
      have : q = r := by simpa using h
      subst this
      rw [Nat.zero_mul, Nat.zero_add, List.getElem?_append_left (by omega)]
    | succ i =>
      rw [List.getElem?_append_right (by omega), hl, show (i + 1) * 4 + j - 4 = i * 4 + j by omega]
      exact ih (by simpa using h)

/-- Locks that are owned read as they are. -/
theorem OwnL.reads {w : World} {base B : Nat} {v : Value} {rs : List (LockD × Value)} (h : OwnL w base v rs) (hB : w.heap.size ≤ B) : LocksR w B v (rs.map (·.1)) := by
  have hrow := h.row
  rcases hrow.2 with ⟨rfl, hn⟩ | ⟨g, cap, cur, rfl, _, hg, hle, hcm, hcs, htake⟩
  · have : rs = [] := List.eq_nil_of_length_eq_zero hn
    subst this
    exact ⟨none, 0, rfl, Nat.le_refl _, by simp, fun _ => rfl, fun h => absurd h (by simp)⟩
  · refine ⟨some ⟨g, 0, none⟩, cap, by rw [List.length_map], by rw [List.length_map]; exact hle, by rw [List.length_map]; exact h.len, (by intro h; cases h), fun _ => ⟨g, 0, rfl, ?_, fun i x hx => ?_⟩⟩
    · have := (hrow.lt g rfl).2; omega
    · rw [List.getElem?_map] at hx
      obtain ⟨r, hr, rfl⟩ := Option.map_eq_some_iff.1 hx
      have hi : i < rs.length := (List.getElem?_eq_some_iff.1 hr).1
      have key : ∀ j, j < 4 → w.cell? ⟨g, 0 + i * 4 + j, none⟩ = (lockCells r)[j]? := fun j hj => by
        rw [Nat.zero_add, hrow.cellAt (i * 4 + j) (by omega), flat_at hr j hj]
      have he := h.lines.each r (List.mem_of_getElem? hr)
      exact ⟨r.2, by simpa [lockCells] using key 0 (by omega), by simpa [lockCells] using key 1 (by omega), by simpa [lockCells] using key 2 (by omega), by simpa [lockCells] using key 3 (by omega), ownsRow_ints he.1 he.2.1 hB, he.2.2⟩

theorem OwnL.keep {w w' : World} {base : Nat} {v : Value} {rs : List (LockD × Value)} (h : OwnL w base v rs) (hr : ∀ b, v.ownBlock = some b → w'.heap[b]? = w.heap[b]?) (hk : ∀ b ∈ lineBlocks rs, w'.heap[b]? = w.heap[b]?) : OwnL w' base v rs :=
  ⟨ownsRow_keep h.row hr, h.lines.keep hk, h.apart, h.len⟩

theorem OwnL.below {w w' : World} {base : Nat} {v : Value} {rs : List (LockD × Value)} (h : OwnL w base v rs) {B : Nat} (hb : Below B w w') (hB : w.heap.size ≤ B) : OwnL w' base v rs :=
  h.keep (fun b hbk => hb.block b (by have := (h.row.lt b hbk).2; omega)) (fun b hbk => hb.block b (by have := (h.lines.lt hbk).2; omega))

theorem OwnL.mono {w : World} {base base' : Nat} {v : Value} {rs : List (LockD × Value)} (h : OwnL w base v rs) (hb : base' ≤ base) : OwnL w base' v rs :=
  ⟨ownsRow_mono h.row hb, h.lines.mono hb, h.apart, h.len⟩

/-- The value v owns the locks ls, all in blocks from base on. -/
def LocksO (w : World) (base : Nat) (v : Value) (ls : List LockD) : Prop := ∃ rs, rs.map (·.1) = ls ∧ OwnL w base v rs

theorem LocksO.reads {w : World} {base B : Nat} {v : Value} {ls : List LockD} (h : LocksO w base v ls) (hB : w.heap.size ≤ B) : LocksR w B v ls := by
  obtain ⟨rs, rfl, h⟩ := h
  exact h.reads hB

theorem LocksO.below {w w' : World} {base : Nat} {v : Value} {ls : List LockD} (h : LocksO w base v ls) {B : Nat} (hb : Below B w w') (hB : w.heap.size ≤ B) : LocksO w' base v ls := by
  obtain ⟨rs, rfl, h⟩ := h
  exact ⟨rs, rfl, h.below hb hB⟩

theorem LocksO.mono {w : World} {base base' : Nat} {v : Value} {ls : List LockD} (h : LocksO w base v ls) (hb : base' ≤ base) : LocksO w base' v ls := by
  obtain ⟨rs, rfl, h⟩ := h
  exact ⟨rs, rfl, h.mono hb⟩

end Go.Proofs.YtpcacaohknkdlahGreatDoor

namespace Go.Proofs.YtpcacaohknkdlahGreatDoor

open Go.RowKit

/-- w' is w but for blocks in S, and new ones. -/
structure Touch (w w' : World) (S : Nat → Prop) : Prop where
  os : w'.os = w.os
  tape : w'.tape = w.tape
  output : w'.output = w.output
  size : w.heap.size ≤ w'.heap.size
  block : ∀ k, k < w.heap.size → ¬ S k → w'.heap[k]? = w.heap[k]?

/-- The blocks of a row and its lines. -/
def OwnB (g : Nat) (rs : List (LockD × Value)) (k : Nat) : Prop := k = g ∨ k ∈ lineBlocks rs

theorem Touch.refl (w : World) (S : Nat → Prop) : Touch w w S := ⟨rfl, rfl, rfl, Nat.le_refl _, fun _ _ _ => rfl⟩

theorem Touch.setCell {w0 w : World} {S : Nat → Prop} (h : Touch w0 w S) {a : Addr} (ha : S a.block ∨ w0.heap.size ≤ a.block) (u : Value) : Touch w0 (w.setCell a u) S :=
  ⟨h.os, h.tape, h.output, by have := h.size; simpa [World.setCell] using this, fun k hk hs => (Below.heap_setCell _ _ _ _ (by rintro rfl; rcases ha with ha | ha; exact hs ha; omega)).trans (h.block k hk hs)⟩

theorem Touch.grown {w0 w w' : World} {S : Nat → Prop} {row : Option Nat} (h : Touch w0 w S) (hg : w.grownBy w' row) (hr : ∀ k, row = some k → S k) : Touch w0 w' S :=
  ⟨hg.os.trans h.os, hg.tape.trans h.tape, hg.output.trans h.output, Nat.le_trans h.size hg.size, fun k hk hs => (hg.block k (by have := h.size; omega) (fun e => hs (hr k e.symm))).trans (h.block k hk hs)⟩

theorem Touch.of_below {w w' : World} {B : Nat} (h : Below B w w') (hB : w.heap.size ≤ B) (S : Nat → Prop) : Touch w w' S := ⟨h.os, h.tape, h.output, h.size, fun k hk _ => h.block k (by omega)⟩

theorem Touch.trans {a b c : World} {S T : Nat → Prop} (h : Touch a b S) (k : Touch b c T) (hs : ∀ i, i < a.heap.size → T i → S i) : Touch a c S :=
  ⟨k.os.trans h.os, k.tape.trans h.tape, k.output.trans h.output, Nat.le_trans h.size k.size, fun i hi hn => (k.block i (by have := h.size; omega) (fun ht => hn (hs i hi ht))).trans (h.block i hi hn)⟩

theorem Touch.below {w w' : World} {S : Nat → Prop} (h : Touch w w' S) {B : Nat} (hB : B ≤ w.heap.size) (hs : ∀ k, S k → B ≤ k) : Below B w w' :=
  ⟨h.os, h.tape, h.output, h.size, fun k hk => h.block k (by omega) (fun e => by have := hs k e; omega)⟩

theorem Touch.cell {w w' : World} {S : Nat → Prop} (h : Touch w w' S) {a : Addr} (ha : a.block < w.heap.size) (hs : ¬ S a.block) : w'.cell? a = w.cell? a := World.cell?_of_block (w := w) (h.block a.block ha hs)

theorem Touch.frozen {w w' : World} {S : Nat → Prop} (h : Touch w w' S) {a : Addr} (ha : a.block < w.heap.size) (hs : ¬ S a.block) : w'.frozen? a = w.frozen? a := World.frozen?_of_block (w := w) (h.block a.block ha hs)

theorem flat_mid (p s : List (LockD × Value)) (r : LockD × Value) : flat (p ++ r :: s) = flat p ++ (lockCells r ++ flat s) := by simp [flat]

theorem lineBlocks_mid (p s : List (LockD × Value)) (r : LockD × Value) : lineBlocks (p ++ r :: s) = lineBlocks p ++ (r.2.ownBlock.toList ++ lineBlocks s) := by simp [lineBlocks]

theorem mid_at {p s : List (LockD × Value)} {r : LockD × Value} : (p ++ r :: s)[p.length]? = some r := by simp

theorem split_at {rs : List (LockD × Value)} {i : Nat} {r : LockD × Value} (h : rs[i]? = some r) : ∃ p s, rs = p ++ r :: s ∧ p.length = i := by
  obtain ⟨hi, he⟩ := List.getElem?_eq_some_iff.1 h
  refine ⟨rs.take i, rs.drop (i + 1), ?_, by rw [List.length_take]; omega⟩
  rw [← he, ← List.drop_eq_getElem_cons hi, List.take_append_drop]

section

variable {w w' : World} {base g n cap : Nat} {v : Value} {p s rs : List (LockD × Value)} {r r' : LockD × Value}

theorem OwnL.cellAt (h : OwnL w base (.slice (some ⟨g, 0, none⟩) n cap) (p ++ r :: s)) (j : Nat) (hj : j < 4) : w.cell? ⟨g, p.length * 4 + j, none⟩ = (lockCells r)[j]? := by
  have hrow := h.row
  have hn : n = (p ++ r :: s).length := by
    rcases hrow.2 with ⟨e, _⟩ | ⟨_, _, _, e, _⟩
    · cases e
    · simp only [Value.slice.injEq] at e; exact e.2.1
  subst hn
  rw [hrow.cellAt (p.length * 4 + j) (by simp; omega), flat_at mid_at j hj]

theorem OwnL.len_eq (h : OwnL w base (.slice (some ⟨g, 0, none⟩) n cap) (p ++ r :: s)) : n = (p ++ r :: s).length := by
  rcases h.row.2 with ⟨e, _⟩ | ⟨_, _, _, e, _⟩
  · cases e
  · simp only [Value.slice.injEq] at e; exact e.2.1

theorem OwnL.frozenAt (h : OwnL w base (.slice (some ⟨g, 0, none⟩) n cap) (p ++ r :: s)) (j : Nat) : w.frozen? ⟨g, j, none⟩ = false := by
  have hn := h.len_eq
  have := h.row
  rw [← hn] at this
  exact this.frozenAt j

theorem OwnL.block (h : OwnL w base (.slice (some ⟨g, 0, none⟩) n cap) (p ++ r :: s)) : base ≤ g ∧ g < w.heap.size := h.row.lt g rfl

theorem OwnL.line (h : OwnL w base v (p ++ r :: s)) : w.ownsRow base 3 1 r.2 r.1.line.length (intCells r.1.line) ∧ r.1.line.length * 8 ≤ 140737488351232 ∧ r.1.name.size ≤ 140737488351232 :=
  h.lines.each r (by simp)

theorem OwnL.lineNe (h : OwnL w base (.slice (some ⟨g, 0, none⟩) n cap) (p ++ r :: s)) {b : Nat} (hb : r.2.ownBlock = some b) : b ≠ g := by
  intro e
  subst e
  exact h.apart b (mem_lineBlocks.2 ⟨r, by simp, hb⟩) rfl

/-- The row put anew at one lock, the other lines left alone. -/
theorem OwnL.put (h : OwnL w base v (p ++ r :: s)) (hrow : w'.ownsRow base 86 4 v (p ++ r' :: s).length (flat (p ++ r' :: s)))
    (hr : w'.ownsRow base 3 1 r'.2 r'.1.line.length (intCells r'.1.line)) (hl : r'.1.line.length * 8 ≤ 140737488351232) (hn : r'.1.name.size ≤ 140737488351232)
    (hk : ∀ b ∈ lineBlocks p ++ lineBlocks s, w'.heap[b]? = w.heap[b]?)
    (hnew : ∀ b, r'.2.ownBlock = some b → r.2.ownBlock = some b ∨ w.heap.size ≤ b) : OwnL w' base v (p ++ r' :: s) := by
  have hnd := h.lines.nodup
  rw [lineBlocks_mid] at hnd
  have hlt : ∀ b ∈ lineBlocks (p ++ r :: s), b < w.heap.size := fun b hb => (h.lines.lt hb).2
  rw [lineBlocks_mid] at hlt
  have hfresh : ∀ b, r'.2.ownBlock = some b → b ∉ lineBlocks p ∧ b ∉ lineBlocks s := by
    intro b hb
    rcases hnew b hb with e | e
    · rw [e] at hnd
      simp only [Option.toList_some, List.singleton_append] at hnd
      have h1 := List.nodup_append.1 hnd
      exact ⟨fun hm => h1.2.2 b hm b (by simp) rfl, (List.nodup_cons.1 h1.2.1).1⟩
    · exact ⟨fun hm => absurd (hlt b (by simp [hm])) (by omega), fun hm => absurd (hlt b (by simp [hm])) (by omega)⟩
  refine ⟨hrow, ⟨fun q hq => ?_, ?_⟩, ?_, ?_⟩
  · rcases List.mem_append.1 hq with hq | hq
    · have he := h.lines.each q (by simp [hq])
      exact ⟨ownsRow_keep he.1 fun b hb => hk b (List.mem_append_left _ (mem_lineBlocks.2 ⟨q, hq, hb⟩)), he.2⟩
    · rcases List.mem_cons.1 hq with rfl | hq
      · exact ⟨hr, hl, hn⟩
      · have he := h.lines.each q (by simp [hq])
        exact ⟨ownsRow_keep he.1 fun b hb => hk b (List.mem_append_right _ (mem_lineBlocks.2 ⟨q, hq, hb⟩)), he.2⟩
  · rw [lineBlocks_mid]
    have h1 := List.nodup_append.1 hnd
    have h2 := List.nodup_append.1 h1.2.1
    refine List.nodup_append.2 ⟨h1.1, List.nodup_append.2 ⟨?_, h2.2.1, ?_⟩, ?_⟩
    · cases r'.2.ownBlock <;> simp
    · intro a ha b hb hab
      subst hab
      exact (hfresh a (by simpa using ha)).2 hb
    · intro a ha b hb hab
      subst hab
      rcases List.mem_append.1 hb with hb | hb
      · exact (hfresh a (by simpa using hb)).1 ha
      · exact h1.2.2 a ha a (List.mem_append_right _ hb) rfl
  · intro b hb e
    rw [lineBlocks_mid] at hb
    rcases List.mem_append.1 hb with hb | hb
    · exact h.apart b (by rw [lineBlocks_mid]; exact List.mem_append_left _ hb) e
    · rcases List.mem_append.1 hb with hb | hb
      · rcases hnew b (by simpa using hb) with e2 | e2
        · exact h.apart b (by rw [lineBlocks_mid]; simp [e2]) e
        · have := (h.row.lt b e).2
          omega
      · exact h.apart b (by rw [lineBlocks_mid]; exact List.mem_append_right _ (List.mem_append_right _ hb)) e
  · have := h.len
    simpa using this

theorem set_mid (p s : List (LockD × Value)) (r : LockD × Value) (j : Nat) (u : Value) (hj : j < 4) : (flat (p ++ r :: s)).set (p.length * 4 + j) u = flat p ++ ((lockCells r).set j u ++ flat s) := by
  have hl : (lockCells r).length = 4 := rfl
  rw [flat_mid, List.set_append_right _ _ (by rw [flat_length]; omega), flat_length, show p.length * 4 + j - p.length * 4 = j by omega, List.set_append_left _ _ (by omega)]

/-- One cell of a lock put anew: the row. -/
theorem row_set (h : w.ownsRow base 86 4 (.slice (some ⟨g, 0, none⟩) n cap) (p ++ r :: s).length (flat (p ++ r :: s))) (hn : n = (p ++ r :: s).length) (j : Nat) (u : Value) (hj : j < 4) (hr : (lockCells r).set j u = lockCells r') :
    (w.setCell ⟨g, p.length * 4 + j, none⟩ u).ownsRow base 86 4 (.slice (some ⟨g, 0, none⟩) n cap) (p ++ r' :: s).length (flat (p ++ r' :: s)) := by
  subst hn
  have := (h.stored (p.length * 4 + j) u).1
  rw [set_mid p s r j u hj, hr, ← flat_mid] at this
  have e : (p ++ r' :: s).length = (p ++ r :: s).length := by simp
  rw [e]
  exact this

/-- The holder put anew. -/
theorem OwnL.setHolder (h : OwnL w base (.slice (some ⟨g, 0, none⟩) n cap) (p ++ r :: s)) (a : Int) :
    OwnL (w.setCell ⟨g, p.length * 4 + 1, none⟩ (.int .i64 a)) base (.slice (some ⟨g, 0, none⟩) n cap) (p ++ ({ r.1 with holder := a }, r.2) :: s) := by
  have hl := h.line
  have key : ∀ b, b ≠ g → (w.setCell ⟨g, p.length * 4 + 1, none⟩ (.int .i64 a)).heap[b]? = w.heap[b]? := fun b hb => heap_setCell_other _ _ _ _ (by simpa using hb)
  refine h.put (row_set h.row h.len_eq 1 _ (by omega) rfl) (ownsRow_keep hl.1 fun b hb => key b (h.lineNe hb)) hl.2.1 hl.2.2 (fun b hb => key b ?_) (fun b hb => Or.inl hb)
  intro e
  exact h.apart b (by rw [lineBlocks_mid]; rcases List.mem_append.1 hb with hb | hb <;> simp [hb]) (by rw [e]; rfl)

/-- The fence put anew. -/
theorem OwnL.setFence (h : OwnL w base (.slice (some ⟨g, 0, none⟩) n cap) (p ++ r :: s)) (a : Int) :
    OwnL (w.setCell ⟨g, p.length * 4 + 2, none⟩ (.int .i64 a)) base (.slice (some ⟨g, 0, none⟩) n cap) (p ++ ({ r.1 with fence := a }, r.2) :: s) := by
  have hl := h.line
  have key : ∀ b, b ≠ g → (w.setCell ⟨g, p.length * 4 + 2, none⟩ (.int .i64 a)).heap[b]? = w.heap[b]? := fun b hb => heap_setCell_other _ _ _ _ (by simpa using hb)
  refine h.put (row_set h.row h.len_eq 2 _ (by omega) rfl) (ownsRow_keep hl.1 fun b hb => key b (h.lineNe hb)) hl.2.1 hl.2.2 (fun b hb => key b ?_) (fun b hb => Or.inl hb)
  intro e
  exact h.apart b (by rw [lineBlocks_mid]; rcases List.mem_append.1 hb with hb | hb <;> simp [hb]) (by rw [e]; rfl)

/-- The line put anew, behind a step that wrote the old line's block alone, and new ones. -/
theorem OwnL.setLine {w1 : World} {lv : Value} {xs : List Int} (h : OwnL w base (.slice (some ⟨g, 0, none⟩) n cap) (p ++ r :: s)) (hg : w.grownBy w1 r.2.ownBlock) (ho : w1.ownsRow base 3 1 lv xs.length (intCells xs)) (hl : xs.length * 8 ≤ 140737488351232)
    (hnew : ∀ b, lv.ownBlock = some b → r.2.ownBlock = some b ∨ w.heap.size ≤ b) :
    OwnL (w1.setCell ⟨g, p.length * 4 + 3, none⟩ lv) base (.slice (some ⟨g, 0, none⟩) n cap) (p ++ ({ r.1 with line := xs }, lv) :: s) := by
  have hgb := h.block
  have hln := h.line
  have hrne : r.2.ownBlock ≠ some g := fun e => h.lineNe e rfl
  have hgrow : w1.heap[g]? = w.heap[g]? := hg.block g hgb.2 (Ne.symm hrne)
  have key : ∀ b, b ≠ g → (w1.setCell ⟨g, p.length * 4 + 3, none⟩ lv).heap[b]? = w1.heap[b]? := fun b hb => heap_setCell_other _ _ _ _ (by simpa using hb)
  refine h.put (row_set (ownsRow_keep h.row fun b hb => ?_) h.len_eq 3 _ (by omega) rfl) (ownsRow_keep ho fun b hb => key b ?_) hl hln.2.2 (fun b hb => ?_) hnew
  · have : g = b := by simpa [Value.ownBlock] using hb
    rw [← this]; exact hgrow
  · rcases hnew b hb with e | e
    · exact h.lineNe e
    · omega
  · have hbm : b ∈ lineBlocks (p ++ r :: s) := by rw [lineBlocks_mid]; rcases List.mem_append.1 hb with hb | hb <;> simp [hb]
    rw [key b (fun e => h.apart b hbm (by rw [e]; rfl))]
    refine hg.block b (h.lines.lt hbm).2 fun e => ?_
    have hnd := h.lines.nodup
    rw [lineBlocks_mid, ← e] at hnd
    simp only [Option.toList_some, List.singleton_append] at hnd
    have h1 := List.nodup_append.1 hnd
    rcases List.mem_append.1 hb with hb | hb
    · exact h1.2.2 b hb b (by simp) rfl
    · exact (List.nodup_cons.1 h1.2.1).1 hb

theorem OwnL.ownB (h : OwnL w base (.slice (some ⟨g, 0, none⟩) n cap) rs) : ∀ k, OwnB g rs k → base ≤ k ∧ k < w.heap.size := by
  rintro k (rfl | hk)
  · exact h.row.lt k rfl
  · exact h.lines.lt hk

end

end Go.Proofs.YtpcacaohknkdlahGreatDoor
