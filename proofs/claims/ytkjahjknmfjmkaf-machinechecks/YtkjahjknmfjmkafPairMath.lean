/- Plain mathematics of pairs: when may they be; where a name stands; what is set, what is got. -/
import Derived.Test.YtkjahjknmfjmkafPairMem
import Derived.Test.YtkjahjknmfjmkafNameMath
namespace Go.Proofs.Ytkjahjknmfjmkaf
open Go.RowKit

/-- Is a text below another one? Are two one? -/
def ltP (a b : ByteArray) : Bool := Op.bytesLess a.toList b.toList
def eqP (a b : ByteArray) : Bool := a.toList == b.toList
def leP (a b : ByteArray) : Bool := Op.bytesLess a.toList b.toList || a.toList == b.toList

theorem less_irrefl : ∀ (x : List UInt8), Op.bytesLess x x = false
  | [] => rfl
  | a :: x => by simp [Op.bytesLess, less_irrefl x]

theorem less_trans : ∀ (x y z : List UInt8), Op.bytesLess x y = true → Op.bytesLess y z = true → Op.bytesLess x z = true
  | _, [], _, h, _ => by simp [Op.bytesLess] at h
  | _, _ :: _, [], _, h => by simp [Op.bytesLess] at h
  | [], _ :: _, _ :: _, _, _ => by simp [Op.bytesLess]
  | a :: x, b :: y, c :: z, h1, h2 => by
    simp only [Op.bytesLess, Bool.or_eq_true, decide_eq_true_eq, Bool.and_eq_true, beq_iff_eq] at h1 h2 ⊢
    rcases h1 with h1 | ⟨rfl, h1⟩
    · rcases h2 with h2 | ⟨rfl, h2⟩
      · exact Or.inl (UInt8.lt_trans h1 h2)
      · exact Or.inl h1
    · rcases h2 with h2 | ⟨rfl, h2⟩
      · exact Or.inl h2
      · exact Or.inr ⟨rfl, less_trans x y z h1 h2⟩

theorem less_total : ∀ (x y : List UInt8), Op.bytesLess x y = false → x ≠ y → Op.bytesLess y x = true
  | [], [], _, h => absurd rfl h
  | _ :: _, [], _, _ => by simp [Op.bytesLess]
  | [], _ :: _, h, _ => by simp [Op.bytesLess] at h
  | a :: x, b :: y, h, hne => by
    simp only [Op.bytesLess, Bool.or_eq_false_iff, decide_eq_false_iff_not, Bool.and_eq_false_iff, beq_eq_false_iff_ne] at h
    simp only [Op.bytesLess, Bool.or_eq_true, decide_eq_true_eq, Bool.and_eq_true, beq_iff_eq]
    obtain ⟨h1, h2⟩ := h
    by_cases e : a = b
    · subst e
      right
      refine ⟨rfl, less_total x y ?_ (fun e => hne (by rw [e]))⟩
      rcases h2 with h2 | h2
      · exact absurd rfl h2
      · exact h2
    · left
      rw [UInt8.lt_iff_toNat_lt] at h1 ⊢
      have : a.toNat ≠ b.toNat := fun h => e (UInt8.toNat_inj.1 h)
      omega

theorem toList_inj {a b : ByteArray} (h : a.toList = b.toList) : a = b := by
  rw [ByteArray.toList_eq, ByteArray.toList_eq] at h
  have : a.data = b.data := Array.toList_inj.1 (by simpa using h)
  cases a; cases b; simp_all

theorem eqP_iff {a b : ByteArray} : eqP a b = true ↔ a = b := by
  unfold eqP
  rw [beq_iff_eq]
  exact ⟨toList_inj, fun h => by rw [h]⟩

theorem eqP_false {a b : ByteArray} : eqP a b = false ↔ a ≠ b := by
  rw [← Bool.not_eq_true, eqP_iff]

theorem ltP_irrefl (a : ByteArray) : ltP a a = false := less_irrefl _
theorem ltP_trans {a b c : ByteArray} (h1 : ltP a b = true) (h2 : ltP b c = true) : ltP a c = true := less_trans _ _ _ h1 h2
theorem ltP_total {a b : ByteArray} (h : ltP a b = false) (hne : a ≠ b) : ltP b a = true := less_total _ _ h (fun e => hne (toList_inj e))
theorem ltP_ne {a b : ByteArray} (h : ltP a b = true) : a ≠ b := by rintro rfl; rw [ltP_irrefl] at h; cases h
theorem leP_false {a b : ByteArray} (h : leP a b = false) : ltP b a = true := by
  unfold leP at h
  rw [Bool.or_eq_false_iff] at h
  exact ltP_total h.1 (fun e => by rw [e] at h; simp at h)
theorem leP_of_lt {a b : ByteArray} (h : ltP b a = true) : leP a b = false := by
  unfold leP
  rw [Bool.or_eq_false_iff]
  refine ⟨?_, ?_⟩
  · cases hx : Op.bytesLess a.toList b.toList with
    | false => rfl
    | true =>
      have := ltP_trans h hx
      rw [ltP_irrefl] at this
      cases this
  · have := ltP_ne h
    cases hx : (a.toList == b.toList) with
    | false => rfl
    | true => exact absurd (toList_inj (beq_iff_eq.1 hx)).symm this
theorem ltP_asymm {a b : ByteArray} (h : ltP a b = true) : ltP b a = false := by
  cases hx : ltP b a with
  | false => rfl
  | true => have := ltP_trans h hx; rw [ltP_irrefl] at this; cases this

/-- Pairs one by one, the name of the one ahead given. -/
def checkPF : ByteArray → List PairD → Int
  | _, [] => 0
  | p, x :: t => if nameB x.name = false then 4 else if 12 < x.value.size then 1 else if x.version < 1 ∨ 1073741824 < x.version then 2 else if leP x.name p = true then 14 else checkPF x.name t

/-- What is wrong with pairs; 0: nothing. -/
def checkP (ps : List PairD) : Int := if 5 < ps.length then 1 else checkPF ⟨#[]⟩ ps

/-- What Set refuses. -/
def refuseP (ps : List PairD) (nm val : ByteArray) : Int := if checkP ps ≠ 0 then checkP ps else if nameB nm = false then 4 else if 12 < val.size then 1 else 0

theorem checkPF_each {p : ByteArray} {ps : List PairD} (h : checkPF p ps = 0) :
    (∀ x ∈ ps, nameB x.name = true ∧ x.value.size ≤ 12 ∧ 1 ≤ x.version ∧ x.version ≤ 1073741824 ∧ ltP p x.name = true) ∧ ∀ (i j : Nat) (x y : PairD), i < j → ps[i]? = some x → ps[j]? = some y → ltP x.name y.name = true := by
  induction ps generalizing p with
  | nil => exact ⟨fun x hx => (by cases hx), fun i j x y _ hx => (by simp at hx)⟩
  | cons a t ih =>
    unfold checkPF at h
    split at h
    · cases h
    · rename_i h1
      split at h
      · cases h
      · rename_i h2
        split at h
        · cases h
        · rename_i h3
          split at h
          · cases h
          · rename_i h4
            obtain ⟨e1, e2⟩ := ih h
            have h4' : ltP p a.name = true := leP_false (by simpa using h4)
            refine ⟨fun x hx => ?_, fun i j x y hij hx hy => ?_⟩
            · rcases List.mem_cons.1 hx with rfl | hx
              · exact ⟨by simpa using h1, by omega, by omega, by omega, h4'⟩
              · obtain ⟨g1, g2, g3, g4, g5⟩ := e1 x hx
                exact ⟨g1, g2, g3, g4, ltP_trans h4' g5⟩
            · cases j with
              | zero => omega
              | succ j =>
                rw [List.getElem?_cons_succ] at hy
                cases i with
                | zero =>
                  rw [List.getElem?_cons_zero] at hx
                  cases hx
                  exact (e1 y (List.mem_of_getElem? hy)).2.2.2.2
                | succ i =>
                  rw [List.getElem?_cons_succ] at hx
                  exact e2 i j x y (by omega) hx hy

theorem checkPF_of {p : ByteArray} {ps : List PairD} (h1 : ∀ x ∈ ps, nameB x.name = true ∧ x.value.size ≤ 12 ∧ 1 ≤ x.version ∧ x.version ≤ 1073741824 ∧ ltP p x.name = true)
    (h2 : ∀ (i j : Nat) (x y : PairD), i < j → ps[i]? = some x → ps[j]? = some y → ltP x.name y.name = true) : checkPF p ps = 0 := by
  induction ps generalizing p with
  | nil => rfl
  | cons a t ih =>
    obtain ⟨g1, g2, g3, g4, g5⟩ := h1 a (by simp)
    unfold checkPF
    rw [if_neg (by rw [g1]; simp), if_neg (by omega), if_neg (by omega), if_neg (by rw [leP_of_lt g5]; simp)]
    refine ih (fun x hx => ?_) (fun i j x y hij hx hy => h2 (i + 1) (j + 1) x y (by omega) hx hy)
    obtain ⟨k1, k2, k3, k4, _⟩ := h1 x (by simp [hx])
    obtain ⟨j, hj⟩ := List.mem_iff_getElem?.1 hx
    exact ⟨k1, k2, k3, k4, h2 0 (j + 1) a x (by omega) rfl hj⟩

theorem ltP_empty {a : ByteArray} (h : nameB a = true) : ltP ⟨#[]⟩ a = true := by
  obtain ⟨h1, _, _⟩ := nameB_yes h
  have e : (⟨#[]⟩ : ByteArray).toList = [] := by rw [ByteArray.toList_eq]
  unfold ltP
  rw [e]
  cases hl : a.toList with
  | nil =>
    rw [ByteArray.toList_eq] at hl
    have := congrArg List.length hl
    simp at this
    have h2 : a.size = 0 := by rw [← ByteArray.size_data]; simpa using this
    omega
  | cons c t => simp [Op.bytesLess]

theorem leP_empty {a : ByteArray} (h : nameB a = true) : leP a ⟨#[]⟩ = false := leP_of_lt (ltP_empty h)

/-- Pairs that may be. -/
structure GoodP (ps : List PairD) : Prop where
  len : ps.length ≤ 5
  each : ∀ x ∈ ps, nameB x.name = true ∧ x.value.size ≤ 12 ∧ 1 ≤ x.version ∧ x.version ≤ 1073741824
  order : ∀ (i j : Nat) (x y : PairD), i < j → ps[i]? = some x → ps[j]? = some y → ltP x.name y.name = true

theorem checkP_good {ps : List PairD} (h : checkP ps = 0) : GoodP ps := by
  unfold checkP at h
  split at h
  · cases h
  · obtain ⟨h1, h2⟩ := checkPF_each h
    exact ⟨by omega, fun x hx => by obtain ⟨a, b, c, d, _⟩ := h1 x hx; exact ⟨a, b, c, d⟩, h2⟩

theorem GoodP.check {ps : List PairD} (h : GoodP ps) : checkP ps = 0 := by
  unfold checkP
  rw [if_neg (by have := h.len; omega)]
  exact checkPF_of (fun x hx => by obtain ⟨a, b, c, d⟩ := h.each x hx; exact ⟨a, b, c, d, ltP_empty a⟩) h.order

/-- The place of a name: the first that is not below it. -/
def placeP (ps : List PairD) (nm : ByteArray) : Nat := ps.findIdx fun x => !ltP x.name nm

/-- Is the name there? -/
def thereP (ps : List PairD) (nm : ByteArray) : Bool :=
  match ps[placeP ps nm]? with
  | some x => eqP x.name nm
  | none => false

theorem placeP_le (ps : List PairD) (nm : ByteArray) : placeP ps nm ≤ ps.length := List.findIdx_le_length

theorem placeP_before {ps : List PairD} {nm : ByteArray} {j : Nat} {x : PairD} (hj : j < placeP ps nm) (hx : ps[j]? = some x) : ltP x.name nm = true := by
  have hl : j < ps.length := (List.getElem?_eq_some_iff.1 hx).1
  have := List.not_of_lt_findIdx hj
  rw [(List.getElem?_eq_some_iff.1 hx).2] at this
  simpa using this

theorem placeP_at {ps : List PairD} {nm : ByteArray} {x : PairD} (hx : ps[placeP ps nm]? = some x) : ltP x.name nm = false := by
  obtain ⟨hl, he⟩ := List.getElem?_eq_some_iff.1 hx
  have h : (!ltP (ps[placeP ps nm]'hl).name nm) = true := List.findIdx_getElem (w := hl)
  rw [he] at h
  simpa using h

theorem placeP_eq {ps : List PairD} {nm : ByteArray} {i : Nat} {x : PairD} (hx : ps[i]? = some x) (h1 : ltP x.name nm = false) (h2 : ∀ (j : Nat) (y : PairD), j < i → ps[j]? = some y → ltP y.name nm = true) : placeP ps nm = i := by
  have hl : i < ps.length := (List.getElem?_eq_some_iff.1 hx).1
  by_cases a : placeP ps nm < i
  · have hpl : placeP ps nm < ps.length := by omega
    have hy : ps[placeP ps nm]? = some ps[placeP ps nm] := List.getElem?_eq_getElem hpl
    have := h2 _ _ a hy
    rw [placeP_at hy] at this
    cases this
  · by_cases b : i < placeP ps nm
    · have := placeP_before b hx
      rw [h1] at this
      cases this
    · omega

theorem thereP_yes {ps : List PairD} {nm : ByteArray} (h : thereP ps nm = true) : ∃ x, ps[placeP ps nm]? = some x ∧ x.name = nm := by
  unfold thereP at h
  split at h
  · rename_i x hx
    exact ⟨x, hx, eqP_iff.1 h⟩
  · cases h

/-- In order: a name that is not at its place is nowhere. -/
theorem thereP_no {ps : List PairD} {nm : ByteArray} (hg : GoodP ps) (h : thereP ps nm = false) (j : Nat) (y : PairD) (hy : ps[j]? = some y) : y.name ≠ nm := by
  by_cases a : j < placeP ps nm
  · exact ltP_ne (placeP_before a hy)
  · have hjl : j < ps.length := (List.getElem?_eq_some_iff.1 hy).1
    have hpl : placeP ps nm < ps.length := by omega
    have hx : ps[placeP ps nm]? = some ps[placeP ps nm] := List.getElem?_eq_getElem hpl
    have hne : ps[placeP ps nm].name ≠ nm := by
      unfold thereP at h
      rw [hx] at h
      exact eqP_false.1 h
    have hgt : ltP nm ps[placeP ps nm].name = true := ltP_total (placeP_at hx) hne
    by_cases b : j = placeP ps nm
    · subst b
      rw [hx] at hy
      cases hy
      exact hne
    · have := hg.order _ j _ y (by omega) hx hy
      exact (ltP_ne (ltP_trans hgt this)).symm

theorem placeP_of {ps : List PairD} {nm : ByteArray} (hg : GoodP ps) {i : Nat} {x : PairD} (hx : ps[i]? = some x) (hn : x.name = nm) : placeP ps nm = i ∧ thereP ps nm = true := by
  have e : placeP ps nm = i := placeP_eq hx (by rw [hn]; exact ltP_irrefl _) (fun j y hj hy => by rw [← hn]; exact hg.order j i y x hj hy hx)
  refine ⟨e, ?_⟩
  unfold thereP
  rw [e, hx]
  exact eqP_iff.2 hn

/-- What Set answers: the pairs, the reply's Code and N. -/
def setP (ps : List PairD) (nm val : ByteArray) : List PairD × Int × Int :=
  match ps[placeP ps nm]? with
  | some x =>
    if eqP x.name nm = true then
      if x.version = 1073741824 then (ps, 8, 0) else (ps.set (placeP ps nm) ⟨x.name, val, x.version + 1⟩, 0, x.version + 1)
    else if ps.length = 5 then (ps, 8, 0) else (ps.take (placeP ps nm) ++ ⟨nm, val, 1⟩ :: ps.drop (placeP ps nm), 0, 1)
  | none => if ps.length = 5 then (ps, 8, 0) else (ps.take (placeP ps nm) ++ ⟨nm, val, 1⟩ :: ps.drop (placeP ps nm), 0, 1)

theorem setP_there {ps : List PairD} {nm val : ByteArray} {x : PairD} (hx : ps[placeP ps nm]? = some x) (he : x.name = nm) (hv : ¬ x.version = 1073741824) : setP ps nm val = (ps.set (placeP ps nm) ⟨x.name, val, x.version + 1⟩, 0, x.version + 1) := by
  unfold setP
  rw [hx]
  simp only
  rw [if_pos (eqP_iff.2 he), if_neg hv]

theorem setP_full {ps : List PairD} {nm val : ByteArray} {x : PairD} (hx : ps[placeP ps nm]? = some x) (he : x.name = nm) (hv : x.version = 1073741824) : setP ps nm val = (ps, 8, 0) := by
  unfold setP
  rw [hx]
  simp only
  rw [if_pos (eqP_iff.2 he), if_pos hv]

theorem setP_new {ps : List PairD} {nm val : ByteArray} (h : thereP ps nm = false) (hl : ¬ ps.length = 5) : setP ps nm val = (ps.take (placeP ps nm) ++ ⟨nm, val, 1⟩ :: ps.drop (placeP ps nm), 0, 1) := by
  unfold setP
  unfold thereP at h
  split
  · rename_i x hx
    rw [hx] at h
    simp only at h
    rw [if_neg (by rw [h]; simp), if_neg hl]
  · rw [if_neg hl]

theorem setP_noroom {ps : List PairD} {nm val : ByteArray} (h : thereP ps nm = false) (hl : ps.length = 5) : setP ps nm val = (ps, 8, 0) := by
  unfold setP
  unfold thereP at h
  split
  · rename_i x hx
    rw [hx] at h
    simp only at h
    rw [if_neg (by rw [h]; simp), if_pos hl]
  · rw [if_pos hl]

/-- What Get answers: the reply. -/
def getP (ps : List PairD) (nm : ByteArray) : Int × Int × ByteArray :=
  match ps[placeP ps nm]? with
  | some x => if eqP x.name nm = true then (0, x.version, x.value) else (6, 0, ⟨#[]⟩)
  | none => (6, 0, ⟨#[]⟩)

theorem getP_there {ps : List PairD} {nm : ByteArray} {x : PairD} (hx : ps[placeP ps nm]? = some x) (he : x.name = nm) : getP ps nm = (0, x.version, x.value) := by
  unfold getP
  rw [hx]
  simp only
  rw [if_pos (eqP_iff.2 he)]

theorem getP_none {ps : List PairD} {nm : ByteArray} (h : thereP ps nm = false) : getP ps nm = (6, 0, ⟨#[]⟩) := by
  unfold getP
  unfold thereP at h
  split
  · rename_i x hx
    rw [hx] at h
    simp only at h
    rw [if_neg (by rw [h]; simp)]
  · rfl

end Go.Proofs.Ytkjahjknmfjmkaf
