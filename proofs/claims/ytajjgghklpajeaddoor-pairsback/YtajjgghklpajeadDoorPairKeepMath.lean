/- Plain mathematics of pairs that are set one behind another: they stay such that may be; what is set is got. -/
import Derived.Test.YtajjgghklpajeadDoorPairMath
import Derived.Test.YtajjgghklpajeadDoorKeepName
namespace Go.Proofs.YtajjgghklpajeadDoor
open Go.RowKit

theorem PairD.ext' {x y : PairD} (h1 : x.name = y.name) (h2 : x.value = y.value) (h3 : x.version = y.version) : x = y := by
  cases x; cases y; simp_all

theorem ltP_of_ge {a b : ByteArray} (h : ltP a b = false) (hne : a ≠ b) : ltP b a = true := ltP_total h hne

/-- Setting keeps pairs such that may be. -/
theorem setP_good {ps : List PairD} {nm val : ByteArray} (h : GoodP ps) (hn : nameB nm = true) (hv : val.size ≤ 12) : GoodP (setP ps nm val).1 := by
  cases ht : thereP ps nm with
  | true =>
    obtain ⟨x, hx, he⟩ := thereP_yes ht
    have hxx := h.each x (List.mem_of_getElem? hx)
    by_cases hf : x.version = 1073741824
    · rw [setP_full hx he hf]; exact h
    · rw [setP_there hx he hf]
      have key : ∀ (j : Nat) (y : PairD), (ps.set (placeP ps nm) ⟨x.name, val, x.version + 1⟩)[j]? = some y → ∃ z, ps[j]? = some z ∧ z.name = y.name := by
        intro j y hy
        by_cases e : placeP ps nm = j
        · subst e
          have hl := (List.getElem?_eq_some_iff.1 hx).1
          rw [List.getElem?_set_self hl] at hy
          cases hy
          exact ⟨x, hx, rfl⟩
        · rw [List.getElem?_set_ne e] at hy
          exact ⟨y, hy, rfl⟩
      refine ⟨by rw [List.length_set]; exact h.len, fun y hy => ?_, fun i j y z hij hy hz => ?_⟩
      · rcases List.mem_or_eq_of_mem_set hy with hy | rfl
        · exact h.each y hy
        · exact ⟨hxx.1, hv, by show 1 ≤ x.version + 1; omega, by show x.version + 1 ≤ 1073741824; omega⟩
      · obtain ⟨y', hy', ey⟩ := key i y hy
        obtain ⟨z', hz', ez⟩ := key j z hz
        rw [← ey, ← ez]
        exact h.order i j y' z' hij hy' hz'
  | false =>
    by_cases hf : ps.length = 5
    · rw [setP_noroom ht hf]; exact h
    · rw [setP_new ht hf]
      have hle := placeP_le ps nm
      have hlen := h.len
      refine ⟨?_, fun y hy => ?_, fun i j y z hij hy hz => ?_⟩
      · simp only [List.length_append, List.length_take, List.length_cons, List.length_drop]; omega
      · rcases List.mem_append.1 hy with hy | hy
        · exact h.each y (List.mem_of_mem_take hy)
        · rcases List.mem_cons.1 hy with rfl | hy
          · exact ⟨hn, hv, by show (1 : Int) ≤ 1; omega, by show (1 : Int) ≤ 1073741824; omega⟩
          · exact h.each y (List.mem_of_mem_drop hy)
      · have get : ∀ (k : Nat) (u : PairD), (ps.take (placeP ps nm) ++ ⟨nm, val, 1⟩ :: ps.drop (placeP ps nm))[k]? = some u → (k < placeP ps nm ∧ ps[k]? = some u) ∨ (k = placeP ps nm ∧ u = ⟨nm, val, 1⟩) ∨ (placeP ps nm < k ∧ ps[k - 1]? = some u) := by
          intro k u hu
          have hlt : (ps.take (placeP ps nm)).length = placeP ps nm := by rw [List.length_take]; omega
          by_cases a : k < placeP ps nm
          · rw [List.getElem?_append_left (by omega), List.getElem?_take_of_lt a] at hu
            exact Or.inl ⟨a, hu⟩
          · rw [List.getElem?_append_right (by omega), hlt] at hu
            by_cases b : k = placeP ps nm
            · subst b
              rw [Nat.sub_self, List.getElem?_cons_zero] at hu
              exact Or.inr (Or.inl ⟨rfl, by simpa using hu.symm⟩)
            · rw [show k - placeP ps nm = (k - placeP ps nm - 1) + 1 by omega, List.getElem?_cons_succ, List.getElem?_drop, show placeP ps nm + (k - placeP ps nm - 1) = k - 1 by omega] at hu
              exact Or.inr (Or.inr ⟨by omega, hu⟩)
        have above : ∀ (k : Nat) (u : PairD), placeP ps nm ≤ k → ps[k]? = some u → ltP nm u.name = true := by
          intro k u hk hu
          have hkl : k < ps.length := (List.getElem?_eq_some_iff.1 hu).1
          have hpl : placeP ps nm < ps.length := by omega
          have hx : ps[placeP ps nm]? = some ps[placeP ps nm] := List.getElem?_eq_getElem hpl
          have hgt : ltP nm ps[placeP ps nm].name = true := ltP_total (placeP_at hx) (thereP_no h ht _ _ hx)
          by_cases e : placeP ps nm = k
          · subst e
            rw [hx] at hu
            cases hu
            exact hgt
          · exact ltP_trans hgt (h.order _ k _ u (by omega) hx hu)
        rcases get i y hy with ⟨a1, a2⟩ | ⟨a1, rfl⟩ | ⟨a1, a2⟩
        · rcases get j z hz with ⟨b1, b2⟩ | ⟨b1, rfl⟩ | ⟨b1, b2⟩
          · exact h.order i j y z hij a2 b2
          · exact placeP_before a1 a2
          · exact h.order i (j - 1) y z (by omega) a2 b2
        · rcases get j z hz with ⟨b1, b2⟩ | ⟨b1, rfl⟩ | ⟨b1, b2⟩
          · omega
          · omega
          · exact above (j - 1) z (by omega) b2
        · rcases get j z hz with ⟨b1, b2⟩ | ⟨b1, rfl⟩ | ⟨b1, b2⟩
          · omega
          · omega
          · exact h.order (i - 1) (j - 1) y z (by omega) a2 b2

/-- Two pairs of one name are one. -/
theorem GoodP.same {ps : List PairD} (h : GoodP ps) {x y : PairD} (hx : x ∈ ps) (hy : y ∈ ps) (he : x.name = y.name) : x = y := by
  obtain ⟨i, hi⟩ := List.mem_iff_getElem?.1 hx
  obtain ⟨j, hj⟩ := List.mem_iff_getElem?.1 hy
  by_cases a : i < j
  · exact absurd he (ltP_ne (h.order i j x y a hi hj))
  · by_cases b : j < i
    · exact absurd he.symm (ltP_ne (h.order j i y x b hj hi))
    · have : i = j := by omega
      subst this
      rw [hi] at hj
      simpa using hj

theorem thereP_of_mem {ps : List PairD} (h : GoodP ps) {x : PairD} (hx : x ∈ ps) : ps[placeP ps x.name]? = some x ∧ thereP ps x.name = true := by
  obtain ⟨i, hi⟩ := List.mem_iff_getElem?.1 hx
  obtain ⟨e, ht⟩ := placeP_of h hi rfl
  exact ⟨by rw [e]; exact hi, ht⟩

theorem thereP_false_of {ps : List PairD} {nm : ByteArray} (h : ∀ x ∈ ps, x.name ≠ nm) : thereP ps nm = false := by
  cases ht : thereP ps nm with
  | false => rfl
  | true =>
    obtain ⟨x, hx, he⟩ := thereP_yes ht
    exact absurd he (h x (List.mem_of_getElem? hx))

/-- What is got of a pair that is there. -/
theorem getP_mem {ps : List PairD} (h : GoodP ps) {x : PairD} (hx : x ∈ ps) : getP ps x.name = (0, x.version, x.value) := getP_there (thereP_of_mem h hx).1 rfl

/-- Pairs of three names, set a few times. -/
structure KeepP (m : Int) (ps : List PairD) : Prop where
  good : GoodP ps
  names : ∀ x ∈ ps, x.name = ⟨#[97]⟩ ∨ x.name = ⟨#[98]⟩ ∨ x.name = ⟨#[107, 101, 121]⟩
  low : ∀ x ∈ ps, x.version ≤ m

theorem KeepP.nil : KeepP 0 [] := ⟨⟨by simp, fun x hx => (by cases hx), fun i j x y _ hx => (by simp at hx)⟩, fun x hx => (by cases hx), fun x hx => (by cases hx)⟩

theorem KeepP.len {m : Int} {ps : List PairD} (h : KeepP m ps) : ps.length ≤ 3 := by
  match ps, h with
  | [], _ => simp
  | [_], _ => simp
  | [_, _], _ => simp
  | [_, _, _], _ => simp
  | a :: b :: c :: d :: t, h =>
    exfalso
    have o := h.good.order
    have ab := ltP_ne (o 0 1 a b (by omega) rfl rfl)
    have ac := ltP_ne (o 0 2 a c (by omega) rfl rfl)
    have ad := ltP_ne (o 0 3 a d (by omega) rfl rfl)
    have bc := ltP_ne (o 1 2 b c (by omega) rfl rfl)
    have bd := ltP_ne (o 1 3 b d (by omega) rfl rfl)
    have cd := ltP_ne (o 2 3 c d (by omega) rfl rfl)
    rcases h.names a (by simp) with ea | ea | ea <;> rcases h.names b (by simp) with eb | eb | eb <;> rcases h.names c (by simp) with ec | ec | ec <;> rcases h.names d (by simp) with ed | ed | ed <;> rw [ea, eb] at ab <;> rw [ea, ec] at ac <;> rw [ea, ed] at ad <;> rw [eb, ec] at bc <;> rw [eb, ed] at bd <;> rw [ec, ed] at cd <;> first | exact absurd rfl ab | exact absurd rfl ac | exact absurd rfl ad | exact absurd rfl bc | exact absurd rfl bd | exact absurd rfl cd

theorem isK_name {nm : ByteArray} (h : nm = ⟨#[97]⟩ ∨ nm = ⟨#[98]⟩ ∨ nm = ⟨#[107, 101, 121]⟩) : nameB nm = true := by
  rcases h with rfl | rfl | rfl <;> decide

/-- What a set does to them: its reply, what is got ahead of it, the pairs behind it. -/
theorem KeepP.set {m : Int} {ps : List PairD} (h : KeepP m ps) (hm : 0 ≤ m) (hm2 : m < 1073741824) {nm val : ByteArray} (hn : nm = ⟨#[97]⟩ ∨ nm = ⟨#[98]⟩ ∨ nm = ⟨#[107, 101, 121]⟩) (hv : val.size ≤ 12) :
    refuseP ps nm val = 0 ∧ (setP ps nm val).2.1 = 0 ∧ (setP ps nm val).2.2 = (getP ps nm).2.1 + 1 ∧ 0 ≤ (getP ps nm).2.1 ∧ (getP ps nm).2.1 ≤ m ∧ KeepP (m + 1) (setP ps nm val).1 ∧
      (∃ n, (⟨nm, val, n⟩ : PairD) ∈ (setP ps nm val).1) ∧ (∀ y ∈ (setP ps nm val).1, (y.name = nm ∧ y.value = val) ∨ (y ∈ ps ∧ y.name ≠ nm)) ∧ (∀ y ∈ ps, y.name ≠ nm → y ∈ (setP ps nm val).1) ∧
      (setP ps nm val).1.length = (if thereP ps nm = true then ps.length else ps.length + 1) := by
  have hnb := isK_name hn
  have hg := setP_good (val := val) h.good hnb hv
  have h3 := h.len
  have hr : refuseP ps nm val = 0 := by
    unfold refuseP
    rw [if_neg (by rw [h.good.check]; simp), if_neg (by rw [hnb]; simp), if_neg (by omega)]
  refine ⟨hr, ?_⟩
  cases ht : thereP ps nm with
  | true =>
    obtain ⟨x, hx, he⟩ := thereP_yes ht
    have hxm := List.mem_of_getElem? hx
    have hxx := h.good.each x hxm
    have hxl := h.low x hxm
    have hf : ¬ x.version = 1073741824 := by omega
    have e1 := setP_there (val := val) hx he hf
    have e2 := getP_there hx he
    rw [e1] at hg
    rw [e1, e2]
    have hl := (List.getElem?_eq_some_iff.1 hx).1
    refine ⟨rfl, rfl, by simp only; omega, hxl, ⟨hg, fun y hy => ?_, fun y hy => ?_⟩, ⟨x.version + 1, ?_⟩, fun y hy => ?_, fun y hy hne => ?_, ?_⟩
    · rcases List.mem_or_eq_of_mem_set hy with hy | rfl
      · exact h.names y hy
      · exact h.names x hxm
    · rcases List.mem_or_eq_of_mem_set hy with hy | rfl
      · have := h.low y hy; omega
      · show x.version + 1 ≤ m + 1; omega
    · have k := List.mem_iff_getElem?.2 ⟨_, List.getElem?_set_self (a := (⟨x.name, val, x.version + 1⟩ : PairD)) hl⟩
      rw [he] at k
      simp only
      rw [he]
      exact k
    · obtain ⟨j, hj⟩ := List.mem_iff_getElem?.1 hy
      by_cases e : placeP ps nm = j
      · rw [← e] at hj
        simp only at hj
        rw [List.getElem?_set_self hl] at hj
        cases hj
        exact Or.inl ⟨he, rfl⟩
      · simp only at hj
        rw [List.getElem?_set_ne e] at hj
        have hym := List.mem_of_getElem? hj
        refine Or.inr ⟨hym, fun en => e ?_⟩
        exact (placeP_of h.good hj en).1
    · obtain ⟨j, hj⟩ := List.mem_iff_getElem?.1 hy
      by_cases e : placeP ps nm = j
      · rw [← e, hx] at hj
        cases hj
        exact absurd he hne
      · exact List.mem_iff_getElem?.2 ⟨j, by simp only; rw [List.getElem?_set_ne e]; exact hj⟩
    · simp
  | false =>
    have e1 := setP_new (val := val) ht (by omega)
    have e2 := getP_none ht
    rw [e1] at hg
    rw [e1, e2]
    refine ⟨rfl, rfl, by simp, hm, ⟨hg, fun y hy => ?_, fun y hy => ?_⟩, ⟨1, by simp⟩, fun y hy => ?_, fun y hy hne => ?_, ?_⟩
    · simp only at hy
      rcases List.mem_append.1 hy with hy | hy
      · exact h.names y (List.mem_of_mem_take hy)
      · rcases List.mem_cons.1 hy with rfl | hy
        · exact hn
        · exact h.names y (List.mem_of_mem_drop hy)
    · simp only at hy
      rcases List.mem_append.1 hy with hy | hy
      · have := h.low y (List.mem_of_mem_take hy); omega
      · rcases List.mem_cons.1 hy with rfl | hy
        · show (1 : Int) ≤ m + 1; omega
        · have := h.low y (List.mem_of_mem_drop hy); omega
    · simp only at hy
      have no : ∀ z ∈ ps, z.name ≠ nm := fun z hz => by
        obtain ⟨j, hj⟩ := List.mem_iff_getElem?.1 hz
        exact thereP_no h.good ht j z hj
      rcases List.mem_append.1 hy with hy | hy
      · exact Or.inr ⟨List.mem_of_mem_take hy, no y (List.mem_of_mem_take hy)⟩
      · rcases List.mem_cons.1 hy with rfl | hy
        · exact Or.inl ⟨rfl, rfl⟩
        · exact Or.inr ⟨List.mem_of_mem_drop hy, no y (List.mem_of_mem_drop hy)⟩
    · simp only
      rw [← List.take_append_drop (placeP ps nm) ps] at hy
      rcases List.mem_append.1 hy with hy | hy
      · exact List.mem_append_left _ hy
      · exact List.mem_append_right _ (List.mem_cons_of_mem _ hy)
    · have := placeP_le ps nm
      simp; omega
end Go.Proofs.YtajjgghklpajeadDoor
