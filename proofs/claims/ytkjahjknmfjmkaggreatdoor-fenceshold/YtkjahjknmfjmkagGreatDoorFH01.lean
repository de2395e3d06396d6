/- A state as it lies in memory: what a value reads as; Plain mathematics of names: 1 to 6 letters from a to z. It imports no program; Lists of numbers that are only read: the document's has, slices.Index, slices.Contains, the law's sameInts; Plain mathematics of locks: when may they be; what is wrong first; lock.Name and the document's NameMay: both tell whether a text is a name, at every text; lock.isClient, lock.lineInForm, lock.inForm: may the name, the holder and the line be those of a lock? (joined by program) -/
import Derived.WalkKit
import Derived.ProofKit
import Derived.Deep.QuietTactic
import Derived.BigQuiet
import Derived.Test.YtkjahjknmfjmkagGreatDoorRows
import Derived.WalkLawsBesides
import Derived.Test.YtkjahjknmfjmkagGreatDoorFH00
namespace Go.Proofs.YtkjahjknmfjmkagGreatDoor

open Go.RowKit

/-- A state, as plain data. -/
structure StateD where
  index : Int
  locks : List LockD
  pairs : List PairD
  sess : List SessD

/-- The value v reads in w as the state s; all its memory lies below block B. -/
def StateR (w : World) (B : Nat) (v : Value) (s : StateD) : Prop :=
  ∃ lv pv sv, v = .agg #[.int .i64 s.index, lv, pv, sv] ∧ LocksR w B lv s.locks ∧ PairsR w B pv s.pairs ∧ SessR w B sv s.sess

theorem StateR.below {w w' : World} {B : Nat} {v : Value} {s : StateD} (h : StateR w B v s) {B' : Nat} (hb : Below B' w w') (hB : B ≤ B') : StateR w' B v s := by
  obtain ⟨lv, pv, sv, rfl, h1, h2, h3⟩ := h
  exact ⟨lv, pv, sv, rfl, h1.below hb hB, h2.below hb hB, h3.below hb hB⟩

theorem StateR.mono {w : World} {B B' : Nat} {v : Value} {s : StateD} (h : StateR w B v s) (hB : B ≤ B') : StateR w B' v s := by
  obtain ⟨lv, pv, sv, rfl, h1, h2, h3⟩ := h
  exact ⟨lv, pv, sv, rfl, h1.mono hB, h2.mono hB, h3.mono hB⟩

theorem LocksR.slice {w : World} {B : Nat} {v : Value} {ls : List LockD} (h : LocksR w B v ls) : ∃ ao cap, v = .slice ao ls.length cap := by
  obtain ⟨ao, cap, rfl, -⟩ := h
  exact ⟨ao, cap, rfl⟩

theorem PairsR.slice {w : World} {B : Nat} {v : Value} {ls : List PairD} (h : PairsR w B v ls) : ∃ ao cap, v = .slice ao ls.length cap := by
  obtain ⟨ao, cap, rfl, -⟩ := h
  exact ⟨ao, cap, rfl⟩

theorem SessR.slice {w : World} {B : Nat} {v : Value} {ls : List SessD} (h : SessR w B v ls) : ∃ ao cap, v = .slice ao ls.length cap := by
  obtain ⟨ao, cap, rfl, -⟩ := h
  exact ⟨ao, cap, rfl⟩

end Go.Proofs.YtkjahjknmfjmkagGreatDoor

namespace Go.Proofs.YtkjahjknmfjmkagGreatDoor

open Go.RowKit

/-- Is a text a name? -/
def nameB (s : ByteArray) : Bool := decide (1 ≤ s.size ∧ s.size ≤ 6 ∧ ∀ k, (h : k < s.size) → 97 ≤ s[k].toNat ∧ s[k].toNat ≤ 122)

theorem nameB_yes {s : ByteArray} (h : nameB s = true) : 1 ≤ s.size ∧ s.size ≤ 6 ∧ ∀ k, (h : k < s.size) → 97 ≤ (s[k].toNat : Int) ∧ (s[k].toNat : Int) ≤ 122 := by
  unfold nameB at h
  have := of_decide_eq_true h
  refine ⟨this.1, this.2.1, fun k hk => ?_⟩
  have := this.2.2 k hk
  omega

theorem nameB_no {s : ByteArray} (h : nameB s = false) (h1 : 1 ≤ s.size) (h2 : s.size ≤ 6) : ∃ k, ∃ h : k < s.size, (s[k].toNat : Int) < 97 ∨ 122 < (s[k].toNat : Int) := by
  unfold nameB at h
  have := of_decide_eq_false h
  apply Classical.byContradiction
  intro hn
  refine this ⟨h1, h2, fun k hk => ?_⟩
  apply Classical.byContradiction
  intro hc
  exact hn ⟨k, hk, by omega⟩

end Go.Proofs.YtkjahjknmfjmkagGreatDoor

namespace Go.Proofs.YtkjahjknmfjmkagGreatDoor

open Go.RowKit

/-- Is a number in a list? -/
def hasB (x : Int) (xs : List Int) : Bool := decide (x ∈ xs)

theorem hasB_first {x : Int} {xs : List Int} (h : hasB x xs = true) : ∃ i : Nat, xs[i]? = some x ∧ ∀ j : Nat, j < i → xs[j]? ≠ some x := by
  obtain ⟨j, hj⟩ := List.mem_iff_getElem?.1 (of_decide_eq_true h)
  induction j using Nat.strongRecOn with
  | ind j ih =>
    by_cases hm : ∃ i : Nat, i < j ∧ xs[i]? = some x
    · obtain ⟨i, hi, hx⟩ := hm
      exact ih i hi hx
    · exact ⟨j, hj, fun i hi hx => hm ⟨i, hi, hx⟩⟩

theorem hasB_none {x : Int} {xs : List Int} (h : hasB x xs = false) (j : Nat) : xs[j]? ≠ some x := fun hj => of_decide_eq_false h (List.mem_of_getElem? hj)

theorem ret_bool {a b : Bool} (h : a = b) : Ending.returned (.bool a) = .returned (.bool b) := by rw [h]

set_option maxHeartbeats 400000 in
theorem index_found (v : Value) (xs : List Int) (x : Int) (n : Nat) (w : World) (B : Nat) (hv : IntsR w B v xs) (hn : xs[n]? = some x) (hm : ∀ j, j < n → xs[j]? ≠ some x) :
    Calls Tryz.prog 90 #[v, .int .i64 x] w fun e w' => e = .returned (.int .i64 n) ∧ w' = w := by
  obtain ⟨ao, cap, rfl, h1, h2, h3, h4⟩ := hv
  have HN : Hid (xs[n]? = some x) := hn
  have HM : Hid (∀ j, j < n → xs[j]? ≠ some x) := hm
  have hnl : n < xs.length := (List.getElem?_eq_some_iff.1 hn).1
  clear hn hm
  go_enter Tryz.func90, Tryz.ntmps90
  go_wp2
  go_loop [8] (fun i => ∃ k : Nat, k ≤ n ∧ i = .int .i64 k) (fun i => xs.length - (intOf i).toNat)
  case atStart => exact ⟨0, Nat.zero_le _, rfl⟩
  case round =>
    obtain ⟨k, hk, rfl⟩ := hrel
    have hlt : k < xs.length := by omega
    obtain ⟨b, off, rfl, hb, hc⟩ := h4 (by omega)
    obtain ⟨y, hy⟩ : ∃ y, xs[k]? = some y := ⟨_, List.getElem?_eq_getElem hlt⟩
    have hcell := hc k y hy
    have HY : Hid (xs[k]? = some y) := hy
    clear hy hc h4
    by_cases hkn : k = n
    · subst hkn
      have hyx : x = y := by have := HY.out; rw [HN.out] at this; simpa using this
      clear HN HY
      subst hyx
      go_wp2
      go_ret
      exact ⟨rfl, rfl⟩
    · have hkn' : k < n := by omega
      have hyx : ¬ x = y := by rintro rfl; exact HM.out k hkn' HY.out
      clear hkn
      go_wp2
      go_round
      case rel => exact ⟨k + 1, by omega, by go_num⟩
      case measure => simp [intOf]; omega

set_option maxHeartbeats 400000 in
theorem index_none (v : Value) (xs : List Int) (x : Int) (w : World) (B : Nat) (hv : IntsR w B v xs) (hm : ∀ j : Nat, xs[j]? ≠ some x) :
    Calls Tryz.prog 90 #[v, .int .i64 x] w fun e w' => e = .returned (.int .i64 (-1)) ∧ w' = w := by
  obtain ⟨ao, cap, rfl, h1, h2, h3, h4⟩ := hv
  have HM : Hid (∀ j : Nat, xs[j]? ≠ some x) := hm
  clear hm
  go_enter Tryz.func90, Tryz.ntmps90
  go_wp2
  go_loop [8] (fun i => ∃ k : Nat, k ≤ xs.length ∧ i = .int .i64 k) (fun i => xs.length - (intOf i).toNat)
  case atStart => exact ⟨0, Nat.zero_le _, rfl⟩
  case round =>
    obtain ⟨k, hk, rfl⟩ := hrel
    by_cases hlt : k < xs.length
    · obtain ⟨b, off, rfl, hb, hc⟩ := h4 (by omega)
      obtain ⟨y, hy⟩ : ∃ y, xs[k]? = some y := ⟨_, List.getElem?_eq_getElem hlt⟩
      have hcell := hc k y hy
      have hyx : ¬ x = y := by rintro rfl; exact HM.out k hy
      clear hy hc h4
      go_wp2
      go_round
      case rel => exact ⟨k + 1, by omega, by go_num⟩
      case measure => simp [intOf]; omega
    · go_wp2
      go_ret
      exact ⟨rfl, rfl⟩

theorem contains_any (v : Value) (xs : List Int) (x : Int) (w : World) (B : Nat) (hv : IntsR w B v xs) :
    Calls Tryz.prog 84 #[v, .int .i64 x] w fun e w' => e = .returned (.bool (hasB x xs)) ∧ w' = w := by
  cases h : hasB x xs with
  | true =>
    obtain ⟨n, hn, hm⟩ := hasB_first h
    have hnl : n < xs.length := (List.getElem?_eq_some_iff.1 hn).1
    have hlen := hv.len
    have C := index_found v xs x n w B hv hn hm
    clear hv hn hm h
    go_enter Tryz.func84, Tryz.ntmps84
    go_wp2_with fail
    refine C.mono ?_
    rintro e w1 ⟨rfl, rfl⟩
    go_wp2
    go_ret
    exact ⟨rfl, rfl⟩
  | false =>
    have C := index_none v xs x w B hv (hasB_none h)
    clear hv h
    go_enter Tryz.func84, Tryz.ntmps84
    go_wp2_with fail
    refine C.mono ?_
    rintro e w1 ⟨rfl, rfl⟩
    go_wp2
    go_ret
    exact ⟨rfl, rfl⟩

end Go.Proofs.YtkjahjknmfjmkagGreatDoor

namespace Go.Proofs.YtkjahjknmfjmkagGreatDoor

open Go.RowKit

/-- Is the number at place i of a line one that may not stand there? -/
def badB (xs : List Int) (h : Int) (i : Nat) : Bool :=
  match xs[i]? with
  | none => false
  | some x => !decide (1 ≤ x ∧ x ≤ 9) || decide (x = h) || hasB x (xs.take i)

/-- May the line be that of a lock with this holder? -/
def lineB (xs : List Int) (h : Int) : Bool := decide (xs.length ≤ 3 ∧ ¬ (h = 0 ∧ 0 < xs.length)) && (List.range xs.length).all fun i => !badB xs h i

/-- May the name, the holder and the line be those of a lock? -/
def formB (x : LockD) : Bool := nameB x.name && decide (0 ≤ x.holder ∧ x.holder ≤ 9) && lineB x.line x.holder

/-- Is a text at most another one? -/
def leN (a b : ByteArray) : Bool := Op.bytesLess a.toList b.toList || a.toList == b.toList

/-- Locks one by one, the name of the one ahead given. -/
def checkFrom : ByteArray → List LockD → Int
  | _, [] => 0
  | p, x :: t => if formB x = false then 4 else if x.fence < 1 ∨ 1073741824 < x.fence then 2 else if leN x.name p = true then 14 else checkFrom x.name t

/-- What is wrong with locks; 0: nothing. -/
def checkL (ls : List LockD) : Int := if 5 < ls.length then 1 else checkFrom ⟨#[]⟩ ls

theorem lineB_yes {xs : List Int} {h : Int} (hl : lineB xs h = true) : xs.length ≤ 3 ∧ ¬ (h = 0 ∧ 0 < xs.length) ∧ ∀ i x, xs[i]? = some x → 1 ≤ x ∧ x ≤ 9 ∧ x ≠ h ∧ hasB x (xs.take i) = false := by
  unfold lineB at hl
  rw [Bool.and_eq_true] at hl
  obtain ⟨h1, h2⟩ := hl
  have h1 := of_decide_eq_true h1
  refine ⟨h1.1, h1.2, fun i x hx => ?_⟩
  have hi : i < xs.length := (List.getElem?_eq_some_iff.1 hx).1
  have := List.all_eq_true.1 h2 i (List.mem_range.2 hi)
  simp only [badB, hx, Bool.not_eq_true', Bool.or_eq_false_iff, Bool.not_eq_false'] at this
  have h3 := of_decide_eq_true this.1.1
  exact ⟨h3.1, h3.2, of_decide_eq_false this.1.2, this.2⟩

theorem lineB_no {xs : List Int} {h : Int} (hl : lineB xs h = false) (h1 : xs.length ≤ 3) (h2 : ¬ (h = 0 ∧ 0 < xs.length)) :
    ∃ i x, xs[i]? = some x ∧ (x < 1 ∨ 9 < x ∨ x = h ∨ hasB x (xs.take i) = true) := by
  unfold lineB at hl
  rw [decide_eq_true (p := xs.length ≤ 3 ∧ ¬ (h = 0 ∧ 0 < xs.length)) ⟨h1, h2⟩, Bool.true_and] at hl
  obtain ⟨i, hi, hb⟩ := List.all_eq_false.1 hl
  have hi' := List.mem_range.1 hi
  refine ⟨i, xs[i], List.getElem?_eq_getElem hi', ?_⟩
  simp only [badB, List.getElem?_eq_getElem hi', Bool.not_eq_true', Bool.or_eq_false_iff, not_and] at hb
  cases hh : hasB xs[i] (xs.take i) with
  | true => exact Or.inr (Or.inr (Or.inr rfl))
  | false =>
    rw [hh] at hb
    simp at hb
    omega

/-- The first places of what a value reads as. -/
theorem ints_take {w : World} {B b off k cap : Nat} {xs : List Int} (hk : k ≤ xs.length) (h1 : xs.length ≤ cap) (h2 : xs.length * 8 ≤ 140737488351232) (hb : b < B)
    (hc : ∀ i x, xs[i]? = some x → w.cell? ⟨b, off + i, none⟩ = some (.int .i64 x)) : IntsR w B (.slice (some ⟨b, off, none⟩) k cap) (xs.take k) := by
  refine ⟨some ⟨b, off, none⟩, cap, by rw [List.length_take, Nat.min_eq_left hk], by rw [List.length_take]; omega, by rw [List.length_take]; omega, (by intro h; cases h), fun _ => ⟨b, off, rfl, hb, fun i x hx => hc i x ?_⟩⟩
  rw [List.getElem?_take] at hx
  split at hx
  · exact hx
  · cases hx

end Go.Proofs.YtkjahjknmfjmkagGreatDoor

namespace Go.Proofs.YtkjahjknmfjmkagGreatDoor

open Go.RowKit

set_option maxHeartbeats 400000 in
theorem name_yes (s : ByteArray) (w : World) (h : nameB s = true) :
    Calls Tryz.prog 46 #[.string s] w fun e w' => e = .returned (.bool true) ∧ w' = w := by
  obtain ⟨h1, h2, h3⟩ := nameB_yes h
  clear h
  go_enter Tryz.func46, Tryz.ntmps46
  go_wp2
  go_loop [14] (fun i => ∃ k : Nat, k ≤ s.size ∧ i = .int .i64 k) (fun i => s.size - (intOf i).toNat)
  case atStart => exact ⟨0, Nat.zero_le _, rfl⟩
  case round =>
    obtain ⟨k, hk, rfl⟩ := hrel
    by_cases hlt : k < s.size
    · obtain ⟨h4, h5⟩ := h3 k hlt
      go_wp2
      go_round
      case rel => exact ⟨k + 1, by omega, by go_num⟩
      case measure => simp [intOf]; omega
    · go_wp2
      go_ret
      exact ⟨rfl, rfl⟩

set_option maxHeartbeats 400000 in
theorem name_no (s : ByteArray) (w : World) (hs : s.size ≤ 9223372036854775807) (h : nameB s = false) :
    Calls Tryz.prog 46 #[.string s] w fun e w' => e = .returned (.bool false) ∧ w' = w := by
  by_cases h1 : s.size < 1
  · go_enter Tryz.func46, Tryz.ntmps46
    go_wp2
    go_ret
    exact ⟨rfl, rfl⟩
  · by_cases h2 : 6 < s.size
    · go_enter Tryz.func46, Tryz.ntmps46
      go_wp2
      go_ret
      exact ⟨rfl, rfl⟩
    · obtain ⟨j, hj, hbad⟩ := nameB_no h (by omega) (by omega)
      clear h
      go_enter Tryz.func46, Tryz.ntmps46
      go_wp2
      go_loop [14] (fun i => ∃ k : Nat, k ≤ j ∧ i = .int .i64 k) (fun i => s.size - (intOf i).toNat)
      case atStart => exact ⟨0, Nat.zero_le _, rfl⟩
      case round =>
        obtain ⟨k, hk, rfl⟩ := hrel
        have hlt : k < s.size := by omega
        by_cases h4 : (s[k].toNat : Int) < 97
        · clear hbad
          go_wp2
          go_ret
          exact ⟨rfl, rfl⟩
        · by_cases h5 : 122 < (s[k].toNat : Int)
          · clear hbad
            go_wp2
            go_ret
            exact ⟨rfl, rfl⟩
          · have hne : k ≠ j := by rintro rfl; omega
            clear hbad
            have hkj : k < j := by omega
            clear hne
            go_wp2
            go_round
            case rel => exact ⟨k + 1, by omega, by go_num⟩
            case measure => simp [intOf]; omega

theorem name_any (s : ByteArray) (w : World) (hs : s.size ≤ 9223372036854775807) :
    Calls Tryz.prog 46 #[.string s] w fun e w' => e = .returned (.bool (nameB s)) ∧ w' = w := by
  cases h : nameB s with
  | true => exact name_yes s w h
  | false => exact name_no s w hs h

end Go.Proofs.YtkjahjknmfjmkagGreatDoor

namespace Go.Proofs.YtkjahjknmfjmkagGreatDoor

open Go.RowKit

theorem isClient_yes (n : Int) (w : World) (h1 : 1 ≤ n) (h2 : n ≤ 9) :
    Calls Tryz.prog 68 #[.int .i64 n] w fun e w' => e = .returned (.bool true) ∧ w' = w := by
  go_enter Tryz.func68, Tryz.ntmps68
  go_wp2
  go_ret
  exact ⟨rfl, rfl⟩

theorem isClient_no (n : Int) (w : World) (h : n < 1 ∨ 9 < n) :
    Calls Tryz.prog 68 #[.int .i64 n] w fun e w' => e = .returned (.bool false) ∧ w' = w := by
  rcases h with h | h
  · have h1 : ¬ 1 ≤ n := by omega
    go_enter Tryz.func68, Tryz.ntmps68
    go_wp2
    go_ret
    exact ⟨rfl, rfl⟩
  · have h1 : 1 ≤ n := by omega
    have h2 : ¬ n ≤ 9 := by omega
    go_enter Tryz.func68, Tryz.ntmps68
    go_wp2
    go_ret
    exact ⟨rfl, rfl⟩

set_option maxHeartbeats 800000 in
theorem line_yes (v : Value) (xs : List Int) (h : Int) (w : World) (B : Nat) (hv : IntsR w B v xs) (hl : lineB xs h = true) :
    Calls Tryz.prog 69 #[v, .int .i64 h] w fun e w' => e = .returned (.bool true) ∧ w' = w := by
  obtain ⟨l1, l2, l3⟩ := lineB_yes hl
  have H3 : Hid (∀ i x, xs[i]? = some x → 1 ≤ x ∧ x ≤ 9 ∧ x ≠ h ∧ hasB x (xs.take i) = false) := l3
  clear hl l3
  obtain ⟨ao, cap, rfl, h1, h2, h3, h4⟩ := hv
  by_cases hyp : h = 0
  · have hx : xs = [] := List.eq_nil_of_length_eq_zero (by
      by_cases hp : 0 < xs.length
      · exact absurd ⟨hyp, hp⟩ l2
      · exact Nat.eq_zero_of_not_pos hp)
    subst hx
    subst hyp
    clear l2 h4 H3
    simp only [List.length_nil]
    go_enter Tryz.func69, Tryz.ntmps69
    go_wp2
    go_loop [21] (fun i => i = .int .i64 0) (fun i => 0)
    case atStart => rfl
    case round =>
      subst hrel
      go_wp2
      go_ret
      exact ⟨rfl, rfl⟩
  · clear l2
    go_enter Tryz.func69, Tryz.ntmps69
    go_wp2
    go_loop [21] (fun i => ∃ k : Nat, k ≤ xs.length ∧ i = .int .i64 k) (fun i => xs.length - (intOf i).toNat)
    case atStart => exact ⟨0, Nat.zero_le _, rfl⟩
    case round =>
      obtain ⟨k, hk, rfl⟩ := hrel
      by_cases hlt : k < xs.length
      · obtain ⟨b, off, rfl, hb, hc⟩ := h4 (by omega)
        obtain ⟨y, hy⟩ : ∃ y, xs[k]? = some y := ⟨_, List.getElem?_eq_getElem hlt⟩
        have hcell := hc k y hy
        obtain ⟨y1, y2, y3, y4⟩ := H3.out k y hy
        have hkc : k ≤ cap := by omega
        have HT : Hid (IntsR w B (.slice (some ⟨b, off, none⟩) k cap) (xs.take k)) := ints_take hk h1 h2 hb hc
        have HH : Hid (hasB y (xs.take k) = false) := y4
        clear hy hc h4 y4
        go_wp2_with fail
        refine (isClient_yes y _ y1 y2).mono ?_
        rintro e w1 ⟨rfl, rfl⟩
        go_wp2_with fail
        refine (contains_any _ _ y _ B HT.out).mono ?_
        rintro e w1 ⟨rfl, rfl⟩
        rw [HH.out]
        go_wp2
        go_round
        case rel => exact ⟨k + 1, by omega, by go_num⟩
        case measure => simp [intOf]; omega
      · go_wp2
        go_ret
        exact ⟨rfl, rfl⟩

set_option maxHeartbeats 800000 in
theorem line_no (v : Value) (xs : List Int) (h : Int) (w : World) (B : Nat) (hv : IntsR w B v xs) (hl : lineB xs h = false) :
    Calls Tryz.prog 69 #[v, .int .i64 h] w fun e w' => e = .returned (.bool false) ∧ w' = w := by
  obtain ⟨ao, cap, rfl, h1, h2, h3, h4⟩ := hv
  by_cases c1 : 3 < xs.length
  · go_enter Tryz.func69, Tryz.ntmps69
    go_wp2
    go_ret
    exact ⟨rfl, rfl⟩
  · by_cases c2 : h = 0 ∧ 0 < xs.length
    · obtain ⟨c2, c3⟩ := c2
      subst c2
      go_enter Tryz.func69, Tryz.ntmps69
      go_wp2
      go_ret
      exact ⟨rfl, rfl⟩
    · obtain ⟨j, z, hz, hbad⟩ := lineB_no hl (by omega) c2
      have hjl : j < xs.length := (List.getElem?_eq_some_iff.1 hz).1
      have hh0 : ¬ h = 0 := fun e => c2 ⟨e, by omega⟩
      have HB : Hid (z < 1 ∨ 9 < z ∨ z = h ∨ hasB z (xs.take j) = true) := hbad
      have HZ : Hid (xs[j]? = some z) := hz
      clear hl c2 hbad hz
      go_enter Tryz.func69, Tryz.ntmps69
      go_wp2
      go_loop [21] (fun i => ∃ k : Nat, k ≤ j ∧ i = .int .i64 k) (fun i => xs.length - (intOf i).toNat)
      case atStart => exact ⟨0, Nat.zero_le _, rfl⟩
      case round =>
        obtain ⟨k, hk, rfl⟩ := hrel
        have hlt : k < xs.length := by omega
        obtain ⟨b, off, rfl, hb, hc⟩ := h4 (by omega)
        obtain ⟨y, hy⟩ : ∃ y, xs[k]? = some y := ⟨_, List.getElem?_eq_getElem hlt⟩
        have hcell := hc k y hy
        have hkc : k ≤ cap := by omega
        have HT : Hid (IntsR w B (.slice (some ⟨b, off, none⟩) k cap) (xs.take k)) := ints_take (by omega) h1 h2 hb hc
        have HY : Hid (xs[k]? = some y) := hy
        clear hy hc h4
        by_cases y1 : y < 1 ∨ 9 < y
        · have HC := isClient_no y w y1
          clear y1
          go_wp2_with fail
          refine HC.mono ?_
          rintro e w1 ⟨rfl, rfl⟩
          go_wp2
          go_ret
          exact ⟨rfl, rfl⟩
        · have y2 : 1 ≤ y := by omega
          have y3 : y ≤ 9 := by omega
          clear y1
          by_cases y4 : y = h
          · subst y4
            go_wp2_with fail
            refine (isClient_yes y _ y2 y3).mono ?_
            rintro e w1 ⟨rfl, rfl⟩
            go_wp2
            go_ret
            exact ⟨rfl, rfl⟩
          · cases y5 : hasB y (xs.take k) with
            | true =>
              have H5 : Hid (hasB y (xs.take k) = true) := y5
              clear y5
              go_wp2_with fail
              refine (isClient_yes y _ y2 y3).mono ?_
              rintro e w1 ⟨rfl, rfl⟩
              go_wp2_with fail
              refine (contains_any _ _ y _ B HT.out).mono ?_
              rintro e w1 ⟨rfl, rfl⟩
              rw [H5.out]
              go_wp2
              go_ret
              exact ⟨rfl, rfl⟩
            | false =>
              have hkj : k < j := by
                by_cases e : k = j
                · subst e
                  have e2 : y = z := by have := HY.out; rw [HZ.out] at this; simpa using this.symm
                  subst e2
                  rcases HB.out with q | q | q | q
                  · omega
                  · omega
                  · exact absurd q y4
                  · rw [y5] at q; cases q
                · omega
              have H5 : Hid (hasB y (xs.take k) = false) := y5
              clear y5
              go_wp2_with fail
              refine (isClient_yes y _ y2 y3).mono ?_
              rintro e w1 ⟨rfl, rfl⟩
              go_wp2_with fail
              refine (contains_any _ _ y _ B HT.out).mono ?_
              rintro e w1 ⟨rfl, rfl⟩
              rw [H5.out]
              go_wp2
              go_round
              case rel => exact ⟨k + 1, by omega, by go_num⟩
              case measure => simp [intOf]; omega

theorem line_any (v : Value) (xs : List Int) (h : Int) (w : World) (B : Nat) (hv : IntsR w B v xs) :
    Calls Tryz.prog 69 #[v, .int .i64 h] w fun e w' => e = .returned (.bool (lineB xs h)) ∧ w' = w := by
  cases hl : lineB xs h with
  | true => exact line_yes v xs h w B hv hl
  | false => exact line_no v xs h w B hv hl

end Go.Proofs.YtkjahjknmfjmkagGreatDoor
