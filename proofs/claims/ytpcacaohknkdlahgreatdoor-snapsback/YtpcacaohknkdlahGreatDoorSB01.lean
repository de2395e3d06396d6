/- Plain mathematics of names: 1 to 6 letters from a to z. It imports no program; Lists of numbers that are only read: the document's has, slices.Index, slices.Contains, the law's sameInts; Plain mathematics of locks: when may they be; what is wrong first; lock.Name and the document's NameMay: both tell whether a text is a name, at every text; lock.isClient, lock.lineInForm, lock.inForm: may the name, the holder and the line be those of a lock?; lock.inForm: may the name, the holder and the line be those of a lock?; lock.Check: what is wrong with locks (joined by program) -/
import Derived.WalkKit
import Derived.ProofKit
import Derived.Deep.QuietTactic
import Derived.BigQuiet
import Derived.Test.YtpcacaohknkdlahGreatDoorRows
import Derived.WalkLawsBesides
import Derived.Laws.Cover1
import Derived.Test.YtpcacaohknkdlahGreatDoorSB00
namespace Go.Proofs.YtpcacaohknkdlahGreatDoor

open Go.RowKit

/-- Is a text a name? -/
def nameB (s : ByteArray) : Bool := decide (1 ≤ s.size ∧ s.size ≤ 6 ∧ ∀ k, (h : k < s.size) → 97 ≤ s[k].toNat ∧ s[k].toNat ≤ 122)

theorem nameB_yes {s : ByteArray} (h : nameB s = true) : 1 ≤ s.size ∧ s.size ≤ 6 ∧ ∀ k, (h : k < s.size) → 97 ≤ (s[k].toNat : Int) ∧ (s[k].toNat : Int) ≤ 122 := by
  unfold nameB at h
  have := of_decide_eq_true h
  refine ⟨this.1, this.2.1, fun k hk => ?_⟩
  have := this.2.2 k hk
  omega

theorem nameB_no {s : ByteArray} (h : nameB s = false) (h1 : 1 ≤ s.size) (h2 : s.size ≤ 6) : ∃ k, ∃ h : k < s.size, (s[k].toNat : Int) < 97 ∨ 122 < (s[k].toNat : Int) := by
  unfold nameB at h
  have := of_decide_eq_false h
  apply Classical.byContradiction
  intro hn
  refine this ⟨h1, h2, fun k hk => ?_⟩
  apply Classical.byContradiction
  intro hc
  exact hn ⟨k, hk, by omega⟩

end Go.Proofs.YtpcacaohknkdlahGreatDoor

namespace Go.Proofs.YtpcacaohknkdlahGreatDoor

open Go.RowKit

/-- Is a number in a list? -/
def hasB (x : Int) (xs : List Int) : Bool := decide (x ∈ xs)

theorem hasB_first {x : Int} {xs : List Int} (h : hasB x xs = true) : ∃ i : Nat, xs[i]? = some x ∧ ∀ j : Nat, j < i → xs[j]? ≠ some x := by
  obtain ⟨j, hj⟩ := List.mem_iff_getElem?.1 (of_decide_eq_true h)
  induction j using Nat.strongRecOn with
  | ind j ih =>
    by_cases hm : ∃ i : Nat, i < j ∧ xs[i]? = some x
    · obtain ⟨i, hi, hx⟩ := hm
      exact ih i hi hx
    · exact ⟨j, hj, fun i hi hx => hm ⟨i, hi, hx⟩⟩

theorem hasB_none {x : Int} {xs : List Int} (h : hasB x xs = false) (j : Nat) : xs[j]? ≠ some x := fun hj => of_decide_eq_false h (List.mem_of_getElem? hj)

theorem ret_bool {a b : Bool} (h : a = b) : Ending.returned (.bool a) = .returned (.bool b) := by rw [h]

set_option maxHeartbeats 400000 in
theorem index_found (v : Value) (xs : List Int) (x : Int) (n : Nat) (w : World) (B : Nat) (hv : IntsR w B v xs) (hn : xs[n]? = some x) (hm : ∀ j, j < n → xs[j]? ≠ some x) :
    Calls Tryz.prog 106 #[v, .int .i64 x] w fun e w' => e = .returned (.int .i64 n) ∧ w' = w := by
  obtain ⟨ao, cap, rfl, h1, h2, h3, h4⟩ := hv
  have HN : Hid (xs[n]? = some x) := hn
  have HM : Hid (∀ j, j < n → xs[j]? ≠ some x) := hm
  have hnl : n < xs.length := (List.getElem?_eq_some_iff.1 hn).1
  clear hn hm
  go_enter Tryz.func106, Tryz.ntmps106
  go_wp2
  go_loop [8] (fun i => ∃ k : Nat, k ≤ n ∧ i = .int .i64 k) (fun i => xs.length - (intOf i).toNat)
  case atStart => exact ⟨0, Nat.zero_le _, rfl⟩
  case round =>
    obtain ⟨k, hk, rfl⟩ := hrel
    have hlt : k < xs.length := by omega
    obtain ⟨b, off, rfl, hb, hc⟩ := h4 (by omega)
    obtain ⟨y, hy⟩ : ∃ y, xs[k]? = some y := ⟨_, List.getElem?_eq_getElem hlt⟩
    have hcell := hc k y hy
    have HY : Hid (xs[k]? = some y) := hy
    clear hy hc h4
    by_cases hkn : k = n
    · subst hkn
      have hyx : x = y := by have := HY.out; rw [HN.out] at this; simpa using this
      clear HN HY
      subst hyx
      go_wp2
      go_ret
      exact ⟨rfl, rfl⟩
    · have hkn' : k < n := by omega
      have hyx : ¬ x = y := by rintro rfl; exact HM.out k hkn' HY.out
      clear hkn
      go_wp2
      go_round
      case rel => exact ⟨k + 1, by omega, by go_num⟩
      case measure => simp [intOf]; omega

set_option maxHeartbeats 400000 in
theorem index_none (v : Value) (xs : List Int) (x : Int) (w : World) (B : Nat) (hv : IntsR w B v xs) (hm : ∀ j : Nat, xs[j]? ≠ some x) :
    Calls Tryz.prog 106 #[v, .int .i64 x] w fun e w' => e = .returned (.int .i64 (-1)) ∧ w' = w := by
  obtain ⟨ao, cap, rfl, h1, h2, h3, h4⟩ := hv
  have HM : Hid (∀ j : Nat, xs[j]? ≠ some x) := hm
  clear hm
  go_enter Tryz.func106, Tryz.ntmps106
  go_wp2
  go_loop [8] (fun i => ∃ k : Nat, k ≤ xs.length ∧ i = .int .i64 k) (fun i => xs.length - (intOf i).toNat)
  case atStart => exact ⟨0, Nat.zero_le _, rfl⟩
  case round =>
    obtain ⟨k, hk, rfl⟩ := hrel
    by_cases hlt : k < xs.length
    · obtain ⟨b, off, rfl, hb, hc⟩ := h4 (by omega)
      obtain ⟨y, hy⟩ : ∃ y, xs[k]? = some y := ⟨_, List.getElem?_eq_getElem hlt⟩
      have hcell := hc k y hy
      have hyx : ¬ x = y := by rintro rfl; exact HM.out k hy
      clear hy hc h4
      go_wp2
      go_round
      case rel => exact ⟨k + 1, by omega, by go_num⟩
      case measure => simp [intOf]; omega
    · go_wp2
      go_ret
      exact ⟨rfl, rfl⟩

theorem contains_any (v : Value) (xs : List Int) (x : Int) (w : World) (B : Nat) (hv : IntsR w B v xs) :
    Calls Tryz.prog 126 #[v, .int .i64 x] w fun e w' => e = .returned (.bool (hasB x xs)) ∧ w' = w := by
  cases h : hasB x xs with
  | true =>
    obtain ⟨n, hn, hm⟩ := hasB_first h
    have hnl : n < xs.length := (List.getElem?_eq_some_iff.1 hn).1
    have hlen := hv.len
    have C := index_found v xs x n w B hv hn hm
    clear hv hn hm h
    go_enter Tryz.func126, Tryz.ntmps126
    go_wp2_with fail
    refine C.mono ?_
    rintro e w1 ⟨rfl, rfl⟩
    go_wp2
    go_ret
    exact ⟨rfl, rfl⟩
  | false =>
    have C := index_none v xs x w B hv (hasB_none h)
    clear hv h
    go_enter Tryz.func126, Tryz.ntmps126
    go_wp2_with fail
    refine C.mono ?_
    rintro e w1 ⟨rfl, rfl⟩
    go_wp2
    go_ret
    exact ⟨rfl, rfl⟩

end Go.Proofs.YtpcacaohknkdlahGreatDoor

namespace Go.Proofs.YtpcacaohknkdlahGreatDoor

open Go.RowKit

/-- Is the number at place i of a line one that may not stand there? -/
def badB (xs : List Int) (h : Int) (i : Nat) : Bool :=
  match xs[i]? with
  | none => false
  | some x => !decide (1 ≤ x ∧ x ≤ 9) || decide (x = h) || hasB x (xs.take i)

/-- May the line be that of a lock with this holder? -/
def lineB (xs : List Int) (h : Int) : Bool := decide (xs.length ≤ 3 ∧ ¬ (h = 0 ∧ 0 < xs.length)) && (List.range xs.length).all fun i => !badB xs h i

/-- May the name, the holder and the line be those of a lock? -/
def formB (x : LockD) : Bool := nameB x.name && decide (0 ≤ x.holder ∧ x.holder ≤ 9) && lineB x.line x.holder

/-- Is a text at most another one? -/
def leN (a b : ByteArray) : Bool := Op.bytesLess a.toList b.toList || a.toList == b.toList

/-- Locks one by one, the name of the one ahead given. -/
def checkFrom : ByteArray → List LockD → Int
  | _, [] => 0
  | p, x :: t => if formB x = false then 4 else if x.fence < 1 ∨ 1073741824 < x.fence then 2 else if leN x.name p = true then 14 else checkFrom x.name t

/-- What is wrong with locks; 0: nothing. -/
def checkL (ls : List LockD) : Int := if 5 < ls.length then 1 else checkFrom ⟨#[]⟩ ls

theorem lineB_yes {xs : List Int} {h : Int} (hl : lineB xs h = true) : xs.length ≤ 3 ∧ ¬ (h = 0 ∧ 0 < xs.length) ∧ ∀ i x, xs[i]? = some x → 1 ≤ x ∧ x ≤ 9 ∧ x ≠ h ∧ hasB x (xs.take i) = false := by
  unfold lineB at hl
  rw [Bool.and_eq_true] at hl
  obtain ⟨h1, h2⟩ := hl
  have h1 := of_decide_eq_true h1
  refine ⟨h1.1, h1.2, fun i x hx => ?_⟩
  have hi : i < xs.length := (List.getElem?_eq_some_iff.1 hx).1
  have := List.all_eq_true.1 h2 i (List.mem_range.2 hi)
  simp only [badB, hx, Bool.not_eq_true', Bool.or_eq_false_iff, Bool.not_eq_false'] at this
  have h3 := of_decide_eq_true this.1.1
  exact ⟨h3.1, h3.2, of_decide_eq_false this.1.2, this.2⟩

theorem lineB_no {xs : List Int} {h : Int} (hl : lineB xs h = false) (h1 : xs.length ≤ 3) (h2 : ¬ (h = 0 ∧ 0 < xs.length)) :
    ∃ i x, xs[i]? = some x ∧ (x < 1 ∨ 9 < x ∨ x = h ∨ hasB x (xs.take i) = true) := by
  unfold lineB at hl
  rw [decide_eq_true (p := xs.length ≤ 3 ∧ ¬ (h = 0 ∧ 0 < xs.length)) ⟨h1, h2⟩, Bool.true_and] at hl
  obtain ⟨i, hi, hb⟩ := List.all_eq_false.1 hl
  have hi' := List.mem_range.1 hi
  refine ⟨i, xs[i], List.getElem?_eq_getElem hi', ?_⟩
  simp only [badB, List.getElem?_eq_getElem hi', Bool.not_eq_true', Bool.or_eq_false_iff, not_and] at hb
  cases hh : hasB xs[i] (xs.take i) with
  | true => exact Or.inr (Or.inr (Or.inr rfl))
  | false =>
    rw [hh] at hb
    simp at hb
    omega

/-- The first places of what a value reads as. -/
theorem ints_take {w : World} {B b off k cap : Nat} {xs : List Int} (hk : k ≤ xs.length) (h1 : xs.length ≤ cap) (h2 : xs.length * 8 ≤ 140737488351232) (hb : b < B)
    (hc : ∀ i x, xs[i]? = some x → w.cell? ⟨b, off + i, none⟩ = some (.int .i64 x)) : IntsR w B (.slice (some ⟨b, off, none⟩) k cap) (xs.take k) := by
  refine ⟨some ⟨b, off, none⟩, cap, by rw [List.length_take, Nat.min_eq_left hk], by rw [List.length_take]; omega, by rw [List.length_take]; omega, (by intro h; cases h), fun _ => ⟨b, off, rfl, hb, fun i x hx => hc i x ?_⟩⟩
  rw [List.getElem?_take] at hx
  split at hx
  · exact hx
  · cases hx

end Go.Proofs.YtpcacaohknkdlahGreatDoor

namespace Go.Proofs.YtpcacaohknkdlahGreatDoor

open Go.RowKit

set_option maxHeartbeats 400000 in
theorem name_yes (s : ByteArray) (w : World) (h : nameB s = true) :
    Calls Tryz.prog 66 #[.string s] w fun e w' => e = .returned (.bool true) ∧ w' = w := by
  obtain ⟨h1, h2, h3⟩ := nameB_yes h
  clear h
  go_enter Tryz.func66, Tryz.ntmps66
  go_wp2
  go_loop [14] (fun i => ∃ k : Nat, k ≤ s.size ∧ i = .int .i64 k) (fun i => s.size - (intOf i).toNat)
  case atStart => exact ⟨0, Nat.zero_le _, rfl⟩
  case round =>
    obtain ⟨k, hk, rfl⟩ := hrel
    by_cases hlt : k < s.size
    · obtain ⟨h4, h5⟩ := h3 k hlt
      go_wp2
      go_round
      case rel => exact ⟨k + 1, by omega, by go_num⟩
      case measure => simp [intOf]; omega
    · go_wp2
      go_ret
      exact ⟨rfl, rfl⟩

set_option maxHeartbeats 400000 in
theorem name_no (s : ByteArray) (w : World) (hs : s.size ≤ 9223372036854775807) (h : nameB s = false) :
    Calls Tryz.prog 66 #[.string s] w fun e w' => e = .returned (.bool false) ∧ w' = w := by
  by_cases h1 : s.size < 1
  · go_enter Tryz.func66, Tryz.ntmps66
    go_wp2
    go_ret
    exact ⟨rfl, rfl⟩
  · by_cases h2 : 6 < s.size
    · go_enter Tryz.func66, Tryz.ntmps66
      go_wp2
      go_ret
      exact ⟨rfl, rfl⟩
    · obtain ⟨j, hj, hbad⟩ := nameB_no h (by omega) (by omega)
      clear h
      go_enter Tryz.func66, Tryz.ntmps66
      go_wp2
      go_loop [14] (fun i => ∃ k : Nat, k ≤ j ∧ i = .int .i64 k) (fun i => s.size - (intOf i).toNat)
      case atStart => exact ⟨0, Nat.zero_le _, rfl⟩
      case round =>
        obtain ⟨k, hk, rfl⟩ := hrel
        have hlt : k < s.size := by omega
        by_cases h4 : (s[k].toNat : Int) < 97
        · clear hbad
          go_wp2
          go_ret
          exact ⟨rfl, rfl⟩
        · by_cases h5 : 122 < (s[k].toNat : Int)
          · clear hbad
            go_wp2
            go_ret
            exact ⟨rfl, rfl⟩
          · have hne : k ≠ j := by rintro rfl; omega
            clear hbad
            have hkj : k < j := by omega
            clear hne
            go_wp2
            go_round
            case rel => exact ⟨k + 1, by omega, by go_num⟩
            case measure => simp [intOf]; omega

theorem name_any (s : ByteArray) (w : World) (hs : s.size ≤ 9223372036854775807) :
    Calls Tryz.prog 66 #[.string s] w fun e w' => e = .returned (.bool (nameB s)) ∧ w' = w := by
  cases h : nameB s with
  | true => exact name_yes s w h
  | false => exact name_no s w hs h

end Go.Proofs.YtpcacaohknkdlahGreatDoor

namespace Go.Proofs.YtpcacaohknkdlahGreatDoor

open Go.RowKit

theorem isClient_yes (n : Int) (w : World) (h1 : 1 ≤ n) (h2 : n ≤ 9) :
    Calls Tryz.prog 85 #[.int .i64 n] w fun e w' => e = .returned (.bool true) ∧ w' = w := by
  go_enter Tryz.func85, Tryz.ntmps85
  go_wp2
  go_ret
  exact ⟨rfl, rfl⟩

theorem isClient_no (n : Int) (w : World) (h : n < 1 ∨ 9 < n) :
    Calls Tryz.prog 85 #[.int .i64 n] w fun e w' => e = .returned (.bool false) ∧ w' = w := by
  rcases h with h | h
  · have h1 : ¬ 1 ≤ n := by omega
    go_enter Tryz.func85, Tryz.ntmps85
    go_wp2
    go_ret
    exact ⟨rfl, rfl⟩
  · have h1 : 1 ≤ n := by omega
    have h2 : ¬ n ≤ 9 := by omega
    go_enter Tryz.func85, Tryz.ntmps85
    go_wp2
    go_ret
    exact ⟨rfl, rfl⟩

set_option maxHeartbeats 800000 in
theorem line_yes (v : Value) (xs : List Int) (h : Int) (w : World) (B : Nat) (hv : IntsR w B v xs) (hl : lineB xs h = true) :
    Calls Tryz.prog 97 #[v, .int .i64 h] w fun e w' => e = .returned (.bool true) ∧ w' = w := by
  obtain ⟨l1, l2, l3⟩ := lineB_yes hl
  have H3 : Hid (∀ i x, xs[i]? = some x → 1 ≤ x ∧ x ≤ 9 ∧ x ≠ h ∧ hasB x (xs.take i) = false) := l3
  clear hl l3
  obtain ⟨ao, cap, rfl, h1, h2, h3, h4⟩ := hv
  by_cases hyp : h = 0
  · have hx : xs = [] := List.eq_nil_of_length_eq_zero (by
      by_cases hp : 0 < xs.length
      · exact absurd ⟨hyp, hp⟩ l2
      · exact Nat.eq_zero_of_not_pos hp)
    subst hx
    subst hyp
    clear l2 h4 H3
    simp only [List.length_nil]
    go_enter Tryz.func97, Tryz.ntmps97
    go_wp2
    go_loop [21] (fun i => i = .int .i64 0) (fun i => 0)
    case atStart => rfl
    case round =>
      subst hrel
      go_wp2
      go_ret
      exact ⟨rfl, rfl⟩
  · clear l2
    go_enter Tryz.func97, Tryz.ntmps97
    go_wp2
    go_loop [21] (fun i => ∃ k : Nat, k ≤ xs.length ∧ i = .int .i64 k) (fun i => xs.length - (intOf i).toNat)
    case atStart => exact ⟨0, Nat.zero_le _, rfl⟩
    case round =>
      obtain ⟨k, hk, rfl⟩ := hrel
      by_cases hlt : k < xs.length
      · obtain ⟨b, off, rfl, hb, hc⟩ := h4 (by omega)
        obtain ⟨y, hy⟩ : ∃ y, xs[k]? = some y := ⟨_, List.getElem?_eq_getElem hlt⟩
        have hcell := hc k y hy
        obtain ⟨y1, y2, y3, y4⟩ := H3.out k y hy
        have hkc : k ≤ cap := by omega
        have HT : Hid (IntsR w B (.slice (some ⟨b, off, none⟩) k cap) (xs.take k)) := ints_take hk h1 h2 hb hc
        have HH : Hid (hasB y (xs.take k) = false) := y4
        clear hy hc h4 y4
        go_wp2_with fail
        refine (isClient_yes y _ y1 y2).mono ?_
        rintro e w1 ⟨rfl, rfl⟩
        go_wp2_with fail
        refine (contains_any _ _ y _ B HT.out).mono ?_
        rintro e w1 ⟨rfl, rfl⟩
        rw [HH.out]
        go_wp2
        go_round
        case rel => exact ⟨k + 1, by omega, by go_num⟩
        case measure => simp [intOf]; omega
      · go_wp2
        go_ret
        exact ⟨rfl, rfl⟩

set_option maxHeartbeats 800000 in
theorem line_no (v : Value) (xs : List Int) (h : Int) (w : World) (B : Nat) (hv : IntsR w B v xs) (hl : lineB xs h = false) :
    Calls Tryz.prog 97 #[v, .int .i64 h] w fun e w' => e = .returned (.bool false) ∧ w' = w := by
  obtain ⟨ao, cap, rfl, h1, h2, h3, h4⟩ := hv
  by_cases c1 : 3 < xs.length
  · go_enter Tryz.func97, Tryz.ntmps97
    go_wp2
    go_ret
    exact ⟨rfl, rfl⟩
  · by_cases c2 : h = 0 ∧ 0 < xs.length
    · obtain ⟨c2, c3⟩ := c2
      subst c2
      go_enter Tryz.func97, Tryz.ntmps97
      go_wp2
      go_ret
      exact ⟨rfl, rfl⟩
    · obtain ⟨j, z, hz, hbad⟩ := lineB_no hl (by omega) c2
      have hjl : j < xs.length := (List.getElem?_eq_some_iff.1 hz).1
      have hh0 : ¬ h = 0 := fun e => c2 ⟨e, by omega⟩
      have HB : Hid (z < 1 ∨ 9 < z ∨ z = h ∨ hasB z (xs.take j) = true) := hbad
      have HZ : Hid (xs[j]? = some z) := hz
      clear hl c2 hbad hz
      go_enter Tryz.func97, Tryz.ntmps97
      go_wp2
      go_loop [21] (fun i => ∃ k : Nat, k ≤ j ∧ i = .int .i64 k) (fun i => xs.length - (intOf i).toNat)
      case atStart => exact ⟨0, Nat.zero_le _, rfl⟩
      case round =>
        obtain ⟨k, hk, rfl⟩ := hrel
        have hlt : k < xs.length := by omega
        obtain ⟨b, off, rfl, hb, hc⟩ := h4 (by omega)
        obtain ⟨y, hy⟩ : ∃ y, xs[k]? = some y := ⟨_, List.getElem?_eq_getElem hlt⟩
        have hcell := hc k y hy
        have hkc : k ≤ cap := by omega
        have HT : Hid (IntsR w B (.slice (some ⟨b, off, none⟩) k cap) (xs.take k)) := ints_take (by omega) h1 h2 hb hc
        have HY : Hid (xs[k]? = some y) := hy
        clear hy hc h4
        by_cases y1 : y < 1 ∨ 9 < y
        · have HC := isClient_no y w y1
          clear y1
          go_wp2_with fail
          refine HC.mono ?_
          rintro e w1 ⟨rfl, rfl⟩
          go_wp2
          go_ret
          exact ⟨rfl, rfl⟩
        · have y2 : 1 ≤ y := by omega
          have y3 : y ≤ 9 := by omega
          clear y1
          by_cases y4 : y = h
          · subst y4
            go_wp2_with fail
            refine (isClient_yes y _ y2 y3).mono ?_
            rintro e w1 ⟨rfl, rfl⟩
            go_wp2
            go_ret
            exact ⟨rfl, rfl⟩
          · cases y5 : hasB y (xs.take k) with
            | true =>
              have H5 : Hid (hasB y (xs.take k) = true) := y5
              clear y5
              go_wp2_with fail
              refine (isClient_yes y _ y2 y3).mono ?_
              rintro e w1 ⟨rfl, rfl⟩
              go_wp2_with fail
              refine (contains_any _ _ y _ B HT.out).mono ?_
              rintro e w1 ⟨rfl, rfl⟩
              rw [H5.out]
              go_wp2
              go_ret
              exact ⟨rfl, rfl⟩
            | false =>
              have hkj : k < j := by
                by_cases e : k = j
                · subst e
                  have e2 : y = z := by have := HY.out; rw [HZ.out] at this; simpa using this.symm
                  subst e2
                  rcases HB.out with q | q | q | q
                  · omega
                  · omega
                  · exact absurd q y4
                  · rw [y5] at q; cases q
                · omega
              have H5 : Hid (hasB y (xs.take k) = false) := y5
              clear y5
              go_wp2_with fail
              refine (isClient_yes y _ y2 y3).mono ?_
              rintro e w1 ⟨rfl, rfl⟩
              go_wp2_with fail
              refine (contains_any _ _ y _ B HT.out).mono ?_
              rintro e w1 ⟨rfl, rfl⟩
              rw [H5.out]
              go_wp2
              go_round
              case rel => exact ⟨k + 1, by omega, by go_num⟩
              case measure => simp [intOf]; omega

theorem line_any (v : Value) (xs : List Int) (h : Int) (w : World) (B : Nat) (hv : IntsR w B v xs) :
    Calls Tryz.prog 97 #[v, .int .i64 h] w fun e w' => e = .returned (.bool (lineB xs h)) ∧ w' = w := by
  cases hl : lineB xs h with
  | true => exact line_yes v xs h w B hv hl
  | false => exact line_no v xs h w B hv hl

end Go.Proofs.YtpcacaohknkdlahGreatDoor

namespace Go.Proofs.YtpcacaohknkdlahGreatDoor

open Go.RowKit

theorem formB_name {x : LockD} (h : nameB x.name = false) : formB x = false := by simp [formB, h]

theorem formB_holder {x : LockD} (h : x.holder < 0 ∨ 9 < x.holder) : formB x = false := by
  have : decide (0 ≤ x.holder ∧ x.holder ≤ 9) = false := decide_eq_false (by omega)
  simp [formB, this]

theorem formB_line {x : LockD} (hn : nameB x.name = true) (h1 : 0 ≤ x.holder) (h2 : x.holder ≤ 9) : formB x = lineB x.line x.holder := by
  have : decide (0 ≤ x.holder ∧ x.holder ≤ 9) = true := decide_eq_true (by omega)
  simp [formB, hn, this]

set_option maxHeartbeats 800000 in
theorem inForm_any (nm : ByteArray) (hd fe : Int) (line : List Int) (lv : Value) (w : World) (B : Nat) (hl : IntsR w B lv line) (hB : B ≤ w.heap.size) (hs : nm.size ≤ 140737488351232) :
    Calls Tryz.prog 65 #[.agg #[.string nm, .int .i64 hd, .int .i64 fe, lv]] w fun e w' => e = .returned (.bool (formB ⟨nm, hd, fe, line⟩)) ∧ Below w.heap.size w w' := by
  have HL : Hid (∀ w', Below w.heap.size w w' → IntsR w' B lv line) := fun w' hb => hl.below hb hB
  obtain ⟨ao, cap, rfl, h1, h2, h3, h4⟩ := hl
  clear h4
  cases hn : nameB nm with
  | false =>
    rw [formB_name (x := ⟨nm, hd, fe, line⟩) hn]
    go_enter Tryz.func65, Tryz.ntmps65
    go_wp2_with fail
    refine (name_any nm _ (by omega)).mono ?_
    rintro e w1 ⟨rfl, rfl⟩
    rw [hn]
    go_wp2
    go_ret
    exact ⟨rfl, (Below.refl _ _).alloc (Nat.le_refl _) _⟩
  | true =>
    by_cases hr : hd < 0 ∨ 9 < hd
    · rw [formB_holder (x := ⟨nm, hd, fe, line⟩) hr]
      have h0 : ¬ hd = 0 := by omega
      have HC := fun w => isClient_no hd w (by omega)
      clear hr
      go_enter Tryz.func65, Tryz.ntmps65
      go_wp2_with fail
      refine (name_any nm _ (by omega)).mono ?_
      rintro e w1 ⟨rfl, rfl⟩
      rw [hn]
      go_wp2_with fail
      refine (HC _).mono ?_
      rintro e w1 ⟨rfl, rfl⟩
      go_wp2
      go_ret
      exact ⟨rfl, (Below.refl _ _).alloc (Nat.le_refl _) _⟩
    · rw [formB_line (x := ⟨nm, hd, fe, line⟩) hn (by simp; omega) (by simp; omega)]
      by_cases h0 : hd = 0
      · subst h0
        clear hr
        go_enter Tryz.func65, Tryz.ntmps65
        go_wp2_with fail
        refine (name_any nm _ (by omega)).mono ?_
        rintro e w1 ⟨rfl, rfl⟩
        rw [hn]
        go_wp2_with fail
        refine (line_any _ line 0 _ B (HL.out _ ((Below.refl _ _).alloc (Nat.le_refl _) _))).mono ?_
        rintro e w1 ⟨rfl, rfl⟩
        go_wp2
        go_ret
        exact ⟨rfl, (Below.refl _ _).alloc (Nat.le_refl _) _⟩
      · have h5 : 1 ≤ hd := by omega
        have h6 : hd ≤ 9 := by omega
        clear hr
        go_enter Tryz.func65, Tryz.ntmps65
        go_wp2_with fail
        refine (name_any nm _ (by omega)).mono ?_
        rintro e w1 ⟨rfl, rfl⟩
        rw [hn]
        go_wp2_with fail
        refine (isClient_yes hd _ h5 h6).mono ?_
        rintro e w1 ⟨rfl, rfl⟩
        go_wp2_with fail
        refine (line_any _ line hd _ B (HL.out _ ((Below.refl _ _).alloc (Nat.le_refl _) _))).mono ?_
        rintro e w1 ⟨rfl, rfl⟩
        go_wp2
        go_ret
        exact ⟨rfl, (Below.refl _ _).alloc (Nat.le_refl _) _⟩

end Go.Proofs.YtpcacaohknkdlahGreatDoor

namespace Go.Proofs.YtpcacaohknkdlahGreatDoor

open Go.RowKit

theorem drop_cons {α : Type} {l : List α} {k : Nat} {x : α} (h : l[k]? = some x) : l.drop k = x :: l.drop (k + 1) := by
  obtain ⟨hk, he⟩ := List.getElem?_eq_some_iff.1 h
  rw [List.drop_eq_getElem_cons hk, he]

theorem ret_i64 {a b : Int} (h : a = b) : Ending.returned (.int .i64 a) = .returned (.int .i64 b) := by rw [h]

theorem bcell {W w1 : World} (hb : Below W.heap.size W w1) : (∀ b o, b < W.heap.size → w1.cell? ⟨b, o, none⟩ = W.cell? ⟨b, o, none⟩) ∧ (∀ b o, b < W.heap.size → w1.frozen? ⟨b, o, none⟩ = W.frozen? ⟨b, o, none⟩) :=
  ⟨fun b o h => hb.cell (p := ⟨b, o, none⟩) h, fun b o h => hb.frozen (p := ⟨b, o, none⟩) h⟩

set_option maxHeartbeats 1600000 in
theorem check_any (v : Value) (ls : List LockD) (w : World) (B : Nat) (hv : LocksR w B v ls) (hB : B ≤ w.heap.size) :
    Calls Tryz.prog 29 #[v] w fun e w' => e = .returned (.int .i64 (checkL ls)) ∧ Below w.heap.size w w' := by
  obtain ⟨ao, cap, rfl, h1, h2, h3, h4⟩ := hv
  by_cases c1 : 5 < ls.length
  · have e1 : checkL ls = 1 := by simp [checkL, c1]
    rw [e1]
    clear e1
    go_enter Tryz.func29, Tryz.ntmps29
    go_wp2
    go_ret
    exact ⟨rfl, Below.refl _ _⟩
  · have e1 : checkL ls = checkFrom ⟨#[]⟩ ls := by simp [checkL, c1]
    rw [e1]
    clear e1
    go_enter Tryz.func29, Tryz.ntmps29
    go_wp2
    go_loopw [3, 11] (fun p i wr => ∃ (k : Nat) (nm : ByteArray), k ≤ ls.length ∧ i = .int .i64 k ∧ p = .string nm ∧ checkFrom nm (ls.drop k) = checkFrom ⟨#[]⟩ ls ∧ Below w.heap.size w wr)
      (fun _ i _ => ls.length - (intOf i).toNat)
    case atStart => exact ⟨0, ⟨#[]⟩, Nat.zero_le _, rfl, rfl, by simp, Below.refl _ _⟩
    case round =>
      obtain ⟨k, nm, hk, rfl, rfl, heq, hb⟩ := hrel
      have HE : Hid (checkFrom nm (ls.drop k) = checkFrom ⟨#[]⟩ ls) := heq
      clear heq
      by_cases hlt : k < ls.length
      · obtain ⟨b, off, rfl, hbB, hc⟩ := h4 (by omega)
        obtain ⟨x, hx⟩ : ∃ x, ls[k]? = some x := ⟨_, List.getElem?_eq_getElem hlt⟩
        have HX : Hid (ls.drop k = x :: ls.drop (k + 1)) := drop_cons hx
        obtain ⟨lv, c0, c1, c2, c3, hl, hs⟩ := (hc k x hx).below hbB hb hB
        have HL : Hid (∀ w', Below wr.heap.size wr w' → IntsR w' B lv x.line) := fun w' h => hl.below h (by have := hb.size; omega)
        obtain ⟨lo, lc, rfl, hl1, hl2, -⟩ := hl
        have hsz := hb.size
        clear hx hc h4
        obtain ⟨xn, xh, xf, xl⟩ := x
        simp only at c0 c1 c2 c3 hs HL hl1 hl2
        have HF : Hid (checkFrom nm (ls.drop k) = if formB ⟨xn, xh, xf, xl⟩ = false then 4 else if xf < 1 ∨ 1073741824 < xf then 2 else if leN xn nm = true then 14 else checkFrom xn (ls.drop (k + 1))) := by
          unfold Hid; rw [HX.out]; rfl
        clear HX
        go_wp2_with fail
        refine (inForm_any xn xh xf xl _ _ B (HL.out _ ((Below.refl _ _).alloc (Nat.le_refl _) _)) (by simp; omega) hs).mono ?_
        rintro e w1 ⟨rfl, hb1⟩
        have hb2 : Below w.heap.size w w1 := (hb.alloc hb.size _).trans (hb1.mono (by simp; omega))
        obtain ⟨hcc, hff⟩ := bcell hb1
        have hsz1 := hb1.size
        cases hform : formB ⟨xn, xh, xf, xl⟩ with
        | false =>
          rw [hform] at HF
          clear hb1
          go_wp2
          go_ret
          exact ⟨ret_i64 (by rw [← HE.out, HF.out]; rfl), hb2⟩
        | true =>
          rw [hform] at HF
          clear hb1
          by_cases f1 : xf < 1
          · go_wp2
            go_ret
            exact ⟨ret_i64 (by rw [← HE.out, HF.out]; simp [f1]), hb2⟩
          · by_cases f2 : 1073741824 < xf
            · go_wp2
              go_ret
              exact ⟨ret_i64 (by rw [← HE.out, HF.out]; simp [f2]), hb2⟩
            · have HF2 : Hid (checkFrom nm (ls.drop k) = if leN xn nm = true then 14 else checkFrom xn (ls.drop (k + 1))) := by
                unfold Hid; rw [HF.out, if_neg (by simp), if_neg (by omega)]
              clear HF
              cases hle : leN xn nm with
              | true =>
                rw [hle] at HF2
                have hle2 : (Op.bytesLess xn.toList nm.toList || xn.toList == nm.toList) = true := hle
                clear hle
                go_wp2
                go_ret
                exact ⟨ret_i64 (by rw [← HE.out, HF2.out]; rfl), hb2⟩
              | false =>
                rw [hle] at HF2
                have hle2 : (Op.bytesLess xn.toList nm.toList || xn.toList == nm.toList) = false := hle
                clear hle
                go_wp2
                go_roundw
                case rel => exact ⟨k + 1, xn, by omega, by go_num, rfl, by rw [← HE.out, HF2.out]; rfl, hb2⟩
                case measure => simp [intOf]; omega
      · go_wp2
        go_ret
        exact ⟨ret_i64 (by rw [← HE.out, List.drop_of_length_le (by omega)]; rfl), hb⟩

end Go.Proofs.YtpcacaohknkdlahGreatDoor
